/- What switchyardlaw01.awake answers: true. -/
import Derived.Test.YtmhdiicljnjmcaaHex
namespace Go.Proofs.Ytmhdiicljnjmcaa
open Go.RowKit

theorem Own.lit (w : World) (xs : List Int) (hm : xs.length ≤ maxLen) : Own (w.alloc (.cells (byts xs).toArray 5)) w.heap.size w.heap.size xs.length xs :=
  Own.mk (Nat.le_refl _) (heap_alloc_new w _) (Nat.le_refl _) hm (by simp) (by rw [List.take_of_length_le (by simp)])

theorem byt_of (xs : List Int) (h : (xs.all fun x => decide (0 ≤ x ∧ x ≤ 255)) = true) : Byt xs := fun i => by
  simp only [List.all_eq_true, decide_eq_true_eq] at h
  by_cases hi : i < xs.length
  · have := h xs[i] (List.getElem_mem hi)
    simpa [List.getD, hi] using this
  · simp [List.getD, List.getElem?_eq_none (show xs.length ≤ i by omega)]

set_option maxHeartbeats 400000 in
theorem awake_any (w : World) :
    Calls Try.prog 15 #[] w fun e w' => e = .returned (.bool true) ∧ Below w.heap.size w w' := by
  go_enter Try.func15, Try.ntmps15
  go_wp2_with fail
  refine (u32_yes _ 4 4 0 [1, 0, 0, 128] _ rfl (by decide) (Own.lit w [1, 0, 0, 128] (by decide)).row (byt_of _ (by decide)) (by decide) (by decide)).mono ?_
  rw [show n4 [1, 0, 0, 128] (0 : Int).toNat = 2147483649 from by decide]
  rintro e w1 ⟨rfl, hw1⟩
  have hb1 : Below w.heap.size w w1 := by rw [hw1]; exact new_alloc _ _
  clear hw1
  go_wp2_with fail
  refine (put32_ex _ 5 5 0 258 [0, 0, 0, 0, 9] _ rfl (by decide) (Own.lit w1 [0, 0, 0, 0, 9] (by decide)).row (by decide) (by decide) (by decide)).mono ?_
  rw [show putL [0, 0, 0, 0, 9] (0 : Int).toNat 258 = [2, 1, 0, 0, 9] from by decide]
  rintro e w2 ⟨g, rfl, ho, hb⟩
  have hb2 := below_step (below_alloc hb1 _) hb
  clear hb hb1
  go_wp2_with fail
  refine (sameBytes_any _ _ 5 5 5 5 [2, 1, 0, 0, 9] [2, 1, 0, 0, 9] _ rfl rfl (by decide) (ho.below (new_alloc _ _)).row (Own.lit w2 [2, 1, 0, 0, 9] (by decide)).row).mono ?_
  rw [sameB_self]
  rintro e w3 ⟨rfl, m, hw3⟩
  have hb3 : Below w.heap.size w w3 := by rw [hw3]; exact below_draws (below_alloc hb2 _) _
  clear hw3 ho hb2
  go_wp2_with fail
  refine (hex_any _ 3 3 [0, 255, 160] _ rfl (by decide) (Own.lit w3 [0, 255, 160] (by decide)).row (byt_of _ (by decide))).mono ?_
  rintro e w4 ⟨rfl, hb⟩
  have hb4 := below_step (below_alloc hb3 _) hb
  have hs : ((strOfNums (hexL [0, 255, 160])).toList == [48, 48, 102, 102, 97, 48]) = true := by rw [Lib.toList_data, strOfNums_data]; decide
  clear hb hb3
  go_wp2
  go_ret
  exact ⟨rfl, hb4⟩

end Go.Proofs.Ytmhdiicljnjmcaa
