/- What memory.copied answers, for every slice of bytes. -/
import Derived.Test.YtekggimgobeggaaLent
import Derived.Laws.CopyOwn
namespace Go.Proofs.Ytekggimgobeggaa
open Go.RowKit

theorem one_byts (xs : List Int) : ∀ v ∈ byts xs, v.oneCell' = true := fun u hu => by
  simp only [byts, List.mem_map] at hu
  obtain ⟨z, _, rfl⟩ := hu
  rfl

theorem Row.src {w : World} {p : Option Addr} {xs : List Int} (h : Row w p xs) (h0 : 0 < xs.length) : ∃ ad, p = some ad ∧ ∀ j v, (byts xs)[j]? = some v → w.cell? (ad.add j) = some v := by
  obtain ⟨b, o, rfl, hc⟩ := h h0
  refine ⟨_, rfl, fun j v hj => ?_⟩
  have hjl : j < xs.length := by
    rcases Nat.lt_or_ge j xs.length with h | h
    · exact h
    · rw [List.getElem?_eq_none (by simpa using h)] at hj; cases hj
  rw [getD_byts xs j hjl] at hj
  rw [← hj, ← hc j hjl, Go.WideShapes.add_plain]

theorem splice_all (cur cs : List Value) (h : cs.length = cur.length) : splice cur 0 cs = cs := by
  simp [splice, h]

theorem Own.block {w : World} {B g n : Nat} {xs : List Int} (h : Own w B g n xs) (hn : xs.length = n) : w.heap[g]? = some (.cells (byts xs).toArray 5 (0, 0)) := by
  subst hn
  exact h.whole

set_option maxHeartbeats 400000 in
theorem copied_any (p : Option Addr) (n c : Nat) (xs : List Int) (w : World) (hx : xs.length = n) (hn : n ≤ 140737488355328) (hr : Row w p xs) :
    Calls Try.prog 51 #[.slice p n c] w fun e w' => ∃ g, e = .returned (.slice (some ⟨g, 0, none⟩) n n) ∧ Own w' w.heap.size g n xs ∧ Below w.heap.size w w' := by
  obtain ⟨i0, hi, hz0, hz1, hz2⟩ := info_parts Try.info5
  subst hx
  go_enter Try.func51, Try.ntmps51
  go_wp2_with (first
    | (at_make; refine wpList_make_full _ rfl _ _ 54 rfl _ 5 i0 (.int .u8 0) 1 Try.underlying54 hi hz0 hz1 _ _ _ _ xs.length rfl rfl rfl rfl (by rw [hz2]; omega) (by unfold maxLen; omega) (Nat.le_refl _) ?_; intro w1 hown hgrow; have hb1 := (Below.refl w.heap.size w).grown hgrow (Nat.le_refl _) (by simp); have hr1 := hr.below hb1; have HO : Hid (Own w1 w.heap.size w.heap.size xs.length (List.replicate xs.length 0)) := Own.of_made hown; clear hown hgrow hr)
    | (have hw := HO.out.block (List.length_replicate ..); refine wpList_copy_splice rfl _ _ 54 54 rfl 5 Try.underlying54 Try.size5 _ _ _ _ _ _ rfl rfl w.heap.size 0 _ 5 hw (byts xs) (by simp) (fun h0 => ⟨rfl, hr1.src (by simpa using h0)⟩) (by simp) (one_byts xs) w.heap.size w hb1 (Nat.le_refl _) ?_; intro w2 hw2 hb2; rw [splice_all _ _ (by simp)] at hw2; have HW : Hid (w2.heap[w.heap.size]? = some (.cells (byts xs).toArray 5 (0, 0))) := hw2; clear hw hw2 HO hb1 hr1))
  go_ret
  exact ⟨_, rfl, Own.mk (Nat.le_refl _) HW.out (Nat.le_refl _) (by unfold maxLen; omega) (by simp) (by rw [List.take_of_length_le (by simp)]), hb2⟩

end Go.Proofs.Ytekggimgobeggaa
