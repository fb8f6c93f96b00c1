/- What the law OctetsNumbers answers: true. -/
import Derived.Test.YtmhdiicljnjmcaaAwake
import Derived.Test.YtmhdiicljnjmcaaUnhex
namespace Go.Proofs.Ytmhdiicljnjmcaa
open Go.RowKit

def bad7 : List ByteArray := [⟨#[48]⟩, ⟨#[48, 103]⟩, ⟨#[70, 70]⟩, ⟨#[103, 48]⟩, ⟨#[48, 48, 48]⟩, ⟨#[32, 48]⟩, ⟨#[48, 10]⟩]
def badAt (k : Nat) : ByteArray := bad7.getD k ByteArray.empty
theorem badAt_size : ∀ k, k < 7 → (badAt k).size ≤ 281474976710656 := by decide
theorem badAt_bad (k : Nat) (h : k < 7) : ¬ Good (codes (badAt k)) := by
  match k, h with
  | 0, _ => exact fun g => absurd g.1 (by decide)
  | 1, _ => exact fun g => absurd (g.2 1 (by decide)) (by decide)
  | 2, _ => exact fun g => absurd (g.2 0 (by decide)) (by decide)
  | 3, _ => exact fun g => absurd (g.2 0 (by decide)) (by decide)
  | 4, _ => exact fun g => absurd g.1 (by decide)
  | 5, _ => exact fun g => absurd (g.2 0 (by decide)) (by decide)
  | 6, _ => exact fun g => absurd (g.2 1 (by decide)) (by decide)
  | n + 7, h => exact absurd h (by omega)
theorem badAt_cell {w : World} {K : Nat} (h : w.heap[K]? = some (.cells (bad7.map Value.string).toArray 9 (0, 0))) (k : Nat) (hk : k < 7) : w.cell? ⟨K, k, none⟩ = some (.string (badAt k)) := by
  rw [cell_of_row w K k _ 9 (0, 0) h]
  match k, hk with
  | 0, _ => rfl
  | 1, _ => rfl
  | 2, _ => rfl
  | 3, _ => rfl
  | 4, _ => rfl
  | 5, _ => rfl
  | 6, _ => rfl
  | n + 7, h => exact absurd h (by omega)

set_option maxHeartbeats 1000000 in
theorem lawNumbers_any (w : World) :
    Calls Try.prog 3 #[] w fun e w' => e = .returned (.bool true) ∧ Below w.heap.size w w' := by
  go_enter Try.func3, Try.ntmps3
  go_wp2_with fail
  refine (u16_yes _ 2 2 0 [1, 2] _ rfl (by decide) (Own.lit w [1, 2] (by decide)).row (byt_of _ (by decide)) (by decide) (by decide)).mono ?_
  rw [show n2 [1, 2] (0 : Int).toNat = 513 from by decide]
  rintro e w1 ⟨rfl, hw1⟩
  have hb1 : Below w.heap.size w w1 := by rw [hw1]; exact new_alloc _ _
  clear hw1
  go_wp2_with fail
  refine (i32_yes _ 4 4 0 [1, 0, 0, 128] _ rfl (by decide) (Own.lit w1 [1, 0, 0, 128] (by decide)).row (byt_of _ (by decide)) (by decide) (by decide)).mono ?_
  rw [show wrap32 (n4 [1, 0, 0, 128] (0 : Int).toNat) = -2147483647 from by unfold wrap32; decide]
  rintro e w2 ⟨rfl, hw2⟩
  have hb2 : Below w.heap.size w w2 := by rw [hw2]; exact below_alloc hb1 _
  clear hw2 hb1
  go_wp2_with fail
  refine wp_loop_rounds 6 ?_
  rw [rounds_succ]
  go_wp2_with (first | (go_at_call 11; refine (u32_no _ 4 4 _ _ (by decide) (by decide)).mono ?_; rintro e w' ⟨rfl, rfl⟩) | (go_at_call 10; refine (i32_no _ 4 4 _ _ (by decide) (by decide)).mono ?_; rintro e w' ⟨rfl, rfl⟩) | (go_at_call 12; refine (put32_no _ 4 4 _ _ _ (by decide) (by decide)).mono ?_; rintro e w' ⟨rfl, rfl⟩))
  rw [rounds_succ]
  go_wp2_with (first | (go_at_call 11; refine (u32_no _ 4 4 _ _ (by decide) (by decide)).mono ?_; rintro e w' ⟨rfl, rfl⟩) | (go_at_call 10; refine (i32_no _ 4 4 _ _ (by decide) (by decide)).mono ?_; rintro e w' ⟨rfl, rfl⟩) | (go_at_call 12; refine (put32_no _ 4 4 _ _ _ (by decide) (by decide)).mono ?_; rintro e w' ⟨rfl, rfl⟩))
  rw [rounds_succ]
  go_wp2_with (first | (go_at_call 11; refine (u32_no _ 4 4 _ _ (by decide) (by decide)).mono ?_; rintro e w' ⟨rfl, rfl⟩) | (go_at_call 10; refine (i32_no _ 4 4 _ _ (by decide) (by decide)).mono ?_; rintro e w' ⟨rfl, rfl⟩) | (go_at_call 12; refine (put32_no _ 4 4 _ _ _ (by decide) (by decide)).mono ?_; rintro e w' ⟨rfl, rfl⟩))
  rw [rounds_succ]
  go_wp2_with (first | (go_at_call 11; refine (u32_no _ 4 4 _ _ (by decide) (by decide)).mono ?_; rintro e w' ⟨rfl, rfl⟩) | (go_at_call 10; refine (i32_no _ 4 4 _ _ (by decide) (by decide)).mono ?_; rintro e w' ⟨rfl, rfl⟩) | (go_at_call 12; refine (put32_no _ 4 4 _ _ _ (by decide) (by decide)).mono ?_; rintro e w' ⟨rfl, rfl⟩))
  rw [rounds_succ]
  go_wp2_with (first | (go_at_call 11; refine (u32_no _ 4 4 _ _ (by decide) (by decide)).mono ?_; rintro e w' ⟨rfl, rfl⟩) | (go_at_call 10; refine (i32_no _ 4 4 _ _ (by decide) (by decide)).mono ?_; rintro e w' ⟨rfl, rfl⟩) | (go_at_call 12; refine (put32_no _ 4 4 _ _ _ (by decide) (by decide)).mono ?_; rintro e w' ⟨rfl, rfl⟩))
  rw [rounds_succ]
  go_wp2_with fail
  refine (u32_no _ 3 4 _ _ (by decide) (by decide)).mono ?_
  rintro e w3 ⟨rfl, rfl⟩
  go_wp2_with fail
  refine (u16_no _ 0 0 _ _ (by decide) (by decide)).mono ?_
  rintro e w3 ⟨rfl, rfl⟩
  go_wp2_with fail
  refine (unhex_yes _ _ (by decide) ⟨rfl, fun j hj => absurd hj (Nat.not_lt_zero _)⟩).mono ?_
  rintro e w3 ⟨g, rfl, ho3, hb3⟩
  have hb4 := below_step (below_alloc (below_alloc hb2 _) _) hb3
  clear hb2 hb3 ho3
  go_wp2_with fail
  have HI : Hid ((w3.alloc (.cells (bad7.map Value.string).toArray 9)).heap[w3.heap.size]? = some (.cells (bad7.map Value.string).toArray 9 (0, 0))) := heap_alloc_new w3 _
  have hb5 : Below w.heap.size w (w3.alloc (.cells (bad7.map Value.string).toArray 9)) := below_alloc hb4 _
  clear hb4
  go_loopw [111] (fun i wr => ∃ k : Nat, k ≤ 7 ∧ i = .int .i64 k ∧ Below w.heap.size w wr ∧ Hid (wr.heap[w3.heap.size]? = some (.cells (bad7.map Value.string).toArray 9 (0, 0)))) (fun i _ => 7 - (intOf i).toNat)
  case atStart => exact ⟨0, by decide, rfl, hb5, HI⟩
  case round =>
    obtain ⟨k, hk, rfl, hbk, HK⟩ := hrel
    clear HI hb5
    by_cases hlt : k < 7
    · have c1 := badAt_cell HK.out k hlt
      have hlt3 : w3.heap.size < wr.heap.size := cell_lt c1
      have HC : Hid (∀ wx, Calls Try.prog 13 #[.string (badAt k)] wx fun e w' => e = .returned (.tuple #[.slice none 0 0, .bool false]) ∧ Below wx.heap.size wx w') := fun wx => unhex_no _ wx (badAt_size k hlt) (badAt_bad k hlt)
      generalize badAt k = s at *
      go_wp2_with fail
      refine (HC.out _).mono ?_
      rintro e w4 ⟨rfl, hb⟩
      have hb6 := below_step hbk hb
      have HK2 : Hid (w4.heap[w3.heap.size]? = some (.cells (bad7.map Value.string).toArray 9 (0, 0))) := (hb.block _ hlt3).trans HK.out
      clear hb hbk HK HC c1
      go_wp2
      go_roundw
      case rel => exact ⟨k + 1, by omega, by go_num, hb6, HK2⟩
      case measure => simp [intOf]; omega
    · clear HK
      go_wp2_with fail
      refine (same_any _ _ 0 0 0 0 [] [] _ rfl rfl (fun h => absurd h (Nat.lt_irrefl 0)) (fun h => absurd h (Nat.lt_irrefl 0)) (byt_of _ (by decide)) (byt_of _ (by decide))).mono ?_
      rw [sameB_self]
      rintro e w4 ⟨rfl, hw4⟩
      have hb6 : Below w.heap.size w w4 := by rw [hw4]; exact below_alloc hbk _
      clear hw4 hbk
      go_wp2_with fail
      refine (same_any _ _ 1 1 2 2 [1] [1, 0] _ rfl rfl ((Own.lit w4 [1] (by decide)).below (new_alloc _ _)).row (by simpa using (Own.lit (w4.alloc (.cells (byts [1]).toArray 5)) [1, 0] (by decide)).row) (byt_of _ (by decide)) (byt_of _ (by decide))).mono ?_
      rw [show sameB [1] [1, 0] = false from by decide]
      rintro e w5 ⟨rfl, hw5⟩
      have hb7 : Below w.heap.size w w5 := by rw [hw5]; exact below_alloc (below_alloc hb6 _) _
      clear hw5 hb6
      go_wp2_with fail
      refine (awake_any _).mono ?_
      rintro e w6 ⟨rfl, hb8⟩
      go_wp2
      go_ret
      exact ⟨rfl, below_step hb7 hb8⟩
end Go.Proofs.Ytmhdiicljnjmcaa
