/- What memory's Granule answers, for every memory that a call has made. -/
import Derived.Test.YtnpaijbkhmnfpaaGreatMem2
import Derived.Deep.RegionHeld3
import Derived.BigQuiet
namespace Go.Proofs.YtnpaijbkhmnfpaaGreat
open Go.RowKit

/-- four bytes as a value -/
def fourV (a b c d : Int) : Value := .agg #[.int .u8 a, .int .u8 b, .int .u8 c, .int .u8 d]
/-- what a granule holds -/
def granV (xs : List Int) (k : Nat) : Value := fourV (xs.getD (4 * k) 0) (xs.getD (4 * k + 1) 0) (xs.getD (4 * k + 2) 0) (xs.getD (4 * k + 3) 0)

set_option maxHeartbeats 400000 in
theorem gran_bad (q g B : Nat) (k : Int) (xs : List Int) (w : World) (hm : Mem w B q g xs) (h : k < 0 ∨ 16384 ≤ k) :
    Calls Tryz.prog 129 #[.pointer (some ⟨q, 0, none⟩), .int .i64 k] w fun e w' => e = .returned (.tuple #[fourV 0 0 0 0, .int .i64 2]) ∧ Below w.heap.size w w' := by
  have hc := none_no q _ (hm.below (new_alloc w (.cells #[.int .u8 0, .int .u8 0, .int .u8 0, .int .u8 0] 92))).c0
  clear hm
  rcases (by omega : k < 0 ∨ (0 ≤ k ∧ 16384 ≤ k)) with h | ⟨h', h⟩
  · have g0 : decide (k < 0) = true := by simpa using h
    go_enter Tryz.func129, Tryz.ntmps129
    go_wp2_with (go_at_call 61; refine hc.mono ?_; rintro e w1 ⟨rfl, rfl⟩)
    exact bodyPost_ret (v := .tuple #[fourV 0 0 0 0, .int .i64 2]) (by simp [results, Tryz.results129, go_sem, fourV]) rfl ⟨rfl, new_alloc _ _⟩
  · have g0 : decide (k < 0) = false := by simpa using h'
    have g1 : decide (16384 ≤ k) = true := by simpa using h
    go_enter Tryz.func129, Tryz.ntmps129
    go_wp2_with (go_at_call 61; refine hc.mono ?_; rintro e w1 ⟨rfl, rfl⟩)
    exact bodyPost_ret (v := .tuple #[fourV 0 0 0 0, .int .i64 2]) (by simp [results, Tryz.results129, go_sem, fourV]) rfl ⟨rfl, new_alloc _ _⟩

def zero4 : List Value := [.int .u8 0, .int .u8 0, .int .u8 0, .int .u8 0]

theorem splice_four (xs : List Int) (m : Nat) : splice zero4 0 (byts ((xs.drop m).take 4)) = [.int .u8 (xs.getD m 0), .int .u8 (xs.getD (m + 1) 0), .int .u8 (xs.getD (m + 2) 0), .int .u8 (xs.getD (m + 3) 0)] := by
  have e : ∀ i, xs.getD (m + i) 0 = (xs.drop m).getD i 0 := fun i => by simp [List.getD, List.getElem?_drop]
  have e0 := e 0
  rw [Nat.add_zero] at e0
  rw [e0, e 1, e 2, e 3]
  generalize xs.drop m = ys
  rcases ys with _ | ⟨a, _ | ⟨b, _ | ⟨c, _ | ⟨d, ys⟩⟩⟩⟩ <;> simp [splice, zero4, byts]

set_option maxHeartbeats 1000000 in
theorem gran_in (q g B k : Nat) (xs : List Int) (w : World) (hm : Mem w B q g xs) (h : k < 16384) (hin : 4 * k < xs.length) :
    Calls Tryz.prog 129 #[.pointer (some ⟨q, 0, none⟩), .int .i64 k] w fun e w' => e = .returned (.tuple #[granV xs k, .int .i64 0]) ∧ Below w.heap.size w w' := by
  have hm1 := hm.below (new_alloc w (.cells #[.int .u8 0, .int .u8 0, .int .u8 0, .int .u8 0] 92))
  have hc := none_no q _ hm1.c0
  have hm2 := hm1.below (new_alloc _ (.cells #[.int .u8 0, .int .u8 0, .int .u8 0, .int .u8 0] 92))
  have c2 := hm2.c1
  have hs0 := new_alloc w (.cells #[.int .u8 0, .int .u8 0, .int .u8 0, .int .u8 0] 92)
  have HB := Hid.in (below_alloc hs0 (.cells #[.int .u8 0, .int .u8 0, .int .u8 0, .int .u8 0] 92))
  have HZ := Hid.in (heap_alloc_new (w.alloc (.cells #[.int .u8 0, .int .u8 0, .int .u8 0, .int .u8 0] 92)) (.cells #[.int .u8 0, .int .u8 0, .int .u8 0, .int .u8 0] 92))
  rw [size_one] at HZ
  have HZ0 : Hid (((w.alloc (.cells #[.int .u8 0, .int .u8 0, .int .u8 0, .int .u8 0] 92)).alloc (.cells #[.int .u8 0, .int .u8 0, .int .u8 0, .int .u8 0] 92)).heap[w.heap.size]? = some (.cells #[.int .u8 0, .int .u8 0, .int .u8 0, .int .u8 0] 92)) := (by
    have := (new_alloc (w.alloc (.cells #[.int .u8 0, .int .u8 0, .int .u8 0, .int .u8 0] 92)) (.cells #[.int .u8 0, .int .u8 0, .int .u8 0, .int .u8 0] 92)).block w.heap.size (by rw [size_one]; omega)
    exact this.trans (heap_alloc_new _ _))
  have g0 : decide ((k : Int) < 0) = false := decide_eq_false (by omega)
  have g1 : decide (16384 ≤ (k : Int)) = false := decide_eq_false (by omega)
  have hwr : IntKind.i64.wrap (4 * (k : Int)) = ((4 * k : Nat) : Int) := by rw [IntKind.wrap_i64]; omega
  have HR := Hid.in (hm2.own.row.cut (4 * k) (min 4 (xs.length - 4 * k)) (by omega))
  clear hm1 hm hs0 hm2
  unfold granV
  obtain ⟨m, hmk⟩ : ∃ m, m = 4 * k := ⟨_, rfl⟩
  rw [← hmk] at hin hwr HR ⊢
  clear hmk
  obtain ⟨z0, E0⟩ : ∃ z, xs.getD m 0 = z := ⟨_, rfl⟩
  obtain ⟨z1, E1⟩ : ∃ z, xs.getD (m + 1) 0 = z := ⟨_, rfl⟩
  obtain ⟨z2, E2⟩ : ∃ z, xs.getD (m + 2) 0 = z := ⟨_, rfl⟩
  obtain ⟨z3, E3⟩ : ∃ z, xs.getD (m + 3) 0 = z := ⟨_, rfl⟩
  rw [E0, E1, E2, E3]
  have hsp := splice_four xs m
  rw [E0, E1, E2, E3] at hsp
  have HSP := Hid.in hsp
  clear hsp E0 E1 E2 E3
  go_enter Tryz.func129, Tryz.ntmps129
  go_wp2_with (go_at_call 61; refine hc.mono ?_; rintro e w1 ⟨rfl, rfl⟩)
  generalize hw2 : (w.alloc (.cells #[.int .u8 0, .int .u8 0, .int .u8 0, .int .u8 0] 92)).alloc (.cells #[.int .u8 0, .int .u8 0, .int .u8 0, .int .u8 0] 92) = w2 at *
  clear hw2 hc
  have hnl : ¬ xs.length < m := by omega
  have hne : ¬ xs.length = m := by omega
  have hle : m ≤ xs.length := by omega
  have hcl : (byts ((xs.drop m).take 4)).length = Nat.min (xs.length - m) 4 := by simp [List.length_take, Nat.min_comm]
  have hsrc : ∀ j v, (byts ((xs.drop m).take 4))[j]? = some v → w2.cell? ((⟨g, m, none⟩ : Addr).add j) = some v := by
    intro j v hj
    have e : (xs.drop m).take (min 4 (xs.length - m)) = (xs.drop m).take 4 := by
      rw [← List.take_take, List.take_of_length_le (l := xs.drop m) (by simp)]
    have hr := HR.out
    rw [e, Nat.zero_add] at hr
    have hp : 0 < ((xs.drop m).take 4).length := by
      have := hcl
      rw [List.length_map] at this
      rw [this]
      exact Nat.lt_min.2 ⟨by omega, by omega⟩
    obtain ⟨ad, e1, h1⟩ := hr.src hp
    cases e1
    exact h1 j v hj
  clear HR
  go_region_law (refine step_copy_splice (by rfl) _ _ 26 26 (by rfl) 5 Tryz.underlying26 Tryz.size5 _ _ _ _ _ _ (by rfl) (by rfl) (w.heap.size + 1) 0 zero4 92 HZ.out (byts ((xs.drop m).take 4)) hcl (fun _ => ⟨rfl, ⟨g, m, none⟩, rfl, hsrc⟩) (by rw [hcl]; exact Nat.le_trans (by rw [Nat.zero_add]; exact Nat.min_le_right _ _) (Nat.le_refl 4)) (one_byts _) (w.heap.size + 1) w2 (below_drewN (Below.refl (w.heap.size + 1) w2) 1) (Nat.le_refl _) ?_; intro w3 HW3 HB3; rw [HSP.out] at HW3)
  all_goals
    have HZ3 := Hid.in ((HB3.block w.heap.size (by omega)).trans HZ0.out)
    have HBB := Hid.in (HB.out.trans (HB3.mono (by omega)))
    clear HZ HZ0 HB3 hsrc hcl HB
    have d0 : w3.cell? ⟨w.heap.size + 1, 0, none⟩ = some (.int .u8 z0) := by simp [World.cell?, HW3.out]
    have d1 : w3.cell? ⟨w.heap.size + 1, 1, none⟩ = some (.int .u8 z1) := by simp [World.cell?, HW3.out]
    have d2 : w3.cell? ⟨w.heap.size + 1, 2, none⟩ = some (.int .u8 z2) := by simp [World.cell?, HW3.out]
    have d3 : w3.cell? ⟨w.heap.size + 1, 3, none⟩ = some (.int .u8 z3) := by simp [World.cell?, HW3.out]
    have f0 : w3.frozen? ⟨w.heap.size, 0, none⟩ = false := frozen_of_row w3 _ 0 _ 92 HZ3.out
    have f1 : w3.frozen? ⟨w.heap.size, 1, none⟩ = false := frozen_of_row w3 _ 1 _ 92 HZ3.out
    have f2 : w3.frozen? ⟨w.heap.size, 2, none⟩ = false := frozen_of_row w3 _ 2 _ 92 HZ3.out
    have f3 : w3.frozen? ⟨w.heap.size, 3, none⟩ = false := frozen_of_row w3 _ 3 _ 92 HZ3.out
    have e0 : w3.cell? ⟨w.heap.size, 0, none⟩ = some (.int .u8 0) := by simp [World.cell?, HZ3.out]
    have e1 : w3.cell? ⟨w.heap.size, 1, none⟩ = some (.int .u8 0) := by simp [World.cell?, HZ3.out]
    have e2 : w3.cell? ⟨w.heap.size, 2, none⟩ = some (.int .u8 0) := by simp [World.cell?, HZ3.out]
    have e3 : w3.cell? ⟨w.heap.size, 3, none⟩ = some (.int .u8 0) := by simp [World.cell?, HZ3.out]
    go_wp2
    exact bodyPost_ret (v := .tuple #[fourV z0 z1 z2 z3, .int .i64 0]) (by simp [results, Tryz.results129, go_sem, fourV, e0, e1, e2, e3]) rfl ⟨rfl, (((HBB.out.setCell (Nat.le_refl _) _).setCell (Nat.le_refl _) _).setCell (Nat.le_refl _) _).setCell (Nat.le_refl _) _⟩

set_option maxHeartbeats 1000000 in
theorem gran_far (q g B k : Nat) (xs : List Int) (w : World) (hm : Mem w B q g xs) (h : k < 16384) (hin : xs.length ≤ 4 * k) :
    Calls Tryz.prog 129 #[.pointer (some ⟨q, 0, none⟩), .int .i64 k] w fun e w' => e = .returned (.tuple #[granV xs k, .int .i64 0]) ∧ Below w.heap.size w w' := by
  have hm1 := hm.below (new_alloc w (.cells #[.int .u8 0, .int .u8 0, .int .u8 0, .int .u8 0] 92))
  have hc := none_no q _ hm1.c0
  have hm2 := hm1.below (new_alloc _ (.cells #[.int .u8 0, .int .u8 0, .int .u8 0, .int .u8 0] 92))
  have c2 := hm2.c1
  have hs0 := new_alloc w (.cells #[.int .u8 0, .int .u8 0, .int .u8 0, .int .u8 0] 92)
  have HB := Hid.in (below_alloc hs0 (.cells #[.int .u8 0, .int .u8 0, .int .u8 0, .int .u8 0] 92))
  have HZ := Hid.in (heap_alloc_new (w.alloc (.cells #[.int .u8 0, .int .u8 0, .int .u8 0, .int .u8 0] 92)) (.cells #[.int .u8 0, .int .u8 0, .int .u8 0, .int .u8 0] 92))
  rw [size_one] at HZ
  have HZ0 : Hid (((w.alloc (.cells #[.int .u8 0, .int .u8 0, .int .u8 0, .int .u8 0] 92)).alloc (.cells #[.int .u8 0, .int .u8 0, .int .u8 0, .int .u8 0] 92)).heap[w.heap.size]? = some (.cells #[.int .u8 0, .int .u8 0, .int .u8 0, .int .u8 0] 92)) := (by
    have := (new_alloc (w.alloc (.cells #[.int .u8 0, .int .u8 0, .int .u8 0, .int .u8 0] 92)) (.cells #[.int .u8 0, .int .u8 0, .int .u8 0, .int .u8 0] 92)).block w.heap.size (by rw [size_one]; omega)
    exact this.trans (heap_alloc_new _ _))
  have g0 : decide ((k : Int) < 0) = false := decide_eq_false (by omega)
  have g1 : decide (16384 ≤ (k : Int)) = false := decide_eq_false (by omega)
  have hwr : IntKind.i64.wrap (4 * (k : Int)) = ((4 * k : Nat) : Int) := by rw [IntKind.wrap_i64]; omega
  clear hm1 hm hs0 hm2
  have hz : granV xs k = fourV 0 0 0 0 := by
    simp [granV, List.getD, List.getElem?_eq_none (show xs.length ≤ 4 * k by omega), List.getElem?_eq_none (show xs.length ≤ 4 * k + 1 by omega), List.getElem?_eq_none (show xs.length ≤ 4 * k + 2 by omega), List.getElem?_eq_none (show xs.length ≤ 4 * k + 3 by omega)]
  rw [hz]
  clear hz
  obtain ⟨m, hmk⟩ : ∃ m, m = 4 * k := ⟨_, rfl⟩
  rw [← hmk] at hin hwr
  clear hmk
  obtain ⟨l, hlk⟩ : ∃ l, l = xs.length := ⟨_, rfl⟩
  rw [← hlk] at hin c2
  clear hlk
  go_enter Tryz.func129, Tryz.ntmps129
  go_wp2_with (go_at_call 61; refine hc.mono ?_; rintro e w1 ⟨rfl, rfl⟩)
  generalize hw2 : (w.alloc (.cells #[.int .u8 0, .int .u8 0, .int .u8 0, .int .u8 0] 92)).alloc (.cells #[.int .u8 0, .int .u8 0, .int .u8 0, .int .u8 0] 92) = w2 at *
  clear hw2 hc
  rcases (by omega : l < m ∨ l = m) with hnl | hnl
  · have hne : ¬ m ≤ l := by omega
    go_region_law (refine step_copy_splice (by rfl) _ _ 26 26 (by rfl) 5 Tryz.underlying26 Tryz.size5 _ _ _ _ _ _ (by rfl) (by rfl) (w.heap.size + 1) 0 zero4 92 HZ.out [] (by simp) (fun h => absurd h (Nat.lt_irrefl 0)) (by simp) (fun _ h => by cases h) (w.heap.size + 1) w2 (below_drewN (Below.refl (w.heap.size + 1) w2) 1) (Nat.le_refl _) ?_; intro w3 HW3 HB3; rw [show splice zero4 0 [] = zero4 from rfl, zero4] at HW3)
    all_goals
      have HZ3 := Hid.in ((HB3.block w.heap.size (by omega)).trans HZ0.out)
      have HBB := Hid.in (HB.out.trans (HB3.mono (by omega)))
      clear HZ HZ0 HB3 HB
      have d0 : w3.cell? ⟨w.heap.size + 1, 0, none⟩ = some (.int .u8 0) := by simp [World.cell?, HW3.out]
      have d1 : w3.cell? ⟨w.heap.size + 1, 1, none⟩ = some (.int .u8 0) := by simp [World.cell?, HW3.out]
      have d2 : w3.cell? ⟨w.heap.size + 1, 2, none⟩ = some (.int .u8 0) := by simp [World.cell?, HW3.out]
      have d3 : w3.cell? ⟨w.heap.size + 1, 3, none⟩ = some (.int .u8 0) := by simp [World.cell?, HW3.out]
      have f0 : w3.frozen? ⟨w.heap.size, 0, none⟩ = false := frozen_of_row w3 _ 0 _ 92 HZ3.out
      have f1 : w3.frozen? ⟨w.heap.size, 1, none⟩ = false := frozen_of_row w3 _ 1 _ 92 HZ3.out
      have f2 : w3.frozen? ⟨w.heap.size, 2, none⟩ = false := frozen_of_row w3 _ 2 _ 92 HZ3.out
      have f3 : w3.frozen? ⟨w.heap.size, 3, none⟩ = false := frozen_of_row w3 _ 3 _ 92 HZ3.out
      have e0 : w3.cell? ⟨w.heap.size, 0, none⟩ = some (.int .u8 0) := by simp [World.cell?, HZ3.out]
      have e1 : w3.cell? ⟨w.heap.size, 1, none⟩ = some (.int .u8 0) := by simp [World.cell?, HZ3.out]
      have e2 : w3.cell? ⟨w.heap.size, 2, none⟩ = some (.int .u8 0) := by simp [World.cell?, HZ3.out]
      have e3 : w3.cell? ⟨w.heap.size, 3, none⟩ = some (.int .u8 0) := by simp [World.cell?, HZ3.out]
      go_wp2
      exact bodyPost_ret (v := .tuple #[fourV 0 0 0 0, .int .i64 0]) (by simp [results, Tryz.results129, go_sem, fourV, e0, e1, e2, e3]) rfl ⟨rfl, (((HBB.out.setCell (Nat.le_refl _) _).setCell (Nat.le_refl _) _).setCell (Nat.le_refl _) _).setCell (Nat.le_refl _) _⟩
  · subst hnl
    go_region_law (refine step_copy_splice (by rfl) _ _ 26 26 (by rfl) 5 Tryz.underlying26 Tryz.size5 _ _ _ _ _ _ (by rfl) (by rfl) (w.heap.size + 1) 0 zero4 92 HZ.out [] (by simp) (fun h => absurd h (Nat.lt_irrefl 0)) (by simp) (fun _ h => by cases h) (w.heap.size + 1) w2 (below_drewN (Below.refl (w.heap.size + 1) w2) 1) (Nat.le_refl _) ?_; intro w3 HW3 HB3; rw [show splice zero4 0 [] = zero4 from rfl, zero4] at HW3)
    all_goals
      have HZ3 := Hid.in ((HB3.block w.heap.size (by omega)).trans HZ0.out)
      have HBB := Hid.in (HB.out.trans (HB3.mono (by omega)))
      clear HZ HZ0 HB3 HB
      have d0 : w3.cell? ⟨w.heap.size + 1, 0, none⟩ = some (.int .u8 0) := by simp [World.cell?, HW3.out]
      have d1 : w3.cell? ⟨w.heap.size + 1, 1, none⟩ = some (.int .u8 0) := by simp [World.cell?, HW3.out]
      have d2 : w3.cell? ⟨w.heap.size + 1, 2, none⟩ = some (.int .u8 0) := by simp [World.cell?, HW3.out]
      have d3 : w3.cell? ⟨w.heap.size + 1, 3, none⟩ = some (.int .u8 0) := by simp [World.cell?, HW3.out]
      have f0 : w3.frozen? ⟨w.heap.size, 0, none⟩ = false := frozen_of_row w3 _ 0 _ 92 HZ3.out
      have f1 : w3.frozen? ⟨w.heap.size, 1, none⟩ = false := frozen_of_row w3 _ 1 _ 92 HZ3.out
      have f2 : w3.frozen? ⟨w.heap.size, 2, none⟩ = false := frozen_of_row w3 _ 2 _ 92 HZ3.out
      have f3 : w3.frozen? ⟨w.heap.size, 3, none⟩ = false := frozen_of_row w3 _ 3 _ 92 HZ3.out
      have e0 : w3.cell? ⟨w.heap.size, 0, none⟩ = some (.int .u8 0) := by simp [World.cell?, HZ3.out]
      have e1 : w3.cell? ⟨w.heap.size, 1, none⟩ = some (.int .u8 0) := by simp [World.cell?, HZ3.out]
      have e2 : w3.cell? ⟨w.heap.size, 2, none⟩ = some (.int .u8 0) := by simp [World.cell?, HZ3.out]
      have e3 : w3.cell? ⟨w.heap.size, 3, none⟩ = some (.int .u8 0) := by simp [World.cell?, HZ3.out]
      go_wp2
      exact bodyPost_ret (v := .tuple #[fourV 0 0 0 0, .int .i64 0]) (by simp [results, Tryz.results129, go_sem, fourV, e0, e1, e2, e3]) rfl ⟨rfl, (((HBB.out.setCell (Nat.le_refl _) _).setCell (Nat.le_refl _) _).setCell (Nat.le_refl _) _).setCell (Nat.le_refl _) _⟩

theorem gran_any (q g B k : Nat) (xs : List Int) (w : World) (hm : Mem w B q g xs) (h : k < 16384) :
    Calls Tryz.prog 129 #[.pointer (some ⟨q, 0, none⟩), .int .i64 k] w fun e w' => e = .returned (.tuple #[granV xs k, .int .i64 0]) ∧ Below w.heap.size w w' := by
  by_cases hin : 4 * k < xs.length
  · exact gran_in q g B k xs w hm h hin
  · exact gran_far q g B k xs w hm h (by omega)

end Go.Proofs.YtnpaijbkhmnfpaaGreat
