/- What switchyardref11.Write and Granule answer, for every slice of bytes. -/
import Derived.Test.YtnpaijbkhmnfpaaGreatGran
import Derived.Test.YtnpaijbkhmnfpaaGreatBlk
namespace Go.Proofs.YtnpaijbkhmnfpaaGreat
open Go.RowKit

theorem putA_get (xs ys : List Int) (a i : Nat) (h : a + ys.length ≤ xs.length) (h1 : a ≤ i) (h2 : i - a < ys.length) : (putA xs a ys).getD i 0 = ys.getD (i - a) 0 := by
  have e : (xs.take a).length = a := by rw [List.length_take]; omega
  have e2 : (xs.take a ++ (ys ++ xs.drop (a + ys.length)))[i]? = ys[i - a]? := by
    rw [List.getElem?_append_right (by omega), e, List.getElem?_append_left h2]
  simp [putA, List.getD, e2]
theorem putA_not (xs ys : List Int) (a i : Nat) (h : a + ys.length ≤ xs.length) (hi : i < a ∨ a + ys.length ≤ i) : (putA xs a ys).getD i 0 = xs.getD i 0 := by
  have e : (xs.take a).length = a := by rw [List.length_take]; omega
  unfold putA
  rcases hi with hi | hi
  · simp [List.getD, List.getElem?_append_left (show i < (xs.take a).length by omega), hi]
  · have e2 : (xs.take a ++ (ys ++ xs.drop (a + ys.length)))[i]? = xs[i]? := by
      rw [List.getElem?_append_right (by omega), e, List.getElem?_append_right (by omega), List.getElem?_drop]
      congr 1
      omega
    simp [List.getD, e2]

/-- the first i of four bytes, noughts behind -/
def arrV (xs : List Int) (k i : Nat) : Array Value := ((List.range 4).map fun j => Value.int .u8 (if j < i then xs.getD (4 * k + j) 0 else 0)).toArray
theorem arrV_zero (xs : List Int) (k : Nat) : arrV xs k 0 = #[.int .u8 0, .int .u8 0, .int .u8 0, .int .u8 0] := rfl
theorem arrV_four (xs : List Int) (k : Nat) : arrV xs k 4 = #[.int .u8 (xs.getD (4 * k) 0), .int .u8 (xs.getD (4 * k + 1) 0), .int .u8 (xs.getD (4 * k + 2) 0), .int .u8 (xs.getD (4 * k + 3) 0)] := rfl
theorem arrV_set (xs : List Int) (k i : Nat) (hi : i < 4) : (arrV xs k i).setIfInBounds i (.int .u8 (xs.getD (4 * k + i) 0)) = arrV xs k (i + 1) := by
  rcases (by omega : i = 0 ∨ i = 1 ∨ i = 2 ∨ i = 3) with rfl | rfl | rfl | rfl <;> rfl
theorem arrV_same (xs : List Int) (k i : Nat) (h : xs.length ≤ 4 * k + i) : arrV xs k (i + 1) = arrV xs k i := by
  have e : ∀ j, ¬ j < i → xs.getD (4 * k + j) 0 = 0 := fun j hj => by simp [List.getD, List.getElem?_eq_none (show xs.length ≤ 4 * k + j by omega)]
  unfold arrV
  congr 1
  refine List.map_congr_left fun j _ => ?_
  by_cases h1 : j < i
  · rw [if_pos h1, if_pos (by omega)]
  · rw [if_neg h1]
    by_cases h2 : j < i + 1
    · rw [if_pos h2, e j h1]
    · rw [if_neg h2]
theorem arrV_cell (xs : List Int) (k i : Nat) (hi : i < 4) : (arrV xs k i)[i]? = some (.int .u8 0) := by
  rcases (by omega : i = 0 ∨ i = 1 ∨ i = 2 ∨ i = 3) with rfl | rfl | rfl | rfl <;> rfl

set_option maxHeartbeats 400000 in
theorem refGran_bad (p : Option Addr) (c l : Nat) (k : Int) (w : World) (h : k < 0 ∨ 16384 ≤ k) :
    Calls Tryz.prog 121 #[.slice p l c, .int .i64 k] w fun e w' => e = .returned (.tuple #[fourV 0 0 0 0, .int .i64 2]) ∧ Below w.heap.size w w' := by
  rcases (by omega : k < 0 ∨ (0 ≤ k ∧ 16384 ≤ k)) with h | ⟨h', h⟩
  · go_enter Tryz.func121, Tryz.ntmps121
    go_wp2
    exact bodyPost_ret (v := .tuple #[fourV 0 0 0 0, .int .i64 2]) (by simp [results, Tryz.results121, go_sem, fourV]) rfl ⟨rfl, below_alloc (new_alloc _ _) _⟩
  · go_enter Tryz.func121, Tryz.ntmps121
    go_wp2
    exact bodyPost_ret (v := .tuple #[fourV 0 0 0 0, .int .i64 2]) (by simp [results, Tryz.results121, go_sem, fourV]) rfl ⟨rfl, below_alloc (new_alloc _ _) _⟩

set_option maxHeartbeats 1000000 in
theorem refGran_any (p : Option Addr) (c k : Nat) (xs : List Int) (w : World) (hr : Row w p xs) (h : k < 16384) (hl : xs.length ≤ 65536) :
    Calls Tryz.prog 121 #[.slice p xs.length c, .int .i64 k] w fun e w' => e = .returned (.tuple #[granV xs k, .int .i64 0]) ∧ Below w.heap.size w w' := by
  have g0 : decide ((k : Int) < 0) = false := decide_eq_false (by omega)
  have g1 : decide (16384 ≤ (k : Int)) = false := decide_eq_false (by omega)
  have HR : Hid (∀ W, Below w.heap.size w W → Row W p xs) := fun W hW => hr.below hW
  clear hr
  obtain ⟨z0, E0⟩ : ∃ z, xs.getD (4 * k) 0 = z := ⟨_, rfl⟩
  obtain ⟨z1, E1⟩ : ∃ z, xs.getD (4 * k + 1) 0 = z := ⟨_, rfl⟩
  obtain ⟨z2, E2⟩ : ∃ z, xs.getD (4 * k + 2) 0 = z := ⟨_, rfl⟩
  obtain ⟨z3, E3⟩ : ∃ z, xs.getD (4 * k + 3) 0 = z := ⟨_, rfl⟩
  have H4 : Hid (arrV xs k 4 = #[.int .u8 z0, .int .u8 z1, .int .u8 z2, .int .u8 z3]) := by rw [← E0, ← E1, ← E2, ← E3]; exact arrV_four xs k
  rw [granV, E0, E1, E2, E3]
  clear E0 E1 E2 E3
  go_enter Tryz.func121, Tryz.ntmps121
  go_wp2
  have HB : Hid (Below w.heap.size w ((w.alloc (.cells #[.int .u8 0, .int .u8 0, .int .u8 0, .int .u8 0] 92)).alloc (.cells #[.int .u8 0, .int .u8 0, .int .u8 0, .int .u8 0] 92))) := below_alloc (new_alloc _ _) _
  have HV : Hid (Blk ((w.alloc (.cells #[.int .u8 0, .int .u8 0, .int .u8 0, .int .u8 0] 92)).alloc (.cells #[.int .u8 0, .int .u8 0, .int .u8 0, .int .u8 0] 92)) (w.heap.size + 1) 92 (arrV xs k 0)) := (by
    have := Blk.new (w.alloc (.cells #[.int .u8 0, .int .u8 0, .int .u8 0, .int .u8 0] 92)) 92 (arrV xs k 0)
    rw [size_one] at this; exact this)
  have HZ : Hid (Blk ((w.alloc (.cells #[.int .u8 0, .int .u8 0, .int .u8 0, .int .u8 0] 92)).alloc (.cells #[.int .u8 0, .int .u8 0, .int .u8 0, .int .u8 0] 92)) w.heap.size 92 (arrV xs k 0)) := (Blk.new w 92 _).grow (new_alloc _ _)
  generalize (w.alloc (.cells #[.int .u8 0, .int .u8 0, .int .u8 0, .int .u8 0] 92)).alloc (.cells #[.int .u8 0, .int .u8 0, .int .u8 0, .int .u8 0] 92) = w2 at *
  go_loopw [7] (fun i wr => ∃ j : Nat, j ≤ 4 ∧ i = .int .i64 j ∧ Blk wr (w.heap.size + 1) 92 (arrV xs k j) ∧ Blk wr w.heap.size 92 (arrV xs k 0) ∧ Below w.heap.size w wr) (fun i _ => 4 - (intOf i).toNat)
  case atStart => exact ⟨0, by omega, rfl, HV.out, HZ.out, HB.out⟩
  case round =>
    obtain ⟨j, hj, rfl, hv, hz, hb⟩ := hrel
    clear HB HV HZ
    by_cases hj4 : j < 4
    · have hwr : IntKind.i64.wrap (4 * (k : Int)) = ((4 * k : Nat) : Int) := by rw [IntKind.wrap_i64]; omega
      by_cases hin : 4 * k + j < xs.length
      · obtain ⟨b0, o0, rfl, hc⟩ := HR.out wr hb (by omega)
        have c1 := hc (4 * k + j) hin
        clear hc
        have c2 := (hv.cell j).trans (arrV_cell xs k j hj4)
        have f2 := hv.free j
        have HS := Hid.in (hv.set j (.int .u8 (xs.getD (4 * k + j) 0)))
        have HZ2 := Hid.in (hz.other (show w.heap.size ≠ w.heap.size + 1 by omega) j (.int .u8 (xs.getD (4 * k + j) 0)))
        have HB2 := Hid.in (hb.setCell (p := ⟨w.heap.size + 1, j, none⟩) (by simp) (.int .u8 (xs.getD (4 * k + j) 0)))
        rw [arrV_set xs k j hj4] at HS
        clear hv hz hb
        generalize xs.getD (4 * k + j) 0 = z at *
        go_wp2
        go_roundw
        case rel => exact ⟨j + 1, by omega, by go_num, HS.out, HZ2.out, HB2.out⟩
        case measure => simp [intOf]; omega
      · have HS : Hid (Blk wr (w.heap.size + 1) 92 (arrV xs k (j + 1))) := by rw [arrV_same xs k j (by omega)]; exact hv
        have HZ2 := Hid.in hz
        have HB2 := Hid.in hb
        clear hv hz hb
        go_wp2
        go_roundw
        case rel => exact ⟨j + 1, by omega, by go_num, HS.out, HZ2.out, HB2.out⟩
        case measure => simp [intOf]; omega
    · obtain rfl : j = 4 := by omega
      rw [H4.out] at hv
      rw [arrV_zero] at hz
      have HB2 := Hid.in hb
      have d0 := hv.cell 0
      have d1 := hv.cell 1
      have d2 := hv.cell 2
      have d3 := hv.cell 3
      have e0 := hz.cell 0
      have e1 := hz.cell 1
      have e2 := hz.cell 2
      have e3 := hz.cell 3
      have f0 := hz.free 0
      have f1 := hz.free 1
      have f2 := hz.free 2
      have f3 := hz.free 3
      simp only [List.getElem?_toArray, List.getElem?_cons_zero, List.getElem?_cons_succ] at d0 d1 d2 d3 e0 e1 e2 e3
      clear hv hz hb H4
      go_wp2
      exact bodyPost_ret (v := .tuple #[fourV z0 z1 z2 z3, .int .i64 0]) (by simp [results, Tryz.results121, go_sem, fourV, e0, e1, e2, e3]) rfl ⟨rfl, (((HB2.out.setCell (Nat.le_refl _) _).setCell (Nat.le_refl _) _).setCell (Nat.le_refl _) _).setCell (Nat.le_refl _) _⟩

end Go.Proofs.YtnpaijbkhmnfpaaGreat
