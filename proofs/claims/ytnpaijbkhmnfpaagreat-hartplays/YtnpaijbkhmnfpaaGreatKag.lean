/- Texts put together: Ops, FetL, Right, Enc, Fld. -/
import Derived.Test.YtnpaijbkhmnfpaaGreatKaf
import Derived.Test.YtnpaijbkhmnfpaaGreatKaa
import Derived.Deep.RegionWith
import Derived.Deep.CutRange
import Derived.Test.YtnpaijbkhmnfpaaGreatKab
import Derived.Lib.BufferWrite

/- What isa.opOf, Length, Name and Op answer. -/
namespace Go.Proofs.YtnpaijbkhmnfpaaGreat
open Go.RowKit

theorem str_ne {a b : ByteArray} (h : a ≠ b) : (a.toList == b.toList) = false := by
  rw [Lib.toList_data, Lib.toList_data]
  refine beq_eq_false_iff_ne.2 fun e => h ?_
  cases a; cases b
  simp at e
  rw [e]
theorem tab_cell_code (w : World) (o : Nat) (h : o < 17) : (w.alloc (.cells tab 175)).cell? ⟨w.heap.size, o * 4 + 1, none⟩ = some (.string (cd o)) := by
  rw [cell_of_row _ _ _ tab 175 (0, 0) (heap_alloc_last w _), Nat.mul_comm]
  exact tab_code o h
theorem tab_cell_name (w : World) (o : Nat) (h : o < 17) : (w.alloc (.cells tab 175)).cell? ⟨w.heap.size, o * 4, none⟩ = some (.string (nm o)) := by
  rw [cell_of_row _ _ _ tab 175 (0, 0) (heap_alloc_last w _), Nat.mul_comm]
  exact tab_name o h

set_option maxRecDepth 20000 in
set_option maxHeartbeats 1000000 in
theorem opOf_yes (p : Nat) (w : World) (hp : 1 ≤ p) (hp' : p < 17) :
    Calls Tryz.prog 95 #[.int .u8 (fb p)] w fun e w' => e = .returned (.tuple #[.int .u8 p, .bool true]) ∧ Below w.heap.size w w' := by
  obtain ⟨z, hzs, hz⟩ := zero_tab
  have HZ : Hid (z.size = tab.size) := hzs
  clear hzs
  obtain ⟨y, hy⟩ : ∃ y, y = fb p := ⟨_, rfl⟩
  rw [← hy]
  have HY : Hid (y = fb p) := hy
  clear hy
  go_enter Tryz.func95, Tryz.ntmps95
  go_wp2_with (first | (go_at_call 96; refine (shapes_any _).mono ?_; rintro e w1 ⟨rfl, hb1⟩) | (refine step_store_new rfl 175 _ _ rfl rfl rfl tab rfl Tryz.sizeTab HZ.out tab_one ?_))
  have HC : Hid (∀ o, o < 17 → (w1.alloc (.cells tab 175)).cell? ⟨w1.heap.size, o * 4 + 1, none⟩ = some (.string (cd o))) := fun o h => tab_cell_code w1 o h
  have hb2 := below_alloc hb1 (.cells tab 175)
  clear hb1 hz HZ
  generalize w1.alloc (.cells tab 175) = w2 at *
  go_loop [7] (fun i => ∃ k : Nat, k ≤ p ∧ i = .int .i64 k) (fun i => 17 - (intOf i).toNat)
  case atStart => exact ⟨0, Nat.zero_le _, rfl⟩
  case round =>
    obtain ⟨k, hk, rfl⟩ := hrel
    have hlt : k < 17 := by omega
    by_cases h0 : k = 0
    · subst h0
      go_wp2
      go_round
      case rel => exact ⟨1, by omega, rfl⟩
      case measure => simp [intOf]
    · have hpos : 0 < k := by omega
      have c1 := HC.out k hlt
      have i1 := code_at k hpos hlt
      by_cases he : k = p
      · subst he
        have hy2 : fb k = y := HY.out.symm
        rw [hy2] at i1
        clear hy2
        generalize cd k = s at *
        go_wp2
        go_ret2
        exact ⟨rfl, hb2⟩
      · have hne : (fb k == y) = false := by
          rw [HY.out]
          exact beq_eq_false_iff_ne.2 fun h => he (fb_inj k hpos hlt p hp hp' h)
        generalize cd k = s at *
        generalize fb k = x at *
        go_wp2
        go_round
        case rel => exact ⟨k + 1, by omega, by go_num⟩
        case measure => simp [intOf]; omega

set_option maxRecDepth 20000 in
set_option maxHeartbeats 1000000 in
theorem opOf_no (y : Int) (w : World) (hno : ∀ o, 1 ≤ o → o < 17 → fb o ≠ y) :
    Calls Tryz.prog 95 #[.int .u8 y] w fun e w' => e = .returned (.tuple #[.int .u8 0, .bool false]) ∧ Below w.heap.size w w' := by
  obtain ⟨z, hzs, hz⟩ := zero_tab
  have HZ : Hid (z.size = tab.size) := hzs
  have HN : Hid (∀ o, 1 ≤ o → o < 17 → fb o ≠ y) := hno
  clear hzs hno
  go_enter Tryz.func95, Tryz.ntmps95
  go_wp2_with (first | (go_at_call 96; refine (shapes_any _).mono ?_; rintro e w1 ⟨rfl, hb1⟩) | (refine step_store_new rfl 175 _ _ rfl rfl rfl tab rfl Tryz.sizeTab HZ.out tab_one ?_))
  have HC : Hid (∀ o, o < 17 → (w1.alloc (.cells tab 175)).cell? ⟨w1.heap.size, o * 4 + 1, none⟩ = some (.string (cd o))) := fun o h => tab_cell_code w1 o h
  have hb2 := below_alloc hb1 (.cells tab 175)
  clear hb1 hz HZ
  generalize w1.alloc (.cells tab 175) = w2 at *
  go_loop [7] (fun i => ∃ k : Nat, k ≤ 17 ∧ i = .int .i64 k) (fun i => 17 - (intOf i).toNat)
  case atStart => exact ⟨0, Nat.zero_le _, rfl⟩
  case round =>
    obtain ⟨k, hk, rfl⟩ := hrel
    by_cases hlt : k < 17
    · by_cases h0 : k = 0
      · subst h0
        go_wp2
        go_round
        case rel => exact ⟨1, by omega, rfl⟩
        case measure => simp [intOf]
      · have hpos : 0 < k := by omega
        have c1 := HC.out k hlt
        have i1 := code_at k hpos hlt
        have hne : (fb k == y) = false := beq_eq_false_iff_ne.2 (HN.out k hpos hlt)
        generalize cd k = s at *
        generalize fb k = x at *
        go_wp2
        go_round
        case rel => exact ⟨k + 1, by omega, by go_num⟩
        case measure => simp [intOf]; omega
    · go_wp2
      go_ret2
      exact ⟨rfl, hb2⟩

set_option maxRecDepth 20000 in
set_option maxHeartbeats 1000000 in
theorem len_yes (p : Nat) (w : World) (hp : 1 ≤ p) (hp' : p < 17) :
    Calls Tryz.prog 77 #[.int .u8 (fb p)] w fun e w' => e = .returned (.int .i64 (lenN p)) ∧ Below w.heap.size w w' := by
  have hcon := opOf_yes p w hp hp'
  have hidx := idx_any p hp'
  generalize fb p = y at *
  go_enter Tryz.func77, Tryz.ntmps77
  go_wp2_with fail
  refine hcon.mono ?_
  rintro e w1 ⟨rfl, hb1⟩
  clear hcon
  go_wp2_with fail
  refine (shapes_any _).mono ?_
  rintro e w2 ⟨rfl, hb2⟩
  go_wp2_with fail
  refine (length_op p hp' _).mono ?_
  rintro e w3 ⟨rfl, hb3⟩
  go_wp2
  go_ret
  exact ⟨rfl, below_step (below_step hb1 hb2) hb3⟩

set_option maxRecDepth 20000 in
set_option maxHeartbeats 1000000 in
theorem len_no (y : Int) (w : World) (hno : ∀ o, 1 ≤ o → o < 17 → fb o ≠ y) :
    Calls Tryz.prog 77 #[.int .u8 y] w fun e w' => e = .returned (.int .i64 1) ∧ Below w.heap.size w w' := by
  have hcon := opOf_no y w hno
  clear hno
  go_enter Tryz.func77, Tryz.ntmps77
  go_wp2_with fail
  refine hcon.mono ?_
  rintro e w1 ⟨rfl, hb1⟩
  clear hcon
  go_wp2
  go_ret
  exact ⟨rfl, hb1⟩

set_option maxRecDepth 20000 in
set_option maxHeartbeats 1000000 in
theorem isaName_yes (p : Nat) (w : World) (hp' : p < 17) :
    Calls Tryz.prog 124 #[.int .u8 p] w fun e w' => e = .returned (.string (nm p)) ∧ Below w.heap.size w w' := by
  have hidx := idx_any p hp'
  have hfld : ∀ w, (Instr.field 174 (.agg #[.string (nm p), .string (cd p), .int .i64 (rg p), .int .u8 (kd p)]) 0).run Tryz.prog w = .ok (.string (nm p)) w := fun _ => by kernel_rfl
  go_enter Tryz.func124, Tryz.ntmps124
  go_wp2_with (go_at_call 96; refine (shapes_any _).mono ?_; rintro e w1 ⟨rfl, hb1⟩)
  go_ret
  exact ⟨rfl, hb1⟩

set_option maxRecDepth 20000 in
set_option maxHeartbeats 1000000 in
theorem isaName_no (p : Int) (w : World) (hp : 17 ≤ p) (hp' : p ≤ 255) :
    Calls Tryz.prog 124 #[.int .u8 p] w fun e w' => e = .returned (.string ⟨#[]⟩) ∧ Below w.heap.size w w' := by
  go_enter Tryz.func124, Tryz.ntmps124
  go_wp2
  go_ret
  exact ⟨rfl, below_self _⟩
end Go.Proofs.YtnpaijbkhmnfpaaGreat

/- What the chapter on fetch says, as lists. -/
namespace Go.Proofs.YtnpaijbkhmnfpaaGreat
open Go.RowKit Go.Maps

/-! ### how long an instruction is, by its first byte -/
def opB (z : Int) : Nat := ((List.range 17).find? fun k => decide (1 ≤ k) && decide (fb k = z)).getD 0
def lenB (z : Int) : Nat := if opB z = 0 then 1 else lenN (opB z)
theorem opB_fb (o : Nat) (h1 : 1 ≤ o) (h2 : o < 17) : opB (fb o) = o := by
  have : ∀ k : Fin 17, 1 ≤ k.1 → opB (fb k.1) = k.1 := by decide +kernel
  exact this ⟨o, h2⟩ h1
theorem opB_no (z : Int) (h : ∀ o, 1 ≤ o → o < 17 → fb o ≠ z) : opB z = 0 := by
  unfold opB
  rw [List.find?_eq_none.2]
  · rfl
  · intro k hk
    simp only [List.mem_range] at hk
    simp only [Bool.and_eq_true, decide_eq_true_eq, not_and]
    exact fun h1 => h k h1 hk
theorem opB_cases (z : Int) : (∃ o, 1 ≤ o ∧ o < 17 ∧ fb o = z) ∨ ∀ o, 1 ≤ o → o < 17 → fb o ≠ z := by
  by_cases h : ∃ o, 1 ≤ o ∧ o < 17 ∧ fb o = z
  · exact .inl h
  · exact .inr fun o h1 h2 h3 => h ⟨o, h1, h2, h3⟩
theorem lenB_fb (o : Nat) (h1 : 1 ≤ o) (h2 : o < 17) : lenB (fb o) = lenN o := by
  unfold lenB; rw [opB_fb o h1 h2, if_neg (by omega)]
theorem lenB_no (z : Int) (h : ∀ o, 1 ≤ o → o < 17 → fb o ≠ z) : lenB z = 1 := by
  unfold lenB; rw [opB_no z h, if_pos rfl]
theorem lenB_in (z : Int) : 1 ≤ lenB z ∧ lenB z ≤ 6 := by
  rcases opB_cases z with ⟨o, h1, h2, rfl⟩ | h
  · rw [lenB_fb o h1 h2]; exact lenN_in o h1 h2
  · rw [lenB_no z h]; omega
theorem length_any (y : Int) (w : World) : Calls Tryz.prog 77 #[.int .u8 y] w fun e w' => e = .returned (.int .i64 (lenB y)) ∧ Below w.heap.size w w' := by
  rcases opB_cases y with ⟨o, h1, h2, rfl⟩ | h
  · rw [lenB_fb o h1 h2]; exact len_yes o w h1 h2
  · rw [lenB_no y h]; exact len_no y w h

/-! ### a step -/
def f4L (f : F4) : List Int := [f.a, f.b, f.c, f.d]
/-- the instruction is there -/
def doneB (hv : List Int) : Bool := decide (0 < hv.length) && decide (lenB (hv.getD 0 0) ≤ hv.length)
def fstB (hv : List Int) (f : F4) (r : Nat) : Int := if hv.length = 0 then (f4L f).getD r 0 else hv.getD 0 0
def outF (hv : List Int) (f : F4) (r : Nat) : List Int := (hv ++ (f4L f).drop r).take (lenB (fstB hv f r))
/-- what a step answers: the bytes, the granule, whether it was held, the error, what is held behind it -/
structure Fs where
  out : List Int
  g : Int
  is : Bool
  e : Int
  L : List Ln
def stpR (L : List Ln) (xs : List Int) (pc : Nat) (hv : List Int) (hold : Bool) : Fs :=
  if doneB hv = true then ⟨[], 0, false, 2, L⟩
  else if xs.length ≤ pc + hv.length then ⟨[], 0, false, 210, L⟩
  else ⟨outF hv (takR L xs (((pc + hv.length) / 4 : Nat) : Int) hold).f ((pc + hv.length) % 4), ((pc + hv.length) / 4 : Nat), (takR L xs (((pc + hv.length) / 4 : Nat) : Int) hold).is, 0, (takR L xs (((pc + hv.length) / 4 : Nat) : Int) hold).L⟩

theorem done_nil : doneB [] = false := rfl
theorem lt_of_not_done {hv : List Int} (h : doneB hv = false) (h0 : 0 < hv.length) : hv.length < lenB (hv.getD 0 0) := by
  unfold doneB at h
  simp only [Bool.and_eq_false_iff, decide_eq_false_iff_not] at h
  omega
theorem fst_lt {hv : List Int} (h : doneB hv = false) (f : F4) (r : Nat) : hv.length < lenB (fstB hv f r) := by
  unfold fstB
  split
  · have := (lenB_in ((f4L f).getD r 0)).1; omega
  · exact lt_of_not_done h (by omega)
theorem f4L_len (f : F4) : (f4L f).length = 4 := rfl
theorem outF_eq {hv : List Int} (h : doneB hv = false) (f : F4) {r : Nat} (hr : r < 4) :
    outF hv f r = hv ++ ((f4L f).drop r).take (min (hv.length + 4 - r) (lenB (fstB hv f r)) - hv.length) := by
  have h1 := fst_lt h f r
  unfold outF
  rw [List.take_append, List.take_of_length_le (by omega)]
  congr 1
  have hl : ((f4L f).drop r).length = 4 - r := by rw [List.length_drop, f4L_len]
  by_cases h2 : hv.length + 4 - r ≤ lenB (fstB hv f r)
  · rw [List.take_of_length_le (by omega), List.take_of_length_le (by omega)]
  · congr 1; omega
theorem outF_len {hv : List Int} (h : doneB hv = false) (f : F4) {r : Nat} (hr : r < 4) : (outF hv f r).length = min (hv.length + 4 - r) (lenB (fstB hv f r)) := by
  have h1 := fst_lt h f r
  have hl : ((f4L f).drop r).length = 4 - r := by rw [List.length_drop, f4L_len]
  unfold outF
  rw [List.length_take, List.length_append, hl]
  omega
theorem outF_more {hv : List Int} (h : doneB hv = false) (f : F4) {r : Nat} (hr : r < 4) : hv.length < (outF hv f r).length ∧ (outF hv f r).length ≤ hv.length + 4 ∧ (outF hv f r).length ≤ 6 := by
  have h1 := fst_lt h f r
  have h2 := (lenB_in (fstB hv f r)).2
  rw [outF_len h f hr]; omega
theorem outF_take {hv : List Int} (h : doneB hv = false) (f : F4) {r : Nat} (hr : r < 4) : (outF hv f r).take hv.length = hv := by
  rw [outF_eq h f hr, List.take_append_of_le_length (Nat.le_refl _), List.take_length]
theorem byt_f4 {f : F4} (h : F8 f) (i : Nat) : 0 ≤ (f4L f).getD i 0 ∧ (f4L f).getD i 0 ≤ 255 := by
  obtain ⟨h0, h1, h2, h3⟩ := h
  rcases (by omega : i = 0 ∨ i = 1 ∨ i = 2 ∨ i = 3 ∨ 4 ≤ i) with rfl | rfl | rfl | rfl | h
  · exact h0
  · exact h1
  · exact h2
  · exact h3
  · have e : (f4L f).getD i 0 = 0 := by simp only [List.getD, List.getElem?_eq_none (show (f4L f).length ≤ i from h), Option.getD_none]
    rw [e]; omega
theorem byt_out {hv : List Int} {f : F4} (h : Byt hv) (hf : F8 f) (r : Nat) : Byt (outF hv f r) := fun i => by
  unfold outF
  by_cases h1 : i < lenB (fstB hv f r)
  · have e : ((hv ++ (f4L f).drop r).take (lenB (fstB hv f r))).getD i 0 = (hv ++ (f4L f).drop r).getD i 0 := by simp only [List.getD, List.getElem?_take_of_lt h1]
    rw [e]
    by_cases h2 : i < hv.length
    · have e : (hv ++ (f4L f).drop r).getD i 0 = hv.getD i 0 := by simp only [List.getD, List.getElem?_append_left h2]
      rw [e]; exact h i
    · have e : (hv ++ (f4L f).drop r).getD i 0 = (f4L f).getD (r + (i - hv.length)) 0 := by simp only [List.getD, List.getElem?_append_right (Nat.le_of_not_lt h2), List.getElem?_drop]
      rw [e]; exact byt_f4 hf _
  · have e : ((hv ++ (f4L f).drop r).take (lenB (fstB hv f r))).getD i 0 = 0 := by
      simp only [List.getD, List.getElem?_eq_none (show ((hv ++ (f4L f).drop r).take (lenB (fstB hv f r))).length ≤ i by rw [List.length_take]; omega), Option.getD_none]
    rw [e]; omega

/-! ### the reference's loop -/
def outI (hv : List Int) (f : F4) (r i : Nat) : List Int := hv ++ ((f4L f).drop r).take (i - r)
theorem outI_len (hv : List Int) (f : F4) {r i : Nat} (h : r ≤ i) (hi : i ≤ 4) : (outI hv f r i).length = hv.length + (i - r) := by
  unfold outI; rw [List.length_append, List.length_take, List.length_drop, f4L_len]; omega
theorem outI_start (hv : List Int) (f : F4) (r : Nat) : outI hv f r r = hv := by unfold outI; simp
theorem outI_next (hv : List Int) (f : F4) {r i : Nat} (h : r ≤ i) (hi : i < 4) : outI hv f r (i + 1) = outI hv f r i ++ [(f4L f).getD i 0] := by
  unfold outI
  rw [List.append_assoc]
  congr 1
  rw [show i + 1 - r = (i - r) + 1 by omega, List.take_succ_eq_append_getElem (by rw [List.length_drop, f4L_len]; omega)]
  congr 2
  rw [List.getElem_drop]
  have e : r + (i - r) = i := by omega
  simp only [e]
  simp [List.getD, List.getElem?_eq_getElem (show i < (f4L f).length from hi)]
theorem outI_fst {hv : List Int} {f : F4} {r i : Nat} (h : r ≤ i) (hi : i ≤ 4) (h0 : 0 < (outI hv f r i).length) : (outI hv f r i).getD 0 0 = fstB hv f r := by
  rw [outI_len hv f h hi] at h0
  unfold fstB outI
  by_cases h1 : hv.length = 0
  · rw [if_pos h1]
    obtain rfl := List.eq_nil_of_length_eq_zero h1
    simp only [List.length_nil] at h0
    simp only [List.nil_append, List.getD, List.getElem?_take_of_lt (show 0 < i - r by omega), List.getElem?_drop, Nat.add_zero]
  · rw [if_neg h1]
    simp only [List.getD, List.getElem?_append_left (show 0 < hv.length by omega)]
theorem outI_all {hv : List Int} {f : F4} {r : Nat} (hr : r < 4) (h : (outI hv f r 4).length ≤ lenB (fstB hv f r)) : outI hv f r 4 = outF hv f r := by
  unfold outF
  rw [outI_len hv f (by omega) (Nat.le_refl _)] at h
  unfold outI
  have hl : ((f4L f).drop r).length = 4 - r := by rw [List.length_drop, f4L_len]
  rw [List.take_of_length_le (l := (f4L f).drop r) (by omega), List.take_of_length_le (by rw [List.length_append, hl]; omega)]
theorem outI_end {hv : List Int} {f : F4} {r i : Nat} (h : r ≤ i) (hi : i ≤ 4) (hd : hv.length ≤ lenB (fstB hv f r)) (he : (outI hv f r i).length = lenB (fstB hv f r)) : outI hv f r i = outF hv f r := by
  have hl := outI_len hv f h hi
  unfold outF
  rw [← he, hl]
  unfold outI
  rw [List.take_append, List.take_of_length_le (l := hv) (by omega)]
  congr 2
  omega

/-! ### nobody writes -/
/-- memory's bytes from a place on, noughts behind its end -/
def padF (xs : List Int) (a k : Nat) : List Int := (List.range k).map fun i => xs.getD (a + i) 0
theorem padF_len (xs : List Int) (a k : Nat) : (padF xs a k).length = k := by unfold padF; simp
theorem padF_at (xs : List Int) (a : Nat) {k i : Nat} (h : i < k) : (padF xs a k).getD i 0 = xs.getD (a + i) 0 := by
  unfold padF; simp [List.getD, h]
theorem padF_take (xs : List Int) (a : Nat) {k m : Nat} (h : k ≤ m) : (padF xs a m).take k = padF xs a k := by
  unfold padF; rw [← List.map_take, List.take_range, Nat.min_eq_left h]
theorem gran_at (xs : List Int) (g : Nat) {j : Nat} (h : j < 4) : (f4L (granF xs g)).getD j 0 = xs.getD (4 * g + j) 0 := by
  rcases (by omega : j = 0 ∨ j = 1 ∨ j = 2 ∨ j = 3) with rfl | rfl | rfl | rfl <;> rfl
theorem list_ext_getL {a b : List Int} (hl : a.length = b.length) (h : ∀ i, i < a.length → a.getD i 0 = b.getD i 0) : a = b := by
  apply List.ext_getElem hl
  intro i h1 h2
  have := h i h1
  simpa [List.getD, List.getElem?_eq_getElem h1, List.getElem?_eq_getElem h2] using this
theorem fst_pad (xs : List Int) (pc k : Nat) : fstB (padF xs pc k) (granF xs ((pc + k) / 4)) ((pc + k) % 4) = xs.getD pc 0 := by
  unfold fstB
  rw [padF_len]
  split
  · rename_i h
    subst h
    rw [gran_at _ _ (Nat.mod_lt _ (by decide))]
    congr 1
    omega
  · rw [padF_at _ _ (by omega), Nat.add_zero]
theorem out_pad {xs : List Int} {pc k : Nat} (h : doneB (padF xs pc k) = false) : outF (padF xs pc k) (granF xs ((pc + k) / 4)) ((pc + k) % 4) = padF xs pc (min (k + 4 - (pc + k) % 4) (lenB (xs.getD pc 0))) := by
  have hr : (pc + k) % 4 < 4 := Nat.mod_lt _ (by decide)
  have hl := outF_len h (granF xs ((pc + k) / 4)) hr
  have hlt := fst_lt h (granF xs ((pc + k) / 4)) ((pc + k) % 4)
  rw [fst_pad, padF_len] at hl hlt
  apply list_ext_getL
  · rw [hl, padF_len]
  · intro i hi
    rw [hl] at hi
    rw [padF_at _ _ hi]
    unfold outF
    rw [fst_pad]
    generalize lenB (xs.getD pc 0) = K at *
    have e : ((padF xs pc k ++ (f4L (granF xs ((pc + k) / 4))).drop ((pc + k) % 4)).take K).getD i 0 = (padF xs pc k ++ (f4L (granF xs ((pc + k) / 4))).drop ((pc + k) % 4)).getD i 0 := by simp only [List.getD, List.getElem?_take_of_lt (show i < K by omega)]
    rw [e]
    by_cases h2 : i < k
    · have e : (padF xs pc k ++ (f4L (granF xs ((pc + k) / 4))).drop ((pc + k) % 4)).getD i 0 = (padF xs pc k).getD i 0 := by simp only [List.getD, List.getElem?_append_left (show i < (padF xs pc k).length by rw [padF_len]; exact h2)]
      rw [e, padF_at _ _ h2]
    · have e : (padF xs pc k ++ (f4L (granF xs ((pc + k) / 4))).drop ((pc + k) % 4)).getD i 0 = (f4L (granF xs ((pc + k) / 4))).getD ((pc + k) % 4 + (i - k)) 0 := by simp only [List.getD, List.getElem?_append_right (show (padF xs pc k).length ≤ i by rw [padF_len]; omega), List.getElem?_drop, padF_len]
      rw [e, gran_at _ _ (by omega)]
      congr 1
      omega
/-- what is held is as memory is -/
def Clean (xs : List Int) (L : List Ln) : Prop := ∀ x ∈ L, x.f = granF xs x.g.toNat
theorem clean_nil (xs : List Int) : Clean xs [] := fun _ hx => absurd hx List.not_mem_nil
theorem findL_in {L : List Ln} {g : Int} {f : F4} (h : findL L g = some f) : ∃ x ∈ L, x.f = f ∧ x.g = g := by
  unfold findL at h
  rw [Option.map_eq_some_iff] at h
  obtain ⟨x, h1, h2⟩ := h
  have := List.find?_some h1
  exact ⟨x, List.mem_of_find?_eq_some h1, h2, by simpa using this⟩
theorem tak_clean {xs : List Int} {L : List Ln} (h : Clean xs L) {g : Nat} (hg : g < 16384) (hold : Bool) : (takR L xs g hold).f = granF xs g ∧ Clean xs (takR L xs g hold).L ∧ ((takR L xs g hold).is = true → hold = true) := by
  rcases takR_cases L g hold with ⟨f, hf, rfl⟩ | hno
  · rw [takR_held hf]
    obtain ⟨x, hx, rfl, e⟩ := findL_in hf
    refine ⟨?_, h, fun _ => rfl⟩
    have := h x hx
    rw [this, e, Int.toNat_natCast]
  · rw [takR_in hno (by omega)]
    refine ⟨by rw [Int.toNat_natCast], fun x hx => ?_, fun e => by cases e⟩
    rcases takL_mem hx with rfl | hx
    · rfl
    · exact h x hx

end Go.Proofs.YtnpaijbkhmnfpaaGreat

/- What isa.Right answers, for every instruction. -/
namespace Go.Proofs.YtnpaijbkhmnfpaaGreat
open Go.RowKit

abbrev ins (o a b n : Int) : Value := .agg #[.int .u8 o, .int .u8 a, .int .u8 b, .int .i32 n]

/-- whether an instruction is right: its op's number, its fields -/
def rightB (o : Nat) (a b n : Int) : Bool := decide (1 ≤ o ∧ o < 17) && (regB (decide (1 ≤ rg o)) a && regB (decide (2 ≤ rg o)) b && numB (kd o) n)

theorem cell_push {w : World} {b o : Nat} {v : Value} (h : w.cell? ⟨b, o, none⟩ = some v) (ob : Obj) : (w.alloc ob).cell? ⟨b, o, none⟩ = some v :=
  ((new_alloc w ob).cell (p := ⟨b, o, none⟩) (cell_lt h)).trans h
theorem lt_push {b : Nat} {w : World} (h : b < w.heap.size) (o : Obj) : b < (w.alloc o).drew.heap.size := by
  show b < (w.heap.push o).size
  simp; omega
theorem kept_new4 {w w2 : World} {x0 x1 x2 x3 : Value} {t : TypeId} (hb : Below (w.alloc (.cells #[x0, x1, x2, x3] t)).drew.heap.size (w.alloc (.cells #[x0, x1, x2, x3] t)).drew w2) :
    w2.cell? ⟨w.heap.size, 0, none⟩ = some x0 ∧ w2.cell? ⟨w.heap.size, 1, none⟩ = some x1 ∧ w2.cell? ⟨w.heap.size, 2, none⟩ = some x2 ∧ w2.cell? ⟨w.heap.size, 3, none⟩ = some x3 ∧
    w2.frozen? ⟨w.heap.size, 0, none⟩ = false ∧ w2.frozen? ⟨w.heap.size, 1, none⟩ = false ∧ w2.frozen? ⟨w.heap.size, 2, none⟩ = false ∧ w2.frozen? ⟨w.heap.size, 3, none⟩ = false := by
  have hl : w.heap.size < (w.alloc (.cells #[x0, x1, x2, x3] t)).drew.heap.size := by
    show w.heap.size < (w.heap.push _).size
    simp
  refine ⟨(hb.cell (p := ⟨w.heap.size, 0, none⟩) hl).trans ?_, (hb.cell (p := ⟨w.heap.size, 1, none⟩) hl).trans ?_, (hb.cell (p := ⟨w.heap.size, 2, none⟩) hl).trans ?_, (hb.cell (p := ⟨w.heap.size, 3, none⟩) hl).trans ?_, (hb.frozen (p := ⟨w.heap.size, 0, none⟩) hl).trans ?_, (hb.frozen (p := ⟨w.heap.size, 1, none⟩) hl).trans ?_, (hb.frozen (p := ⟨w.heap.size, 2, none⟩) hl).trans ?_, (hb.frozen (p := ⟨w.heap.size, 3, none⟩) hl).trans ?_⟩
  all_goals simp

/-- four cells of a variable -/
def At4 (w : World) (g : Nat) (x0 x1 x2 x3 : Value) : Prop :=
  w.cell? ⟨g, 0, none⟩ = some x0 ∧ w.cell? ⟨g, 1, none⟩ = some x1 ∧ w.cell? ⟨g, 2, none⟩ = some x2 ∧ w.cell? ⟨g, 3, none⟩ = some x3
theorem At4.below {w w' : World} {g : Nat} {x0 x1 x2 x3 : Value} (h : At4 w g x0 x1 x2 x3) (hb : Below w.heap.size w w') : At4 w' g x0 x1 x2 x3 :=
  ⟨(hb.cell (p := ⟨g, 0, none⟩) (cell_lt h.1)).trans h.1, (hb.cell (p := ⟨g, 1, none⟩) (cell_lt h.1)).trans h.2.1, (hb.cell (p := ⟨g, 2, none⟩) (cell_lt h.1)).trans h.2.2.1, (hb.cell (p := ⟨g, 3, none⟩) (cell_lt h.1)).trans h.2.2.2⟩
theorem At4.new (w : World) (x0 x1 x2 x3 : Value) (t : TypeId) : At4 (w.alloc (.cells #[x0, x1, x2, x3] t)) w.heap.size x0 x1 x2 x3 := ⟨by simp, by simp, by simp, by simp⟩
theorem cs_other {w : World} {g i j : Nat} {v : Value} (h : i ≠ j) : (w.setCell ⟨g, i, none⟩ v).cell? ⟨g, j, none⟩ = w.cell? ⟨g, j, none⟩ :=
  World.cell?_setCell_other _ _ _ _ fun e => h (congrArg Addr.off e)
theorem met_A {w1 w2 : World} (hb : Below w1.drew.heap.size w1.drew w2) (x0 x1 x2 x3 : Value) (t : TypeId) :
    At4 (w2.alloc (.cells #[x0, x1, x2, x3] t)) w2.heap.size x0 x1 x2 x3 ∧ Below w1.heap.size w1 (w2.alloc (.cells #[x0, x1, x2, x3] t)) :=
  ⟨At4.new _ _ _ _ _ _, below_alloc (below_step ((Below.refl w1.heap.size w1).drew) hb) _⟩
theorem met_B {w1 w2 : World} {z0 z1 z2 z3 : Value} {t : TypeId} (hb : Below (w1.alloc (.cells #[z0, z1, z2, z3] t)).drew.heap.size (w1.alloc (.cells #[z0, z1, z2, z3] t)).drew w2) (x0 x1 x2 x3 : Value) :
    At4 ((((w2.setCell ⟨w1.heap.size, 0, none⟩ x0).setCell ⟨w1.heap.size, 1, none⟩ x1).setCell ⟨w1.heap.size, 2, none⟩ x2).setCell ⟨w1.heap.size, 3, none⟩ x3) w1.heap.size x0 x1 x2 x3 ∧
    Below w1.heap.size w1 ((((w2.setCell ⟨w1.heap.size, 0, none⟩ x0).setCell ⟨w1.heap.size, 1, none⟩ x1).setCell ⟨w1.heap.size, 2, none⟩ x2).setCell ⟨w1.heap.size, 3, none⟩ x3) := by
  obtain ⟨d0, d1, d2, d3, _⟩ := kept_new4 hb
  refine ⟨⟨?_, ?_, ?_, ?_⟩, ((((below_step (new_alloc w1 _).drew hb).setCell (Nat.le_refl _) _).setCell (Nat.le_refl _) _).setCell (Nat.le_refl _) _).setCell (Nat.le_refl _) _⟩
  · exact (cs_other (by decide)).trans ((cs_other (by decide)).trans ((cs_other (by decide)).trans (World.cell?_setCell_same _ _ _ d0)))
  · exact (cs_other (by decide)).trans ((cs_other (by decide)).trans (World.cell?_setCell_same _ _ _ ((cs_other (by decide)).trans d1)))
  · exact (cs_other (by decide)).trans (World.cell?_setCell_same _ _ _ ((cs_other (by decide)).trans ((cs_other (by decide)).trans d2)))
  · exact World.cell?_setCell_same _ _ _ ((cs_other (by decide)).trans ((cs_other (by decide)).trans ((cs_other (by decide)).trans d3)))

theorem nm_ne (o : Nat) (h1 : 1 ≤ o) (h2 : o < 17) : ((nm o).toList == []) = false := by
  rw [Lib.toList_data]
  refine beq_eq_false_iff_ne.2 fun e => nm_pos o h1 h2 ?_
  generalize nm o = s at e
  cases s with | mk d => simp at e; rw [e]

set_option maxHeartbeats 1000000 in
theorem right_op (o : Nat) (a b n : Int) (w : World) (h1 : 1 ≤ o) (h2 : o < 17) (ha : 0 ≤ a ∧ a ≤ 255) (hb : 0 ≤ b ∧ b ≤ 255) :
    Calls Tryz.prog 99 #[ins o a b n] w fun e w' => e = .returned (.bool (rightB o a b n)) ∧ Below w.heap.size w w' := by
  have hcon := isaName_yes o (w.alloc (.cells #[.int .u8 o, .int .u8 a, .int .u8 b, .int .i32 n] 117)) h2
  have hidx := idx_any o h2
  have hq := nm_ne o h1 h2
  have hr := fun w => holdsRegs_any (nm o) (cd o) (rg o) (kd o) a b w (rg_le o h2) ha hb
  have hn := fun w => holdsNum_any (nm o) (cd o) (rg o) (kd o) n w (kd_in o h2)
  have hR : rightB o a b n = ((regB (decide (1 ≤ rg o)) a && regB (decide (2 ≤ rg o)) b) && numB (kd o) n) := by simp [rightB, h1, h2]
  rw [hR]
  generalize (regB (decide (1 ≤ rg o)) a && regB (decide (2 ≤ rg o)) b) = r1 at *
  generalize numB (kd o) n = r2 at *
  clear hR h1 h2 ha hb
  generalize nm o = s at *
  generalize cd o = c at *
  generalize rg o = r at *
  generalize kd o = q at *
  go_enter Tryz.func99, Tryz.ntmps99
  go_wp2_with fail
  refine hcon.mono ?_
  rintro e w1 ⟨rfl, hb1⟩
  have c0 : w1.cell? ⟨w.heap.size, 0, none⟩ = some (.int .u8 o) := by rw [hb1.cell (p := ⟨w.heap.size, 0, none⟩) (by simp)]; simp
  have l0 : w.heap.size < w1.heap.size := cell_lt c0
  have c1 : ∀ ob, (w1.alloc ob).cell? ⟨w.heap.size, 0, none⟩ = some (.int .u8 o) := cell_push c0
  clear hcon
  go_upto_region 3 with fail
  go_cut [3] from 8 to 11 (fun p wx => ∃ g, p = .pointer (some ⟨g, 0, none⟩) ∧ At4 wx g (.string s) (.string c) (.int .i64 r) (.int .u8 q) ∧ Below w1.heap.size w1 wx)
  case first =>
    go_region_with (go_at_call 96; refine (shapes_any _).mono ?_; rintro e w2 ⟨rfl, hb2⟩; first | (have c9 := (hb2.cell (p := ⟨w.heap.size, 0, none⟩) l0).trans c0; have c8 := cell_push c9; have hA := hb2) | (have c9 := (hb2.cell (p := ⟨w.heap.size, 0, none⟩) (lt_push l0 _)).trans (c1 _); obtain ⟨d0, d1, d2, d3, f0, f1, f2, f3⟩ := kept_new4 hb2; have hB := hb2))
    all_goals
      go_wp2_with fail
      go_meet
      case rel => first | exact ⟨_, rfl, met_A hA _ _ _ _ _⟩ | exact ⟨_, rfl, met_B hB _ _ _ _⟩
  case rest =>
    obtain ⟨g, rfl, hat, hbx⟩ := hcut
    have hbox : At4 wc w.heap.size (.int .u8 o) (.int .u8 a) (.int .u8 b) (.int .i32 n) := ((At4.new w _ _ _ _ 117).below hb1).below hbx
    have hbc := below_step (below_step (new_alloc w _) hb1) hbx
    clear hbx hb1 c0 l0 c1 hidx
    have HA : Hid (At4 wc g (.string s) (.string c) (.int .i64 r) (.int .u8 q)) := hat
    have HB : Hid (At4 wc w.heap.size (.int .u8 o) (.int .u8 a) (.int .u8 b) (.int .i32 n)) := hbox
    obtain ⟨q0, q1, q2, q3⟩ := hat
    obtain ⟨p0, p1, p2, p3⟩ := hbox
    go_wp2_with fail
    refine (hr _).mono ?_
    rintro e w3 ⟨rfl, hb3⟩
    obtain ⟨s0, s1, s2, s3⟩ := HA.out.below hb3
    obtain ⟨t0, t1, t2, t3⟩ := HB.out.below hb3
    have hb4 := below_step hbc hb3
    clear hb3 hbc
    cases r1
    · go_wp2
      go_ret
      exact ⟨rfl, hb4⟩
    · go_wp2_with fail
      refine (hn _).mono ?_
      rintro e w4 ⟨rfl, hb5⟩
      go_wp2
      go_ret
      exact ⟨rfl, below_step hb4 hb5⟩

set_option maxHeartbeats 400000 in
theorem right_zero (a b n : Int) (w : World) :
    Calls Tryz.prog 99 #[ins 0 a b n] w fun e w' => e = .returned (.bool false) ∧ Below w.heap.size w w' := by
  have hcon := isaName_yes 0 (w.alloc (.cells #[.int .u8 0, .int .u8 a, .int .u8 b, .int .i32 n] 117)) (by decide)
  rw [show nm 0 = ⟨#[]⟩ from rfl] at hcon
  go_enter Tryz.func99, Tryz.ntmps99
  go_wp2_with fail
  refine hcon.mono ?_
  rintro e w1 ⟨rfl, hb1⟩
  clear hcon
  go_wp2
  go_ret
  exact ⟨rfl, below_step (new_alloc w _) hb1⟩

set_option maxHeartbeats 400000 in
theorem right_big (o a b n : Int) (w : World) (h1 : 17 ≤ o) (h2 : o ≤ 255) :
    Calls Tryz.prog 99 #[ins o a b n] w fun e w' => e = .returned (.bool false) ∧ Below w.heap.size w w' := by
  have hcon := isaName_no o (w.alloc (.cells #[.int .u8 o, .int .u8 a, .int .u8 b, .int .i32 n] 117)) h1 h2
  go_enter Tryz.func99, Tryz.ntmps99
  go_wp2_with fail
  refine hcon.mono ?_
  rintro e w1 ⟨rfl, hb1⟩
  clear hcon
  go_wp2
  go_ret
  exact ⟨rfl, below_step (new_alloc w _) hb1⟩

theorem right_any (o : Nat) (a b n : Int) (w : World) (ho : o ≤ 255) (ha : 0 ≤ a ∧ a ≤ 255) (hb : 0 ≤ b ∧ b ≤ 255) :
    Calls Tryz.prog 99 #[ins o a b n] w fun e w' => e = .returned (.bool (rightB o a b n)) ∧ Below w.heap.size w w' := by
  by_cases h : 1 ≤ o ∧ o < 17
  · exact right_op o a b n w h.1 h.2 ha hb
  · have hf : rightB o a b n = false := by simp only [rightB, decide_eq_false h, Bool.false_and]
    rw [hf]
    by_cases h0 : o = 0
    · subst h0; exact right_zero a b n w
    · exact right_big o a b n w (by omega) (by omega)
end Go.Proofs.YtnpaijbkhmnfpaaGreat

/- What isa.Encode answers, for every instruction. -/
namespace Go.Proofs.YtnpaijbkhmnfpaaGreat
open Go.RowKit

theorem cd_cells (o : Nat) (h : o < 17) : Lib.byteCells (cd o).data.toList = byts (cdL o) := by
  have : ∀ o : Fin 17, Lib.byteCells (cd o.1).data.toList = byts (cdL o.1) := fun o => by
    obtain ⟨o, ho⟩ := o
    revert ho
    exact fun ho => match o, ho with
      | 0, _ => rfl | 1, _ => rfl | 2, _ => rfl | 3, _ => rfl | 4, _ => rfl | 5, _ => rfl | 6, _ => rfl | 7, _ => rfl | 8, _ => rfl
      | 9, _ => rfl | 10, _ => rfl | 11, _ => rfl | 12, _ => rfl | 13, _ => rfl | 14, _ => rfl | 15, _ => rfl | 16, _ => rfl
      | n + 17, h => absurd h (by omega)
  exact this ⟨o, h⟩

theorem copy_code {w1 : World} {B g n : Nat} (c : ByteArray) (cs : List Int) (hcs : Lib.byteCells c.data.toList = byts cs) (hsz : c.size = cs.length) (hle : cs.length ≤ n) (hown : Own w1 B g n (List.replicate n 0)) :
    ∃ w2, (Builtin.copy_ #[26, 9] 3 #[.slice (some ⟨g, 0, none⟩) n n, .string c]).run Tryz.prog w1 = .ok (.int .i64 cs.length) w2 ∧ Own w2 B g n (cs ++ List.replicate (n - cs.length) 0) ∧ ∀ w0, Below B w0 w1 → Below B w0 w2 := by
  have hwh := Own.whole (w := w1) (B := B) (g := g) (xs := List.replicate n 0) (by simpa using hown)
  obtain ⟨cur, h1, h2, h3, h4, h5, h6⟩ := hown.parts
  have hr := Lib.run_copy_row_string (P := Tryz.prog) w1 26 9 3 5 g 0 n n c (byts (List.replicate n 0)).toArray 5 Tryz.underlying26 Tryz.size5 hwh (by omega) (by simp; omega)
  rw [hcs] at hr
  refine ⟨_, ?_, Own.mk (cur := (byts (cs ++ List.replicate (n - cs.length) 0)).toArray) h1 (setRow_heap w1 g _ _ 5 (0, 0) h2) (by simp; omega) h4 (by simp; omega) (by rw [List.take_of_length_le (by simp)]), fun w0 hb => below_setRow hb h1 _⟩
  rw [hr, hsz]
  have e : (byts (List.replicate n 0)).toArray.toList.take 0 ++ byts cs ++ (byts (List.replicate n 0)).toArray.toList.drop (0 + cs.length) = byts (cs ++ List.replicate (n - cs.length) 0) := by
    simp [byts]
  rw [e]
  rfl

theorem cell_far {w : World} {g h i j : Nat} {v : Value} (hne : h ≠ g) : (w.setCell ⟨h, i, none⟩ v).cell? ⟨g, j, none⟩ = w.cell? ⟨g, j, none⟩ :=
  World.cell?_setCell_other _ _ _ _ fun e => hne (congrArg Addr.block e)
/-- the list with the first k registers laid -/
def stL (base : List Int) (cl : Nat) (a b : Int) (k : Nat) : List Int := if k = 0 then base else if k = 1 then base.set cl a else (base.set cl a).set (cl + 1) b
theorem stL_length (base : List Int) (cl : Nat) (a b : Int) (k : Nat) : (stL base cl a b k).length = base.length := by
  unfold stL
  split
  · rfl
  · split <;> simp
/-- a store elsewhere -/
theorem At4.store {w : World} {g h i : Nat} {v x0 x1 x2 x3 : Value} (ha : At4 w g x0 x1 x2 x3) (hne : h ≠ g) : At4 (w.setCell ⟨h, i, none⟩ v) g x0 x1 x2 x3 :=
  ⟨(cell_far hne).trans ha.1, (cell_far hne).trans ha.2.1, (cell_far hne).trans ha.2.2.1, (cell_far hne).trans ha.2.2.2⟩

/-- an int32's four bytes, the lowest first -/
def le4 (n : Int) : List Int := [n % 4294967296 % 256, n % 4294967296 / 256 % 256, n % 4294967296 / 65536 % 256, n % 4294967296 / 16777216]
/-- an instruction's bytes -/
def encG (cs : List Int) (r : Nat) (q a b n : Int) : List Int := cs ++ (if 1 ≤ r then [a] else []) ++ (if 2 ≤ r then [b] else []) ++ (if q = 0 then [] else le4 n)
def encL (o : Nat) (a b n : Int) : List Int := encG (cdL o) (rg o) (kd o) a b n

theorem encG_zero (cs : List Int) (k : Nat) (a b n : Int) (h : k ≤ 2) : stL (cs ++ List.replicate k 0) cs.length a b k = encG cs k 0 a b n := by
  obtain rfl | rfl | rfl : k = 0 ∨ k = 1 ∨ k = 2 := by omega
  · simp [stL, encG]
  · simp [stL, encG]
  · simp [stL, encG, List.replicate]
theorem put_tail (xs : List Int) (v : Int) : putL (xs ++ [0, 0, 0, 0]) xs.length v = xs ++ [v % 256, v / 256 % 256, v / 65536 % 256, v / 16777216] := by
  simp [putL]
theorem encG_num (cs : List Int) (k : Nat) (q a b n : Int) (h : k ≤ 2) (hq : q ≠ 0) : putL (stL (cs ++ List.replicate (k + 4) 0) cs.length a b k) (cs.length + k) (n % 4294967296) = encG cs k q a b n := by
  obtain rfl | rfl | rfl : k = 0 ∨ k = 1 ∨ k = 2 := by omega
  · have e : stL (cs ++ List.replicate (0 + 4) 0) cs.length a b 0 = cs ++ [0, 0, 0, 0] := by simp [stL, List.replicate]
    rw [e, Nat.add_zero, put_tail]
    simp [encG, le4, hq]
  · have e : stL (cs ++ List.replicate (1 + 4) 0) cs.length a b 1 = (cs ++ [a]) ++ [0, 0, 0, 0] := by simp [stL, List.replicate]
    rw [e, show cs.length + 1 = (cs ++ [a]).length by simp, put_tail]
    simp [encG, le4, hq]
  · have e : stL (cs ++ List.replicate (2 + 4) 0) cs.length a b 2 = (cs ++ [a, b]) ++ [0, 0, 0, 0] := by simp [stL, List.replicate]
    rw [e, show cs.length + 2 = (cs ++ [a, b]).length by simp, put_tail]
    simp [encG, le4, hq]

set_option maxHeartbeats 2000000 in
set_option maxRecDepth 4000 in
theorem encode_gen (s c : ByteArray) (cs : List Int) (r L : Nat) (q o a b n : Int) (w : World)
    (hidx : ∀ w, (Instr.index 175 (.agg tab) (.int .u8 o)).run Tryz.prog w = .ok (.agg #[.string s, .string c, .int .i64 r, .int .u8 q]) w)
    (hright : ∀ w, Calls Tryz.prog 99 #[ins o a b n] w fun e w' => e = .returned (.bool true) ∧ Below w.heap.size w w')
    (hlen : ∀ w, Calls Tryz.prog 100 #[shp s c r q] w fun e w' => e = .returned (.int .i64 L) ∧ Below w.heap.size w w')
    (hcs : Lib.byteCells c.data.toList = byts cs) (hsz : c.size = cs.length) (hcl : cs.length ≤ 5) (hr : r ≤ 2) (hq : q = 0 ∨ q = 1 ∨ q = 2) (hL : L = cs.length + r + if q = 0 then 0 else 4) :
    Calls Tryz.prog 127 #[ins o a b n] w fun e w' => ∃ g cap, e = .returned (.tuple #[.slice (some ⟨g, 0, none⟩) L cap, .int .i64 0]) ∧ Own w' w.heap.size g cap (encG cs r q a b n) ∧ Below w.heap.size w w' := by
  obtain ⟨i0, hi, hz0, hz1, hz2⟩ := info_parts Tryz.info5
  have HS : Hid (c.size = cs.length) := hsz
  have HLL : Hid (L = cs.length + r + if q = 0 then 0 else 4) := hL
  have hL11 : L ≤ 11 := by rw [hL]; split <;> omega
  clear hL hsz
  go_enter Tryz.func127, Tryz.ntmps127
  go_wp2_with fail
  refine (hright _).mono ?_
  rintro e w1 ⟨rfl, hb1⟩
  have hbox := (At4.new w (.int .u8 o) (.int .u8 a) (.int .u8 b) (.int .i32 n) 117).below hb1
  have hbw := below_step (new_alloc w _) hb1
  clear hb1 hright
  have c0 := hbox.1
  have l0 : w.heap.size < w1.heap.size := cell_lt c0
  have c1 : ∀ ob, (w1.alloc ob).cell? ⟨w.heap.size, 0, none⟩ = some (.int .u8 o) := cell_push c0
  go_upto_region 3 with fail
  go_cut [4] from 12 to 15 (fun p wx => ∃ g, p = .pointer (some ⟨g, 0, none⟩) ∧ At4 wx g (.string s) (.string c) (.int .i64 r) (.int .u8 q) ∧ Below w1.heap.size w1 wx)
  case first =>
    go_region_with (go_at_call 96; refine (shapes_any _).mono ?_; rintro e w2 ⟨rfl, hb2⟩; first | (have c9 := (hb2.cell (p := ⟨w.heap.size, 0, none⟩) l0).trans c0; have c8 := cell_push c9; have hA := hb2) | (have c9 := (hb2.cell (p := ⟨w.heap.size, 0, none⟩) (lt_push l0 _)).trans (c1 _); obtain ⟨d0, d1, d2, d3, f0, f1, f2, f3⟩ := kept_new4 hb2; have hB := hb2))
    all_goals
      go_wp2_with fail
      go_meet
      case rel => first | exact ⟨_, rfl, met_A hA _ _ _ _ _⟩ | exact ⟨_, rfl, met_B hB _ _ _ _⟩
  case rest =>
    obtain ⟨g, rfl, hat, hbx⟩ := hcut
    have hbox2 := hbox.below hbx
    have hbc := below_step hbw hbx
    clear hbx hbw hbox c0 l0 c1 hidx
    have HA : Hid (At4 wc g (.string s) (.string c) (.int .i64 r) (.int .u8 q)) := hat
    have HB : Hid (At4 wc w.heap.size (.int .u8 o) (.int .u8 a) (.int .u8 b) (.int .i32 n)) := hbox2
    clear hbox2
    obtain ⟨q0, q1, q2, q3⟩ := hat
    go_wp2_with fail
    refine (hlen _).mono ?_
    rintro e w3 ⟨rfl, hb3⟩
    have HA3 : Hid (At4 w3 g (.string s) (.string c) (.int .i64 r) (.int .u8 q)) := HA.out.below hb3
    have HB3 : Hid (At4 w3 w.heap.size (.int .u8 o) (.int .u8 a) (.int .u8 b) (.int .i32 n)) := HB.out.below hb3
    have hb4 := below_step hbc hb3
    clear hb3 hbc HA HB q0 q1 q2 q3 hlen
    go_wp2_with (at_make; refine wpList_make_full _ rfl _ _ 26 rfl _ 5 i0 (.int .u8 0) 1 Tryz.underlying26 hi hz0 hz1 _ _ _ _ L rfl rfl rfl rfl (by rw [hz2]; omega) (by unfold maxLen; omega) (Nat.le_refl _) ?_; intro w4 hown hgrow; have hb5 := (Below.refl w3.heap.size w3).grown hgrow (Nat.le_refl _) (by simp); obtain ⟨w5, hcp, hown2, hb6⟩ := copy_code c cs hcs HS.out (by have := HLL.out; omega) (Own.of_made hown); have hb7 := hb6 _ hb5; obtain ⟨q0, q1, q2, q3⟩ := HA3.out.below hb5; have HA5 : Hid (At4 w5 g (.string s) (.string c) (.int .i64 r) (.int .u8 q)) := HA3.out.below hb7; have HB5 : Hid (At4 w5 w.heap.size (.int .u8 o) (.int .u8 a) (.int .u8 b) (.int .i32 n)) := HB3.out.below hb7; obtain ⟨p0, p1, p2, p3⟩ := HB3.out.below hb7; have q5 := cell_push HA5.out.2.2.1; have hb8 := below_step hb4 hb7; have HO : Hid (Own w5 w3.heap.size w3.heap.size L (cs ++ List.replicate (L - cs.length) 0)) := hown2; clear hown hgrow hb5 hb6 hb7 hown2)
    have HO6 : Hid (Own (w5.alloc (.cells #[.int .u8 a, .int .u8 b] 197)) w3.heap.size w3.heap.size L (cs ++ List.replicate (L - cs.length) 0)) := HO.out.below (new_alloc _ _)
    have HA6 : Hid (At4 (w5.alloc (.cells #[.int .u8 a, .int .u8 b] 197)) g (.string s) (.string c) (.int .i64 r) (.int .u8 q)) := HA5.out.below (new_alloc _ _)
    have HB6 : Hid (At4 (w5.alloc (.cells #[.int .u8 a, .int .u8 b] 197)) w.heap.size (.int .u8 o) (.int .u8 a) (.int .u8 b) (.int .i32 n)) := HB5.out.below (new_alloc _ _)
    have hb9 := below_alloc hb8 (.cells #[.int .u8 a, .int .u8 b] 197)
    have m0 : (w5.alloc (.cells #[.int .u8 a, .int .u8 b] 197)).cell? ⟨w5.heap.size, 0, none⟩ = some (.int .u8 a) := by simp
    have m1 : (w5.alloc (.cells #[.int .u8 a, .int .u8 b] 197)).cell? ⟨w5.heap.size, 1, none⟩ = some (.int .u8 b) := by simp
    have hG : w3.heap.size < w5.heap.size := HO.out.lt
    have hg3 : g < w3.heap.size := cell_lt HA3.out.1
    have hw3 : w.heap.size < w3.heap.size := cell_lt HB3.out.1
    clear q0 q1 q2 q3 p0 p1 p2 p3 q5 hb4 HO HA5 HB5 HA3 HB3 hcp hb8 hcs HS w1 wc
    generalize w5.alloc (.cells #[.int .u8 a, .int .u8 b] 197) = w6 at *
    generalize w5.heap.size = g7 at *
    generalize w3.heap.size = G at *
    clear w3 w4 w5
    have HBL : Hid ((cs ++ List.replicate (L - cs.length) 0).length = L) := by
      have := HLL.out
      show (cs ++ List.replicate (L - cs.length) 0).length = L
      simp; omega
    generalize hbase : cs ++ List.replicate (L - cs.length) 0 = base at *
    have HBASE : Hid (cs ++ List.replicate (L - cs.length) 0 = base) := hbase
    clear hbase
    go_loopw [30] (fun i wr => ∃ k : Nat, k ≤ r ∧ i = .int .i64 k ∧ Own wr G G L (stL base cs.length a b k) ∧ At4 wr g (.string s) (.string c) (.int .i64 r) (.int .u8 q) ∧ At4 wr w.heap.size (.int .u8 o) (.int .u8 a) (.int .u8 b) (.int .i32 n) ∧ wr.cell? ⟨g7, 0, none⟩ = some (.int .u8 a) ∧ wr.cell? ⟨g7, 1, none⟩ = some (.int .u8 b) ∧ Below w.heap.size w wr) (fun i _ => r - (intOf i).toNat)
    case atStart => exact ⟨0, Nat.zero_le _, rfl, HO6.out, HA6.out, HB6.out, m0, m1, hb9⟩
    case round =>
      obtain ⟨k, hk, rfl, hown, hat, hbox, k0, k1, hbk⟩ := hrel
      clear HO6 HA6 HB6 m0 m1 hb9
      by_cases hlt : k < r
      · have hkl : cs.length + k < L := by have := HLL.out; omega
        have d0 := hown.cell (cs.length + k) (by rw [stL_length, HBL.out]; exact hkl)
        have f0 := hown.free (cs.length + k)
        generalize (stL base cs.length a b k).getD (cs.length + k) 0 = z at *
        obtain rfl | rfl : k = 0 ∨ k = 1 := by omega
        · simp only [Nat.add_zero] at d0 f0 hkl
          go_wp2
          go_roundw
          case rel => exact ⟨1, by omega, by go_num, hown.store cs.length a, hat.store (by omega), hbox.store (by omega), (cell_far (by omega)).trans k0, (cell_far (by omega)).trans k1, hbk.setCell (Nat.le_of_lt hw3) _⟩
          case measure => simp [intOf]; omega
        · go_wp2
          go_roundw
          case rel => exact ⟨2, by omega, by go_num, hown.store (cs.length + 1) b, hat.store (by omega), hbox.store (by omega), (cell_far (by omega)).trans k0, (cell_far (by omega)).trans k1, hbk.setCell (Nat.le_of_lt hw3) _⟩
          case measure => simp [intOf]; omega
      · obtain rfl : k = r := by omega
        have HA : Hid (At4 wr g (.string s) (.string c) (.int .i64 k) (.int .u8 q)) := hat
        have HB : Hid (At4 wr w.heap.size (.int .u8 o) (.int .u8 a) (.int .u8 b) (.int .i32 n)) := hbox
        obtain ⟨q0, q1, q2, q3⟩ := hat
        obtain ⟨p0, p1, p2, p3⟩ := hbox
        by_cases hq0 : q = 0
        · subst hq0
          go_wp2
          go_ret2
          have hb : base = cs ++ List.replicate k 0 := by rw [← HBASE.out, show L - cs.length = k by have := HLL.out; simp at this; omega]
          rw [hb, encG_zero cs k a b n (by omega)] at hown
          exact ⟨_, _, rfl, hown.lower (Nat.le_of_lt hw3), hbk⟩
        · have hq1 : (q == 0) = false := by simpa using hq0
          have hLk : L = cs.length + k + 4 := by have := HLL.out; rw [if_neg hq0] at this; exact this
          have hb : base = cs ++ List.replicate (k + 4) 0 := by rw [← HBASE.out, show L - cs.length = k + 4 by omega]
          have HLk : Hid (L = cs.length + k + 4) := hLk
          clear hLk
          go_wp2_with fail
          refine (put32_ex _ L L (cs.length + k) (n % 4294967296) (stL base cs.length a b k) _ (by rw [stL_length, HBL.out]) (by omega) hown.row (by omega) (by omega) (by have := HLk.out; omega)).mono ?_
          rw [show ((cs.length : Int) + (k : Int)).toNat = cs.length + k by omega, hb, encG_num cs k q a b n (by omega) hq0]
          rintro e w7 ⟨g8, rfl, hown7, hb7⟩
          go_wp2
          go_ret2
          exact ⟨_, _, rfl, hown7.lower hbk.size, below_step hbk hb7⟩

theorem encG_length (cs : List Int) (r : Nat) (q a b n : Int) (hr : r ≤ 2) : (encG cs r q a b n).length = cs.length + r + if q = 0 then 0 else 4 := by
  obtain rfl | rfl | rfl : r = 0 ∨ r = 1 ∨ r = 2 := by omega
  all_goals (by_cases hq : q = 0 <;> simp [encG, le4, hq])
theorem encL_length (o : Nat) (a b n : Int) (h : o < 17) : (encL o a b n).length = lenN o := encG_length _ _ _ _ _ _ (rg_le o h)

theorem encode_yes (o : Nat) (a b n : Int) (w : World) (ha : 0 ≤ a ∧ a ≤ 255) (hb : 0 ≤ b ∧ b ≤ 255) (hR : rightB o a b n = true) :
    Calls Tryz.prog 127 #[ins o a b n] w fun e w' => ∃ g cap, e = .returned (.tuple #[.slice (some ⟨g, 0, none⟩) (lenN o) cap, .int .i64 0]) ∧ Own w' w.heap.size g cap (encL o a b n) ∧ Below w.heap.size w w' := by
  have ho : 1 ≤ o ∧ o < 17 := by
    simp only [rightB, Bool.and_eq_true, decide_eq_true_eq] at hR
    exact hR.1
  have hl := cdL_len o ho.2
  refine encode_gen (nm o) (cd o) (cdL o) (rg o) (lenN o) (kd o) o a b n w (idx_any o ho.2) (fun w => ?_) (length_op o ho.2) (cd_cells o ho.2) (cd_size o ho.2) hl (rg_le o ho.2) (kd_in o ho.2) rfl
  have := right_op o a b n w ho.1 ho.2 ha hb
  rw [hR] at this
  exact this

set_option maxHeartbeats 400000 in
theorem encode_no (o : Nat) (a b n : Int) (w : World) (ho : o ≤ 255) (ha : 0 ≤ a ∧ a ≤ 255) (hb : 0 ≤ b ∧ b ≤ 255) (hR : rightB o a b n = false) :
    Calls Tryz.prog 127 #[ins o a b n] w fun e w' => e = .returned (.tuple #[.slice none 0 0, .int .i64 2]) ∧ Below w.heap.size w w' := by
  have hcon := right_any o a b n (w.alloc (.cells #[.int .u8 o, .int .u8 a, .int .u8 b, .int .i32 n] 117)) ho ha hb
  rw [hR] at hcon
  clear hR
  go_enter Tryz.func127, Tryz.ntmps127
  go_wp2_with fail
  refine hcon.mono ?_
  rintro e w1 ⟨rfl, hb1⟩
  clear hcon
  go_wp2
  go_ret2
  exact ⟨rfl, below_step (new_alloc w _) hb1⟩
end Go.Proofs.YtnpaijbkhmnfpaaGreat

/- What isa's fields, Jump and Quiet answer. -/
namespace Go.Proofs.YtnpaijbkhmnfpaaGreat
open Go.RowKit

def fldA (cl r : Nat) (xs : List Int) : Int := if 1 ≤ r then xs.getD cl 0 else 0
def fldB (cl r : Nat) (xs : List Int) : Int := if 2 ≤ r then xs.getD (cl + 1) 0 else 0
def fldN (cl r : Nat) (q : Int) (xs : List Int) : Int := if q = 0 then 0 else wrap32 (n4 xs (cl + r))

set_option maxHeartbeats 2000000 in
theorem fields_gen0 (s c : ByteArray) (r : Nat) (b o n cp : Nat) (xs : List Int) (w : World) (hn : n ≤ 140737488355328) (hr2 : r ≤ 2) (hl : c.size + r ≤ n) (hcell : ∀ i, i < n → w.cell? ⟨b, o + i, none⟩ = some (.int .u8 (xs.getD i 0))) :
    Calls Tryz.prog 98 #[shp s c r 0, .slice (some ⟨b, o, none⟩) n cp] w fun e w' => e = .returned (ins 0 (fldA c.size r xs) (fldB c.size r xs) 0) ∧ Below w.heap.size w w' := by
  have HC : Hid (∀ i, i < n → ∀ A B C, (((w.alloc A).alloc B).alloc C).cell? ⟨b, o + i, none⟩ = some (.int .u8 (xs.getD i 0))) := fun i hi A B C => cell_push (cell_push (cell_push (hcell i hi) A) B) C
  clear hcell
  obtain rfl | rfl | rfl : r = 0 ∨ r = 1 ∨ r = 2 := by omega
  · have hA : fldA c.size 0 xs = 0 := rfl
    have hB : fldB c.size 0 xs = 0 := rfl
    rw [hA, hB]
    clear hA hB
    go_enter Tryz.func98, Tryz.ntmps98
    go_wp2
    refine wp_loop_rounds 1 ?_
    rw [rounds_succ]; go_wp2
    exact bodyPost_ret (v := ins 0 0 0 0) (by simp [results, Tryz.results98, go_sem]) rfl ⟨rfl, below_alloc (below_alloc (below_alloc (new_alloc _ _) _) _) _⟩
  · have c0 := HC.out c.size (by omega)
    obtain ⟨z0, e0⟩ : ∃ z, z = xs.getD c.size 0 := ⟨_, rfl⟩
    rw [← e0] at c0
    have E0 : Hid (z0 = xs.getD c.size 0) := e0
    clear e0
    have hA : fldA c.size 1 xs = z0 := E0.out.symm
    have hB : fldB c.size 1 xs = 0 := rfl
    rw [hA, hB]
    clear hA hB
    go_enter Tryz.func98, Tryz.ntmps98
    go_wp2
    refine wp_loop_rounds 2 ?_
    rw [rounds_succ]; go_wp2
    rw [rounds_succ]; go_wp2
    exact bodyPost_ret (v := ins 0 z0 0 0) (by simp [results, Tryz.results98, go_sem]) rfl ⟨rfl, below_alloc (below_alloc (below_alloc (new_alloc _ _) _) _) _⟩
  · have c0 := HC.out c.size (by omega)
    have c1 := HC.out (c.size + 1) (by omega)
    obtain ⟨z0, e0⟩ : ∃ z, z = xs.getD c.size 0 := ⟨_, rfl⟩
    rw [← e0] at c0
    have E0 : Hid (z0 = xs.getD c.size 0) := e0
    clear e0
    obtain ⟨z1, e1⟩ : ∃ z, z = xs.getD (c.size + 1) 0 := ⟨_, rfl⟩
    rw [← e1] at c1
    have E1 : Hid (z1 = xs.getD (c.size + 1) 0) := e1
    clear e1
    have hA : fldA c.size 2 xs = z0 := E0.out.symm
    have hB : fldB c.size 2 xs = z1 := E1.out.symm
    rw [hA, hB]
    clear hA hB
    go_enter Tryz.func98, Tryz.ntmps98
    go_wp2
    refine wp_loop_rounds 3 ?_
    rw [rounds_succ]; go_wp2
    rw [rounds_succ]; go_wp2
    rw [rounds_succ]; go_wp2
    exact bodyPost_ret (v := ins 0 z0 z1 0) (by simp [results, Tryz.results98, go_sem]) rfl ⟨rfl, below_alloc (below_alloc (below_alloc (new_alloc _ _) _) _) _⟩

set_option maxHeartbeats 2000000 in
theorem fields_genN (s c : ByteArray) (r : Nat) (q : Int) (b o n cp : Nat) (xs : List Int) (w : World) (hx : xs.length = n) (hn : n ≤ 140737488355328) (hby : Byt xs) (hr2 : r ≤ 2) (hq : q = 1 ∨ q = 2) (hl : c.size + r + 4 ≤ n) (hcell : ∀ i, i < n → w.cell? ⟨b, o + i, none⟩ = some (.int .u8 (xs.getD i 0))) :
    Calls Tryz.prog 98 #[shp s c r q, .slice (some ⟨b, o, none⟩) n cp] w fun e w' => e = .returned (ins 0 (fldA c.size r xs) (fldB c.size r xs) (wrap32 (n4 xs (c.size + r)))) ∧ Below w.heap.size w w' := by
  have HC : Hid (∀ i, i < n → ∀ A B C, (((w.alloc A).alloc B).alloc C).cell? ⟨b, o + i, none⟩ = some (.int .u8 (xs.getD i 0))) := fun i hi A B C => cell_push (cell_push (cell_push (hcell i hi) A) B) C
  have hrow : Row w (some ⟨b, o, none⟩) xs := fun _ => ⟨b, o, rfl, fun i hi => hcell i (by omega)⟩
  have HX : Hid (xs.length = n) := hx
  clear hcell hx
  obtain ⟨nn, en⟩ : ∃ z, z = wrap32 (n4 xs (c.size + r)) := ⟨_, rfl⟩
  rw [← en]
  have EN : Hid (nn = wrap32 (n4 xs (c.size + r))) := en
  clear en
  have hq1 : (q != 0) = true := by rcases hq with rfl | rfl <;> rfl
  clear hq
  obtain rfl | rfl | rfl : r = 0 ∨ r = 1 ∨ r = 2 := by omega
  · have hA : fldA c.size 0 xs = 0 := rfl
    have hB : fldB c.size 0 xs = 0 := rfl
    rw [hA, hB]
    clear hA hB
    go_enter Tryz.func98, Tryz.ntmps98
    go_wp2
    refine wp_loop_rounds 1 ?_
    rw [rounds_succ]; go_wp2_with fail
    refine (i32_yes _ n cp c.size xs _ HX.out (by omega) (hrow.below (below_alloc (below_alloc (below_alloc (new_alloc _ _) _) _) _)) hby (by omega) (by omega)).mono ?_
    rw [show ((c.size : Int)).toNat = c.size + 0 by omega, ← EN.out]
    rintro e w9 ⟨rfl, rfl⟩
    go_wp2
    exact bodyPost_ret (v := ins 0 0 0 nn) (by simp [results, Tryz.results98, go_sem]) rfl ⟨rfl, below_alloc (below_alloc (below_alloc (new_alloc _ _) _) _) _⟩
  · have c0 := HC.out c.size (by omega)
    obtain ⟨z0, e0⟩ : ∃ z, z = xs.getD c.size 0 := ⟨_, rfl⟩
    rw [← e0] at c0
    have E0 : Hid (z0 = xs.getD c.size 0) := e0
    clear e0
    have hA : fldA c.size 1 xs = z0 := E0.out.symm
    have hB : fldB c.size 1 xs = 0 := rfl
    rw [hA, hB]
    clear hA hB
    go_enter Tryz.func98, Tryz.ntmps98
    go_wp2
    refine wp_loop_rounds 2 ?_
    rw [rounds_succ]; go_wp2
    rw [rounds_succ]; go_wp2_with fail
    refine (i32_yes _ n cp (c.size + 1) xs _ HX.out (by omega) (hrow.below (below_alloc (below_alloc (below_alloc (new_alloc _ _) _) _) _)) hby (by omega) (by omega)).mono ?_
    rw [show ((c.size : Int) + 1).toNat = c.size + 1 by omega, ← EN.out]
    rintro e w9 ⟨rfl, rfl⟩
    go_wp2
    exact bodyPost_ret (v := ins 0 z0 0 nn) (by simp [results, Tryz.results98, go_sem]) rfl ⟨rfl, below_alloc (below_alloc (below_alloc (new_alloc _ _) _) _) _⟩
  · have c0 := HC.out c.size (by omega)
    have c1 := HC.out (c.size + 1) (by omega)
    obtain ⟨z0, e0⟩ : ∃ z, z = xs.getD c.size 0 := ⟨_, rfl⟩
    rw [← e0] at c0
    have E0 : Hid (z0 = xs.getD c.size 0) := e0
    clear e0
    obtain ⟨z1, e1⟩ : ∃ z, z = xs.getD (c.size + 1) 0 := ⟨_, rfl⟩
    rw [← e1] at c1
    have E1 : Hid (z1 = xs.getD (c.size + 1) 0) := e1
    clear e1
    have hA : fldA c.size 2 xs = z0 := E0.out.symm
    have hB : fldB c.size 2 xs = z1 := E1.out.symm
    rw [hA, hB]
    clear hA hB
    go_enter Tryz.func98, Tryz.ntmps98
    go_wp2
    refine wp_loop_rounds 3 ?_
    rw [rounds_succ]; go_wp2
    rw [rounds_succ]; go_wp2
    rw [rounds_succ]; go_wp2_with fail
    refine (i32_yes _ n cp (c.size + 2) xs _ HX.out (by omega) (hrow.below (below_alloc (below_alloc (below_alloc (new_alloc _ _) _) _) _)) hby (by omega) (by omega)).mono ?_
    rw [show ((c.size : Int) + 2).toNat = c.size + 2 by omega, ← EN.out]
    rintro e w9 ⟨rfl, rfl⟩
    go_wp2
    exact bodyPost_ret (v := ins 0 z0 z1 nn) (by simp [results, Tryz.results98, go_sem]) rfl ⟨rfl, below_alloc (below_alloc (below_alloc (new_alloc _ _) _) _) _⟩
end Go.Proofs.YtnpaijbkhmnfpaaGreat
