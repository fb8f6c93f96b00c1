/- What the chapter on fetch says, as lists. -/
import Derived.Test.YteeeedphhaphpaaTakR
import Derived.Test.YteeeedphhaphpaaOps
namespace Go.Proofs.Yteeeedphhaphpaa
open Go.RowKit Go.Maps

/-! ### how long an instruction is, by its first byte -/
def opB (z : Int) : Nat := ((List.range 17).find? fun k => decide (1 ≤ k) && decide (fb k = z)).getD 0
def lenB (z : Int) : Nat := if opB z = 0 then 1 else lenN (opB z)
theorem opB_fb (o : Nat) (h1 : 1 ≤ o) (h2 : o < 17) : opB (fb o) = o := by
  have : ∀ k : Fin 17, 1 ≤ k.1 → opB (fb k.1) = k.1 := by decide +kernel
  exact this ⟨o, h2⟩ h1
theorem opB_no (z : Int) (h : ∀ o, 1 ≤ o → o < 17 → fb o ≠ z) : opB z = 0 := by
  unfold opB
  rw [List.find?_eq_none.2]
  · rfl
  · intro k hk
    simp only [List.mem_range] at hk
    simp only [Bool.and_eq_true, decide_eq_true_eq, not_and]
    exact fun h1 => h k h1 hk
theorem opB_cases (z : Int) : (∃ o, 1 ≤ o ∧ o < 17 ∧ fb o = z) ∨ ∀ o, 1 ≤ o → o < 17 → fb o ≠ z := by
  by_cases h : ∃ o, 1 ≤ o ∧ o < 17 ∧ fb o = z
  · exact .inl h
  · exact .inr fun o h1 h2 h3 => h ⟨o, h1, h2, h3⟩
theorem lenB_fb (o : Nat) (h1 : 1 ≤ o) (h2 : o < 17) : lenB (fb o) = lenN o := by
  unfold lenB; rw [opB_fb o h1 h2, if_neg (by omega)]
theorem lenB_no (z : Int) (h : ∀ o, 1 ≤ o → o < 17 → fb o ≠ z) : lenB z = 1 := by
  unfold lenB; rw [opB_no z h, if_pos rfl]
theorem lenB_in (z : Int) : 1 ≤ lenB z ∧ lenB z ≤ 6 := by
  rcases opB_cases z with ⟨o, h1, h2, rfl⟩ | h
  · rw [lenB_fb o h1 h2]; exact lenN_in o h1 h2
  · rw [lenB_no z h]; omega
theorem length_any (y : Int) (w : World) : Calls Try.prog 25 #[.int .u8 y] w fun e w' => e = .returned (.int .i64 (lenB y)) ∧ Below w.heap.size w w' := by
  rcases opB_cases y with ⟨o, h1, h2, rfl⟩ | h
  · rw [lenB_fb o h1 h2]; exact len_yes o w h1 h2
  · rw [lenB_no y h]; exact len_no y w h

/-! ### a step -/
def f4L (f : F4) : List Int := [f.a, f.b, f.c, f.d]
/-- the instruction is there -/
def doneB (hv : List Int) : Bool := decide (0 < hv.length) && decide (lenB (hv.getD 0 0) ≤ hv.length)
def fstB (hv : List Int) (f : F4) (r : Nat) : Int := if hv.length = 0 then (f4L f).getD r 0 else hv.getD 0 0
def outF (hv : List Int) (f : F4) (r : Nat) : List Int := (hv ++ (f4L f).drop r).take (lenB (fstB hv f r))
/-- what a step answers: the bytes, the granule, whether it was held, the error, what is held behind it -/
structure Fs where
  out : List Int
  g : Int
  is : Bool
  e : Int
  L : List Ln
def stpR (L : List Ln) (xs : List Int) (pc : Nat) (hv : List Int) (hold : Bool) : Fs :=
  if doneB hv = true then ⟨[], 0, false, 2, L⟩
  else if xs.length ≤ pc + hv.length then ⟨[], 0, false, 210, L⟩
  else ⟨outF hv (takR L xs (((pc + hv.length) / 4 : Nat) : Int) hold).f ((pc + hv.length) % 4), ((pc + hv.length) / 4 : Nat), (takR L xs (((pc + hv.length) / 4 : Nat) : Int) hold).is, 0, (takR L xs (((pc + hv.length) / 4 : Nat) : Int) hold).L⟩

theorem done_nil : doneB [] = false := rfl
theorem lt_of_not_done {hv : List Int} (h : doneB hv = false) (h0 : 0 < hv.length) : hv.length < lenB (hv.getD 0 0) := by
  unfold doneB at h
  simp only [Bool.and_eq_false_iff, decide_eq_false_iff_not] at h
  omega
theorem fst_lt {hv : List Int} (h : doneB hv = false) (f : F4) (r : Nat) : hv.length < lenB (fstB hv f r) := by
  unfold fstB
  split
  · have := (lenB_in ((f4L f).getD r 0)).1; omega
  · exact lt_of_not_done h (by omega)
theorem f4L_len (f : F4) : (f4L f).length = 4 := rfl
theorem outF_eq {hv : List Int} (h : doneB hv = false) (f : F4) {r : Nat} (hr : r < 4) :
    outF hv f r = hv ++ ((f4L f).drop r).take (min (hv.length + 4 - r) (lenB (fstB hv f r)) - hv.length) := by
  have h1 := fst_lt h f r
  unfold outF
  rw [List.take_append, List.take_of_length_le (by omega)]
  congr 1
  have hl : ((f4L f).drop r).length = 4 - r := by rw [List.length_drop, f4L_len]
  by_cases h2 : hv.length + 4 - r ≤ lenB (fstB hv f r)
  · rw [List.take_of_length_le (by omega), List.take_of_length_le (by omega)]
  · congr 1; omega
theorem outF_len {hv : List Int} (h : doneB hv = false) (f : F4) {r : Nat} (hr : r < 4) : (outF hv f r).length = min (hv.length + 4 - r) (lenB (fstB hv f r)) := by
  have h1 := fst_lt h f r
  have hl : ((f4L f).drop r).length = 4 - r := by rw [List.length_drop, f4L_len]
  unfold outF
  rw [List.length_take, List.length_append, hl]
  omega
theorem outF_more {hv : List Int} (h : doneB hv = false) (f : F4) {r : Nat} (hr : r < 4) : hv.length < (outF hv f r).length ∧ (outF hv f r).length ≤ hv.length + 4 ∧ (outF hv f r).length ≤ 6 := by
  have h1 := fst_lt h f r
  have h2 := (lenB_in (fstB hv f r)).2
  rw [outF_len h f hr]; omega
theorem outF_take {hv : List Int} (h : doneB hv = false) (f : F4) {r : Nat} (hr : r < 4) : (outF hv f r).take hv.length = hv := by
  rw [outF_eq h f hr, List.take_append_of_le_length (Nat.le_refl _), List.take_length]
theorem byt_nil : Byt [] := fun i => by simp
theorem byt_f4 {f : F4} (h : F8 f) (i : Nat) : 0 ≤ (f4L f).getD i 0 ∧ (f4L f).getD i 0 ≤ 255 := by
  obtain ⟨h0, h1, h2, h3⟩ := h
  rcases (by omega : i = 0 ∨ i = 1 ∨ i = 2 ∨ i = 3 ∨ 4 ≤ i) with rfl | rfl | rfl | rfl | h
  · exact h0
  · exact h1
  · exact h2
  · exact h3
  · have e : (f4L f).getD i 0 = 0 := by simp only [List.getD, List.getElem?_eq_none (show (f4L f).length ≤ i from h), Option.getD_none]
    rw [e]; omega
theorem byt_out {hv : List Int} {f : F4} (h : Byt hv) (hf : F8 f) (r : Nat) : Byt (outF hv f r) := fun i => by
  unfold outF
  by_cases h1 : i < lenB (fstB hv f r)
  · have e : ((hv ++ (f4L f).drop r).take (lenB (fstB hv f r))).getD i 0 = (hv ++ (f4L f).drop r).getD i 0 := by simp only [List.getD, List.getElem?_take_of_lt h1]
    rw [e]
    by_cases h2 : i < hv.length
    · have e : (hv ++ (f4L f).drop r).getD i 0 = hv.getD i 0 := by simp only [List.getD, List.getElem?_append_left h2]
      rw [e]; exact h i
    · have e : (hv ++ (f4L f).drop r).getD i 0 = (f4L f).getD (r + (i - hv.length)) 0 := by simp only [List.getD, List.getElem?_append_right (Nat.le_of_not_lt h2), List.getElem?_drop]
      rw [e]; exact byt_f4 hf _
  · have e : ((hv ++ (f4L f).drop r).take (lenB (fstB hv f r))).getD i 0 = 0 := by
      simp only [List.getD, List.getElem?_eq_none (show ((hv ++ (f4L f).drop r).take (lenB (fstB hv f r))).length ≤ i by rw [List.length_take]; omega), Option.getD_none]
    rw [e]; omega

/-! ### the reference's loop -/
def outI (hv : List Int) (f : F4) (r i : Nat) : List Int := hv ++ ((f4L f).drop r).take (i - r)
theorem outI_len (hv : List Int) (f : F4) {r i : Nat} (h : r ≤ i) (hi : i ≤ 4) : (outI hv f r i).length = hv.length + (i - r) := by
  unfold outI; rw [List.length_append, List.length_take, List.length_drop, f4L_len]; omega
theorem outI_start (hv : List Int) (f : F4) (r : Nat) : outI hv f r r = hv := by unfold outI; simp
theorem outI_next (hv : List Int) (f : F4) {r i : Nat} (h : r ≤ i) (hi : i < 4) : outI hv f r (i + 1) = outI hv f r i ++ [(f4L f).getD i 0] := by
  unfold outI
  rw [List.append_assoc]
  congr 1
  rw [show i + 1 - r = (i - r) + 1 by omega, List.take_succ_eq_append_getElem (by rw [List.length_drop, f4L_len]; omega)]
  congr 2
  rw [List.getElem_drop]
  have e : r + (i - r) = i := by omega
  simp only [e]
  simp [List.getD, List.getElem?_eq_getElem (show i < (f4L f).length from hi)]
theorem outI_fst {hv : List Int} {f : F4} {r i : Nat} (h : r ≤ i) (hi : i ≤ 4) (h0 : 0 < (outI hv f r i).length) : (outI hv f r i).getD 0 0 = fstB hv f r := by
  rw [outI_len hv f h hi] at h0
  unfold fstB outI
  by_cases h1 : hv.length = 0
  · rw [if_pos h1]
    obtain rfl := List.eq_nil_of_length_eq_zero h1
    simp only [List.length_nil] at h0
    simp only [List.nil_append, List.getD, List.getElem?_take_of_lt (show 0 < i - r by omega), List.getElem?_drop, Nat.add_zero]
  · rw [if_neg h1]
    simp only [List.getD, List.getElem?_append_left (show 0 < hv.length by omega)]
theorem outI_all {hv : List Int} {f : F4} {r : Nat} (hr : r < 4) (h : (outI hv f r 4).length ≤ lenB (fstB hv f r)) : outI hv f r 4 = outF hv f r := by
  unfold outF
  rw [outI_len hv f (by omega) (Nat.le_refl _)] at h
  unfold outI
  have hl : ((f4L f).drop r).length = 4 - r := by rw [List.length_drop, f4L_len]
  rw [List.take_of_length_le (l := (f4L f).drop r) (by omega), List.take_of_length_le (by rw [List.length_append, hl]; omega)]
theorem outI_end {hv : List Int} {f : F4} {r i : Nat} (h : r ≤ i) (hi : i ≤ 4) (hd : hv.length ≤ lenB (fstB hv f r)) (he : (outI hv f r i).length = lenB (fstB hv f r)) : outI hv f r i = outF hv f r := by
  have hl := outI_len hv f h hi
  unfold outF
  rw [← he, hl]
  unfold outI
  rw [List.take_append, List.take_of_length_le (l := hv) (by omega)]
  congr 2
  omega

/-! ### nobody writes -/
/-- memory's bytes from a place on, noughts behind its end -/
def padF (xs : List Int) (a k : Nat) : List Int := (List.range k).map fun i => xs.getD (a + i) 0
theorem padF_len (xs : List Int) (a k : Nat) : (padF xs a k).length = k := by unfold padF; simp
theorem padF_at (xs : List Int) (a : Nat) {k i : Nat} (h : i < k) : (padF xs a k).getD i 0 = xs.getD (a + i) 0 := by
  unfold padF; simp [List.getD, h]
theorem padF_take (xs : List Int) (a : Nat) {k m : Nat} (h : k ≤ m) : (padF xs a m).take k = padF xs a k := by
  unfold padF; rw [← List.map_take, List.take_range, Nat.min_eq_left h]
theorem gran_at (xs : List Int) (g : Nat) {j : Nat} (h : j < 4) : (f4L (granF xs g)).getD j 0 = xs.getD (4 * g + j) 0 := by
  rcases (by omega : j = 0 ∨ j = 1 ∨ j = 2 ∨ j = 3) with rfl | rfl | rfl | rfl <;> rfl
theorem list_ext_getL {a b : List Int} (hl : a.length = b.length) (h : ∀ i, i < a.length → a.getD i 0 = b.getD i 0) : a = b := by
  apply List.ext_getElem hl
  intro i h1 h2
  have := h i h1
  simpa [List.getD, List.getElem?_eq_getElem h1, List.getElem?_eq_getElem h2] using this
theorem fst_pad (xs : List Int) (pc k : Nat) : fstB (padF xs pc k) (granF xs ((pc + k) / 4)) ((pc + k) % 4) = xs.getD pc 0 := by
  unfold fstB
  rw [padF_len]
  split
  · rename_i h
    subst h
    rw [gran_at _ _ (Nat.mod_lt _ (by decide))]
    congr 1
    omega
  · rw [padF_at _ _ (by omega), Nat.add_zero]
theorem out_pad {xs : List Int} {pc k : Nat} (h : doneB (padF xs pc k) = false) : outF (padF xs pc k) (granF xs ((pc + k) / 4)) ((pc + k) % 4) = padF xs pc (min (k + 4 - (pc + k) % 4) (lenB (xs.getD pc 0))) := by
  have hr : (pc + k) % 4 < 4 := Nat.mod_lt _ (by decide)
  have hl := outF_len h (granF xs ((pc + k) / 4)) hr
  have hlt := fst_lt h (granF xs ((pc + k) / 4)) ((pc + k) % 4)
  rw [fst_pad, padF_len] at hl hlt
  apply list_ext_getL
  · rw [hl, padF_len]
  · intro i hi
    rw [hl] at hi
    rw [padF_at _ _ hi]
    unfold outF
    rw [fst_pad]
    generalize lenB (xs.getD pc 0) = K at *
    have e : ((padF xs pc k ++ (f4L (granF xs ((pc + k) / 4))).drop ((pc + k) % 4)).take K).getD i 0 = (padF xs pc k ++ (f4L (granF xs ((pc + k) / 4))).drop ((pc + k) % 4)).getD i 0 := by simp only [List.getD, List.getElem?_take_of_lt (show i < K by omega)]
    rw [e]
    by_cases h2 : i < k
    · have e : (padF xs pc k ++ (f4L (granF xs ((pc + k) / 4))).drop ((pc + k) % 4)).getD i 0 = (padF xs pc k).getD i 0 := by simp only [List.getD, List.getElem?_append_left (show i < (padF xs pc k).length by rw [padF_len]; exact h2)]
      rw [e, padF_at _ _ h2]
    · have e : (padF xs pc k ++ (f4L (granF xs ((pc + k) / 4))).drop ((pc + k) % 4)).getD i 0 = (f4L (granF xs ((pc + k) / 4))).getD ((pc + k) % 4 + (i - k)) 0 := by simp only [List.getD, List.getElem?_append_right (show (padF xs pc k).length ≤ i by rw [padF_len]; omega), List.getElem?_drop, padF_len]
      rw [e, gran_at _ _ (by omega)]
      congr 1
      omega
/-- what is held is as memory is -/
def Clean (xs : List Int) (L : List Ln) : Prop := ∀ x ∈ L, x.f = granF xs x.g.toNat
theorem clean_nil (xs : List Int) : Clean xs [] := fun _ hx => absurd hx List.not_mem_nil
theorem findL_in {L : List Ln} {g : Int} {f : F4} (h : findL L g = some f) : ∃ x ∈ L, x.f = f ∧ x.g = g := by
  unfold findL at h
  rw [Option.map_eq_some_iff] at h
  obtain ⟨x, h1, h2⟩ := h
  have := List.find?_some h1
  exact ⟨x, List.mem_of_find?_eq_some h1, h2, by simpa using this⟩
theorem tak_clean {xs : List Int} {L : List Ln} (h : Clean xs L) {g : Nat} (hg : g < 16384) (hold : Bool) : (takR L xs g hold).f = granF xs g ∧ Clean xs (takR L xs g hold).L ∧ ((takR L xs g hold).is = true → hold = true) := by
  rcases takR_cases L g hold with ⟨f, hf, rfl⟩ | hno
  · rw [takR_held hf]
    obtain ⟨x, hx, rfl, e⟩ := findL_in hf
    refine ⟨?_, h, fun _ => rfl⟩
    have := h x hx
    rw [this, e, Int.toNat_natCast]
  · rw [takR_in hno (by omega)]
    refine ⟨by rw [Int.toNat_natCast], fun x hx => ?_, fun e => by cases e⟩
    rcases takL_mem hx with rfl | hx
    · rfl
    · exact h x hx

end Go.Proofs.Yteeeedphhaphpaa
