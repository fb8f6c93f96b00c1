/- Texts put together: FetL, FetW, FetB, FetS, FetM. -/
import Derived.Test.YtnpaijbkhmnfpaaGreatBas
import Derived.Test.YtnpaijbkhmnfpaaGreatTakR
import Derived.Test.YtnpaijbkhmnfpaaGreatOps
import Derived.Deep.RegionHeld3
import Derived.BigQuiet
import Derived.Test.YtnpaijbkhmnfpaaGreatKps
import Derived.Deep.DeepCutAuto
import Derived.Lib.Hide

/- What the chapter on fetch says, as lists. -/
namespace Go.Proofs.YtnpaijbkhmnfpaaGreat
open Go.RowKit Go.Maps

/-! ### how long an instruction is, by its first byte -/
def opB (z : Int) : Nat := ((List.range 17).find? fun k => decide (1 ≤ k) && decide (fb k = z)).getD 0
def lenB (z : Int) : Nat := if opB z = 0 then 1 else lenN (opB z)
theorem opB_fb (o : Nat) (h1 : 1 ≤ o) (h2 : o < 17) : opB (fb o) = o := by
  have : ∀ k : Fin 17, 1 ≤ k.1 → opB (fb k.1) = k.1 := by decide +kernel
  exact this ⟨o, h2⟩ h1
theorem opB_no (z : Int) (h : ∀ o, 1 ≤ o → o < 17 → fb o ≠ z) : opB z = 0 := by
  unfold opB
  rw [List.find?_eq_none.2]
  · rfl
  · intro k hk
    simp only [List.mem_range] at hk
    simp only [Bool.and_eq_true, decide_eq_true_eq, not_and]
    exact fun h1 => h k h1 hk
theorem opB_cases (z : Int) : (∃ o, 1 ≤ o ∧ o < 17 ∧ fb o = z) ∨ ∀ o, 1 ≤ o → o < 17 → fb o ≠ z := by
  by_cases h : ∃ o, 1 ≤ o ∧ o < 17 ∧ fb o = z
  · exact .inl h
  · exact .inr fun o h1 h2 h3 => h ⟨o, h1, h2, h3⟩
theorem lenB_fb (o : Nat) (h1 : 1 ≤ o) (h2 : o < 17) : lenB (fb o) = lenN o := by
  unfold lenB; rw [opB_fb o h1 h2, if_neg (by omega)]
theorem lenB_no (z : Int) (h : ∀ o, 1 ≤ o → o < 17 → fb o ≠ z) : lenB z = 1 := by
  unfold lenB; rw [opB_no z h, if_pos rfl]
theorem lenB_in (z : Int) : 1 ≤ lenB z ∧ lenB z ≤ 6 := by
  rcases opB_cases z with ⟨o, h1, h2, rfl⟩ | h
  · rw [lenB_fb o h1 h2]; exact lenN_in o h1 h2
  · rw [lenB_no z h]; omega
theorem length_any (y : Int) (w : World) : Calls Tryz.prog 77 #[.int .u8 y] w fun e w' => e = .returned (.int .i64 (lenB y)) ∧ Below w.heap.size w w' := by
  rcases opB_cases y with ⟨o, h1, h2, rfl⟩ | h
  · rw [lenB_fb o h1 h2]; exact len_yes o w h1 h2
  · rw [lenB_no y h]; exact len_no y w h

/-! ### a step -/
def f4L (f : F4) : List Int := [f.a, f.b, f.c, f.d]
/-- the instruction is there -/
def doneB (hv : List Int) : Bool := decide (0 < hv.length) && decide (lenB (hv.getD 0 0) ≤ hv.length)
def fstB (hv : List Int) (f : F4) (r : Nat) : Int := if hv.length = 0 then (f4L f).getD r 0 else hv.getD 0 0
def outF (hv : List Int) (f : F4) (r : Nat) : List Int := (hv ++ (f4L f).drop r).take (lenB (fstB hv f r))
/-- what a step answers: the bytes, the granule, whether it was held, the error, what is held behind it -/
structure Fs where
  out : List Int
  g : Int
  is : Bool
  e : Int
  L : List Ln
def stpR (L : List Ln) (xs : List Int) (pc : Nat) (hv : List Int) (hold : Bool) : Fs :=
  if doneB hv = true then ⟨[], 0, false, 2, L⟩
  else if xs.length ≤ pc + hv.length then ⟨[], 0, false, 210, L⟩
  else ⟨outF hv (takR L xs (((pc + hv.length) / 4 : Nat) : Int) hold).f ((pc + hv.length) % 4), ((pc + hv.length) / 4 : Nat), (takR L xs (((pc + hv.length) / 4 : Nat) : Int) hold).is, 0, (takR L xs (((pc + hv.length) / 4 : Nat) : Int) hold).L⟩

theorem done_nil : doneB [] = false := rfl
theorem lt_of_not_done {hv : List Int} (h : doneB hv = false) (h0 : 0 < hv.length) : hv.length < lenB (hv.getD 0 0) := by
  unfold doneB at h
  simp only [Bool.and_eq_false_iff, decide_eq_false_iff_not] at h
  omega
theorem fst_lt {hv : List Int} (h : doneB hv = false) (f : F4) (r : Nat) : hv.length < lenB (fstB hv f r) := by
  unfold fstB
  split
  · have := (lenB_in ((f4L f).getD r 0)).1; omega
  · exact lt_of_not_done h (by omega)
theorem f4L_len (f : F4) : (f4L f).length = 4 := rfl
theorem outF_eq {hv : List Int} (h : doneB hv = false) (f : F4) {r : Nat} (hr : r < 4) :
    outF hv f r = hv ++ ((f4L f).drop r).take (min (hv.length + 4 - r) (lenB (fstB hv f r)) - hv.length) := by
  have h1 := fst_lt h f r
  unfold outF
  rw [List.take_append, List.take_of_length_le (by omega)]
  congr 1
  have hl : ((f4L f).drop r).length = 4 - r := by rw [List.length_drop, f4L_len]
  by_cases h2 : hv.length + 4 - r ≤ lenB (fstB hv f r)
  · rw [List.take_of_length_le (by omega), List.take_of_length_le (by omega)]
  · congr 1; omega
theorem outF_len {hv : List Int} (h : doneB hv = false) (f : F4) {r : Nat} (hr : r < 4) : (outF hv f r).length = min (hv.length + 4 - r) (lenB (fstB hv f r)) := by
  have h1 := fst_lt h f r
  have hl : ((f4L f).drop r).length = 4 - r := by rw [List.length_drop, f4L_len]
  unfold outF
  rw [List.length_take, List.length_append, hl]
  omega
theorem outF_more {hv : List Int} (h : doneB hv = false) (f : F4) {r : Nat} (hr : r < 4) : hv.length < (outF hv f r).length ∧ (outF hv f r).length ≤ hv.length + 4 ∧ (outF hv f r).length ≤ 6 := by
  have h1 := fst_lt h f r
  have h2 := (lenB_in (fstB hv f r)).2
  rw [outF_len h f hr]; omega
theorem outF_take {hv : List Int} (h : doneB hv = false) (f : F4) {r : Nat} (hr : r < 4) : (outF hv f r).take hv.length = hv := by
  rw [outF_eq h f hr, List.take_append_of_le_length (Nat.le_refl _), List.take_length]
theorem byt_f4 {f : F4} (h : F8 f) (i : Nat) : 0 ≤ (f4L f).getD i 0 ∧ (f4L f).getD i 0 ≤ 255 := by
  obtain ⟨h0, h1, h2, h3⟩ := h
  rcases (by omega : i = 0 ∨ i = 1 ∨ i = 2 ∨ i = 3 ∨ 4 ≤ i) with rfl | rfl | rfl | rfl | h
  · exact h0
  · exact h1
  · exact h2
  · exact h3
  · have e : (f4L f).getD i 0 = 0 := by simp only [List.getD, List.getElem?_eq_none (show (f4L f).length ≤ i from h), Option.getD_none]
    rw [e]; omega
theorem byt_out {hv : List Int} {f : F4} (h : Byt hv) (hf : F8 f) (r : Nat) : Byt (outF hv f r) := fun i => by
  unfold outF
  by_cases h1 : i < lenB (fstB hv f r)
  · have e : ((hv ++ (f4L f).drop r).take (lenB (fstB hv f r))).getD i 0 = (hv ++ (f4L f).drop r).getD i 0 := by simp only [List.getD, List.getElem?_take_of_lt h1]
    rw [e]
    by_cases h2 : i < hv.length
    · have e : (hv ++ (f4L f).drop r).getD i 0 = hv.getD i 0 := by simp only [List.getD, List.getElem?_append_left h2]
      rw [e]; exact h i
    · have e : (hv ++ (f4L f).drop r).getD i 0 = (f4L f).getD (r + (i - hv.length)) 0 := by simp only [List.getD, List.getElem?_append_right (Nat.le_of_not_lt h2), List.getElem?_drop]
      rw [e]; exact byt_f4 hf _
  · have e : ((hv ++ (f4L f).drop r).take (lenB (fstB hv f r))).getD i 0 = 0 := by
      simp only [List.getD, List.getElem?_eq_none (show ((hv ++ (f4L f).drop r).take (lenB (fstB hv f r))).length ≤ i by rw [List.length_take]; omega), Option.getD_none]
    rw [e]; omega

/-! ### the reference's loop -/
def outI (hv : List Int) (f : F4) (r i : Nat) : List Int := hv ++ ((f4L f).drop r).take (i - r)
theorem outI_len (hv : List Int) (f : F4) {r i : Nat} (h : r ≤ i) (hi : i ≤ 4) : (outI hv f r i).length = hv.length + (i - r) := by
  unfold outI; rw [List.length_append, List.length_take, List.length_drop, f4L_len]; omega
theorem outI_start (hv : List Int) (f : F4) (r : Nat) : outI hv f r r = hv := by unfold outI; simp
theorem outI_next (hv : List Int) (f : F4) {r i : Nat} (h : r ≤ i) (hi : i < 4) : outI hv f r (i + 1) = outI hv f r i ++ [(f4L f).getD i 0] := by
  unfold outI
  rw [List.append_assoc]
  congr 1
  rw [show i + 1 - r = (i - r) + 1 by omega, List.take_succ_eq_append_getElem (by rw [List.length_drop, f4L_len]; omega)]
  congr 2
  rw [List.getElem_drop]
  have e : r + (i - r) = i := by omega
  simp only [e]
  simp [List.getD, List.getElem?_eq_getElem (show i < (f4L f).length from hi)]
theorem outI_fst {hv : List Int} {f : F4} {r i : Nat} (h : r ≤ i) (hi : i ≤ 4) (h0 : 0 < (outI hv f r i).length) : (outI hv f r i).getD 0 0 = fstB hv f r := by
  rw [outI_len hv f h hi] at h0
  unfold fstB outI
  by_cases h1 : hv.length = 0
  · rw [if_pos h1]
    obtain rfl := List.eq_nil_of_length_eq_zero h1
    simp only [List.length_nil] at h0
    simp only [List.nil_append, List.getD, List.getElem?_take_of_lt (show 0 < i - r by omega), List.getElem?_drop, Nat.add_zero]
  · rw [if_neg h1]
    simp only [List.getD, List.getElem?_append_left (show 0 < hv.length by omega)]
theorem outI_all {hv : List Int} {f : F4} {r : Nat} (hr : r < 4) (h : (outI hv f r 4).length ≤ lenB (fstB hv f r)) : outI hv f r 4 = outF hv f r := by
  unfold outF
  rw [outI_len hv f (by omega) (Nat.le_refl _)] at h
  unfold outI
  have hl : ((f4L f).drop r).length = 4 - r := by rw [List.length_drop, f4L_len]
  rw [List.take_of_length_le (l := (f4L f).drop r) (by omega), List.take_of_length_le (by rw [List.length_append, hl]; omega)]
theorem outI_end {hv : List Int} {f : F4} {r i : Nat} (h : r ≤ i) (hi : i ≤ 4) (hd : hv.length ≤ lenB (fstB hv f r)) (he : (outI hv f r i).length = lenB (fstB hv f r)) : outI hv f r i = outF hv f r := by
  have hl := outI_len hv f h hi
  unfold outF
  rw [← he, hl]
  unfold outI
  rw [List.take_append, List.take_of_length_le (l := hv) (by omega)]
  congr 2
  omega

/-! ### nobody writes -/
/-- memory's bytes from a place on, noughts behind its end -/
def padF (xs : List Int) (a k : Nat) : List Int := (List.range k).map fun i => xs.getD (a + i) 0
theorem padF_len (xs : List Int) (a k : Nat) : (padF xs a k).length = k := by unfold padF; simp
theorem padF_at (xs : List Int) (a : Nat) {k i : Nat} (h : i < k) : (padF xs a k).getD i 0 = xs.getD (a + i) 0 := by
  unfold padF; simp [List.getD, h]
theorem padF_take (xs : List Int) (a : Nat) {k m : Nat} (h : k ≤ m) : (padF xs a m).take k = padF xs a k := by
  unfold padF; rw [← List.map_take, List.take_range, Nat.min_eq_left h]
theorem gran_at (xs : List Int) (g : Nat) {j : Nat} (h : j < 4) : (f4L (granF xs g)).getD j 0 = xs.getD (4 * g + j) 0 := by
  rcases (by omega : j = 0 ∨ j = 1 ∨ j = 2 ∨ j = 3) with rfl | rfl | rfl | rfl <;> rfl
theorem list_ext_getL {a b : List Int} (hl : a.length = b.length) (h : ∀ i, i < a.length → a.getD i 0 = b.getD i 0) : a = b := by
  apply List.ext_getElem hl
  intro i h1 h2
  have := h i h1
  simpa [List.getD, List.getElem?_eq_getElem h1, List.getElem?_eq_getElem h2] using this
theorem fst_pad (xs : List Int) (pc k : Nat) : fstB (padF xs pc k) (granF xs ((pc + k) / 4)) ((pc + k) % 4) = xs.getD pc 0 := by
  unfold fstB
  rw [padF_len]
  split
  · rename_i h
    subst h
    rw [gran_at _ _ (Nat.mod_lt _ (by decide))]
    congr 1
    omega
  · rw [padF_at _ _ (by omega), Nat.add_zero]
theorem out_pad {xs : List Int} {pc k : Nat} (h : doneB (padF xs pc k) = false) : outF (padF xs pc k) (granF xs ((pc + k) / 4)) ((pc + k) % 4) = padF xs pc (min (k + 4 - (pc + k) % 4) (lenB (xs.getD pc 0))) := by
  have hr : (pc + k) % 4 < 4 := Nat.mod_lt _ (by decide)
  have hl := outF_len h (granF xs ((pc + k) / 4)) hr
  have hlt := fst_lt h (granF xs ((pc + k) / 4)) ((pc + k) % 4)
  rw [fst_pad, padF_len] at hl hlt
  apply list_ext_getL
  · rw [hl, padF_len]
  · intro i hi
    rw [hl] at hi
    rw [padF_at _ _ hi]
    unfold outF
    rw [fst_pad]
    generalize lenB (xs.getD pc 0) = K at *
    have e : ((padF xs pc k ++ (f4L (granF xs ((pc + k) / 4))).drop ((pc + k) % 4)).take K).getD i 0 = (padF xs pc k ++ (f4L (granF xs ((pc + k) / 4))).drop ((pc + k) % 4)).getD i 0 := by simp only [List.getD, List.getElem?_take_of_lt (show i < K by omega)]
    rw [e]
    by_cases h2 : i < k
    · have e : (padF xs pc k ++ (f4L (granF xs ((pc + k) / 4))).drop ((pc + k) % 4)).getD i 0 = (padF xs pc k).getD i 0 := by simp only [List.getD, List.getElem?_append_left (show i < (padF xs pc k).length by rw [padF_len]; exact h2)]
      rw [e, padF_at _ _ h2]
    · have e : (padF xs pc k ++ (f4L (granF xs ((pc + k) / 4))).drop ((pc + k) % 4)).getD i 0 = (f4L (granF xs ((pc + k) / 4))).getD ((pc + k) % 4 + (i - k)) 0 := by simp only [List.getD, List.getElem?_append_right (show (padF xs pc k).length ≤ i by rw [padF_len]; omega), List.getElem?_drop, padF_len]
      rw [e, gran_at _ _ (by omega)]
      congr 1
      omega
/-- what is held is as memory is -/
def Clean (xs : List Int) (L : List Ln) : Prop := ∀ x ∈ L, x.f = granF xs x.g.toNat
theorem clean_nil (xs : List Int) : Clean xs [] := fun _ hx => absurd hx List.not_mem_nil
theorem findL_in {L : List Ln} {g : Int} {f : F4} (h : findL L g = some f) : ∃ x ∈ L, x.f = f ∧ x.g = g := by
  unfold findL at h
  rw [Option.map_eq_some_iff] at h
  obtain ⟨x, h1, h2⟩ := h
  have := List.find?_some h1
  exact ⟨x, List.mem_of_find?_eq_some h1, h2, by simpa using this⟩
theorem tak_clean {xs : List Int} {L : List Ln} (h : Clean xs L) {g : Nat} (hg : g < 16384) (hold : Bool) : (takR L xs g hold).f = granF xs g ∧ Clean xs (takR L xs g hold).L ∧ ((takR L xs g hold).is = true → hold = true) := by
  rcases takR_cases L g hold with ⟨f, hf, rfl⟩ | hno
  · rw [takR_held hf]
    obtain ⟨x, hx, rfl, e⟩ := findL_in hf
    refine ⟨?_, h, fun _ => rfl⟩
    have := h x hx
    rw [this, e, Int.toNat_natCast]
  · rw [takR_in hno (by omega)]
    refine ⟨by rw [Int.toNat_natCast], fun x hx => ?_, fun e => by cases e⟩
    rcases takL_mem hx with rfl | hx
    · rfl
    · exact h x hx

end Go.Proofs.YtnpaijbkhmnfpaaGreat

/- What fetch's Next, Done, place, there, behind answer. -/
namespace Go.Proofs.YtnpaijbkhmnfpaaGreat
open Go.RowKit Go.Maps

set_option maxHeartbeats 400000 in
theorem place_any (a : Int) (p : Option Addr) (n c : Nat) (w : World) (h0 : 0 ≤ a) (h1 : a ≤ 4294967295) (hn : n ≤ 140737488355328) :
    Calls Tryz.prog 109 #[.int .u32 a, .slice p n c] w fun e w' => e = .returned (.int .i64 (a + n)) ∧ w' = w := by
  go_enter Tryz.func109, Tryz.ntmps109
  go_wp2
  go_ret
  exact ⟨rfl, rfl⟩

set_option maxHeartbeats 400000 in
theorem next_any (a : Nat) (p : Option Addr) (n c : Nat) (w : World) (h1 : a ≤ 4294967295) (hn : n ≤ 140737488355328) :
    Calls Tryz.prog 111 #[.int .u32 a, .slice p n c] w fun e w' => e = .returned (.int .i64 ((a + n) / 4 : Nat)) ∧ w' = w := by
  have h := place_any a p n c w (by omega) (by omega) hn
  go_enter Tryz.func111, Tryz.ntmps111
  go_wp2_with (go_at_call 109; refine h.mono ?_; rintro e w1 ⟨rfl, rfl⟩)
  go_ret
  exact ⟨ret_i64 (by omega), rfl⟩

set_option maxHeartbeats 400000 in
theorem done_any (p : Option Addr) (n c : Nat) (xs : List Int) (w : World) (hx : xs.length = n) (hn : n ≤ 140737488355328) (hr : Row w p xs) :
    Calls Tryz.prog 43 #[.slice p n c] w fun e w' => e = .returned (.bool (doneB xs)) ∧ Below w.heap.size w w' := by
  by_cases h0 : n = 0
  · subst h0
    obtain rfl := List.eq_nil_of_length_eq_zero hx
    go_enter Tryz.func43, Tryz.ntmps43
    go_wp2
    go_ret
    exact ⟨rfl, below_self _⟩
  · obtain ⟨b, o, rfl, hc⟩ := hr (by omega)
    have c0 := hc 0 (by omega)
    rw [Nat.add_zero] at c0
    have hpos : 0 < n := by omega
    have hl := length_any (xs.getD 0 0) w
    have hi := lenB_in (xs.getD 0 0)
    have hb : doneB xs = decide (lenB (xs.getD 0 0) ≤ n) := by unfold doneB; rw [hx, decide_eq_true hpos, Bool.true_and]
    rw [hb]
    generalize xs.getD 0 0 = y at *
    generalize lenB y = K at *
    clear hc hr hb hx
    go_enter Tryz.func43, Tryz.ntmps43
    go_wp2_with (go_at_call 77; refine hl.mono ?_; rintro e w1 ⟨rfl, hb1⟩)
    go_ret
    exact ⟨ret_bool (by simp), hb1⟩

set_option maxHeartbeats 400000 in
theorem there_of (mp lp : Option Addr) (f : F4) (is : Bool) (e : Int) (w : World) (ht : Calls Tryz.prog 112 #[.pointer lp, .pointer mp, .int .i64 (-1), .bool false] w fun E w' => E = .returned (.tuple #[fV f, .bool is, .int .i64 e]) ∧ Below w.heap.size w w') :
    Calls Tryz.prog 108 #[.pointer mp, .pointer lp] w fun E w' => E = .returned (.bool (e != 1)) ∧ Below w.heap.size w w' := by
  obtain ⟨f0, f1, f2, f3⟩ := f
  simp only [fV] at ht
  go_enter Tryz.func108, Tryz.ntmps108
  go_wp2_with (go_at_call 112; refine ht.mono ?_; rintro e w1 ⟨rfl, hb1⟩)
  go_ret
  exact ⟨rfl, below_alloc hb1 _⟩

end Go.Proofs.YtnpaijbkhmnfpaaGreat

/- fetch.behind. -/
namespace Go.Proofs.YtnpaijbkhmnfpaaGreat
open Go.RowKit Go.Maps

theorem f4_cell {W : World} {g : Nat} {f : F4} (h : Blk W g 92 #[.int .u8 f.a, .int .u8 f.b, .int .u8 f.c, .int .u8 f.d]) {j : Nat} (hj : j < 4) : W.cell? ⟨g, j, none⟩ = some (.int .u8 ((f4L f).getD j 0)) := by
  rcases (by omega : j = 0 ∨ j = 1 ∨ j = 2 ∨ j = 3) with rfl | rfl | rfl | rfl
  · exact h.cell 0
  · exact h.cell 1
  · exact h.cell 2
  · exact h.cell 3
theorem f4_src {W : World} {g : Nat} {f : F4} (h : Blk W g 92 #[.int .u8 f.a, .int .u8 f.b, .int .u8 f.c, .int .u8 f.d]) (r m : Nat) : ∀ j v, (byts (((f4L f).drop r).take m))[j]? = some v → W.cell? ((⟨g, r, none⟩ : Addr).add j) = some v := by
  intro j v hj
  have hl : j < (byts (((f4L f).drop r).take m)).length := by
    rcases Nat.lt_or_ge j (byts (((f4L f).drop r).take m)).length with h | h
    · exact h
    · rw [List.getElem?_eq_none h] at hj; cases hj
  have hl' : j < (((f4L f).drop r).take m).length := by simpa using hl
  rw [getD_byts _ _ hl'] at hj
  injection hj with hj
  rw [List.length_take, List.length_drop, f4L_len] at hl'
  have e := f4_cell h (j := r + j) (by omega)
  have e2 : (((f4L f).drop r).take m).getD j 0 = (f4L f).getD (r + j) 0 := by
    simp only [List.getD, List.getElem?_take_of_lt (show j < m by omega), List.getElem?_drop]
  rw [← hj, e2, ← e]
  by_cases h0 : j = 0
  · subst h0; simp [Addr.add]
  · simp [Addr.add, h0]

theorem slice_four (g r : Nat) (W : World) (hr : r < 4) : (Instr.sliceAt 92 (.pointer (some ⟨g, 0, none⟩)) (some (.int .i64 r)) none none).run Tryz.prog W = .ok (.slice (some ⟨g, r, none⟩) (4 - r) (4 - r)) W := by
  rcases (by omega : r = 0 ∨ r = 1 ∨ r = 2 ∨ r = 3) with rfl | rfl | rfl | rfl <;> kernel_rfl
theorem put_hv {hv : List Int} {n M : Nat} (hx : hv.length = n) : putA (List.replicate M 0) 0 hv = hv ++ List.replicate (M - n) 0 := by
  unfold putA; simp [hx]
theorem put_zs {hv zs : List Int} {n M : Nat} (hx : hv.length = n) (hz : zs.length = M - n) : putA (hv ++ List.replicate (M - n) 0) n zs = hv ++ zs := by
  unfold putA; subst hx; rw [List.take_append_of_le_length (Nat.le_refl _), List.take_length, List.drop_append, hz]; simp

set_option maxHeartbeats 1000000 in
theorem behind_core (p : Option Addr) (c r K M : Nat) (hv : List Int) (f : F4) (y : Int) (w : World) (hr : r < 4) (hrow : Row w p hv) (hy : fstB hv f r = y) (hK : lenB y = K) (hnK : hv.length < K) (hK6 : K ≤ 6) (hM : M = min (hv.length + 4 - r) K) :
    Calls Tryz.prog 113 #[.slice p hv.length c, .agg #[.int .u8 f.a, .int .u8 f.b, .int .u8 f.c, .int .u8 f.d], .int .i64 r] w fun e w' => ∃ g, e = .returned (.slice (some ⟨g, 0, none⟩) M M) ∧ Own w' w.heap.size g M (hv ++ ((f4L f).drop r).take (M - hv.length)) ∧ Below w.heap.size w w' := by
  obtain ⟨i0, hi, hz0, hz1, hz2⟩ := info_parts Tryz.info5
  have HB1 := Hid.in (new_alloc w (.cells #[.int .u8 f.a, .int .u8 f.b, .int .u8 f.c, .int .u8 f.d] 92))
  have HF1 := Hid.in (Blk.new w 92 #[.int .u8 f.a, .int .u8 f.b, .int .u8 f.c, .int .u8 f.d])
  have HR1 := Hid.in (hrow.below HB1.out)
  have hcell := f4_cell HF1.out hr
  have hl := fun W => length_any y W
  rw [hK] at hl
  have hfst : (hv.length = 0 → (f4L f).getD r 0 = y) ∧ (0 < hv.length → hv.getD 0 0 = y) := by
    unfold fstB at hy
    exact ⟨fun h => by rw [if_pos (by omega)] at hy; exact hy, fun h => by rw [if_neg (by omega)] at hy; exact hy⟩
  have hMn : hv.length < M := by omega
  have hM10 : M ≤ 6 := by omega
  have hzl : (((f4L f).drop r).take (M - hv.length)).length = M - hv.length := by rw [List.length_take, List.length_drop, f4L_len]; omega
  have HZL := Hid.in hzl
  clear hrow hK hy hzl
  obtain ⟨w1, hw1⟩ : ∃ w1, w1 = w.alloc (.cells #[.int .u8 f.a, .int .u8 f.b, .int .u8 f.c, .int .u8 f.d] 92) := ⟨_, rfl⟩
  obtain ⟨z, hz⟩ : ∃ z, (f4L f).getD r 0 = z := ⟨_, rfl⟩
  obtain ⟨fa, hfa⟩ : ∃ x, f.a = x := ⟨_, rfl⟩
  obtain ⟨fb, hfb⟩ : ∃ x, f.b = x := ⟨_, rfl⟩
  obtain ⟨fc, hfc⟩ : ∃ x, f.c = x := ⟨_, rfl⟩
  obtain ⟨fd, hfd⟩ : ∃ x, f.d = x := ⟨_, rfl⟩
  rw [hz] at hcell hfst
  have HSR : Hid (∀ W, Below w1.heap.size w1 W → ∀ j v, (byts (((f4L f).drop r).take (M - hv.length)))[j]? = some v → W.cell? ((⟨w.heap.size, r, none⟩ : Addr).add j) = some v) := fun W hW => f4_src ((hw1 ▸ HF1.out).grow hW) r (M - hv.length)
  have HRW : Hid (∀ W, Below w1.heap.size w1 W → Row W p hv) := fun W hW => (hw1 ▸ HR1.out).below hW
  have HBW : Hid (∀ W, Below w1.heap.size w1 W → Below w.heap.size w W) := fun W hW => below_step (hw1 ▸ HB1.out) hW
  have hsz1 : w.heap.size < w1.heap.size := by rw [hw1, size_one]; omega
  rw [hfa, hfb, hfc, hfd] at hw1 hcell ⊢
  rw [← hw1] at hcell
  clear HF1 HR1 HB1 hfa hfb hfc hfd
  generalize ((f4L f).drop r).take (M - hv.length) = zs at *
  have hr4 : (r : Int) < 4 := by omega
  have hr0 : (0 : Int) ≤ r := by omega
  have HYS := Hid.in (put_hv (M := M) (hv := hv) rfl)
  have HPZ : Hid (putA (hv ++ List.replicate (M - hv.length) 0) hv.length zs = hv ++ zs) := put_zs rfl HZL.out
  have HYL : Hid ((hv ++ List.replicate (M - hv.length) 0).length = M) := by show _ = _; simp; omega
  generalize hv ++ List.replicate (M - hv.length) 0 = ys at *
  have hc0 : 0 < hv.length → ∃ b o, p = some ⟨b, o, none⟩ ∧ w1.cell? ⟨b, o, none⟩ = some (.int .u8 y) := fun h => by
    obtain ⟨b, o, e, hc⟩ := HRW.out w1 (below_self _) (by omega)
    have := hc 0 (by omega)
    rw [Nat.add_zero, hfst.2 h] at this
    exact ⟨b, o, e, this⟩
  have hcl : (byts zs).length = Nat.min (4 - r) (M - hv.length) := by
    rw [List.length_map, HZL.out]
    exact (Nat.min_eq_right (by omega)).symm
  have HCL := Hid.in hcl
  have HM := Hid.in hM
  have HF := Hid.in hfst
  have hn6 : hv.length ≤ 6 := by omega
  have hne1 : ¬ M = hv.length := by omega
  have hne2 : ¬ 4 = r := by omega
  have hle1 : hv.length ≤ M := by omega
  have hle2 : r ≤ 4 := by omega
  clear hM hfst hK6 hz hcl
  have hg : (0 < hv.length ∧ decide (0 < hv.length) = true) ∨ (hv.length = 0 ∧ decide (0 < hv.length) = false) := by
    by_cases h : 0 < hv.length
    · exact .inl ⟨h, decide_eq_true h⟩
    · exact .inr ⟨by omega, decide_eq_false h⟩
  have HW1 := Hid.in hw1
  clear hw1
  rcases hg with ⟨h0, hg⟩ | ⟨h0, hg⟩
  · obtain ⟨b, o, rfl, c0⟩ := hc0 h0
    clear hc0 HF
    go_enter Tryz.func113, Tryz.ntmps113
    go_upto_region 1 with fail
    rw [← HW1.out]
    clear HW1
    go_upto_region 4 with fail
    clear c0 hcell
    go_upto_region 6 with (first
      | (go_at_call 77; refine (hl _).mono ?_; rintro e w2 ⟨rfl, hb2⟩)
      | (at_make; refine wpList_make_full _ rfl _ _ 26 rfl _ 5 i0 (.int .u8 0) 1 Tryz.underlying26 hi hz0 hz1 _ _ _ _ M rfl rfl (by have := HM.out; omega) (by have := HM.out; omega) (by rw [hz2]; omega) (by unfold maxLen; omega) (Nat.le_refl _) ?_; intro w3 hown hgrow; have hb3 := below_step hb2 ((Below.refl w2.heap.size w2).grown hgrow (Nat.le_refl _) (by simp)); have HO : Hid (Own w3 w2.heap.size w2.heap.size M (List.replicate M 0)) := Own.of_made hown; clear hown hgrow)
      | (have hw := HO.out.block (List.length_replicate ..); refine wpList_copy_splice rfl _ _ 26 26 rfl 5 Tryz.underlying26 Tryz.size5 _ _ _ _ _ _ rfl rfl w2.heap.size 0 _ 5 hw (byts hv) (by rw [List.length_map]; exact (Nat.min_eq_left (by omega)).symm) (fun h0 => ⟨rfl, (HRW.out w3 hb3).src (by simpa using h0)⟩) (by simp; omega) (one_byts hv) w1.heap.size w1 hb3 hb2.size ?_; intro w4 hw4 hb4; rw [putA_splice, HYS.out] at hw4; have HW4 := Hid.in hw4.out; have HB4 := Hid.in hb4; have hs2 : w1.heap.size ≤ w2.heap.size := hb2.size; clear hw hw4 HO hb3 hb4 hb2 hl))
    have hsrc := HSR.out w4 HB4.out
    have hcl := HCL.out
    have hs4 := fun W => slice_four w.heap.size r W hr
    go_region_law (refine step_copy_splice (by rfl) _ _ 26 26 (by rfl) 5 Tryz.underlying26 Tryz.size5 _ _ _ _ _ _ (by rfl) (by rfl) w2.heap.size hv.length (byts ys) 5 HW4.out (byts zs) hcl (fun _ => ⟨rfl, ⟨w.heap.size, r, none⟩, rfl, hsrc⟩) (by rw [List.length_map, List.length_map, HZL.out, HYL.out]; omega) (one_byts _) w1.heap.size w1 (below_drewN HB4.out 1) hs2 ?_; intro w5 HW5 HB5; rw [putA_splice, HPZ.out] at HW5)
    all_goals
      have HBB := Hid.in (HBW.out _ HB5)
      clear HB5 hsrc hcl HW4 HB4
      go_wp2_with fail
      go_ret
      refine ⟨w2.heap.size, rfl, Own.mk (by omega) HW5.out (by rw [List.length_append, HZL.out]; omega) (by unfold maxLen; omega) (by simp [HZL.out]; omega) (by rw [List.take_of_length_le (by simp)]), HBB.out⟩
  · have e1 := HF.out.1 h0
    subst e1
    clear hc0 h0 HF
    go_enter Tryz.func113, Tryz.ntmps113
    go_upto_region 1 with fail
    rw [← HW1.out]
    clear HW1
    go_upto_region 4 with fail
    clear hcell
    go_upto_region 6 with (first
      | (go_at_call 77; refine (hl _).mono ?_; rintro e w2 ⟨rfl, hb2⟩)
      | (at_make; refine wpList_make_full _ rfl _ _ 26 rfl _ 5 i0 (.int .u8 0) 1 Tryz.underlying26 hi hz0 hz1 _ _ _ _ M rfl rfl (by have := HM.out; omega) (by have := HM.out; omega) (by rw [hz2]; omega) (by unfold maxLen; omega) (Nat.le_refl _) ?_; intro w3 hown hgrow; have hb3 := below_step hb2 ((Below.refl w2.heap.size w2).grown hgrow (Nat.le_refl _) (by simp)); have HO : Hid (Own w3 w2.heap.size w2.heap.size M (List.replicate M 0)) := Own.of_made hown; clear hown hgrow)
      | (have hw := HO.out.block (List.length_replicate ..); refine wpList_copy_splice rfl _ _ 26 26 rfl 5 Tryz.underlying26 Tryz.size5 _ _ _ _ _ _ rfl rfl w2.heap.size 0 _ 5 hw (byts hv) (by rw [List.length_map]; exact (Nat.min_eq_left (by omega)).symm) (fun h0 => ⟨rfl, (HRW.out w3 hb3).src (by simpa using h0)⟩) (by simp; omega) (one_byts hv) w1.heap.size w1 hb3 hb2.size ?_; intro w4 hw4 hb4; rw [putA_splice, HYS.out] at hw4; have HW4 := Hid.in hw4.out; have HB4 := Hid.in hb4; have hs2 : w1.heap.size ≤ w2.heap.size := hb2.size; clear hw hw4 HO hb3 hb4 hb2 hl))
    have hsrc := HSR.out w4 HB4.out
    have hcl := HCL.out
    have hs4 := fun W => slice_four w.heap.size r W hr
    go_region_law (refine step_copy_splice (by rfl) _ _ 26 26 (by rfl) 5 Tryz.underlying26 Tryz.size5 _ _ _ _ _ _ (by rfl) (by rfl) w2.heap.size hv.length (byts ys) 5 HW4.out (byts zs) hcl (fun _ => ⟨rfl, ⟨w.heap.size, r, none⟩, rfl, hsrc⟩) (by rw [List.length_map, List.length_map, HZL.out, HYL.out]; omega) (one_byts _) w1.heap.size w1 (below_drewN HB4.out 1) hs2 ?_; intro w5 HW5 HB5; rw [putA_splice, HPZ.out] at HW5)
    all_goals
      have HBB := Hid.in (HBW.out _ HB5)
      clear HB5 hsrc hcl HW4 HB4
      go_wp2_with fail
      go_ret
      refine ⟨w2.heap.size, rfl, Own.mk (by omega) HW5.out (by rw [List.length_append, HZL.out]; omega) (by unfold maxLen; omega) (by simp [HZL.out]; omega) (by rw [List.take_of_length_le (by simp)]), HBB.out⟩

end Go.Proofs.YtnpaijbkhmnfpaaGreat

/- fetch.Step: what it answers, for every memory and lines that calls have made. -/
namespace Go.Proofs.YtnpaijbkhmnfpaaGreat
open Go.RowKit Go.Maps

set_option maxHeartbeats 400000 in
theorem len_any (q g B : Nat) (xs : List Int) (w : World) (hm : Mem w B q g xs) :
    Calls Tryz.prog 110 #[.pointer (some ⟨q, 0, none⟩)] w fun e w' => e = .returned (.int .i64 xs.length) ∧ w' = w := by
  have hc := none_no q w hm.c0
  have h1 := hm.c1
  clear hm
  go_enter Tryz.func110, Tryz.ntmps110
  go_wp2_with (go_at_call 61; refine hc.mono ?_; rintro e w1 ⟨rfl, rfl⟩)
  go_ret
  exact ⟨rfl, rfl⟩

set_option maxHeartbeats 400000 in
theorem bytes_any (q g B : Nat) (xs : List Int) (w : World) (hm : Mem w B q g xs) (hn : xs.length ≤ 65536) :
    Calls Tryz.prog 30 #[.pointer (some ⟨q, 0, none⟩)] w fun e w' => ∃ h, e = .returned (.slice (some ⟨h, 0, none⟩) xs.length xs.length) ∧ Own w' w.heap.size h xs.length xs ∧ Below w.heap.size w w' := by
  have hc := none_no q w hm.c0
  have h1 := hm.c1
  have hcon := copied_any (some ⟨g, 0, none⟩) xs.length xs.length xs w rfl (by omega) hm.own.row
  clear hm
  go_enter Tryz.func30, Tryz.ntmps30
  go_wp2_with (first | (go_at_call 61; refine hc.mono ?_; rintro e w1 ⟨rfl, rfl⟩) | (go_at_call 39; refine hcon.mono ?_; rintro e w1 ⟨h, rfl, ho, hb⟩; clear hcon; have HO := Hid.in ho; have HB := Hid.in hb; clear ho hb))
  go_ret
  exact ⟨h, rfl, HO.out, HB.out⟩

/-- a row of bytes stays while lines are written to -/
theorem Row.lines {w w' : World} {p : Option Addr} {xs : List Int} {b : Nat} (h : Row w p xs) (hb : ∃ es c, w.heap[b]? = some (.map es c)) (hk : Keeps (fun j => j = b) w w') : Row w' p xs := fun h0 => by
  obtain ⟨g, o, rfl, hc⟩ := h h0
  obtain ⟨es, c, e⟩ := hb
  have hg : g ≠ b := fun e1 => by
    have := hc 0 h0
    rw [e1] at this
    simp [World.cell?, e] at this
  refine ⟨g, o, rfl, fun i hi => ?_⟩
  have h1 := hc i hi
  have h2 := hk.block g (cell_lt h1) hg
  unfold World.cell? at h1 ⊢
  dsimp only at h1 ⊢
  rw [h2]; exact h1

/-- Take, of a granule of memory -/
theorem take_lin (B B' q mg l b g : Nat) (L : List Ln) (xs : List Int) (hold : Bool) (w : World) (hl : LinAt w B l b L) (hm : Mem w B' q mg xs) (hlen : L.length ≤ 1048576) (hg : g < 16384) :
    Calls Tryz.prog 112 #[.pointer (some ⟨l, 0, none⟩), .pointer (some ⟨q, 0, none⟩), .int .i64 g, .bool hold] w fun e w' => e = .returned (.tuple #[fV (takR L xs g hold).f, .bool (takR L xs g hold).is, .int .i64 0]) ∧ LinAt w' B l b (takR L xs g hold).L ∧ Keeps (fun j => j = b) w w' := by
  have hgW : i64W (g : Int) := by unfold i64W; omega
  rcases takR_cases L g hold with ⟨f, hf, rfl⟩ | hno
  · rw [takR_held hf]
    refine (take_held _ l b L _ _ 0 g f w hl hgW hf (by decide) (gran_is hm (k := g) hg)).mono ?_
    rintro e w' ⟨rfl, hb⟩
    exact ⟨rfl, hl.below hb, Keeps.ofBelow hb⟩
  · rw [takR_in hno (by omega)]
    refine (take_new _ l b L _ (granF xs g) g hold w hl hlen hgW hno (gran_is hm (k := g) hg)).mono ?_
    rintro e w' ⟨rfl, hl', hk⟩
    exact ⟨rfl, hl', hk⟩
/-- there: yes -/
theorem there_yes (B B' q mg l b : Nat) (L : List Ln) (xs : List Int) (w : World) (hl : LinAt w B l b L) (hm : Mem w B' q mg xs) :
    Calls Tryz.prog 108 #[.pointer (some ⟨q, 0, none⟩), .pointer (some ⟨l, 0, none⟩)] w fun E w' => E = .returned (.bool true) ∧ Below w.heap.size w w' :=
  there_of _ _ zF false 2 w (take_err _ l b L _ zF 2 (-1) false w hl (by unfold i64W; omega) (by simp) (by decide) (by decide) (gran_is_bad hm (.inl (by omega))))


set_option maxHeartbeats 1000000 in
theorem step_done (B B' q mg l b pc c : Nat) (p : Option Addr) (L : List Ln) (xs hv : List Int) (hold : Bool) (w : World) (hl : LinAt w B l b L) (hm : Mem w B' q mg xs) (hn : hv.length ≤ 140737488355328) (hrow : Row w p hv) (hd : doneB hv = true) :
    Calls Tryz.prog 78 #[.pointer (some ⟨q, 0, none⟩), .pointer (some ⟨l, 0, none⟩), .int .u32 pc, .slice p hv.length c, .bool hold] w fun e w' => e = .returned (.tuple #[.slice none 0 0, .int .i64 0, .bool false, .int .i64 2]) ∧ Below w.heap.size w w' := by
  have ht := there_yes B B' q mg l b L xs w hl hm
  have h13 := fun W (hW : Below w.heap.size w W) => done_any p hv.length c hv W rfl hn (hrow.below hW)
  rw [hd] at h13
  clear hl hm hrow hd
  go_enter Tryz.func78, Tryz.ntmps78
  go_wp2_with (go_at_call 108; refine Hid.out ?_)
  refine Lib.hid ?_
  refine ht.mono ?_
  rintro e w1 ⟨rfl, hb1⟩
  go_wp2_with (go_at_call 43; refine Hid.out ?_)
  refine Lib.hid ?_
  refine (h13 _ hb1).mono ?_
  rintro e w2 ⟨rfl, hb2⟩
  have HB := Hid.in (below_step hb1 hb2)
  clear hb1 hb2 ht h13
  go_wp2_with fail
  refine bodyPost_ret (v := .tuple #[.slice none 0 0, .int .i64 0, .bool false, .int .i64 2]) (by simp [results, Tryz.results78, go_sem]) rfl ⟨rfl, HB.out⟩

set_option maxHeartbeats 1000000 in
theorem step_out (B B' q mg l b pc c : Nat) (p : Option Addr) (L : List Ln) (xs hv : List Int) (hold : Bool) (w : World) (hl : LinAt w B l b L) (hm : Mem w B' q mg xs) (hpc : pc ≤ 4294967295) (hn : hv.length ≤ 140737488355328) (hrow : Row w p hv) (hd : doneB hv = false) (hx : xs.length ≤ pc + hv.length) :
    Calls Tryz.prog 78 #[.pointer (some ⟨q, 0, none⟩), .pointer (some ⟨l, 0, none⟩), .int .u32 pc, .slice p hv.length c, .bool hold] w fun e w' => e = .returned (.tuple #[.slice none 0 0, .int .i64 0, .bool false, .int .i64 210]) ∧ Below w.heap.size w w' := by
  have ht := there_yes B B' q mg l b L xs w hl hm
  have h13 := fun W (hW : Below w.heap.size w W) => done_any p hv.length c hv W rfl hn (hrow.below hW)
  rw [hd] at h13
  have h29 := fun W => place_any pc p hv.length c W (by omega) (by omega) hn
  have h30 := fun W (hW : Below w.heap.size w W) => len_any q mg B' xs W (hm.below hW)
  have hxl : xs.length ≤ maxLen := hm.len
  unfold maxLen at hxl
  clear hl hm hrow hd
  go_enter Tryz.func78, Tryz.ntmps78
  go_wp2_with (go_at_call 108; refine Hid.out ?_)
  refine Lib.hid ?_
  refine ht.mono ?_
  rintro e w1 ⟨rfl, hb1⟩
  go_wp2_with (go_at_call 43; refine Hid.out ?_)
  refine Lib.hid ?_
  refine (h13 _ hb1).mono ?_
  rintro e w2 ⟨rfl, hb2⟩
  have HB := Hid.in (below_step hb1 hb2)
  have h30' := h30 _ HB.out
  have h29' := h29 w2
  clear hb1 hb2 ht h13 h29 h30
  have hge : (xs.length : Int) ≤ (pc : Int) + hv.length := by omega
  go_wp2_with (first
    | (go_at_call 109; (with_reducible refine h29'.mono ?_); rintro e w3 ⟨rfl, rfl⟩)
    | (go_at_call 110; (with_reducible refine h30'.mono ?_); rintro e w3 ⟨rfl, rfl⟩))
  refine bodyPost_ret (v := .tuple #[.slice none 0 0, .int .i64 0, .bool false, .int .i64 210]) (by simp [results, Tryz.results78, go_sem]) rfl ⟨rfl, HB.out⟩

set_option maxHeartbeats 1000000 in
theorem step_ok (B B' q mg l b pc c : Nat) (p : Option Addr) (L : List Ln) (xs hv : List Int) (hold : Bool) (w : World) (hl : LinAt w B l b L) (hm : Mem w B' q mg xs) (hlen : L.length ≤ 1048576) (hx6 : xs.length ≤ 65536) (hpc : pc ≤ 4294967295) (hrow : Row w p hv) (hd : doneB hv = false) (hx : pc + hv.length < xs.length) :
    Calls Tryz.prog 78 #[.pointer (some ⟨q, 0, none⟩), .pointer (some ⟨l, 0, none⟩), .int .u32 pc, .slice p hv.length c, .bool hold] w fun e w' => ∃ g, e = .returned (.tuple #[.slice (some ⟨g, 0, none⟩) (outF hv (takR L xs (((pc + hv.length) / 4 : Nat) : Int) hold).f ((pc + hv.length) % 4)).length (outF hv (takR L xs (((pc + hv.length) / 4 : Nat) : Int) hold).f ((pc + hv.length) % 4)).length, .int .i64 ((pc + hv.length) / 4 : Nat), .bool (takR L xs (((pc + hv.length) / 4 : Nat) : Int) hold).is, .int .i64 0]) ∧
      Own w' w.heap.size g (outF hv (takR L xs (((pc + hv.length) / 4 : Nat) : Int) hold).f ((pc + hv.length) % 4)).length (outF hv (takR L xs (((pc + hv.length) / 4 : Nat) : Int) hold).f ((pc + hv.length) % 4)) ∧ LinAt w' B l b (takR L xs (((pc + hv.length) / 4 : Nat) : Int) hold).L ∧ Keeps (fun j => j = b) w w' := by
  have ht := there_yes B B' q mg l b L xs w hl hm
  have hn6 : hv.length ≤ 6 := by
    by_cases h0 : hv.length = 0
    · omega
    · have := lt_of_not_done hd (by omega)
      have := (lenB_in (hv.getD 0 0)).2
      omega
  have h13 := fun W (hW : Below w.heap.size w W) => done_any p hv.length c hv W rfl (by omega) (hrow.below hW)
  rw [hd] at h13
  have h29 := fun W => place_any pc p hv.length c W (by omega) (by omega) (by omega)
  have h12 := fun W => next_any pc p hv.length c W hpc (by omega)
  have h30 := fun W (hW : Below w.heap.size w W) => len_any q mg B' xs W (hm.below hW)
  have hg4 : (pc + hv.length) / 4 < 16384 := by omega
  have hr4 : (pc + hv.length) % 4 < 4 := Nat.mod_lt _ (by decide)
  have h31 := fun W (hW : Below w.heap.size w W) => take_lin B B' q mg l b ((pc + hv.length) / 4) L xs hold W (hl.below hW) (hm.below hW) hlen hg4
  obtain ⟨t, ht'⟩ : ∃ t, takR L xs (((pc + hv.length) / 4 : Nat) : Int) hold = t := ⟨_, rfl⟩
  rw [ht'] at h31 ⊢
  clear ht'
  obtain ⟨f, is, e0, L2⟩ := t
  dsimp only at h31 ⊢
  have hM := fst_lt hd f ((pc + hv.length) % 4)
  have hK6 := (lenB_in (fstB hv f ((pc + hv.length) % 4))).2
  have hol := outF_len hd f hr4
  have hoe := outF_eq hd f hr4
  have h32 := fun W (hW : Row W p hv) => behind_core p c ((pc + hv.length) % 4) _ _ hv f _ W hr4 hW rfl rfl hM hK6 hol
  rw [hol, ← hoe, ← hol] at h32
  have HR : Hid (∀ W, Below w.heap.size w W → Row W p hv) := fun W hW => hrow.below hW
  have HM : Hid (∃ es c, w.heap[b]? = some (.map es c)) := hl.isMap
  have HM' : Hid (∀ W, Below w.heap.size w W → ∃ es c, W.heap[b]? = some (.map es c)) := fun W hW => (hl.below hW).isMap
  clear hl hm hrow hd hM hK6 hol hoe
  generalize outF hv f ((pc + hv.length) % 4) = out at *
  have hA : (pc : Int) + hv.length = ((pc + hv.length : Nat) : Int) := by omega
  rw [hA] at h29
  obtain ⟨A, hA2⟩ : ∃ A, pc + hv.length = A := ⟨_, rfl⟩
  rw [hA2] at h29 h12 h31 h32 hx ⊢
  have hrm : (A : Int) % 4 = ((A % 4 : Nat) : Int) := by omega
  have hge : ¬ (xs.length : Int) ≤ A := by omega
  have hAm : A ≤ 65536 := by omega
  rw [hA2] at hr4 hg4
  clear hA hA2
  generalize A / 4 = gq at *
  generalize A % 4 = r at *
  obtain ⟨f0, f1, f2, f3⟩ := f
  simp only [fV] at h31
  dsimp only at h32
  go_enter Tryz.func78, Tryz.ntmps78
  go_wp2_with (go_at_call 108; refine Hid.out ?_)
  refine Lib.hid ?_
  refine ht.mono ?_
  rintro e w1 ⟨rfl, hb1⟩
  go_wp2_with (go_at_call 43; refine Hid.out ?_)
  refine Lib.hid ?_
  refine (h13 _ hb1).mono ?_
  rintro e w2 ⟨rfl, hb2⟩
  have HB := Hid.in (below_step hb1 hb2)
  have h30' := h30 _ HB.out
  have h29' := h29 w2
  have h12' := h12 w2
  have h31' := h31 _ HB.out
  clear hb1 hb2 ht h13 h29 h30 h31 h12
  go_wp2_with (first
    | (go_at_call 109; (with_reducible refine h29'.mono ?_); rintro e w3 ⟨rfl, rfl⟩)
    | (go_at_call 110; (with_reducible refine h30'.mono ?_); rintro e w3 ⟨rfl, rfl⟩)
    | (go_at_call 111; (with_reducible refine h12'.mono ?_); rintro e w3 ⟨rfl, rfl⟩)
    | (go_at_call 112; refine Hid.out ?_))
  refine Lib.hid ?_
  clear h30' h29' h12'
  refine h31'.mono ?_
  rintro e w3 ⟨rfl, hl3, hk3⟩
  have HK3 := Hid.in ((Keeps.ofBelow HB.out).trans' hk3)
  have HR3 := Hid.in ((HR.out _ HB.out).lines (HM'.out _ HB.out) hk3)
  have HL3 := Hid.in hl3
  have HN4 := Hid.in (Blk.new w3 92 #[.int .u8 f0, .int .u8 f1, .int .u8 f2, .int .u8 f3])
  have HW4 := Hid.in (new_alloc w3 (.cells #[.int .u8 f0, .int .u8 f1, .int .u8 f2, .int .u8 f3] 92))
  have HR4 := Hid.in (HR3.out.below HW4.out)
  have HL4 := Hid.in (HL3.out.below HW4.out)
  have HK4 := Hid.in (HK3.out.trans' (Keeps.ofBelow HW4.out))
  clear hl3 hk3 h31' HB HR HM HM' HR3 HL3 HK3 HW4
  go_upto_region 10 with fail
  generalize w3.alloc (.cells #[.int .u8 f0, .int .u8 f1, .int .u8 f2, .int .u8 f3] 92) = w4 at *
  generalize w3.heap.size = g3 at *
  have c0 : w4.cell? ⟨g3, 0, none⟩ = some (.int .u8 f0) := HN4.out.cell 0
  have c1 : w4.cell? ⟨g3, 1, none⟩ = some (.int .u8 f1) := HN4.out.cell 1
  have c2 : w4.cell? ⟨g3, 2, none⟩ = some (.int .u8 f2) := HN4.out.cell 2
  have c3 : w4.cell? ⟨g3, 3, none⟩ = some (.int .u8 f3) := HN4.out.cell 3
  have h32' := h32 w4 HR4.out
  clear h32
  go_wp2_with (go_at_call 113; refine Hid.out ?_)
  refine Lib.hid ?_
  refine h32'.mono ?_
  rintro e w5 ⟨g5, rfl, ho5, hb5⟩
  have HO5 := Hid.in ho5
  have HL5 := Hid.in (HL4.out.below hb5)
  have HK5 := Hid.in (HK4.out.trans' (Keeps.ofBelow hb5))
  have HS5 := Hid.in HK4.out.size
  clear ho5 hb5 h32' HL4 HK4 HR4 c0 c1 c2 c3 HN4
  go_wp2_with fail
  refine bodyPost_ret (v := .tuple #[.slice (some ⟨g5, 0, none⟩) out.length out.length, .int .i64 gq, .bool is, .int .i64 0]) (by simp [results, Tryz.results78, go_sem]) rfl ⟨g5, rfl, HO5.out.lower HS5.out, HL5.out, HK5.out⟩

/-- Step, whatever it answers -/
theorem step_any (B B' q mg l b pc c : Nat) (p : Option Addr) (L : List Ln) (xs hv : List Int) (hold : Bool) (w : World) (hl : LinAt w B l b L) (hm : Mem w B' q mg xs) (hlen : L.length ≤ 1048576) (hx6 : xs.length ≤ 65536) (hpc : pc ≤ 4294967295) (hn : hv.length ≤ 140737488355328) (hrow : Row w p hv) :
    Calls Tryz.prog 78 #[.pointer (some ⟨q, 0, none⟩), .pointer (some ⟨l, 0, none⟩), .int .u32 pc, .slice p hv.length c, .bool hold] w fun e w' => ∃ v, e = .returned (.tuple #[v, .int .i64 (stpR L xs pc hv hold).g, .bool (stpR L xs pc hv hold).is, .int .i64 (stpR L xs pc hv hold).e]) ∧ OwnV w' w.heap.size v (stpR L xs pc hv hold).out ∧ LinAt w' B l b (stpR L xs pc hv hold).L ∧ Keeps (fun j => j = b) w w' := by
  unfold stpR
  by_cases hd : doneB hv = true
  · rw [if_pos hd]
    refine (step_done B B' q mg l b pc c p L xs hv hold w hl hm hn hrow hd).mono ?_
    rintro e w' ⟨rfl, hb⟩
    exact ⟨_, rfl, OwnV.nil _ _, hl.below hb, Keeps.ofBelow hb⟩
  · rw [if_neg hd]
    have hd : doneB hv = false := by simpa using hd
    by_cases hx : xs.length ≤ pc + hv.length
    · rw [if_pos hx]
      refine (step_out B B' q mg l b pc c p L xs hv hold w hl hm hpc hn hrow hd hx).mono ?_
      rintro e w' ⟨rfl, hb⟩
      exact ⟨_, rfl, OwnV.nil _ _, hl.below hb, Keeps.ofBelow hb⟩
    · rw [if_neg hx]
      refine (step_ok B B' q mg l b pc c p L xs hv hold w hl hm hlen hx6 hpc hrow hd (by omega)).mono ?_
      rintro e w' ⟨g, rfl, ho, hl', hk⟩
      exact ⟨_, rfl, ho.val, hl', hk⟩

end Go.Proofs.YtnpaijbkhmnfpaaGreat

/- The laws of fetch: memory and lines side by side; made; awake answers true. -/
namespace Go.Proofs.YtnpaijbkhmnfpaaGreat
open Go.RowKit Go.Maps

theorem Mem.lower {w : World} {B B' q g : Nat} {xs : List Int} (h : Mem w B q g xs) (hB : B' ≤ B) : Mem w B' q g xs := ⟨h.blk, h.own.lower hB, Nat.le_trans hB h.base, h.ne⟩
/-- memory and lines, behind w0 -/
structure FSt (w0 w : World) (q mg l b : Nat) (L : List Ln) (xs : List Int) : Prop where
  bel : Below w0.heap.size w0 w
  lin : LinAt w w0.heap.size l b L
  mem : Mem w w0.heap.size q mg xs
/-- what stands not in that block -/
def Far (p : Option Addr) (mg : Nat) : Prop := ∀ g o, p = some ⟨g, o, none⟩ → g ≠ mg
theorem far_none (mg : Nat) : Far none mg := fun _ _ e => by cases e
section
variable {w0 w w' : World} {q mg l b : Nat} {L : List Ln} {xs : List Int}
theorem FSt.below (h : FSt w0 w q mg l b L xs) (hb : Below w.heap.size w w') : FSt w0 w' q mg l b L xs := ⟨below_step h.bel hb, h.lin.below hb, h.mem.below hb⟩
theorem FSt.drewN (h : FSt w0 w q mg l b L xs) (n : Nat) : FSt w0 (w.drewN n) q mg l b L xs := ⟨below_draws h.bel n, h.lin.drewN n, h.mem.drewN n⟩
theorem FSt.swap (h : FSt w0 w q mg l b L xs) {L' : List Ln} (hl : LinAt w' w0.heap.size l b L') (hk : Keeps (fun j => j = b) w w') : FSt w0 w' q mg l b L' xs :=
  ⟨below_take h.bel hk h.lin.hb (Nat.le_refl _), hl, h.mem.lines h.lin.isMap hk⟩
theorem FSt.written (h : FSt w0 w q mg l b L xs) {zs : List Int} (hm : Mem w' w0.heap.size q mg zs) (hk : Keeps (fun j => j = mg) w w') : FSt w0 w' q mg l b L zs :=
  ⟨below_take h.bel hk h.mem.own.base (Nat.le_refl _), h.lin.mem h.mem hk, hm⟩
theorem Row.far {p : Option Addr} {ys : List Int} (h : Row w p ys) (hf : Far p mg) (hk : Keeps (fun j => j = mg) w w') : Row w' p ys := fun h0 => by
  obtain ⟨g, o, rfl, hc⟩ := h h0
  refine ⟨g, o, rfl, fun i hi => ?_⟩
  have h1 := hc i hi
  have h2 := hk.block g (cell_lt h1) (hf g o rfl)
  unfold World.cell? at h1 ⊢
  dsimp only at h1 ⊢
  rw [h2]; exact h1
theorem OwnV.far {B : Nat} {v : Value} {ys : List Int} (h : OwnV w B v ys) (hg : mg < B) : ∃ p c, v = .slice p ys.length c ∧ Row w p ys ∧ Far p mg ∧ (0 < ys.length → ∃ g, p = some ⟨g, 0, none⟩) := by
  rcases h.shape with ⟨rfl, rfl⟩ | ⟨g, cap, rfl, ho⟩
  · exact ⟨none, 0, rfl, fun h => absurd h (Nat.lt_irrefl 0), far_none _, fun h => absurd h (Nat.lt_irrefl 0)⟩
  · exact ⟨_, _, rfl, ho.row, fun g' o e => by injection e with e; injection e with e; have := ho.base; omega, fun _ => ⟨g, rfl⟩⟩
/-- Step, where memory and lines stand so -/
theorem FSt.step (h : FSt w0 w q mg l b L xs) (pc c : Nat) (p : Option Addr) (hv : List Int) (hold : Bool) (hlen : L.length ≤ 1048576) (hx6 : xs.length ≤ 65536) (hpc : pc ≤ 4294967295) (hn : hv.length ≤ 140737488355328) (hrow : Row w p hv) :
    Calls Tryz.prog 78 #[.pointer (some ⟨q, 0, none⟩), .pointer (some ⟨l, 0, none⟩), .int .u32 pc, .slice p hv.length c, .bool hold] w fun e w' => ∃ p' c', e = .returned (.tuple #[.slice p' (stpR L xs pc hv hold).out.length c', .int .i64 (stpR L xs pc hv hold).g, .bool (stpR L xs pc hv hold).is, .int .i64 (stpR L xs pc hv hold).e]) ∧ Row w' p' (stpR L xs pc hv hold).out ∧ Far p' mg ∧ FSt w0 w' q mg l b (stpR L xs pc hv hold).L xs ∧ ∀ r ys, Row w r ys → Row w' r ys := by
  refine (step_any _ _ q mg l b pc c p L xs hv hold w h.lin h.mem hlen hx6 hpc hn hrow).mono ?_
  rintro e w' ⟨v, rfl, ho, hl, hk⟩
  obtain ⟨p', c', rfl, hr, hf, -⟩ := ho.far h.mem.own.lt
  exact ⟨p', c', rfl, hr, hf, h.swap hl hk, fun r ys hr => hr.lines h.lin.isMap hk⟩
end

theorem Row.take {w : World} {p : Option Addr} {xs : List Int} (h : Row w p xs) (n : Nat) : Row w p (xs.take n) := fun h0 => by
  rw [List.length_take] at h0
  obtain ⟨b, o, rfl, hc⟩ := h (by omega)
  refine ⟨b, o, rfl, fun i hi => ?_⟩
  rw [List.length_take] at hi
  rw [hc i (by omega)]
  simp only [List.getD, List.getElem?_take_of_lt (show i < n by omega)]
theorem byt_take {xs : List Int} (h : Byt xs) (n : Nat) : Byt (xs.take n) := fun i => by
  by_cases hi : i < n
  · have e : (xs.take n).getD i 0 = xs.getD i 0 := by simp only [List.getD, List.getElem?_take_of_lt hi]
    rw [e]; exact h i
  · have e : (xs.take n).getD i 0 = 0 := by simp only [List.getD, List.getElem?_eq_none (show (xs.take n).length ≤ i by rw [List.length_take]; omega), Option.getD_none]
    rw [e]; omega

def aw : List Int := [144, 233, 1, 2, 3, 4, 144, 0]

end Go.Proofs.YtnpaijbkhmnfpaaGreat
