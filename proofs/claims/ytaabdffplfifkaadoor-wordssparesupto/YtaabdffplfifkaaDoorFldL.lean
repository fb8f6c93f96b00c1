/- Plain facts on a line's fields. -/
import Derived.Test.YtaabdffplfifkaaDoorLines
import Derived.Test.YtaabdffplfifkaaDoorRefName
import Derived.Laws.RangeAny
import Derived.Lib.Strings
namespace Go.Proofs.YtaabdffplfifkaaDoor
open Go.RowKit

def isBlank (c : UInt8) : Bool := c == 32 || c == 9 || c == 13
theorem isBlank_int (c : UInt8) : blankB (c.toNat : Int) = isBlank c := by
  rw [Bool.eq_iff_iff]
  simp [blankB, isBlank, ← UInt8.toNat_inj]
  omega

/-- a field with a byte more -/
def one1 (p : Nat) (c : UInt8) : Option (Nat × List UInt8) → Nat × List UInt8
  | none => (p, [c])
  | some x => (x.1, x.2 ++ [c])
/-- the fields of what stands from the place p on, the field cur being under way -/
def fldL (p : Nat) (cur : Option (Nat × List UInt8)) : List UInt8 → List (Nat × List UInt8)
  | [] => cur.toList
  | c :: cs => if isBlank c then cur.toList ++ fldL (p + 1) none cs else fldL (p + 1) (some (one1 p c cur)) cs
/-- what stands ahead of the first # -/
def ahead (l : List UInt8) : List UInt8 := l.takeWhile (· != 35)
def fieldsL (l : List UInt8) : List (Nat × List UInt8) := fldL 0 none (ahead l)

theorem fldL_blank (p : Nat) (cur : Option (Nat × List UInt8)) (c : UInt8) (cs : List UInt8) (h : isBlank c = true) : fldL p cur (c :: cs) = cur.toList ++ fldL (p + 1) none cs := by
  rw [fldL, if_pos h]
theorem fldL_some (p : Nat) (x : Nat × List UInt8) (c : UInt8) (cs : List UInt8) (h : isBlank c = false) : fldL p (some x) (c :: cs) = fldL (p + 1) (some (x.1, x.2 ++ [c])) cs := by
  rw [fldL, if_neg (by simp [h]), one1]
theorem fldL_none (p : Nat) (c : UInt8) (cs : List UInt8) (h : isBlank c = false) : fldL p none (c :: cs) = fldL (p + 1) (some (p, [c])) cs := by
  rw [fldL, if_neg (by simp [h]), one1]
theorem fldL_run (w rest : List UInt8) : ∀ (p : Nat) (x : Nat × List UInt8), (∀ c ∈ w, isBlank c = false) → fldL p (some x) (w ++ rest) = fldL (p + w.length) (some (x.1, x.2 ++ w)) rest := by
  induction w with
  | nil => intro p x _; simp
  | cons c w ih =>
    intro p x h
    rw [List.cons_append, fldL_some _ _ _ _ (h c (by simp)), ih _ _ fun d hd => h d (by simp [hd])]
    simp only [List.length_cons, List.append_assoc, List.singleton_append]
    congr 1; omega
theorem fldL_open (w rest : List UInt8) (p : Nat) (hne : w ≠ []) (h : ∀ c ∈ w, isBlank c = false) : fldL p none (w ++ rest) = fldL (p + w.length) (some (p, w)) rest := by
  cases w with
  | nil => exact absurd rfl hne
  | cons c w =>
    rw [List.cons_append, fldL_none _ _ _ (h c (by simp)), fldL_run _ _ _ _ fun d hd => h d (by simp [hd])]
    simp only [List.length_cons, List.singleton_append]
    congr 1; omega
theorem fldL_length (l : List UInt8) : ∀ (p : Nat) (cur : Option (Nat × List UInt8)), (fldL p cur l).length ≤ l.length + 1 := by
  induction l with
  | nil => intro p cur; cases cur <;> simp [fldL]
  | cons c cs ih =>
    intro p cur
    rw [fldL]
    split
    · have := ih (p + 1) none
      cases cur
      · simp; omega
      · simp; omega
    · have := ih (p + 1) (some (one1 p c cur))
      simp; omega

theorem ahead_cut (a b : List UInt8) (h : ∀ x ∈ a, x ≠ 35) : ahead (a ++ 35 :: b) = a := by
  unfold ahead
  rw [List.takeWhile_append_of_pos (fun x hx => by simpa using h x hx)]
  simp
theorem ahead_cons (c : UInt8) (cs : List UInt8) (h : c ≠ 35) : ahead (c :: cs) = c :: ahead cs := by simp [ahead, h]
theorem ahead_no (l : List UInt8) (h : ∀ x ∈ l, x ≠ 35) : ahead l = l := by
  induction l with
  | nil => rfl
  | cons c cs ih => rw [ahead_cons c cs (h c (by simp)), ih fun x hx => h x (by simp [hx])]
theorem ahead_all (l : List UInt8) : ∀ x ∈ ahead l, x ≠ 35 := by
  induction l with
  | nil => intro x hx; simp [ahead] at hx
  | cons c cs ih =>
    intro x hx
    by_cases hc : c = 35
    · subst hc; simp [ahead] at hx
    · rw [ahead_cons c cs hc] at hx
      rcases List.mem_cons.1 hx with rfl | hx
      · exact hc
      · exact ih x hx
theorem ahead_split (l : List UInt8) : (ahead l = l) ∨ ∃ b, l = ahead l ++ 35 :: b := by
  induction l with
  | nil => exact .inl rfl
  | cons c cs ih =>
    by_cases hc : c = 35
    · subst hc
      exact .inr ⟨cs, by simp [ahead]⟩
    · have e : ahead (c :: cs) = c :: ahead cs := by simp [ahead, hc]
      rcases ih with ih | ⟨b, ih⟩
      · exact .inl (by rw [e, ih])
      · exact .inr ⟨b, by rw [e, List.cons_append, ← ih]⟩

/-- the texts of fields, their columns -/
def fTexts (fs : List (Nat × List UInt8)) : List ByteArray := fs.map fun x => bytesOf x.2
def fCols (fs : List (Nat × List UInt8)) : List Int := fs.map fun x => (x.1 : Int) + 1

/-- a rune's bytes: within the text, none of them a blank if the first is none -/
theorem rune_bytes (s : ByteArray) (pos : Nat) (h : pos < s.size) (ha : 128 ≤ (s[pos]'h).toNat) :
    pos + (Utf8.decode s pos).2 ≤ s.size ∧ ∀ j, pos ≤ j → j < pos + (Utf8.decode s pos).2 → 128 ≤ (s.get! j).toNat := by
  have hn : ¬ (s[pos]'h).toNat < 128 := by omega
  have h0 : 128 ≤ (s.get! pos).toNat := by
    have := get_at s pos h
    rw [Nat.add_zero] at this
    rw [this]; exact ha
  simp only [Utf8.decode, get_at s pos h, hn, if_false]
  repeat' split
  all_goals simp_all
  all_goals
    refine ⟨by omega, fun j h1 h2 => ?_⟩
    have hj : j = pos ∨ j = pos + 1 ∨ j = pos + 2 ∨ j = pos + 3 := by omega
    rcases hj with rfl | rfl | rfl | rfl
    all_goals first | exact h0 | omega

theorem high_blank (c : UInt8) (h : 128 ≤ c.toNat) : isBlank c = false := by
  simp [isBlank, ← UInt8.toNat_inj]; omega
theorem get_list (s : ByteArray) (j : Nat) (h : j < s.data.toList.length) : s.get! j = s.data.toList[j] := by
  have h' : j < s.size := by rw [Lib.size_eq]; exact h
  have := get_at s j h'
  rw [Nat.add_zero] at this
  rw [this]; simp [ByteArray.getElem_eq_getElem_data]
theorem list_byte (s : ByteArray) (k : Nat) (_h : k < s.size) (h' : k < s.data.toList.length) : s.data.toList[k] = s[k] := by simp [ByteArray.getElem_eq_getElem_data]

/-- one rune of a text, with its bytes -/
theorem rune_any (s : ByteArray) (pos : Nat) (h : pos < s.size) :
    1 ≤ (Utf8.decode s pos).2 ∧ pos + (Utf8.decode s pos).2 ≤ s.size ∧ blankB ((Utf8.decode s pos).1 : Int) = isBlank (s[pos]'h) ∧ (isBlank (s[pos]'h) = true → (Utf8.decode s pos).2 = 1) ∧
      (isBlank (s[pos]'h) = false → ∀ c ∈ piece s.data.toList pos (pos + (Utf8.decode s pos).2), isBlank c = false) := by
  have hl := Lib.size_eq s
  by_cases ha : (s[pos]'h).toNat < 128
  · rw [decode_ascii s pos h ha]
    refine ⟨Nat.le_refl _, h, isBlank_int _, fun _ => rfl, fun hb c hc => ?_⟩
    rw [piece_snoc _ pos pos (Nat.le_refl _) (by omega), piece_self, List.nil_append, List.mem_singleton] at hc
    rw [hc, list_byte s pos h (by omega)]
    exact hb
  · have hd := decode_high s pos h (by omega)
    have hr := rune_bytes s pos h (by omega)
    have hnb := high_blank (s[pos]'h) (by omega)
    refine ⟨hd.2, hr.1, ?_, (fun e => by rw [hnb] at e; cases e), fun _ c hc => ?_⟩
    · rw [hnb]; simp [blankB]; omega
    · unfold piece at hc
      obtain ⟨i, hi, rfl⟩ := List.getElem_of_mem hc
      rw [List.length_take, List.length_drop] at hi
      rw [List.getElem_take, List.getElem_drop, ← get_list s (pos + i) (by omega)]
      exact high_blank _ (hr.2 (pos + i) (by omega) (by omega))

end Go.Proofs.YtaabdffplfifkaaDoor
