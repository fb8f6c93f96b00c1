/- What words.Number and switchyardref03.Number answer, as a function of the text's bytes. -/
import Derived.Test.YtaabdffplfifkaaDoorWNumber
namespace Go.Proofs.YtaabdffplfifkaaDoor
open Go.RowKit

def digAll (l : List UInt8) : Bool := l.all fun c => decide (48 ≤ c.toNat) && decide (c.toNat ≤ 57)
/-- the digits' part is in the one form -/
def formB (n : Nat) (ds : List UInt8) : Bool := !ds.isEmpty && !(decide (ds.head? = some 48) && decide (1 < n)) && digAll ds
def numL (l : List UInt8) : Option Int :=
  if l.head? = some 45 then
    if formB l.length l.tail then (if valL 0 l.tail ≤ 9223372036854775808 then some (-(valL 0 l.tail : Int)) else none) else none
  else
    if formB l.length l then (if valL 0 l ≤ 9223372036854775807 then some (valL 0 l : Int) else none) else none

theorem digAll_iff (l : List UInt8) : digAll l = true ↔ DigL l := by
  simp [digAll, DigL]
theorem digs_iff (s : ByteArray) (f : Nat) : Digs s f s.size ↔ DigL (s.data.toList.drop f) := by
  refine ⟨digs_list s f, fun h j h1 h2 => ?_⟩
  have hl := Lib.size_eq s
  rw [byteAt_list s j (by omega)]
  have hm : s.data.toList[j]'(by omega) ∈ s.data.toList.drop f := by
    rw [List.mem_iff_getElem]
    refine ⟨j - f, by rw [List.length_drop]; omega, ?_⟩
    rw [List.getElem_drop]
    congr 1; omega
  have := h _ hm
  omega
theorem plain_iff (s : ByteArray) (f : Nat) : PlainP s f ↔ formB s.data.toList.length (s.data.toList.drop f) = true := by
  have hl := Lib.size_eq s
  have h1 : (s.data.toList.drop f).isEmpty = false ↔ f < s.size := by
    rw [List.isEmpty_eq_false_iff, ne_eq, List.drop_eq_nil_iff]; omega
  have h2 : f < s.size → ((s.data.toList.drop f).head? = some 48 ↔ byteAt s f = 48) := fun h => by
    rw [List.drop_eq_getElem_cons (by omega), byteAt_list s f (by omega)]
    simp [← UInt8.toNat_inj]
    omega
  unfold PlainP formB
  rw [digs_iff]
  simp only [Bool.and_eq_true, Bool.not_eq_true', digAll_iff, h1, Bool.and_eq_false_iff, decide_eq_false_iff_not]
  constructor
  · rintro ⟨a, b, c⟩
    refine ⟨⟨a, ?_⟩, c⟩
    by_cases e : 1 < s.size
    · exact .inl fun e' => b ⟨(h2 a).1 e', e⟩
    · exact .inr (by omega)
  · rintro ⟨⟨a, b⟩, c⟩
    refine ⟨a, fun e => ?_, c⟩
    rcases b with b | b
    · exact b ((h2 a).2 e.1)
    · omega
theorem sign_head (s : ByteArray) : (s.data.toList.head? = some 45 ∧ Sign s 1) ∨ (s.data.toList.head? ≠ some 45 ∧ Sign s 0) := by
  have hl := Lib.size_eq s
  have h1 : s.data.toList.head? = some 45 ↔ (0 < s.size ∧ byteAt s 0 = 45) := by
    cases hc : s.data.toList with
    | nil => rw [hc, List.length_nil] at hl; simp; omega
    | cons c r =>
      have hb0 : byteAt s 0 = (c.toNat : Int) := by
        rw [byteAt_list s 0 (by rw [hc]; simp)]; simp [hc]
      rw [hc, List.length_cons] at hl
      simp [hb0, ← UInt8.toNat_inj]
      omega
  by_cases h : 0 < s.size ∧ byteAt s 0 = 45
  · exact .inl ⟨h1.2 h, .inl ⟨rfl, h.1, h.2⟩⟩
  · exact .inr ⟨fun e => h (h1.1 e), .inr ⟨rfl, h⟩⟩
theorem val_eq (s : ByteArray) (f : Nat) (hp : PlainP s f) : (valL 0 (s.data.toList.drop f) : Int) = valU s f (s.size - f) := by
  have hv := valL_valU s f hp.2.2 (Nat.le_of_lt hp.1) (s.size - f) 0 (by have := hp.1; omega)
  rw [show (valU s f 0).toNat = 0 from rfl, Nat.add_zero, Nat.zero_add] at hv
  exact hv
theorem sign_one (s : ByteArray) (f g : Nat) (h : Sign s f) (h' : Sign s g) : f = g := by
  rcases h with ⟨rfl, a, b⟩ | ⟨rfl, a⟩ <;> rcases h' with ⟨rfl, c, d⟩ | ⟨rfl, c⟩
  · rfl
  · exact absurd ⟨a, b⟩ c
  · exact absurd ⟨c, d⟩ a
  · rfl

theorem numL_some (s : ByteArray) (v : Int) (h : numL s.data.toList = some v) : ∃ f, Sign s f ∧ NumAt s f v := by
  unfold numL at h
  rcases sign_head s with ⟨h1, h2⟩ | ⟨h1, h2⟩
  · rw [if_pos h1] at h
    split at h
    · rename_i hf
      split at h
      · rename_i hb
        rw [← List.drop_one] at hf hb h
        have hp := (plain_iff s 1).2 hf
        have hv := val_eq s 1 hp
        injection h with h
        exact ⟨1, h2, (numAt_iff s 1 v).2 ⟨hp, .inl ⟨rfl, by omega, by omega⟩⟩⟩
      · cases h
    · cases h
  · rw [if_neg h1] at h
    split at h
    · rename_i hf
      split at h
      · rename_i hb
        have hp := (plain_iff s 0).2 (by rw [List.drop_zero]; exact hf)
        have hv := val_eq s 0 hp
        rw [List.drop_zero] at hv
        injection h with h
        exact ⟨0, h2, (numAt_iff s 0 v).2 ⟨hp, .inr ⟨rfl, by omega, by omega⟩⟩⟩
      · cases h
    · cases h
theorem numL_of (s : ByteArray) (f : Nat) (v : Int) (hs : Sign s f) (h : NumAt s f v) : numL s.data.toList = some v := by
  rw [numAt_iff] at h
  obtain ⟨hp, hv⟩ := h
  have he := val_eq s f hp
  have hf := (plain_iff s f).1 hp
  unfold numL
  rcases sign_head s with ⟨h1, h2⟩ | ⟨h1, h2⟩
  · obtain rfl := sign_one s f 1 hs h2
    rcases hv with ⟨_, a, b⟩ | ⟨e, _⟩
    · rw [if_pos h1, ← List.drop_one, if_pos hf, if_pos (by omega)]
      congr 1; omega
    · cases e
  · obtain rfl := sign_one s f 0 hs h2
    rcases hv with ⟨e, _⟩ | ⟨_, a, b⟩
    · cases e
    · rw [List.drop_zero] at hf he
      rw [if_neg h1, if_pos hf, if_pos (by omega)]
      congr 1; omega
theorem numL_none (s : ByteArray) (h : numL s.data.toList = none) : ∀ f v, Sign s f → ¬ NumAt s f v := fun f v hs hn => by
  rw [numL_of s f v hs hn] at h; cases h

theorem number_some (s : ByteArray) (v : Int) (h : numL s.data.toList = some v) (hm : s.size ≤ 9223372036854775806) (w : World) :
    Calls Tryd.prog 9 #[.string s] w fun e w' => e = .returned (.tuple #[.int .i64 v, .bool true]) ∧ Below w.heap.size w w' := by
  obtain ⟨f, hs, hn⟩ := numL_some s v h
  exact number_yes s f v hs hn hm w
/-- the number beside the answer -/
def numV (l : List UInt8) : Int := (numL l).getD 0
theorem number_any (s : ByteArray) (hm : s.size ≤ 281474976710656) (w : World) (hv : Vars w) :
    Calls Tryd.prog 9 #[.string s] w fun e w' => e = .returned (.tuple #[.int .i64 (numV s.data.toList), .bool (numL s.data.toList).isSome]) ∧ Below w.heap.size w w' := by
  unfold numV
  cases h : numL s.data.toList with
  | none => exact number_no s (numL_none s h) hm w hv
  | some v => exact number_some s v h (by omega) w
theorem refNumber_any (s : ByteArray) (hm : s.size ≤ 281474976710656) (w : World) :
    Calls Tryd.prog 18 #[.string s] w fun e w' => e = .returned (.tuple #[.int .i64 (numV s.data.toList), .bool (numL s.data.toList).isSome]) ∧ w' = w := by
  unfold numV
  cases h : numL s.data.toList with
  | none => exact refNumber_no s w (by omega) (numL_none s h)
  | some v =>
    obtain ⟨f, hs, hn⟩ := numL_some s v h
    obtain ⟨h1, h2, h3, h4⟩ := hn
    rcases hs with ⟨rfl, a, b⟩ | ⟨rfl, a⟩
    · rcases h4 with ⟨_, c, d⟩ | ⟨e, _⟩
      · exact refNumber_neg_yes s v w (by omega) h1 b (fun e => h2 ⟨e, h1⟩) h3 c d
      · cases e
    · rcases h4 with ⟨e, _⟩ | ⟨_, c, d⟩
      · cases e
      · exact refNumber_pos_yes s v w (by omega) h1 (fun e => a ⟨h1, e⟩) h2 h3 c d

end Go.Proofs.YtaabdffplfifkaaDoor
