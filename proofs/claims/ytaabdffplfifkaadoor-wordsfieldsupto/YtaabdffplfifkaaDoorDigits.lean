/- A number's digits; what switchyardlaw03.digits answers. -/
import Derived.Test.YtaabdffplfifkaaDoorAwake3
namespace Go.Proofs.YtaabdffplfifkaaDoor
open Go.RowKit

def dch (a : Nat) : UInt8 := UInt8.ofNat (48 + a % 10)
/-- a number's digits -/
def dig (a : Nat) : List UInt8 := if _h : a < 10 then [dch a] else dig (a / 10) ++ [dch a]
termination_by a
decreasing_by omega
def digitsL (n : Int) : List UInt8 := if n < 0 then 45 :: dig n.natAbs else dig n.natAbs

theorem dch_nat (a : Nat) : (dch a).toNat = 48 + a % 10 := by
  unfold dch; rw [UInt8.toNat_ofNat']; omega
theorem dig_small (a : Nat) (h : a < 10) : dig a = [dch a] := by rw [dig, dif_pos h]
theorem dig_big (a : Nat) (h : ¬ a < 10) : dig a = dig (a / 10) ++ [dch a] := by rw [dig, dif_neg h]
theorem dig_ne (a : Nat) : dig a ≠ [] := by
  by_cases h : a < 10
  · rw [dig_small a h]; simp
  · rw [dig_big a h]; simp
theorem valL_append (l : List UInt8) (c : UInt8) (acc : Nat) : valL acc (l ++ [c]) = valL acc l * 10 + (c.toNat - 48) := by
  unfold valL; rw [List.foldl_append]; rfl

theorem dig_digs (a : Nat) : DigL (dig a) := by
  induction a using Nat.strongRecOn with
  | ind a ih =>
    by_cases h : a < 10
    · rw [dig_small a h]
      intro c hc; rw [List.mem_singleton] at hc; subst hc
      have := dch_nat a; omega
    · rw [dig_big a h]
      intro c hc
      rcases List.mem_append.1 hc with hc | hc
      · exact ih (a / 10) (by omega) c hc
      · rw [List.mem_singleton] at hc; subst hc
        have := dch_nat a; omega
theorem dig_val (a : Nat) : valL 0 (dig a) = a := by
  induction a using Nat.strongRecOn with
  | ind a ih =>
    by_cases h : a < 10
    · rw [dig_small a h, valL_cons, valL_nil, dch_nat]; omega
    · rw [dig_big a h, valL_append, ih (a / 10) (by omega), dch_nat]; omega
theorem dig_head (a : Nat) (h0 : a ≠ 0) : (dig a).head? ≠ some 48 := by
  induction a using Nat.strongRecOn with
  | ind a ih =>
    by_cases h : a < 10
    · rw [dig_small a h]
      intro e
      simp at e
      have := congrArg UInt8.toNat e
      rw [dch_nat] at this
      have h48 : (48 : UInt8).toNat = 48 := rfl
      omega
    · have hq := ih (a / 10) (by omega) (by omega)
      rw [dig_big a h]
      cases hc : dig (a / 10) with
      | nil => exact absurd hc (dig_ne _)
      | cons x r => rw [hc] at hq; exact hq
theorem dig_len (a : Nat) (h : (dig a).length = 1 → False) : ¬ a < 10 := fun e => h (by rw [dig_small a e]; rfl)
theorem dig_form (n a : Nat) (h : a = 0 → n ≤ 1) : formB n (dig a) = true := by
  unfold formB
  rw [(digAll_iff _).2 (dig_digs a), List.isEmpty_eq_false_iff.2 (dig_ne a)]
  by_cases h0 : a = 0
  · have := h h0
    simp; omega
  · simp [dig_head a h0]

/-- a number's digits say that number -/
theorem num_digits (n : Int) (h1 : -9223372036854775808 ≤ n) (h2 : n ≤ 9223372036854775807) : numL (digitsL n) = some n := by
  unfold digitsL
  by_cases hn : n < 0
  · rw [if_pos hn]
    unfold numL
    rw [if_pos (List.head?_cons), List.tail_cons, dig_val, if_pos (dig_form _ _ (by omega)), if_pos (by omega)]
    congr 1; omega
  · rw [if_neg hn]
    have h45 : (dig n.natAbs).head? ≠ some 45 := fun e => by
      have hm : (45 : UInt8) ∈ dig n.natAbs := List.mem_of_head? e
      have := (dig_digs n.natAbs 45 hm).1
      have h45 : (45 : UInt8).toNat = 45 := rfl
      omega
    unfold numL
    rw [if_neg h45, dig_val, if_pos (dig_form _ _ (fun e => by rw [e, dig_small 0 (by decide)]; decide)), if_pos (by omega)]
    congr 1; omega
/-- a nought ahead: none -/
theorem num_nought (n : Int) : numL (48 :: digitsL n) = none := by
  have hne : 1 < (48 :: digitsL n).length := by
    unfold digitsL
    have := List.length_pos_iff.2 (dig_ne n.natAbs)
    split <;> simp <;> omega
  unfold numL
  rw [if_neg (by rw [List.head?_cons]; decide), if_neg]
  unfold formB
  simp only [List.isEmpty_cons, List.head?_cons, decide_true, Bool.true_and, decide_eq_true hne]
  simp
/-- no number is a name -/
theorem name_digits (n : Int) : nameL (digitsL n) = false := by
  have hk : ∀ l : List UInt8, l ≠ [] → (∀ c, l.head? = some c → okB 0 c = false) → nameL l = false := fun l hl h => by
    cases l with
    | nil => exact absurd rfl hl
    | cons c r =>
      unfold nameL
      rw [List.length_cons, List.range_succ_eq_map]
      simp [h c rfl]
  unfold digitsL
  split
  · exact hk _ (by simp) fun c hc => by simp at hc; subst hc; decide
  · refine hk _ (dig_ne _) fun c hc => ?_
    have := dig_digs _ c (List.mem_of_head? hc)
    simp [okB]; omega

theorem val_pos (l : List UInt8) (acc : Nat) (h : 0 < acc) : 0 < valL acc l := Nat.lt_of_lt_of_le h (valL_ge l acc)
/-- digits in the one form are the digits of what they say -/
theorem dig_back (l : List UInt8) (hd : DigL l) (hne : l ≠ []) (h48 : l.head? = some 48 → l.length = 1) : dig (valL 0 l) = l := by
  suffices H : ∀ n : Nat, ∀ l : List UInt8, l.length = n → DigL l → l ≠ [] → (l.head? = some 48 → l.length = 1) → dig (valL 0 l) = l from H l.length l rfl hd hne h48
  intro n
  induction n with
  | zero => intro l hl _ hne; exact absurd (List.eq_nil_of_length_eq_zero hl) hne
  | succ n ih =>
    intro l hl hd hne h48
    obtain ⟨r, c, rfl⟩ : ∃ r c, l = r ++ [c] := ⟨l.dropLast, l.getLast hne, (List.dropLast_concat_getLast hne).symm⟩
    have hc := hd c (by simp)
    rw [valL_append]
    have hch : ∀ m : Nat, dch (m * 10 + (c.toNat - 48)) = c := fun m => by
      apply UInt8.toNat_inj.1
      rw [dch_nat]; omega
    cases r with
    | nil =>
      rw [valL_nil, dig_small _ (by omega)]
      rw [hch 0]; rfl
    | cons b r =>
      have hb := hd b (by simp)
      have h8 : b ≠ 48 := fun e => by
        have := h48 (by rw [e]; rfl)
        simp at this
      have hb8 : b.toNat ≠ 48 := fun e => h8 (UInt8.toNat_inj.1 e)
      have hp : 0 < valL 0 (b :: r) := by
        rw [valL_cons]; exact val_pos _ _ (by omega)
      rw [dig_big _ (by omega), hch, show (valL 0 (b :: r) * 10 + (c.toNat - 48)) / 10 = valL 0 (b :: r) by omega]
      rw [ih (b :: r) (by simp at hl ⊢; omega) (fun x hx => hd x (List.mem_append.2 (.inl hx))) (by simp) (fun e => by simp at e; exact absurd e h8)]
theorem digits_back (l : List UInt8) (v : Int) (h : numL l = some v) : digitsL v = l := by
  have form : ∀ (n : Nat) (ds : List UInt8), formB n ds = true → ds.length ≤ n → DigL ds ∧ ds ≠ [] ∧ (ds.head? = some 48 → n ≤ 1) := fun n ds h _ => by
    unfold formB at h
    simp only [Bool.and_eq_true, Bool.not_eq_true', Bool.and_eq_false_iff, decide_eq_false_iff_not, digAll_iff, List.isEmpty_eq_false_iff] at h
    obtain ⟨⟨a, b⟩, c⟩ := h
    refine ⟨c, a, fun e => ?_⟩
    rcases b with b | b
    · exact absurd e b
    · omega
  unfold numL at h
  split at h
  · rename_i h45
    split at h
    · rename_i hf
      split at h
      · injection h with h
        obtain ⟨a, b, c⟩ := form _ _ hf (by simp)
        cases l with
        | nil => simp at h45
        | cons x r =>
          simp only [List.head?_cons, Option.some.injEq] at h45
          subst h45
          rw [List.tail_cons] at *
          have hlen : 1 < (45 :: r).length := by have := List.length_pos_iff.2 b; simp; omega
          have h48 : r.head? ≠ some 48 := fun e => by have := c e; omega
          have hbk := dig_back r a b (fun e => absurd e h48)
          have hv0 : valL 0 r ≠ 0 := fun e => by
            rw [e] at hbk
            rw [← hbk] at h48
            exact h48 (by rw [dig_small 0 (by decide)]; decide)
          unfold digitsL
          rw [if_pos (by omega), show v.natAbs = valL 0 r by omega, hbk]
      · cases h
    · cases h
  · split at h
    · rename_i hf
      split at h
      · injection h with h
        obtain ⟨a, b, c⟩ := form _ _ hf (Nat.le_refl _)
        have hbk := dig_back l a b (fun e => by have := c e; have := List.length_pos_iff.2 b; omega)
        unfold digitsL
        rw [if_neg (by omega), show v.natAbs = valL 0 l by omega, hbk]
      · cases h
    · cases h

end Go.Proofs.YtaabdffplfifkaaDoor
