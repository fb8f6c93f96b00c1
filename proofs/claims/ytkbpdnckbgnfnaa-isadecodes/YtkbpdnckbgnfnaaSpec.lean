/- What the bytes of an instruction say; isa.Decode answers it, for every slice of bytes. -/
import Derived.Test.YtkbpdnckbgnfnaaDec
namespace Go.Proofs.Ytkbpdnckbgnfnaa
open Go.RowKit

/-! ### what the bytes say -/
def opN (z : Int) : Nat := ((List.range 17).find? fun k => decide (1 ≤ k) && decide (fb k = z)).getD 0
theorem opN_fb (o : Nat) (h1 : 1 ≤ o) (h2 : o < 17) : opN (fb o) = o := by
  have : ∀ k : Fin 17, 1 ≤ k.1 → opN (fb k.1) = k.1 := by decide +kernel
  exact this ⟨o, h2⟩ h1
theorem opN_no (z : Int) (h : ∀ o, 1 ≤ o → o < 17 → fb o ≠ z) : opN z = 0 := by
  unfold opN
  rw [List.find?_eq_none.2]
  · rfl
  · intro k hk
    simp only [List.mem_range] at hk
    simp only [Bool.and_eq_true, decide_eq_true_eq, not_and]
    exact fun h1 => h k h1 hk
theorem op_cases (z : Int) : (∃ o, 1 ≤ o ∧ o < 17 ∧ fb o = z) ∨ ∀ o, 1 ≤ o → o < 17 → fb o ≠ z := by
  by_cases h : ∃ o, 1 ≤ o ∧ o < 17 ∧ fb o = z
  · exact .inl h
  · exact .inr fun o h1 h2 h3 => h ⟨o, h1, h2, h3⟩

structure Dec where
  o : Int
  a : Int
  b : Int
  n : Int
  l : Int
  e : Int
abbrev decV (d : Dec) : Value := decT d.o d.a d.b d.n d.l d.e
def preL (cs xs : List Int) : Bool := decide (∀ i, i < cs.length → xs.getD i 0 = cs.getD i 0)
def fA (o : Nat) (xs : List Int) : Int := fldA (cdL o).length (rg o) xs
def fB (o : Nat) (xs : List Int) : Int := fldB (cdL o).length (rg o) xs
def fN (o : Nat) (xs : List Int) : Int := fldN (cdL o).length (rg o) (kd o) xs
def decO (o : Nat) (xs : List Int) : Dec :=
  if xs.length < lenN o then ⟨0, 0, 0, 0, 0, 4⟩
  else if preL (cdL o) xs && rightB o (fA o xs) (fB o xs) (fN o xs) then ⟨o, fA o xs, fB o xs, fN o xs, lenN o, 0⟩ else ⟨0, 0, 0, 0, 0, 120⟩
def dec (xs : List Int) : Dec :=
  if xs.length = 0 then ⟨0, 0, 0, 0, 0, 4⟩ else if opN (xs.getD 0 0) = 0 then ⟨0, 0, 0, 0, 0, 120⟩ else decO (opN (xs.getD 0 0)) xs

theorem preB_preL (o : Nat) (h : o < 17) (xs : List Int) : preB (cd o) xs = preL (cdL o) xs := by
  unfold preB preL
  rw [decide_eq_decide]
  have hs := cd_size o h
  constructor
  · intro k i hi
    rw [k i (by omega), cd_byte o h i (by omega)]
  · intro k i hi
    rw [k i (by omega), cd_byte o h i hi]

theorem fldA_in {cl r : Nat} {xs : List Int} (h : Byt xs) : 0 ≤ fldA cl r xs ∧ fldA cl r xs ≤ 255 := by
  unfold fldA; split
  · exact h _
  · omega
theorem fldB_in {cl r : Nat} {xs : List Int} (h : Byt xs) : 0 ≤ fldB cl r xs ∧ fldB cl r xs ≤ 255 := by
  unfold fldB; split
  · exact h _
  · omega

theorem decode_any (p : Option Addr) (n cp : Nat) (xs : List Int) (w : World) (hx : xs.length = n) (hn : n ≤ 140737488355328) (hr : Row w p xs) (hby : Byt xs) :
    Calls Try.prog 10 #[.slice p n cp] w fun e w' => e = .returned (decV (dec xs)) ∧ Below w.heap.size w w' := by
  by_cases h0 : n = 0
  · subst h0
    rw [show dec xs = ⟨0, 0, 0, 0, 0, 4⟩ by unfold dec; rw [if_pos hx]]
    exact dec_empty p cp w
  · obtain ⟨b, f, rfl, hc⟩ := hr (by omega)
    have hc0 := hc 0 (by omega)
    rw [Nat.add_zero] at hc0
    rcases op_cases (xs.getD 0 0) with ⟨o, h1, h2, hz⟩ | hno
    · have hop := opN_fb o h1 h2
      rw [hz] at hop
      rw [show dec xs = decO o xs by unfold dec; rw [if_neg (by omega), hop, if_neg (by omega)]]
      by_cases hl : n < lenN o
      · rw [show decO o xs = ⟨0, 0, 0, 0, 0, 4⟩ by unfold decO; rw [if_pos (by omega)]]
        exact dec_short o h1 h2 b f n cp w hn (by omega) hl (by rw [hz]; exact hc0)
      · have hcs := cd_size o h2
        have hlo : (cd o).size ≤ n := by rw [hcs]; unfold lenN at hl; omega
        have := dec_gen (nm o) (cd o) (rg o) (lenN o) (kd o) (xs.getD 0 0) o (fA o xs) (fB o xs) (fN o xs) (preB (cd o) xs) (rightB o (fA o xs) (fB o xs) (fN o xs)) b f n cp xs w
          (fun w => by rw [← hz]; exact len_yes o w h1 h2) (fun w => by rw [← hz]; exact opOf_yes o w h1 h2) (idx_any o h2)
          (fun w hw => begins_at (nm o) (cd o) (rg o) (kd o) b f n cp xs w (by omega) hlo hw)
          (fun w hw => fields_op o h2 b f n cp xs w hx hn hby (by omega) hw)
          (fun w => right_op o _ _ _ w h1 h2 (fldA_in hby) (fldB_in hby)) (length_op o h2) hn (by omega) (by omega) rfl (fun i hi => hc i (by omega))
        refine this.mono fun e w' ⟨he, hb⟩ => ⟨?_, hb⟩
        have hdec : decO o xs = if (preL (cdL o) xs && rightB o (fA o xs) (fB o xs) (fN o xs)) then ⟨o, fA o xs, fB o xs, fN o xs, lenN o, 0⟩ else ⟨0, 0, 0, 0, 0, 120⟩ := by
          unfold decO; rw [if_neg (show ¬ xs.length < lenN o by omega)]
        rw [he, preB_preL o h2, hdec]
        cases (preL (cdL o) xs && rightB o (fA o xs) (fB o xs) (fN o xs)) <;> rfl
    · rw [show dec xs = ⟨0, 0, 0, 0, 0, 120⟩ by unfold dec; rw [if_neg (by omega), if_pos (opN_no _ hno)]]
      exact dec_none (xs.getD 0 0) hno b f n cp w hn (by omega) hc0
end Go.Proofs.Ytkbpdnckbgnfnaa
