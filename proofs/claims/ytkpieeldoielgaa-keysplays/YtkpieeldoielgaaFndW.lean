/- symbols.lookFor, by its two closures; symbols.Find. -/
import Derived.Test.YtkpieeldoielgaaTabW
namespace Go.Proofs.Ytkpieeldoielgaa
open Go.RowKit

def meantG (s : ByteArray) (x : Sy) : Bool := x.g && decide (x.name = s)
def meantN (s : ByteArray) (x : Sy) : Bool := decide (x.name = s)
theorem findG_eq (t : List Sy) (s : ByteArray) : findG t s = (t.find? (meantG s)).map Sy.at_ := rfl
theorem findN_eq (t : List Sy) (s : ByteArray) : findN t s = (t.find? (meantN s)).map Sy.at_ := rfl
/-- the number of the first that is meant -/
def idxG (P : Sy → Bool) : Nat → List Sy → Int
  | _, [] => -1
  | i, x :: L => if P x = true then (i : Int) else idxG P (i + 1) L
theorem idx_step (P : Sy → Bool) (L : List Sy) (k : Nat) (h : k < L.length) : idxG P k (L.drop k) = if P L[k] = true then (k : Int) else idxG P (k + 1) (L.drop (k + 1)) := by
  rw [List.drop_eq_getElem_cons h]; rfl
theorem idx_go (P : Sy → Bool) : ∀ (L : List Sy) (j : Nat), (idxG P j L = -1 ∧ L.find? P = none) ∨ ∃ i, ∃ h : i < L.length, idxG P j L = ((j + i : Nat) : Int) ∧ L.find? P = some L[i]
  | [], _ => .inl ⟨rfl, rfl⟩
  | x :: L, j => by
    by_cases hx : P x = true
    · refine .inr ⟨0, by simp, ?_, ?_⟩
      · unfold idxG; rw [if_pos hx]; rfl
      · rw [List.find?_cons, hx]; rfl
    · rcases idx_go P L (j + 1) with ⟨h1, h2⟩ | ⟨i, hi, h1, h2⟩
      · refine .inl ⟨?_, ?_⟩
        · unfold idxG; rw [if_neg hx]; exact h1
        · rw [List.find?_cons, (by simpa using hx : P x = false)]; exact h2
      · refine .inr ⟨i + 1, by simpa using hi, ?_, ?_⟩
        · unfold idxG; rw [if_neg hx, h1]; omega
        · rw [List.find?_cons, (by simpa using hx : P x = false)]; exact h2
theorem idx_find (P : Sy → Bool) (L : List Sy) : (idxG P 0 L = -1 ∧ L.find? P = none) ∨ ∃ i, ∃ h : i < L.length, idxG P 0 L = (i : Int) ∧ L.find? P = some L[i] := by
  rcases idx_go P L 0 with h | ⟨i, hi, h1, h2⟩
  · exact .inl h
  · exact .inr ⟨i, hi, by rw [h1, Nat.zero_add], h2⟩
theorem text_ne7 {s t : ByteArray} (h : ¬ s = t) : ¬ s.toList = t.toList := fun e => h (by
  rw [toList_eq, toList_eq] at e
  exact ByteArray.ext (Array.toList_inj.1 e))

end Go.Proofs.Ytkpieeldoielgaa
