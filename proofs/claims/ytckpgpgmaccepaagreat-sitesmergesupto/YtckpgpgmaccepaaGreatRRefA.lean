/- switchyardref06.Right, what it asks of an object, in the lists' words. -/
import Derived.Test.YtckpgpgmaccepaaGreatRObj
import Derived.Test.YtckpgpgmaccepaaGreatRefName
namespace Go.Proofs.YtckpgpgmaccepaaGreat
open Go.RowKit

theorem len63 {n : Nat} (h : n ≤ maxLen) : n ≤ 9223372036854775807 := by unfold maxLen at h; omega
def prevS (L : List Sy) : Nat → Int
  | 0 => 0
  | k + 1 => match L[k]? with
    | some s => s.at_
    | none => 0
theorem prevS_succ {L : List Sy} {k : Nat} (h : k < L.length) : prevS L (k + 1) = L[k].at_ := by simp [prevS, List.getElem?_eq_getElem h]
def prevF (L : List Fx) : Nat → Int
  | 0 => 0
  | k + 1 => match L[k]? with
    | some s => s.at_ + 4
    | none => 0
theorem prevF_succ {L : List Fx} {k : Nat} (h : k < L.length) : prevF L (k + 1) = L[k].at_ + 4 := by simp [prevF, List.getElem?_eq_getElem h]
def prevM (L : List Mk) : Nat → Int
  | 0 => 0
  | k + 1 => match L[k]? with
    | some s => s.at_
    | none => 0
theorem prevM_succ {L : List Mk} {k : Nat} (h : k < L.length) : prevM L (k + 1) = L[k].at_ := by simp [prevM, List.getElem?_eq_getElem h]
theorem and_no {a b : Bool} (h : a = false) : (a && b) = false := by rw [h]; rfl
theorem and_yes {a b : Bool} (h : a = true) : (a && b) = b := by rw [h]; rfl
theorem nm_yes {s : ByteArray} (h : nmB s = true) : NameP s := (nmB_iff s).1 h
theorem nm_no {s : ByteArray} (h : nmB s = false) : ¬ NameP s := fun e => by rw [(nmB_iff s).2 e] at h; cases h
theorem names_get (L : List Sy) (k j : Nat) (hj : j < k) (hk : k ≤ L.length) : L[j].name ∈ names (L.take k) := by
  unfold names
  refine List.mem_map.2 ⟨L[j], ?_, rfl⟩
  rw [List.mem_take_iff_getElem]
  exact ⟨j, by omega, rfl⟩
theorem names_snoc (s : ByteArray) (L : List Sy) (k : Nat) (h : k < L.length) (h1 : inB s (names (L.take k)) = false) (h2 : L[k].name ≠ s) : inB s (names (L.take (k + 1))) = false := by
  rw [names_take L k h]
  unfold inB at *
  rw [List.any_append, h1]
  simp [h2]
theorem inB_zero (s : ByteArray) (L : List Sy) : inB s (names (L.take 0)) = false := by simp [names, inB]
theorem sh_zero (L : List Fx) (a : Int) : shB (L.take 0) a = false := by simp [shB]
theorem sh_snoc (L : List Fx) (a : Int) (k : Nat) (h : k < L.length) (h1 : shB (L.take k) a = false) (h2 : ¬ (L[k].at_ < a + 5 ∧ a < L[k].at_ + 4)) : shB (L.take (k + 1)) a = false := by
  rw [List.take_succ_eq_append_getElem h]
  unfold shB at *
  rw [List.any_append, h1]
  simp only [List.any_cons, List.any_nil, Bool.or_false, Bool.false_or]
  exact decide_eq_false h2
theorem sh_hit (L : List Fx) (a : Int) (k : Nat) (h : k < L.length) (h2 : L[k].at_ < a + 5 ∧ a < L[k].at_ + 4) : shB L a = true := by
  unfold shB
  rw [List.any_eq_true]
  exact ⟨L[k], List.getElem_mem h, decide_eq_true h2⟩
theorem st_bytes (bs part : List Int) (a : Nat) (h : a + part.length ≤ bs.length) : stB bs a part = sameB ((bs.drop a).take part.length) part := by
  unfold stB sameB
  rw [Bool.eq_iff_iff, decide_eq_true_eq, decide_eq_true_eq]
  constructor
  · rintro ⟨-, -, h3⟩; simpa using h3
  · intro h3; exact ⟨by omega, by simpa using h, by simpa using h3⟩
theorem st_no {bs part : List Int} {a : Int} (h : a < 0 ∨ (bs.length : Int) < a + part.length) : stB bs a part = false := by
  unfold stB
  refine decide_eq_false ?_
  rintro ⟨h1, h2, -⟩
  omega

end Go.Proofs.YtckpgpgmaccepaaGreat
