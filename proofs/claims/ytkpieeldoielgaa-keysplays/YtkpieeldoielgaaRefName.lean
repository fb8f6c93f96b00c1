/- What switchyardref03.blank and Name answer, for every byte, every text. -/
import Derived.Test.YtkpieeldoielgaaLines
import Derived.Deep.Light
namespace Go.Proofs.Ytkpieeldoielgaa
open Go.RowKit

theorem rname_ret {a b : Bool} (h : a = b) : Ending.returned (.bool a) = .returned (.bool b) := by rw [h]

def blankB (c : Int) : Bool := decide (c = 32 ∨ c = 9 ∨ c = 13)

/-- may the byte c stand at the place k of a name? -/
def okAt (k : Nat) (c : Int) : Prop := (97 ≤ c ∧ c ≤ 122) ∨ (65 ≤ c ∧ c ≤ 90) ∨ c = 95 ∨ (k ≠ 0 ∧ 48 ≤ c ∧ c ≤ 57)
def byteAt (s : ByteArray) (k : Nat) : Int := ((s.data.toList.getD k 0).toNat : Int)
/-- is the text a name? -/
def NameP (s : ByteArray) : Prop := (∀ k, k < s.size → okAt k (byteAt s k)) ∧ 0 < s.size ∧ s.size ≤ 16

theorem byteAt_eq (s : ByteArray) (k : Nat) (h : k < s.size) : (s[k].toNat : Int) = byteAt s k := by
  unfold byteAt
  rw [List.getD_eq_getElem?_getD, List.getElem?_eq_getElem (by rw [Array.length_toList]; exact h)]
  simp [ByteArray.getElem_eq_getElem_data]
theorem byteAt_in (s : ByteArray) (k : Nat) : 0 ≤ byteAt s k ∧ byteAt s k ≤ 255 := by
  unfold byteAt
  have := (s.data.toList.getD k 0).toNat_lt
  omega

theorem end_of (s : ByteArray) (k : Nat) (h1 : ∀ j, j < k → okAt j (byteAt s j)) (h2 : s.size ≤ k) (h : ¬ NameP s) : ¬ (0 < s.size ∧ s.size ≤ 16) := fun e => h ⟨fun j hj => h1 j (by omega), e.1, e.2⟩

end Go.Proofs.Ytkpieeldoielgaa
