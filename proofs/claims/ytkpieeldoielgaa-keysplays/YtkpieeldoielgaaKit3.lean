/- switchyardkit.SameSymbols, SameFixes, SameMarks; slices.Equal of symbols, fixes, marks. -/
import Derived.Test.YtkpieeldoielgaaShar
import Derived.Test.YtkpieeldoielgaaWName
import Derived.BigQuiet
import Derived.Deep.QuietTactic
namespace Go.Proofs.Ytkpieeldoielgaa
open Go.RowKit

theorem take_step {α : Type} {L M : List α} {k : Nat} (h : L.take k = M.take k) (h1 : k < L.length) (h2 : k < M.length) (e : L[k] = M[k]) : L.take (k + 1) = M.take (k + 1) := by
  rw [List.take_succ_eq_append_getElem h1, List.take_succ_eq_append_getElem h2, h, e]
theorem take_all {α : Type} {L M : List α} {k : Nat} (h : L.take k = M.take k) (h1 : L.length ≤ k) (h2 : M.length ≤ k) : L = M := by
  rw [← List.take_of_length_le h1, h, List.take_of_length_le h2]
theorem drewN_two (w : World) (a b : Nat) : (w.drewN a).drewN b = w.drewN (a + b) := by simp
theorem text_ne3 {s t : ByteArray} (h : ¬ s = t) : ¬ s.toList = t.toList := fun e => h (by rw [toList_eq, toList_eq] at e; exact ByteArray.ext (Array.toList_inj.1 e))

end Go.Proofs.Ytkpieeldoielgaa
