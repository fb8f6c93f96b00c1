/- A nil slice that came in has no length and no room. -/
import Derived.Test.YtkbpdnckbgnfnaaOpen
namespace Go.Proofs.Ytkbpdnckbgnfnaa
open Go.ChangeShapes Go.WideShapes Go.ChangeAt Go.RowKit

theorem opened_nil {H : Type} {enc : TypeId × Value → H} {W : World} {a : Option Addr} {n c : Nat} {d : DataW H} {p : List MemPlace}
    (h : DataW.Trod enc Try.prog W 0 (fun _ => true) true 22 (.slice a n c) d p) (ha : a = none) : n = 0 ∧ c = 0 := by
  subst ha
  obtain ⟨fuel, hf⟩ := h
  rcases open_ints Try.underlying22 Try.underlying5 Try.cells5 hf with ⟨hcs, hx⟩ | ⟨ad, l, cc, zs, hcs, _⟩
  · simp [Value.cells] at hcs
    exact hcs
  · simp [Value.cells] at hcs

end Go.Proofs.Ytkbpdnckbgnfnaa
