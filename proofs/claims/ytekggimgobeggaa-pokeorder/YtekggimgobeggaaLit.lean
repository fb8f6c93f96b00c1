/- A literal slice of bytes; a list all of whose numbers are bytes. -/
import Derived.Test.YtekggimgobeggaaPut
import Derived.Test.YtekggimgobeggaaSame
namespace Go.Proofs.Ytekggimgobeggaa
open Go.RowKit

theorem Own.lit (w : World) (xs : List Int) (hm : xs.length ≤ maxLen) : Own (w.alloc (.cells (byts xs).toArray 5)) w.heap.size w.heap.size xs.length xs :=
  Own.mk (Nat.le_refl _) (heap_alloc_new w _) (Nat.le_refl _) hm (by simp) (by rw [List.take_of_length_le (by simp)])

theorem byt_of (xs : List Int) (h : (xs.all fun x => decide (0 ≤ x ∧ x ≤ 255)) = true) : Byt xs := fun i => by
  simp only [List.all_eq_true, decide_eq_true_eq] at h
  by_cases hi : i < xs.length
  · have := h xs[i] (List.getElem_mem hi)
    simpa [List.getD, hi] using this
  · simp [List.getD, List.getElem?_eq_none (show xs.length ≤ i by omega)]

end Go.Proofs.Ytekggimgobeggaa
