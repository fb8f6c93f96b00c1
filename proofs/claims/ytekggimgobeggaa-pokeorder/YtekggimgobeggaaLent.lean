/- What switchyardkit.LentBytes and KeptBytes do, for every slice of bytes. -/
import Derived.Test.YtekggimgobeggaaCopy
namespace Go.Proofs.Ytekggimgobeggaa
open Go.RowKit

theorem OwnV.held {w : World} {B : Nat} {v : Value} {xs : List Int} (h : OwnV w B v xs) (hv : v ≠ .slice none 0 0) : ∃ g cap, v = .slice (some ⟨g, 0, none⟩) xs.length cap ∧ Own w B g cap xs := by
  rcases h.shape with ⟨h1, _⟩ | h1
  · exact absurd h1 hv
  · exact h1

theorem getD_left (xs ys : List Int) (i : Nat) (h : i < xs.length) : (xs ++ ys).getD i 0 = xs.getD i 0 := by
  simp [List.getD, List.getElem?_append_left h]
theorem getD_right (xs ys : List Int) (i : Nat) : (xs ++ ys).getD (xs.length + i) 0 = ys.getD i 0 := by
  simp [List.getD, List.getElem?_append_right]

theorem Own.front {w : World} {B g cap : Nat} {xs ys : List Int} (h : Own w B g cap (xs ++ ys)) : Own w B g cap xs := by
  obtain ⟨cur, h1, h2, h3, h4, h5, h6⟩ := h.parts
  rw [List.length_append] at h3
  refine Own.mk h1 h2 (by omega) h4 h5 ?_
  have e : cur.toList.take xs.length = (cur.toList.take (xs ++ ys).length).take xs.length := by
    rw [List.take_take, List.length_append, Nat.min_eq_left (by omega)]
  rw [e, h6]
  simp [byts]

end Go.Proofs.Ytekggimgobeggaa
