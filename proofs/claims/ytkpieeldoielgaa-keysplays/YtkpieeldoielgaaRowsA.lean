/- Rows of unlike types lie apart. -/
import Derived.Test.YtkpieeldoielgaaAddG
namespace Go.Proofs.Ytkpieeldoielgaa
open Go.RowKit

theorem own_block {w : World} {B : Nat} {T : TypeId} {z : Nat} {v : Value} {n : Nat} {xs : List Value} (h : w.ownsRow B T z v n xs) : v = .slice none 0 0 ∨ ∃ g cur, v.ownBlock = some g ∧ B ≤ g ∧ w.heap[g]? = some (.cells cur T (0, 0)) := by
  rcases h.2 with ⟨e1, _⟩ | ⟨g, cap, cur, e1, e2, e3, _⟩
  · exact .inl e1
  · exact .inr ⟨g, cur, by rw [e1]; rfl, e2, e3⟩
theorem rows_apart {w : World} {B B' : Nat} {T T' : TypeId} {z z' : Nat} {v v' : Value} {n n' : Nat} {xs xs' : List Value} (h : w.ownsRow B T z v n xs) (h' : w.ownsRow B' T' z' v' n' xs') (hne : T ≠ T') : v = .slice none 0 0 ∨ v.ownBlock ≠ v'.ownBlock := by
  rcases own_block h with e | ⟨g, cur, e1, -, e2⟩
  · exact .inl e
  · refine .inr fun e => ?_
    rcases own_block h' with e' | ⟨g', cur', e3, -, e4⟩
    · rw [e', e1] at e; cases e
    · rw [e1, e3] at e
      injection e with e
      rw [e, e4] at e2
      injection e2 with e2
      injection e2 with _ e2
      exact hne e2.symm
theorem row_not_blk {w : World} {B : Nat} {T T' : TypeId} {z : Nat} {v : Value} {n g : Nat} {xs : List Value} {c : Array Value} (h : w.ownsRow B T z v n xs) (hb : Blk w g T' c) (hne : T ≠ T') : v = .slice none 0 0 ∨ v.ownBlock ≠ some g := by
  rcases own_block h with e | ⟨g', cur, e1, -, e2⟩
  · exact .inl e
  · refine .inr fun e => ?_
    rw [e1] at e
    injection e with e
    rw [e, show w.heap[g]? = _ from hb] at e2
    injection e2 with e2
    injection e2 with _ e2
    exact hne e2.symm
theorem blk_not_row {w : World} {B : Nat} {T T' : TypeId} {z : Nat} {v : Value} {n g : Nat} {xs : List Value} {c : Array Value} (h : w.ownsRow B T z v n xs) (hb : Blk w g T' c) (hne : T ≠ T') : some g ≠ v.ownBlock := by
  rcases row_not_blk h hb hne with e | e
  · rw [e]; intro e; cases e
  · exact fun e' => e e'.symm
theorem kept_row {w w' : World} {B : Nat} {T : TypeId} {z : Nat} {v : Value} {n : Nat} {xs : List Value} {row : Option Nat} (h : w.ownsRow B T z v n xs) (hg : w.grownBy w' row) (hr : v = .slice none 0 0 ∨ v.ownBlock ≠ row) : w'.ownsRow B T z v n xs :=
  World.ownsRow.kept h hg (hr.imp (fun e => by rw [e]; rfl) id)
/-- an object's lists stay where a list of another type grows -/
theorem KeyAt.at {w w' : World} {b B : Nat} {ns : List ByteArray} (h : KeyAt w b ns) (hb : Below B w w') (hl : b < B) : KeyAt w' b ns := by
  obtain ⟨D, h1, h2⟩ := h
  obtain ⟨es, clock, e1, e2⟩ := h1
  exact ⟨D, ⟨es, clock, (hb.block b hl).trans e1, e2⟩, h2⟩
theorem GOwnV.belowG {T : TypeId} {w w' : World} {B : Nat} {v : Value} {vs : List Value} (h : GOwnV T w B v vs) (hb : Below w.heap.size w w') : GOwnV T w' B v vs := by
  obtain ⟨h0, h1⟩ := h
  refine ⟨h0, h1.imp id ?_⟩
  rintro ⟨g, cap, cur, e1, e2, e3, e4⟩
  exact ⟨g, cap, cur, e1, e2, (hb.block g (Array.getElem?_eq_some_iff.1 e3).1).trans e3, e4⟩

end Go.Proofs.Ytkpieeldoielgaa
