/- make of flags. -/
import Derived.Test.YtibbcenfkmgbcaaRnm
namespace Go.Proofs.Ytibbcenfkmgbcaa
open Go.RowKit

theorem made_flags (n : Nat) : (madeCells (Value.bool false).cells (n * 1)).toList = flgs (List.replicate n false) := by
  rw [show (Value.bool false).cells = #[Value.bool false] from rfl, toList_madeCells_one]; simp [flgs]
theorem wp_makeB {ops : Array Oper} {rest : List Oper} {o : Oper} {a : Act} {w : World} {Q : Exit → Act → World → Prop} (hg : o.guard = none) (s1 s2 : Operand) (ho : o.op = .makeSlice 29 s1 s2) (n : Nat) (x y : Int) (h1 : a.eval s1 = .int .i64 x) (h2 : a.eval s2 = .int .i64 y) (hx : x = n) (hy : y = n) (hn : n ≤ 1048576)
    (h : ∀ w1, Hid (GOwn 4 w1 w.heap.size w.heap.size n (flgs (List.replicate n false))) → Hid (Below w.heap.size w w1) → wpList Try.prog ops Q rest (a.put o.dst (.slice (some ⟨w.heap.size, 0, none⟩) n n)) w1) : wpList Try.prog ops Q (o :: rest) a w := by
  obtain ⟨i0, hi, hz0, hz1, hz2⟩ := info_parts Try.info4
  refine wpList_make_full _ hg s1 s2 29 ho _ 4 i0 (.bool false) 1 Try.underlying29' hi hz0 hz1 _ _ _ _ n h1 h2 hx hy (by rw [hz2]; omega) (by unfold maxLen; omega) (Nat.le_refl _) ?_
  intro w1 hown hgrow
  refine h w1 ?_ ((Below.refl w.heap.size w).grown hgrow (Nat.le_refl _) (by simp))
  rw [made_flags] at hown
  show w1.ownsRow _ _ _ _ _ _
  have e : (flgs (List.replicate n false)).length = n := by simp
  rw [e]
  exact hown
theorem GOwn.browB {w : World} {B g c : Nat} {hs : List Bool} (h : GOwn 4 w B g c (flgs hs)) : BRow w (some ⟨g, 0, none⟩) hs := fun _ =>
  ⟨g, 0, rfl, fun i hi => by rw [Nat.zero_add, h.cell i (by simpa using hi), getD_flgs _ _ hi]⟩

end Go.Proofs.Ytibbcenfkmgbcaa
