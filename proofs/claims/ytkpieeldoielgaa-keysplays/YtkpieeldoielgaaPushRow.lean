/- append of a whole slice of bytes that came in, nil or not. -/
import Derived.Test.YtkpieeldoielgaaCopy
import Derived.Laws.AppendOwnNone
namespace Go.Proofs.Ytkpieeldoielgaa
open Go.RowKit

/-- 'append(out, b...)', b whatever slice of bytes that came in -/
theorem wp_push_row {ops : Array Oper} {rest : List Oper} {o : Oper} {a : Act} {Q : Exit → Act → World → Prop} (w : World) (hgd : o.guard = none) (s x : Operand)
    (ho : o.op = .call { callee := .builtin .append, args := #[s, x], argTypes := #[26, 26] }) (B : Nat) (v : Value) (xs : List Int) (hs : a.eval s = v) (hown : OwnV w B v xs)
    (q : Option Addr) (m d : Nat) (ys : List Int) (hx : a.eval x = .slice q m d) (hl : ys.length = m) (hrow : Row w q ys) (hq : q = none → m = 0 ∧ d = 0)
    (hlen : xs.length + m ≤ 140737488355328) (hB : B ≤ w.heap.size)
    (h : ∀ v' w', OwnV w' B v' (xs ++ ys) → (∀ w0, Below B w0 w → Below B w0 w') → wpList Try.prog ops Q rest (a.put o.dst v') w') :
    wpList Try.prog ops Q (o :: rest) a w := by
  cases q with
  | none =>
    obtain ⟨rfl, rfl⟩ := hq rfl
    obtain rfl : ys = [] := List.eq_nil_of_length_eq_zero hl
    obtain ⟨i0, hi, hz0, hz1, hz2⟩ := info_parts Try.info5
    exact wpList_append_own_none hgd s x 26 ho B 5 i0 1 Try.underlying26 hi v xs.length (byts xs) hs hown hx (h v w (by rw [List.append_nil]; exact hown) fun _ hb => hb)
  | some ad =>
    refine wp_push w hgd s x ho B v xs hs hown ad m d ys hx hl (fun j u hj => ?_) hlen hB fun v' w' h1 _ h3 _ => h v' w' h1 h3
    have hjl : j < ys.length := by
      rcases Nat.lt_or_ge j ys.length with h | h
      · exact h
      · rw [List.getElem?_eq_none (by simpa using h)] at hj; cases hj
    obtain ⟨b, off, e, hc⟩ := hrow (by omega)
    cases e
    rw [getD_byts ys j hjl] at hj
    rw [← hj, ← hc j hjl, Go.WideShapes.add_plain]

end Go.Proofs.Ytkpieeldoielgaa
