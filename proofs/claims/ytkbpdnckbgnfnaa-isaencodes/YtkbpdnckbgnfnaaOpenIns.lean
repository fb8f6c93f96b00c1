/- How an instruction that came in by value is opened and shut. -/
import Derived.Test.YtkbpdnckbgnfnaaOpen
import Derived.Lib.SmallJoins
namespace Go.Proofs.Ytkbpdnckbgnfnaa
open Go.ChangeShapes Go.WideShapes Go.ChangeAt Go.RowKit Go.Joins

theorem Try.cells26 : Try.prog.cellsOf 26 = 4 := by kernel_rfl

theorem open_ins {H : Type} {enc : TypeId × Value → H} {W : World} {base : Nat} {v : Value} {d : DataW H} {p : List MemPlace} (hv : Value.okWide Try.prog W .any base 26 v)
    (h : DataW.Trod enc Try.prog W 0 (fun _ => true) true 26 v d p) :
    ∃ o a b n : Int, v = .agg #[.int .u8 o, .int .u8 a, .int .u8 b, .int .i32 n] ∧ d = .agg [.lit (.int .u8 o), .lit (.int .u8 a), .lit (.int .u8 b), .lit (.int .i32 n)] ∧ p = [] ∧
      (Lit.int .u8 o).wf = true ∧ (Lit.int .u8 a).wf = true ∧ (Lit.int .u8 b).wf = true ∧ (Lit.int .i32 n).wf = true := by
  obtain ⟨c0, c1, c2, c3, y0, y1, y2, y3, m, rfl, rfl, rfl, hy0, hy1, hy2, hy3⟩ := open_agg4 Try.underlying26 (by kernel_rfl) Try.cells26 hv h
  obtain ⟨o, e0, rfl, w0⟩ := DataW.trod_int Try.underlying24 hy0
  obtain ⟨a, e1, rfl, w1⟩ := DataW.trod_int Try.underlying5 hy1
  obtain ⟨b, e2, rfl, w2⟩ := DataW.trod_int Try.underlying5 hy2
  obtain ⟨n, e3, rfl, w3⟩ := DataW.trod_int Try.underlying21 hy3
  simp at e0 e1 e2 e3
  subst e0 e1 e2 e3
  exact ⟨o, a, b, n, rfl, rfl, rfl, w0, w1, w2, w3⟩

theorem shut_ins {H : Type} {enc : TypeId × Value → H} {W : World} {sp : Nat → Bool} {o a b n : Int} (w0 : (Lit.int .u8 o).wf = true) (w1 : (Lit.int .u8 a).wf = true) (w2 : (Lit.int .u8 b).wf = true) (w3 : (Lit.int .i32 n).wf = true) :
    DataW.Trod enc Try.prog W 0 sp true 26 (.agg #[.int .u8 o, .int .u8 a, .int .u8 b, .int .i32 n]) (.agg [.lit (.int .u8 o), .lit (.int .u8 a), .lit (.int .u8 b), .lit (.int .i32 n)]) [] :=
  shut_agg4 (y0 := (.lit (.int .u8 o), [])) (y1 := (.lit (.int .u8 a), [])) (y2 := (.lit (.int .u8 b), [])) (y3 := (.lit (.int .i32 n), [])) Try.underlying26 (by kernel_rfl) Try.cells26
    ⟨1, by simp [DataW.trod, Try.underlying24, w0]⟩ ⟨1, by simp [DataW.trod, Try.underlying5, w1]⟩ ⟨1, by simp [DataW.trod, Try.underlying5, w2]⟩ ⟨1, by simp [DataW.trod, Try.underlying21, w3]⟩

end Go.Proofs.Ytkbpdnckbgnfnaa
