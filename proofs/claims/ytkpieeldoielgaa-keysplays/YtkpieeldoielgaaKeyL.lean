/- A map from names to numbers that a call has made: which names it holds. symbols.nextStart. -/
import Derived.Test.YtkpieeldoielgaaTabL
import Derived.Test.YtkpieeldoielgaaShar
namespace Go.Proofs.Ytkpieeldoielgaa
open Go.RowKit Go.Maps Go.WideMaps

def KeyD (D : DataW Unit) (ns : List ByteArray) : Prop := ∀ s, has D (key s) = inB s ns
def KeyAt (w : World) (b : Nat) (ns : List ByteArray) : Prop := ∃ D : DataW Unit, w.ownsMap Try.prog 9 (plainElem Try.prog 3) b ns.length D ∧ KeyD D ns
theorem KeyAt.made (w : World) : KeyAt (w.alloc (.map #[] 0)) w.heap.size [] := ⟨_, World.ownsMap_made _ _ _ _, fun s => by simp [has_eq, inB]⟩
theorem KeyD.add {D : DataW Unit} {ns : List ByteArray} (h : KeyD D ns) (hD : IsMap D) (s : ByteArray) (v : DataW Unit) : KeyD (D.put (key s) v) (ns ++ [s]) := fun t => by
  by_cases e : t = s
  · subst e
    rw [has_put_same hD (key_is _)]; simp [inB]
  · have hne : key t ≠ key s := fun e' => e (key_inj e')
    rw [has_put_other hne, h t]
    simp [inB, Ne.symm e]
theorem KeyAt.below {w w' : World} {b : Nat} {ns : List ByteArray} (h : KeyAt w b ns) (hb : Below w.heap.size w w') : KeyAt w' b ns := by
  obtain ⟨D, h1, h2⟩ := h
  obtain ⟨es, clock, e1, e2⟩ := h1
  exact ⟨D, ⟨es, clock, (hb.block b (Array.getElem?_eq_some_iff.1 e1).1).trans e1, e2⟩, h2⟩
theorem KeyAt.kept {w w' : World} {row : Option Nat} {b : Nat} {ns : List ByteArray} (h : KeyAt w b ns) (hg : w.grownBy w' row) (hne : some b ≠ row) : KeyAt w' b ns := by
  obtain ⟨D, h1, h2⟩ := h
  exact ⟨D, h1.kept hg hne, h2⟩
theorem KeyAt.lt {w : World} {b : Nat} {ns : List ByteArray} (h : KeyAt w b ns) : b < w.heap.size := by
  obtain ⟨D, h1, _⟩ := h
  exact h1.lt
/-- '_, ok := m[s]' -/
theorem key_look {ops : Array Oper} {rest : List Oper} {o : Oper} {a : Act} {Q : Exit → Act → World → Prop} (w : World) (hg : o.guard = none) (m x : Operand) (hop : o.op = Op.lookup 119 m x true) (b : Nat) (ns : List ByteArray)
    (hm : a.eval m = .map (some b)) (hown : KeyAt w b ns) (s : ByteArray) (hx : a.eval x = .string s) (hs : s.size ≤ maxLen)
    (h : ∀ c : Int, wpList Try.prog ops Q rest (a.put o.dst (.tuple #[.int .i64 c, .bool (inB s ns)])) w) :
    wpList Try.prog ops Q (o :: rest) a w := by
  obtain ⟨D, h1, h2⟩ := hown
  refine wpList_lookup_own_ok_int w hg m x 119 hop 9 3 .i64 law9 Try.underlying119 Try.underlying3 (zero3 w) b ns.length D hm h1 (.string s) (key s) hx (keyOf_string_mk Try.underlying9 hs) fun c hat _ => ?_
  have := h c
  rw [← h2 s] at this
  exact this
/-- 'm[s] = u' -/
theorem key_put {ops : Array Oper} {rest : List Oper} {o : Oper} {a : Act} {Q : Exit → Act → World → Prop} (w : World) (hg : o.guard = none) (m x v : Operand) (hop : o.op = Op.mapUpdate 119 m x v) (b : Nat) (ns : List ByteArray)
    (hm : a.eval m = .map (some b)) (hown : KeyAt w b ns) (s : ByteArray) (u : Nat) (hx : a.eval x = .string s) (hv : a.eval v = .int .i64 u) (hs : s.size ≤ maxLen) (hl : ns.length ≤ 1048576) (hu : u ≤ 1048576)
    (h : ∀ w', KeyAt w' b (ns ++ [s]) → w.grownBy w' (some b) → wpList Try.prog ops Q rest (a.put o.dst undef) w') :
    wpList Try.prog ops Q (o :: rest) a w := by
  obtain ⟨D, h1, h2⟩ := hown
  refine wpList_mapUpdate_own w hg m x v 119 hop 9 3 law9 Try.underlying119 _ b ns.length D hm h1 (by unfold maxLen; omega) _ _ (key s) hx hv (keyOf_string_mk Try.underlying9 hs) (.lit (.int .i64 u)) [] (plainElem_int Try.underlying3 (WalkArith.wf_i64 (by omega))) fun w' h3 h4 => h w' ⟨_, ?_, h2.add h1.isMap s (.lit (.int .i64 u))⟩ h4
  rw [List.length_append]
  exact h3

end Go.Proofs.Ytkpieeldoielgaa
