/- A map from names to numbers that a call makes. -/
import Derived.Test.YtkpieeldoielgaaW3
import Derived.Maps.Own
import Derived.Maps.OwnOps
import Derived.Maps.OwnSet
import Derived.Maps.Views
namespace Go.Proofs.Ytkpieeldoielgaa
open Go.RowKit Go.Maps Go.WideMaps

def key (s : ByteArray) : Lit := .string s.data.toList
theorem key_inj {s t : ByteArray} (h : key s = key t) : s = t := by
  unfold key at h
  injection h with h
  exact ByteArray.ext (Array.toList_inj.1 h)
theorem key_is (s : ByteArray) : WideAt.IsKeyLit (key s) := by simp [key, WideAt.IsKeyLit]
theorem law9 : Keyed Try.prog 9 := string_keyed Try.underlying9
theorem zero3 (w : World) : (zeroValue 3).run Try.prog w = .ok (.int .i64 0) w := by kernel_rfl
/-- whether a name is among others -/
def inB (s : ByteArray) (ns : List ByteArray) : Bool := ns.any fun t => decide (t = s)
theorem inB_iff (s : ByteArray) (ns : List ByteArray) : inB s ns = true ↔ s ∈ ns := by
  unfold inB
  rw [List.any_eq_true]
  constructor
  · rintro ⟨t, ht, e⟩
    rw [← of_decide_eq_true e]; exact ht
  · exact fun h => ⟨s, h, by simp⟩
/-- names and their numbers, as read -/
def NamD (D : DataW Unit) (ns : List ByteArray) : Prop := ∀ s, has D (key s) = inB s ns ∧ ∀ i (h : i < ns.length), ns[i] = s → D.atKey (key s) (.lit (.int .i64 0)) = .lit (.int .i64 i)
/-- a map's block holds them -/
def NamAt (w : World) (b : Nat) (ns : List ByteArray) : Prop := ∃ D : DataW Unit, w.ownsMap Try.prog 9 (plainElem Try.prog 3) b ns.length D ∧ NamD D ns
theorem NamD.nil : NamD (.map []) [] := fun s => ⟨by simp [has_eq, inB], fun i h => absurd h (by simp)⟩
theorem NamAt.made (w : World) : NamAt (w.alloc (.map #[] 0)) w.heap.size [] := ⟨_, World.ownsMap_made _ _ _ _, NamD.nil⟩
theorem NamD.add {D : DataW Unit} {ns : List ByteArray} (h : NamD D ns) (hD : IsMap D) {s : ByteArray} (hs : s ∉ ns) : NamD (D.put (key s) (.lit (.int .i64 ns.length))) (ns ++ [s]) := fun t => by
  by_cases e : t = s
  · subst e
    refine ⟨?_, fun i hi hn => ?_⟩
    · rw [has_put_same hD (key_is _)]; simp [inB]
    · rw [atKey_put_same hD (key_is _)]
      have : i = ns.length := by
        by_cases hl : i < ns.length
        · rw [List.getElem_append_left hl] at hn
          exact absurd (hn ▸ List.getElem_mem hl) hs
        · simp at hi; omega
      rw [this]
  · have hne : key t ≠ key s := fun e' => e (key_inj e')
    refine ⟨?_, fun i hi hn => ?_⟩
    · rw [has_put_other hne, (h t).1]
      simp [inB, Ne.symm e]
    · rw [atKey_put_other hne]
      have hl : i < ns.length := by
        by_cases hl : i < ns.length
        · exact hl
        · rw [List.getElem_append_right (by omega)] at hn
          simp at hn
          exact absurd hn.symm e
      rw [List.getElem_append_left hl] at hn
      exact (h t).2 i hl hn
theorem NamAt.below {w w' : World} {b : Nat} {ns : List ByteArray} (h : NamAt w b ns) (hb : Below w.heap.size w w') : NamAt w' b ns := by
  obtain ⟨D, h1, h2⟩ := h
  obtain ⟨es, clock, e1, e2⟩ := h1
  exact ⟨D, ⟨es, clock, (hb.block b (Array.getElem?_eq_some_iff.1 e1).1).trans e1, e2⟩, h2⟩
theorem NamAt.kept {w w' : World} {row : Option Nat} {b : Nat} {ns : List ByteArray} (h : NamAt w b ns) (hg : w.grownBy w' row) (hne : some b ≠ row) : NamAt w' b ns := by
  obtain ⟨D, h1, h2⟩ := h
  exact ⟨D, h1.kept hg hne, h2⟩
theorem NamAt.lt {w : World} {b : Nat} {ns : List ByteArray} (h : NamAt w b ns) : b < w.heap.size := by
  obtain ⟨D, h1, _⟩ := h
  exact h1.lt
/-- 'n, ok := m[s]' -/
theorem nam_look {ops : Array Oper} {rest : List Oper} {o : Oper} {a : Act} {Q : Exit → Act → World → Prop} (w : World) (hg : o.guard = none) (m x : Operand) (hop : o.op = Op.lookup 119 m x true) (b : Nat) (ns : List ByteArray)
    (hm : a.eval m = .map (some b)) (hown : NamAt w b ns) (s : ByteArray) (hx : a.eval x = .string s) (hs : s.size ≤ maxLen)
    (h : ∀ c : Int, (∀ i (hi : i < ns.length), ns[i] = s → c = i) → wpList Try.prog ops Q rest (a.put o.dst (.tuple #[.int .i64 c, .bool (inB s ns)])) w) :
    wpList Try.prog ops Q (o :: rest) a w := by
  obtain ⟨D, h1, h2⟩ := hown
  refine wpList_lookup_own_ok_int w hg m x 119 hop 9 3 .i64 law9 Try.underlying119 Try.underlying3 (zero3 w) b ns.length D hm h1 (.string s) (key s) hx (keyOf_string_mk Try.underlying9 hs) fun c hat _ => ?_
  have := h c fun i hi hn => by
    have e := (h2 s).2 i hi hn
    rw [hat] at e
    injection e with e
    injection e
  rw [← (h2 s).1] at this
  exact this
/-- 'm[s] = len' -/
theorem nam_put {ops : Array Oper} {rest : List Oper} {o : Oper} {a : Act} {Q : Exit → Act → World → Prop} (w : World) (hg : o.guard = none) (m x v : Operand) (hop : o.op = Op.mapUpdate 119 m x v) (b : Nat) (ns : List ByteArray)
    (hm : a.eval m = .map (some b)) (hown : NamAt w b ns) (s : ByteArray) (hx : a.eval x = .string s) (hv : a.eval v = .int .i64 ns.length) (hs : s.size ≤ maxLen) (hn : s ∉ ns) (hl : ns.length ≤ 1048576)
    (h : ∀ w', NamAt w' b (ns ++ [s]) → w.grownBy w' (some b) → wpList Try.prog ops Q rest (a.put o.dst undef) w') :
    wpList Try.prog ops Q (o :: rest) a w := by
  obtain ⟨D, h1, h2⟩ := hown
  refine wpList_mapUpdate_own w hg m x v 119 hop 9 3 law9 Try.underlying119 _ b ns.length D hm h1 (by unfold maxLen; omega) _ _ (key s) hx hv (keyOf_string_mk Try.underlying9 hs) (.lit (.int .i64 ns.length)) [] (plainElem_int Try.underlying3 (WalkArith.wf_i64 (by omega))) fun w' h3 h4 => h w' ⟨_, ?_, h2.add h1.isMap hn⟩ h4
  rw [List.length_append]
  exact h3

end Go.Proofs.Ytkpieeldoielgaa
