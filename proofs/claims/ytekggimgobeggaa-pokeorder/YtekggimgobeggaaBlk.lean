/- Blocks of several cells; how an item lies. -/
import Derived.Test.YtekggimgobeggaaOwn
import Derived.Deep.MidRow
import Derived.RangeFuncBox
namespace Go.Proofs.Ytekggimgobeggaa
open Go.RowKit

/-- a block and its cells -/
def Blk (w : World) (g : Nat) (T : TypeId) (c : Array Value) : Prop := w.heap[g]? = some (.cells c T (0, 0))
theorem Blk.lt {w : World} {g : Nat} {T : TypeId} {c : Array Value} (h : Blk w g T c) : g < w.heap.size := (Array.getElem?_eq_some_iff.1 h).1
theorem Blk.cell {w : World} {g : Nat} {T : TypeId} {c : Array Value} (h : Blk w g T c) (i : Nat) : w.cell? ⟨g, i, none⟩ = c[i]? := by simp [World.cell?, show w.heap[g]? = _ from h]
theorem Blk.free {w : World} {g : Nat} {T : TypeId} {c : Array Value} (h : Blk w g T c) (i : Nat) : w.frozen? ⟨g, i, none⟩ = false := by simp [World.frozen?, show w.heap[g]? = _ from h]
theorem Blk.new (w : World) (T : TypeId) (c : Array Value) : Blk (w.alloc (.cells c T)) w.heap.size T c := World.alloc_heap_new w _
theorem Blk.kept {w w' : World} {row : Option Nat} {g : Nat} {T : TypeId} {c : Array Value} (h : Blk w g T c) (hg : w.grownBy w' row) (hne : some g ≠ row) : Blk w' g T c := (hg.block g h.lt hne).trans h
theorem Blk.below {w w' : World} {g B : Nat} {T : TypeId} {c : Array Value} (h : Blk w g T c) (hb : Below B w w') (hg : g < B) : Blk w' g T c := (hb.block g hg).trans h
theorem Blk.grow {w w' : World} {g : Nat} {T : TypeId} {c : Array Value} (h : Blk w g T c) (hb : Below w.heap.size w w') : Blk w' g T c := h.below hb h.lt
theorem Blk.set {w : World} {g : Nat} {T : TypeId} {c : Array Value} (h : Blk w g T c) (i : Nat) (v : Value) : Blk (w.setCell ⟨g, i, none⟩ v) g T (c.setIfInBounds i v) := by
  obtain ⟨hlt, hk⟩ := Array.getElem?_eq_some_iff.1 h
  show (w.heap.modify g _)[g]? = _
  rw [Array.getElem?_eq_getElem (by rw [Array.size_modify]; exact hlt), Array.getElem_modify_self, hk]
  rfl

theorem Blk.other {w : World} {g k : Nat} {T : TypeId} {c : Array Value} (h : Blk w g T c) (hne : g ≠ k) (i : Nat) (v : Value) : Blk (w.setCell ⟨k, i, none⟩ v) g T c := (Below.heap_setCell _ _ _ g (fun e => hne e)).trans h
theorem grown_setCell (w : World) (g i : Nat) (v : Value) : w.grownBy (w.setCell ⟨g, i, none⟩ v) (some g) :=
  ⟨rfl, rfl, rfl, (KeepsWalks.setCell w _ v).size, fun k _ hk => Below.heap_setCell _ _ _ k (fun e => hk (by rw [e]))⟩
theorem grown_setCells (g : Nat) : ∀ (vs : List Value) (o : Nat) (w : World), w.grownBy (w.setCells g o vs) (some g)
  | [], _, w => World.grownBy.refl w _
  | v :: r, o, w => (grown_setCell w g o v).trans (grown_setCells g r (o + 1) _)
theorem below_grown {w w' : World} {g : Nat} (h : w.grownBy w' (some g)) {B : Nat} (hB : B ≤ g) (hl : B ≤ w.heap.size) : Below B w w' :=
  ⟨h.os, h.tape, h.output, h.size, fun k hk => h.block k (by omega) (by intro e; injection e with e; omega)⟩
theorem Blk.some_after (g : Nat) (T : TypeId) : ∀ (vs : List Value) (o : Nat) (w : World) (c : Array Value), Blk w g T c → ∃ c', Blk (w.setCells g o vs) g T c' ∧ c'.size = c.size
  | [], _, w, c, h => ⟨c, h, rfl⟩
  | v :: r, o, w, c, h => by
    obtain ⟨c', h1, h2⟩ := Blk.some_after g T r (o + 1) _ _ (h.set o v)
    exact ⟨c', h1, by rw [h2]; simp⟩
theorem Blk.range {w : World} {g : Nat} {T : TypeId} {c : Array Value} (h : Blk w g T c) : w.rangeAt g 0 c.toList := fun j v hv => by
  rw [Nat.zero_add, h.cell]; rw [Array.getElem?_toList] at hv; exact hv
theorem Blk.there {w : World} {g : Nat} {T : TypeId} {c : Array Value} (h : Blk w g T c) (o n : Nat) (hn : o + n ≤ c.size) : w.there g o n := fun j hj =>
  ⟨by rw [h.cell]; simp; omega, h.free _⟩
theorem Blk.setAll {w : World} {g : Nat} {T : TypeId} {c : Array Value} (h : Blk w g T c) (c' : Array Value) (hs : c'.size = c.size) : Blk (w.setCells g 0 c'.toList) g T c' := by
  obtain ⟨c2, h1, h2⟩ := Blk.some_after g T c'.toList 0 w c h
  have : c2 = c' := by
    apply Array.ext (by omega)
    intro i hi hi'
    have hr := World.rangeAt_setCells_same w g 0 c'.toList (by rw [Array.length_toList]; exact h.there 0 _ (by omega)) i c'[i] (by simp [hi'])
    rw [Nat.zero_add, h1.cell, Array.getElem?_eq_getElem hi] at hr
    injection hr
  rw [← this] at h1 ⊢
  exact h1

/-- a struct is read -/
theorem step_load_blk {ops : Array Oper} {rest : List Oper} {o : Oper} {a : Act} {w : World} {Q : Exit → Act → World → Prop} {g : Nat} {T : TypeId} {c : Array Value} (hB : Blk w g T c) (hg : o.guard = none) (t : TypeId) (p : Operand) (ho : o.op = .load t p)
    (hp : a.eval p = .pointer (some ⟨g, 0, none⟩)) (c' : Array Value) (hc : c'.toList <+: c.toList) (d : TypeDesc) (hu : Try.prog.underlying t = some d) (hd : d.isRow = true) (hi : (Try.prog.info? t).map (·.size) = some c'.size)
    (h : wpList Try.prog ops Q rest (a.put o.dst (.agg c')) w) : wpList Try.prog ops Q (o :: rest) a w := by
  refine wpList_load_mid hg t p ho g 0 hp c'.toList d (fun j v hv => hB.range j v ?_) hu hd (by rw [hi, Array.length_toList]) (by simpa using h)
  obtain ⟨r, hr⟩ := hc
  rw [← hr, List.getElem?_append_left (List.getElem?_eq_some_iff.1 hv).1]; exact hv
/-- a struct is stored -/
theorem step_store_blk {ops : Array Oper} {rest : List Oper} {o : Oper} {a : Act} {w : World} {Q : Exit → Act → World → Prop} {g : Nat} {T : TypeId} {c : Array Value} (hB : Blk w g T c) (hg : o.guard = none) (t : TypeId) (p x : Operand) (ho : o.op = .store t p x) (hd : o.dst = none)
    (hp : a.eval p = .pointer (some ⟨g, 0, none⟩)) (c' : Array Value) (hx : a.eval x = .agg c') (hi : (Try.prog.info? t).map (·.size) = some c'.size) (hcs : c'.size = c.size) (h1 : c'.all (·.oneCell') = true)
    (h : ∀ w', Blk w' g T c' → w.grownBy w' (some g) → wpList Try.prog ops Q rest a w') : wpList Try.prog ops Q (o :: rest) a w := by
  refine wpList_store_mid hg t p x ho g 0 c' hp hx (hB.there 0 _ (by omega)) hi h1 ?_
  rw [hd]
  exact h _ (hB.setAll c' hcs) (grown_setCells g _ _ _)

end Go.Proofs.Ytekggimgobeggaa
