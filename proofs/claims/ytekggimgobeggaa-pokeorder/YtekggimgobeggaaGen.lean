/- Slices whose elements take one cell each (numbers, texts): in a block of their own, or nil; what a store and an append do to them. -/
import Derived.Test.YtekggimgobeggaaOwn
import Derived.Laws.AppendOwnNone
namespace Go.Proofs.Ytekggimgobeggaa
open Go.RowKit

/-- how a slice of such elements lies -/
def GRow (w : World) (p : Option Addr) (vs : List Value) : Prop :=
  0 < vs.length → ∃ b o, p = some ⟨b, o, none⟩ ∧ ∀ i, i < vs.length → w.cell? ⟨b, o + i, none⟩ = vs[i]?
/-- a slice of elements of the type T that the call has made (its block's number B or above), or nil -/
def GOwnV (T : TypeId) (w : World) (B : Nat) (v : Value) (vs : List Value) : Prop := w.ownsRow B T 1 v vs.length vs
/-- the same, not nil -/
def GOwn (T : TypeId) (w : World) (B g cap : Nat) (vs : List Value) : Prop := w.ownsRow B T 1 (.slice (some ⟨g, 0, none⟩) vs.length cap) vs.length vs

theorem GOwn.parts {T : TypeId} {w : World} {B g cap : Nat} {vs : List Value} (h : GOwn T w B g cap vs) :
    ∃ cur, B ≤ g ∧ w.heap[g]? = some (.cells cur T (0, 0)) ∧ vs.length ≤ cap ∧ cap ≤ maxLen ∧ cur.size = cap ∧ cur.toList.take vs.length = vs := by
  rcases h.2 with ⟨h', _⟩ | ⟨g', cap', cur, h', h1, h2, h3, h4, h5, h6⟩
  · simp at h'
  · simp only [Value.slice.injEq, Option.some.injEq, Addr.mk.injEq, and_true, true_and] at h'
    obtain ⟨rfl, rfl⟩ := h'
    exact ⟨cur, h1, h2, h3, h4, by simpa using h5, by simpa using h6⟩
theorem GOwn.mk {T : TypeId} {w : World} {B g cap : Nat} {vs : List Value} {cur : Array Value} (h1 : B ≤ g) (h2 : w.heap[g]? = some (.cells cur T (0, 0))) (h3 : vs.length ≤ cap) (h4 : cap ≤ maxLen) (h5 : cur.size = cap) (h6 : cur.toList.take vs.length = vs) : GOwn T w B g cap vs :=
  ⟨by simp, .inr ⟨g, cap, cur, rfl, h1, h2, h3, h4, by simpa using h5, by simpa using h6⟩⟩
theorem GOwn.lt {T : TypeId} {w : World} {B g cap : Nat} {vs : List Value} (h : GOwn T w B g cap vs) : g < w.heap.size := by
  obtain ⟨cur, _, h2, _⟩ := h.parts
  rcases Nat.lt_or_ge g w.heap.size with h | h
  · exact h
  · rw [Array.getElem?_eq_none h] at h2; cases h2
theorem GOwn.base {T : TypeId} {w : World} {B g cap : Nat} {vs : List Value} (h : GOwn T w B g cap vs) : B ≤ g := by obtain ⟨cur, h1, _⟩ := h.parts; exact h1
theorem GOwn.cap {T : TypeId} {w : World} {B g cap : Nat} {vs : List Value} (h : GOwn T w B g cap vs) : vs.length ≤ cap := by obtain ⟨cur, _, _, h1, _⟩ := h.parts; exact h1
theorem GOwn.lower {T : TypeId} {w : World} {B B' g cap : Nat} {vs : List Value} (h : GOwn T w B g cap vs) (hB : B' ≤ g) : GOwn T w B' g cap vs := by
  obtain ⟨cur, _, h2, h3, h4, h5, h6⟩ := h.parts
  exact GOwn.mk hB h2 h3 h4 h5 h6
theorem GOwn.keep {T : TypeId} {w w' : World} {B C g cap : Nat} {vs : List Value} (h : GOwn T w B g cap vs) (hb : Below C w w') (hg : g < C) : GOwn T w' B g cap vs := by
  obtain ⟨cur, h1, h2, h3, h4, h5, h6⟩ := h.parts
  exact GOwn.mk h1 (by rw [hb.block g hg]; exact h2) h3 h4 h5 h6
theorem GOwn.below {T : TypeId} {w w' : World} {B g cap : Nat} {vs : List Value} (h : GOwn T w B g cap vs) (hb : Below w.heap.size w w') : GOwn T w' B g cap vs := h.keep hb h.lt
theorem GOwn.cell {T : TypeId} {w : World} {B g cap : Nat} {vs : List Value} (h : GOwn T w B g cap vs) (i : Nat) (hi : i < vs.length) : w.cell? ⟨g, i, none⟩ = vs[i]? := World.ownsRow.cellAt h i (by omega)
theorem GOwn.free {T : TypeId} {w : World} {B g cap : Nat} {vs : List Value} (h : GOwn T w B g cap vs) (i : Nat) : w.frozen? ⟨g, i, none⟩ = false := World.ownsRow.frozenAt h i
theorem GOwn.store {T : TypeId} {w : World} {B g cap : Nat} {vs : List Value} (h : GOwn T w B g cap vs) (i : Nat) (x : Value) : GOwn T (w.setCell ⟨g, i, none⟩ x) B g cap (vs.set i x) := by
  have := (World.ownsRow.stored h i x).1
  unfold GOwn
  simpa using this
theorem GOwn.row {T : TypeId} {w : World} {B g cap : Nat} {vs : List Value} (h : GOwn T w B g cap vs) : GRow w (some ⟨g, 0, none⟩) vs :=
  fun _ => ⟨g, 0, rfl, fun i hi => by simpa using h.cell i hi⟩
theorem GOwn.grown {T : TypeId} {w w' : World} {B g r cap : Nat} {vs : List Value} (ho : GOwn T w B g cap vs) (hg : w.grownBy w' (some r)) (hne : g ≠ r) : GOwn T w' B g cap vs := by
  obtain ⟨cur, h1, h2, h3, h4, h5, h6⟩ := ho.parts
  exact GOwn.mk h1 ((hg.block g ho.lt (fun e => hne (by injection e))).trans h2) h3 h4 h5 h6
theorem GOwn.lit (T : TypeId) (w : World) (vs : List Value) (hm : vs.length ≤ maxLen) : GOwn T (w.alloc (.cells vs.toArray T)) w.heap.size w.heap.size vs.length vs :=
  GOwn.mk (Nat.le_refl _) (heap_alloc_new w _) (Nat.le_refl _) hm (by simp) (by rw [List.take_of_length_le (by simp)])
theorem GOwn.drewN {T : TypeId} {w : World} {B g cap : Nat} {vs : List Value} (h : GOwn T w B g cap vs) (n : Nat) : GOwn T (w.drewN n) B g cap vs := h

theorem GRow.below {w w' : World} {p : Option Addr} {vs : List Value} (h : GRow w p vs) (hb : Below w.heap.size w w') : GRow w' p vs := fun h0 => by
  obtain ⟨b, o, rfl, hc⟩ := h h0
  refine ⟨b, o, rfl, fun i hi => ?_⟩
  have e := hc i hi
  rw [List.getElem?_eq_getElem hi] at e
  rw [hb.cell (p := ⟨b, o + i, none⟩) (cell_lt e), hc i hi]
theorem GRow.drewN {w : World} {p : Option Addr} {vs : List Value} (h : GRow w p vs) (n : Nat) : GRow (w.drewN n) p vs := h
theorem GRow.nil (w : World) (p : Option Addr) : GRow w p [] := fun h => absurd h (Nat.lt_irrefl 0)

theorem GOwn.val {T : TypeId} {w : World} {B g cap : Nat} {vs : List Value} (h : GOwn T w B g cap vs) : GOwnV T w B (.slice (some ⟨g, 0, none⟩) vs.length cap) vs := h
theorem GOwnV.nil (T : TypeId) (w : World) (B : Nat) : GOwnV T w B (.slice none 0 0) [] := World.ownsRow_nil _ _ _ _
theorem GOwnV.alloc {T : TypeId} {w : World} {B : Nat} {v : Value} {vs : List Value} (h : GOwnV T w B v vs) (o : Obj) : GOwnV T (w.alloc o) B v vs := World.ownsRow.alloc h o
theorem GOwnV.drewN {T : TypeId} {w : World} {B : Nat} {v : Value} {vs : List Value} (h : GOwnV T w B v vs) (n : Nat) : GOwnV T (w.drewN n) B v vs := h
theorem GOwnV.shape {T : TypeId} {w : World} {B : Nat} {v : Value} {vs : List Value} (h : GOwnV T w B v vs) : (v = .slice none 0 0 ∧ vs = []) ∨ ∃ g cap, v = .slice (some ⟨g, 0, none⟩) vs.length cap ∧ GOwn T w B g cap vs := by
  rcases h.2 with ⟨h1, h2⟩ | ⟨g, cap, cur, h1, h2⟩
  · exact .inl ⟨h1, List.eq_nil_of_length_eq_zero h2⟩
  · subst h1
    exact .inr ⟨g, cap, rfl, h⟩
theorem GOwnV.below {T : TypeId} {w w' : World} {B : Nat} {v : Value} {vs : List Value} (h : GOwnV T w B v vs) (hb : Below w.heap.size w w') : GOwnV T w' B v vs := by
  rcases h.shape with ⟨rfl, rfl⟩ | ⟨g, cap, rfl, ho⟩
  · exact GOwnV.nil _ _ _
  · exact (ho.below hb).val
theorem GOwnV.slice {T : TypeId} {w : World} {B : Nat} {v : Value} {vs : List Value} (h : GOwnV T w B v vs) : ∃ p cap, v = .slice p vs.length cap ∧ GRow w p vs ∧ vs.length ≤ cap ∧ (p = none → cap = 0) := by
  rcases h.shape with ⟨rfl, rfl⟩ | ⟨g, cap, rfl, ho⟩
  · exact ⟨none, 0, rfl, GRow.nil _ _, Nat.le_refl _, fun _ => rfl⟩
  · exact ⟨_, cap, rfl, ho.row, ho.cap, fun h => by cases h⟩
theorem GOwnV.lowerV {T : TypeId} {w : World} {B B' : Nat} {v : Value} {vs : List Value} (h : GOwnV T w B v vs) (hB : B' ≤ B) : GOwnV T w B' v vs := by
  rcases h.shape with ⟨rfl, rfl⟩ | ⟨g, cap, rfl, ho⟩
  · exact GOwnV.nil _ _ _
  · exact (ho.lower (Nat.le_trans hB ho.base)).val

/-- what append asks of the slice's type t and its element's type T -/
def Elem (t T : TypeId) (by_ : Nat) : Prop := Try.prog.underlying t = some (.slice T) ∧ ∃ z, z.cells.size = 1 ∧ (Try.prog.info? T).map (fun i => (i.zero, i.size, i.bytes)) = some (some z, 1, by_)

/-- 'append(out, ..)' on such a slice -/
theorem gpush {ops : Array Oper} {rest : List Oper} {o : Oper} {a : Act} {Q : Exit → Act → World → Prop} {t T : TypeId} {by_ : Nat} (he : Elem t T by_) (w : World) (hgd : o.guard = none) (s x : Operand)
    (ho : o.op = .call { callee := .builtin .append, args := #[s, x], argTypes := #[t, t] }) (B : Nat) (v : Value) (vs : List Value) (hs : a.eval s = v) (hown : GOwnV T w B v vs)
    (ad : Addr) (m c : Nat) (ns : List Value) (hx : a.eval x = .slice (some ad) m c) (hl : ns.length = m) (hnews : ∀ j u, ns[j]? = some u → w.cell? (ad.add j) = some u) (h1 : ∀ u ∈ ns, u.oneCell' = true)
    (hlen : vs.length + m ≤ 140737488355328) (hby : (vs.length + m) * by_ ≤ 140737488355328) (hB : B ≤ w.heap.size)
    (h : ∀ v' w', GOwnV T w' B v' (vs ++ ns) → w.grownBy w' v.ownBlock → (∀ w0, Below B w0 w → Below B w0 w') → (v' = .slice none 0 0 ↔ v = .slice none 0 0 ∧ m = 0) → wpList Try.prog ops Q rest (a.put o.dst v') w') :
    wpList Try.prog ops Q (o :: rest) a w := by
  obtain ⟨hu, z, hzc, hinfo⟩ := he
  obtain ⟨i0, hi, hz0, hz1, hz2⟩ := info_parts hinfo
  refine wpList_append_own w hgd s x t ho B T i0 z 1 by_ hu hi hz0 hz1 hz2 hzc (by decide) v vs.length vs hs hown ad m c ns hx (by simp [hl]) hnews h1 (by unfold maxLen; omega) hby hB ?_
  intro v' w' h2 h3 h4
  refine h v' w' ?_ h3 (fun w0 hb => hb.grown h3 hB fun k hk => ?_) h4
  · unfold GOwnV
    rw [List.length_append, hl]
    exact h2
  · rcases hown.shape with ⟨rfl, _⟩ | ⟨g, cap, rfl, ho⟩
    · simp [Value.ownBlock] at hk
    · simp [Value.ownBlock] at hk
      subst hk
      exact ho.base

end Go.Proofs.Ytekggimgobeggaa
