/- Lists of one-cell elements (or nil) that lie apart: what stores and appends leave as it was. Plain facts on worlds, for every element type T, slice type e and every mark. -/
import Derived.Test.YtnmcdkhfjkpklaaTexts
namespace Go.Proofs.Ytnmcdkhfjkpklaa
open Go.RowKit

/-- all old blocks but those of G are as they were -/
structure Keeps (G : Nat → Prop) (w w' : World) : Prop where
  os : w'.os = w.os
  tape : w'.tape = w.tape
  output : w'.output = w.output
  size : w.heap.size ≤ w'.heap.size
  block : ∀ j, j < w.heap.size → ¬ G j → w'.heap[j]? = w.heap[j]?

theorem Keeps.refl (G : Nat → Prop) (w : World) : Keeps G w w := ⟨rfl, rfl, rfl, Nat.le_refl _, fun _ _ _ => rfl⟩
theorem Keeps.drewN {G : Nat → Prop} {a w : World} (h : Keeps G a w) (n : Nat) : Keeps G a (w.drewN n) := ⟨h.os, h.tape, h.output, h.size, h.block⟩
theorem Keeps.drew {G : Nat → Prop} {a w : World} (h : Keeps G a w) : Keeps G a w.drew := ⟨h.os, h.tape, h.output, h.size, h.block⟩
theorem Keeps.grown {G : Nat → Prop} {a w w' : World} {row : Option Nat} (h : Keeps G a w) (hg : w.grownBy w' row) (hr : ∀ k, row = some k → G k ∨ a.heap.size ≤ k) : Keeps G a w' :=
  ⟨hg.os.trans h.os, hg.tape.trans h.tape, hg.output.trans h.output, Nat.le_trans h.size hg.size, fun j hj hn => by
    rw [hg.block j (Nat.lt_of_lt_of_le hj h.size) (fun e => by
      rcases hr j e.symm with h1 | h1
      · exact hn h1
      · omega), h.block j hj hn]⟩
theorem Keeps.setCell {G : Nat → Prop} {a w : World} (h : Keeps G a w) (b i : Nat) (v : Value) (hb : G b ∨ a.heap.size ≤ b) : Keeps G a (w.setCell ⟨b, i, none⟩ v) :=
  ⟨h.os, h.tape, h.output, by rw [World.size_setCell]; exact h.size, fun j hj hn => by
    rw [heap_setCell_other w ⟨b, i, none⟩ j v (fun e => by
      simp only at e
      subst e
      rcases hb with h1 | h1
      · exact hn h1
      · omega), h.block j hj hn]⟩
theorem Keeps.below {G : Nat → Prop} {B : Nat} {w w' : World} (h : Keeps G w w') (hB : B ≤ w.heap.size) (hG : ∀ j, G j → B ≤ j) : Below B w w' :=
  ⟨h.os, h.tape, h.output, h.size, fun k hk => h.block k (by omega) fun hg => by have := hG k hg; omega⟩

/-- a world that has grown by new blocks alone -/
theorem grown_of_below {w w' : World} (h : Below w.heap.size w w') : w.grownBy w' none := ⟨h.os, h.tape, h.output, h.size, fun k hk _ => h.block k hk⟩

/-- the slice that begins at a block's first cell, or nil -/
def sl (p : Option Nat) (n c : Nat) : Value := .slice (p.map fun b => ⟨b, 0, none⟩) n c
theorem sl_block (p : Option Nat) (n c : Nat) : (sl p n c).ownBlock = p := by cases p <;> rfl
theorem sl_none (n c : Nat) : sl none n c = .slice none n c := rfl
theorem sl_some (g n c : Nat) : sl (some g) n c = .slice (some ⟨g, 0, none⟩) n c := rfl

theorem GOwnV.kept {T : TypeId} {w w' : World} {B : Nat} {v : Value} {vs : List Value} {row : Option Nat} (h : GOwnV T w B v vs) (hg : w.grownBy w' row) (hne : v.ownBlock = none ∨ v.ownBlock ≠ row) : GOwnV T w' B v vs := World.ownsRow.kept h hg hne
theorem GOwnV.store_other {T : TypeId} {w : World} {B : Nat} {v : Value} {vs : List Value} (h : GOwnV T w B v vs) (b i : Nat) (u : Value) (hne : v.ownBlock ≠ some b) : GOwnV T (w.setCell ⟨b, i, none⟩ u) B v vs :=
  h.kept (row := some b) ⟨rfl, rfl, rfl, by simp, fun k _ hk => heap_setCell_other w ⟨b, i, none⟩ k u (fun e => hk (by simp [e]))⟩ (.inr hne)
theorem GOwnV.filled {T : TypeId} {w : World} {B : Nat} {p : Option Nat} {n c : Nat} {vs : List Value} (h : GOwnV T w B (sl p n c) vs) (h0 : 0 < vs.length) : ∃ g, p = some g ∧ n = vs.length ∧ GOwn T w B g c vs := by
  rcases h.shape with ⟨_, e⟩ | ⟨g, cap, e, ho⟩
  · rw [e] at h0; exact absurd h0 (Nat.lt_irrefl 0)
  · cases p with
    | none => simp [sl] at e
    | some b =>
      simp [sl] at e
      obtain ⟨rfl, rfl, rfl⟩ := e
      exact ⟨b, rfl, rfl, ho⟩
theorem GOwnV.full {T : TypeId} {w : World} {B g n c : Nat} {vs : List Value} (h : GOwnV T w B (sl (some g) n c) vs) : n = vs.length ∧ GOwn T w B g c vs := by
  rcases h.shape with ⟨e, _⟩ | ⟨g', cap, e, ho⟩
  · simp [sl] at e
  · simp [sl] at e
    obtain ⟨rfl, rfl, rfl⟩ := e
    exact ⟨rfl, ho⟩
theorem GOwn.caps {T T' : TypeId} {w : World} {B B' g cap cap' : Nat} {xs ys : List Value} (h : GOwn T w B g cap xs) (h' : GOwn T' w B' g cap' ys) : cap = cap' := by
  obtain ⟨cur, _, h2, _, _, h5, _⟩ := h.parts
  obtain ⟨cur', _, h2', _, _, h5', _⟩ := h'.parts
  rw [h2] at h2'
  cases h2'
  omega
theorem GOwn.front {T : TypeId} {w : World} {B g cap : Nat} {xs ys : List Value} (h : GOwn T w B g cap (xs ++ ys)) : GOwn T w B g cap xs := by
  obtain ⟨cur, h1, h2, h3, h4, h5, h6⟩ := h.parts
  rw [List.length_append] at h3
  refine GOwn.mk h1 h2 (by omega) h4 h5 ?_
  have e : cur.toList.take xs.length = (cur.toList.take (xs ++ ys).length).take xs.length := by
    rw [List.take_take, List.length_append, Nat.min_eq_left (by omega)]
  rw [e, h6]
  simp

/-- a table of K slices (of the type e) in a block of its own -/
def TabOf (e : TypeId) (w : World) (L K : Nat) (f : Nat → Value) : Prop := w.heap[L]? = some (.cells ((List.range K).map f).toArray e (0, 0))
theorem TabOf.cell {e : TypeId} {w : World} {L K : Nat} {f : Nat → Value} (h : TabOf e w L K f) (k : Nat) (hk : k < K) : w.cell? ⟨L, k, none⟩ = some (f k) := by
  rw [cell_of_row w L k _ e (0, 0) h]
  simp [hk]
theorem TabOf.free {e : TypeId} {w : World} {L K : Nat} {f : Nat → Value} (h : TabOf e w L K f) (k : Nat) : w.frozen? ⟨L, k, none⟩ = false := frozen_of_row w L k _ e h
theorem TabOf.lt {e : TypeId} {w : World} {L K : Nat} {f : Nat → Value} (h : TabOf e w L K f) : L < w.heap.size := by
  rcases Nat.lt_or_ge L w.heap.size with h' | h'
  · exact h'
  · unfold TabOf at h; rw [Array.getElem?_eq_none h'] at h; cases h
theorem TabOf.ne {e T : TypeId} (hT : T ≠ e) {w : World} {L K : Nat} {f : Nat → Value} (h : TabOf e w L K f) {B n c : Nat} {p : Option Nat} {vs : List Value} (ho : GOwnV T w B (sl p n c) vs) : p ≠ some L := fun he => by
  subst he
  obtain ⟨cur, _, h2, _⟩ := ho.full.2.parts
  unfold TabOf at h
  rw [h2] at h
  injection h with h
  injection h with _ h
  exact hT h
theorem TabOf.kept {e : TypeId} {w w' : World} {L K : Nat} {f : Nat → Value} {row : Option Nat} (h : TabOf e w L K f) (hg : w.grownBy w' row) (hne : some L ≠ row) : TabOf e w' L K f := by
  unfold TabOf; rw [hg.block L h.lt hne]; exact h
theorem TabOf.drewN {e : TypeId} {w : World} {L K : Nat} {f : Nat → Value} (h : TabOf e w L K f) (n : Nat) : TabOf e (w.drewN n) L K f := h
theorem TabOf.drew {e : TypeId} {w : World} {L K : Nat} {f : Nat → Value} (h : TabOf e w L K f) : TabOf e w.drew L K f := h
theorem TabOf.store_other {e : TypeId} {w : World} {L K : Nat} {f : Nat → Value} (h : TabOf e w L K f) (b i : Nat) (v : Value) (hne : L ≠ b) : TabOf e (w.setCell ⟨b, i, none⟩ v) L K f := by
  unfold TabOf; rw [heap_setCell_other w ⟨b, i, none⟩ L v hne]; exact h
theorem TabOf.store {e : TypeId} {w : World} {L K : Nat} {f : Nat → Value} (h : TabOf e w L K f) (k : Nat) (v : Value) : TabOf e (w.setCell ⟨L, k, none⟩ v) L K (fun i => if i = k then v else f i) := by
  unfold TabOf
  rw [heap_setCell_same w L k _ e v h]
  congr 2
  apply Array.ext'
  rw [Array.toList_setIfInBounds]
  apply List.ext_getElem?
  intro j
  simp only [List.getElem?_set, List.length_map, List.length_range, List.getElem?_map]
  by_cases e : k = j
  · subst e
    by_cases hk : k < K <;> simp [hk]
  · by_cases hj : j < K <;> simp [e, hj, Ne.symm e]
theorem TabOf.made {e : TypeId} {w : World} {B g n : Nat} (h : w.ownsRow B e 1 (.slice (some ⟨g, 0, none⟩) n n) n (madeCells (Value.slice none 0 0).cells (n * 1)).toList) : TabOf e w g n (fun _ => .slice none 0 0) := by
  rcases h.2 with ⟨h', _⟩ | ⟨g', cap', cur, h', h1, h2, h3, h4, h5, h6⟩
  · simp at h'
  · simp only [Value.slice.injEq, Option.some.injEq, Addr.mk.injEq, and_true, true_and] at h'
    obtain ⟨rfl, rfl⟩ := h'
    unfold TabOf
    rw [h2]
    congr 2
    apply Array.ext'
    rw [List.take_of_length_le (by rw [Array.length_toList, h5]; exact Nat.le_refl _)] at h6
    rw [h6, show (Value.slice none 0 0).cells = #[Value.slice none 0 0] from rfl, toList_madeCells_one]
    apply List.ext_getElem?
    intro j
    by_cases hj : j < n <;> simp [hj]

/-- lists apart: each in a block of its own, or nil -/
def AllOwn (T : TypeId) (w : World) (B K : Nat) (p : Nat → Option Nat) (n c : Nat → Nat) (ct : Nat → List Value) : Prop := ∀ j, j < K → GOwnV T w B (sl (p j) (n j) (c j)) (ct j)
def Apart (K : Nat) (p : Nat → Option Nat) : Prop := ∀ i j, i < K → j < K → i ≠ j → p i = none ∨ p i ≠ p j
theorem AllOwn.kept {T : TypeId} {w w' : World} {B K : Nat} {p : Nat → Option Nat} {n c : Nat → Nat} {ct : Nat → List Value} {row : Option Nat} (h : AllOwn T w B K p n c ct) (hg : w.grownBy w' row) (hne : ∀ j, j < K → p j = none ∨ p j ≠ row) : AllOwn T w' B K p n c ct :=
  fun j hj => (h j hj).kept hg (by rw [sl_block]; exact hne j hj)
theorem AllOwn.store_other {T : TypeId} {w : World} {B K : Nat} {p : Nat → Option Nat} {n c : Nat → Nat} {ct : Nat → List Value} (h : AllOwn T w B K p n c ct) (b i : Nat) (v : Value) (hne : ∀ j, j < K → p j ≠ some b) : AllOwn T (w.setCell ⟨b, i, none⟩ v) B K p n c ct :=
  fun j hj => (h j hj).store_other b i v (by rw [sl_block]; exact hne j hj)
theorem AllOwn.store {T : TypeId} {w : World} {B K : Nat} {p : Nat → Option Nat} {n c : Nat → Nat} {ct ct' : Nat → List Value} (h : AllOwn T w B K p n c ct) (ha : Apart K p) (k i g : Nat) (hk : k < K) (hp : p k = some g) (z : Value) (h1 : ct' k = (ct k).set i z) (h2 : ∀ j, j ≠ k → ct' j = ct j) : AllOwn T (w.setCell ⟨g, i, none⟩ z) B K p n c ct' := fun j hj => by
  by_cases e : j = k
  · subst e
    have ho := h j hj
    rw [hp] at ho
    obtain ⟨hn, ho2⟩ := ho.full
    rw [h1, hp, sl_some, hn]
    have := ho2.store i z
    have h3 : GOwnV T (w.setCell ⟨g, i, none⟩ z) B (.slice (some ⟨g, 0, none⟩) ((ct j).set i z).length (c j)) ((ct j).set i z) := this.val
    rw [List.length_set] at h3
    exact h3
  · rw [h2 j e]
    refine (h j hj).store_other g i _ ?_
    rw [sl_block]
    rcases ha j k hj hk e with h3 | h3
    · rw [h3]; simp
    · rw [← hp]; exact h3
theorem AllOwn.drewN {T : TypeId} {w : World} {B K : Nat} {p : Nat → Option Nat} {n c : Nat → Nat} {ct : Nat → List Value} (h : AllOwn T w B K p n c ct) (m : Nat) : AllOwn T (w.drewN m) B K p n c ct := h
theorem AllOwn.drew {T : TypeId} {w : World} {B K : Nat} {p : Nat → Option Nat} {n c : Nat → Nat} {ct : Nat → List Value} (h : AllOwn T w B K p n c ct) : AllOwn T w.drew B K p n c ct := h

/-- the first m marks of list k -/
def mkL (mk : Nat → Nat → Value) (k m : Nat) : List Value := (List.range m).map (mk k)
theorem mkL_length (mk : Nat → Nat → Value) (k m : Nat) : (mkL mk k m).length = m := by simp [mkL]
theorem mkL_succ (mk : Nat → Nat → Value) (k m : Nat) : mkL mk k (m + 1) = mkL mk k m ++ [mk k m] := by simp [mkL, List.range_succ]
theorem mkL_at (mk : Nat → Nat → Value) (k m i : Nat) (h : i < m) : (mkL mk k m)[i]? = some (mk k i) := by simp [mkL, h]

/-- list k, its first i places marked -/
def part (mk : Nat → Nat → Value) (xs : List Value) (k i : Nat) : List Value := mkL mk k i ++ xs.drop i
theorem part_zero (mk : Nat → Nat → Value) (xs : List Value) (k : Nat) : part mk xs k 0 = xs := by simp [part, mkL]
theorem part_end (mk : Nat → Nat → Value) (xs : List Value) (k n : Nat) (h : xs.length = n) : part mk xs k n = mkL mk k n := by simp [part, h]
theorem part_length (mk : Nat → Nat → Value) (xs : List Value) (k i n : Nat) (h : xs.length = n) (hi : i ≤ n) : (part mk xs k i).length = n := by simp [part, mkL_length, h]; omega
theorem part_step (mk : Nat → Nat → Value) (xs : List Value) (k i n : Nat) (h : xs.length = n) (hi : i < n) : (part mk xs k i).set i (mk k i) = part mk xs k (i + 1) := by
  unfold part
  have hl : (mkL mk k i).length = i := mkL_length mk k i
  rw [List.set_append_right _ _ (by omega), hl, Nat.sub_self, mkL_succ, List.append_assoc, List.drop_eq_getElem_cons (by omega : i < xs.length)]
  rfl

/-- what the lists hold in the first loop: those before k are marked, k up to i -/
def ctAt (mk : Nat → Nat → Value) (xs : Nat → List Value) (n : Nat → Nat) (k i j : Nat) : List Value := if j < k then mkL mk j (n j) else if j = k then part mk (xs j) j i else xs j
theorem ctAt_zero (mk : Nat → Nat → Value) (xs : Nat → List Value) (n : Nat → Nat) (k j : Nat) : ctAt mk xs n k 0 j = if j < k then mkL mk j (n j) else xs j := by
  unfold ctAt
  by_cases h : j < k
  · rw [if_pos h, if_pos h]
  · rw [if_neg h, if_neg h]
    split
    · exact part_zero ..
    · rfl
theorem ctAt_next (mk : Nat → Nat → Value) (xs : Nat → List Value) (n : Nat → Nat) (k j : Nat) (h : (xs k).length = n k) : ctAt mk xs n k (n k) j = ctAt mk xs n (k + 1) 0 j := by
  rw [ctAt_zero]
  unfold ctAt
  by_cases h1 : j < k
  · rw [if_pos h1, if_pos (by omega)]
  · rw [if_neg h1]
    by_cases h2 : j = k
    · subst h2
      rw [if_pos rfl, if_pos (by omega), part_end _ _ _ _ h]
    · rw [if_neg h2, if_neg (by omega)]

end Go.Proofs.Ytnmcdkhfjkpklaa
