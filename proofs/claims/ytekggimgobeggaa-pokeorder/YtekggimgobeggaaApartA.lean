/- Lists of bytes that lie apart: what stores and appends leave as it was. Plain facts on worlds. -/
import Derived.Test.YtekggimgobeggaaLent
import Derived.Deep.RegionHeld3
namespace Go.Proofs.Ytekggimgobeggaa
open Go.RowKit

theorem Try.info54 : (Try.prog.info? 54).map (fun i => (i.zero, i.size, i.bytes)) = some (some (.slice none 0 0), 1, 24) := by kernel_rfl

/-- all old blocks but those of G are as they were -/
structure Keeps (G : Nat → Prop) (w w' : World) : Prop where
  os : w'.os = w.os
  tape : w'.tape = w.tape
  output : w'.output = w.output
  size : w.heap.size ≤ w'.heap.size
  block : ∀ j, j < w.heap.size → ¬ G j → w'.heap[j]? = w.heap[j]?

theorem Keeps.refl (G : Nat → Prop) (w : World) : Keeps G w w := ⟨rfl, rfl, rfl, Nat.le_refl _, fun _ _ _ => rfl⟩
theorem Keeps.drewN {G : Nat → Prop} {a w : World} (h : Keeps G a w) (n : Nat) : Keeps G a (w.drewN n) := ⟨h.os, h.tape, h.output, h.size, h.block⟩
theorem Keeps.drew {G : Nat → Prop} {a w : World} (h : Keeps G a w) : Keeps G a w.drew := ⟨h.os, h.tape, h.output, h.size, h.block⟩
theorem Keeps.grown {G : Nat → Prop} {a w w' : World} {row : Option Nat} (h : Keeps G a w) (hg : w.grownBy w' row) (hr : ∀ k, row = some k → G k ∨ a.heap.size ≤ k) : Keeps G a w' :=
  ⟨hg.os.trans h.os, hg.tape.trans h.tape, hg.output.trans h.output, Nat.le_trans h.size hg.size, fun j hj hn => by
    rw [hg.block j (Nat.lt_of_lt_of_le hj h.size) (fun e => by
      rcases hr j e.symm with h1 | h1
      · exact hn h1
      · omega), h.block j hj hn]⟩
theorem Keeps.alloc {G : Nat → Prop} {a w : World} (h : Keeps G a w) (o : Obj) : Keeps G a (w.alloc o) := h.grown (World.grownBy_alloc w o none) (fun _ e => by cases e)
theorem Keeps.setCell {G : Nat → Prop} {a w : World} (h : Keeps G a w) (b i : Nat) (v : Value) (hb : G b ∨ a.heap.size ≤ b) : Keeps G a (w.setCell ⟨b, i, none⟩ v) :=
  ⟨h.os, h.tape, h.output, by rw [World.size_setCell]; exact h.size, fun j hj hn => by
    rw [heap_setCell_other w ⟨b, i, none⟩ j v (fun e => by
      simp only at e
      subst e
      rcases hb with h1 | h1
      · exact hn h1
      · omega), h.block j hj hn]⟩
theorem Keeps.below {G : Nat → Prop} {B : Nat} {w w' : World} (h : Keeps G w w') (hB : B ≤ w.heap.size) (hG : ∀ j, G j → B ≤ j) : Below B w w' :=
  ⟨h.os, h.tape, h.output, h.size, fun k hk => h.block k (by omega) fun hg => by have := hG k hg; omega⟩

theorem Own.kept {w w' : World} {B g cap : Nat} {xs : List Int} {row : Option Nat} (h : Own w B g cap xs) (hg : w.grownBy w' row) (hne : some g ≠ row) : Own w' B g cap xs := by
  obtain ⟨cur, h1, h2, h3, h4, h5, h6⟩ := h.parts
  exact Own.mk h1 (by rw [hg.block g h.lt hne]; exact h2) h3 h4 h5 h6
theorem Own.store_other {w : World} {B g cap : Nat} {xs : List Int} (h : Own w B g cap xs) (b i : Nat) (v : Value) (hne : g ≠ b) : Own (w.setCell ⟨b, i, none⟩ v) B g cap xs := by
  obtain ⟨cur, h1, h2, h3, h4, h5, h6⟩ := h.parts
  exact Own.mk h1 (by rw [heap_setCell_other w ⟨b, i, none⟩ g v hne]; exact h2) h3 h4 h5 h6
theorem Own.caps {w : World} {B B' g cap cap' : Nat} {xs ys : List Int} (h : Own w B g cap xs) (h' : Own w B' g cap' ys) : cap = cap' := by
  obtain ⟨cur, _, h2, _, _, h5, _⟩ := h.parts
  obtain ⟨cur', _, h2', _, _, h5', _⟩ := h'.parts
  rw [h2] at h2'
  cases h2'
  omega

/-- a table of K values (slices of bytes) in a block of its own -/
def TabOf (w : World) (L K : Nat) (f : Nat → Value) : Prop := w.heap[L]? = some (.cells ((List.range K).map f).toArray 54 (0, 0))
theorem TabOf.cell {w : World} {L K : Nat} {f : Nat → Value} (h : TabOf w L K f) (k : Nat) (hk : k < K) : w.cell? ⟨L, k, none⟩ = some (f k) := by
  rw [cell_of_row w L k _ 54 (0, 0) h]
  simp [hk]
theorem TabOf.free {w : World} {L K : Nat} {f : Nat → Value} (h : TabOf w L K f) (k : Nat) : w.frozen? ⟨L, k, none⟩ = false := frozen_of_row w L k _ 54 h
theorem TabOf.lt {w : World} {L K : Nat} {f : Nat → Value} (h : TabOf w L K f) : L < w.heap.size := by
  rcases Nat.lt_or_ge L w.heap.size with h' | h'
  · exact h'
  · unfold TabOf at h; rw [Array.getElem?_eq_none h'] at h; cases h
theorem TabOf.ne {w : World} {L K : Nat} {f : Nat → Value} (h : TabOf w L K f) {B g cap : Nat} {xs : List Int} (ho : Own w B g cap xs) : L ≠ g := fun e => by
  obtain ⟨cur, _, h2, _⟩ := ho.parts
  subst e
  unfold TabOf at h
  rw [h2] at h
  simp at h
theorem TabOf.kept {w w' : World} {L K : Nat} {f : Nat → Value} {row : Option Nat} (h : TabOf w L K f) (hg : w.grownBy w' row) (hne : some L ≠ row) : TabOf w' L K f := by
  unfold TabOf; rw [hg.block L h.lt hne]; exact h
theorem TabOf.alloc {w : World} {L K : Nat} {f : Nat → Value} (h : TabOf w L K f) (o : Obj) : TabOf (w.alloc o) L K f := h.kept (World.grownBy_alloc w o none) (by simp)
theorem TabOf.drewN {w : World} {L K : Nat} {f : Nat → Value} (h : TabOf w L K f) (n : Nat) : TabOf (w.drewN n) L K f := h
theorem TabOf.drew {w : World} {L K : Nat} {f : Nat → Value} (h : TabOf w L K f) : TabOf w.drew L K f := h
theorem TabOf.store_other {w : World} {L K : Nat} {f : Nat → Value} (h : TabOf w L K f) (b i : Nat) (v : Value) (hne : L ≠ b) : TabOf (w.setCell ⟨b, i, none⟩ v) L K f := by
  unfold TabOf; rw [heap_setCell_other w ⟨b, i, none⟩ L v hne]; exact h
theorem TabOf.store {w : World} {L K : Nat} {f : Nat → Value} (h : TabOf w L K f) (k : Nat) (v : Value) : TabOf (w.setCell ⟨L, k, none⟩ v) L K (fun i => if i = k then v else f i) := by
  unfold TabOf
  rw [heap_setCell_same w L k _ 54 v h]
  congr 2
  apply Array.ext'
  rw [Array.toList_setIfInBounds]
  apply List.ext_getElem?
  intro j
  simp only [List.getElem?_set, List.length_map, List.length_range, List.getElem?_map]
  by_cases e : k = j
  · subst e
    by_cases hk : k < K <;> simp [hk]
  · by_cases hj : j < K <;> simp [e, hj, Ne.symm e]
theorem TabOf.made {w : World} {B g n : Nat} (h : w.ownsRow B 54 1 (.slice (some ⟨g, 0, none⟩) n n) n (madeCells (Value.slice none 0 0).cells (n * 1)).toList) : TabOf w g n (fun _ => .slice none 0 0) := by
  rcases h.2 with ⟨h', _⟩ | ⟨g', cap', cur, h', h1, h2, h3, h4, h5, h6⟩
  · simp at h'
  · simp only [Value.slice.injEq, Option.some.injEq, Addr.mk.injEq, and_true, true_and] at h'
    obtain ⟨rfl, rfl⟩ := h'
    unfold TabOf
    rw [h2]
    congr 2
    apply Array.ext'
    rw [List.take_of_length_le (by rw [Array.length_toList, h5]; exact Nat.le_refl _)] at h6
    rw [h6, show (Value.slice none 0 0).cells = #[Value.slice none 0 0] from rfl, toList_madeCells_one]
    apply List.ext_getElem?
    intro j
    by_cases hj : j < n <;> simp [hj]

/-- lists apart: each in a block of its own -/
def AllOwn (w : World) (B K : Nat) (g c : Nat → Nat) (ct : Nat → List Int) : Prop := ∀ j, j < K → Own w B (g j) (c j) (ct j)
def Apart (K : Nat) (g : Nat → Nat) : Prop := ∀ i j, i < K → j < K → i ≠ j → g i ≠ g j
theorem AllOwn.kept {w w' : World} {B K : Nat} {g c : Nat → Nat} {ct : Nat → List Int} {row : Option Nat} (h : AllOwn w B K g c ct) (hg : w.grownBy w' row) (hne : ∀ j, j < K → some (g j) ≠ row) : AllOwn w' B K g c ct :=
  fun j hj => (h j hj).kept hg (hne j hj)
theorem AllOwn.store_other {w : World} {B K : Nat} {g c : Nat → Nat} {ct : Nat → List Int} (h : AllOwn w B K g c ct) (b i : Nat) (v : Value) (hne : ∀ j, j < K → g j ≠ b) : AllOwn (w.setCell ⟨b, i, none⟩ v) B K g c ct :=
  fun j hj => (h j hj).store_other b i v (hne j hj)
theorem AllOwn.store {w : World} {B K : Nat} {g c : Nat → Nat} {ct ct' : Nat → List Int} (h : AllOwn w B K g c ct) (ha : Apart K g) (k i : Nat) (hk : k < K) (z : Int) (h1 : ct' k = (ct k).set i z) (h2 : ∀ j, j ≠ k → ct' j = ct j) : AllOwn (w.setCell ⟨g k, i, none⟩ (.int .u8 z)) B K g c ct' := fun j hj => by
  by_cases e : j = k
  · subst e; rw [h1]; exact (h j hj).store i z
  · rw [h2 j e]; exact (h j hj).store_other (g k) i _ (ha j k hj hk e)
theorem AllOwn.drewN {w : World} {B K : Nat} {g c : Nat → Nat} {ct : Nat → List Int} (h : AllOwn w B K g c ct) (n : Nat) : AllOwn (w.drewN n) B K g c ct := h
theorem AllOwn.drew {w : World} {B K : Nat} {g c : Nat → Nat} {ct : Nat → List Int} (h : AllOwn w B K g c ct) : AllOwn w.drew B K g c ct := h

end Go.Proofs.Ytekggimgobeggaa
