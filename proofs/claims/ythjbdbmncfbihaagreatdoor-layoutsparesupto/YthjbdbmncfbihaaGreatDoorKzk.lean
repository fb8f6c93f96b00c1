/- Texts put together: GApart, GApartS, ApartI, ApartII. -/
import Derived.Test.YthjbdbmncfbihaaGreatDoorKa
import Derived.Deep.RegionHeld3
import Derived.Deep.QuietTactic
import Derived.BigQuiet

/- Lists of one-cell elements (or nil) that lie apart: what stores and appends leave as it was. Plain facts on worlds, for every element type T, slice type e and every mark. -/
namespace Go.Proofs.YthjbdbmncfbihaaGreatDoor
open Go.RowKit

/-- all old blocks but those of G are as they were -/
structure Keeps (G : Nat → Prop) (w w' : World) : Prop where
  os : w'.os = w.os
  tape : w'.tape = w.tape
  output : w'.output = w.output
  size : w.heap.size ≤ w'.heap.size
  block : ∀ j, j < w.heap.size → ¬ G j → w'.heap[j]? = w.heap[j]?

theorem Keeps.refl (G : Nat → Prop) (w : World) : Keeps G w w := ⟨rfl, rfl, rfl, Nat.le_refl _, fun _ _ _ => rfl⟩
theorem Keeps.drewN {G : Nat → Prop} {a w : World} (h : Keeps G a w) (n : Nat) : Keeps G a (w.drewN n) := ⟨h.os, h.tape, h.output, h.size, h.block⟩
theorem Keeps.drew {G : Nat → Prop} {a w : World} (h : Keeps G a w) : Keeps G a w.drew := ⟨h.os, h.tape, h.output, h.size, h.block⟩
theorem Keeps.grown {G : Nat → Prop} {a w w' : World} {row : Option Nat} (h : Keeps G a w) (hg : w.grownBy w' row) (hr : ∀ k, row = some k → G k ∨ a.heap.size ≤ k) : Keeps G a w' :=
  ⟨hg.os.trans h.os, hg.tape.trans h.tape, hg.output.trans h.output, Nat.le_trans h.size hg.size, fun j hj hn => by
    rw [hg.block j (Nat.lt_of_lt_of_le hj h.size) (fun e => by
      rcases hr j e.symm with h1 | h1
      · exact hn h1
      · omega), h.block j hj hn]⟩
theorem Keeps.setCell {G : Nat → Prop} {a w : World} (h : Keeps G a w) (b i : Nat) (v : Value) (hb : G b ∨ a.heap.size ≤ b) : Keeps G a (w.setCell ⟨b, i, none⟩ v) :=
  ⟨h.os, h.tape, h.output, by rw [World.size_setCell]; exact h.size, fun j hj hn => by
    rw [heap_setCell_other w ⟨b, i, none⟩ j v (fun e => by
      simp only at e
      subst e
      rcases hb with h1 | h1
      · exact hn h1
      · omega), h.block j hj hn]⟩
theorem Keeps.below {G : Nat → Prop} {B : Nat} {w w' : World} (h : Keeps G w w') (hB : B ≤ w.heap.size) (hG : ∀ j, G j → B ≤ j) : Below B w w' :=
  ⟨h.os, h.tape, h.output, h.size, fun k hk => h.block k (by omega) fun hg => by have := hG k hg; omega⟩

/-- a world that has grown by new blocks alone -/
theorem grown_of_below {w w' : World} (h : Below w.heap.size w w') : w.grownBy w' none := ⟨h.os, h.tape, h.output, h.size, fun k hk _ => h.block k hk⟩

/-- the slice that begins at a block's first cell, or nil -/
def sl (p : Option Nat) (n c : Nat) : Value := .slice (p.map fun b => ⟨b, 0, none⟩) n c
theorem sl_block (p : Option Nat) (n c : Nat) : (sl p n c).ownBlock = p := by cases p <;> rfl
theorem sl_none (n c : Nat) : sl none n c = .slice none n c := rfl
theorem sl_some (g n c : Nat) : sl (some g) n c = .slice (some ⟨g, 0, none⟩) n c := rfl

theorem GOwnV.kept {T : TypeId} {w w' : World} {B : Nat} {v : Value} {vs : List Value} {row : Option Nat} (h : GOwnV T w B v vs) (hg : w.grownBy w' row) (hne : v.ownBlock = none ∨ v.ownBlock ≠ row) : GOwnV T w' B v vs := World.ownsRow.kept h hg hne
theorem GOwnV.store_other {T : TypeId} {w : World} {B : Nat} {v : Value} {vs : List Value} (h : GOwnV T w B v vs) (b i : Nat) (u : Value) (hne : v.ownBlock ≠ some b) : GOwnV T (w.setCell ⟨b, i, none⟩ u) B v vs :=
  h.kept (row := some b) ⟨rfl, rfl, rfl, by simp, fun k _ hk => heap_setCell_other w ⟨b, i, none⟩ k u (fun e => hk (by simp [e]))⟩ (.inr hne)
theorem GOwnV.filled {T : TypeId} {w : World} {B : Nat} {p : Option Nat} {n c : Nat} {vs : List Value} (h : GOwnV T w B (sl p n c) vs) (h0 : 0 < vs.length) : ∃ g, p = some g ∧ n = vs.length ∧ GOwn T w B g c vs := by
  rcases h.shape with ⟨_, e⟩ | ⟨g, cap, e, ho⟩
  · rw [e] at h0; exact absurd h0 (Nat.lt_irrefl 0)
  · cases p with
    | none => simp [sl] at e
    | some b =>
      simp [sl] at e
      obtain ⟨rfl, rfl, rfl⟩ := e
      exact ⟨b, rfl, rfl, ho⟩
theorem GOwnV.full {T : TypeId} {w : World} {B g n c : Nat} {vs : List Value} (h : GOwnV T w B (sl (some g) n c) vs) : n = vs.length ∧ GOwn T w B g c vs := by
  rcases h.shape with ⟨e, _⟩ | ⟨g', cap, e, ho⟩
  · simp [sl] at e
  · simp [sl] at e
    obtain ⟨rfl, rfl, rfl⟩ := e
    exact ⟨rfl, ho⟩
theorem GOwn.caps {T T' : TypeId} {w : World} {B B' g cap cap' : Nat} {xs ys : List Value} (h : GOwn T w B g cap xs) (h' : GOwn T' w B' g cap' ys) : cap = cap' := by
  obtain ⟨cur, _, h2, _, _, h5, _⟩ := h.parts
  obtain ⟨cur', _, h2', _, _, h5', _⟩ := h'.parts
  rw [h2] at h2'
  cases h2'
  omega
theorem GOwn.front {T : TypeId} {w : World} {B g cap : Nat} {xs ys : List Value} (h : GOwn T w B g cap (xs ++ ys)) : GOwn T w B g cap xs := by
  obtain ⟨cur, h1, h2, h3, h4, h5, h6⟩ := h.parts
  rw [List.length_append] at h3
  refine GOwn.mk h1 h2 (by omega) h4 h5 ?_
  have e : cur.toList.take xs.length = (cur.toList.take (xs ++ ys).length).take xs.length := by
    rw [List.take_take, List.length_append, Nat.min_eq_left (by omega)]
  rw [e, h6]
  simp

/-- a table of K slices (of the type e) in a block of its own -/
def TabOf (e : TypeId) (w : World) (L K : Nat) (f : Nat → Value) : Prop := w.heap[L]? = some (.cells ((List.range K).map f).toArray e (0, 0))
theorem TabOf.cell {e : TypeId} {w : World} {L K : Nat} {f : Nat → Value} (h : TabOf e w L K f) (k : Nat) (hk : k < K) : w.cell? ⟨L, k, none⟩ = some (f k) := by
  rw [cell_of_row w L k _ e (0, 0) h]
  simp [hk]
theorem TabOf.free {e : TypeId} {w : World} {L K : Nat} {f : Nat → Value} (h : TabOf e w L K f) (k : Nat) : w.frozen? ⟨L, k, none⟩ = false := frozen_of_row w L k _ e h
theorem TabOf.lt {e : TypeId} {w : World} {L K : Nat} {f : Nat → Value} (h : TabOf e w L K f) : L < w.heap.size := by
  rcases Nat.lt_or_ge L w.heap.size with h' | h'
  · exact h'
  · unfold TabOf at h; rw [Array.getElem?_eq_none h'] at h; cases h
theorem TabOf.ne {e T : TypeId} (hT : T ≠ e) {w : World} {L K : Nat} {f : Nat → Value} (h : TabOf e w L K f) {B n c : Nat} {p : Option Nat} {vs : List Value} (ho : GOwnV T w B (sl p n c) vs) : p ≠ some L := fun he => by
  subst he
  obtain ⟨cur, _, h2, _⟩ := ho.full.2.parts
  unfold TabOf at h
  rw [h2] at h
  injection h with h
  injection h with _ h
  exact hT h
theorem TabOf.kept {e : TypeId} {w w' : World} {L K : Nat} {f : Nat → Value} {row : Option Nat} (h : TabOf e w L K f) (hg : w.grownBy w' row) (hne : some L ≠ row) : TabOf e w' L K f := by
  unfold TabOf; rw [hg.block L h.lt hne]; exact h
theorem TabOf.drewN {e : TypeId} {w : World} {L K : Nat} {f : Nat → Value} (h : TabOf e w L K f) (n : Nat) : TabOf e (w.drewN n) L K f := h
theorem TabOf.drew {e : TypeId} {w : World} {L K : Nat} {f : Nat → Value} (h : TabOf e w L K f) : TabOf e w.drew L K f := h
theorem TabOf.store_other {e : TypeId} {w : World} {L K : Nat} {f : Nat → Value} (h : TabOf e w L K f) (b i : Nat) (v : Value) (hne : L ≠ b) : TabOf e (w.setCell ⟨b, i, none⟩ v) L K f := by
  unfold TabOf; rw [heap_setCell_other w ⟨b, i, none⟩ L v hne]; exact h
theorem TabOf.store {e : TypeId} {w : World} {L K : Nat} {f : Nat → Value} (h : TabOf e w L K f) (k : Nat) (v : Value) : TabOf e (w.setCell ⟨L, k, none⟩ v) L K (fun i => if i = k then v else f i) := by
  unfold TabOf
  rw [heap_setCell_same w L k _ e v h]
  congr 2
  apply Array.ext'
  rw [Array.toList_setIfInBounds]
  apply List.ext_getElem?
  intro j
  simp only [List.getElem?_set, List.length_map, List.length_range, List.getElem?_map]
  by_cases e : k = j
  · subst e
    by_cases hk : k < K <;> simp [hk]
  · by_cases hj : j < K <;> simp [e, hj, Ne.symm e]
theorem TabOf.made {e : TypeId} {w : World} {B g n : Nat} (h : w.ownsRow B e 1 (.slice (some ⟨g, 0, none⟩) n n) n (madeCells (Value.slice none 0 0).cells (n * 1)).toList) : TabOf e w g n (fun _ => .slice none 0 0) := by
  rcases h.2 with ⟨h', _⟩ | ⟨g', cap', cur, h', h1, h2, h3, h4, h5, h6⟩
  · simp at h'
  · simp only [Value.slice.injEq, Option.some.injEq, Addr.mk.injEq, and_true, true_and] at h'
    obtain ⟨rfl, rfl⟩ := h'
    unfold TabOf
    rw [h2]
    congr 2
    apply Array.ext'
    rw [List.take_of_length_le (by rw [Array.length_toList, h5]; exact Nat.le_refl _)] at h6
    rw [h6, show (Value.slice none 0 0).cells = #[Value.slice none 0 0] from rfl, toList_madeCells_one]
    apply List.ext_getElem?
    intro j
    by_cases hj : j < n <;> simp [hj]

/-- lists apart: each in a block of its own, or nil -/
def AllOwn (T : TypeId) (w : World) (B K : Nat) (p : Nat → Option Nat) (n c : Nat → Nat) (ct : Nat → List Value) : Prop := ∀ j, j < K → GOwnV T w B (sl (p j) (n j) (c j)) (ct j)
def Apart (K : Nat) (p : Nat → Option Nat) : Prop := ∀ i j, i < K → j < K → i ≠ j → p i = none ∨ p i ≠ p j
theorem AllOwn.kept {T : TypeId} {w w' : World} {B K : Nat} {p : Nat → Option Nat} {n c : Nat → Nat} {ct : Nat → List Value} {row : Option Nat} (h : AllOwn T w B K p n c ct) (hg : w.grownBy w' row) (hne : ∀ j, j < K → p j = none ∨ p j ≠ row) : AllOwn T w' B K p n c ct :=
  fun j hj => (h j hj).kept hg (by rw [sl_block]; exact hne j hj)
theorem AllOwn.store_other {T : TypeId} {w : World} {B K : Nat} {p : Nat → Option Nat} {n c : Nat → Nat} {ct : Nat → List Value} (h : AllOwn T w B K p n c ct) (b i : Nat) (v : Value) (hne : ∀ j, j < K → p j ≠ some b) : AllOwn T (w.setCell ⟨b, i, none⟩ v) B K p n c ct :=
  fun j hj => (h j hj).store_other b i v (by rw [sl_block]; exact hne j hj)
theorem AllOwn.store {T : TypeId} {w : World} {B K : Nat} {p : Nat → Option Nat} {n c : Nat → Nat} {ct ct' : Nat → List Value} (h : AllOwn T w B K p n c ct) (ha : Apart K p) (k i g : Nat) (hk : k < K) (hp : p k = some g) (z : Value) (h1 : ct' k = (ct k).set i z) (h2 : ∀ j, j ≠ k → ct' j = ct j) : AllOwn T (w.setCell ⟨g, i, none⟩ z) B K p n c ct' := fun j hj => by
  by_cases e : j = k
  · subst e
    have ho := h j hj
    rw [hp] at ho
    obtain ⟨hn, ho2⟩ := ho.full
    rw [h1, hp, sl_some, hn]
    have := ho2.store i z
    have h3 : GOwnV T (w.setCell ⟨g, i, none⟩ z) B (.slice (some ⟨g, 0, none⟩) ((ct j).set i z).length (c j)) ((ct j).set i z) := this.val
    rw [List.length_set] at h3
    exact h3
  · rw [h2 j e]
    refine (h j hj).store_other g i _ ?_
    rw [sl_block]
    rcases ha j k hj hk e with h3 | h3
    · rw [h3]; simp
    · rw [← hp]; exact h3
theorem AllOwn.drewN {T : TypeId} {w : World} {B K : Nat} {p : Nat → Option Nat} {n c : Nat → Nat} {ct : Nat → List Value} (h : AllOwn T w B K p n c ct) (m : Nat) : AllOwn T (w.drewN m) B K p n c ct := h
theorem AllOwn.drew {T : TypeId} {w : World} {B K : Nat} {p : Nat → Option Nat} {n c : Nat → Nat} {ct : Nat → List Value} (h : AllOwn T w B K p n c ct) : AllOwn T w.drew B K p n c ct := h

/-- the first m marks of list k -/
def mkL (mk : Nat → Nat → Value) (k m : Nat) : List Value := (List.range m).map (mk k)
theorem mkL_length (mk : Nat → Nat → Value) (k m : Nat) : (mkL mk k m).length = m := by simp [mkL]
theorem mkL_succ (mk : Nat → Nat → Value) (k m : Nat) : mkL mk k (m + 1) = mkL mk k m ++ [mk k m] := by simp [mkL, List.range_succ]
theorem mkL_at (mk : Nat → Nat → Value) (k m i : Nat) (h : i < m) : (mkL mk k m)[i]? = some (mk k i) := by simp [mkL, h]

/-- list k, its first i places marked -/
def part (mk : Nat → Nat → Value) (xs : List Value) (k i : Nat) : List Value := mkL mk k i ++ xs.drop i
theorem part_zero (mk : Nat → Nat → Value) (xs : List Value) (k : Nat) : part mk xs k 0 = xs := by simp [part, mkL]
theorem part_end (mk : Nat → Nat → Value) (xs : List Value) (k n : Nat) (h : xs.length = n) : part mk xs k n = mkL mk k n := by simp [part, h]
theorem part_length (mk : Nat → Nat → Value) (xs : List Value) (k i n : Nat) (h : xs.length = n) (hi : i ≤ n) : (part mk xs k i).length = n := by simp [part, mkL_length, h]; omega
theorem part_step (mk : Nat → Nat → Value) (xs : List Value) (k i n : Nat) (h : xs.length = n) (hi : i < n) : (part mk xs k i).set i (mk k i) = part mk xs k (i + 1) := by
  unfold part
  have hl : (mkL mk k i).length = i := mkL_length mk k i
  rw [List.set_append_right _ _ (by omega), hl, Nat.sub_self, mkL_succ, List.append_assoc, List.drop_eq_getElem_cons (by omega : i < xs.length)]
  rfl

/-- what the lists hold in the first loop: those before k are marked, k up to i -/
def ctAt (mk : Nat → Nat → Value) (xs : Nat → List Value) (n : Nat → Nat) (k i j : Nat) : List Value := if j < k then mkL mk j (n j) else if j = k then part mk (xs j) j i else xs j
theorem ctAt_zero (mk : Nat → Nat → Value) (xs : Nat → List Value) (n : Nat → Nat) (k j : Nat) : ctAt mk xs n k 0 j = if j < k then mkL mk j (n j) else xs j := by
  unfold ctAt
  by_cases h : j < k
  · rw [if_pos h, if_pos h]
  · rw [if_neg h, if_neg h]
    split
    · exact part_zero ..
    · rfl
theorem ctAt_next (mk : Nat → Nat → Value) (xs : Nat → List Value) (n : Nat → Nat) (k j : Nat) (h : (xs k).length = n k) : ctAt mk xs n k (n k) j = ctAt mk xs n (k + 1) 0 j := by
  rw [ctAt_zero]
  unfold ctAt
  by_cases h1 : j < k
  · rw [if_pos h1, if_pos (by omega)]
  · rw [if_neg h1]
    by_cases h2 : j = k
    · subst h2
      rw [if_pos rfl, if_pos (by omega), part_end _ _ _ _ h]
    · rw [if_neg h2, if_neg (by omega)]

end Go.Proofs.YthjbdbmncfbihaaGreatDoor

/- The states of switchyardkit's Apart functions, over lists that may be nil. Plain facts on worlds. -/
namespace Go.Proofs.YthjbdbmncfbihaaGreatDoor
open Go.RowKit

abbrev GSet (K : Nat) (p : Nat → Option Nat) (b : Nat) : Prop := ∃ k, k < K ∧ p k = some b

/-- the first loop's state -/
structure St1 (T e : TypeId) (w : World) (K B L G : Nat) (p : Nat → Option Nat) (n c : Nat → Nat) (ct : Nat → List Value) (wr : World) : Prop where
  own : AllOwn T wr B K p n c ct
  tab : TabOf e wr L K (fun k => sl (p k) (n k) (c k))
  gs : TabOf e wr G K (fun _ => .slice none 0 0)
  keeps : Keeps (GSet K p) w wr

theorem St1.mark {T e : TypeId} {mk : Nat → Nat → Value} (hT : T ≠ e) {w wr : World} {K B L G : Nat} {p : Nat → Option Nat} {n c : Nat → Nat} {xs : Nat → List Value} {k i g : Nat} (h : St1 T e w K B L G p n c (fun j => ctAt mk xs n k i j) wr) (ha : Apart K p) (hk : k < K) (hp : p k = some g) (hx : (xs k).length = n k) (hi : i < n k) :
    St1 T e w K B L G p n c (fun j => ctAt mk xs n k (i + 1) j) (wr.setCell ⟨g, i, none⟩ (mk k i)) := by
  have ho := h.own k hk
  have n1 := h.tab.ne hT ho
  have n2 := h.gs.ne hT ho
  rw [hp] at n1 n2
  refine ⟨h.own.store ha k i g hk hp _ ?_ (fun j hj => ?_), h.tab.store_other _ _ _ (fun e => n1 (by rw [e])), h.gs.store_other _ _ _ (fun e => n2 (by rw [e])), h.keeps.setCell _ _ _ (.inl ⟨k, hk, hp⟩)⟩
  · simp only [ctAt, Nat.lt_irrefl, if_false, if_true]
    exact (part_step mk (xs k) k i (n k) hx hi).symm
  · simp [ctAt, hj]
theorem St1.drew {T e : TypeId} {w wr : World} {K B L G : Nat} {p : Nat → Option Nat} {n c : Nat → Nat} {ct : Nat → List Value} (h : St1 T e w K B L G p n c ct wr) : St1 T e w K B L G p n c ct wr.drew := ⟨h.own.drew, h.tab.drew, h.gs.drew, h.keeps.drew⟩
theorem St1.drewN {T e : TypeId} {w wr : World} {K B L G : Nat} {p : Nat → Option Nat} {n c : Nat → Nat} {ct : Nat → List Value} (h : St1 T e w K B L G p n c ct wr) (m : Nat) : St1 T e w K B L G p n c ct (wr.drewN m) := ⟨h.own.drewN m, h.tab.drewN m, h.gs.drewN m, h.keeps.drewN m⟩
theorem St1.grown {T e : TypeId} {w wr w1 : World} {K B L G : Nat} {p : Nat → Option Nat} {n c : Nat → Nat} {ct : Nat → List Value} (h : St1 T e w K B L G p n c ct wr) (hg : wr.grownBy w1 none) : St1 T e w K B L G p n c ct w1 :=
  ⟨h.own.kept hg (fun j _ => by cases p j <;> simp), h.tab.kept hg (by simp), h.gs.kept hg (by simp), h.keeps.grown hg (fun _ e => by cases e)⟩

/-- the second loop's state: the lists before k have grown -/
structure St2 (T e : TypeId) (mk : Nat → Nat → Value) (w : World) (K B L G : Nat) (p : Nat → Option Nat) (n c : Nat → Nat) (k : Nat) (ub uc : Nat → Nat) (wr : World) : Prop where
  own : AllOwn T wr B K p n c (fun j => mkL mk j (n j))
  tab : TabOf e wr L K (fun k => sl (p k) (n k) (c k))
  gs : TabOf e wr G K (fun i => if i < k then .slice (some ⟨ub i, 0, none⟩) (n i + 64) (uc i) else .slice none 0 0)
  us : ∀ i, i < k → GOwn T wr B (ub i) (uc i) (mkL mk i (n i + 64))
  sep : ∀ i, i < k → ∀ j, j < K → i ≠ j → p j ≠ some (ub i)
  keeps : Keeps (GSet K p) w wr

theorem St1.next {T e : TypeId} {mk : Nat → Nat → Value} {w wr : World} {K B L G : Nat} {p : Nat → Option Nat} {n c : Nat → Nat} {xs : Nat → List Value} (h : St1 T e w K B L G p n c (fun j => ctAt mk xs n K 0 j) wr) : St2 T e mk w K B L G p n c 0 (fun _ => 0) (fun _ => 0) wr :=
  ⟨fun j hj => by have := h.own j hj; simpa only [ctAt_zero, if_pos hj] using this, h.tab, by simpa using h.gs, fun i hi => absurd hi (Nat.not_lt_zero i), fun i hi => absurd hi (Nat.not_lt_zero i), h.keeps⟩

/-- .. and while list k grows: it stands in block q (or is nil still), with j marks more -/
structure St2i (T e : TypeId) (mk : Nat → Nat → Value) (w : World) (K B L G : Nat) (p : Nat → Option Nat) (n c : Nat → Nat) (k : Nat) (ub uc : Nat → Nat) (q : Option Nat) (gc j : Nat) (wr : World) : Prop where
  st : St2 T e mk w K B L G p n c k ub uc wr
  cur : GOwnV T wr B (sl q (n k + j) gc) (mkL mk k (n k + j))
  sepg : ∀ i, i < K → i ≠ k → q = none ∨ q ≠ p i
  sepu : ∀ i, i < k → q ≠ some (ub i)
  same : q = p k ∨ ∃ b, q = some b ∧ w.heap.size ≤ b

theorem St2.start {T e : TypeId} {mk : Nat → Nat → Value} {w wr : World} {K B L G : Nat} {p : Nat → Option Nat} {n c : Nat → Nat} {k : Nat} {ub uc : Nat → Nat} (h : St2 T e mk w K B L G p n c k ub uc wr) (ha : Apart K p) (hk : k < K) : St2i T e mk w K B L G p n c k ub uc (p k) (c k) 0 wr :=
  ⟨h, h.own k hk, fun i hi hne => ha k i hk hi (Ne.symm hne), fun i hi => h.sep i hi k hk (by omega), .inl rfl⟩

theorem St2i.grown {T e : TypeId} {mk : Nat → Nat → Value} {w wr w1 : World} {K B L G : Nat} {p : Nat → Option Nat} {n c : Nat → Nat} {k : Nat} {ub uc : Nat → Nat} {q : Option Nat} {gc j : Nat} (h : St2i T e mk w K B L G p n c k ub uc q gc j wr) (hg : wr.grownBy w1 none) : St2i T e mk w K B L G p n c k ub uc q gc j w1 :=
  ⟨⟨h.st.own.kept hg (fun j _ => by cases p j <;> simp), h.st.tab.kept hg (by simp), h.st.gs.kept hg (by simp), fun i hi => GOwnV.kept (h.st.us i hi).val hg (.inr (by simp [Value.ownBlock])), h.st.sep, h.st.keeps.grown hg (fun _ e => by cases e)⟩,
    h.cur.kept hg (by rw [sl_block]; cases q <;> simp), h.sepg, h.sepu, h.same⟩

theorem St2i.grows {T e : TypeId} {mk : Nat → Nat → Value} {w wr w1 : World} {K B L G : Nat} {p : Nat → Option Nat} {n c : Nat → Nat} {k : Nat} {ub uc : Nat → Nat} {q : Option Nat} {gc j gb' gc' B' : Nat} (h : St2i T e mk w K B L G p n c k ub uc q gc j wr) (hBw : B ≤ wr.heap.size) (hg : wr.grownBy w1 none) (hB : wr.heap.size ≤ B') (ho : GOwn T w1 B' gb' gc' (mkL mk k (n k + j) ++ [mk k (n k + j)])) :
    St2i T e mk w K B L G p n c k ub uc (some gb') gc' (j + 1) w1 := by
  have hb := ho.base
  have h1 := h.grown hg
  refine ⟨h1.st, ?_, fun i hi _ => .inr fun e => ?_, fun i hi e => ?_, .inr ⟨gb', rfl, Nat.le_trans h.st.keeps.size (by omega)⟩⟩
  · have h2 := (ho.lower (B' := B) (by omega)).val
    rw [show n k + (j + 1) = n k + j + 1 by omega, sl_some, mkL_succ]
    rw [List.length_append, mkL_length] at h2
    exact h2
  · have ho2 := h.st.own i hi
    rw [← e] at ho2
    have := ho2.full.2.lt
    omega
  · have := (h.st.us i hi).lt
    injection e with e
    omega

theorem St2i.fits {T e : TypeId} {mk : Nat → Nat → Value} (hT : T ≠ e) {w wr w1 : World} {K B L G : Nat} {p : Nat → Option Nat} {n c : Nat → Nat} {k : Nat} {ub uc : Nat → Nat} {gb gc j : Nat} (h : St2i T e mk w K B L G p n c k ub uc (some gb) gc j wr) (hk : k < K) (hg : wr.grownBy w1 (some gb)) (ho : GOwn T w1 B gb gc (mkL mk k (n k + j) ++ [mk k (n k + j)])) :
    St2i T e mk w K B L G p n c k ub uc (some gb) gc (j + 1) w1 := by
  have n1 := h.st.tab.ne hT h.cur
  have n2 := h.st.gs.ne hT h.cur
  refine ⟨⟨fun i hi => ?_, h.st.tab.kept hg (Ne.symm n1), h.st.gs.kept hg (Ne.symm n2), fun i hi => GOwnV.kept (h.st.us i hi).val hg (.inr (Ne.symm (h.sepu i hi))), h.st.sep, h.st.keeps.grown hg (fun b e => ?_)⟩, ?_, h.sepg, h.sepu, h.same⟩
  · by_cases e : i = k
    · subst e
      by_cases eb : p i = some gb
      · have hi0 := h.st.own i hi
        rw [eb] at hi0
        obtain ⟨hn, hi1⟩ := hi0.full
        have hc := hi1.caps h.cur.full.2
        have hf := ho.front
        have hsp : mkL mk i (n i + j) = mkL mk i (n i) ++ (mkL mk i (n i + j)).drop (n i) := by
          have ht : (mkL mk i (n i + j)).take (n i) = mkL mk i (n i) := by
            simp [mkL, ← List.map_take, List.take_range]
          rw [← ht, List.take_append_drop]
        rw [hsp] at hf
        have hf2 := hf.front.val
        rw [mkL_length] at hf2
        rw [hc, eb]
        exact hf2
      · exact (h.st.own i hi).kept hg (.inr (by rw [sl_block]; exact eb))
    · refine (h.st.own i hi).kept hg ?_
      rw [sl_block]
      rcases h.sepg i hi e with h3 | h3
      · cases h3
      · exact .inr (Ne.symm h3)
  · cases e
    rcases h.same with e | ⟨b, e, hb⟩
    · exact .inl ⟨k, hk, e.symm⟩
    · injection e with e
      subst e
      exact .inr hb
  · have h2 := ho.val
    rw [show n k + (j + 1) = n k + j + 1 by omega, sl_some, mkL_succ]
    rw [List.length_append, mkL_length] at h2
    exact h2

theorem St2i.done {T e : TypeId} {mk : Nat → Nat → Value} (hT : T ≠ e) {w wr : World} {K B L G : Nat} {p : Nat → Option Nat} {n c : Nat → Nat} {k : Nat} {ub uc : Nat → Nat} {gb gc : Nat} (h : St2i T e mk w K B L G p n c k ub uc (some gb) gc 64 wr) (hG : w.heap.size ≤ G) (hL : L < w.heap.size) :
    St2 T e mk w K B L G p n c (k + 1) (fun i => if i = k then gb else ub i) (fun i => if i = k then gc else uc i) (wr.setCell ⟨G, k, none⟩ (.slice (some ⟨gb, 0, none⟩) (n k + 64) gc)) := by
  refine ⟨h.st.own.store_other _ _ _ (fun j hj => h.st.gs.ne hT (h.st.own j hj)), ?_, ?_, fun i hi => ?_, fun i hi j hj hne => ?_, h.st.keeps.setCell _ _ _ (.inr hG)⟩
  · exact h.st.tab.store_other _ _ _ (by omega)
  · have := h.st.gs.store k (.slice (some ⟨gb, 0, none⟩) (n k + 64) gc)
    have e : (fun i => if i = k then Value.slice (some ⟨gb, 0, none⟩) (n k + 64) gc else if i < k then Value.slice (some ⟨ub i, 0, none⟩) (n i + 64) (uc i) else .slice none 0 0) = fun i => if i < k + 1 then Value.slice (some ⟨if i = k then gb else ub i, 0, none⟩) (n i + 64) (if i = k then gc else uc i) else .slice none 0 0 := by
      funext i
      by_cases e : i = k
      · subst e; simp
      · by_cases hi : i < k
        · simp [e, hi, show i < k + 1 by omega]
        · simp [e, hi, show ¬ i < k + 1 by omega]
    rw [e] at this
    exact this
  · by_cases e : i = k
    · subst e
      simp only [if_true]
      have h2 := h.cur.store_other G i (.slice (some ⟨gb, 0, none⟩) (n i + 64) gc) (by rw [sl_block]; exact h.st.gs.ne hT h.cur)
      exact h2.full.2
    · simp only [e, if_false]
      have hu : GOwnV T wr B (sl (some (ub i)) (n i + 64) (uc i)) (mkL mk i (n i + 64)) := by
        have := (h.st.us i (by omega)).val
        rw [mkL_length] at this
        exact this
      exact (hu.store_other G k _ (by rw [sl_block]; exact h.st.gs.ne hT hu)).full.2
  · by_cases e : i = k
    · subst e
      simp only [if_true]
      rcases h.sepg j hj (Ne.symm hne) with h3 | h3
      · cases h3
      · exact Ne.symm h3
    · simp only [e, if_false]
      exact h.st.sep i (by omega) j hj hne
end Go.Proofs.YthjbdbmncfbihaaGreatDoor

/- What switchyardkit.mark and ApartInts answer, for lists that lie apart (or are nil). -/
namespace Go.Proofs.YthjbdbmncfbihaaGreatDoor
open Go.RowKit

/-- the mark of place i in list k -/
def mi (k i : Nat) : Int := 1000003 * ((k : Int) + 7) + (i : Int)
def miV (k i : Nat) : Value := .int .i64 (mi k i)
theorem Tryz.info36 : (Tryz.prog.info? 36).map (fun i => (i.zero, i.size, i.bytes)) = some (some (.slice none 0 0), 1, 24) := by kernel_rfl

set_option maxHeartbeats 400000 in
theorem mark_any (k i : Nat) (w : World) (hk : k ≤ 1000) (hi : i ≤ 281474976710656) :
    Calls Tryz.prog 37 #[.int .i64 k, .int .i64 i] w fun e w' => e = .returned (.int .i64 (mi k i)) ∧ w' = w := by
  go_enter Tryz.func37, Tryz.ntmps37
  go_wp2
  go_ret
  exact ⟨rfl, rfl⟩

theorem news_one (w : World) (z : Value) (T : TypeId) : ∀ j u, [z][j]? = some u → (w.alloc (.cells #[z] T)).cell? ((⟨w.heap.size, 0, none⟩ : Addr).add j) = some u := cell_one_new _ _ _

/-- 'append(g, z)' within the room -/
theorem gfits {ops : Array Oper} {rest : List Oper} {o : Oper} {a : Act} {Q : Exit → Act → World → Prop} {t T : TypeId} {by_ : Nat} (he : Elem t T by_) (w : World) (hgd : o.guard = none) (s x : Operand)
    (ho : o.op = .call { callee := .builtin .append, args := #[s, x], argTypes := #[t, t] }) (B g k cap : Nat) (xs : List Value) (hs : a.eval s = .slice (some ⟨g, 0, none⟩) k cap) (hk : xs.length = k) (hown : GOwn T w B g cap xs)
    (ad : Addr) (m : Nat) (z : Value) (hz1 : z.oneCell' = true) (hx : a.eval x = .slice (some ad) 1 m) (hnews : ∀ j u, [z][j]? = some u → w.cell? (ad.add j) = some u) (hroom : k + 1 ≤ cap)
    (h : ∀ w', GOwn T w' B g cap (xs ++ [z]) → w.grownBy w' (some g) → wpList Tryz.prog ops Q rest (a.put o.dst (.slice (some ⟨g, 0, none⟩) (k + 1) cap)) w') :
    wpList Tryz.prog ops Q (o :: rest) a w := by
  obtain ⟨hu, z0, hzc, hinfo⟩ := he
  obtain ⟨i0, hi, hz0, hz2, hz3⟩ := info_parts hinfo
  subst hk
  refine wpList_append_fits w hgd s x t ho B T i0 1 hu hi hz2 g xs.length cap xs hs hown ad 1 m [z] hx rfl hnews (fun u hu => ?_) hroom fun w' h1 h2 => h w' ?_ h2
  · rw [List.mem_singleton] at hu
    subst hu
    exact hz1
  · unfold GOwn
    rw [List.length_append]
    exact h1

/-- 'append(g, z)' without room: a new block -/
theorem ggrows {ops : Array Oper} {rest : List Oper} {o : Oper} {a : Act} {Q : Exit → Act → World → Prop} {t T : TypeId} {by_ : Nat} (he : Elem t T by_) (w : World) (hgd : o.guard = none) (s x : Operand)
    (ho : o.op = .call { callee := .builtin .append, args := #[s, x], argTypes := #[t, t] }) (B k cap : Nat) (q : Option Nat) (xs : List Value) (hs : a.eval s = .slice (q.map fun b => ⟨b, 0, none⟩) k cap) (hk : xs.length = k) (hown : GOwnV T w B (sl q k cap) xs)
    (ad : Addr) (m : Nat) (z : Value) (hz1 : z.oneCell' = true) (hx : a.eval x = .slice (some ad) 1 m) (hnews : ∀ j u, [z][j]? = some u → w.cell? (ad.add j) = some u) (hfull : cap < k + 1) (hlen : k + 1 ≤ 140737488355328) (hby : (k + 1) * by_ ≤ 140737488355328)
    (h : ∀ g' cap' w', GOwn T w' w.heap.size g' cap' (xs ++ [z]) → w.grownBy w' none → wpList Tryz.prog ops Q rest (a.put o.dst (.slice (some ⟨g', 0, none⟩) (k + 1) cap')) w') :
    wpList Tryz.prog ops Q (o :: rest) a w := by
  obtain ⟨hu, z0, hzc, hinfo⟩ := he
  obtain ⟨i0, hi, hz0, hz2, hz3⟩ := info_parts hinfo
  subst hk
  refine wpList_append_grows w hgd s x t ho T i0 z0 1 by_ hu hi hz0 hz2 hz3 hzc (by decide) _ xs.length cap xs hs (fun e => ?_) (by simp) (fun b e j u hj => ?_) ad 1 m [z] hx rfl hnews (fun u hu => ?_) hfull (by unfold maxLen; omega) hby fun v' w' h1 h2 => ?_
  · cases q with
    | some g => cases e
    | none =>
      rcases hown.shape with ⟨e2, e3⟩ | ⟨g, cap', e2, _⟩
      · injection e2 with _ e4 e5; exact ⟨e4, e5⟩
      · simp [sl] at e2
  · cases q with
    | none => cases e
    | some g =>
      cases e
      have hjl : j < xs.length := by
        rcases Nat.lt_or_ge j xs.length with h | h
        · exact h
        · rw [List.getElem?_eq_none h] at hj; cases hj
      rw [← hj, ← hown.full.2.cell j hjl, Go.WideShapes.add_plain, Nat.zero_add]
  · rw [List.mem_singleton] at hu
    subst hu
    exact hz1
  · have hv : GOwnV T w' w.heap.size v' (xs ++ [z]) := by
      unfold GOwnV
      rw [List.length_append]
      exact h1
    rcases hv.shape with ⟨_, e⟩ | ⟨g', cap', e, ho'⟩
    · simp at e
    · subst e
      rw [List.length_append]
      exact h g' cap' w' ho' h2

end Go.Proofs.YthjbdbmncfbihaaGreatDoor

/- What switchyardkit.ApartInts answers, for lists that lie apart (or are nil): true; nothing but these lists is turned. -/
namespace Go.Proofs.YthjbdbmncfbihaaGreatDoor
open Go.RowKit

/-- a slice's pointer -/
def ptr (p : Option Nat) : Option Addr := p.map fun b => ⟨b, 0, none⟩
theorem sl_ptr (p : Option Nat) (n c : Nat) : sl p n c = .slice (ptr p) n c := rfl
theorem ptr_some (g : Nat) : ptr (some g) = some ⟨g, 0, none⟩ := rfl

theorem GOwn.some {T : TypeId} {w : World} {B g cap : Nat} {vs : List Value} (h : GOwn T w B g cap vs) (i : Nat) (hi : i < vs.length) : ∃ v, w.cell? ⟨g, i, none⟩ = some v := ⟨vs[i], by rw [h.cell i hi, List.getElem?_eq_getElem hi]⟩

set_option maxRecDepth 100000 in
set_option maxHeartbeats 2000000 in
theorem apartInts_any (K B L : Nat) (p : Nat → Option Nat) (n c : Nat → Nat) (xs : Nat → List Value) (w : World) (hK : K ≤ 1000) (hap : Apart K p) (hx : ∀ k, k < K → (xs k).length = n k) (hn : ∀ k, k < K → n k ≤ 1099511627776) (hB : B ≤ w.heap.size)
    (hown : AllOwn 3 w B K p n c xs) (htab : TabOf 36 w L K (fun k => sl (p k) (n k) (c k))) :
    Calls Tryz.prog 22 #[.slice (some ⟨L, 0, none⟩) K K] w fun e w' => e = .returned (.bool true) ∧ Keeps (GSet K p) w w' := by
  obtain ⟨i0, hi, hz0, hz1, hz2⟩ := info_parts Tryz.info36
  have HX : Hid (∀ k, k < K → (xs k).length = n k) := hx
  have HN : Hid (∀ k, k < K → n k ≤ 1099511627776) := hn
  clear hx hn
  go_enter Tryz.func22, Tryz.ntmps22
  go_wp2_with (at_make; refine wpList_make_full _ rfl _ _ 49 rfl _ 36 i0 (.slice none 0 0) 1 Tryz.underlying49 hi hz0 hz1 _ _ _ _ K rfl rfl rfl rfl (by rw [hz2]; omega) (by unfold maxLen; omega) (Nat.le_refl _) ?_; intro w1 hmk hgrow; have hst : St1 3 36 w K B L w.heap.size p n c (fun j => ctAt miV xs n 0 0 j) w1 := ⟨fun j hj => by rw [ctAt_zero, if_neg (Nat.not_lt_zero j)]; exact (hown j hj).kept hgrow (by rw [sl_block]; cases p j <;> simp), htab.kept hgrow (by simp), TabOf.made hmk, (Keeps.refl _ _).grown hgrow (by simp)⟩; clear hmk hgrow)
  have hGs : w.heap.size = w.heap.size := rfl
  generalize hG : w.heap.size = G at hst ⊢
  clear hGs
  have hGle : w.heap.size ≤ G := by omega
  have hLlt : L < w.heap.size := htab.lt
  clear hG hown htab
  go_loopw [4] (fun kv wr => ∃ k : Nat, k ≤ K ∧ kv = .int .i64 k ∧ St1 3 36 w K B L G p n c (fun j => ctAt miV xs n k 0 j) wr) (fun kv _ => K - (intOf kv).toNat)
  case atStart => exact ⟨0, Nat.zero_le _, rfl, hst⟩
  case round =>
    obtain ⟨k, hk, rfl, hs⟩ := hrel
    clear hst
    by_cases hlt : k < K
    · go_wp2
      go_loopw [5] (fun iv wr => ∃ i : Nat, i ≤ n k ∧ iv = .int .i64 i ∧ St1 3 36 w K B L G p n c (fun j => ctAt miV xs n k i j) wr) (fun iv _ => n k - (intOf iv).toNat)
      case atStart => exact ⟨0, Nat.zero_le _, rfl, hs⟩
      case round =>
        obtain ⟨i, hik, rfl, hs2⟩ := hrel
        clear hs
        have cl := hs2.tab.cell k hlt
        rw [sl_ptr] at cl
        have hnk := HN.out k hlt
        by_cases hi2 : i < n k
        · have ho := hs2.own k hlt
          have hct : ctAt miV xs n k i k = part miV (xs k) k i := by simp [ctAt]
          rw [hct] at ho
          have hpl := part_length miV (xs k) k i (n k) (HX.out k hlt) hik
          obtain ⟨g, hp, -, ho2⟩ := ho.filled (by omega)
          obtain ⟨old, cg⟩ := ho2.some i (by omega)
          have fg := ho2.free i
          have hne : L ≠ g := fun e => hs2.tab.ne (by decide) ho (by rw [hp, e])
          have q0 : (0 : Int) ≤ (k : Int) := by omega
          have q1 : (k : Int) < (K : Int) := by omega
          have q2 : (0 : Int) ≤ (i : Int) := by omega
          have q3 : (i : Int) < (n k : Int) := by omega
          rw [hp, ptr_some] at cl
          have hs3 : St1 3 36 w K B L G p n c (fun j => ctAt miV xs n k (i + 1) j) (wr.setCell ⟨g, i, none⟩ (.int .i64 (mi k i))) := hs2.mark (by decide) hap hlt hp (HX.out k hlt) hi2
          have hk2 : (wr.setCell ⟨g, i, none⟩ (.int .i64 (mi k i))).cell? ⟨L, k, none⟩ = some (.slice (some ⟨g, 0, none⟩) (n k) (c k)) := by
            have := hs3.tab.cell k hlt
            rw [sl_ptr, hp] at this
            exact this
          have hs3 := hs3.drew
          have HP : Hid (p k = some g) := hp
          clear ho hct hpl ho2 hp
          go_wp2_with fail
          go_region_held3 (fun w' => w'.cell? ⟨L, k, none⟩ = some (.slice (some ⟨g, 0, none⟩) (n k) (c k))) (first | go_keep | exact hk2) ((go_at_call 37; refine (mark_any k i _ (by omega) (by omega)).mono ?_; rintro e w' ⟨rfl, rfl⟩))
          all_goals
            clear hs2 hk2 cl cg fg
            go_wp2
            go_roundw
            case rel => exact ⟨i + 1, by omega, by go_num, hs3⟩
            case measure => simp [intOf]; omega
        · have hs4 : St1 3 36 w K B L G p n c (fun j => ctAt miV xs n (k + 1) 0 j) wr := by
            obtain rfl : i = n k := by omega
            have e : (fun j => ctAt miV xs n k (n k) j) = fun j => ctAt miV xs n (k + 1) 0 j := funext fun j => ctAt_next miV xs n k j (HX.out k hlt)
            rw [← e]
            exact hs2
          clear hs2
          go_wp2
          go_roundw
          case rel => exact ⟨k + 1, by omega, by go_num, hs4⟩
          case measure => simp [intOf]; omega
    · have hs0 : St2 3 36 miV w K B L G p n c 0 (fun _ => 0) (fun _ => 0) wr := by
        have hkK : k = K := by omega
        rw [hkK] at hs
        exact hs.next
      clear hs
      go_wp2
      go_loopw [6] (fun kv wr => ∃ (k : Nat) (ub uc : Nat → Nat), k ≤ K ∧ kv = .int .i64 k ∧ St2 3 36 miV w K B L G p n c k ub uc wr) (fun kv _ => K - (intOf kv).toNat)
      case atStart => exact ⟨0, _, _, Nat.zero_le _, rfl, hs0⟩
      case round =>
        obtain ⟨k2, ub, uc, hk2, rfl, hs⟩ := hrel
        clear hs0
        by_cases hlt2 : k2 < K
        · have cl := hs.tab.cell k2 hlt2
          rw [sl_ptr] at cl
          have hs1 := hs.start hap hlt2
          have hnk := HN.out k2 hlt2
          clear hs
          go_wp2
          go_loopw [7, 8] (fun gv jv wr => ∃ (j gc : Nat) (q : Option Nat), j ≤ 64 ∧ jv = .int .i64 j ∧ gv = .slice (ptr q) (n k2 + j) gc ∧ St2i 3 36 miV w K B L G p n c k2 ub uc q gc j wr) (fun _ jv _ => 64 - (intOf jv).toNat)
          case atStart => exact ⟨0, _, _, Nat.zero_le _, rfl, rfl, hs1⟩
          case round =>
            obtain ⟨j, gc, q, hj, rfl, rfl, hs2⟩ := hrel
            clear hs1 cl
            have cl := hs2.st.tab.cell k2 hlt2
            rw [sl_ptr] at cl
            by_cases hj2 : j < 64
            · have hsa := fun o => hs2.grown (World.grownBy_alloc wr o none)
              have hml := mkL_length miV k2 (n k2 + j)
              have hBw : ∀ o, B ≤ (wr.alloc o).heap.size := fun o => Nat.le_trans hB (hsa o).st.keeps.size
              have HC : Hid (∀ wx, Calls Tryz.prog 37 #[.int .i64 k2, .int .i64 ((n k2 : Int) + (j : Int))] wx fun e w' => e = .returned (.int .i64 (mi k2 (n k2 + j))) ∧ w' = wx) := fun wx => by
                have := mark_any k2 (n k2 + j) wx (by omega) (by omega)
                simpa using this
              by_cases hroom : n k2 + j + 1 ≤ gc
              · obtain ⟨gb, rfl⟩ : ∃ gb, q = some gb := by
                  cases q with
                  | some gb => exact ⟨gb, rfl⟩
                  | none =>
                    rcases hs2.cur.shape with ⟨e2, -⟩ | ⟨_, _, e2, _⟩
                    · simp [sl] at e2; omega
                    · simp [sl] at e2
                rw [ptr_some]
                go_wp2_with (first | (go_at_call 37; refine (HC.out _).mono ?_; rintro e w' ⟨rfl, rfl⟩) | (at_builtin; refine gfits Tryz.elemI _ rfl _ _ rfl B gb (n k2 + j) gc (mkL miV k2 (n k2 + j)) rfl hml (hsa _).cur.full.2 ⟨_, 0, none⟩ 1 (.int .i64 (mi k2 (n k2 + j))) rfl rfl (news_one _ _ _) hroom ?_; intro w2 ho2 hg2; have hs3 := (hsa _).fits (by decide) hlt2 hg2 ho2))
                go_roundw
                case rel => exact ⟨j + 1, gc, some gb, by omega, by go_num, by rw [show n k2 + (j + 1) = n k2 + j + 1 by omega]; rfl, hs3⟩
                case measure => simp [intOf]; omega
              · go_wp2_with (first | (go_at_call 37; refine (HC.out _).mono ?_; rintro e w' ⟨rfl, rfl⟩) | (at_builtin; refine ggrows Tryz.elemI _ rfl _ _ rfl B (n k2 + j) gc q (mkL miV k2 (n k2 + j)) rfl hml (hsa _).cur ⟨_, 0, none⟩ 1 (.int .i64 (mi k2 (n k2 + j))) rfl rfl (news_one _ _ _) (by omega) (by omega) (by omega) ?_; intro gb2 gc2 w2 ho2 hg2; have hs3 := (hsa _).grows (hBw _) hg2 (Nat.le_refl _) ho2))
                go_roundw
                case rel => exact ⟨j + 1, gc2, some gb2, by omega, by go_num, by rw [show n k2 + (j + 1) = n k2 + j + 1 by omega]; rfl, hs3⟩
                case measure => simp [intOf]; omega
            · obtain rfl : j = 64 := by omega
              obtain ⟨gb, rfl⟩ : ∃ gb, q = some gb := by
                obtain ⟨gb, e, -, -⟩ := hs2.cur.filled (by rw [mkL_length]; omega)
                exact ⟨gb, e⟩
              rw [ptr_some]
              have cg := hs2.st.gs.cell k2 hlt2
              have fg := hs2.st.gs.free k2
              rw [if_neg (Nat.lt_irrefl k2)] at cg
              have hs3 := hs2.done (by decide) hGle hLlt
              clear hs2
              go_wp2
              go_roundw
              case rel => exact ⟨k2 + 1, _, _, by omega, by go_num, hs3⟩
              case measure => simp [intOf]; omega
        · have hkK : k2 = K := by omega
          rw [hkK] at hs
          clear hkK
          go_wp2
          obtain ⟨w0, rfl⟩ : ∃ w0 : World, w0 = wr := ⟨_, rfl⟩
          go_loopw [10] (fun kv wx => ∃ k m : Nat, k ≤ K ∧ kv = .int .i64 k ∧ Hid (wx = w0.drewN m)) (fun kv _ => K - (intOf kv).toNat)
          case atStart => exact ⟨0, 0, Nat.zero_le _, rfl, rfl⟩
          case round =>
            obtain ⟨k3, m, hk3, rfl, HW⟩ := hrel
            by_cases hlt3 : k3 < K
            · have cl : wr.cell? ⟨L, k3, none⟩ = some (.slice (ptr (p k3)) (n k3) (c k3)) := by rw [HW.out]; exact hs.tab.cell k3 hlt3
              have cg0 := hs.gs.cell k3 hlt3
              rw [if_pos hlt3] at cg0
              have cg : wr.cell? ⟨G, k3, none⟩ = some (.slice (some ⟨ub k3, 0, none⟩) (n k3 + 64) (uc k3)) := by rw [HW.out]; exact cg0
              have hnk := HN.out k3 hlt3
              have hou := hs.us k3 hlt3
              have hov := hs.own k3 hlt3
              go_wp2
              go_loopw [11] (fun iv wx => ∃ i m : Nat, i ≤ n k3 + 64 ∧ iv = .int .i64 i ∧ Hid (wx = w0.drewN m)) (fun iv _ => n k3 + 64 - (intOf iv).toNat)
              case atStart => exact ⟨0, m, Nat.zero_le _, rfl, HW⟩
              case round =>
                obtain ⟨i, m2, hi3, rfl, HV⟩ := hrel
                clear cl cg HW
                have cl : wr.cell? ⟨L, k3, none⟩ = some (.slice (ptr (p k3)) (n k3) (c k3)) := by rw [HV.out]; exact hs.tab.cell k3 hlt3
                have cg : wr.cell? ⟨G, k3, none⟩ = some (.slice (some ⟨ub k3, 0, none⟩) (n k3 + 64) (uc k3)) := by rw [HV.out]; exact cg0
                by_cases hi4 : i < n k3 + 64
                · have cu0 := hou.cell i (by rw [mkL_length]; exact hi4)
                  rw [mkL_at miV k3 _ i hi4] at cu0
                  have cu : wr.cell? ⟨ub k3, i, none⟩ = some (.int .i64 (mi k3 i)) := by rw [HV.out]; exact cu0
                  have HC : Hid (∀ wx, Calls Tryz.prog 37 #[.int .i64 k3, .int .i64 i] wx fun e w' => e = .returned (.int .i64 (mi k3 i)) ∧ w' = wx) := fun wx => mark_any k3 i wx (by omega) (by omega)
                  have hmm : (mi k3 i != mi k3 i) = false := by simp
                  by_cases hi5 : i < n k3
                  · obtain ⟨g, hp, -, ho2⟩ := hov.filled (by rw [mkL_length]; omega)
                    have cv0 := ho2.cell i (by rw [mkL_length]; exact hi5)
                    rw [mkL_at miV k3 _ i hi5] at cv0
                    have cv : wr.cell? ⟨g, i, none⟩ = some (.int .i64 (mi k3 i)) := by rw [HV.out]; exact cv0
                    have hi6 : (i : Int) < (n k3 : Int) := by omega
                    rw [hp, ptr_some] at cl
                    clear cu0 cv0 cg0 hp ho2
                    generalize mi k3 i = z at *
                    go_wp2
                    go_quiet ((go_at_call 37; exact Calls.quiet_of_same (HC.out _)))
                    go_wp2
                    go_roundw
                    case rel => exact ⟨i + 1, m2 + nq, by omega, by go_num, by rw [HV.out]; exact World.drewN_drewN ..⟩
                    case measure => simp [intOf]; omega
                  · have hd : decide ((i : Int) < (n k3 : Int)) = false := by simp; omega
                    clear cu0 cg0
                    generalize mi k3 i = z at *
                    go_wp2
                    go_quiet ((go_at_call 37; exact Calls.quiet_of_same (HC.out _)))
                    go_wp2
                    go_roundw
                    case rel => exact ⟨i + 1, m2 + nq, by omega, by go_num, by rw [HV.out]; exact World.drewN_drewN ..⟩
                    case measure => simp [intOf]; omega
                · go_wp2
                  go_roundw
                  case rel => exact ⟨k3 + 1, m2, by omega, by go_num, HV⟩
                  case measure => simp [intOf]; omega
            · go_wp2
              go_ret
              exact ⟨rfl, by rw [HW.out]; exact hs.keeps.drewN _⟩

end Go.Proofs.YthjbdbmncfbihaaGreatDoor
