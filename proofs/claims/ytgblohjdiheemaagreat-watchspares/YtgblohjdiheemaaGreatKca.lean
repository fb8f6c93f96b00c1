/- Texts put together: GApart, GApartS, GApK, ApVw, ApCn, ApPl. -/
import Derived.Test.YtgblohjdiheemaaGreatKab
import Derived.Test.YtgblohjdiheemaaGreatKaa
import Derived.Test.YtgblohjdiheemaaGreatKad
import Derived.Test.YtgblohjdiheemaaGreatKak
import Derived.Test.YtgblohjdiheemaaGreatKai
import Derived.Deep.RegionHeld3
import Derived.Deep.QuietTactic
import Derived.BigQuiet

/- Lists of one-cell elements (or nil) that lie apart: what stores and appends leave as it was. Plain facts on worlds, for every element type T, slice type e and every mark. -/
namespace Go.Proofs.YtgblohjdiheemaaGreat
open Go.RowKit

theorem grown_of_below {w w' : World} (h : Below w.heap.size w w') : w.grownBy w' none := ⟨h.os, h.tape, h.output, h.size, fun k hk _ => h.block k hk⟩

/-- the slice that begins at a block's first cell, or nil -/
def slA (p : Option Nat) (n c : Nat) : Value := .slice (p.map fun b => ⟨b, 0, none⟩) n c
theorem sl_block (p : Option Nat) (n c : Nat) : (slA p n c).ownBlock = p := by cases p <;> rfl
theorem sl_none (n c : Nat) : slA none n c = .slice none n c := rfl
theorem sl_some (g n c : Nat) : slA (some g) n c = .slice (some ⟨g, 0, none⟩) n c := rfl

theorem GOwnV.kept {T : TypeId} {w w' : World} {B : Nat} {v : Value} {vs : List Value} {row : Option Nat} (h : GOwnV T w B v vs) (hg : w.grownBy w' row) (hne : v.ownBlock = none ∨ v.ownBlock ≠ row) : GOwnV T w' B v vs := World.ownsRow.kept h hg hne
theorem GOwnV.store_other {T : TypeId} {w : World} {B : Nat} {v : Value} {vs : List Value} (h : GOwnV T w B v vs) (b i : Nat) (u : Value) (hne : v.ownBlock ≠ some b) : GOwnV T (w.setCell ⟨b, i, none⟩ u) B v vs :=
  h.kept (row := some b) ⟨rfl, rfl, rfl, by simp, fun k _ hk => heap_setCell_other w ⟨b, i, none⟩ k u (fun e => hk (by simp [e]))⟩ (.inr hne)
theorem GOwnV.filled {T : TypeId} {w : World} {B : Nat} {p : Option Nat} {n c : Nat} {vs : List Value} (h : GOwnV T w B (slA p n c) vs) (h0 : 0 < vs.length) : ∃ g, p = some g ∧ n = vs.length ∧ GOwn T w B g c vs := by
  rcases h.shape with ⟨_, e⟩ | ⟨g, cap, e, ho⟩
  · rw [e] at h0; exact absurd h0 (Nat.lt_irrefl 0)
  · cases p with
    | none => simp [slA] at e
    | some b =>
      simp [slA] at e
      obtain ⟨rfl, rfl, rfl⟩ := e
      exact ⟨b, rfl, rfl, ho⟩
theorem GOwnV.full {T : TypeId} {w : World} {B g n c : Nat} {vs : List Value} (h : GOwnV T w B (slA (some g) n c) vs) : n = vs.length ∧ GOwn T w B g c vs := by
  rcases h.shape with ⟨e, _⟩ | ⟨g', cap, e, ho⟩
  · simp [slA] at e
  · simp [slA] at e
    obtain ⟨rfl, rfl, rfl⟩ := e
    exact ⟨rfl, ho⟩
theorem GOwn.caps {T T' : TypeId} {w : World} {B B' g cap cap' : Nat} {xs ys : List Value} (h : GOwn T w B g cap xs) (h' : GOwn T' w B' g cap' ys) : cap = cap' := by
  obtain ⟨cur, _, h2, _, _, h5, _⟩ := h.parts
  obtain ⟨cur', _, h2', _, _, h5', _⟩ := h'.parts
  rw [h2] at h2'
  cases h2'
  omega
theorem GOwn.front {T : TypeId} {w : World} {B g cap : Nat} {xs ys : List Value} (h : GOwn T w B g cap (xs ++ ys)) : GOwn T w B g cap xs := by
  obtain ⟨cur, h1, h2, h3, h4, h5, h6⟩ := h.parts
  rw [List.length_append] at h3
  refine GOwn.mk h1 h2 (by omega) h4 h5 ?_
  have e : cur.toList.take xs.length = (cur.toList.take (xs ++ ys).length).take xs.length := by
    rw [List.take_take, List.length_append, Nat.min_eq_left (by omega)]
  rw [e, h6]
  simp

/-- a table of K slices (of the type e) in a block of its own -/
def TabOf (e : TypeId) (w : World) (L K : Nat) (f : Nat → Value) : Prop := w.heap[L]? = some (.cells ((List.range K).map f).toArray e (0, 0))
theorem TabOf.cell {e : TypeId} {w : World} {L K : Nat} {f : Nat → Value} (h : TabOf e w L K f) (k : Nat) (hk : k < K) : w.cell? ⟨L, k, none⟩ = some (f k) := by
  rw [cell_of_row w L k _ e (0, 0) h]
  simp [hk]
theorem TabOf.free {e : TypeId} {w : World} {L K : Nat} {f : Nat → Value} (h : TabOf e w L K f) (k : Nat) : w.frozen? ⟨L, k, none⟩ = false := frozen_of_row w L k _ e h
theorem TabOf.lt {e : TypeId} {w : World} {L K : Nat} {f : Nat → Value} (h : TabOf e w L K f) : L < w.heap.size := by
  rcases Nat.lt_or_ge L w.heap.size with h' | h'
  · exact h'
  · unfold TabOf at h; rw [Array.getElem?_eq_none h'] at h; cases h
theorem TabOf.ne {e T : TypeId} (hT : T ≠ e) {w : World} {L K : Nat} {f : Nat → Value} (h : TabOf e w L K f) {B n c : Nat} {p : Option Nat} {vs : List Value} (ho : GOwnV T w B (slA p n c) vs) : p ≠ some L := fun he => by
  subst he
  obtain ⟨cur, _, h2, _⟩ := ho.full.2.parts
  unfold TabOf at h
  rw [h2] at h
  injection h with h
  injection h with _ h
  exact hT h
theorem TabOf.kept {e : TypeId} {w w' : World} {L K : Nat} {f : Nat → Value} {row : Option Nat} (h : TabOf e w L K f) (hg : w.grownBy w' row) (hne : some L ≠ row) : TabOf e w' L K f := by
  unfold TabOf; rw [hg.block L h.lt hne]; exact h
theorem TabOf.drewN {e : TypeId} {w : World} {L K : Nat} {f : Nat → Value} (h : TabOf e w L K f) (n : Nat) : TabOf e (w.drewN n) L K f := h
theorem TabOf.drew {e : TypeId} {w : World} {L K : Nat} {f : Nat → Value} (h : TabOf e w L K f) : TabOf e w.drew L K f := h
theorem TabOf.store_other {e : TypeId} {w : World} {L K : Nat} {f : Nat → Value} (h : TabOf e w L K f) (b i : Nat) (v : Value) (hne : L ≠ b) : TabOf e (w.setCell ⟨b, i, none⟩ v) L K f := by
  unfold TabOf; rw [heap_setCell_other w ⟨b, i, none⟩ L v hne]; exact h
theorem TabOf.store {e : TypeId} {w : World} {L K : Nat} {f : Nat → Value} (h : TabOf e w L K f) (k : Nat) (v : Value) : TabOf e (w.setCell ⟨L, k, none⟩ v) L K (fun i => if i = k then v else f i) := by
  unfold TabOf
  rw [heap_setCell_same w L k _ e v h]
  congr 2
  apply Array.ext'
  rw [Array.toList_setIfInBounds]
  apply List.ext_getElem?
  intro j
  simp only [List.getElem?_set, List.length_map, List.length_range, List.getElem?_map]
  by_cases e : k = j
  · subst e
    by_cases hk : k < K <;> simp [hk]
  · by_cases hj : j < K <;> simp [e, hj, Ne.symm e]
theorem TabOf.made {e : TypeId} {w : World} {B g n : Nat} (h : w.ownsRow B e 1 (.slice (some ⟨g, 0, none⟩) n n) n (madeCells (Value.slice none 0 0).cells (n * 1)).toList) : TabOf e w g n (fun _ => .slice none 0 0) := by
  rcases h.2 with ⟨h', _⟩ | ⟨g', cap', cur, h', h1, h2, h3, h4, h5, h6⟩
  · simp at h'
  · simp only [Value.slice.injEq, Option.some.injEq, Addr.mk.injEq, and_true, true_and] at h'
    obtain ⟨rfl, rfl⟩ := h'
    unfold TabOf
    rw [h2]
    congr 2
    apply Array.ext'
    rw [List.take_of_length_le (by rw [Array.length_toList, h5]; exact Nat.le_refl _)] at h6
    rw [h6, show (Value.slice none 0 0).cells = #[Value.slice none 0 0] from rfl, toList_madeCells_one]
    apply List.ext_getElem?
    intro j
    by_cases hj : j < n <;> simp [hj]

/-- lists apart: each in a block of its own, or nil -/
def AllOwn (T : TypeId) (w : World) (B K : Nat) (p : Nat → Option Nat) (n c : Nat → Nat) (ct : Nat → List Value) : Prop := ∀ j, j < K → GOwnV T w B (slA (p j) (n j) (c j)) (ct j)
def Apart (K : Nat) (p : Nat → Option Nat) : Prop := ∀ i j, i < K → j < K → i ≠ j → p i = none ∨ p i ≠ p j
theorem AllOwn.kept {T : TypeId} {w w' : World} {B K : Nat} {p : Nat → Option Nat} {n c : Nat → Nat} {ct : Nat → List Value} {row : Option Nat} (h : AllOwn T w B K p n c ct) (hg : w.grownBy w' row) (hne : ∀ j, j < K → p j = none ∨ p j ≠ row) : AllOwn T w' B K p n c ct :=
  fun j hj => (h j hj).kept hg (by rw [sl_block]; exact hne j hj)
theorem AllOwn.store_other {T : TypeId} {w : World} {B K : Nat} {p : Nat → Option Nat} {n c : Nat → Nat} {ct : Nat → List Value} (h : AllOwn T w B K p n c ct) (b i : Nat) (v : Value) (hne : ∀ j, j < K → p j ≠ some b) : AllOwn T (w.setCell ⟨b, i, none⟩ v) B K p n c ct :=
  fun j hj => (h j hj).store_other b i v (by rw [sl_block]; exact hne j hj)
theorem AllOwn.store {T : TypeId} {w : World} {B K : Nat} {p : Nat → Option Nat} {n c : Nat → Nat} {ct ct' : Nat → List Value} (h : AllOwn T w B K p n c ct) (ha : Apart K p) (k i g : Nat) (hk : k < K) (hp : p k = some g) (z : Value) (h1 : ct' k = (ct k).set i z) (h2 : ∀ j, j ≠ k → ct' j = ct j) : AllOwn T (w.setCell ⟨g, i, none⟩ z) B K p n c ct' := fun j hj => by
  by_cases e : j = k
  · subst e
    have ho := h j hj
    rw [hp] at ho
    obtain ⟨hn, ho2⟩ := ho.full
    rw [h1, hp, sl_some, hn]
    have := ho2.store i z
    have h3 : GOwnV T (w.setCell ⟨g, i, none⟩ z) B (.slice (some ⟨g, 0, none⟩) ((ct j).set i z).length (c j)) ((ct j).set i z) := this.val
    rw [List.length_set] at h3
    exact h3
  · rw [h2 j e]
    refine (h j hj).store_other g i _ ?_
    rw [sl_block]
    rcases ha j k hj hk e with h3 | h3
    · rw [h3]; simp
    · rw [← hp]; exact h3
theorem AllOwn.drewN {T : TypeId} {w : World} {B K : Nat} {p : Nat → Option Nat} {n c : Nat → Nat} {ct : Nat → List Value} (h : AllOwn T w B K p n c ct) (m : Nat) : AllOwn T (w.drewN m) B K p n c ct := h
theorem AllOwn.drew {T : TypeId} {w : World} {B K : Nat} {p : Nat → Option Nat} {n c : Nat → Nat} {ct : Nat → List Value} (h : AllOwn T w B K p n c ct) : AllOwn T w.drew B K p n c ct := h

/-- the first m marks of list k -/
def mkL (mk : Nat → Nat → Value) (k m : Nat) : List Value := (List.range m).map (mk k)
theorem mkL_length (mk : Nat → Nat → Value) (k m : Nat) : (mkL mk k m).length = m := by simp [mkL]
theorem mkL_succ (mk : Nat → Nat → Value) (k m : Nat) : mkL mk k (m + 1) = mkL mk k m ++ [mk k m] := by simp [mkL, List.range_succ]
theorem mkL_at (mk : Nat → Nat → Value) (k m i : Nat) (h : i < m) : (mkL mk k m)[i]? = some (mk k i) := by simp [mkL, h]

/-- list k, its first i places marked -/
def part (mk : Nat → Nat → Value) (xs : List Value) (k i : Nat) : List Value := mkL mk k i ++ xs.drop i
theorem apt_zero (mk : Nat → Nat → Value) (xs : List Value) (k : Nat) : part mk xs k 0 = xs := by simp [part, mkL]
theorem apt_end (mk : Nat → Nat → Value) (xs : List Value) (k n : Nat) (h : xs.length = n) : part mk xs k n = mkL mk k n := by simp [part, h]
theorem apt_length (mk : Nat → Nat → Value) (xs : List Value) (k i n : Nat) (h : xs.length = n) (hi : i ≤ n) : (part mk xs k i).length = n := by simp [part, mkL_length, h]; omega
theorem apt_step (mk : Nat → Nat → Value) (xs : List Value) (k i n : Nat) (h : xs.length = n) (hi : i < n) : (part mk xs k i).set i (mk k i) = part mk xs k (i + 1) := by
  unfold part
  have hl : (mkL mk k i).length = i := mkL_length mk k i
  rw [List.set_append_right _ _ (by omega), hl, Nat.sub_self, mkL_succ, List.append_assoc, List.drop_eq_getElem_cons (by omega : i < xs.length)]
  rfl

/-- what the lists hold in the first loop: those before k are marked, k up to i -/
def ctAt (mk : Nat → Nat → Value) (xs : Nat → List Value) (n : Nat → Nat) (k i j : Nat) : List Value := if j < k then mkL mk j (n j) else if j = k then part mk (xs j) j i else xs j
theorem ctAt_zero (mk : Nat → Nat → Value) (xs : Nat → List Value) (n : Nat → Nat) (k j : Nat) : ctAt mk xs n k 0 j = if j < k then mkL mk j (n j) else xs j := by
  unfold ctAt
  by_cases h : j < k
  · rw [if_pos h, if_pos h]
  · rw [if_neg h, if_neg h]
    split
    · exact apt_zero ..
    · rfl
theorem ctAt_next (mk : Nat → Nat → Value) (xs : Nat → List Value) (n : Nat → Nat) (k j : Nat) (h : (xs k).length = n k) : ctAt mk xs n k (n k) j = ctAt mk xs n (k + 1) 0 j := by
  rw [ctAt_zero]
  unfold ctAt
  by_cases h1 : j < k
  · rw [if_pos h1, if_pos (by omega)]
  · rw [if_neg h1]
    by_cases h2 : j = k
    · subst h2
      rw [if_pos rfl, if_pos (by omega), apt_end _ _ _ _ h]
    · rw [if_neg h2, if_neg (by omega)]

end Go.Proofs.YtgblohjdiheemaaGreat

/- The states of switchyardkit's Apart functions, over lists that may be nil. Plain facts on worlds. -/
namespace Go.Proofs.YtgblohjdiheemaaGreat
open Go.RowKit

abbrev GSet (K : Nat) (p : Nat → Option Nat) (b : Nat) : Prop := ∃ k, k < K ∧ p k = some b

/-- the first loop's state -/
structure St1 (T e : TypeId) (w : World) (K B L G : Nat) (p : Nat → Option Nat) (n c : Nat → Nat) (ct : Nat → List Value) (wr : World) : Prop where
  own : AllOwn T wr B K p n c ct
  tab : TabOf e wr L K (fun k => slA (p k) (n k) (c k))
  gs : TabOf e wr G K (fun _ => .slice none 0 0)
  keeps : Keeps (GSet K p) w wr

theorem St1.mark {T e : TypeId} {mk : Nat → Nat → Value} (hT : T ≠ e) {w wr : World} {K B L G : Nat} {p : Nat → Option Nat} {n c : Nat → Nat} {xs : Nat → List Value} {k i g : Nat} (h : St1 T e w K B L G p n c (fun j => ctAt mk xs n k i j) wr) (ha : Apart K p) (hk : k < K) (hp : p k = some g) (hx : (xs k).length = n k) (hi : i < n k) :
    St1 T e w K B L G p n c (fun j => ctAt mk xs n k (i + 1) j) (wr.setCell ⟨g, i, none⟩ (mk k i)) := by
  have ho := h.own k hk
  have n1 := h.tab.ne hT ho
  have n2 := h.gs.ne hT ho
  rw [hp] at n1 n2
  refine ⟨h.own.store ha k i g hk hp _ ?_ (fun j hj => ?_), h.tab.store_other _ _ _ (fun e => n1 (by rw [e])), h.gs.store_other _ _ _ (fun e => n2 (by rw [e])), h.keeps.setCell _ _ _ (.inl ⟨k, hk, hp⟩)⟩
  · simp only [ctAt, Nat.lt_irrefl, if_false, if_true]
    exact (apt_step mk (xs k) k i (n k) hx hi).symm
  · simp [ctAt, hj]
theorem St1.drew {T e : TypeId} {w wr : World} {K B L G : Nat} {p : Nat → Option Nat} {n c : Nat → Nat} {ct : Nat → List Value} (h : St1 T e w K B L G p n c ct wr) : St1 T e w K B L G p n c ct wr.drew := ⟨h.own.drew, h.tab.drew, h.gs.drew, h.keeps.drew⟩
theorem St1.drewN {T e : TypeId} {w wr : World} {K B L G : Nat} {p : Nat → Option Nat} {n c : Nat → Nat} {ct : Nat → List Value} (h : St1 T e w K B L G p n c ct wr) (m : Nat) : St1 T e w K B L G p n c ct (wr.drewN m) := ⟨h.own.drewN m, h.tab.drewN m, h.gs.drewN m, h.keeps.drewN m⟩
theorem St1.grown {T e : TypeId} {w wr w1 : World} {K B L G : Nat} {p : Nat → Option Nat} {n c : Nat → Nat} {ct : Nat → List Value} (h : St1 T e w K B L G p n c ct wr) (hg : wr.grownBy w1 none) : St1 T e w K B L G p n c ct w1 :=
  ⟨h.own.kept hg (fun j _ => by cases p j <;> simp), h.tab.kept hg (by simp), h.gs.kept hg (by simp), h.keeps.grown hg (fun _ e => by cases e)⟩

/-- the second loop's state: the lists before k have grown -/
structure St2 (T e : TypeId) (mk : Nat → Nat → Value) (w : World) (K B L G : Nat) (p : Nat → Option Nat) (n c : Nat → Nat) (k : Nat) (ub uc : Nat → Nat) (wr : World) : Prop where
  own : AllOwn T wr B K p n c (fun j => mkL mk j (n j))
  tab : TabOf e wr L K (fun k => slA (p k) (n k) (c k))
  gs : TabOf e wr G K (fun i => if i < k then .slice (some ⟨ub i, 0, none⟩) (n i + 64) (uc i) else .slice none 0 0)
  us : ∀ i, i < k → GOwn T wr B (ub i) (uc i) (mkL mk i (n i + 64))
  sep : ∀ i, i < k → ∀ j, j < K → i ≠ j → p j ≠ some (ub i)
  keeps : Keeps (GSet K p) w wr

theorem St1.next {T e : TypeId} {mk : Nat → Nat → Value} {w wr : World} {K B L G : Nat} {p : Nat → Option Nat} {n c : Nat → Nat} {xs : Nat → List Value} (h : St1 T e w K B L G p n c (fun j => ctAt mk xs n K 0 j) wr) : St2 T e mk w K B L G p n c 0 (fun _ => 0) (fun _ => 0) wr :=
  ⟨fun j hj => by have := h.own j hj; simpa only [ctAt_zero, if_pos hj] using this, h.tab, by simpa using h.gs, fun i hi => absurd hi (Nat.not_lt_zero i), fun i hi => absurd hi (Nat.not_lt_zero i), h.keeps⟩

/-- .. and while list k grows: it stands in block q (or is nil still), with j marks more -/
structure St2i (T e : TypeId) (mk : Nat → Nat → Value) (w : World) (K B L G : Nat) (p : Nat → Option Nat) (n c : Nat → Nat) (k : Nat) (ub uc : Nat → Nat) (q : Option Nat) (gc j : Nat) (wr : World) : Prop where
  st : St2 T e mk w K B L G p n c k ub uc wr
  cur : GOwnV T wr B (slA q (n k + j) gc) (mkL mk k (n k + j))
  sepg : ∀ i, i < K → i ≠ k → q = none ∨ q ≠ p i
  sepu : ∀ i, i < k → q ≠ some (ub i)
  same : q = p k ∨ ∃ b, q = some b ∧ w.heap.size ≤ b

theorem St2.start {T e : TypeId} {mk : Nat → Nat → Value} {w wr : World} {K B L G : Nat} {p : Nat → Option Nat} {n c : Nat → Nat} {k : Nat} {ub uc : Nat → Nat} (h : St2 T e mk w K B L G p n c k ub uc wr) (ha : Apart K p) (hk : k < K) : St2i T e mk w K B L G p n c k ub uc (p k) (c k) 0 wr :=
  ⟨h, h.own k hk, fun i hi hne => ha k i hk hi (Ne.symm hne), fun i hi => h.sep i hi k hk (by omega), .inl rfl⟩

theorem St2i.grown {T e : TypeId} {mk : Nat → Nat → Value} {w wr w1 : World} {K B L G : Nat} {p : Nat → Option Nat} {n c : Nat → Nat} {k : Nat} {ub uc : Nat → Nat} {q : Option Nat} {gc j : Nat} (h : St2i T e mk w K B L G p n c k ub uc q gc j wr) (hg : wr.grownBy w1 none) : St2i T e mk w K B L G p n c k ub uc q gc j w1 :=
  ⟨⟨h.st.own.kept hg (fun j _ => by cases p j <;> simp), h.st.tab.kept hg (by simp), h.st.gs.kept hg (by simp), fun i hi => GOwnV.kept (h.st.us i hi).val hg (.inr (by simp [Value.ownBlock])), h.st.sep, h.st.keeps.grown hg (fun _ e => by cases e)⟩,
    h.cur.kept hg (by rw [sl_block]; cases q <;> simp), h.sepg, h.sepu, h.same⟩

theorem St2i.grows {T e : TypeId} {mk : Nat → Nat → Value} {w wr w1 : World} {K B L G : Nat} {p : Nat → Option Nat} {n c : Nat → Nat} {k : Nat} {ub uc : Nat → Nat} {q : Option Nat} {gc j gb' gc' B' : Nat} (h : St2i T e mk w K B L G p n c k ub uc q gc j wr) (hBw : B ≤ wr.heap.size) (hg : wr.grownBy w1 none) (hB : wr.heap.size ≤ B') (ho : GOwn T w1 B' gb' gc' (mkL mk k (n k + j) ++ [mk k (n k + j)])) :
    St2i T e mk w K B L G p n c k ub uc (some gb') gc' (j + 1) w1 := by
  have hb := ho.base
  have h1 := h.grown hg
  refine ⟨h1.st, ?_, fun i hi _ => .inr fun e => ?_, fun i hi e => ?_, .inr ⟨gb', rfl, Nat.le_trans h.st.keeps.size (by omega)⟩⟩
  · have h2 := (ho.lower (B' := B) (by omega)).val
    rw [show n k + (j + 1) = n k + j + 1 by omega, sl_some, mkL_succ]
    rw [List.length_append, mkL_length] at h2
    exact h2
  · have ho2 := h.st.own i hi
    rw [← e] at ho2
    have := ho2.full.2.lt
    omega
  · have := (h.st.us i hi).lt
    injection e with e
    omega

theorem St2i.fits {T e : TypeId} {mk : Nat → Nat → Value} (hT : T ≠ e) {w wr w1 : World} {K B L G : Nat} {p : Nat → Option Nat} {n c : Nat → Nat} {k : Nat} {ub uc : Nat → Nat} {gb gc j : Nat} (h : St2i T e mk w K B L G p n c k ub uc (some gb) gc j wr) (hk : k < K) (hg : wr.grownBy w1 (some gb)) (ho : GOwn T w1 B gb gc (mkL mk k (n k + j) ++ [mk k (n k + j)])) :
    St2i T e mk w K B L G p n c k ub uc (some gb) gc (j + 1) w1 := by
  have n1 := h.st.tab.ne hT h.cur
  have n2 := h.st.gs.ne hT h.cur
  refine ⟨⟨fun i hi => ?_, h.st.tab.kept hg (Ne.symm n1), h.st.gs.kept hg (Ne.symm n2), fun i hi => GOwnV.kept (h.st.us i hi).val hg (.inr (Ne.symm (h.sepu i hi))), h.st.sep, h.st.keeps.grown hg (fun b e => ?_)⟩, ?_, h.sepg, h.sepu, h.same⟩
  · by_cases e : i = k
    · subst e
      by_cases eb : p i = some gb
      · have hi0 := h.st.own i hi
        rw [eb] at hi0
        obtain ⟨hn, hi1⟩ := hi0.full
        have hc := hi1.caps h.cur.full.2
        have hf := ho.front
        have hsp : mkL mk i (n i + j) = mkL mk i (n i) ++ (mkL mk i (n i + j)).drop (n i) := by
          have ht : (mkL mk i (n i + j)).take (n i) = mkL mk i (n i) := by
            simp [mkL, ← List.map_take, List.take_range]
          rw [← ht, List.take_append_drop]
        rw [hsp] at hf
        have hf2 := hf.front.val
        rw [mkL_length] at hf2
        rw [hc, eb]
        exact hf2
      · exact (h.st.own i hi).kept hg (.inr (by rw [sl_block]; exact eb))
    · refine (h.st.own i hi).kept hg ?_
      rw [sl_block]
      rcases h.sepg i hi e with h3 | h3
      · cases h3
      · exact .inr (Ne.symm h3)
  · cases e
    rcases h.same with e | ⟨b, e, hb⟩
    · exact .inl ⟨k, hk, e.symm⟩
    · injection e with e
      subst e
      exact .inr hb
  · have h2 := ho.val
    rw [show n k + (j + 1) = n k + j + 1 by omega, sl_some, mkL_succ]
    rw [List.length_append, mkL_length] at h2
    exact h2

theorem St2i.done {T e : TypeId} {mk : Nat → Nat → Value} (hT : T ≠ e) {w wr : World} {K B L G : Nat} {p : Nat → Option Nat} {n c : Nat → Nat} {k : Nat} {ub uc : Nat → Nat} {gb gc : Nat} (h : St2i T e mk w K B L G p n c k ub uc (some gb) gc 64 wr) (hG : w.heap.size ≤ G) (hL : L < w.heap.size) :
    St2 T e mk w K B L G p n c (k + 1) (fun i => if i = k then gb else ub i) (fun i => if i = k then gc else uc i) (wr.setCell ⟨G, k, none⟩ (.slice (some ⟨gb, 0, none⟩) (n k + 64) gc)) := by
  refine ⟨h.st.own.store_other _ _ _ (fun j hj => h.st.gs.ne hT (h.st.own j hj)), ?_, ?_, fun i hi => ?_, fun i hi j hj hne => ?_, h.st.keeps.setCell _ _ _ (.inr hG)⟩
  · exact h.st.tab.store_other _ _ _ (by omega)
  · have := h.st.gs.store k (.slice (some ⟨gb, 0, none⟩) (n k + 64) gc)
    have e : (fun i => if i = k then Value.slice (some ⟨gb, 0, none⟩) (n k + 64) gc else if i < k then Value.slice (some ⟨ub i, 0, none⟩) (n i + 64) (uc i) else .slice none 0 0) = fun i => if i < k + 1 then Value.slice (some ⟨if i = k then gb else ub i, 0, none⟩) (n i + 64) (if i = k then gc else uc i) else .slice none 0 0 := by
      funext i
      by_cases e : i = k
      · subst e; simp
      · by_cases hi : i < k
        · simp [e, hi, show i < k + 1 by omega]
        · simp [e, hi, show ¬ i < k + 1 by omega]
    rw [e] at this
    exact this
  · by_cases e : i = k
    · subst e
      simp only [if_true]
      have h2 := h.cur.store_other G i (.slice (some ⟨gb, 0, none⟩) (n i + 64) gc) (by rw [sl_block]; exact h.st.gs.ne hT h.cur)
      exact h2.full.2
    · simp only [e, if_false]
      have hu : GOwnV T wr B (slA (some (ub i)) (n i + 64) (uc i)) (mkL mk i (n i + 64)) := by
        have := (h.st.us i (by omega)).val
        rw [mkL_length] at this
        exact this
      exact (hu.store_other G k _ (by rw [sl_block]; exact h.st.gs.ne hT hu)).full.2
  · by_cases e : i = k
    · subst e
      simp only [if_true]
      rcases h.sepg j hj (Ne.symm hne) with h3 | h3
      · cases h3
      · exact Ne.symm h3
    · simp only [e, if_false]
      exact h.st.sep i (by omega) j hj hne
end Go.Proofs.YtgblohjdiheemaaGreat

/- Lists of elements of k cells (or nil) that lie apart, for any way to tell an element as cells: what stores and appends leave as it was; the states of switchyardkit's Apart functions over them. Plain facts on worlds. -/
namespace Go.Proofs.YtgblohjdiheemaaGreat
open Go.RowKit

def ptrK (p : Option Nat) : Option Addr := p.map fun b => ⟨b, 0, none⟩
theorem sl_ptrK (p : Option Nat) (n c : Nat) : slA p n c = .slice (ptrK p) n c := rfl
theorem ptrK_some (g : Nat) : ptrK (some g) = some ⟨g, 0, none⟩ := rfl
section
variable {α : Type} {F : Fm α}
/-- a list of such elements, not nil -/
def KOw (F : Fm α) (T : TypeId) (w : World) (B g cap : Nat) (L : List α) : Prop := w.ownsRow B T F.k (.slice (Option.some ⟨g, 0, Option.none⟩) L.length cap) L.length (F.cs L)
theorem KOw.parts {T : TypeId} {w : World} {B g cap : Nat} {L : List α} (h : KOw F T w B g cap L) :
    ∃ cur, B ≤ g ∧ w.heap[g]? = Option.some (.cells cur T (0, 0)) ∧ L.length ≤ cap ∧ cap ≤ maxLen ∧ cur.size = cap * F.k ∧ cur.toList.take (L.length * F.k) = F.cs L := by
  rcases h.2 with ⟨h', _⟩ | ⟨g', cap', cur, h', h1, h2, h3, h4, h5, h6⟩
  · simp at h'
  · simp only [Value.slice.injEq, Option.some.injEq, Addr.mk.injEq, and_true, true_and] at h'
    obtain ⟨rfl, rfl⟩ := h'
    exact ⟨cur, h1, h2, h3, h4, h5, h6⟩
theorem KOw.mk {T : TypeId} {w : World} {B g cap : Nat} {L : List α} {cur : Array Value} (h1 : B ≤ g) (h2 : w.heap[g]? = Option.some (.cells cur T (0, 0))) (h3 : L.length ≤ cap) (h4 : cap ≤ maxLen) (h5 : cur.size = cap * F.k) (h6 : cur.toList.take (L.length * F.k) = F.cs L) : KOw F T w B g cap L :=
  ⟨F.cs_len L, .inr ⟨g, cap, cur, rfl, h1, h2, h3, h4, h5, h6⟩⟩
theorem KOw.lt {T : TypeId} {w : World} {B g cap : Nat} {L : List α} (h : KOw F T w B g cap L) : g < w.heap.size := by
  obtain ⟨cur, _, h2, _⟩ := h.parts
  rcases Nat.lt_or_ge g w.heap.size with h | h
  · exact h
  · rw [Array.getElem?_eq_none h] at h2; cases h2
theorem KOw.base {T : TypeId} {w : World} {B g cap : Nat} {L : List α} (h : KOw F T w B g cap L) : B ≤ g := by obtain ⟨cur, h1, _⟩ := h.parts; exact h1
theorem KOw.lower {T : TypeId} {w : World} {B B' g cap : Nat} {L : List α} (h : KOw F T w B g cap L) (hB : B' ≤ g) : KOw F T w B' g cap L := by
  obtain ⟨cur, _, h2, h3, h4, h5, h6⟩ := h.parts
  exact KOw.mk hB h2 h3 h4 h5 h6
theorem KOw.cell {T : TypeId} {w : World} {B g cap : Nat} {L : List α} (h : KOw F T w B g cap L) (i : Nat) (hi : i < L.length) (j : Nat) (hj : j < F.k) : w.cell? ⟨g, i * F.k + j, Option.none⟩ = (F.f L[i])[j]? := by
  have hr : w.ownsRow B T F.k (.slice (Option.some ⟨g, 0, Option.none⟩) L.length cap) L.length (F.cs L) := h
  have hlt : i * F.k + j < L.length * F.k := by
    have h1 : (i + 1) * F.k ≤ L.length * F.k := Nat.mul_le_mul_right _ (by omega)
    rw [Nat.succ_mul] at h1
    omega
  rw [hr.cellAt (i * F.k + j) hlt, F.cs_at L i hi j hj]
theorem KOw.free {T : TypeId} {w : World} {B g cap : Nat} {L : List α} (h : KOw F T w B g cap L) (i : Nat) : w.frozen? ⟨g, i, Option.none⟩ = false := World.ownsRow.frozenAt h i
theorem KOw.val {T : TypeId} {w : World} {B g cap : Nat} {L : List α} (h : KOw F T w B g cap L) : KOwn F T w B (.slice (Option.some ⟨g, 0, Option.none⟩) L.length cap) L := h
theorem KOwn.form {T : TypeId} {w : World} {B : Nat} {v : Value} {L : List α} (h : KOwn F T w B v L) : (v = .slice Option.none 0 0 ∧ L = []) ∨ ∃ g cap, v = .slice (Option.some ⟨g, 0, Option.none⟩) L.length cap ∧ KOw F T w B g cap L := by
  rcases h.2 with ⟨h1, h2⟩ | ⟨g, cap, cur, h1, h2⟩
  · exact .inl ⟨h1, List.eq_nil_of_length_eq_zero h2⟩
  · subst h1
    exact .inr ⟨g, cap, rfl, h⟩
theorem KOwn.store_other {T : TypeId} {w : World} {B : Nat} {v : Value} {L : List α} (h : KOwn F T w B v L) (b i : Nat) (u : Value) (hne : v.ownBlock ≠ Option.some b) : KOwn F T (w.setCell ⟨b, i, Option.none⟩ u) B v L :=
  h.kept (row := Option.some b) ⟨rfl, rfl, rfl, by simp, fun k _ hk => heap_setCell_other w ⟨b, i, Option.none⟩ k u (fun e => hk (by simp [e]))⟩ (.inr hne)
/-- cells stored one behind the other -/
def setCs (w : World) (g o : Nat) : List Value → World
  | [] => w
  | u :: l => setCs (w.setCell ⟨g, o, Option.none⟩ u) g (o + 1) l
/-- an element stored -/
def asetK (F : Fm α) (w : World) (g i : Nat) (q : α) : World := setCs w g (i * F.k) (F.f q)
theorem setCs_block (g k : Nat) (h : k ≠ g) : ∀ (l : List Value) (w : World) (o : Nat), (setCs w g o l).heap[k]? = w.heap[k]?
  | [], _, _ => rfl
  | u :: l, w, o => by rw [setCs, setCs_block g k h l, heap_setCell_other w ⟨g, o, Option.none⟩ k u h]
theorem setCs_own {T : TypeId} {B g cap n : Nat} {k : Nat} : ∀ (l : List Value) (w : World) (o : Nat) (C : List Value), w.ownsRow B T k (.slice (Option.some ⟨g, 0, Option.none⟩) n cap) n C → (setCs w g o l).ownsRow B T k (.slice (Option.some ⟨g, 0, Option.none⟩) n cap) n ((l.zipIdx o).foldl (fun C p => C.set p.2 p.1) C)
  | [], _, _, _, h => h
  | u :: l, w, o, C, h => by
    rw [setCs, List.zipIdx_cons, List.foldl_cons]
    exact setCs_own l _ (o + 1) _ (World.ownsRow.stored h o u).1
theorem setCs_list : ∀ (l M R : List Value) (A : List Value), M.length = l.length → (l.zipIdx A.length).foldl (fun C p => C.set p.2 p.1) (A ++ M ++ R) = A ++ l ++ R
  | [], M, R, A, h => by
    obtain rfl := List.eq_nil_of_length_eq_zero h
    rfl
  | u :: l, [], R, A, h => by simp at h
  | u :: l, m :: M, R, A, h => by
    rw [List.zipIdx_cons, List.foldl_cons]
    have e : (A ++ m :: M ++ R).set A.length u = (A ++ [u]) ++ M ++ R := by
      rw [List.append_assoc, List.set_append_right _ _ (Nat.le_refl _), Nat.sub_self]
      simp
    show List.foldl _ ((A ++ m :: M ++ R).set A.length u) _ = _
    rw [e]
    have := setCs_list l M R (A ++ [u]) (by simpa using h)
    rw [List.length_append, List.length_singleton] at this
    rw [this]
    simp
theorem acs_set (F : Fm α) (L : List α) (i : Nat) (q : α) (hi : i < L.length) : ((F.f q).zipIdx (i * F.k)).foldl (fun C p => C.set p.2 p.1) (F.cs L) = F.cs (L.set i q) := by
  have e1 : F.cs L = F.cs (L.take i) ++ F.f L[i] ++ F.cs (L.drop (i + 1)) := by
    rw [← F.cs_one, ← F.cs_two, ← F.cs_two]
    congr 1
    rw [List.append_assoc, List.singleton_append, ← List.drop_eq_getElem_cons hi, List.take_append_drop]
  have e2 : F.cs (L.set i q) = F.cs (L.take i) ++ F.f q ++ F.cs (L.drop (i + 1)) := by
    rw [← F.cs_one, ← F.cs_two, ← F.cs_two]
    congr 1
    rw [List.set_eq_take_append_cons_drop, if_pos hi, List.append_assoc, List.singleton_append]
  have e3 : i * F.k = (F.cs (L.take i)).length := by rw [F.cs_len, List.length_take, Nat.min_eq_left (by omega)]
  rw [e1, e2, e3]
  exact setCs_list (F.f q) (F.f L[i]) _ _ (by rw [F.len, F.len])
theorem KOw.store {T : TypeId} {w : World} {B g cap : Nat} {L : List α} (h : KOw F T w B g cap L) (i : Nat) (hi : i < L.length) (q : α) : KOw F T (asetK F w g i q) B g cap (L.set i q) := by
  have h3 := setCs_own (F.f q) w (i * F.k) _ h
  rw [acs_set F L i q hi] at h3
  unfold KOw
  rw [List.length_set]
  exact h3
theorem setCs_other {T : TypeId} {B : Nat} {v : Value} {L : List α} (b : Nat) (hne : v.ownBlock ≠ Option.some b) : ∀ (l : List Value) (w : World) (o : Nat), KOwn F T w B v L → KOwn F T (setCs w b o l) B v L
  | [], _, _, h => h
  | u :: l, _, o, h => setCs_other b hne l _ (o + 1) (h.store_other b o u hne)
theorem KOwn.setK_other {T : TypeId} {w : World} {B : Nat} {v : Value} {L : List α} {β : Type} {G : Fm β} (h : KOwn F T w B v L) (b i : Nat) (q : β) (hne : v.ownBlock ≠ Option.some b) : KOwn F T (asetK G w b i q) B v L :=
  setCs_other b hne _ _ _ h
theorem setCs_tab {e : TypeId} {L K : Nat} {f : Nat → Value} (b : Nat) (hne : L ≠ b) : ∀ (l : List Value) (w : World) (o : Nat), TabOf e w L K f → TabOf e (setCs w b o l) L K f
  | [], _, _, h => h
  | u :: l, _, o, h => setCs_tab b hne l _ (o + 1) (h.store_other b o u hne)
theorem TabOf.asetK {e : TypeId} {w : World} {L K : Nat} {f : Nat → Value} (h : TabOf e w L K f) (b i : Nat) (q : α) (hne : L ≠ b) : TabOf e (Go.Proofs.YtgblohjdiheemaaGreat.asetK F w b i q) L K f := setCs_tab b hne _ _ _ h
theorem setCs_keeps {G : Nat → Prop} {a : World} (b : Nat) (hb : G b ∨ a.heap.size ≤ b) : ∀ (l : List Value) (w : World) (o : Nat), Keeps G a w → Keeps G a (setCs w b o l)
  | [], _, _, h => h
  | u :: l, _, o, h => setCs_keeps b hb l _ (o + 1) (h.setCell b o u hb)
theorem Keeps.asetK {G : Nat → Prop} {a w : World} (h : Keeps G a w) (b i : Nat) (q : α) (hb : G b ∨ a.heap.size ≤ b) : Keeps G a (Go.Proofs.YtgblohjdiheemaaGreat.asetK F w b i q) := setCs_keeps b hb _ _ _ h
theorem KOwn.filled {T : TypeId} {w : World} {B : Nat} {p : Option Nat} {n c : Nat} {vs : List α} (h : KOwn F T w B (slA p n c) vs) (h0 : 0 < vs.length) : ∃ g, p = Option.some g ∧ n = vs.length ∧ KOw F T w B g c vs := by
  rcases h.form with ⟨_, e⟩ | ⟨g, cap, e, ho⟩
  · rw [e] at h0; exact absurd h0 (Nat.lt_irrefl 0)
  · cases p with
    | none => simp [slA] at e
    | some b =>
      simp [slA] at e
      obtain ⟨rfl, rfl, rfl⟩ := e
      exact ⟨b, rfl, rfl, ho⟩
theorem KOwn.full {T : TypeId} {w : World} {B g n c : Nat} {vs : List α} (h : KOwn F T w B (slA (Option.some g) n c) vs) : n = vs.length ∧ KOw F T w B g c vs := by
  rcases h.form with ⟨e, _⟩ | ⟨g', cap, e, ho⟩
  · simp [slA] at e
  · simp [slA] at e
    obtain ⟨rfl, rfl, rfl⟩ := e
    exact ⟨rfl, ho⟩
theorem KOw.caps {T T' : TypeId} {w : World} {B B' g cap cap' : Nat} {xs ys : List α} (h : KOw F T w B g cap xs) (h' : KOw F T' w B' g cap' ys) : cap = cap' := by
  obtain ⟨cur, _, h2, _, _, h5, _⟩ := h.parts
  obtain ⟨cur', _, h2', _, _, h5', _⟩ := h'.parts
  rw [h2] at h2'
  cases h2'
  exact Nat.eq_of_mul_eq_mul_right F.pos (h5.symm.trans h5')
theorem KOw.front {T : TypeId} {w : World} {B g cap : Nat} {xs ys : List α} (h : KOw F T w B g cap (xs ++ ys)) : KOw F T w B g cap xs := by
  obtain ⟨cur, h1, h2, h3, h4, h5, h6⟩ := h.parts
  rw [List.length_append] at h3
  refine KOw.mk h1 h2 (by omega) h4 h5 ?_
  have e : cur.toList.take (xs.length * F.k) = (cur.toList.take ((xs ++ ys).length * F.k)).take (xs.length * F.k) := by
    rw [List.take_take, List.length_append, Nat.min_eq_left (Nat.mul_le_mul_right _ (by omega))]
  rw [e, h6, F.cs_two, ← F.cs_len xs, List.take_left]

theorem TabOf.neK {e T : TypeId} (hT : T ≠ e) {w : World} {L K : Nat} {f : Nat → Value} (h : TabOf e w L K f) {B n c : Nat} {p : Option Nat} {vs : List α} (ho : KOwn F T w B (slA p n c) vs) : p ≠ some L := fun he => by
  subst he
  obtain ⟨cur, _, h2, _⟩ := ho.full.2.parts
  unfold TabOf at h
  rw [h2] at h
  injection h with h
  injection h with _ h
  exact hT h
/-- lists apart: each in a block of its own, or nil -/
def AllOwnK (F : Fm α) (T : TypeId) (w : World) (B K : Nat) (p : Nat → Option Nat) (n c : Nat → Nat) (ct : Nat → List α) : Prop := ∀ j, j < K → KOwn F T w B (slA (p j) (n j) (c j)) (ct j)
theorem AllOwnK.kept {T : TypeId} {w w' : World} {B K : Nat} {p : Nat → Option Nat} {n c : Nat → Nat} {ct : Nat → List α} {row : Option Nat} (h : AllOwnK F T w B K p n c ct) (hg : w.grownBy w' row) (hne : ∀ j, j < K → p j = none ∨ p j ≠ row) : AllOwnK F T w' B K p n c ct :=
  fun j hj => (h j hj).kept hg (by rw [sl_block]; exact hne j hj)
theorem AllOwnK.store_other {T : TypeId} {w : World} {B K : Nat} {p : Nat → Option Nat} {n c : Nat → Nat} {ct : Nat → List α} (h : AllOwnK F T w B K p n c ct) (b i : Nat) (v : Value) (hne : ∀ j, j < K → p j ≠ some b) : AllOwnK F T (w.setCell ⟨b, i, none⟩ v) B K p n c ct :=
  fun j hj => (h j hj).store_other b i v (by rw [sl_block]; exact hne j hj)
theorem AllOwnK.store {T : TypeId} {w : World} {B K : Nat} {p : Nat → Option Nat} {n c : Nat → Nat} {ct ct' : Nat → List α} (h : AllOwnK F T w B K p n c ct) (ha : Apart K p) (k i g : Nat) (hk : k < K) (hp : p k = some g) (hi : i < (ct k).length) (z : α) (h1 : ct' k = (ct k).set i z) (h2 : ∀ j, j ≠ k → ct' j = ct j) : AllOwnK F T (asetK F w g i z) B K p n c ct' := fun j hj => by
  by_cases e : j = k
  · subst e
    have ho := h j hj
    rw [hp] at ho
    obtain ⟨hn, ho2⟩ := ho.full
    rw [h1, hp, sl_some, hn]
    have := ho2.store i hi z
    have h3 : KOwn F T (asetK F w g i z) B (.slice (some ⟨g, 0, none⟩) ((ct j).set i z).length (c j)) ((ct j).set i z) := this.val
    rw [List.length_set] at h3
    exact h3
  · rw [h2 j e]
    refine (h j hj).setK_other g i _ ?_
    rw [sl_block]
    rcases ha j k hj hk e with h3 | h3
    · rw [h3]; simp
    · rw [← hp]; exact h3
theorem AllOwnK.drewN {T : TypeId} {w : World} {B K : Nat} {p : Nat → Option Nat} {n c : Nat → Nat} {ct : Nat → List α} (h : AllOwnK F T w B K p n c ct) (m : Nat) : AllOwnK F T (w.drewN m) B K p n c ct := h
theorem AllOwnK.drew {T : TypeId} {w : World} {B K : Nat} {p : Nat → Option Nat} {n c : Nat → Nat} {ct : Nat → List α} (h : AllOwnK F T w B K p n c ct) : AllOwnK F T w.drew B K p n c ct := h

/-- the first m marks of list k -/
def mkLK (mk : Nat → Nat → α) (k m : Nat) : List α := (List.range m).map (mk k)
theorem mkLK_length (mk : Nat → Nat → α) (k m : Nat) : (mkLK mk k m).length = m := by simp [mkLK]
theorem mkLK_succ (mk : Nat → Nat → α) (k m : Nat) : mkLK mk k (m + 1) = mkLK mk k m ++ [mk k m] := by simp [mkLK, List.range_succ]
theorem mkLK_at (mk : Nat → Nat → α) (k m i : Nat) (h : i < m) : (mkLK mk k m)[i]? = some (mk k i) := by simp [mkLK, h]

/-- list k, its first i places marked -/
def partK (mk : Nat → Nat → α) (xs : List α) (k i : Nat) : List α := mkLK mk k i ++ xs.drop i
theorem partK_zero (mk : Nat → Nat → α) (xs : List α) (k : Nat) : partK mk xs k 0 = xs := by simp [partK, mkLK]
theorem partK_end (mk : Nat → Nat → α) (xs : List α) (k n : Nat) (h : xs.length = n) : partK mk xs k n = mkLK mk k n := by simp [partK, h]
theorem partK_length (mk : Nat → Nat → α) (xs : List α) (k i n : Nat) (h : xs.length = n) (hi : i ≤ n) : (partK mk xs k i).length = n := by simp [partK, mkLK_length, h]; omega
theorem partK_step (mk : Nat → Nat → α) (xs : List α) (k i n : Nat) (h : xs.length = n) (hi : i < n) : (partK mk xs k i).set i (mk k i) = partK mk xs k (i + 1) := by
  unfold partK
  have hl : (mkLK mk k i).length = i := mkLK_length mk k i
  rw [List.set_append_right _ _ (by omega), hl, Nat.sub_self, mkLK_succ, List.append_assoc, List.drop_eq_getElem_cons (by omega : i < xs.length)]
  rfl

/-- what the lists hold in the first loop: those before k are marked, k up to i -/
def ctAtK (mk : Nat → Nat → α) (xs : Nat → List α) (n : Nat → Nat) (k i j : Nat) : List α := if j < k then mkLK mk j (n j) else if j = k then partK mk (xs j) j i else xs j
theorem ctAtK_zero (mk : Nat → Nat → α) (xs : Nat → List α) (n : Nat → Nat) (k j : Nat) : ctAtK mk xs n k 0 j = if j < k then mkLK mk j (n j) else xs j := by
  unfold ctAtK
  by_cases h : j < k
  · rw [if_pos h, if_pos h]
  · rw [if_neg h, if_neg h]
    split
    · exact partK_zero ..
    · rfl
theorem ctAtK_next (mk : Nat → Nat → α) (xs : Nat → List α) (n : Nat → Nat) (k j : Nat) (h : (xs k).length = n k) : ctAtK mk xs n k (n k) j = ctAtK mk xs n (k + 1) 0 j := by
  rw [ctAtK_zero]
  unfold ctAtK
  by_cases h1 : j < k
  · rw [if_pos h1, if_pos (by omega)]
  · rw [if_neg h1]
    by_cases h2 : j = k
    · subst h2
      rw [if_pos rfl, if_pos (by omega), partK_end _ _ _ _ h]
    · rw [if_neg h2, if_neg (by omega)]

/-- the first loop's state -/
structure St1K (F : Fm α) (T e : TypeId) (w : World) (K B L G : Nat) (p : Nat → Option Nat) (n c : Nat → Nat) (ct : Nat → List α) (wr : World) : Prop where
  own : AllOwnK F T wr B K p n c ct
  tab : TabOf e wr L K (fun k => slA (p k) (n k) (c k))
  gs : TabOf e wr G K (fun _ => .slice none 0 0)
  keeps : Keeps (GSet K p) w wr

theorem St1K.mark {T e : TypeId} {mk : Nat → Nat → α} (hT : T ≠ e) {w wr : World} {K B L G : Nat} {p : Nat → Option Nat} {n c : Nat → Nat} {xs : Nat → List α} {k i g : Nat} (h : St1K F T e w K B L G p n c (fun j => ctAtK mk xs n k i j) wr) (ha : Apart K p) (hk : k < K) (hp : p k = some g) (hx : (xs k).length = n k) (hi : i < n k) :
    St1K F T e w K B L G p n c (fun j => ctAtK mk xs n k (i + 1) j) (asetK F wr g i (mk k i)) := by
  have ho := h.own k hk
  have n1 := h.tab.neK hT ho
  have n2 := h.gs.neK hT ho
  rw [hp] at n1 n2
  refine ⟨h.own.store ha k i g hk hp (by simp only [ctAtK, Nat.lt_irrefl, if_false, if_true]; rw [partK_length mk (xs k) k i (n k) hx (by omega)]; exact hi) _ ?_ (fun j hj => ?_), h.tab.asetK _ _ _ (fun e => n1 (by rw [e])), h.gs.asetK _ _ _ (fun e => n2 (by rw [e])), h.keeps.asetK _ _ _ (.inl ⟨k, hk, hp⟩)⟩
  · simp only [ctAtK, Nat.lt_irrefl, if_false, if_true]
    exact (partK_step mk (xs k) k i (n k) hx hi).symm
  · simp [ctAtK, hj]
theorem St1K.drew {T e : TypeId} {w wr : World} {K B L G : Nat} {p : Nat → Option Nat} {n c : Nat → Nat} {ct : Nat → List α} (h : St1K F T e w K B L G p n c ct wr) : St1K F T e w K B L G p n c ct wr.drew := ⟨h.own.drew, h.tab.drew, h.gs.drew, h.keeps.drew⟩
theorem St1K.drewN {T e : TypeId} {w wr : World} {K B L G : Nat} {p : Nat → Option Nat} {n c : Nat → Nat} {ct : Nat → List α} (h : St1K F T e w K B L G p n c ct wr) (m : Nat) : St1K F T e w K B L G p n c ct (wr.drewN m) := ⟨h.own.drewN m, h.tab.drewN m, h.gs.drewN m, h.keeps.drewN m⟩
theorem St1K.grown {T e : TypeId} {w wr w1 : World} {K B L G : Nat} {p : Nat → Option Nat} {n c : Nat → Nat} {ct : Nat → List α} (h : St1K F T e w K B L G p n c ct wr) (hg : wr.grownBy w1 none) : St1K F T e w K B L G p n c ct w1 :=
  ⟨h.own.kept hg (fun j _ => by cases p j <;> simp), h.tab.kept hg (by simp), h.gs.kept hg (by simp), h.keeps.grown hg (fun _ e => by cases e)⟩

/-- the second loop's state: the lists before k have grown -/
structure St2K (F : Fm α) (T e : TypeId) (mk : Nat → Nat → α) (w : World) (K B L G : Nat) (p : Nat → Option Nat) (n c : Nat → Nat) (k : Nat) (ub uc : Nat → Nat) (wr : World) : Prop where
  own : AllOwnK F T wr B K p n c (fun j => mkLK mk j (n j))
  tab : TabOf e wr L K (fun k => slA (p k) (n k) (c k))
  gs : TabOf e wr G K (fun i => if i < k then .slice (some ⟨ub i, 0, none⟩) (n i + 64) (uc i) else .slice none 0 0)
  us : ∀ i, i < k → KOw F T wr B (ub i) (uc i) (mkLK mk i (n i + 64))
  sep : ∀ i, i < k → ∀ j, j < K → i ≠ j → p j ≠ some (ub i)
  keeps : Keeps (GSet K p) w wr

theorem St1K.next {T e : TypeId} {mk : Nat → Nat → α} {w wr : World} {K B L G : Nat} {p : Nat → Option Nat} {n c : Nat → Nat} {xs : Nat → List α} (h : St1K F T e w K B L G p n c (fun j => ctAtK mk xs n K 0 j) wr) : St2K F T e mk w K B L G p n c 0 (fun _ => 0) (fun _ => 0) wr :=
  ⟨fun j hj => by have := h.own j hj; simpa only [ctAtK_zero, if_pos hj] using this, h.tab, by simpa using h.gs, fun i hi => absurd hi (Nat.not_lt_zero i), fun i hi => absurd hi (Nat.not_lt_zero i), h.keeps⟩

/-- .. and while list k grows: it stands in block q (or is nil still), with j marks more -/
structure St2Ki (F : Fm α) (T e : TypeId) (mk : Nat → Nat → α) (w : World) (K B L G : Nat) (p : Nat → Option Nat) (n c : Nat → Nat) (k : Nat) (ub uc : Nat → Nat) (q : Option Nat) (gc j : Nat) (wr : World) : Prop where
  st : St2K F T e mk w K B L G p n c k ub uc wr
  cur : KOwn F T wr B (slA q (n k + j) gc) (mkLK mk k (n k + j))
  sepg : ∀ i, i < K → i ≠ k → q = none ∨ q ≠ p i
  sepu : ∀ i, i < k → q ≠ some (ub i)
  same : q = p k ∨ ∃ b, q = some b ∧ w.heap.size ≤ b

theorem St2K.start {T e : TypeId} {mk : Nat → Nat → α} {w wr : World} {K B L G : Nat} {p : Nat → Option Nat} {n c : Nat → Nat} {k : Nat} {ub uc : Nat → Nat} (h : St2K F T e mk w K B L G p n c k ub uc wr) (ha : Apart K p) (hk : k < K) : St2Ki F T e mk w K B L G p n c k ub uc (p k) (c k) 0 wr :=
  ⟨h, h.own k hk, fun i hi hne => ha k i hk hi (Ne.symm hne), fun i hi => h.sep i hi k hk (by omega), .inl rfl⟩

theorem St2Ki.grown {T e : TypeId} {mk : Nat → Nat → α} {w wr w1 : World} {K B L G : Nat} {p : Nat → Option Nat} {n c : Nat → Nat} {k : Nat} {ub uc : Nat → Nat} {q : Option Nat} {gc j : Nat} (h : St2Ki F T e mk w K B L G p n c k ub uc q gc j wr) (hg : wr.grownBy w1 none) : St2Ki F T e mk w K B L G p n c k ub uc q gc j w1 :=
  ⟨⟨h.st.own.kept hg (fun j _ => by cases p j <;> simp), h.st.tab.kept hg (by simp), h.st.gs.kept hg (by simp), fun i hi => KOwn.kept (h.st.us i hi).val hg (.inr (by simp [Value.ownBlock])), h.st.sep, h.st.keeps.grown hg (fun _ e => by cases e)⟩,
    h.cur.kept hg (by rw [sl_block]; cases q <;> simp), h.sepg, h.sepu, h.same⟩

theorem St2Ki.grows {T e : TypeId} {mk : Nat → Nat → α} {w wr w1 : World} {K B L G : Nat} {p : Nat → Option Nat} {n c : Nat → Nat} {k : Nat} {ub uc : Nat → Nat} {q : Option Nat} {gc j gb' gc' B' : Nat} (h : St2Ki F T e mk w K B L G p n c k ub uc q gc j wr) (hBw : B ≤ wr.heap.size) (hg : wr.grownBy w1 none) (hB : wr.heap.size ≤ B') (ho : KOw F T w1 B' gb' gc' (mkLK mk k (n k + j) ++ [mk k (n k + j)])) :
    St2Ki F T e mk w K B L G p n c k ub uc (some gb') gc' (j + 1) w1 := by
  have hb := ho.base
  have h1 := h.grown hg
  refine ⟨h1.st, ?_, fun i hi _ => .inr fun e => ?_, fun i hi e => ?_, .inr ⟨gb', rfl, Nat.le_trans h.st.keeps.size (by omega)⟩⟩
  · have h2 := (ho.lower (B' := B) (by omega)).val
    rw [show n k + (j + 1) = n k + j + 1 by omega, sl_some, mkLK_succ]
    rw [List.length_append, mkLK_length] at h2
    exact h2
  · have ho2 := h.st.own i hi
    rw [← e] at ho2
    have := ho2.full.2.lt
    omega
  · have := (h.st.us i hi).lt
    injection e with e
    omega

theorem St2Ki.fits {T e : TypeId} {mk : Nat → Nat → α} (hT : T ≠ e) {w wr w1 : World} {K B L G : Nat} {p : Nat → Option Nat} {n c : Nat → Nat} {k : Nat} {ub uc : Nat → Nat} {gb gc j : Nat} (h : St2Ki F T e mk w K B L G p n c k ub uc (some gb) gc j wr) (hk : k < K) (hg : wr.grownBy w1 (some gb)) (ho : KOw F T w1 B gb gc (mkLK mk k (n k + j) ++ [mk k (n k + j)])) :
    St2Ki F T e mk w K B L G p n c k ub uc (some gb) gc (j + 1) w1 := by
  have n1 := h.st.tab.neK hT h.cur
  have n2 := h.st.gs.neK hT h.cur
  refine ⟨⟨fun i hi => ?_, h.st.tab.kept hg (Ne.symm n1), h.st.gs.kept hg (Ne.symm n2), fun i hi => KOwn.kept (h.st.us i hi).val hg (.inr (Ne.symm (h.sepu i hi))), h.st.sep, h.st.keeps.grown hg (fun b e => ?_)⟩, ?_, h.sepg, h.sepu, h.same⟩
  · by_cases e : i = k
    · subst e
      by_cases eb : p i = some gb
      · have hi0 := h.st.own i hi
        rw [eb] at hi0
        obtain ⟨hn, hi1⟩ := hi0.full
        have hc := hi1.caps h.cur.full.2
        have hf := ho.front
        have hsp : mkLK mk i (n i + j) = mkLK mk i (n i) ++ (mkLK mk i (n i + j)).drop (n i) := by
          have ht : (mkLK mk i (n i + j)).take (n i) = mkLK mk i (n i) := by
            simp [mkLK, ← List.map_take, List.take_range]
          rw [← ht, List.take_append_drop]
        rw [hsp] at hf
        have hf2 := hf.front.val
        rw [mkLK_length] at hf2
        rw [hc, eb]
        exact hf2
      · exact (h.st.own i hi).kept hg (.inr (by rw [sl_block]; exact eb))
    · refine (h.st.own i hi).kept hg ?_
      rw [sl_block]
      rcases h.sepg i hi e with h3 | h3
      · cases h3
      · exact .inr (Ne.symm h3)
  · cases e
    rcases h.same with e | ⟨b, e, hb⟩
    · exact .inl ⟨k, hk, e.symm⟩
    · injection e with e
      subst e
      exact .inr hb
  · have h2 := ho.val
    rw [show n k + (j + 1) = n k + j + 1 by omega, sl_some, mkLK_succ]
    rw [List.length_append, mkLK_length] at h2
    exact h2

theorem St2Ki.done {T e : TypeId} {mk : Nat → Nat → α} (hT : T ≠ e) {w wr : World} {K B L G : Nat} {p : Nat → Option Nat} {n c : Nat → Nat} {k : Nat} {ub uc : Nat → Nat} {gb gc : Nat} (h : St2Ki F T e mk w K B L G p n c k ub uc (some gb) gc 64 wr) (hG : w.heap.size ≤ G) (hL : L < w.heap.size) :
    St2K F T e mk w K B L G p n c (k + 1) (fun i => if i = k then gb else ub i) (fun i => if i = k then gc else uc i) (wr.setCell ⟨G, k, none⟩ (.slice (some ⟨gb, 0, none⟩) (n k + 64) gc)) := by
  refine ⟨h.st.own.store_other _ _ _ (fun j hj => h.st.gs.neK hT (h.st.own j hj)), ?_, ?_, fun i hi => ?_, fun i hi j hj hne => ?_, h.st.keeps.setCell _ _ _ (.inr hG)⟩
  · exact h.st.tab.store_other _ _ _ (by omega)
  · have := h.st.gs.store k (.slice (some ⟨gb, 0, none⟩) (n k + 64) gc)
    have e : (fun i => if i = k then Value.slice (some ⟨gb, 0, none⟩) (n k + 64) gc else if i < k then Value.slice (some ⟨ub i, 0, none⟩) (n i + 64) (uc i) else .slice none 0 0) = fun i => if i < k + 1 then Value.slice (some ⟨if i = k then gb else ub i, 0, none⟩) (n i + 64) (if i = k then gc else uc i) else .slice none 0 0 := by
      funext i
      by_cases e : i = k
      · subst e; simp
      · by_cases hi : i < k
        · simp [e, hi, show i < k + 1 by omega]
        · simp [e, hi, show ¬ i < k + 1 by omega]
    rw [e] at this
    exact this
  · by_cases e : i = k
    · subst e
      simp only [if_true]
      have h2 := h.cur.store_other G i (.slice (some ⟨gb, 0, none⟩) (n i + 64) gc) (by rw [sl_block]; exact h.st.gs.neK hT h.cur)
      exact h2.full.2
    · simp only [e, if_false]
      have hu : KOwn F T wr B (slA (some (ub i)) (n i + 64) (uc i)) (mkLK mk i (n i + 64)) := by
        have := (h.st.us i (by omega)).val
        rw [mkLK_length] at this
        exact this
      exact (hu.store_other G k _ (by rw [sl_block]; exact h.st.gs.neK hT hu)).full.2
  · by_cases e : i = k
    · subst e
      simp only [if_true]
      rcases h.sepg j hj (Ne.symm hne) with h3 | h3
      · cases h3
      · exact Ne.symm h3
    · simp only [e, if_false]
      exact h.st.sep i (by omega) j hj hne
/-- what stands where the first loop marks -/
theorem St1K.look {T e : TypeId} {mk : Nat → Nat → α} (hT : T ≠ e) {w wr : World} {K B L G : Nat} {p : Nat → Option Nat} {n c : Nat → Nat} {xs : Nat → List α} {k i g : Nat} (h : St1K F T e w K B L G p n c (fun j => ctAtK mk xs n k i j) wr) (hk : k < K) (hp : p k = Option.some g) (hx : (xs k).length = n k) (hi : i < n k) :
    wr.cell? ⟨L, k, Option.none⟩ = Option.some (.slice (Option.some ⟨g, 0, Option.none⟩) (n k) (c k)) ∧ (∃ q : α, ∀ j, j < F.k → wr.cell? ⟨g, i * F.k + j, Option.none⟩ = (F.f q)[j]?) ∧ (∀ j, wr.frozen? ⟨g, j, Option.none⟩ = false) ∧ L ≠ g := by
  have cl := h.tab.cell k hk
  rw [sl_ptrK, hp, ptrK_some] at cl
  have ho := h.own k hk
  have hne : L ≠ g := fun e => h.tab.neK hT ho (by rw [hp, e])
  have hct : ctAtK mk xs n k i k = partK mk (xs k) k i := by simp [ctAtK]
  have hpl := partK_length mk (xs k) k i (n k) hx (by omega)
  rw [hp, hct] at ho
  obtain ⟨-, ho2⟩ := ho.full
  exact ⟨cl, ⟨(partK mk (xs k) k i)[i]'(by omega), fun j hj => ho2.cell i (by omega) j hj⟩, fun j => ho2.free j, hne⟩
/-- an element's cells -/
def AtK (F : Fm α) (w : World) (g i : Nat) (q : α) : Prop := ∀ j, j < F.k → w.cell? ⟨g, i * F.k + j, Option.none⟩ = (F.f q)[j]?
theorem KOw.at {T : TypeId} {w : World} {B g cap : Nat} {L : List α} (h : KOw F T w B g cap L) {i : Nat} {q : α} (hq : L[i]? = Option.some q) : AtK F w g i q := by
  obtain ⟨hi, rfl⟩ := List.getElem?_eq_some_iff.1 hq
  exact fun j hj => h.cell i hi j hj
/-- what the third loop reads -/
theorem St2K.look {T e : TypeId} {mk : Nat → Nat → α} {w wr : World} {K B L G : Nat} {p : Nat → Option Nat} {n c : Nat → Nat} {ub uc : Nat → Nat} (h : St2K F T e mk w K B L G p n c K ub uc wr) (k : Nat) (hk : k < K) :
    wr.cell? ⟨L, k, none⟩ = some (.slice (ptrK (p k)) (n k) (c k)) ∧ wr.cell? ⟨G, k, none⟩ = some (.slice (some ⟨ub k, 0, none⟩) (n k + 64) (uc k)) ∧ (∀ i, i < n k + 64 → AtK F wr (ub k) i (mk k i)) ∧ (0 < n k → ∃ g, p k = some g ∧ ∀ i, i < n k → AtK F wr g i (mk k i)) := by
  refine ⟨h.tab.cell k hk, ?_, fun i hi => ?_, fun h0 => ?_⟩
  · have := h.gs.cell k hk
    rwa [if_pos hk] at this
  · exact (h.us k hk).at (mkLK_at mk k _ i hi)
  · obtain ⟨g, hp, -, ho⟩ := (h.own k hk).filled (by rw [mkLK_length]; exact h0)
    exact ⟨g, hp, fun i hi => ho.at (mkLK_at mk k _ i hi)⟩
theorem St2K.grown {T e : TypeId} {mk : Nat → Nat → α} {w wr w1 : World} {K B L G : Nat} {p : Nat → Option Nat} {n c : Nat → Nat} {k : Nat} {ub uc : Nat → Nat} (h : St2K F T e mk w K B L G p n c k ub uc wr) (hg : wr.grownBy w1 none) : St2K F T e mk w K B L G p n c k ub uc w1 :=
  ⟨h.own.kept hg (fun j _ => by cases p j <;> simp), h.tab.kept hg (by simp), h.gs.kept hg (by simp), fun i hi => KOwn.kept (h.us i hi).val hg (.inr (by simp [Value.ownBlock])), h.sep, h.keeps.grown hg (fun _ e => by cases e)⟩
end
end Go.Proofs.YtgblohjdiheemaaGreat

/- What switchyardkit.ApartViews answers, for lists that lie apart (or are nil): true; nothing but these lists is turned. -/
namespace Go.Proofs.YtgblohjdiheemaaGreat
open Go.RowKit

theorem Tryz.info36' : (Tryz.prog.info? 36).map (fun i => (i.zero, i.size, i.bytes)) = some (some (.slice none 0 0), 1, 24) := by kernel_rfl
/-- 'append(g, z)' within the room -/
theorem kfits {α : Type} {F : Fm α} {ops : Array Oper} {rest : List Oper} {o : Oper} {a : Act} {Q : Exit → Act → World → Prop} {t T : TypeId} {by_ : Nat} (he : ElemK F t T by_) (w : World) (hgd : o.guard = none) (s x : Operand)
    (ho : o.op = .call { callee := .builtin .append, args := #[s, x], argTypes := #[t, t] }) (B g k cap : Nat) (xs : List α) (hs : a.eval s = .slice (some ⟨g, 0, none⟩) k cap) (hk : xs.length = k) (hown : KOw F T w B g cap xs)
    (ad : Addr) (m : Nat) (q : α) (hx : a.eval x = .slice (some ad) 1 m) (hnews : ∀ j u, (F.f q)[j]? = some u → w.cell? (ad.add j) = some u) (hroom : k + 1 ≤ cap)
    (h : ∀ w', KOw F T w' B g cap (xs ++ [q]) → w.grownBy w' (some g) → wpList Tryz.prog ops Q rest (a.put o.dst (.slice (some ⟨g, 0, none⟩) (k + 1) cap)) w') :
    wpList Tryz.prog ops Q (o :: rest) a w := by
  obtain ⟨hu, z0, hzc, hinfo⟩ := he
  obtain ⟨i0, hi, hz0, hz2, hz3⟩ := info_parts hinfo
  subst hk
  refine wpList_append_fits w hgd s x t ho B T i0 F.k hu hi hz2 g xs.length cap (F.cs xs) hs hown ad 1 m (F.f q) hx (by rw [F.len, Nat.one_mul]) hnews (F.one q) hroom fun w' h1 h2 => h w' ?_ h2
  unfold KOw
  rw [List.length_append, F.cs_two]
  have e : F.cs [q] = F.f q := F.cs_one q
  rw [e]
  exact h1
/-- 'append(g, z)' without room: a new block -/
theorem kgrows {α : Type} {F : Fm α} {ops : Array Oper} {rest : List Oper} {o : Oper} {a : Act} {Q : Exit → Act → World → Prop} {t T : TypeId} {by_ : Nat} (he : ElemK F t T by_) (w : World) (hgd : o.guard = none) (s x : Operand)
    (ho : o.op = .call { callee := .builtin .append, args := #[s, x], argTypes := #[t, t] }) (B k cap : Nat) (q : Option Nat) (xs : List α) (hs : a.eval s = .slice (q.map fun b => ⟨b, 0, none⟩) k cap) (hk : xs.length = k) (hown : KOwn F T w B (slA q k cap) xs)
    (ad : Addr) (m : Nat) (z : α) (hx : a.eval x = .slice (some ad) 1 m) (hnews : ∀ j u, (F.f z)[j]? = some u → w.cell? (ad.add j) = some u) (hfull : cap < k + 1) (hlen : k + 1 ≤ 140737488355328) (hby : (k + 1) * by_ ≤ 140737488355328)
    (h : ∀ g' cap' w', KOw F T w' w.heap.size g' cap' (xs ++ [z]) → w.grownBy w' none → wpList Tryz.prog ops Q rest (a.put o.dst (.slice (some ⟨g', 0, none⟩) (k + 1) cap')) w') :
    wpList Tryz.prog ops Q (o :: rest) a w := by
  obtain ⟨hu, z0, hzc, hinfo⟩ := he
  obtain ⟨i0, hi, hz0, hz2, hz3⟩ := info_parts hinfo
  subst hk
  refine wpList_append_grows w hgd s x t ho T i0 z0 F.k by_ hu hi hz0 hz2 hz3 hzc F.pos _ xs.length cap (F.cs xs) hs (fun e => ?_) (F.cs_len xs) (fun b e j u hj => ?_) ad 1 m (F.f z) hx (by rw [F.len, Nat.one_mul]) hnews (F.one z) hfull (by unfold maxLen; omega) hby fun v' w' h1 h2 => ?_
  · cases q with
    | some g => cases e
    | none =>
      rcases hown.form with ⟨e2, e3⟩ | ⟨g, cap', e2, _⟩
      · injection e2 with _ e4 e5; exact ⟨e4, e5⟩
      · simp [slA] at e2
  · cases q with
    | none => cases e
    | some g =>
      cases e
      have hjl : j < (F.cs xs).length := by
        rcases Nat.lt_or_ge j (F.cs xs).length with h | h
        · exact h
        · rw [List.getElem?_eq_none h] at hj; cases hj
      have hr : w.ownsRow B T F.k (.slice (some ⟨g, 0, none⟩) xs.length cap) xs.length (F.cs xs) := hown.full.2
      rw [← hj, ← hr.cellAt j (by rw [F.cs_len] at hjl; exact hjl), Go.WideShapes.add_plain, Nat.zero_add]
  · have hv : KOwn F T w' w.heap.size v' (xs ++ [z]) := by
      unfold KOwn
      rw [List.length_append, F.cs_two]
      have e : F.cs [z] = F.f z := F.cs_one z
      rw [e]
      exact h1
    rcases hv.form with ⟨_, e⟩ | ⟨g', cap', e, ho'⟩
    · simp at e
    · subst e
      rw [List.length_append]
      exact h g' cap' w' ho' h2

/-- the mark of place i in list k -/
def mvV (k i : Nat) : Vw := ⟨k, i, 0, 0, false⟩
set_option maxRecDepth 100000 in
set_option maxHeartbeats 4000000 in
theorem apartViews_any (K B L : Nat) (p : Nat → Option Nat) (n c : Nat → Nat) (xs : Nat → List Vw) (w : World) (hK : K ≤ 1000) (hap : Apart K p) (hx : ∀ k, k < K → (xs k).length = n k) (hn : ∀ k, k < K → n k ≤ 1099511627776) (hB : B ≤ w.heap.size)
    (hown : AllOwnK fW 39 w B K p n c xs) (htab : TabOf 36 w L K (fun k => slA (p k) (n k) (c k))) :
    Calls Tryz.prog 25 #[.slice (some ⟨L, 0, none⟩) K K] w fun e w' => e = .returned (.bool true) ∧ Keeps (GSet K p) w w' := by
  obtain ⟨i0, hi, hz0, hz1, hz2⟩ := info_parts Tryz.info36'
  have HX : Hid (∀ k, k < K → (xs k).length = n k) := hx
  have HN : Hid (∀ k, k < K → n k ≤ 1099511627776) := hn
  clear hx hn
  go_enter Tryz.func25, Tryz.ntmps25
  go_wp2_with (at_make; refine wpList_make_full _ rfl _ _ 58 rfl _ 36 i0 (.slice none 0 0) 1 Tryz.underlying58 hi hz0 hz1 _ _ _ _ K rfl rfl rfl rfl (by rw [hz2]; omega) (by unfold maxLen; omega) (Nat.le_refl _) ?_; intro w1 hmk hgrow; have hst : St1K fW 39 36 w K B L w.heap.size p n c (fun j => ctAtK mvV xs n 0 0 j) w1 := ⟨fun j hj => by rw [ctAtK_zero, if_neg (Nat.not_lt_zero j)]; exact (hown j hj).kept hgrow (by rw [sl_block]; cases p j <;> simp), htab.kept hgrow (by simp), TabOf.made hmk, (Keeps.refl _ _).grown hgrow (by simp)⟩; clear hmk hgrow)
  have hGs : w.heap.size = w.heap.size := rfl
  generalize hG : w.heap.size = G at hst ⊢
  clear hGs
  have hGle : w.heap.size ≤ G := by omega
  have hLlt : L < w.heap.size := htab.lt
  clear hG hown htab
  go_loopw [4] (fun kv wr => ∃ k : Nat, k ≤ K ∧ kv = .int .i64 k ∧ St1K fW 39 36 w K B L G p n c (fun j => ctAtK mvV xs n k 0 j) wr) (fun kv _ => K - (intOf kv).toNat)
  case atStart => exact ⟨0, Nat.zero_le _, rfl, hst⟩
  case round =>
    obtain ⟨k, hk, rfl, hs⟩ := hrel
    clear hst
    by_cases hlt : k < K
    · go_wp2
      go_loopw [5] (fun iv wr => ∃ i : Nat, i ≤ n k ∧ iv = .int .i64 i ∧ St1K fW 39 36 w K B L G p n c (fun j => ctAtK mvV xs n k i j) wr) (fun iv _ => n k - (intOf iv).toNat)
      case atStart => exact ⟨0, Nat.zero_le _, rfl, hs⟩
      case round =>
        obtain ⟨i, hik, rfl, hs2⟩ := hrel
        clear hs
        have cl := hs2.tab.cell k hlt
        rw [sl_ptrK] at cl
        have hnk := HN.out k hlt
        by_cases hi2 : i < n k
        · obtain ⟨g, hp⟩ : ∃ g, p k = some g := by
            have ho := hs2.own k hlt
            have hct : ctAtK mvV xs n k i k = partK mvV (xs k) k i := by simp [ctAtK]
            rw [hct] at ho
            have hpl := partK_length mvV (xs k) k i (n k) (HX.out k hlt) hik
            obtain ⟨g, hp, -, -⟩ := ho.filled (by omega)
            exact ⟨g, hp⟩
          clear cl
          obtain ⟨cl, ⟨old, cg⟩, fg, hne⟩ := hs2.look (by decide) hlt hp (HX.out k hlt) hi2
          have cg0 : wr.cell? ⟨g, i * 5, none⟩ = some (.int .i64 old.h) := cg 0 (by decide)
          have fg0 : wr.frozen? ⟨g, i * 5, none⟩ = false := fg _
          have cg1 : wr.cell? ⟨g, i * 5 + 1, none⟩ = some (.int .i64 old.s) := cg 1 (by decide)
          have fg1 : wr.frozen? ⟨g, i * 5 + 1, none⟩ = false := fg _
          have cg2 : wr.cell? ⟨g, i * 5 + 2, none⟩ = some (.int .i64 old.o) := cg 2 (by decide)
          have fg2 : wr.frozen? ⟨g, i * 5 + 2, none⟩ = false := fg _
          have cg3 : wr.cell? ⟨g, i * 5 + 3, none⟩ = some (.int .i64 old.n) := cg 3 (by decide)
          have fg3 : wr.frozen? ⟨g, i * 5 + 3, none⟩ = false := fg _
          have cg4 : wr.cell? ⟨g, i * 5 + 4, none⟩ = some (.bool old.m) := cg 4 (by decide)
          have fg4 : wr.frozen? ⟨g, i * 5 + 4, none⟩ = false := fg _
          clear cg fg
          have hs3 : St1K fW 39 36 w K B L G p n c (fun j => ctAtK mvV xs n k (i + 1) j) (((((wr.setCell ⟨g, i * 5, none⟩ (.int .i64 k)).setCell ⟨g, i * 5 + 1, none⟩ (.int .i64 i)).setCell ⟨g, i * 5 + 2, none⟩ (.int .i64 0)).setCell ⟨g, i * 5 + 3, none⟩ (.int .i64 0)).setCell ⟨g, i * 5 + 4, none⟩ (.bool false)) := hs2.mark (by decide) hap hlt hp (HX.out k hlt) hi2
          have q0 : (0 : Int) ≤ (k : Int) := by omega
          have q1 : (k : Int) < (K : Int) := by omega
          have q2 : (0 : Int) ≤ (i : Int) := by omega
          have q3 : (i : Int) < (n k : Int) := by omega
          have HP : Hid (p k = some g) := hp
          clear hs2 hp
          go_wp2_with fail
          go_roundw
          case rel => exact ⟨i + 1, by omega, by go_num, hs3⟩
          case measure => simp [intOf]; omega
        · have hs4 : St1K fW 39 36 w K B L G p n c (fun j => ctAtK mvV xs n (k + 1) 0 j) wr := by
            obtain rfl : i = n k := by omega
            have e : (fun j => ctAtK mvV xs n k (n k) j) = fun j => ctAtK mvV xs n (k + 1) 0 j := funext fun j => ctAtK_next mvV xs n k j (HX.out k hlt)
            rw [← e]
            exact hs2
          clear hs2
          go_wp2
          go_roundw
          case rel => exact ⟨k + 1, by omega, by go_num, hs4⟩
          case measure => simp [intOf]; omega
    · have hs0 : St2K fW 39 36 mvV w K B L G p n c 0 (fun _ => 0) (fun _ => 0) wr := by
        have hkK : k = K := by omega
        rw [hkK] at hs
        exact hs.next
      clear hs
      go_wp2
      go_loopw [6] (fun kv wr => ∃ (k : Nat) (ub uc : Nat → Nat), k ≤ K ∧ kv = .int .i64 k ∧ St2K fW 39 36 mvV w K B L G p n c k ub uc wr) (fun kv _ => K - (intOf kv).toNat)
      case atStart => exact ⟨0, _, _, Nat.zero_le _, rfl, hs0⟩
      case round =>
        obtain ⟨k2, ub, uc, hk2, rfl, hs⟩ := hrel
        clear hs0
        by_cases hlt2 : k2 < K
        · have cl := hs.tab.cell k2 hlt2
          rw [sl_ptrK] at cl
          have hs1 := hs.start hap hlt2
          have hnk := HN.out k2 hlt2
          clear hs
          go_wp2
          go_loopw [7, 8] (fun gv jv wr => ∃ (j gc : Nat) (q : Option Nat), j ≤ 64 ∧ jv = .int .i64 j ∧ gv = .slice (ptrK q) (n k2 + j) gc ∧ St2Ki fW 39 36 mvV w K B L G p n c k2 ub uc q gc j wr) (fun _ jv _ => 64 - (intOf jv).toNat)
          case atStart => exact ⟨0, _, _, Nat.zero_le _, rfl, rfl, hs1⟩
          case round =>
            obtain ⟨j, gc, q, hj, rfl, rfl, hs2⟩ := hrel
            clear hs1 cl
            have cl := hs2.st.tab.cell k2 hlt2
            rw [sl_ptrK] at cl
            by_cases hj2 : j < 64
            · have hml := mkLK_length mvV k2 (n k2 + j)
              have hwn : IntKind.i64.wrap ((n k2 : Int) + (j : Int)) = (n k2 : Int) + (j : Int) := by rw [IntKind.wrap_i64]; omega
              have hsa := fun o => hs2.grown (World.grownBy_alloc wr o none)
              by_cases hroom : n k2 + j + 1 ≤ gc
              · obtain ⟨gb, rfl⟩ : ∃ gb, q = some gb := by
                  cases q with
                  | some gb => exact ⟨gb, rfl⟩
                  | none =>
                    rcases hs2.cur.form with ⟨e2, -⟩ | ⟨_, _, e2, _⟩
                    · simp [slA] at e2; omega
                    · simp [slA] at e2
                rw [ptrK_some]
                clear hs2
                go_wp2_with (at_builtin; refine kfits elemW _ rfl _ _ rfl B gb (n k2 + j) gc (mkLK mvV k2 (n k2 + j)) rfl hml (hsa _).cur.full.2 ⟨_, 0, none⟩ 1 (mvV k2 (n k2 + j)) rfl (Fm.news fW _ (mvV k2 (n k2 + j)) 39 #[.int .i64 k2, .int .i64 (n k2 + j : Nat), .int .i64 0, .int .i64 0, .bool false] rfl) hroom ?_; intro w3 ho3 hg3; have hs3 := (hsa _).fits (by decide) hlt2 hg3 ho3)
                go_roundw
                case rel => exact ⟨j + 1, gc, some gb, by omega, by go_num, by rw [show n k2 + (j + 1) = n k2 + j + 1 by omega]; rfl, hs3⟩
                case measure => simp [intOf]; omega
              · have hBw : ∀ o, B ≤ (wr.alloc o).heap.size := fun o => Nat.le_trans hB (hsa o).st.keeps.size
                clear hs2
                go_wp2_with (at_builtin; refine kgrows elemW _ rfl _ _ rfl B (n k2 + j) gc q (mkLK mvV k2 (n k2 + j)) rfl hml (hsa _).cur ⟨_, 0, none⟩ 1 (mvV k2 (n k2 + j)) rfl (Fm.news fW _ (mvV k2 (n k2 + j)) 39 #[.int .i64 k2, .int .i64 (n k2 + j : Nat), .int .i64 0, .int .i64 0, .bool false] rfl) (by omega) (by omega) (by omega) ?_; intro gb2 gc2 w3 ho3 hg3; have hs3 := (hsa _).grows (hBw _) hg3 (Nat.le_refl _) ho3)
                go_roundw
                case rel => exact ⟨j + 1, gc2, some gb2, by omega, by go_num, by rw [show n k2 + (j + 1) = n k2 + j + 1 by omega]; rfl, hs3⟩
                case measure => simp [intOf]; omega
            · obtain rfl : j = 64 := by omega
              obtain ⟨gb, rfl⟩ : ∃ gb, q = some gb := by
                obtain ⟨gb, e, -, -⟩ := hs2.cur.filled (by rw [mkLK_length]; omega)
                exact ⟨gb, e⟩
              rw [ptrK_some]
              have cg := hs2.st.gs.cell k2 hlt2
              have fg := hs2.st.gs.free k2
              rw [if_neg (Nat.lt_irrefl k2)] at cg
              have hs3 := hs2.done (by decide) hGle hLlt
              clear hs2
              go_wp2
              go_roundw
              case rel => exact ⟨k2 + 1, _, _, by omega, by go_num, hs3⟩
              case measure => simp [intOf]; omega
        · have hkK : k2 = K := by omega
          rw [hkK] at hs
          clear hkK
          go_wp2
          go_loopw [10] (fun kv wx => ∃ k : Nat, k ≤ K ∧ kv = .int .i64 k ∧ St2K fW 39 36 mvV w K B L G p n c K ub uc wx) (fun kv _ => K - (intOf kv).toNat)
          case atStart => exact ⟨0, Nat.zero_le _, rfl, hs⟩
          case round =>
            clear hs
            obtain ⟨k3, hk3, rfl, hs⟩ := hrel
            by_cases hlt3 : k3 < K
            · obtain ⟨cl, cg, -, -⟩ := hs.look k3 hlt3
              have hnk := HN.out k3 hlt3
              go_wp2
              go_loopw [11] (fun iv wx => ∃ i : Nat, i ≤ n k3 + 64 ∧ iv = .int .i64 i ∧ St2K fW 39 36 mvV w K B L G p n c K ub uc wx) (fun iv _ => n k3 + 64 - (intOf iv).toNat)
              case atStart => exact ⟨0, Nat.zero_le _, rfl, hs⟩
              case round =>
                clear hs cl cg
                obtain ⟨i, hi3, rfl, hs⟩ := hrel
                obtain ⟨cl, cg, hU, hV⟩ := hs.look k3 hlt3
                by_cases hi4 : i < n k3 + 64
                · have cu := hU i hi4
                  have cu0 : wr.cell? ⟨ub k3, i * 5, none⟩ = some (.int .i64 k3) := cu 0 (by decide)
                  have cu1 : wr.cell? ⟨ub k3, i * 5 + 1, none⟩ = some (.int .i64 i) := cu 1 (by decide)
                  have cu2 : wr.cell? ⟨ub k3, i * 5 + 2, none⟩ = some (.int .i64 0) := cu 2 (by decide)
                  have cu3 : wr.cell? ⟨ub k3, i * 5 + 3, none⟩ = some (.int .i64 0) := cu 3 (by decide)
                  have cu4 : wr.cell? ⟨ub k3, i * 5 + 4, none⟩ = some (.bool false) := cu 4 (by decide)
                  clear cu
                  by_cases hi5 : i < n k3
                  · obtain ⟨g, hp, hv⟩ := hV (by omega)
                    have cv := hv i hi5
                    have cv0 : wr.cell? ⟨g, i * 5, none⟩ = some (.int .i64 k3) := cv 0 (by decide)
                    have cv1 : wr.cell? ⟨g, i * 5 + 1, none⟩ = some (.int .i64 i) := cv 1 (by decide)
                    have cv2 : wr.cell? ⟨g, i * 5 + 2, none⟩ = some (.int .i64 0) := cv 2 (by decide)
                    have cv3 : wr.cell? ⟨g, i * 5 + 3, none⟩ = some (.int .i64 0) := cv 3 (by decide)
                    have cv4 : wr.cell? ⟨g, i * 5 + 4, none⟩ = some (.bool false) := cv 4 (by decide)
                    clear cv
                    have hi6 : (i : Int) < (n k3 : Int) := by omega
                    rw [hp, ptrK_some] at cl
                    clear hp hv hU hV
                    go_wp2_with fail
                    go_roundw
                    case rel => exact ⟨i + 1, by omega, by go_num, hs⟩
                    case measure => simp [intOf]; omega
                  · have hd : decide ((i : Int) < (n k3 : Int)) = false := by simp; omega
                    clear hU hV
                    go_wp2_with fail
                    go_roundw
                    case rel => exact ⟨i + 1, by omega, by go_num, hs⟩
                    case measure => simp [intOf]; omega
                · go_wp2
                  go_roundw
                  case rel => exact ⟨k3 + 1, by omega, by go_num, hs⟩
                  case measure => simp [intOf]; omega
            · go_wp2
              go_ret
              exact ⟨rfl, hs.keeps⟩

end Go.Proofs.YtgblohjdiheemaaGreat

/- What switchyardkit.ApartCounts answers, for lists that lie apart (or are nil): true; nothing but these lists is turned. -/
namespace Go.Proofs.YtgblohjdiheemaaGreat
open Go.RowKit

theorem Tryz.info46' : (Tryz.prog.info? 46).map (fun i => (i.zero, i.size, i.bytes)) = some (some (.slice none 0 0), 1, 24) := by kernel_rfl
/-- counts, all five -/
structure Cn4 where
  s : Int
  w : Int
  r : Int
  t : Int
  u : Int
def fC4 : Fm Cn4 where
  k := 5
  f := fun x => [.int .i64 x.s, .int .i64 x.w, .int .i64 x.r, .int .i64 x.t, .int .i64 x.u]
  pos := by decide
  len := fun _ => rfl
  one := fun x u hu => by
    simp only [List.mem_cons, List.not_mem_nil, or_false] at hu
    rcases hu with rfl | rfl | rfl | rfl | rfl <;> rfl
theorem elemC4 : ElemK fC4 46 49 40 := ⟨Tryz.underlying46, .agg #[.int .i64 0, .int .i64 0, .int .i64 0, .int .i64 0, .int .i64 0], rfl, by kernel_rfl⟩
def mcV (k i : Nat) : Cn4 := ⟨k, 0, 0, i, 0⟩
set_option maxRecDepth 100000 in
set_option maxHeartbeats 4000000 in
theorem apartCounts_any (K B L : Nat) (p : Nat → Option Nat) (n c : Nat → Nat) (xs : Nat → List Cn4) (w : World) (hK : K ≤ 1000) (hap : Apart K p) (hx : ∀ k, k < K → (xs k).length = n k) (hn : ∀ k, k < K → n k ≤ 1099511627776) (hB : B ≤ w.heap.size)
    (hown : AllOwnK fC4 49 w B K p n c xs) (htab : TabOf 46 w L K (fun k => slA (p k) (n k) (c k))) :
    Calls Tryz.prog 27 #[.slice (some ⟨L, 0, none⟩) K K] w fun e w' => e = .returned (.bool true) ∧ Keeps (GSet K p) w w' := by
  obtain ⟨i0, hi, hz0, hz1, hz2⟩ := info_parts Tryz.info46'
  have HX : Hid (∀ k, k < K → (xs k).length = n k) := hx
  have HN : Hid (∀ k, k < K → n k ≤ 1099511627776) := hn
  clear hx hn
  go_enter Tryz.func27, Tryz.ntmps27
  go_wp2_with (at_make; refine wpList_make_full _ rfl _ _ 62 rfl _ 46 i0 (.slice none 0 0) 1 Tryz.underlying62 hi hz0 hz1 _ _ _ _ K rfl rfl rfl rfl (by rw [hz2]; omega) (by unfold maxLen; omega) (Nat.le_refl _) ?_; intro w1 hmk hgrow; have hst : St1K fC4 49 46 w K B L w.heap.size p n c (fun j => ctAtK mcV xs n 0 0 j) w1 := ⟨fun j hj => by rw [ctAtK_zero, if_neg (Nat.not_lt_zero j)]; exact (hown j hj).kept hgrow (by rw [sl_block]; cases p j <;> simp), htab.kept hgrow (by simp), TabOf.made hmk, (Keeps.refl _ _).grown hgrow (by simp)⟩; clear hmk hgrow)
  have hGs : w.heap.size = w.heap.size := rfl
  generalize hG : w.heap.size = G at hst ⊢
  clear hGs
  have hGle : w.heap.size ≤ G := by omega
  have hLlt : L < w.heap.size := htab.lt
  clear hG hown htab
  go_loopw [4] (fun kv wr => ∃ k : Nat, k ≤ K ∧ kv = .int .i64 k ∧ St1K fC4 49 46 w K B L G p n c (fun j => ctAtK mcV xs n k 0 j) wr) (fun kv _ => K - (intOf kv).toNat)
  case atStart => exact ⟨0, Nat.zero_le _, rfl, hst⟩
  case round =>
    obtain ⟨k, hk, rfl, hs⟩ := hrel
    clear hst
    by_cases hlt : k < K
    · go_wp2
      go_loopw [5] (fun iv wr => ∃ i : Nat, i ≤ n k ∧ iv = .int .i64 i ∧ St1K fC4 49 46 w K B L G p n c (fun j => ctAtK mcV xs n k i j) wr) (fun iv _ => n k - (intOf iv).toNat)
      case atStart => exact ⟨0, Nat.zero_le _, rfl, hs⟩
      case round =>
        obtain ⟨i, hik, rfl, hs2⟩ := hrel
        clear hs
        have cl := hs2.tab.cell k hlt
        rw [sl_ptrK] at cl
        have hnk := HN.out k hlt
        by_cases hi2 : i < n k
        · obtain ⟨g, hp⟩ : ∃ g, p k = some g := by
            have ho := hs2.own k hlt
            have hct : ctAtK mcV xs n k i k = partK mcV (xs k) k i := by simp [ctAtK]
            rw [hct] at ho
            have hpl := partK_length mcV (xs k) k i (n k) (HX.out k hlt) hik
            obtain ⟨g, hp, -, -⟩ := ho.filled (by omega)
            exact ⟨g, hp⟩
          clear cl
          obtain ⟨cl, ⟨old, cg⟩, fg, hne⟩ := hs2.look (by decide) hlt hp (HX.out k hlt) hi2
          have cg0 : wr.cell? ⟨g, i * 5, none⟩ = some (.int .i64 old.s) := cg 0 (by decide)
          have fg0 : wr.frozen? ⟨g, i * 5, none⟩ = false := fg _
          have cg1 : wr.cell? ⟨g, i * 5 + 1, none⟩ = some (.int .i64 old.w) := cg 1 (by decide)
          have fg1 : wr.frozen? ⟨g, i * 5 + 1, none⟩ = false := fg _
          have cg2 : wr.cell? ⟨g, i * 5 + 2, none⟩ = some (.int .i64 old.r) := cg 2 (by decide)
          have fg2 : wr.frozen? ⟨g, i * 5 + 2, none⟩ = false := fg _
          have cg3 : wr.cell? ⟨g, i * 5 + 3, none⟩ = some (.int .i64 old.t) := cg 3 (by decide)
          have fg3 : wr.frozen? ⟨g, i * 5 + 3, none⟩ = false := fg _
          have cg4 : wr.cell? ⟨g, i * 5 + 4, none⟩ = some (.int .i64 old.u) := cg 4 (by decide)
          have fg4 : wr.frozen? ⟨g, i * 5 + 4, none⟩ = false := fg _
          clear cg fg
          have hs3 : St1K fC4 49 46 w K B L G p n c (fun j => ctAtK mcV xs n k (i + 1) j) (((((wr.setCell ⟨g, i * 5, none⟩ (.int .i64 k)).setCell ⟨g, i * 5 + 1, none⟩ (.int .i64 0)).setCell ⟨g, i * 5 + 2, none⟩ (.int .i64 0)).setCell ⟨g, i * 5 + 3, none⟩ (.int .i64 i)).setCell ⟨g, i * 5 + 4, none⟩ (.int .i64 0)) := hs2.mark (by decide) hap hlt hp (HX.out k hlt) hi2
          have q0 : (0 : Int) ≤ (k : Int) := by omega
          have q1 : (k : Int) < (K : Int) := by omega
          have q2 : (0 : Int) ≤ (i : Int) := by omega
          have q3 : (i : Int) < (n k : Int) := by omega
          have HP : Hid (p k = some g) := hp
          clear hs2 hp
          go_wp2_with fail
          go_roundw
          case rel => exact ⟨i + 1, by omega, by go_num, hs3⟩
          case measure => simp [intOf]; omega
        · have hs4 : St1K fC4 49 46 w K B L G p n c (fun j => ctAtK mcV xs n (k + 1) 0 j) wr := by
            obtain rfl : i = n k := by omega
            have e : (fun j => ctAtK mcV xs n k (n k) j) = fun j => ctAtK mcV xs n (k + 1) 0 j := funext fun j => ctAtK_next mcV xs n k j (HX.out k hlt)
            rw [← e]
            exact hs2
          clear hs2
          go_wp2
          go_roundw
          case rel => exact ⟨k + 1, by omega, by go_num, hs4⟩
          case measure => simp [intOf]; omega
    · have hs0 : St2K fC4 49 46 mcV w K B L G p n c 0 (fun _ => 0) (fun _ => 0) wr := by
        have hkK : k = K := by omega
        rw [hkK] at hs
        exact hs.next
      clear hs
      go_wp2
      go_loopw [6] (fun kv wr => ∃ (k : Nat) (ub uc : Nat → Nat), k ≤ K ∧ kv = .int .i64 k ∧ St2K fC4 49 46 mcV w K B L G p n c k ub uc wr) (fun kv _ => K - (intOf kv).toNat)
      case atStart => exact ⟨0, _, _, Nat.zero_le _, rfl, hs0⟩
      case round =>
        obtain ⟨k2, ub, uc, hk2, rfl, hs⟩ := hrel
        clear hs0
        by_cases hlt2 : k2 < K
        · have cl := hs.tab.cell k2 hlt2
          rw [sl_ptrK] at cl
          have hs1 := hs.start hap hlt2
          have hnk := HN.out k2 hlt2
          clear hs
          go_wp2
          go_loopw [7, 8] (fun gv jv wr => ∃ (j gc : Nat) (q : Option Nat), j ≤ 64 ∧ jv = .int .i64 j ∧ gv = .slice (ptrK q) (n k2 + j) gc ∧ St2Ki fC4 49 46 mcV w K B L G p n c k2 ub uc q gc j wr) (fun _ jv _ => 64 - (intOf jv).toNat)
          case atStart => exact ⟨0, _, _, Nat.zero_le _, rfl, rfl, hs1⟩
          case round =>
            obtain ⟨j, gc, q, hj, rfl, rfl, hs2⟩ := hrel
            clear hs1 cl
            have cl := hs2.st.tab.cell k2 hlt2
            rw [sl_ptrK] at cl
            by_cases hj2 : j < 64
            · have hml := mkLK_length mcV k2 (n k2 + j)
              have hwn : IntKind.i64.wrap ((n k2 : Int) + (j : Int)) = (n k2 : Int) + (j : Int) := by rw [IntKind.wrap_i64]; omega
              have hsa := fun o => hs2.grown (World.grownBy_alloc wr o none)
              by_cases hroom : n k2 + j + 1 ≤ gc
              · obtain ⟨gb, rfl⟩ : ∃ gb, q = some gb := by
                  cases q with
                  | some gb => exact ⟨gb, rfl⟩
                  | none =>
                    rcases hs2.cur.form with ⟨e2, -⟩ | ⟨_, _, e2, _⟩
                    · simp [slA] at e2; omega
                    · simp [slA] at e2
                rw [ptrK_some]
                clear hs2
                go_wp2_with (at_builtin; refine kfits elemC4 _ rfl _ _ rfl B gb (n k2 + j) gc (mkLK mcV k2 (n k2 + j)) rfl hml (hsa _).cur.full.2 ⟨_, 0, none⟩ 1 (mcV k2 (n k2 + j)) rfl (Fm.news fC4 _ (mcV k2 (n k2 + j)) 49 #[.int .i64 k2, .int .i64 0, .int .i64 0, .int .i64 (n k2 + j : Nat), .int .i64 0] rfl) hroom ?_; intro w3 ho3 hg3; have hs3 := (hsa _).fits (by decide) hlt2 hg3 ho3)
                go_roundw
                case rel => exact ⟨j + 1, gc, some gb, by omega, by go_num, by rw [show n k2 + (j + 1) = n k2 + j + 1 by omega]; rfl, hs3⟩
                case measure => simp [intOf]; omega
              · have hBw : ∀ o, B ≤ (wr.alloc o).heap.size := fun o => Nat.le_trans hB (hsa o).st.keeps.size
                clear hs2
                go_wp2_with (at_builtin; refine kgrows elemC4 _ rfl _ _ rfl B (n k2 + j) gc q (mkLK mcV k2 (n k2 + j)) rfl hml (hsa _).cur ⟨_, 0, none⟩ 1 (mcV k2 (n k2 + j)) rfl (Fm.news fC4 _ (mcV k2 (n k2 + j)) 49 #[.int .i64 k2, .int .i64 0, .int .i64 0, .int .i64 (n k2 + j : Nat), .int .i64 0] rfl) (by omega) (by omega) (by omega) ?_; intro gb2 gc2 w3 ho3 hg3; have hs3 := (hsa _).grows (hBw _) hg3 (Nat.le_refl _) ho3)
                go_roundw
                case rel => exact ⟨j + 1, gc2, some gb2, by omega, by go_num, by rw [show n k2 + (j + 1) = n k2 + j + 1 by omega]; rfl, hs3⟩
                case measure => simp [intOf]; omega
            · obtain rfl : j = 64 := by omega
              obtain ⟨gb, rfl⟩ : ∃ gb, q = some gb := by
                obtain ⟨gb, e, -, -⟩ := hs2.cur.filled (by rw [mkLK_length]; omega)
                exact ⟨gb, e⟩
              rw [ptrK_some]
              have cg := hs2.st.gs.cell k2 hlt2
              have fg := hs2.st.gs.free k2
              rw [if_neg (Nat.lt_irrefl k2)] at cg
              have hs3 := hs2.done (by decide) hGle hLlt
              clear hs2
              go_wp2
              go_roundw
              case rel => exact ⟨k2 + 1, _, _, by omega, by go_num, hs3⟩
              case measure => simp [intOf]; omega
        · have hkK : k2 = K := by omega
          rw [hkK] at hs
          clear hkK
          go_wp2
          go_loopw [10] (fun kv wx => ∃ k : Nat, k ≤ K ∧ kv = .int .i64 k ∧ St2K fC4 49 46 mcV w K B L G p n c K ub uc wx) (fun kv _ => K - (intOf kv).toNat)
          case atStart => exact ⟨0, Nat.zero_le _, rfl, hs⟩
          case round =>
            clear hs
            obtain ⟨k3, hk3, rfl, hs⟩ := hrel
            by_cases hlt3 : k3 < K
            · obtain ⟨cl, cg, -, -⟩ := hs.look k3 hlt3
              have hnk := HN.out k3 hlt3
              go_wp2
              go_loopw [11] (fun iv wx => ∃ i : Nat, i ≤ n k3 + 64 ∧ iv = .int .i64 i ∧ St2K fC4 49 46 mcV w K B L G p n c K ub uc wx) (fun iv _ => n k3 + 64 - (intOf iv).toNat)
              case atStart => exact ⟨0, Nat.zero_le _, rfl, hs⟩
              case round =>
                clear hs cl cg
                obtain ⟨i, hi3, rfl, hs⟩ := hrel
                obtain ⟨cl, cg, hU, hV⟩ := hs.look k3 hlt3
                by_cases hi4 : i < n k3 + 64
                · have cu := hU i hi4
                  have cu0 : wr.cell? ⟨ub k3, i * 5, none⟩ = some (.int .i64 k3) := cu 0 (by decide)
                  have cu1 : wr.cell? ⟨ub k3, i * 5 + 1, none⟩ = some (.int .i64 0) := cu 1 (by decide)
                  have cu2 : wr.cell? ⟨ub k3, i * 5 + 2, none⟩ = some (.int .i64 0) := cu 2 (by decide)
                  have cu3 : wr.cell? ⟨ub k3, i * 5 + 3, none⟩ = some (.int .i64 i) := cu 3 (by decide)
                  have cu4 : wr.cell? ⟨ub k3, i * 5 + 4, none⟩ = some (.int .i64 0) := cu 4 (by decide)
                  clear cu
                  by_cases hi5 : i < n k3
                  · obtain ⟨g, hp, hv⟩ := hV (by omega)
                    have cv := hv i hi5
                    have cv0 : wr.cell? ⟨g, i * 5, none⟩ = some (.int .i64 k3) := cv 0 (by decide)
                    have cv1 : wr.cell? ⟨g, i * 5 + 1, none⟩ = some (.int .i64 0) := cv 1 (by decide)
                    have cv2 : wr.cell? ⟨g, i * 5 + 2, none⟩ = some (.int .i64 0) := cv 2 (by decide)
                    have cv3 : wr.cell? ⟨g, i * 5 + 3, none⟩ = some (.int .i64 i) := cv 3 (by decide)
                    have cv4 : wr.cell? ⟨g, i * 5 + 4, none⟩ = some (.int .i64 0) := cv 4 (by decide)
                    clear cv
                    have hi6 : (i : Int) < (n k3 : Int) := by omega
                    rw [hp, ptrK_some] at cl
                    clear hp hv hU hV
                    go_wp2_with fail
                    go_roundw
                    case rel => exact ⟨i + 1, by omega, by go_num, hs⟩
                    case measure => simp [intOf]; omega
                  · have hd : decide ((i : Int) < (n k3 : Int)) = false := by simp; omega
                    clear hU hV
                    go_wp2_with fail
                    go_roundw
                    case rel => exact ⟨i + 1, by omega, by go_num, hs⟩
                    case measure => simp [intOf]; omega
                · go_wp2
                  go_roundw
                  case rel => exact ⟨k3 + 1, by omega, by go_num, hs⟩
                  case measure => simp [intOf]; omega
            · go_wp2
              go_ret
              exact ⟨rfl, hs.keeps⟩

end Go.Proofs.YtgblohjdiheemaaGreat

/- What switchyardkit.mark and ApartPlaces answer, for lists that lie apart (or are nil). -/
namespace Go.Proofs.YtgblohjdiheemaaGreat
open Go.RowKit

theorem Tryz.elemU43 : Elem 43 87 4 := ⟨Tryz.underlying43, .int .u32 0, rfl, by kernel_rfl⟩
/-- the mark of place i in list k -/
def mi (k i : Nat) : Int := 1000003 * ((k : Int) + 7) + (i : Int)
def mu (k i : Nat) : Int := mi k i % 4294967296
def muV (k i : Nat) : Value := .int .u32 (mu k i)
theorem mu_wrap (k i : Nat) : IntKind.u32.wrap (mi k i) = mu k i := by simp [IntKind.wrap, IntKind.bits, IntKind.signed, mu]
theorem Tryz.info43' : (Tryz.prog.info? 43).map (fun i => (i.zero, i.size, i.bytes)) = some (some (.slice none 0 0), 1, 24) := by kernel_rfl

set_option maxHeartbeats 400000 in
theorem mark_any (k i : Nat) (w : World) (hk : k ≤ 1000) (hi : i ≤ 281474976710656) :
    Calls Tryz.prog 51 #[.int .i64 k, .int .i64 i] w fun e w' => e = .returned (.int .i64 (mi k i)) ∧ w' = w := by
  go_enter Tryz.func51, Tryz.ntmps51
  go_wp2
  go_ret
  exact ⟨rfl, rfl⟩

theorem news_one (w : World) (z : Value) (T : TypeId) : ∀ j u, [z][j]? = some u → (w.alloc (.cells #[z] T)).cell? ((⟨w.heap.size, 0, none⟩ : Addr).add j) = some u := cell_one_new _ _ _

/-- 'append(g, z)' within the room -/
theorem gfits {ops : Array Oper} {rest : List Oper} {o : Oper} {a : Act} {Q : Exit → Act → World → Prop} {t T : TypeId} {by_ : Nat} (he : Elem t T by_) (w : World) (hgd : o.guard = none) (s x : Operand)
    (ho : o.op = .call { callee := .builtin .append, args := #[s, x], argTypes := #[t, t] }) (B g k cap : Nat) (xs : List Value) (hs : a.eval s = .slice (some ⟨g, 0, none⟩) k cap) (hk : xs.length = k) (hown : GOwn T w B g cap xs)
    (ad : Addr) (m : Nat) (z : Value) (hz1 : z.oneCell' = true) (hx : a.eval x = .slice (some ad) 1 m) (hnews : ∀ j u, [z][j]? = some u → w.cell? (ad.add j) = some u) (hroom : k + 1 ≤ cap)
    (h : ∀ w', GOwn T w' B g cap (xs ++ [z]) → w.grownBy w' (some g) → wpList Tryz.prog ops Q rest (a.put o.dst (.slice (some ⟨g, 0, none⟩) (k + 1) cap)) w') :
    wpList Tryz.prog ops Q (o :: rest) a w := by
  obtain ⟨hu, z0, hzc, hinfo⟩ := he
  obtain ⟨i0, hi, hz0, hz2, hz3⟩ := info_parts hinfo
  subst hk
  refine wpList_append_fits w hgd s x t ho B T i0 1 hu hi hz2 g xs.length cap xs hs hown ad 1 m [z] hx rfl hnews (fun u hu => ?_) hroom fun w' h1 h2 => h w' ?_ h2
  · rw [List.mem_singleton] at hu
    subst hu
    exact hz1
  · unfold GOwn
    rw [List.length_append]
    exact h1

/-- 'append(g, z)' without room: a new block -/
theorem ggrows {ops : Array Oper} {rest : List Oper} {o : Oper} {a : Act} {Q : Exit → Act → World → Prop} {t T : TypeId} {by_ : Nat} (he : Elem t T by_) (w : World) (hgd : o.guard = none) (s x : Operand)
    (ho : o.op = .call { callee := .builtin .append, args := #[s, x], argTypes := #[t, t] }) (B k cap : Nat) (q : Option Nat) (xs : List Value) (hs : a.eval s = .slice (q.map fun b => ⟨b, 0, none⟩) k cap) (hk : xs.length = k) (hown : GOwnV T w B (slA q k cap) xs)
    (ad : Addr) (m : Nat) (z : Value) (hz1 : z.oneCell' = true) (hx : a.eval x = .slice (some ad) 1 m) (hnews : ∀ j u, [z][j]? = some u → w.cell? (ad.add j) = some u) (hfull : cap < k + 1) (hlen : k + 1 ≤ 140737488355328) (hby : (k + 1) * by_ ≤ 140737488355328)
    (h : ∀ g' cap' w', GOwn T w' w.heap.size g' cap' (xs ++ [z]) → w.grownBy w' none → wpList Tryz.prog ops Q rest (a.put o.dst (.slice (some ⟨g', 0, none⟩) (k + 1) cap')) w') :
    wpList Tryz.prog ops Q (o :: rest) a w := by
  obtain ⟨hu, z0, hzc, hinfo⟩ := he
  obtain ⟨i0, hi, hz0, hz2, hz3⟩ := info_parts hinfo
  subst hk
  refine wpList_append_grows w hgd s x t ho T i0 z0 1 by_ hu hi hz0 hz2 hz3 hzc (by decide) _ xs.length cap xs hs (fun e => ?_) (by simp) (fun b e j u hj => ?_) ad 1 m [z] hx rfl hnews (fun u hu => ?_) hfull (by unfold maxLen; omega) hby fun v' w' h1 h2 => ?_
  · cases q with
    | some g => cases e
    | none =>
      rcases hown.shape with ⟨e2, e3⟩ | ⟨g, cap', e2, _⟩
      · injection e2 with _ e4 e5; exact ⟨e4, e5⟩
      · simp [slA] at e2
  · cases q with
    | none => cases e
    | some g =>
      cases e
      have hjl : j < xs.length := by
        rcases Nat.lt_or_ge j xs.length with h | h
        · exact h
        · rw [List.getElem?_eq_none h] at hj; cases hj
      rw [← hj, ← hown.full.2.cell j hjl, Go.WideShapes.add_plain, Nat.zero_add]
  · rw [List.mem_singleton] at hu
    subst hu
    exact hz1
  · have hv : GOwnV T w' w.heap.size v' (xs ++ [z]) := by
      unfold GOwnV
      rw [List.length_append]
      exact h1
    rcases hv.shape with ⟨_, e⟩ | ⟨g', cap', e, ho'⟩
    · simp at e
    · subst e
      rw [List.length_append]
      exact h g' cap' w' ho' h2

theorem GOwn.some {T : TypeId} {w : World} {B g cap : Nat} {vs : List Value} (h : GOwn T w B g cap vs) (i : Nat) (hi : i < vs.length) : ∃ v, w.cell? ⟨g, i, none⟩ = some v := ⟨vs[i], by rw [h.cell i hi, List.getElem?_eq_getElem hi]⟩

set_option maxRecDepth 100000 in
set_option maxHeartbeats 2000000 in
theorem apartPlaces_any (K B L : Nat) (p : Nat → Option Nat) (n c : Nat → Nat) (xs : Nat → List Value) (w : World) (hK : K ≤ 1000) (hap : Apart K p) (hx : ∀ k, k < K → (xs k).length = n k) (hn : ∀ k, k < K → n k ≤ 1099511627776) (hB : B ≤ w.heap.size)
    (hown : AllOwn 87 w B K p n c xs) (htab : TabOf 43 w L K (fun k => slA (p k) (n k) (c k))) :
    Calls Tryz.prog 26 #[.slice (some ⟨L, 0, none⟩) K K] w fun e w' => e = .returned (.bool true) ∧ Keeps (GSet K p) w w' := by
  obtain ⟨i0, hi, hz0, hz1, hz2⟩ := info_parts Tryz.info43'
  have HX : Hid (∀ k, k < K → (xs k).length = n k) := hx
  have HN : Hid (∀ k, k < K → n k ≤ 1099511627776) := hn
  clear hx hn
  go_enter Tryz.func26, Tryz.ntmps26
  go_wp2_with (at_make; refine wpList_make_full _ rfl _ _ 60 rfl _ 43 i0 (.slice none 0 0) 1 Tryz.underlying60 hi hz0 hz1 _ _ _ _ K rfl rfl rfl rfl (by rw [hz2]; omega) (by unfold maxLen; omega) (Nat.le_refl _) ?_; intro w1 hmk hgrow; have hst : St1 87 43 w K B L w.heap.size p n c (fun j => ctAt muV xs n 0 0 j) w1 := ⟨fun j hj => by rw [ctAt_zero, if_neg (Nat.not_lt_zero j)]; exact (hown j hj).kept hgrow (by rw [sl_block]; cases p j <;> simp), htab.kept hgrow (by simp), TabOf.made hmk, (Keeps.refl _ _).grown hgrow (by simp)⟩; clear hmk hgrow)
  have hGs : w.heap.size = w.heap.size := rfl
  generalize hG : w.heap.size = G at hst ⊢
  clear hGs
  have hGle : w.heap.size ≤ G := by omega
  have hLlt : L < w.heap.size := htab.lt
  clear hG hown htab
  go_loopw [4] (fun kv wr => ∃ k : Nat, k ≤ K ∧ kv = .int .i64 k ∧ St1 87 43 w K B L G p n c (fun j => ctAt muV xs n k 0 j) wr) (fun kv _ => K - (intOf kv).toNat)
  case atStart => exact ⟨0, Nat.zero_le _, rfl, hst⟩
  case round =>
    obtain ⟨k, hk, rfl, hs⟩ := hrel
    clear hst
    by_cases hlt : k < K
    · go_wp2
      go_loopw [5] (fun iv wr => ∃ i : Nat, i ≤ n k ∧ iv = .int .i64 i ∧ St1 87 43 w K B L G p n c (fun j => ctAt muV xs n k i j) wr) (fun iv _ => n k - (intOf iv).toNat)
      case atStart => exact ⟨0, Nat.zero_le _, rfl, hs⟩
      case round =>
        obtain ⟨i, hik, rfl, hs2⟩ := hrel
        clear hs
        have cl := hs2.tab.cell k hlt
        rw [sl_ptrK] at cl
        have hnk := HN.out k hlt
        by_cases hi2 : i < n k
        · have ho := hs2.own k hlt
          have hct : ctAt muV xs n k i k = part muV (xs k) k i := by simp [ctAt]
          rw [hct] at ho
          have hpl := apt_length muV (xs k) k i (n k) (HX.out k hlt) hik
          obtain ⟨g, hp, -, ho2⟩ := ho.filled (by omega)
          obtain ⟨old, cg⟩ := ho2.some i (by omega)
          have fg := ho2.free i
          have hne : L ≠ g := fun e => hs2.tab.ne (by decide) ho (by rw [hp, e])
          have q0 : (0 : Int) ≤ (k : Int) := by omega
          have q1 : (k : Int) < (K : Int) := by omega
          have q2 : (0 : Int) ≤ (i : Int) := by omega
          have q3 : (i : Int) < (n k : Int) := by omega
          rw [hp, ptrK_some] at cl
          have hs3 : St1 87 43 w K B L G p n c (fun j => ctAt muV xs n k (i + 1) j) (wr.setCell ⟨g, i, none⟩ (.int .u32 (mu k i))) := hs2.mark (by decide) hap hlt hp (HX.out k hlt) hi2
          have hk2 : (wr.setCell ⟨g, i, none⟩ (.int .u32 (mu k i))).cell? ⟨L, k, none⟩ = some (.slice (some ⟨g, 0, none⟩) (n k) (c k)) := by
            have := hs3.tab.cell k hlt
            rw [sl_ptrK, hp] at this
            exact this
          have hs3 := hs3.drew
          have hw := mu_wrap k i
          have HP : Hid (p k = some g) := hp
          clear ho hct hpl ho2 hp
          go_wp2_with fail
          go_region_held3 (fun w' => w'.cell? ⟨L, k, none⟩ = some (.slice (some ⟨g, 0, none⟩) (n k) (c k))) (first | go_keep | exact hk2) ((go_at_call 51; refine (mark_any k i _ (by omega) (by omega)).mono ?_; rintro e w' ⟨rfl, rfl⟩))
          all_goals
            clear hs2 hk2 cl cg fg
            go_wp2
            go_roundw
            case rel => exact ⟨i + 1, by omega, by go_num, hs3⟩
            case measure => simp [intOf]; omega
        · have hs4 : St1 87 43 w K B L G p n c (fun j => ctAt muV xs n (k + 1) 0 j) wr := by
            obtain rfl : i = n k := by omega
            have e : (fun j => ctAt muV xs n k (n k) j) = fun j => ctAt muV xs n (k + 1) 0 j := funext fun j => ctAt_next muV xs n k j (HX.out k hlt)
            rw [← e]
            exact hs2
          clear hs2
          go_wp2
          go_roundw
          case rel => exact ⟨k + 1, by omega, by go_num, hs4⟩
          case measure => simp [intOf]; omega
    · have hs0 : St2 87 43 muV w K B L G p n c 0 (fun _ => 0) (fun _ => 0) wr := by
        have hkK : k = K := by omega
        rw [hkK] at hs
        exact hs.next
      clear hs
      go_wp2
      go_loopw [6] (fun kv wr => ∃ (k : Nat) (ub uc : Nat → Nat), k ≤ K ∧ kv = .int .i64 k ∧ St2 87 43 muV w K B L G p n c k ub uc wr) (fun kv _ => K - (intOf kv).toNat)
      case atStart => exact ⟨0, _, _, Nat.zero_le _, rfl, hs0⟩
      case round =>
        obtain ⟨k2, ub, uc, hk2, rfl, hs⟩ := hrel
        clear hs0
        by_cases hlt2 : k2 < K
        · have cl := hs.tab.cell k2 hlt2
          rw [sl_ptrK] at cl
          have hs1 := hs.start hap hlt2
          have hnk := HN.out k2 hlt2
          clear hs
          go_wp2
          go_loopw [7, 8] (fun gv jv wr => ∃ (j gc : Nat) (q : Option Nat), j ≤ 64 ∧ jv = .int .i64 j ∧ gv = .slice (ptrK q) (n k2 + j) gc ∧ St2i 87 43 muV w K B L G p n c k2 ub uc q gc j wr) (fun _ jv _ => 64 - (intOf jv).toNat)
          case atStart => exact ⟨0, _, _, Nat.zero_le _, rfl, rfl, hs1⟩
          case round =>
            obtain ⟨j, gc, q, hj, rfl, rfl, hs2⟩ := hrel
            clear hs1 cl
            have cl := hs2.st.tab.cell k2 hlt2
            rw [sl_ptrK] at cl
            by_cases hj2 : j < 64
            · have hsa := fun o => hs2.grown (World.grownBy_alloc wr o none)
              have hml := mkL_length muV k2 (n k2 + j)
              have hBw : ∀ o, B ≤ (wr.alloc o).heap.size := fun o => Nat.le_trans hB (hsa o).st.keeps.size
              have hw := mu_wrap k2 (n k2 + j)
              have HC : Hid (∀ wx, Calls Tryz.prog 51 #[.int .i64 k2, .int .i64 ((n k2 : Int) + (j : Int))] wx fun e w' => e = .returned (.int .i64 (mi k2 (n k2 + j))) ∧ w' = wx) := fun wx => by
                have := mark_any k2 (n k2 + j) wx (by omega) (by omega)
                simpa using this
              by_cases hroom : n k2 + j + 1 ≤ gc
              · obtain ⟨gb, rfl⟩ : ∃ gb, q = some gb := by
                  cases q with
                  | some gb => exact ⟨gb, rfl⟩
                  | none =>
                    rcases hs2.cur.shape with ⟨e2, -⟩ | ⟨_, _, e2, _⟩
                    · simp [slA] at e2; omega
                    · simp [slA] at e2
                rw [ptrK_some]
                go_wp2_with (first | (go_at_call 51; refine (HC.out _).mono ?_; rintro e w' ⟨rfl, rfl⟩) | (at_builtin; refine gfits Tryz.elemU43 _ rfl _ _ rfl B gb (n k2 + j) gc (mkL muV k2 (n k2 + j)) rfl hml (hsa _).cur.full.2 ⟨_, 0, none⟩ 1 (.int .u32 (mu k2 (n k2 + j))) rfl rfl (news_one _ _ _) hroom ?_; intro w2 ho2 hg2; have hs3 := (hsa _).fits (by decide) hlt2 hg2 ho2))
                go_roundw
                case rel => exact ⟨j + 1, gc, some gb, by omega, by go_num, by rw [show n k2 + (j + 1) = n k2 + j + 1 by omega]; rfl, hs3⟩
                case measure => simp [intOf]; omega
              · go_wp2_with (first | (go_at_call 51; refine (HC.out _).mono ?_; rintro e w' ⟨rfl, rfl⟩) | (at_builtin; refine ggrows Tryz.elemU43 _ rfl _ _ rfl B (n k2 + j) gc q (mkL muV k2 (n k2 + j)) rfl hml (hsa _).cur ⟨_, 0, none⟩ 1 (.int .u32 (mu k2 (n k2 + j))) rfl rfl (news_one _ _ _) (by omega) (by omega) (by omega) ?_; intro gb2 gc2 w2 ho2 hg2; have hs3 := (hsa _).grows (hBw _) hg2 (Nat.le_refl _) ho2))
                go_roundw
                case rel => exact ⟨j + 1, gc2, some gb2, by omega, by go_num, by rw [show n k2 + (j + 1) = n k2 + j + 1 by omega]; rfl, hs3⟩
                case measure => simp [intOf]; omega
            · obtain rfl : j = 64 := by omega
              obtain ⟨gb, rfl⟩ : ∃ gb, q = some gb := by
                obtain ⟨gb, e, -, -⟩ := hs2.cur.filled (by rw [mkL_length]; omega)
                exact ⟨gb, e⟩
              rw [ptrK_some]
              have cg := hs2.st.gs.cell k2 hlt2
              have fg := hs2.st.gs.free k2
              rw [if_neg (Nat.lt_irrefl k2)] at cg
              have hs3 := hs2.done (by decide) hGle hLlt
              clear hs2
              go_wp2
              go_roundw
              case rel => exact ⟨k2 + 1, _, _, by omega, by go_num, hs3⟩
              case measure => simp [intOf]; omega
        · have hkK : k2 = K := by omega
          rw [hkK] at hs
          clear hkK
          go_wp2
          obtain ⟨w0, rfl⟩ : ∃ w0 : World, w0 = wr := ⟨_, rfl⟩
          go_loopw [10] (fun kv wx => ∃ k m : Nat, k ≤ K ∧ kv = .int .i64 k ∧ Hid (wx = w0.drewN m)) (fun kv _ => K - (intOf kv).toNat)
          case atStart => exact ⟨0, 0, Nat.zero_le _, rfl, rfl⟩
          case round =>
            obtain ⟨k3, m, hk3, rfl, HW⟩ := hrel
            by_cases hlt3 : k3 < K
            · have cl : wr.cell? ⟨L, k3, none⟩ = some (.slice (ptrK (p k3)) (n k3) (c k3)) := by rw [HW.out]; exact hs.tab.cell k3 hlt3
              have cg0 := hs.gs.cell k3 hlt3
              rw [if_pos hlt3] at cg0
              have cg : wr.cell? ⟨G, k3, none⟩ = some (.slice (some ⟨ub k3, 0, none⟩) (n k3 + 64) (uc k3)) := by rw [HW.out]; exact cg0
              have hnk := HN.out k3 hlt3
              have hou := hs.us k3 hlt3
              have hov := hs.own k3 hlt3
              go_wp2
              go_loopw [11] (fun iv wx => ∃ i m : Nat, i ≤ n k3 + 64 ∧ iv = .int .i64 i ∧ Hid (wx = w0.drewN m)) (fun iv _ => n k3 + 64 - (intOf iv).toNat)
              case atStart => exact ⟨0, m, Nat.zero_le _, rfl, HW⟩
              case round =>
                obtain ⟨i, m2, hi3, rfl, HV⟩ := hrel
                clear cl cg HW
                have cl : wr.cell? ⟨L, k3, none⟩ = some (.slice (ptrK (p k3)) (n k3) (c k3)) := by rw [HV.out]; exact hs.tab.cell k3 hlt3
                have cg : wr.cell? ⟨G, k3, none⟩ = some (.slice (some ⟨ub k3, 0, none⟩) (n k3 + 64) (uc k3)) := by rw [HV.out]; exact cg0
                by_cases hi4 : i < n k3 + 64
                · have cu0 := hou.cell i (by rw [mkL_length]; exact hi4)
                  rw [mkL_at muV k3 _ i hi4] at cu0
                  have cu : wr.cell? ⟨ub k3, i, none⟩ = some (.int .u32 (mu k3 i)) := by rw [HV.out]; exact cu0
                  have HC : Hid (∀ wx, Calls Tryz.prog 51 #[.int .i64 k3, .int .i64 i] wx fun e w' => e = .returned (.int .i64 (mi k3 i)) ∧ w' = wx) := fun wx => mark_any k3 i wx (by omega) (by omega)
                  have hw := mu_wrap k3 i
                  have hmm : (mu k3 i != mu k3 i) = false := by simp
                  by_cases hi5 : i < n k3
                  · obtain ⟨g, hp, -, ho2⟩ := hov.filled (by rw [mkL_length]; omega)
                    have cv0 := ho2.cell i (by rw [mkL_length]; exact hi5)
                    rw [mkL_at muV k3 _ i hi5] at cv0
                    have cv : wr.cell? ⟨g, i, none⟩ = some (.int .u32 (mu k3 i)) := by rw [HV.out]; exact cv0
                    have hi6 : (i : Int) < (n k3 : Int) := by omega
                    rw [hp, ptrK_some] at cl
                    clear cu0 cv0 cg0 hp ho2
                    generalize mu k3 i = y at *
                    generalize mi k3 i = z at *
                    go_wp2
                    go_quiet ((go_at_call 51; exact Calls.quiet_of_same (HC.out _)))
                    go_wp2
                    go_roundw
                    case rel => exact ⟨i + 1, m2 + nq, by omega, by go_num, by rw [HV.out]; exact World.drewN_drewN ..⟩
                    case measure => simp [intOf]; omega
                  · have hd : decide ((i : Int) < (n k3 : Int)) = false := by simp; omega
                    clear cu0 cg0
                    generalize mu k3 i = y at *
                    generalize mi k3 i = z at *
                    go_wp2
                    go_quiet ((go_at_call 51; exact Calls.quiet_of_same (HC.out _)))
                    go_wp2
                    go_roundw
                    case rel => exact ⟨i + 1, m2 + nq, by omega, by go_num, by rw [HV.out]; exact World.drewN_drewN ..⟩
                    case measure => simp [intOf]; omega
                · go_wp2
                  go_roundw
                  case rel => exact ⟨k3 + 1, m2, by omega, by go_num, HV⟩
                  case measure => simp [intOf]; omega
            · go_wp2
              go_ret
              exact ⟨rfl, by rw [HW.out]; exact hs.keeps.drewN _⟩

end Go.Proofs.YtgblohjdiheemaaGreat
