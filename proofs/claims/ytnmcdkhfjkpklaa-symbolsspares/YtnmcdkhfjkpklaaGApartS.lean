/- The states of switchyardkit's Apart functions, over lists that may be nil. Plain facts on worlds. -/
import Derived.Test.YtnmcdkhfjkpklaaGApart
namespace Go.Proofs.Ytnmcdkhfjkpklaa
open Go.RowKit

abbrev GSet (K : Nat) (p : Nat → Option Nat) (b : Nat) : Prop := ∃ k, k < K ∧ p k = some b

/-- the first loop's state -/
structure St1 (T e : TypeId) (w : World) (K B L G : Nat) (p : Nat → Option Nat) (n c : Nat → Nat) (ct : Nat → List Value) (wr : World) : Prop where
  own : AllOwn T wr B K p n c ct
  tab : TabOf e wr L K (fun k => sl (p k) (n k) (c k))
  gs : TabOf e wr G K (fun _ => .slice none 0 0)
  keeps : Keeps (GSet K p) w wr

theorem St1.mark {T e : TypeId} {mk : Nat → Nat → Value} (hT : T ≠ e) {w wr : World} {K B L G : Nat} {p : Nat → Option Nat} {n c : Nat → Nat} {xs : Nat → List Value} {k i g : Nat} (h : St1 T e w K B L G p n c (fun j => ctAt mk xs n k i j) wr) (ha : Apart K p) (hk : k < K) (hp : p k = some g) (hx : (xs k).length = n k) (hi : i < n k) :
    St1 T e w K B L G p n c (fun j => ctAt mk xs n k (i + 1) j) (wr.setCell ⟨g, i, none⟩ (mk k i)) := by
  have ho := h.own k hk
  have n1 := h.tab.ne hT ho
  have n2 := h.gs.ne hT ho
  rw [hp] at n1 n2
  refine ⟨h.own.store ha k i g hk hp _ ?_ (fun j hj => ?_), h.tab.store_other _ _ _ (fun e => n1 (by rw [e])), h.gs.store_other _ _ _ (fun e => n2 (by rw [e])), h.keeps.setCell _ _ _ (.inl ⟨k, hk, hp⟩)⟩
  · simp only [ctAt, Nat.lt_irrefl, if_false, if_true]
    exact (part_step mk (xs k) k i (n k) hx hi).symm
  · simp [ctAt, hj]
theorem St1.drew {T e : TypeId} {w wr : World} {K B L G : Nat} {p : Nat → Option Nat} {n c : Nat → Nat} {ct : Nat → List Value} (h : St1 T e w K B L G p n c ct wr) : St1 T e w K B L G p n c ct wr.drew := ⟨h.own.drew, h.tab.drew, h.gs.drew, h.keeps.drew⟩
theorem St1.drewN {T e : TypeId} {w wr : World} {K B L G : Nat} {p : Nat → Option Nat} {n c : Nat → Nat} {ct : Nat → List Value} (h : St1 T e w K B L G p n c ct wr) (m : Nat) : St1 T e w K B L G p n c ct (wr.drewN m) := ⟨h.own.drewN m, h.tab.drewN m, h.gs.drewN m, h.keeps.drewN m⟩
theorem St1.grown {T e : TypeId} {w wr w1 : World} {K B L G : Nat} {p : Nat → Option Nat} {n c : Nat → Nat} {ct : Nat → List Value} (h : St1 T e w K B L G p n c ct wr) (hg : wr.grownBy w1 none) : St1 T e w K B L G p n c ct w1 :=
  ⟨h.own.kept hg (fun j _ => by cases p j <;> simp), h.tab.kept hg (by simp), h.gs.kept hg (by simp), h.keeps.grown hg (fun _ e => by cases e)⟩

/-- the second loop's state: the lists before k have grown -/
structure St2 (T e : TypeId) (mk : Nat → Nat → Value) (w : World) (K B L G : Nat) (p : Nat → Option Nat) (n c : Nat → Nat) (k : Nat) (ub uc : Nat → Nat) (wr : World) : Prop where
  own : AllOwn T wr B K p n c (fun j => mkL mk j (n j))
  tab : TabOf e wr L K (fun k => sl (p k) (n k) (c k))
  gs : TabOf e wr G K (fun i => if i < k then .slice (some ⟨ub i, 0, none⟩) (n i + 64) (uc i) else .slice none 0 0)
  us : ∀ i, i < k → GOwn T wr B (ub i) (uc i) (mkL mk i (n i + 64))
  sep : ∀ i, i < k → ∀ j, j < K → i ≠ j → p j ≠ some (ub i)
  keeps : Keeps (GSet K p) w wr

theorem St1.next {T e : TypeId} {mk : Nat → Nat → Value} {w wr : World} {K B L G : Nat} {p : Nat → Option Nat} {n c : Nat → Nat} {xs : Nat → List Value} (h : St1 T e w K B L G p n c (fun j => ctAt mk xs n K 0 j) wr) : St2 T e mk w K B L G p n c 0 (fun _ => 0) (fun _ => 0) wr :=
  ⟨fun j hj => by have := h.own j hj; simpa only [ctAt_zero, if_pos hj] using this, h.tab, by simpa using h.gs, fun i hi => absurd hi (Nat.not_lt_zero i), fun i hi => absurd hi (Nat.not_lt_zero i), h.keeps⟩

/-- .. and while list k grows: it stands in block q (or is nil still), with j marks more -/
structure St2i (T e : TypeId) (mk : Nat → Nat → Value) (w : World) (K B L G : Nat) (p : Nat → Option Nat) (n c : Nat → Nat) (k : Nat) (ub uc : Nat → Nat) (q : Option Nat) (gc j : Nat) (wr : World) : Prop where
  st : St2 T e mk w K B L G p n c k ub uc wr
  cur : GOwnV T wr B (sl q (n k + j) gc) (mkL mk k (n k + j))
  sepg : ∀ i, i < K → i ≠ k → q = none ∨ q ≠ p i
  sepu : ∀ i, i < k → q ≠ some (ub i)
  same : q = p k ∨ ∃ b, q = some b ∧ w.heap.size ≤ b

theorem St2.start {T e : TypeId} {mk : Nat → Nat → Value} {w wr : World} {K B L G : Nat} {p : Nat → Option Nat} {n c : Nat → Nat} {k : Nat} {ub uc : Nat → Nat} (h : St2 T e mk w K B L G p n c k ub uc wr) (ha : Apart K p) (hk : k < K) : St2i T e mk w K B L G p n c k ub uc (p k) (c k) 0 wr :=
  ⟨h, h.own k hk, fun i hi hne => ha k i hk hi (Ne.symm hne), fun i hi => h.sep i hi k hk (by omega), .inl rfl⟩

theorem St2i.grown {T e : TypeId} {mk : Nat → Nat → Value} {w wr w1 : World} {K B L G : Nat} {p : Nat → Option Nat} {n c : Nat → Nat} {k : Nat} {ub uc : Nat → Nat} {q : Option Nat} {gc j : Nat} (h : St2i T e mk w K B L G p n c k ub uc q gc j wr) (hg : wr.grownBy w1 none) : St2i T e mk w K B L G p n c k ub uc q gc j w1 :=
  ⟨⟨h.st.own.kept hg (fun j _ => by cases p j <;> simp), h.st.tab.kept hg (by simp), h.st.gs.kept hg (by simp), fun i hi => GOwnV.kept (h.st.us i hi).val hg (.inr (by simp [Value.ownBlock])), h.st.sep, h.st.keeps.grown hg (fun _ e => by cases e)⟩,
    h.cur.kept hg (by rw [sl_block]; cases q <;> simp), h.sepg, h.sepu, h.same⟩

theorem St2i.grows {T e : TypeId} {mk : Nat → Nat → Value} {w wr w1 : World} {K B L G : Nat} {p : Nat → Option Nat} {n c : Nat → Nat} {k : Nat} {ub uc : Nat → Nat} {q : Option Nat} {gc j gb' gc' B' : Nat} (h : St2i T e mk w K B L G p n c k ub uc q gc j wr) (hBw : B ≤ wr.heap.size) (hg : wr.grownBy w1 none) (hB : wr.heap.size ≤ B') (ho : GOwn T w1 B' gb' gc' (mkL mk k (n k + j) ++ [mk k (n k + j)])) :
    St2i T e mk w K B L G p n c k ub uc (some gb') gc' (j + 1) w1 := by
  have hb := ho.base
  have h1 := h.grown hg
  refine ⟨h1.st, ?_, fun i hi _ => .inr fun e => ?_, fun i hi e => ?_, .inr ⟨gb', rfl, Nat.le_trans h.st.keeps.size (by omega)⟩⟩
  · have h2 := (ho.lower (B' := B) (by omega)).val
    rw [show n k + (j + 1) = n k + j + 1 by omega, sl_some, mkL_succ]
    rw [List.length_append, mkL_length] at h2
    exact h2
  · have ho2 := h.st.own i hi
    rw [← e] at ho2
    have := ho2.full.2.lt
    omega
  · have := (h.st.us i hi).lt
    injection e with e
    omega

theorem St2i.fits {T e : TypeId} {mk : Nat → Nat → Value} (hT : T ≠ e) {w wr w1 : World} {K B L G : Nat} {p : Nat → Option Nat} {n c : Nat → Nat} {k : Nat} {ub uc : Nat → Nat} {gb gc j : Nat} (h : St2i T e mk w K B L G p n c k ub uc (some gb) gc j wr) (hk : k < K) (hg : wr.grownBy w1 (some gb)) (ho : GOwn T w1 B gb gc (mkL mk k (n k + j) ++ [mk k (n k + j)])) :
    St2i T e mk w K B L G p n c k ub uc (some gb) gc (j + 1) w1 := by
  have n1 := h.st.tab.ne hT h.cur
  have n2 := h.st.gs.ne hT h.cur
  refine ⟨⟨fun i hi => ?_, h.st.tab.kept hg (Ne.symm n1), h.st.gs.kept hg (Ne.symm n2), fun i hi => GOwnV.kept (h.st.us i hi).val hg (.inr (Ne.symm (h.sepu i hi))), h.st.sep, h.st.keeps.grown hg (fun b e => ?_)⟩, ?_, h.sepg, h.sepu, h.same⟩
  · by_cases e : i = k
    · subst e
      by_cases eb : p i = some gb
      · have hi0 := h.st.own i hi
        rw [eb] at hi0
        obtain ⟨hn, hi1⟩ := hi0.full
        have hc := hi1.caps h.cur.full.2
        have hf := ho.front
        have hsp : mkL mk i (n i + j) = mkL mk i (n i) ++ (mkL mk i (n i + j)).drop (n i) := by
          have ht : (mkL mk i (n i + j)).take (n i) = mkL mk i (n i) := by
            simp [mkL, ← List.map_take, List.take_range]
          rw [← ht, List.take_append_drop]
        rw [hsp] at hf
        have hf2 := hf.front.val
        rw [mkL_length] at hf2
        rw [hc, eb]
        exact hf2
      · exact (h.st.own i hi).kept hg (.inr (by rw [sl_block]; exact eb))
    · refine (h.st.own i hi).kept hg ?_
      rw [sl_block]
      rcases h.sepg i hi e with h3 | h3
      · cases h3
      · exact .inr (Ne.symm h3)
  · cases e
    rcases h.same with e | ⟨b, e, hb⟩
    · exact .inl ⟨k, hk, e.symm⟩
    · injection e with e
      subst e
      exact .inr hb
  · have h2 := ho.val
    rw [show n k + (j + 1) = n k + j + 1 by omega, sl_some, mkL_succ]
    rw [List.length_append, mkL_length] at h2
    exact h2

theorem St2i.done {T e : TypeId} {mk : Nat → Nat → Value} (hT : T ≠ e) {w wr : World} {K B L G : Nat} {p : Nat → Option Nat} {n c : Nat → Nat} {k : Nat} {ub uc : Nat → Nat} {gb gc : Nat} (h : St2i T e mk w K B L G p n c k ub uc (some gb) gc 64 wr) (hG : w.heap.size ≤ G) (hL : L < w.heap.size) :
    St2 T e mk w K B L G p n c (k + 1) (fun i => if i = k then gb else ub i) (fun i => if i = k then gc else uc i) (wr.setCell ⟨G, k, none⟩ (.slice (some ⟨gb, 0, none⟩) (n k + 64) gc)) := by
  refine ⟨h.st.own.store_other _ _ _ (fun j hj => h.st.gs.ne hT (h.st.own j hj)), ?_, ?_, fun i hi => ?_, fun i hi j hj hne => ?_, h.st.keeps.setCell _ _ _ (.inr hG)⟩
  · exact h.st.tab.store_other _ _ _ (by omega)
  · have := h.st.gs.store k (.slice (some ⟨gb, 0, none⟩) (n k + 64) gc)
    have e : (fun i => if i = k then Value.slice (some ⟨gb, 0, none⟩) (n k + 64) gc else if i < k then Value.slice (some ⟨ub i, 0, none⟩) (n i + 64) (uc i) else .slice none 0 0) = fun i => if i < k + 1 then Value.slice (some ⟨if i = k then gb else ub i, 0, none⟩) (n i + 64) (if i = k then gc else uc i) else .slice none 0 0 := by
      funext i
      by_cases e : i = k
      · subst e; simp
      · by_cases hi : i < k
        · simp [e, hi, show i < k + 1 by omega]
        · simp [e, hi, show ¬ i < k + 1 by omega]
    rw [e] at this
    exact this
  · by_cases e : i = k
    · subst e
      simp only [if_true]
      have h2 := h.cur.store_other G i (.slice (some ⟨gb, 0, none⟩) (n i + 64) gc) (by rw [sl_block]; exact h.st.gs.ne hT h.cur)
      exact h2.full.2
    · simp only [e, if_false]
      have hu : GOwnV T wr B (sl (some (ub i)) (n i + 64) (uc i)) (mkL mk i (n i + 64)) := by
        have := (h.st.us i (by omega)).val
        rw [mkL_length] at this
        exact this
      exact (hu.store_other G k _ (by rw [sl_block]; exact h.st.gs.ne hT hu)).full.2
  · by_cases e : i = k
    · subst e
      simp only [if_true]
      rcases h.sepg j hj (Ne.symm hne) with h3 | h3
      · cases h3
      · exact Ne.symm h3
    · simp only [e, if_false]
      exact h.st.sep i (by omega) j hj hne
end Go.Proofs.Ytnmcdkhfjkpklaa
