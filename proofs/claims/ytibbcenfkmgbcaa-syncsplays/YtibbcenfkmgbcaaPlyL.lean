/- SyncsPlays: two rounds and the document's two, side by side. -/
import Derived.Test.YtibbcenfkmgbcaaKitF
import Derived.Test.YtibbcenfkmgbcaaOpenS
namespace Go.Proofs.Ytibbcenfkmgbcaa
open Go.RowKit

def upd {α : Type} (f : Nat → α) (j : Nat) (x : α) : Nat → α := fun i => if i = j then x else f i
theorem upd_same {α : Type} (f : Nat → α) (j : Nat) (x : α) : upd f j x j = x := by simp [upd]
theorem upd_other {α : Type} (f : Nat → α) {i j : Nat} (x : α) (h : i ≠ j) : upd f j x i = f i := by simp [upd, h]

theorem two_cases {P : Nat → Prop} (h0 : P 0) (h1 : P 1) : ∀ j < 2, P j := fun j hj => by
  rcases (by omega : j = 0 ∨ j = 1) with rfl | rfl
  · exact h0
  · exact h1

theorem blk_ne {w : World} {g k : Nat} {S T : TypeId} {c d : Array Value} (h : Blk w g S c) (h' : Blk w k T d) (hT : S ≠ T) : g ≠ k := by
  rintro rfl
  have h2 : some (Obj.cells c S (0, 0)) = some (Obj.cells d T (0, 0)) := (show w.heap[g]? = _ from h).symm.trans h'
  injection h2 with h2
  injection h2 with _ h3
  exact hT h3
theorem GOwnV.block_in {T : TypeId} {w : World} {B g : Nat} {v : Value} {xs : List Value} (h : GOwnV T w B v xs) (hg : v.ownBlock = some g) : B ≤ g ∧ g < w.heap.size := by
  rcases h.shape with ⟨rfl, _⟩ | ⟨g', cap, rfl, ho⟩
  · simp [Value.ownBlock] at hg
  · simp [Value.ownBlock] at hg
    subst hg
    exact ⟨ho.base, ho.lt⟩
theorem GOwnV.keptV {T : TypeId} {w w' : World} {B k : Nat} {v : Value} {xs : List Value} (h : GOwnV T w B v xs) (hne : v.ownBlock ≠ some k) (hg : w.grownBy w' (some k)) : GOwnV T w' B v xs := by
  rcases h.shape with ⟨rfl, rfl⟩ | ⟨g, cap, rfl, ho⟩
  · exact GOwnV.nil _ _ _
  · exact (ho.grown hg (fun e => hne (by simp [Value.ownBlock, e]))).val

/-- the rounds (fr, nr) and the document's (fl, nl, in v) -/
structure PS (w0 w : World) (R L : Nat) (q : Nat → Nat) (fr : Nat → List Bool) (nr : Nat → Int) (fl : Nat → List Bool) (nl : Nat → Int) (v : Nat → Value) : Prop where
  bel : Below w0.heap.size w0 w
  rge : w0.heap.size ≤ R
  lge : w0.heap.size ≤ L
  rb : Blk w R 40 #[.pointer (some ⟨q 0, 0, none⟩), .pointer (some ⟨q 1, 0, none⟩)]
  lb : Blk w L 41 #[.int .i64 (nl 0), v 0, .int .i64 (nl 1), v 1]
  rnd : ∀ j < 2, Rnd w (q j) (fr j) (nr j)
  qge : ∀ j < 2, w0.heap.size ≤ q j
  own : ∀ j < 2, GOwnV 4 w w0.heap.size (v j) (flgs (fl j))
  ne : q 0 ≠ q 1
theorem PS.below {w0 w w' : World} {R L : Nat} {q : Nat → Nat} {fr : Nat → List Bool} {nr : Nat → Int} {fl : Nat → List Bool} {nl : Nat → Int} {v : Nat → Value} (h : PS w0 w R L q fr nr fl nl v) (hb : Below w.heap.size w w') : PS w0 w' R L q fr nr fl nl v :=
  ⟨below_step h.bel hb, h.rge, h.lge, h.rb.grow hb, h.lb.grow hb, fun j hj => (h.rnd j hj).below hb, h.qge, fun j hj => (h.own j hj).below hb, h.ne⟩
/-- round j is turned -/
theorem PS.turned {w0 w w' : World} {R L : Nat} {q : Nat → Nat} {fr : Nat → List Bool} {nr : Nat → Int} {fl : Nat → List Bool} {nl : Nat → Int} {v : Nat → Value} (h : PS w0 w R L q fr nr fl nl v) (j : Nat) (hj : j < 2) {x : List Bool} {m : Int} (hr : Rnd w' (q j) x m) (hg : w.grownBy w' (some (q j))) : PS w0 w' R L q (upd fr j x) (upd nr j m) fl nl v := by
  have hb := (h.rnd j hj).blk
  refine ⟨below_kept h.bel hg (h.qge j hj), h.rge, h.lge, h.rb.kept hg (fun e => blk_ne h.rb hb (by decide) (by injection e)), h.lb.kept hg (fun e => blk_ne h.lb hb (by decide) (by injection e)), fun i hi => ?_, h.qge, fun i hi => (h.own i hi).kept4 hb (by decide) hg, h.ne⟩
  by_cases e : i = j
  · subst e; rw [upd_same, upd_same]; exact hr
  · rw [upd_other _ _ e, upd_other _ _ e]
    refine (h.rnd i hi).kept hg (fun e' => ?_)
    rcases (by omega : (i = 0 ∧ j = 1) ∨ (i = 1 ∧ j = 0)) with ⟨rfl, rfl⟩ | ⟨rfl, rfl⟩
    · exact h.ne e'
    · exact h.ne e'.symm
/-- a block of flags that is none of theirs is turned -/
theorem PS.apart {w0 w w' : World} {R L : Nat} {q : Nat → Nat} {fr : Nat → List Bool} {nr : Nat → Int} {fl : Nat → List Bool} {nl : Nat → Int} {v : Nat → Value} (h : PS w0 w R L q fr nr fl nl v) {g B c : Nat} {xs : List Value} (ho : GOwn 4 w B g c xs) (hB : w0.heap.size ≤ g) (hn : ∀ j < 2, (v j).ownBlock ≠ some g) (hg : w.grownBy w' (some g)) : PS w0 w' R L q fr nr fl nl v := by
  refine ⟨below_kept h.bel hg hB, h.rge, h.lge, h.rb.kept hg (fun e => ne_of_type ho h.rb (by decide) (by injection e with e; exact e.symm)), h.lb.kept hg (fun e => ne_of_type ho h.lb (by decide) (by injection e with e; exact e.symm)), fun i hi => (h.rnd i hi).kept hg (fun e => ne_of_type ho (h.rnd i hi).blk (by decide) e.symm), h.qge, fun i hi => (h.own i hi).keptV (hn i hi) hg, h.ne⟩
theorem lb_set (a b : Int) (x y : Value) (j : Nat) (hj : j < 2) (nl : Nat → Int) (v : Nat → Value) (m : Int) (u : Value) (e0 : nl 0 = a) (e1 : nl 1 = b) (f0 : v 0 = x) (f1 : v 1 = y) :
    ((#[Value.int .i64 a, x, .int .i64 b, y].setIfInBounds (2 * j) (.int .i64 m)).setIfInBounds (2 * j + 1) u) = #[.int .i64 (upd nl j m 0), upd v j u 0, .int .i64 (upd nl j m 1), upd v j u 1] := by
  rcases (by omega : j = 0 ∨ j = 1) with rfl | rfl
  · rw [upd_same, upd_same, upd_other _ _ (by decide), upd_other _ _ (by decide), e1, f1]; rfl
  · rw [upd_same, upd_same, upd_other _ _ (by decide), upd_other _ _ (by decide), e0, f0]; rfl
/-- the document's round j is put -/
theorem PS.put {w0 w : World} {R L : Nat} {q : Nat → Nat} {fr : Nat → List Bool} {nr : Nat → Int} {fl : Nat → List Bool} {nl : Nat → Int} {v : Nat → Value} (h : PS w0 w R L q fr nr fl nl v) (j : Nat) (hj : j < 2) {x : List Bool} (m : Int) {u : Value} (hu : GOwnV 4 w w0.heap.size u (flgs x)) :
    PS w0 ((w.setCell ⟨L, 2 * j, none⟩ (.int .i64 m)).setCell ⟨L, 2 * j + 1, none⟩ u) R L q fr nr (upd fl j x) (upd nl j m) (upd v j u) := by
  have hg := (grown_setCell w L (2 * j) (.int .i64 m)).trans (grown_setCell _ L (2 * j + 1) u)
  have hs := (h.lb.set (2 * j) (.int .i64 m)).set (2 * j + 1) u
  rw [lb_set _ _ _ _ j hj nl v m u rfl rfl rfl rfl] at hs
  refine ⟨below_kept h.bel hg h.lge, h.rge, h.lge, h.rb.kept hg (fun e => blk_ne h.rb h.lb (by decide) (by injection e)), hs, fun i hi => (h.rnd i hi).kept hg (fun e => blk_ne (h.rnd i hi).blk h.lb (by decide) e), h.qge, fun i hi => ?_, h.ne⟩
  by_cases e : i = j
  · subst e; rw [upd_same, upd_same]; exact hu.kept4 h.lb (by decide) hg
  · rw [upd_other _ _ e, upd_other _ _ e]; exact (h.own i hi).kept4 h.lb (by decide) hg
/-- the other round becomes a copy -/
theorem PS.copied {w0 w w1 : World} {R L : Nat} {q : Nat → Nat} {f : Nat → List Bool} {n : Nat → Int} {v : Nat → Value} (h : PS w0 w R L q f n f n v) (j : Nat) (hj : j < 2) {k : Nat} (hr : Rnd w1 k (f j) (n j)) (hb : Below w.heap.size w w1) (hk : w.heap.size ≤ k) :
    PS w0 (((w1.setCell ⟨R, 1 - j, none⟩ (.pointer (some ⟨k, 0, none⟩))).setCell ⟨L, 2 * (1 - j), none⟩ (.int .i64 (n j))).setCell ⟨L, 2 * (1 - j) + 1, none⟩ (v j)) R L (upd q (1 - j) k) (upd f (1 - j) (f j)) (upd n (1 - j) (n j)) (upd f (1 - j) (f j)) (upd n (1 - j) (n j)) (upd v (1 - j) (v j)) := by
  have h1 := h.below hb
  have hg := grown_setCell w1 R (1 - j) (.pointer (some ⟨k, 0, none⟩))
  have hq := (h.rnd j hj).lt
  have hs := h1.rb.set (1 - j) (.pointer (some ⟨k, 0, none⟩))
  have hw := h.bel.size
  have h2 : PS w0 (w1.setCell ⟨R, 1 - j, none⟩ (.pointer (some ⟨k, 0, none⟩))) R L (upd q (1 - j) k) (upd f (1 - j) (f j)) (upd n (1 - j) (n j)) f n v := by
    refine ⟨below_kept h1.bel hg h.rge, h.rge, h.lge, ?_, h1.lb.kept hg (fun e => blk_ne h1.lb h1.rb (by decide) (by injection e)), fun i hi => ?_, fun i hi => ?_, fun i hi => (h1.own i hi).kept4 h1.rb (by decide) hg, ?_⟩
    · rcases (by omega : j = 0 ∨ j = 1) with rfl | rfl
      · exact hs
      · exact hs
    · by_cases e : i = 1 - j
      · subst e
        rw [upd_same, upd_same, upd_same]
        exact hr.kept hg (fun e => blk_ne hr.blk h1.rb (by decide) e)
      · rw [upd_other _ _ e, upd_other _ _ e, upd_other _ _ e]
        exact (h1.rnd i hi).kept hg (fun e => blk_ne (h1.rnd i hi).blk h1.rb (by decide) e)
    · by_cases e : i = 1 - j
      · subst e; rw [upd_same]; omega
      · rw [upd_other _ _ e]; exact h1.qge i hi
    · rcases (by omega : j = 0 ∨ j = 1) with rfl | rfl
      · show q 0 ≠ k; omega
      · show k ≠ q 1; omega
  exact h2.put (1 - j) (by omega) (n j) (h2.own j hj)

theorem GOwnV.at {w : World} {B n c : Nat} {p : Option Addr} {hs : List Bool} (h : GOwnV 4 w B (.slice p n c) (flgs hs)) : BRow w p hs := by
  obtain ⟨p', c', e', hr⟩ := h.brow
  injection e' with e'
  subst e'
  exact hr
/-- the document's Drop -/
theorem rdrop_at (p : Option Addr) (c : Nat) (fs : List Bool) (n z : Int) (B : Nat) (w : World) (hl : fs.length ≤ 8) (hB : B ≤ w.heap.size) (ho : GOwnV 4 w B (.slice p fs.length c) (flgs fs)) :
    Calls Try.prog 19 #[.agg #[.int .i64 n, .slice p fs.length c], .int .i64 z] w fun e w' => ∃ pu cu, e = .returned (.tuple #[.agg #[.int .i64 n, .slice pu fs.length cu], .bool (pnd fs z)]) ∧ GOwnV 4 w' B (.slice pu fs.length cu) (flgs (drp fs z)) ∧ Below w.heap.size w w' := by
  cases hp : pnd fs z
  · refine (rdrop_no p c fs n z w hl ho.at hp).mono ?_
    rintro e w' ⟨rfl, hb⟩
    exact ⟨p, c, rfl, by rw [drp_no hp]; exact ho.below hb, hb⟩
  · refine (rdrop_yes p c fs n z w hl ho.at hp).mono ?_
    rintro e w' ⟨v, rfl, hv, hb⟩
    obtain ⟨pu, cu, rfl, -⟩ := hv.brow
    rw [drp_len] at *
    exact ⟨pu, cu, rfl, hv.lowerV hB, hb⟩
/-- the document's Send, of what may be sent -/
theorem rsend_at (p pr : Option Addr) (c cr : Nat) (fs rs : List Bool) (n : Int) (B : Nat) (w : World) (hl : fs.length ≤ 8) (hB : B ≤ w.heap.size) (M : Nat → Prop) (hM : ∀ g', w.heap.size ≤ g' → M g') (hr : BRow w p fs) (hrr : BRow w pr rs) (hnil : pr = none → cr = 0) (hk : rs.length = fs.length) (ho : ovr fs = true) (hn0 : 0 ≤ n) (hn : n ≤ 1000000) :
    Calls Try.prog 17 #[.agg #[.int .i64 n, .slice p fs.length c], .slice pr rs.length cr] w fun e w' => ∃ pu cu, e = .returned (.tuple #[.agg #[.int .i64 (n + 1), .slice pu rs.length cu], .int .i64 (n + 1), .int .i64 0]) ∧ (GOwnV 4 w' B (.slice pu rs.length cu) (flgs rs) ∧ ∀ g', (Value.slice pu rs.length cu).ownBlock = some g' → M g') ∧ Below w.heap.size w w' := by
  refine (rsend_ok p pr c cr fs rs n w hl hr hrr hnil hk ho hn0 hn).mono ?_
  rintro e w' ⟨v, rfl, hv, hb⟩
  obtain ⟨pu, cu, rfl, -⟩ := hv.brow
  exact ⟨pu, cu, rfl, ⟨hv.lowerV hB, fun g' hg => hM g' (hv.block_in hg).1⟩, hb⟩
/-- .. of what may not -/
theorem rsend_not (p pr : Option Addr) (c cr : Nat) (fs rs : List Bool) (n : Int) (B : Nat) (w : World) (hl : fs.length ≤ 8) (ho : GOwnV 4 w B (.slice p fs.length c) (flgs fs)) (hb : rs.length ≠ fs.length ∨ ovr fs = false) (M : Nat → Prop) (hM : ∀ g', (Value.slice p fs.length c).ownBlock = some g' → M g') :
    Calls Try.prog 17 #[.agg #[.int .i64 n, .slice p fs.length c], .slice pr rs.length cr] w fun e w' => ∃ pu cu, e = .returned (.tuple #[.agg #[.int .i64 n, .slice pu fs.length cu], .int .i64 0, .int .i64 2]) ∧ (GOwnV 4 w' B (.slice pu fs.length cu) (flgs fs) ∧ ∀ g', (Value.slice pu fs.length cu).ownBlock = some g' → M g') ∧ Below w.heap.size w w' := by
  refine (rsend_bad p pr c cr fs rs n w hl ho.at hb).mono ?_
  rintro e w' ⟨rfl, hb⟩
  exact ⟨p, c, rfl, ⟨ho.below hb, hM⟩, hb⟩
theorem upd_self {α : Type} (f : Nat → α) (j : Nat) : upd f j (f j) = f := by
  funext i
  by_cases e : i = j
  · subst e; rw [upd_same]
  · rw [upd_other _ _ e]
/-- a variable of another kind is turned -/
theorem PS.otherT {w0 w w' : World} {R L : Nat} {q : Nat → Nat} {fr : Nat → List Bool} {nr : Nat → Int} {fl : Nat → List Bool} {nl : Nat → Int} {v : Nat → Value} (h : PS w0 w R L q fr nr fl nl v) {k : Nat} {T : TypeId} {c : Array Value} (hb : Blk w k T c) (hT : T ≠ 4 ∧ T ≠ 40 ∧ T ≠ 41 ∧ T ≠ 55) (hB : w0.heap.size ≤ k) (hg : w.grownBy w' (some k)) : PS w0 w' R L q fr nr fl nl v :=
  ⟨below_kept h.bel hg hB, h.rge, h.lge, h.rb.kept hg (fun e => blk_ne h.rb hb (Ne.symm hT.2.1) (by injection e)), h.lb.kept hg (fun e => blk_ne h.lb hb (Ne.symm hT.2.2.1) (by injection e)), fun i hi => (h.rnd i hi).kept hg (fun e => blk_ne (h.rnd i hi).blk hb (Ne.symm hT.2.2.2) e), h.qge, fun i hi => (h.own i hi).kept4 hb hT.1 hg, h.ne⟩
theorem cell_off (w : World) (b : Nat) {o o' : Nat} (v : Value) (h : o ≠ o') : (w.setCell ⟨b, o, none⟩ v).cell? ⟨b, o', none⟩ = w.cell? ⟨b, o', none⟩ := World.cell?_setCell_other _ _ _ _ (fun e => h (by injection e))
theorem cell_blk (w : World) {b b' : Nat} (o o' : Nat) (v : Value) (h : b ≠ b') : (w.setCell ⟨b, o, none⟩ v).cell? ⟨b', o', none⟩ = w.cell? ⟨b', o', none⟩ := World.cell?_setCell_other _ _ _ _ (fun e => h (by injection e))
theorem bnd_upd {n : Nat → Int} {i : Nat} (h : ∀ j, 0 ≤ n j ∧ n j ≤ i) (J : Nat) {m : Int} (h0 : 0 ≤ m) (h1 : m ≤ (i : Int) + 1) : ∀ j, 0 ≤ upd n J m j ∧ upd n J m j ≤ (i : Int) + 1 := by
  intro j
  by_cases e : j = J
  · subst e; rw [upd_same]; exact ⟨h0, h1⟩
  · rw [upd_other _ _ e]; exact ⟨(h j).1, by have := (h j).2; omega⟩

end Go.Proofs.Ytibbcenfkmgbcaa
