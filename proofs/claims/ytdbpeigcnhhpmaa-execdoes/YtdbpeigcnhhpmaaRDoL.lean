/- switchyardref14.Do: how its variables lie in memory. -/
import Derived.Test.YtdbpeigcnhhpmaaDoM
namespace Go.Proofs.Ytdbpeigcnhhpmaa
open Go.RowKit

/-- Do's variables: the instruction, the registers, both results; q: the first block -/
structure RSt (w : World) (q : Nat) (o a b n : Int) (R : List Int) (v : Value) (S : List Int) (wr : World) : Prop where
  bi : Blk wr q 24 #[.int .u8 o, .int .u8 a, .int .u8 b, .int .i32 n]
  br : Blk wr (q + 1) 32 (rgA R v)
  b8 : Blk wr (q + 1 + 1) 32 noRegs
  b9 : Blk wr (q + 1 + 1 + 1) 40 (efA 0)
  ow : POwnV wr (q + 4) v S
  bel : Below q w wr
  len : R.length = 8

theorem RSt.below {w wr wr' : World} {q : Nat} {o a b n : Int} {R S : List Int} {v : Value} (h : RSt w q o a b n R v S wr) (hb : Below wr.heap.size wr wr') : RSt w q o a b n R v S wr' :=
  ⟨h.bi.grow hb, h.br.grow hb, h.b8.grow hb, h.b9.grow hb, h.ow.below hb, h.bel.trans (hb.mono (by have := h.bi.lt; omega)), h.len⟩
theorem RSt.drewN {w wr : World} {q : Nat} {o a b n : Int} {R S : List Int} {v : Value} (h : RSt w q o a b n R v S wr) (k : Nat) : RSt w q o a b n R v S (wr.drewN k) :=
  ⟨h.bi, h.br, h.b8, h.b9, h.ow, below_drewN h.bel k, h.len⟩
theorem RSt.setR {w wr : World} {q : Nat} {o a b n : Int} {R S : List Int} {v : Value} (h : RSt w q o a b n R v S wr) (i : Nat) (hi : i < 8) (x : Int) : RSt w q o a b n (R.set i x) v S (wr.setCell ⟨q + 1, i, none⟩ (.int .u32 x)) :=
  ⟨h.bi.other (by omega) _ _, by have := h.br.set i (.int .u32 x); rw [rgA_set R v i (by rw [h.len]; exact hi)] at this; exact this, h.b8.other (by omega) _ _, h.b9.other (by omega) _ _,
    h.ow.keptFar (grown_setCell _ _ _ _) (by omega), h.bel.grown (grown_setCell _ _ _ _) (by have := h.bi.lt; omega) (fun k hk => by cases hk; omega), by rw [List.length_set]; exact h.len⟩
/-- .. and the effect's -/
structure RSx (w : World) (q : Nat) (o a b n : Int) (R : List Int) (v : Value) (S : List Int) (gx : Nat) (E : Array Value) (wr : World) : Prop where
  st : RSt w q o a b n R v S wr
  bx : Blk wr gx 40 E
  ge : q + 4 ≤ gx
  ne : v.ownBlock ≠ some gx
theorem RSx.setR {w wr : World} {q gx : Nat} {o a b n : Int} {R S : List Int} {v : Value} {E : Array Value} (h : RSx w q o a b n R v S gx E wr) (i : Nat) (hi : i < 8) (x : Int) : RSx w q o a b n (R.set i x) v S gx E (wr.setCell ⟨q + 1, i, none⟩ (.int .u32 x)) :=
  ⟨h.st.setR i hi x, h.bx.other (by have := h.ge; omega) _ _, h.ge, h.ne⟩
theorem RSx.drewN {w wr : World} {q gx : Nat} {o a b n : Int} {R S : List Int} {v : Value} {E : Array Value} (h : RSx w q o a b n R v S gx E wr) (k : Nat) : RSx w q o a b n R v S gx E (wr.drewN k) :=
  ⟨h.st.drewN k, h.bx, h.ge, h.ne⟩
theorem RSt.far {w wr wr' : World} {q gx : Nat} {o a b n : Int} {R S : List Int} {v : Value} (h : RSt w q o a b n R v S wr) (hg : wr.grownBy wr' (some gx)) (hq : q + 4 ≤ gx) (hne : v.ownBlock ≠ some gx) : RSt w q o a b n R v S wr' :=
  ⟨h.bi.kept hg (by intro e; injection e with e; omega), h.br.kept hg (by intro e; injection e with e; omega), h.b8.kept hg (by intro e; injection e with e; omega), h.b9.kept hg (by intro e; injection e with e; omega),
    h.ow.kept hg hne, h.bel.grown hg (by have := h.bi.lt; omega) (fun k hk => by cases hk; omega), h.len⟩
theorem RSx.setE {w wr : World} {q gx : Nat} {o a b n : Int} {R S : List Int} {v : Value} {E : Array Value} (h : RSx w q o a b n R v S gx E wr) (i : Nat) (x : Value) : RSx w q o a b n R v S gx (E.setIfInBounds i x) (wr.setCell ⟨gx, i, none⟩ x) :=
  ⟨h.st.far (grown_setCell _ _ _ _) h.ge h.ne, h.bx.set i x, h.ge, h.ne⟩

theorem RSx.to {w wr : World} {q gx : Nat} {o a b n : Int} {R R' S S' : List Int} {v : Value} {E E' : Array Value} (h : RSx w q o a b n R v S gx E wr) (h1 : R' = R) (h2 : S' = S) (h3 : E' = E) : RSx w q o a b n R' v S' gx E' wr := by
  subst h1 h2 h3; exact h
theorem RSx.below {w wr wr' : World} {q gx : Nat} {o a b n : Int} {R S : List Int} {v : Value} {E : Array Value} (h : RSx w q o a b n R v S gx E wr) (hb : Below wr.heap.size wr wr') : RSx w q o a b n R v S gx E wr' :=
  ⟨h.st.below hb, h.bx.grow hb, h.ge, h.ne⟩
theorem RSx.reg {w wr : World} {q gx : Nat} {o a b n : Int} {R S : List Int} {v : Value} {E : Array Value} (h : RSx w q o a b n R v S gx E wr) {i : Nat} (hi : i < 8) : wr.cell? ⟨q + 1, i, none⟩ = some (.int .u32 (R.getD i 0)) := by
  rw [h.st.br.cell, rgA_cell R v i (by rw [h.st.len]; exact hi)]
theorem RSt.withE {w wr : World} {q : Nat} {o a b n : Int} {R S : List Int} {v : Value} (ob : Obj) {E : Array Value} (h : RSt w q o a b n R v S wr) (hob : ob = .cells E 40) :
    RSx w q o a b n R v S wr.heap.size E (wr.alloc ob) := by
  subst hob
  exact ⟨h.below (new_alloc _ _), Blk.new _ _ _, by have := h.b9.lt; omega, fun e => by have := (World.ownsRow.lt h.ow _ e).2; omega⟩
theorem POwnV.notType40 {w : World} {B g : Nat} {v : Value} {xs : List Int} {E : Array Value} (h : POwnV w B v xs) (hb : Blk w g 40 E) : v.ownBlock ≠ some g := by
  rcases h.shape with ⟨rfl, _⟩ | ⟨g', cap, rfl, ho⟩
  · intro e; cases e
  · intro e
    have e' : some g' = some g := e
    injection e' with e'
    obtain ⟨cur, _, h2, _⟩ := ho.parts
    rw [e', show w.heap[g]? = _ from hb] at h2
    simp at h2
theorem RSx.pushed {w wr w6 : World} {q gx : Nat} {o a b n bh : Int} {R S : List Int} {E : Array Value} {v : Value} {p' : Option Addr} {l' c' : Nat} (h : RSx w q o a b n R v S gx E wr)
    (ho : POwnV w6 (q + 4) (.slice p' l' c') (S ++ [bh])) (hgr : (wr.alloc (.cells #[.int .u32 bh] 25)).grownBy w6 v.ownBlock) :
    w6.cell? ⟨q + 1, 8, none⟩ = some v ∧ w6.frozen? ⟨q + 1, 8, none⟩ = false ∧ (w6.setCell ⟨q + 1, 8, none⟩ (.slice p' l' c')).cell? ⟨gx, 0, none⟩ = E[0]? ∧ (∀ i, (w6.setCell ⟨q + 1, 8, none⟩ (.slice p' l' c')).frozen? ⟨gx, i, none⟩ = false) ∧
      RSx w q o a b n R (.slice p' l' c') (S ++ [bh]) gx E (w6.setCell ⟨q + 1, 8, none⟩ (.slice p' l' c')) := by
  have h5 := h.below (new_alloc wr (.cells #[.int .u32 bh] 25))
  have hv : ∀ k, v.ownBlock = some k → q + 4 ≤ k := fun k hk => (World.ownsRow.lt h.st.ow k hk).1
  have hk : ∀ k, k < q + 4 → some k ≠ v.ownBlock := fun k hk e => by have := hv k e.symm; omega
  have k1 := h5.st.br.kept hgr (hk _ (by omega))
  have kx := h5.bx.kept hgr (by intro e; exact h.ne e.symm)
  have kx' := kx.other (k := q + 1) (by have := h.ge; omega) 8 (.slice p' l' c')
  refine ⟨by rw [k1.cell, rgA_last R _ h.st.len], k1.free 8, by rw [kx'.cell], fun i => kx'.free i, ⟨⟨?_, ?_, ?_, ?_, ?_, ?_, h.st.len⟩, kx', h.ge, ho.notType40 kx⟩⟩
  · exact (h5.st.bi.kept hgr (hk _ (by omega))).other (by omega) _ _
  · have := k1.set 8 (.slice p' l' c'); rw [rgA_stack R _ _ h.st.len] at this; exact this
  · exact (h5.st.b8.kept hgr (hk _ (by omega))).other (by omega) _ _
  · exact (h5.st.b9.kept hgr (hk _ (by omega))).other (by omega) _ _
  · exact ho.keptFar (grown_setCell _ _ _ _) (by omega)
  · exact (h5.st.bel.grown hgr (by have := h5.st.bi.lt; omega) (fun k hk => by have := hv k hk; omega)).grown (grown_setCell _ _ _ _) (by have := (h5.st.bi.kept hgr (hk _ (by omega))).lt; omega) (fun k hk => by cases hk; omega)
theorem RSx.cells {w wr : World} {q gx : Nat} {o a b n bh : Int} {R S : List Int} {v : Value} (h : RSx w q o a b n R v S gx (efA bh) wr) :
    wr.cell? ⟨q + 1, 8, none⟩ = some v ∧ wr.frozen? ⟨q + 1, 8, none⟩ = false ∧ wr.cell? ⟨gx, 0, none⟩ = some (.int .u32 bh) ∧ wr.cell? ⟨gx, 1, none⟩ = some (.bool false) ∧ wr.cell? ⟨gx, 2, none⟩ = some (.int .i64 0) ∧ wr.cell? ⟨gx, 3, none⟩ = some (.bool false) ∧ wr.cell? ⟨gx, 4, none⟩ = some (.bool false) ∧ wr.cell? ⟨gx, 5, none⟩ = some (.int .u32 0) ∧ wr.cell? ⟨gx, 6, none⟩ = some (.int .u32 0) ∧ (∀ i, wr.frozen? ⟨gx, i, none⟩ = false) ∧
      ∀ v' S', v'.ownBlock ≠ some gx → (POwnV wr (q + 4) v S → POwnV wr (q + 4) v' S') → RSx w q o a b n R v' S' gx (efA bh) (wr.setCell ⟨q + 1, 8, none⟩ v') := by
  refine ⟨by rw [h.st.br.cell, rgA_last R _ h.st.len], h.st.br.free 8, h.bx.cell 0, h.bx.cell 1, h.bx.cell 2, h.bx.cell 3, h.bx.cell 4, h.bx.cell 5, h.bx.cell 6, fun i => h.bx.free i, fun v' S' hne ho => ⟨⟨h.st.bi.other (by omega) _ _, ?_, h.st.b8.other (by omega) _ _, h.st.b9.other (by omega) _ _, (ho h.st.ow).keptFar (grown_setCell _ _ _ _) (by omega), ?_, h.st.len⟩, h.bx.other (by have := h.ge; omega) _ _, h.ge, hne⟩⟩
  · have := h.st.br.set 8 v'; rw [rgA_stack R _ _ h.st.len] at this; exact this
  · exact h.st.bel.grown (grown_setCell _ _ _ _) (by have := h.st.bi.lt; omega) (fun k hk => by cases hk; omega)
theorem RSx.setAll {w wr : World} {q gx : Nat} {o a b n : Int} {R S : List Int} {v : Value} {E : Array Value} (h : RSx w q o a b n R v S gx E wr) (E' : Array Value) (hs : E'.size = E.size) : RSx w q o a b n R v S gx E' (wr.setCells gx 0 E'.toList) :=
  ⟨h.st.far (grown_setCells gx _ _ _) h.ge h.ne, h.bx.setAll E' hs, h.ge, h.ne⟩
theorem RSx.stored {w wr : World} {q gx : Nat} {o a b n : Int} {R S : List Int} {v : Value} {E : Array Value} (h : RSx w q o a b n R v S gx E wr) (A F : Array Value) (hA : A.size = 9) (hF : F.size = 7) :
    Blk ((wr.setCells (q + 1 + 1) 0 A.toList).setCells (q + 1 + 1 + 1) 0 F.toList).drew (q + 1 + 1) 32 A ∧ Blk ((wr.setCells (q + 1 + 1) 0 A.toList).setCells (q + 1 + 1 + 1) 0 F.toList).drew (q + 1 + 1 + 1) 40 F ∧
      POwnV ((wr.setCells (q + 1 + 1) 0 A.toList).setCells (q + 1 + 1 + 1) 0 F.toList).drew q v S ∧ Below q w ((wr.setCells (q + 1 + 1) 0 A.toList).setCells (q + 1 + 1 + 1) 0 F.toList).drew := by
  have g1 := grown_setCells (q + 1 + 1) A.toList 0 wr
  have b1 : Blk (wr.setCells (q + 1 + 1) 0 A.toList) (q + 1 + 1) 32 A := h.st.b8.setAll A (by rw [hA]; rfl)
  have b2 := h.st.b9.kept g1 (by intro e; injection e with e; omega)
  have o1 := h.st.ow.keptFar g1 (by omega)
  have l1 := h.st.bel.grown g1 (by have := h.st.bi.lt; omega) (fun k hk => by cases hk; omega)
  generalize wr.setCells (q + 1 + 1) 0 A.toList = w1 at *
  have g2 := grown_setCells (q + 1 + 1 + 1) F.toList 0 w1
  have b3 : Blk (w1.setCells (q + 1 + 1 + 1) 0 F.toList) (q + 1 + 1 + 1) 40 F := b2.setAll F (by rw [hF]; rfl)
  have k1 : Blk (w1.setCells (q + 1 + 1 + 1) 0 F.toList) (q + 1 + 1) 32 A := b1.kept g2 (by intro e; injection e with e; omega)
  have o2 : POwnV (w1.setCells (q + 1 + 1 + 1) 0 F.toList) q v S := (o1.keptFar g2 (by omega)).low (by omega)
  exact ⟨k1, b3, o2, (l1.grown g2 (by have := b1.lt; omega) (fun k hk => by cases hk; omega)).drew⟩
/-- how its variables lie when it begins -/
theorem RSt.start (w w0 : World) (o a b n : Int) (R S : List Int) (v0 : Value) (lR : R.length = 8) (h0 : w0 = (((w.alloc (.cells #[.int .u8 o, .int .u8 a, .int .u8 b, .int .i32 n] 24)).alloc (.cells (rgA R v0) 32)).alloc (.cells noRegs 32)).alloc (.cells (efA 0) 40)) :
    (∀ w1 w2 v, POwnV w1 (w.heap.size + 4) v S → Below w0.heap.size w0 w1 → w1.grownBy w2 (some (w.heap.size + 1)) → Blk w2 (w.heap.size + 1) 32 (rgA R v) → RSt w w.heap.size o a b n R v S w2) ∧ w0.heap.size = w.heap.size + 4 ∧ Below w.heap.size w w0 ∧ (∀ w1, Below w0.heap.size w0 w1 → Blk w1 (w.heap.size + 1) 32 (rgA R v0)) := by
  have b1 : Blk (w.alloc (.cells #[.int .u8 o, .int .u8 a, .int .u8 b, .int .i32 n] 24)) w.heap.size 24 #[.int .u8 o, .int .u8 a, .int .u8 b, .int .i32 n] := Blk.new _ _ _
  have s1 := size_one w (.cells #[.int .u8 o, .int .u8 a, .int .u8 b, .int .i32 n] 24)
  have g1 := new_alloc w (.cells #[.int .u8 o, .int .u8 a, .int .u8 b, .int .i32 n] 24)
  generalize w.alloc (.cells #[.int .u8 o, .int .u8 a, .int .u8 b, .int .i32 n] 24) = W1 at *
  have b2 := Blk.new W1 32 (rgA R v0)
  have s2 := size_one W1 (.cells (rgA R v0) 32)
  have g2 := new_alloc W1 (.cells (rgA R v0) 32)
  generalize W1.alloc (.cells (rgA R v0) 32) = W2 at *
  have b3 := Blk.new W2 32 noRegs
  have s3 := size_one W2 (.cells noRegs 32)
  have g3 := new_alloc W2 (.cells noRegs 32)
  generalize W2.alloc (.cells noRegs 32) = W3 at *
  have b4 := Blk.new W3 40 (efA 0)
  have s4 := size_one W3 (.cells (efA 0) 40)
  have g4 := new_alloc W3 (.cells (efA 0) 40)
  rw [← h0] at b4 s4 g4
  rw [s1] at b2
  rw [s2, s1] at b3
  rw [s3, s2, s1] at b4
  have e0 : w0.heap.size = w.heap.size + 4 := by omega
  have B1 := ((b1.grow g2).grow g3).grow g4
  have B2 := (b2.grow g3).grow g4
  have B3 := b3.grow g4
  have hb : Below w.heap.size w w0 := below_step (below_step (below_step g1 g2) g3) g4
  refine ⟨fun w1 w2 v ho h1 hg hbr => ?_, e0, hb, fun w1 h1 => B2.grow h1⟩
  exact ⟨(B1.grow h1).kept hg (by intro e; injection e with e; omega), hbr, (B3.grow h1).kept hg (by intro e; injection e with e; omega), (b4.grow h1).kept hg (by intro e; injection e with e; omega), ho.keptFar hg (by omega), (below_step hb h1).grown hg (by have := h1.size; omega) (fun k hk => by cases hk; omega), lR⟩

/-- both results are stored -/
theorem RSt.stored {w wr : World} {q : Nat} {o a b n : Int} {R S : List Int} {v : Value} (h : RSt w q o a b n R v S wr) (A F : Array Value) (hA : A.size = 9) (hF : F.size = 7) :
    Blk ((wr.setCells (q + 1 + 1) 0 A.toList).setCells (q + 1 + 1 + 1) 0 F.toList) (q + 1 + 1) 32 A ∧ Blk ((wr.setCells (q + 1 + 1) 0 A.toList).setCells (q + 1 + 1 + 1) 0 F.toList) (q + 1 + 1 + 1) 40 F ∧
      POwnV ((wr.setCells (q + 1 + 1) 0 A.toList).setCells (q + 1 + 1 + 1) 0 F.toList) q v S ∧ Below q w ((wr.setCells (q + 1 + 1) 0 A.toList).setCells (q + 1 + 1 + 1) 0 F.toList) := by
  have g1 := grown_setCells (q + 1 + 1) A.toList 0 wr
  have b1 : Blk (wr.setCells (q + 1 + 1) 0 A.toList) (q + 1 + 1) 32 A := h.b8.setAll A (by rw [hA]; rfl)
  have b2 := h.b9.kept g1 (by intro e; injection e with e; omega)
  have o1 := h.ow.keptFar g1 (by omega)
  have l1 := h.bel.grown g1 (by have := h.bi.lt; omega) (fun k hk => by cases hk; omega)
  generalize wr.setCells (q + 1 + 1) 0 A.toList = w1 at *
  have g2 := grown_setCells (q + 1 + 1 + 1) F.toList 0 w1
  have b3 : Blk (w1.setCells (q + 1 + 1 + 1) 0 F.toList) (q + 1 + 1 + 1) 40 F := b2.setAll F (by rw [hF]; rfl)
  have k1 : Blk (w1.setCells (q + 1 + 1 + 1) 0 F.toList) (q + 1 + 1) 32 A := b1.kept g2 (by intro e; injection e with e; omega)
  exact ⟨k1, b3, (o1.keptFar g2 (by omega)).low (by omega), l1.grown g2 (by have := b1.lt; omega) (fun k hk => by cases hk; omega)⟩


end Go.Proofs.Ytdbpeigcnhhpmaa
