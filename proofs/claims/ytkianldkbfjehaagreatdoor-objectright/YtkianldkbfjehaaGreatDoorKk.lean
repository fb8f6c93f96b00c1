/- Texts put together: Line1, Line2, Line3, Line4. -/
import Derived.Test.YtkianldkbfjehaaGreatDoorKj
import Derived.BigQuiet
import Derived.Deep.RegionLaw

/- What source.Line answers, for every line. -/
namespace Go.Proofs.YtkianldkbfjehaaGreatDoor
open Go.RowKit

def item0 : Array Value := cellsOf src0 nilV
theorem load28 {w : World} {g : Nat} {c : Array Value} (h : Blk w g 57 c) (hs : c.size = 9) : (loadVar 57 ⟨g, 0, none⟩).run Tryz.prog w = .ok (.agg c) w := by
  obtain ⟨d, hu, hd⟩ := Tryz.und57
  exact h.load 57 d hu hd (by rw [hs]; exact Tryz.sz57)
/-- what Line answers -/
def LineV (r : Src × Bool × Int × Nat) (d : Value) : Value := .tuple #[.agg (cellsOf r.1 d), .bool r.2.1, .int .i64 r.2.2.1, .int .i64 r.2.2.2]
def LineIs (r : Src × Bool × Int × Nat) (w : World) (e : Ending) (w' : World) : Prop := ∃ d, e = .returned (LineV r d) ∧ GOwnV 5 w' w.heap.size d (byts r.1.d) ∧ Below w.heap.size w w'
theorem LineIs.zero {e : Int} {c : Nat} {w w' : World} (hb : Below w.heap.size w w') : LineIs (src0, false, e, c) w (.returned (LineV (src0, false, e, c) nilV)) w' := ⟨_, rfl, GOwnV.nil _ _ _, hb⟩
theorem zero_one : item0.all (·.oneCell') = true := cells_one _ _ _ _

set_option maxRecDepth 20000 in
set_option maxHeartbeats 1000000 in
theorem line_empty (s : ByteArray) (w : World) (hs : (s.size + 1) * 16 ≤ 140737488355328) (hf : fieldsL s.data.toList = []) :
    Calls Tryz.prog 75 #[.string s] w (LineIs (src0, false, 0, 0) w) := by
  have hF := fun W => fields_any s W hs
  rw [hf] at hF
  clear hf
  go_enter Tryz.func75, Tryz.ntmps75
  go_wp2_with (first
    | (go_at_call 92; refine (hF _).mono ?_; rintro e w1 ⟨vf, vc, rfl, hvf, hvc, hb1⟩; have HB : Hid (Blk w1 w.heap.size 57 item0) := (Blk.new w 57 item0).grow hb1; have HW := Hid.in (below_step (new_alloc w (.cells item0 57)) hb1); obtain ⟨p, cap, hp, -, -, -⟩ := hvf.slice; have hl : (strs (fTexts [])).length = 0 := rfl; rw [hl] at hp; subst hp; clear hvf hvc hb1 hl)
    | (refine step_store_blk HB.out rfl 57 (.tmp 2) (.tmp 21) rfl rfl rfl item0 rfl Tryz.sz57 rfl zero_one ?_; intro w4 hB4 hg4; have HL := Hid.in (load28 hB4 rfl)))
  have hld := HL.out
  exact bodyPost_ret (v := LineV (src0, false, 0, 0) nilV) (by simp [results, Tryz.results75, asAddr, hld]; rfl) rfl (LineIs.zero (HW.out.trans (below_grown hg4 (Nat.le_refl _) HW.out.size)))

/-- the nine cells of a block, one by one -/
theorem blk9 {w : World} {g : Nat} (h : Blk w g 57 item0) :
    w.cell? ⟨g, 0, none⟩ = some (.int .u8 0) ∧ w.cell? ⟨g, 1, none⟩ = some (.string ⟨#[]⟩) ∧ w.cell? ⟨g, 2, none⟩ = some (.string ⟨#[]⟩) ∧ w.cell? ⟨g, 3, none⟩ = some (.int .u8 0) ∧ w.cell? ⟨g, 4, none⟩ = some (.int .u8 0) ∧ w.cell? ⟨g, 5, none⟩ = some (.int .u8 0) ∧ w.cell? ⟨g, 6, none⟩ = some (.int .i32 0) ∧ w.cell? ⟨g, 7, none⟩ = some (.int .i64 0) ∧ w.cell? ⟨g, 8, none⟩ = some nilV :=
  ⟨h.cell 0, h.cell 1, h.cell 2, h.cell 3, h.cell 4, h.cell 5, h.cell 6, h.cell 7, h.cell 8⟩
theorem free9 {w : World} {g : Nat} {T : TypeId} {c : Array Value} (h : Blk w g T c) :
    w.frozen? ⟨g, 0, none⟩ = false ∧ w.frozen? ⟨g, 1, none⟩ = false ∧ w.frozen? ⟨g, 2, none⟩ = false ∧ w.frozen? ⟨g, 3, none⟩ = false ∧ w.frozen? ⟨g, 4, none⟩ = false ∧ w.frozen? ⟨g, 5, none⟩ = false ∧ w.frozen? ⟨g, 6, none⟩ = false ∧ w.frozen? ⟨g, 7, none⟩ = false ∧ w.frozen? ⟨g, 8, none⟩ = false :=
  ⟨h.free 0, h.free 1, h.free 2, h.free 3, h.free 4, h.free 5, h.free 6, h.free 7, h.free 8⟩
theorem set9 {w : World} {g : Nat} (h : Blk w g 57 item0) :
    ∃ w4, (((((((((w.setCell ⟨g, 0, none⟩ (.int .u8 0)).setCell ⟨g, 1, none⟩ (.string ⟨#[]⟩)).setCell ⟨g, 2, none⟩ (.string ⟨#[]⟩)).setCell ⟨g, 3, none⟩ (.int .u8 0)).setCell ⟨g, 4, none⟩ (.int .u8 0)).setCell ⟨g, 5, none⟩ (.int .u8 0)).setCell ⟨g, 6, none⟩ (.int .i32 0)).setCell ⟨g, 7, none⟩ (.int .i64 0)).setCell ⟨g, 8, none⟩ (.slice none 0 0)) = w4 ∧ Blk w4 g 57 item0 ∧ w.grownBy w4 (some g) :=
  ⟨_, rfl, ((((((((h.set 0 (.int .u8 0)).set 1 (.string ⟨#[]⟩)).set 2 (.string ⟨#[]⟩)).set 3 (.int .u8 0)).set 4 (.int .u8 0)).set 5 (.int .u8 0)).set 6 (.int .i32 0)).set 7 (.int .i64 0)).set 8 nilV,
   grown_setCells g item0.toList 0 w⟩
theorem tx_at (fs : List (Nat × List UInt8)) (k : Nat) (h : k < fs.length) : (strs (fTexts fs))[k]? = some (.string (bytesOf fs[k].2)) := by simp [fTexts, h]
theorem cl_at (fs : List (Nat × List UInt8)) (k : Nat) (h : k < fs.length) : (nums (fCols fs))[k]? = some (.int .i64 ((fs[k].1 : Int) + 1)) := by simp [fCols, h]
/-- the two lists of fields, in blocks of their own -/
theorem fields_shape {W : World} {B : Nat} {vf vc : Value} {fs : List (Nat × List UInt8)} (h0 : 0 < fs.length) (hf : GOwnV 9 W B vf (strs (fTexts fs))) (hc : GOwnV 3 W B vc (nums (fCols fs))) :
    ∃ fb fcap cb ccap, vf = .slice (some ⟨fb, 0, none⟩) fs.length fcap ∧ vc = .slice (some ⟨cb, 0, none⟩) fs.length ccap ∧ B ≤ fb ∧ B ≤ cb ∧ fb < W.heap.size ∧ cb < W.heap.size ∧ fs.length ≤ fcap ∧ fs.length ≤ ccap ∧
      (∀ k (h : k < fs.length), W.cell? ⟨fb, k, none⟩ = some (.string (bytesOf fs[k].2))) ∧ (∀ k (h : k < fs.length), W.cell? ⟨cb, k, none⟩ = some (.int .i64 ((fs[k].1 : Int) + 1))) := by
  have l1 : (strs (fTexts fs)).length = fs.length := by simp [fTexts]
  have l2 : (nums (fCols fs)).length = fs.length := by simp [fCols]
  rcases hf.shape with ⟨_, e⟩ | ⟨fb, fcap, hvf, of⟩
  · rw [e] at l1; simp at l1; omega
  rcases hc.shape with ⟨_, e⟩ | ⟨cb, ccap, hvc, oc⟩
  · rw [e] at l2; simp at l2; omega
  refine ⟨fb, fcap, cb, ccap, by rw [hvf, l1], by rw [hvc, l2], of.base, oc.base, of.lt, oc.lt, by have := of.cap; omega, by have := oc.cap; omega, fun k h => ?_, fun k h => ?_⟩
  · rw [of.cell k (by omega)]; exact tx_at fs k h
  · rw [oc.cell k (by omega)]; exact cl_at fs k h

/-- the same, of one field and others -/
theorem fields_cons {W : World} {B : Nat} {vf vc : Value} {c0 : Nat} {f0 : List UInt8} {fs : List (Nat × List UInt8)} (hf : GOwnV 9 W B vf (strs (fTexts ((c0, f0) :: fs)))) (hc : GOwnV 3 W B vc (nums (fCols ((c0, f0) :: fs)))) :
    ∃ fb fcap cb ccap, vf = .slice (some ⟨fb, 0, none⟩) (fs.length + 1) fcap ∧ vc = .slice (some ⟨cb, 0, none⟩) (fs.length + 1) ccap ∧ B ≤ fb ∧ B ≤ cb ∧ fb < W.heap.size ∧ cb < W.heap.size ∧ fs.length + 1 ≤ fcap ∧ fs.length + 1 ≤ ccap ∧
      W.cell? ⟨fb, 0, none⟩ = some (.string (bytesOf f0)) ∧ W.cell? ⟨cb, 0, none⟩ = some (.int .i64 ((c0 : Int) + 1)) ∧
      (∀ k (h : k < fs.length), W.cell? ⟨fb, k + 1, none⟩ = some (.string (bytesOf fs[k].2))) ∧ (∀ k (h : k < fs.length), W.cell? ⟨cb, k + 1, none⟩ = some (.int .i64 ((fs[k].1 : Int) + 1))) := by
  obtain ⟨fb, fcap, cb, ccap, h1, h2, h3, h4, h5, h6, h7, h8, h9, h10⟩ := fields_shape (by simp) hf hc
  exact ⟨fb, fcap, cb, ccap, h1, h2, h3, h4, h5, h6, h7, h8, h9 0 (by simp), h10 0 (by simp), fun k h => h9 (k + 1) (by simp; omega), fun k h => h10 (k + 1) (by simp; omega)⟩

set_option maxRecDepth 20000 in
set_option maxHeartbeats 1000000 in
theorem line_noform (s : ByteArray) (w : World) (hs : (s.size + 1) * 16 ≤ 140737488355328) (c0 : Nat) (f0 : List UInt8) (fs : List (Nat × List UInt8)) (hf : fieldsL s.data.toList = (c0, f0) :: fs) (hl0 : fs.length + 1 ≤ 140737488355328) (hf0 : (bytesOf f0).size ≤ 9223372036854775807) (hno : formL f0 = none) :
    Calls Tryz.prog 75 #[.string s] w (LineIs (src0, false, 140, c0 + 1) w) := by
  have hF := fun W => fields_any s W hs
  rw [hf] at hF
  have hG := fun W => formOf_any (bytesOf f0) hf0 W
  rw [bytesOf_list, hno] at hG
  clear hf hno
  go_enter Tryz.func75, Tryz.ntmps75
  go_wp2_with (first
    | (go_at_call 92; refine (hF _).mono ?_; rintro e w1 ⟨vf, vc, rfl, hvf, hvc, hb1⟩; have HB : Hid (Blk w1 w.heap.size 57 item0) := (Blk.new w 57 item0).grow hb1; have HW := Hid.in (below_step (new_alloc w (.cells item0 57)) hb1); obtain ⟨fb, fcap, cb, ccap, rfl, rfl, g1, g2, g3, g4, g5, g6, hcf, hcc, g7, g8⟩ := fields_cons hvf hvc; have HCC := Hid.in hcc; clear hvf hvc hb1 g7 g8 hcc; generalize fs.length = n at *)
    | (go_at_call 93; refine (hG _).mono ?_; rintro e w2 ⟨rfl, hb2⟩; have HBB2 : Hid (Blk w2 w.heap.size 57 item0) := HB.out.grow hb2; have HW2 := Hid.in (below_step HW.out hb2); have HC2 := Hid.in ((hb2.cell (p := ⟨cb, 0, none⟩) g4).trans HCC.out); clear hb2)
    | (refine step_store_new rfl 130 _ _ rfl rfl rfl form0 rfl Tryz.sz130 rfl (form_one _ _ _ _ _ _ _ _) ?_; have HB3 : Hid (Blk (w2.alloc (.cells form0 130)) w.heap.size 57 item0) := HBB2.out.grow (new_alloc _ _); have hc3 := cell_push HC2.out (.cells form0 130); have HW3 := Hid.in (below_alloc HW2.out (.cells form0 130)); have hcb : cb < (w2.alloc (.cells form0 130)).heap.size := cell_lt hc3; generalize w2.alloc (.cells form0 130) = w3 at *))
  obtain ⟨d0, d1, d2, d3, d4, d5, d6, d7, d8⟩ := blk9 HB3.out
  obtain ⟨e0, e1, e2, e3, e4, e5, e6, e7, e8⟩ := free9 HB3.out
  have hne : ¬ cb = w.heap.size := by simp at g2; omega
  have hne' : ¬ w.heap.size = cb := by omega
  go_region
  all_goals
    go_wp2
    obtain ⟨w4, he4, hB4, hg4⟩ := set9 HB3.out
    rw [he4]
    have hld := load28 (w := w4.drew) hB4 rfl
    exact bodyPost_ret (v := LineV (src0, false, 140, c0 + 1) nilV) (by simp [results, Tryz.results75, asAddr, hld]; rfl) rfl (LineIs.zero (below_draws (HW3.out.trans (below_grown hg4 (Nat.le_refl _) HW3.out.size)) 1))

end Go.Proofs.YtkianldkbfjehaaGreatDoor

/- How memory lies in source.Line, ahead of the fields behind the first one. -/
namespace Go.Proofs.YtkianldkbfjehaaGreatDoor
open Go.RowKit

/-- what stands in memory ahead of the fields' loop -/
structure LHead (W : World) (r fb cb b8 g : Nat) (fs : List (Nat × List UInt8)) (x : Src) (ps : List Nat) (pp : Option Addr) (pcap least : Nat) : Prop where
  res : Blk W r 57 item0
  frm : Blk W b8 130 (formCells x nilV (.slice pp ps.length pcap) least)
  pls : GRow W pp (plc ps)
  txt : ∀ k (h : k < fs.length), W.cell? ⟨fb, k + 1, none⟩ = some (.string (bytesOf fs[k].2))
  col : ∀ k (h : k < fs.length), W.cell? ⟨cb, k + 1, none⟩ = some (.int .i64 ((fs[k].1 : Int) + 1))
  rg : r < g
  bg : b8 < g
  fg : fb < g
  cg : cb < g
  pg : ∀ a, pp = some a → a.block < g
  cr : cb ≠ r
  rc : r ≠ cb
  vr : Vars W
  v4 : 2 < g
theorem LHead.keep {W W' : World} {r fb cb b8 g : Nat} {fs : List (Nat × List UInt8)} {x : Src} {ps : List Nat} {pp : Option Addr} {pcap least : Nat} (h : LHead W r fb cb b8 g fs x ps pp pcap least) (hb : Below g W W') : LHead W' r fb cb b8 g fs x ps pp pcap least where
  res := h.res.below hb h.rg
  frm := h.frm.below hb h.bg
  pls := fun h0 => by
    obtain ⟨b, off, hp, hc⟩ := h.pls h0
    exact ⟨b, off, hp, fun i hi => (hb.cell (p := ⟨b, off + i, none⟩) (h.pg ⟨b, off, none⟩ hp)).trans (hc i hi)⟩
  txt := fun k hk => (hb.cell (p := ⟨fb, k + 1, none⟩) h.fg).trans (h.txt k hk)
  col := fun k hk => (hb.cell (p := ⟨cb, k + 1, none⟩) h.cg).trans (h.col k hk)
  rg := h.rg
  bg := h.bg
  fg := h.fg
  cg := h.cg
  pg := h.pg
  cr := h.cr
  rc := h.rc
  vr := h.vr.keep hb h.v4
  v4 := h.v4
theorem fields_n {W : World} {B : Nat} {vf vc : Value} {c0 : Nat} {f0 : List UInt8} {fs : List (Nat × List UInt8)} {n : Nat} (hn : n = fs.length) (hf : GOwnV 9 W B vf (strs (fTexts ((c0, f0) :: fs)))) (hc : GOwnV 3 W B vc (nums (fCols ((c0, f0) :: fs)))) :
    ∃ fb fcap cb ccap, vf = .slice (some ⟨fb, 0, none⟩) (n + 1) fcap ∧ vc = .slice (some ⟨cb, 0, none⟩) (n + 1) ccap ∧ B ≤ fb ∧ B ≤ cb ∧ fb < W.heap.size ∧ cb < W.heap.size ∧ n + 1 ≤ fcap ∧ n + 1 ≤ ccap ∧
      W.cell? ⟨fb, 0, none⟩ = some (.string (bytesOf f0)) ∧ W.cell? ⟨cb, 0, none⟩ = some (.int .i64 ((c0 : Int) + 1)) ∧
      (∀ k (h : k < fs.length), W.cell? ⟨fb, k + 1, none⟩ = some (.string (bytesOf fs[k].2))) ∧ (∀ k (h : k < fs.length), W.cell? ⟨cb, k + 1, none⟩ = some (.int .i64 ((fs[k].1 : Int) + 1))) := by
  subst hn; exact fields_cons hf hc
theorem form_pre (x : Src) (p : Value) (n : Nat) : (cellsOf x nilV).toList <+: (formCells x nilV p n).toList := ⟨[p, .int .i64 n], rfl⟩

/-- what the fields behind the first one make of a line -/
def endL (n least sz : Nat) : (Int × Nat) ⊕ Src → Src × Bool × Int × Nat
  | .inl (e, c) => (src0, false, e, c)
  | .inr y => if n < least then (src0, false, 140, sz + 1) else (y, true, 0, 0)
theorem goL_step (y : Src) (ps : List Nat) (fs : List (Nat × List UInt8)) (k : Nat) (h : k < fs.length) (hp : k < ps.length) :
    goL y (ps.drop k) (fs.drop k) = if (readL ps[k] y fs[k].2).1 = 0 then goL (readL ps[k] y fs[k].2).2 (ps.drop (k + 1)) (fs.drop (k + 1)) else .inl ((readL ps[k] y fs[k].2).1, fs[k].1 + 1) := by
  rw [List.drop_eq_getElem_cons h, List.drop_eq_getElem_cons hp]
  rfl
theorem goL_many (y : Src) (ps : List Nat) (fs : List (Nat × List UInt8)) (k : Nat) (h : k < fs.length) (hp : ¬ k < ps.length) : goL y (ps.drop k) (fs.drop k) = .inl (140, fs[k].1 + 1) := by
  rw [List.drop_eq_getElem_cons h, List.drop_eq_nil_of_le (by omega)]
  rfl
theorem goL_end (y : Src) (ps : List Nat) (fs : List (Nat × List UInt8)) (k : Nat) (h : ¬ k < fs.length) : goL y (ps.drop k) (fs.drop k) = .inr y := by
  rw [show fs.drop k = [] from List.drop_eq_nil_of_le (by omega)]
  cases ps.drop k <;> rfl
theorem plc_at (ps : List Nat) (k : Nat) (h : k < ps.length) : (plc ps)[k]? = some (.int .u8 (ps[k] : Nat)) := by simp [plc, h]
theorem wrapK (k : Nat) (h : k ≤ 140737488355328) : IntKind.i64.wrap ((k : Int) + 1) = (k : Int) + 1 := by
  simp [IntKind.wrap, IntKind.bits, IntKind.signed]; omega
theorem plc_len (ps : List Nat) : (plc ps).length = ps.length := List.length_map _
theorem ItAt.drewN {w : World} {g : Nat} {x : Src} {d : Value} (h : ItAt w g x d) (q : Nat) : ItAt (w.drewN q) g x d := ⟨h.blk, h.own.drewN q⟩
theorem Vars.drewN {w : World} (h : Vars w) (q : Nat) : Vars (w.drewN q) := h
theorem Vars.lt {w : World} (h : Vars w) : 2 < w.heap.size := by
  obtain ⟨ev, h1, _⟩ := h
  exact cell_lt h1
theorem LHead.start {w w1 w2 w3 : World} {C C0 : Obj} {fb cb : Nat} {fs : List (Nat × List UInt8)} {x : Src} {ps : List Nat} {pp : Option Addr} {pcap least : Nat} (hv : Vars w) (hB : Blk w1 w.heap.size 57 item0) (hW : Below w.heap.size w w1) (g1 : (w.alloc C0).heap.size ≤ fb) (g2 : (w.alloc C0).heap.size ≤ cb) (g3 : fb < w1.heap.size) (g4 : cb < w1.heap.size)
    (g7 : ∀ k (h : k < fs.length), w1.cell? ⟨fb, k + 1, none⟩ = some (.string (bytesOf fs[k].2))) (g8 : ∀ k (h : k < fs.length), w1.cell? ⟨cb, k + 1, none⟩ = some (.int .i64 ((fs[k].1 : Int) + 1)))
    (hB2 : Below w1.heap.size w1 w2) (hpr : GRow w2 pp (plc ps)) (hvp : GOwnV 133 w2 w1.heap.size (.slice pp ps.length pcap) (plc ps)) (hB3 : Blk w3 w2.heap.size 130 (formCells x nilV (.slice pp ps.length pcap) least)) (hW3 : Below w2.heap.size w2 w3) :
    LHead (w3.alloc C) w.heap.size fb cb w2.heap.size w3.heap.size fs x ps pp pcap least := by
  have b1 := below_alloc (below_step hB2 hW3) C
  have b2 := below_alloc hW3 C
  have s0 := hB.lt
  have s1 := hB2.size
  have s2 := hB3.lt
  have s4 := hv.lt
  simp at g1 g2
  exact
    { res := hB.grow b1
      frm := hB3.grow (new_alloc w3 C)
      pls := hpr.below b2
      txt := fun k h => (b1.cell (p := ⟨fb, k + 1, none⟩) g3).trans (g7 k h)
      col := fun k h => (b1.cell (p := ⟨cb, k + 1, none⟩) g4).trans (g8 k h)
      rg := by omega
      bg := s2
      fg := by omega
      cg := by omega
      pg := fun a ha => by
        rcases hvp.shape with ⟨e, _⟩ | ⟨g', cap, e, ho⟩
        · injection e with e1; rw [ha] at e1; cases e1
        · injection e with e1
          rw [ha] at e1; injection e1 with e1
          have := ho.lt
          rw [e1]; show g' < _; omega
      cr := by omega
      rc := by omega
      vr := hv.below (below_alloc (below_step (below_step hW hB2) hW3) C)
      v4 := by omega }

end Go.Proofs.YtkianldkbfjehaaGreatDoor

/- What source.Line answers, where the first field asks for places. -/
namespace Go.Proofs.YtkianldkbfjehaaGreatDoor
open Go.RowKit

set_option maxRecDepth 20000 in
set_option maxHeartbeats 1000000 in
theorem line_form (s : ByteArray) (w : World) (hv : Vars w) (hs : (s.size + 1) * 16 ≤ 140737488355328) (c0 : Nat) (f0 : List UInt8) (fs : List (Nat × List UInt8)) (hf : fieldsL s.data.toList = (c0, f0) :: fs) (hl0 : fs.length + 1 ≤ 140737488355328) (hf0 : (bytesOf f0).size ≤ 9223372036854775807)
    (x : Src) (ps : List Nat) (least : Nat) (hfm : formL f0 = some (x, ps, least)) (hxd : x.d = []) (hps : ∀ p ∈ ps, p < 8) (hfz : ∀ q ∈ fs, (bytesOf q.2).size ≤ 281474976710656) :
    Calls Tryz.prog 75 #[.string s] w (LineIs (endL fs.length least s.size (goL x ps fs)) w) := by
  obtain ⟨R, hR⟩ : ∃ R, R = endL fs.length least s.size (goL x ps fs) := ⟨_, rfl⟩
  rw [← hR]
  have HR := Hid.in hR
  clear hR
  have hF := fun W => fields_any s W hs
  rw [hf] at hF
  have hG := fun W => formOf_any (bytesOf f0) hf0 W
  rw [bytesOf_list, hfm] at hG
  have hpl : (plc ps).length = ps.length := List.length_map _
  clear hf hfm
  obtain ⟨n, hn⟩ : ∃ n, n = fs.length := ⟨_, rfl⟩
  have HN := Hid.in hn
  rw [← hn] at hl0
  clear hn
  go_enter Tryz.func75, Tryz.ntmps75
  go_wp2_with (first
    | (go_at_call 92; refine (hF _).mono ?_; rintro e w1 ⟨vf, vc, rfl, hvf, hvc, hb1⟩; have HB : Hid (Blk w1 w.heap.size 57 item0) := (Blk.new w 57 item0).grow hb1; have HW := Hid.in (below_step (new_alloc w (.cells item0 57)) hb1); obtain ⟨fb, fcap, cb, ccap, rfl, rfl, g1, g2, g3, g4, g5, g6, hcf, hcc, g7, g8⟩ := fields_n HN.out hvf hvc; have G7 := Hid.in g7; have G8 := Hid.in g8; clear hvf hvc hb1 g7 g8 hcc)
    | (go_at_call 93; refine (hG _).mono ?_; rintro e w2 ⟨v, rfl, hvp, hb2⟩; obtain ⟨pp, pcap, rfl, hpr, hpc, hpn⟩ := hvp.slice; rw [hpl] at *; have HB2 := Hid.in hb2; have HPR := Hid.in hpr; have HVP := Hid.in hvp; clear hb2 hpr hvp)
    | (refine step_store_new rfl 130 _ _ rfl rfl rfl (formCells x nilV (.slice pp ps.length pcap) least) rfl Tryz.sz130 rfl (form_one _ _ _ _ _ _ _ _) ?_; have HB3 := Hid.in (Blk.new w2 130 (formCells x nilV (.slice pp ps.length pcap) least)); have HW3 := Hid.in (new_alloc w2 (.cells (formCells x nilV (.slice pp ps.length pcap) least) 130)); generalize w2.alloc (.cells (formCells x nilV (.slice pp ps.length pcap) least) 130) = w3 at *)
    | (refine step_load_blk HB3.out rfl 57 _ rfl rfl (cellsOf x nilV) (form_pre _ _ _) _ Tryz.underlying57 rfl Tryz.sz57 ?_)
    | (refine step_store_new rfl 57 _ _ rfl rfl rfl (cellsOf x nilV) rfl Tryz.sz57 rfl (cells_one _ _ _ _) ?_))
  have HH : Hid (LHead (w3.alloc (.cells (cellsOf x nilV) 57)) w.heap.size fb cb w2.heap.size w3.heap.size fs x ps pp pcap least) := LHead.start hv HB.out HW.out g1 g2 g3 g4 G7.out G8.out HB2.out HPR.out HVP.out HB3.out HW3.out
  have HI : Hid (ItAt (w3.alloc (.cells (cellsOf x nilV) 57)) w3.heap.size x nilV) := ⟨Blk.new _ _ _, by rw [hxd]; exact GOwnV.nil _ _ _⟩
  have HWW : Hid (Below w.heap.size w (w3.alloc (.cells (cellsOf x nilV) 57))) := below_alloc (below_step (below_step HW.out HB2.out) HW3.out) _
  have hrg := HH.out.rg
  clear HB HW HB2 HPR HVP HB3 HW3 G7 G8 hcf hF hG hv
  generalize w3.alloc (.cells (cellsOf x nilV) 57) = W0 at *
  generalize w3.heap.size = g at *
  generalize w2.heap.size = b8 at *
  have hxl : x.d.length ≤ 0 := by rw [hxd]; simp
  clear hxd
  go_loopw [40] (fun i wr => ∃ (k : Nat) (y : Src) (d : Value), k ≤ n ∧ i = .int .i64 k ∧ goL x ps fs = goL y (ps.drop k) (fs.drop k) ∧ y.d.length ≤ k ∧ ItAt wr g y d ∧ Below g W0 wr) (fun i _ => n - (intOf i).toNat)
  case atStart => exact ⟨0, x, nilV, Nat.zero_le _, rfl, rfl, hxl, HI.out, Below.refl _ _⟩
  case round =>
    obtain ⟨k, y, d, hk, rfl, hgo, hyl, hI, hb⟩ := hrel
    have HGO := Hid.in hgo
    have HIY := Hid.in hI
    have HHK := Hid.in (HH.out.keep hb)
    have HBK := Hid.in hb
    clear hgo hI hb
    by_cases hlt : k < n
    · have hlt' : k < fs.length := by rw [← HN.out]; exact hlt
      have c1 := HHK.out.txt k hlt'
      have c2 := HHK.out.col k hlt'
      have c9 : wr.cell? ⟨b8, 9, none⟩ = some (.slice pp ps.length pcap) := HHK.out.frm.cell 9
      by_cases hp : k < ps.length
      · obtain ⟨pb, po, hpp, hpc2⟩ := HHK.out.pls (by rw [plc_len]; omega)
        have c3 := (hpc2 k (by rw [plc_len]; omega)).trans (plc_at ps k hp)
        clear hpc2
        subst hpp
        have HST := Hid.in (goL_step y ps fs k hlt' hp)
        have hread := fun q => read_any ps[k] (hps _ (List.getElem_mem hp)) g y d (bytesOf fs[k].2) (wr.drewN q) (HIY.out.drewN q) (hfz _ (List.getElem_mem hlt')) (HHK.out.vr.drewN q) (by omega)
        rw [bytesOf_list] at hread
        have hrl := readL_len ps[k] y fs[k].2
        generalize readL ps[k] y fs[k].2 = er at *
        obtain ⟨er, z⟩ := er
        simp only at hread hrl
        generalize ps[k] = pk at *
        generalize bytesOf fs[k].2 = fk at *
        have hwr := wrapK k (by omega)
        have htn : ((k : Int) + 1).toNat = k + 1 := by omega
        have hk0 : (0 : Int) ≤ (k : Int) + 1 := by omega
        have hkn : (k : Int) + 1 < (n : Int) + 1 := by omega
        by_cases he : er = 0
        · subst he
          go_wp2_with fail
          go_region_law (go_simp; go_at_call 94; refine (hread 1).mono ?_; rintro e w5 ⟨rfl, ⟨d5, hI5⟩, hb5⟩; have HI5 := Hid.in hI5; have HB5 := Hid.in hb5; clear hI5 hb5)
          all_goals
            go_wp2_with fail
            go_roundw
            case rel => exact ⟨k + 1, z, d5, by omega, by go_num, by rw [HGO.out, HST.out]; simp, by omega, HI5.out, (below_drewN HBK.out 1).trans HB5.out⟩
            case measure => simp [intOf]; omega
        · have HRR : Hid (R = (src0, false, er, fs[k].1 + 1)) := by
            have : R = _ := HR.out
            rw [this, HGO.out, HST.out, if_neg he]; rfl
          go_wp2_with fail
          go_region_law (go_simp; go_at_call 94; refine (hread 1).mono ?_; rintro e w5 ⟨rfl, -, hb5⟩; have HB5 := Hid.in hb5; clear hb5)
          all_goals
            go_wp2_with fail
            have hH5 := HHK.out.keep ((below_drewN (Below.refl g wr) 1).trans HB5.out)
            obtain ⟨d0, d1, d2, d3, d4, d5, d6, d7, d8⟩ := blk9 hH5.res
            obtain ⟨e0, e1, e2, e3, e4, e5, e6, e7, e8⟩ := free9 hH5.res
            have c2 := hH5.col k hlt'
            have hne := hH5.cr
            have hne' := hH5.rc
            have HRES := Hid.in hH5.res
            have HBF : Hid (Below w.heap.size w w5) := HWW.out.trans ((((below_drewN HBK.out 1).trans HB5.out)).mono (Nat.le_of_lt hrg))
            clear hH5 hread c1 c9 c3
            go_region
            all_goals
              go_wp2
              obtain ⟨w6, he6, hB6, hg6⟩ := set9 HRES.out
              rw [he6]
              have hld := load28 (w := w6.drew) hB6 rfl
              rw [HRR.out]
              exact bodyPost_ret (v := LineV (src0, false, er, fs[k].1 + 1) nilV) (by simp [results, Tryz.results75, asAddr, hld]; rfl) rfl (LineIs.zero (below_draws (HBF.out.trans (below_grown hg6 (Nat.le_refl _) HBF.out.size)) 1))
      · have HRR : Hid (R = (src0, false, 140, fs[k].1 + 1)) := by
          have : R = _ := HR.out
          rw [this, HGO.out, goL_many y ps fs k hlt' hp]; rfl
        have hwr := wrapK k (by omega)
        have htn : ((k : Int) + 1).toNat = k + 1 := by omega
        have hk0 : (0 : Int) ≤ (k : Int) + 1 := by omega
        have hkn : (k : Int) + 1 < (n : Int) + 1 := by omega
        obtain ⟨d0, d1, d2, d3, d4, d5, d6, d7, d8⟩ := blk9 HHK.out.res
        obtain ⟨e0, e1, e2, e3, e4, e5, e6, e7, e8⟩ := free9 HHK.out.res
        have hne := HHK.out.cr
        have hne' := HHK.out.rc
        have HBF : Hid (Below w.heap.size w wr) := HWW.out.trans (HBK.out.mono (Nat.le_of_lt hrg))
        clear c1
        go_wp2_with fail
        go_region
        all_goals
          go_wp2
          obtain ⟨w6, he6, hB6, hg6⟩ := set9 HHK.out.res
          rw [he6]
          have hld := load28 (w := w6.drew) hB6 rfl
          rw [HRR.out]
          exact bodyPost_ret (v := LineV (src0, false, 140, fs[k].1 + 1) nilV) (by simp [results, Tryz.results75, asAddr, hld]; rfl) rfl (LineIs.zero (below_draws (HBF.out.trans (below_grown hg6 (Nat.le_refl _) HBF.out.size)) 1))
    · have hkn : k = n := by omega
      have HRR : Hid (R = if n < least then (src0, false, 140, s.size + 1) else (y, true, 0, 0)) := by
        have : R = _ := HR.out
        rw [this, HGO.out, goL_end y ps fs k (by rw [← HN.out]; omega), ← HN.out]; rfl
      have c10 : wr.cell? ⟨b8, 10, none⟩ = some (.int .i64 least) := HHK.out.frm.cell 10
      have HBF : Hid (Below w.heap.size w wr) := HWW.out.trans (HBK.out.mono (Nat.le_of_lt hrg))
      have HRES := Hid.in HHK.out.res
      subst hkn
      by_cases hle : k < least
      · have HR2 : Hid (R = (src0, false, 140, s.size + 1)) := by
          have : R = _ := HRR.out
          rw [this, if_pos hle]; exact rfl
        go_wp2_with (refine step_store_blk HRES.out rfl 57 (.tmp 2) (.tmp 75) rfl rfl rfl item0 rfl Tryz.sz57 rfl zero_one ?_; intro w6 hB6 hg6)
        have hld := load28 hB6 rfl
        rw [HR2.out]
        exact bodyPost_ret (v := LineV (src0, false, 140, s.size + 1) nilV) (by simp [results, Tryz.results75, asAddr, hld]; rfl) rfl (LineIs.zero (HBF.out.trans (below_grown hg6 (Nat.le_refl _) HBF.out.size)))
      · have HR2 : Hid (R = (y, true, 0, 0)) := by
          have : R = _ := HRR.out
          rw [this, if_neg hle]; exact rfl
        obtain ⟨q, cap, hd, -, -, -⟩ := HIY.out.own.slice
        subst hd
        go_wp2_with (first
          | (refine step_load_blk HIY.out.blk rfl 57 _ rfl rfl _ (List.prefix_refl _) _ Tryz.underlying57 rfl Tryz.sz57 ?_)
          | (refine step_store_blk HRES.out rfl 57 (.tmp 2) (.tmp 79) rfl rfl rfl _ rfl Tryz.sz57 rfl (cells_one _ _ _ _) ?_; intro w6 hB6 hg6))
        have hld := load28 hB6 rfl
        rw [HR2.out]
        exact bodyPost_ret (v := LineV (y, true, 0, 0) (.slice q (byts y.d).length cap)) (by simp [results, Tryz.results75, asAddr, hld]; rfl) rfl ⟨_, rfl, (HIY.out.own.grownOther hg6 (.inr (HIY.out.own.not_low (by omega)).symm)).lowerV (by omega), HBF.out.trans (below_grown hg6 (Nat.le_refl _) HBF.out.size)⟩

end Go.Proofs.YtkianldkbfjehaaGreatDoor

/- What source.Line answers, for every line. -/
namespace Go.Proofs.YtkianldkbfjehaaGreatDoor
open Go.RowKit

theorem fldL_fits (l : List UInt8) : ∀ (p : Nat) (cur : Option (Nat × List UInt8)) (q : Nat × List UInt8), q ∈ fldL p cur l → q.2.length ≤ (match cur with | some x => x.2.length | none => 0) + l.length := by
  induction l with
  | nil =>
    intro p cur q hq
    cases cur with
    | none => simp [fldL] at hq
    | some x => simp [fldL] at hq; rw [hq]; simp
  | cons c cs ih =>
    intro p cur q hq
    cases hb : isBlank c with
    | true =>
      rw [fldL_blank _ _ _ _ hb, List.mem_append] at hq
      rcases hq with hq | hq
      · cases cur with
        | none => simp at hq
        | some x => simp at hq; rw [hq]; simp
      · have := ih _ _ q hq
        simp only [List.length_cons] at *
        omega
    | false =>
      cases cur with
      | none =>
        rw [fldL_none _ _ _ hb] at hq
        have := ih _ _ q hq
        simp only [List.length_cons, List.length_nil] at *
        omega
      | some x =>
        rw [fldL_some _ _ _ _ hb] at hq
        have := ih _ _ q hq
        simp only [List.length_append, List.length_cons, List.length_nil] at *
        omega
theorem fields_fit (l : List UInt8) (q : Nat × List UInt8) (h : q ∈ fieldsL l) : q.2.length ≤ l.length := by
  have := fldL_fits _ 0 none q h
  have h2 := ahead_le l
  simp only at this
  omega
theorem fields_count (l : List UInt8) : (fieldsL l).length ≤ l.length + 1 := by
  have := fldL_length (ahead l) 0 none
  have h2 := ahead_le l
  unfold fieldsL
  omega
theorem plO_lt (o : Nat) : ∀ p ∈ plO o, p < 8 := by
  unfold plO; split <;> decide
theorem formL_ok {f : List UInt8} {x : Src} {ps : List Nat} {n : Nat} (h : formL f = some (x, ps, n)) : x.d = [] ∧ ∀ p ∈ ps, p < 8 := by
  unfold formL at h
  split at h
  · rename_i i _
    injection h with h
    have h1 : (formW i).1.d = [] ∧ ∀ p ∈ (formW i).2.1, p < 8 := by
      unfold formW; split
      · exact ⟨rfl, by decide⟩
      · exact ⟨rfl, fun p hp => by rw [List.eq_of_mem_replicate hp]; decide⟩
      · exact ⟨rfl, by decide⟩
      · exact ⟨rfl, by decide⟩
      · exact ⟨rfl, by decide⟩
    rw [h] at h1
    exact h1
  · split at h
    · rename_i o _
      injection h with h
      have h1 : (formO o).1.d = [] ∧ ∀ p ∈ (formO o).2.1, p < 8 := ⟨rfl, plO_lt o⟩
      rw [h] at h1
      exact h1
    · split at h
      · injection h with h
        injection h with h1 h2
        injection h2 with h2 h3
        subst h1 h2
        exact ⟨rfl, by simp⟩
      · cases h

theorem line_any (s : ByteArray) (w : World) (hv : Vars w) (hs : (s.size + 1) * 16 ≤ 140737488355328) :
    Calls Tryz.prog 75 #[.string s] w (LineIs (lineL s.data.toList) w) := by
  have hl := Lib.size_eq s
  unfold lineL
  have hc := fields_count s.data.toList
  have hfit := fields_fit s.data.toList
  cases hf : fieldsL s.data.toList with
  | nil => exact line_empty s w hs hf
  | cons q fs =>
    obtain ⟨c0, f0⟩ := q
    rw [hf] at hc hfit
    simp only [List.length_cons] at hc
    have h0 := hfit (c0, f0) (by simp)
    simp only at h0 ⊢
    have hf0 : (bytesOf f0).size ≤ 9223372036854775807 := by rw [bytesOf_size]; omega
    cases hm : formL f0 with
    | none => exact line_noform s w hs c0 f0 fs hf (by omega) hf0 hm
    | some t =>
      obtain ⟨x, ps, least⟩ := t
      obtain ⟨hxd, hps⟩ := formL_ok hm
      have := line_form s w hv hs c0 f0 fs hf (by omega) hf0 x ps least hm hxd hps (fun q hq => by
        have := hfit q (List.mem_cons_of_mem _ hq)
        rw [bytesOf_size]; omega)
      simp only
      cases hg : goL x ps fs with
      | inl r =>
        obtain ⟨e, c⟩ := r
        rw [hg] at this
        exact this
      | inr y =>
        rw [hg] at this
        simp only [endL] at this
        rw [← hl]
        exact this

end Go.Proofs.YtkianldkbfjehaaGreatDoor
