/- Texts put together: RgtW. -/
import Derived.Test.YtkianldkbfjehaaGreatDoorKzzf
import Derived.Test.YtkianldkbfjehaaGreatDoorKzza
import Derived.Test.YtkianldkbfjehaaGreatDoorKzzc
import Derived.Test.YtkianldkbfjehaaGreatDoorKzzk
import Derived.Deep.RegionHeld3

/- switchyardlaw06.ObjectRight answers true. -/
namespace Go.Proofs.YtkianldkbfjehaaGreatDoor
open Go.RowKit

theorem blk_z1 {W w0 w1 : World} (hb : Below W.heap.size W w1) (hW : W.heap = (w0.alloc (.cells noObj 29)).heap) : Blk w1 w0.heap.size 29 noObj := by
  have h0 : Blk W w0.heap.size 29 noObj := by unfold Blk; rw [hW]; exact Blk.new w0 29 noObj
  exact h0.grow hb
theorem blk_z2 {W w0 w1 : World} (hb : Below W.heap.size W w1) (hW : W.heap = ((w0.alloc (.cells noObj 29)).alloc (.cells noObj 29)).heap) : Blk w1 w0.heap.size 29 noObj ∧ Blk w1 (w0.heap.size + 1) 29 noObj := by
  have h0 : Blk W w0.heap.size 29 noObj := by unfold Blk; rw [hW]; exact (Blk.new w0 29 noObj).grow (new_alloc _ _)
  have h1 : Blk W (w0.heap.size + 1) 29 noObj := by
    have := Blk.new (w0.alloc (.cells noObj 29)) 29 noObj
    rw [size_one] at this
    unfold Blk; rw [hW]; exact this
  exact ⟨h0.grow hb, h1.grow hb⟩
theorem Blk.z {w : World} {g : Nat} (h : Blk w g 29 noObj) : (w.cell? ⟨g, 0, none⟩ = some (.slice none 0 0) ∧ w.cell? ⟨g, 1, none⟩ = some (.slice none 0 0) ∧ w.cell? ⟨g, 2, none⟩ = some (.slice none 0 0) ∧ w.cell? ⟨g, 3, none⟩ = some (.slice none 0 0)) ∧ w.frozen? ⟨g, 0, none⟩ = false ∧ w.frozen? ⟨g, 1, none⟩ = false ∧ w.frozen? ⟨g, 2, none⟩ = false ∧ w.frozen? ⟨g, 3, none⟩ = false :=
  ⟨⟨h.cell 0, h.cell 1, h.cell 2, h.cell 3⟩, h.free 0, h.free 1, h.free 2, h.free 3⟩
theorem Blk.za {w : World} {g : Nat} (h : Blk w g 29 noObj) : ∀ ob, ((w.alloc ob).cell? ⟨g, 0, none⟩ = some (.slice none 0 0) ∧ (w.alloc ob).cell? ⟨g, 1, none⟩ = some (.slice none 0 0) ∧ (w.alloc ob).cell? ⟨g, 2, none⟩ = some (.slice none 0 0) ∧ (w.alloc ob).cell? ⟨g, 3, none⟩ = some (.slice none 0 0)) ∧ (w.alloc ob).frozen? ⟨g, 0, none⟩ = false ∧ (w.alloc ob).frozen? ⟨g, 1, none⟩ = false ∧ (w.alloc ob).frozen? ⟨g, 2, none⟩ = false ∧ (w.alloc ob).frozen? ⟨g, 3, none⟩ = false := fun ob => (h.grow (new_alloc w ob)).z

/-- all but boxes of objects is as it was -/
def Frame29 (w w' : World) : Prop := w.heap.size ≤ w'.heap.size ∧ ∀ k, k < w.heap.size → (∀ c, w.heap[k]? ≠ some (.cells c 29 (0, 0))) → w'.heap[k]? = w.heap[k]?
theorem Frame29.refl (w : World) : Frame29 w w := ⟨Nat.le_refl _, fun _ _ _ => rfl⟩
theorem Frame29.alloc {w W : World} (h : Frame29 w W) (ob : Obj) : Frame29 w (W.alloc ob) := by
  have hb := new_alloc W ob
  exact ⟨Nat.le_trans h.1 hb.size, fun k hk hc => (hb.block k (Nat.lt_of_lt_of_le hk h.1)).trans (h.2 k hk hc)⟩
theorem Frame29.setOld {w W : World} {g i : Nat} {c : Array Value} {v : Value} (hb : Blk w g 29 c) (h : Frame29 w W) : Frame29 w (W.setCell ⟨g, i, none⟩ v) := by
  have hg := grown_setCell W g i v
  refine ⟨Nat.le_trans h.1 hg.size, fun k hk hc => ?_⟩
  have hne : k ≠ g := fun e => hc c (by rw [e]; exact hb)
  exact (hg.block k (Nat.lt_of_lt_of_le hk h.1) (by intro e; injection e with e; exact hne e)).trans (h.2 k hk hc)
theorem Frame29.setNew {w W : World} {g i : Nat} {v : Value} (hw : w.heap.size ≤ g) (h : Frame29 w W) : Frame29 w (W.setCell ⟨g, i, none⟩ v) := by
  have hg := grown_setCell W g i v
  refine ⟨Nat.le_trans h.1 hg.size, fun k hk hc => ?_⟩
  exact (hg.block k (Nat.lt_of_lt_of_le hk h.1) (by intro e; injection e with e; omega)).trans (h.2 k hk hc)
theorem Frame29.row {w w' : World} {B : Nat} {T : TypeId} {z : Nat} {v : Value} {n : Nat} {xs : List Value} (h : Frame29 w w') (hr : w.ownsRow B T z v n xs) (hne : T ≠ 29) : w'.ownsRow B T z v n xs := by
  obtain ⟨h0, h1⟩ := hr
  refine ⟨h0, h1.imp id ?_⟩
  rintro ⟨g, cap, cur, e1, e2, e3, e4⟩
  refine ⟨g, cap, cur, e1, e2, (h.2 g (Array.getElem?_eq_some_iff.1 e3).1 fun c e => ?_).trans e3, e4⟩
  rw [e3] at e
  injection e with e
  injection e with _ e
  exact hne e
theorem ObOwn.frame {w w' : World} {B : Nat} {o : Ob} {vb vs vf vm : Value} (h : ObOwn w B o vb vs vf vm) (hf : Frame29 w w') : ObOwn w' B o vb vs vf vm :=
  ⟨hf.row h.b (by decide), hf.row h.s (by decide), hf.row h.f (by decide), hf.row h.m (by decide)⟩
theorem below_set0 {w0 w : World} (h : Below w0.heap.size w0 w) (g i : Nat) (v : Value) (hg : w0.heap.size ≤ g) : Below w0.heap.size w0 (w.setCell ⟨g, i, none⟩ v) := below_set h g i v hg h.size
/-- what stands behind the first region -/
def CutAt (w : World) (o o' : Ob) (c c' : Array Value) (v5 v6 : Value) (wx : World) : Prop :=
  ∃ (g5 g6 : Nat) (xb xs xf xm : Option Addr) (yb ys yf ym : Nat) (zb zs zf zm : Option Addr) (tb ts tf tm : Nat), v5 = .pointer (some ⟨g5, 0, none⟩) ∧ v6 = .pointer (some ⟨g6, 0, none⟩)
    ∧ Blk wx g5 29 (obA xb xs xf xm o.bs.length yb o.sy.length ys o.fx.length yf o.mk_.length ym)
    ∧ Blk wx g6 29 (obA zb zs zf zm o'.bs.length tb o'.sy.length ts o'.fx.length tf o'.mk_.length tm)
    ∧ Blk wx w.heap.size 29 c ∧ Blk wx (w.heap.size + 1) 29 c'
    ∧ ObOwn wx w.heap.size o (.slice xb o.bs.length yb) (.slice xs o.sy.length ys) (.slice xf o.fx.length yf) (.slice xm o.mk_.length ym)
    ∧ ObOwn wx w.heap.size o' (.slice zb o'.bs.length tb) (.slice zs o'.sy.length ts) (.slice zf o'.fx.length tf) (.slice zm o'.mk_.length tm)
    ∧ Below w.heap.size w wx
theorem Blk.set4 {w : World} {g : Nat} (h : Blk w g 29 noObj) (a b c d : Value) : Blk ((((w.setCell ⟨g, 0, none⟩ a).setCell ⟨g, 1, none⟩ b).setCell ⟨g, 2, none⟩ c).setCell ⟨g, 3, none⟩ d) g 29 #[a, b, c, d] := (((h.set 0 a).set 1 b).set 2 c).set 3 d
theorem Blk.other4 {w : World} {g k : Nat} {x : Array Value} (h : Blk w g 29 x) (hne : ¬ g = k) (a b c d : Value) : Blk ((((w.setCell ⟨k, 0, none⟩ a).setCell ⟨k, 1, none⟩ b).setCell ⟨k, 2, none⟩ c).setCell ⟨k, 3, none⟩ d) g 29 x := (((h.other hne 0 a).other hne 1 b).other hne 2 c).other hne 3 d
theorem Blk.newAt {w : World} {g : Nat} {c : Array Value} (h : w.heap.size = g) : Blk (w.alloc (.cells c 29)) g 29 c := h ▸ Blk.new w 29 c
theorem Frame29.set4 {w W : World} {g : Nat} {x : Array Value} (hb : Blk w g 29 x) (h : Frame29 w W) (a b c d : Value) : Frame29 w ((((W.setCell ⟨g, 0, none⟩ a).setCell ⟨g, 1, none⟩ b).setCell ⟨g, 2, none⟩ c).setCell ⟨g, 3, none⟩ d) := .setOld hb (.setOld hb (.setOld hb (.setOld hb h)))
theorem below_set4 {w0 w : World} (h : Below w0.heap.size w0 w) (g : Nat) (hg : w0.heap.size ≤ g) (a b c d : Value) : Below w0.heap.size w0 ((((w.setCell ⟨g, 0, none⟩ a).setCell ⟨g, 1, none⟩ b).setCell ⟨g, 2, none⟩ c).setCell ⟨g, 3, none⟩ d) := below_set0 (below_set0 (below_set0 (below_set0 h g 0 a hg) g 1 b hg) g 2 c hg) g 3 d hg
theorem Blk.new1 (w : World) (ob : Obj) (c : Array Value) : Blk ((w.alloc ob).alloc (.cells c 29)) (w.heap.size + 1) 29 c := by
  have := Blk.new (w.alloc ob) 29 c
  rw [size_one] at this
  exact this

theorem four_cells {W : World} {g : Nat} {pb ps pf pm : Option Addr} {nb cb ns cs nf cf nm cm : Nat} (h : Blk W g 29 (obA pb ps pf pm nb cb ns cs nf cf nm cm)) : W.cell? ⟨g, 0, none⟩ = some (.slice pb nb cb) ∧ W.cell? ⟨g, 1, none⟩ = some (.slice ps ns cs) ∧ W.cell? ⟨g, 2, none⟩ = some (.slice pf nf cf) ∧ W.cell? ⟨g, 3, none⟩ = some (.slice pm nm cm) :=
  ⟨h.cell 0, h.cell 1, h.cell 2, h.cell 3⟩

set_option maxRecDepth 20000 in
set_option maxHeartbeats 8000000 in
theorem rights_walk (o o' : Ob) (pb ps pf pm : Option Addr) (nb cb ns cs nf cf nm cm : Nat) (qb qs qf qm : Option Addr) (mb db ms ds mf df mm dm : Nat) (w : World) (he : Env w)
    (h : ObIn w o pb ps pf pm nb cb ns cs nf cf nm cm) (h' : ObIn w o' qb qs qf qm mb db ms ds mf df mm dm)
    (h1 : nb ≤ 1048576) (h2 : ns ≤ 1048576) (h3 : nf ≤ 1048576) (h4 : nm ≤ 1048576) (k1 : mb ≤ 1048576) (k2 : ms ≤ 1048576) (k3 : mf ≤ 1048576) (k4 : mm ≤ 1048576) :
    Calls Tryz.prog 4 #[.agg (obA pb ps pf pm nb cb ns cs nf cf nm cm), .agg (obA qb qs qf qm mb db ms ds mf df mm dm)] w fun E w' => E = .returned (.bool true) ∧ Below w.heap.size w w' := by
  have hC := fun W hI => copyObject_any o pb ps pf pm nb cb ns cs nf cf nm cm W hI h1 h2 h3 h4
  have hD := fun W hI => copyObject_any o' qb qs qf qm mb db ms ds mf df mm dm W hI k1 k2 k3 k4
  have H := Hid.in h
  have H' := Hid.in h'
  have HE := Hid.in he
  have hA := awake_any
  clear h h' he
  go_enter Tryz.func4, Tryz.ntmps4
  go_upto_region 1 with fail
  have HA0 : Hid (Blk ((w.alloc (.cells (obA pb ps pf pm nb cb ns cs nf cf nm cm) 29)).alloc (.cells (obA qb qs qf qm mb db ms ds mf df mm dm) 29)) w.heap.size 29 (obA pb ps pf pm nb cb ns cs nf cf nm cm)) := (Blk.new w 29 _).grow (new_alloc _ _)
  have HB0 : Hid (Blk ((w.alloc (.cells (obA pb ps pf pm nb cb ns cs nf cf nm cm) 29)).alloc (.cells (obA qb qs qf qm mb db ms ds mf df mm dm) 29)) (w.heap.size + 1) 29 (obA qb qs qf qm mb db ms ds mf df mm dm)) := by
    have := Blk.new (w.alloc (.cells (obA pb ps pf pm nb cb ns cs nf cf nm cm) 29)) 29 (obA qb qs qf qm mb db ms ds mf df mm dm)
    rw [size_one] at this
    exact this
  have HW0 : Hid (Below w.heap.size w ((w.alloc (.cells (obA pb ps pf pm nb cb ns cs nf cf nm cm) 29)).alloc (.cells (obA qb qs qf qm mb db ms ds mf df mm dm) 29))) := below_alloc (new_alloc w _) _
  generalize (w.alloc (.cells (obA pb ps pf pm nb cb ns cs nf cf nm cm) 29)).alloc (.cells (obA qb qs qf qm mb db ms ds mf df mm dm) 29) = w0 at *
  have a0 : w0.cell? ⟨w.heap.size, 0, none⟩ = some (.slice pb nb cb) := HA0.out.cell 0
  have a1 : w0.cell? ⟨w.heap.size, 1, none⟩ = some (.slice ps ns cs) := HA0.out.cell 1
  have a2 : w0.cell? ⟨w.heap.size, 2, none⟩ = some (.slice pf nf cf) := HA0.out.cell 2
  have a3 : w0.cell? ⟨w.heap.size, 3, none⟩ = some (.slice pm nm cm) := HA0.out.cell 3
  have b0 : w0.cell? ⟨w.heap.size + 1, 0, none⟩ = some (.slice qb mb db) := HB0.out.cell 0
  have b1 : w0.cell? ⟨w.heap.size + 1, 1, none⟩ = some (.slice qs ms ds) := HB0.out.cell 1
  have b2 : w0.cell? ⟨w.heap.size + 1, 2, none⟩ = some (.slice qf mf df) := HB0.out.cell 2
  have b3 : w0.cell? ⟨w.heap.size + 1, 3, none⟩ = some (.slice qm mm dm) := HB0.out.cell 3
  have n0 : w.heap.size < w0.heap.size := HA0.out.lt
  have n1 : w.heap.size + 1 < w0.heap.size := HB0.out.lt
  have qw00 : ¬ w0.heap.size = w.heap.size := (by omega)
  have qw01 : ¬ w0.heap.size = w.heap.size + 1 := (by omega)
  have qw02 : ¬ w0.heap.size + 1 = w.heap.size := (by omega)
  have qw03 : ¬ w0.heap.size + 1 = w.heap.size + 1 := (by omega)
  go_cut [5, 6] from 7 to 10 (fun v5 v6 wx => CutAt w o o' (obA pb ps pf pm nb cb ns cs nf cf nm cm) (obA qb qs qf qm mb db ms ds mf df mm dm) v5 v6 wx)
  case rest =>
    clear a0 a1 a2 a3 b0 b1 b2 b3 n0 n1 qw00 qw01 qw02 qw03 HA0 HB0 HW0 hC hD
    obtain ⟨g5, g6, xb, xs, xf, xm, yb, ys, yf, ym, zb, zs, zf, zm, tb, ts, tf, tm, rfl, rfl, K5, K6, KA, KB, O5, O6, hB⟩ := hcut
    have hSS : ∀ W, Below wc.heap.size wc W → ((W.cell? ⟨g5, 0, none⟩ = some (.slice xb o.bs.length yb) ∧ W.cell? ⟨g5, 1, none⟩ = some (.slice xs o.sy.length ys) ∧ W.cell? ⟨g5, 2, none⟩ = some (.slice xf o.fx.length yf) ∧ W.cell? ⟨g5, 3, none⟩ = some (.slice xm o.mk_.length ym)) ∧ (W.cell? ⟨g6, 0, none⟩ = some (.slice zb o'.bs.length tb) ∧ W.cell? ⟨g6, 1, none⟩ = some (.slice zs o'.sy.length ts) ∧ W.cell? ⟨g6, 2, none⟩ = some (.slice zf o'.fx.length tf) ∧ W.cell? ⟨g6, 3, none⟩ = some (.slice zm o'.mk_.length tm)) ∧ (W.cell? ⟨w.heap.size, 0, none⟩ = some (.slice pb nb cb) ∧ W.cell? ⟨w.heap.size, 1, none⟩ = some (.slice ps ns cs) ∧ W.cell? ⟨w.heap.size, 2, none⟩ = some (.slice pf nf cf) ∧ W.cell? ⟨w.heap.size, 3, none⟩ = some (.slice pm nm cm)) ∧ (W.cell? ⟨(w.heap.size + 1), 0, none⟩ = some (.slice qb mb db) ∧ W.cell? ⟨(w.heap.size + 1), 1, none⟩ = some (.slice qs ms ds) ∧ W.cell? ⟨(w.heap.size + 1), 2, none⟩ = some (.slice qf mf df) ∧ W.cell? ⟨(w.heap.size + 1), 3, none⟩ = some (.slice qm mm dm))) := fun W hb => ⟨four_cells (K5.grow hb), four_cells (K6.grow hb), four_cells (KA.grow hb), four_cells (KB.grow hb)⟩
    have HSS := Hid.in hSS
    have hA1 := fun W hb => oright_any o xb xs xf xm o.bs.length yb o.sy.length ys o.fx.length yf o.mk_.length ym W ((O5.below hb).innAt H.out.fit)
    have hA2 := fun W hb => refORight_any o pb ps pf pm nb cb ns cs nf cf nm cm W (H.out.below (below_step hB hb))
    have hA3 := fun W hb => objectSame_any o o' xb xs xf xm o.bs.length yb o.sy.length ys o.fx.length yf o.mk_.length ym zb zs zf zm o'.bs.length tb o'.sy.length ts o'.fx.length tf o'.mk_.length tm W ((O5.below hb).innAt H.out.fit) ((O6.below hb).innAt H'.out.fit)
    have hA4 := fun W hb => sameObject_any o o' pb ps pf pm nb cb ns cs nf cf nm cm qb qs qf qm mb db ms ds mf df mm dm W (H.out.below (below_step hB hb)) (H'.out.below (below_step hB hb))
    have hA5 := fun W hb => objectSame_any o o xb xs xf xm o.bs.length yb o.sy.length ys o.fx.length yf o.mk_.length ym xb xs xf xm o.bs.length yb o.sy.length ys o.fx.length yf o.mk_.length ym W ((O5.below hb).innAt H.out.fit) ((O5.below hb).innAt H.out.fit)
    have hA6 := fun W hb => sameObject_any o o xb xs xf xm o.bs.length yb o.sy.length ys o.fx.length yf o.mk_.length ym pb ps pf pm nb cb ns cs nf cf nm cm W ((O5.below hb).innAt H.out.fit) (H.out.below (below_step hB hb))
    have hA7 := fun W hb => awake_any W (HE.out.below (below_step hB hb))
    have ht : eqB True = true := (eqB_iff _).2 trivial
    simp only [eq_self, ht] at hA5 hA6
    have HB := Hid.in hB
    have hs0 := hSS wc (below_self wc)
    obtain ⟨⟨x0, x1, x2, x3⟩, ⟨z0, z1, z2, z3⟩, ⟨p0, p1, p2, p3⟩, ⟨q0, q1, q2, q3⟩⟩ := hs0
    clear hA hSS ht hB K5 K6 KA KB O5 O6
    generalize okO o = r at *
    generalize eqB (o = o') = s at *
    go_upto_region 2 with fail
    go_region_held3 (fun W => ((W.cell? ⟨g5, 0, none⟩ = some (.slice xb o.bs.length yb) ∧ W.cell? ⟨g5, 1, none⟩ = some (.slice xs o.sy.length ys) ∧ W.cell? ⟨g5, 2, none⟩ = some (.slice xf o.fx.length yf) ∧ W.cell? ⟨g5, 3, none⟩ = some (.slice xm o.mk_.length ym)) ∧ (W.cell? ⟨g6, 0, none⟩ = some (.slice zb o'.bs.length tb) ∧ W.cell? ⟨g6, 1, none⟩ = some (.slice zs o'.sy.length ts) ∧ W.cell? ⟨g6, 2, none⟩ = some (.slice zf o'.fx.length tf) ∧ W.cell? ⟨g6, 3, none⟩ = some (.slice zm o'.mk_.length tm)) ∧ (W.cell? ⟨w.heap.size, 0, none⟩ = some (.slice pb nb cb) ∧ W.cell? ⟨w.heap.size, 1, none⟩ = some (.slice ps ns cs) ∧ W.cell? ⟨w.heap.size, 2, none⟩ = some (.slice pf nf cf) ∧ W.cell? ⟨w.heap.size, 3, none⟩ = some (.slice pm nm cm)) ∧ (W.cell? ⟨(w.heap.size + 1), 0, none⟩ = some (.slice qb mb db) ∧ W.cell? ⟨(w.heap.size + 1), 1, none⟩ = some (.slice qs ms ds) ∧ W.cell? ⟨(w.heap.size + 1), 2, none⟩ = some (.slice qf mf df) ∧ W.cell? ⟨(w.heap.size + 1), 3, none⟩ = some (.slice qm mm dm)))) (first | go_keep | exact hk1 | exact hk2 | exact hk3 | exact hk4 | exact hk5 | exact hk6 | exact hk7)
      (first
        | (go_at_call 14; (with_reducible refine (hA1 _ ?_).mono ?_); (exact below_draws (below_self wc) 1); rintro E w1 ⟨rfl, hb1⟩; have HC1 := Hid.in (below_step (below_draws (below_self wc) 1) hb1); have hk1 := HSS.out w1 HC1.out; clear hb1)
        | (go_at_call 15; (with_reducible refine (hA2 _ ?_).mono ?_); (exact HC1.out); rintro E w2 ⟨rfl, hb2⟩; have HC2 := Hid.in (below_step HC1.out hb2); have hk2 := HSS.out w2 HC2.out; clear hb2)
        | (go_at_call 16; (with_reducible refine (hA3 _ ?_).mono ?_); (exact HC2.out); rintro E w3 ⟨rfl, hb3⟩; have HC3 := Hid.in (below_step HC2.out hb3); have hk3 := HSS.out w3 HC3.out; clear hb3)
        | (go_at_call 10; (with_reducible refine (hA4 _ ?_).mono ?_); (exact HC3.out); rintro E w4 ⟨rfl, hb4⟩; have HC4 := Hid.in (below_step HC3.out hb4); have hk4 := HSS.out w4 HC4.out; clear hb4)
        | (go_at_call 16; (with_reducible refine (hA5 _ ?_).mono ?_); (exact HC4.out); rintro E w5 ⟨rfl, hb5⟩; have HC5 := Hid.in (below_step HC4.out hb5); have hk5 := HSS.out w5 HC5.out; clear hb5)
        | (go_at_call 10; (with_reducible refine (hA6 _ ?_).mono ?_); (exact HC5.out); rintro E w6 ⟨rfl, hb6⟩; have HC6 := Hid.in (below_step HC5.out hb6); have hk6 := HSS.out w6 HC6.out; clear hb6)
        | (go_at_call 12; (with_reducible refine (hA7 _ ?_).mono ?_); (exact HC6.out); rintro E w7 ⟨rfl, hb7⟩; have HC7 := Hid.in (below_step HC6.out hb7); have hk7 := HSS.out w7 HC7.out; clear hb7))
    go_wp2_with fail
    go_ret
    exact ⟨rfl, below_step HB.out HC7.out⟩
  case first =>
    go_region_held3 (fun W => W.cell? ⟨w.heap.size, 0, none⟩ = some (.slice pb nb cb) ∧ W.cell? ⟨w.heap.size, 1, none⟩ = some (.slice ps ns cs) ∧ W.cell? ⟨w.heap.size, 2, none⟩ = some (.slice pf nf cf) ∧ W.cell? ⟨w.heap.size, 3, none⟩ = some (.slice pm nm cm) ∧ W.cell? ⟨w.heap.size + 1, 0, none⟩ = some (.slice qb mb db) ∧ W.cell? ⟨w.heap.size + 1, 1, none⟩ = some (.slice qs ms ds) ∧ W.cell? ⟨w.heap.size + 1, 2, none⟩ = some (.slice qf mf df) ∧ W.cell? ⟨w.heap.size + 1, 3, none⟩ = some (.slice qm mm dm)) (first | go_keep | exact hk1 | exact hk2)
      (first
        | (go_at_call 13; (with_reducible refine (hC _ ?_).mono ?_); (exact H.out.below (by first | exact below_draws HW0.out 1 | exact below_draws (below_alloc HW0.out _) 1 | exact below_draws (below_alloc (below_alloc HW0.out _) _) 1)); rintro E w1 ⟨⟨vb1, vs1, vf1, vm1, rfl, hO1⟩, hb1⟩; have HC1 : Hid (Below w0.heap.size w0 w1) := (by first | exact below_step (below_draws (below_self w0) 1) hb1 | exact below_step (below_draws (new_alloc w0 _) 1) hb1 | exact below_step (below_draws (below_alloc (new_alloc w0 _) _) 1) hb1); obtain ⟨xb, xs, xf, xm, yb, ys, yf, ym, ⟨e1, e2, e3, e4⟩, -⟩ := hO1.inn H.out.fit; subst e1 e2 e3 e4; have HO1 := Hid.in (hO1.lower (B' := w.heap.size) (by have := HW0.out.size; simp; omega)); (first | (obtain ⟨y1, y2⟩ := blk_z2 (w0 := w0) hb1 rfl; have HY1 := Hid.in y1; have HY2 := Hid.in y2; clear y1 y2) | (have HY1 := Hid.in (blk_z1 (w0 := w0) hb1 rfl)) | skip); have m1 : w0.heap.size ≤ w1.heap.size := HC1.out.size; have qw10 : ¬ w1.heap.size = w.heap.size := (by omega); have qw11 : ¬ w1.heap.size = w.heap.size + 1 := (by omega); have qw12 : ¬ w1.heap.size + 1 = w.heap.size := (by omega); have qw13 : ¬ w1.heap.size + 1 = w.heap.size + 1 := (by omega); have hk1 : w1.cell? ⟨w.heap.size, 0, none⟩ = some (.slice pb nb cb) ∧ w1.cell? ⟨w.heap.size, 1, none⟩ = some (.slice ps ns cs) ∧ w1.cell? ⟨w.heap.size, 2, none⟩ = some (.slice pf nf cf) ∧ w1.cell? ⟨w.heap.size, 3, none⟩ = some (.slice pm nm cm) ∧ w1.cell? ⟨w.heap.size + 1, 0, none⟩ = some (.slice qb mb db) ∧ w1.cell? ⟨w.heap.size + 1, 1, none⟩ = some (.slice qs ms ds) ∧ w1.cell? ⟨w.heap.size + 1, 2, none⟩ = some (.slice qf mf df) ∧ w1.cell? ⟨w.heap.size + 1, 3, none⟩ = some (.slice qm mm dm) := ⟨(HA0.out.grow HC1.out).cell 0, (HA0.out.grow HC1.out).cell 1, (HA0.out.grow HC1.out).cell 2, (HA0.out.grow HC1.out).cell 3, (HB0.out.grow HC1.out).cell 0, (HB0.out.grow HC1.out).cell 1, (HB0.out.grow HC1.out).cell 2, (HB0.out.grow HC1.out).cell 3⟩; clear hO1 hb1)
        | (go_at_call 13; (with_reducible refine (hD _ ?_).mono ?_); (exact H'.out.below (by first | exact below_step HW0.out HC1.out | exact below_alloc (below_step HW0.out HC1.out) _ | exact below_alloc (below_alloc (below_step HW0.out HC1.out) _) _)); rintro E w2 ⟨⟨vb2, vs2, vf2, vm2, rfl, hO2⟩, hb2⟩; have HC2 : Hid (Below w1.heap.size w1 w2) := (by first | exact hb2 | exact below_step (new_alloc w1 _) hb2 | exact below_step (below_alloc (new_alloc w1 _) _) hb2); obtain ⟨zb, zs, zf, zm, tb, ts, tf, tm, ⟨e1, e2, e3, e4⟩, -⟩ := hO2.inn H'.out.fit; subst e1 e2 e3 e4; have m2 : w1.heap.size ≤ w2.heap.size := HC2.out.size; have qw20 : ¬ w2.heap.size = w.heap.size := (by omega); have qw21 : ¬ w2.heap.size = w.heap.size + 1 := (by omega); have qw22 : ¬ w2.heap.size + 1 = w.heap.size := (by omega); have qw23 : ¬ w2.heap.size + 1 = w.heap.size + 1 := (by omega); have HP1 := Hid.in (HO1.out.below HC2.out); have HP2 := Hid.in (hO2.lower (B' := w.heap.size) (by have := HW0.out.size; have := HC1.out.size; simp; omega)); have HPB := Hid.in (below_step (below_step HW0.out HC1.out) HC2.out); (first | (have HV1 := Hid.in (HY1.out.grow HC2.out); have HV2 := Hid.in (HY2.out.grow HC2.out); have d1 : ¬ w0.heap.size = w0.heap.size + 1 := (by omega); have d2 : ¬ w0.heap.size + 1 = w0.heap.size := (by omega)) | (have HV1 := Hid.in (HY1.out.grow HC2.out); have HV2 := Hid.in (blk_z1 (w0 := w1) hb2 rfl); have d0 := HY1.out.lt; have d1 : ¬ w0.heap.size = w1.heap.size := (by omega); have d2 : ¬ w1.heap.size = w0.heap.size := (by omega)) | (have HV1 := Hid.in (HY1.out.grow HC2.out); have d0 := HV1.out.lt; have d1 : ¬ w0.heap.size = w2.heap.size := (by omega); have d2 : ¬ w2.heap.size = w0.heap.size := (by omega)) | (obtain ⟨y1, y2⟩ := blk_z2 (w0 := w1) hb2 rfl; have HV1 := Hid.in y1; have HV2 := Hid.in y2; clear y1 y2; have d1 : ¬ w1.heap.size = w1.heap.size + 1 := (by omega); have d2 : ¬ w1.heap.size + 1 = w1.heap.size := (by omega)) | (have HV1 := Hid.in (blk_z1 (w0 := w1) hb2 rfl); have d0 := HV1.out.lt; have d1 : ¬ w1.heap.size = w2.heap.size := (by omega); have d2 : ¬ w2.heap.size = w1.heap.size := (by omega)) | skip); (first | (obtain ⟨⟨c10, c11, c12, c13⟩, c14, c15, c16, c17⟩ := HV1.out.z; obtain ⟨⟨c20, c21, c22, c23⟩, c24, c25, c26, c27⟩ := HV2.out.z) | (obtain ⟨⟨c10, c11, c12, c13⟩, c14, c15, c16, c17⟩ := HV1.out.z; have ca := HV1.out.za) | skip); have hk2 : w2.cell? ⟨w.heap.size, 0, none⟩ = some (.slice pb nb cb) ∧ w2.cell? ⟨w.heap.size, 1, none⟩ = some (.slice ps ns cs) ∧ w2.cell? ⟨w.heap.size, 2, none⟩ = some (.slice pf nf cf) ∧ w2.cell? ⟨w.heap.size, 3, none⟩ = some (.slice pm nm cm) ∧ w2.cell? ⟨w.heap.size + 1, 0, none⟩ = some (.slice qb mb db) ∧ w2.cell? ⟨w.heap.size + 1, 1, none⟩ = some (.slice qs ms ds) ∧ w2.cell? ⟨w.heap.size + 1, 2, none⟩ = some (.slice qf mf df) ∧ w2.cell? ⟨w.heap.size + 1, 3, none⟩ = some (.slice qm mm dm) := ⟨(HA0.out.grow (below_step HC1.out HC2.out)).cell 0, (HA0.out.grow (below_step HC1.out HC2.out)).cell 1, (HA0.out.grow (below_step HC1.out HC2.out)).cell 2, (HA0.out.grow (below_step HC1.out HC2.out)).cell 3, (HB0.out.grow (below_step HC1.out HC2.out)).cell 0, (HB0.out.grow (below_step HC1.out HC2.out)).cell 1, (HB0.out.grow (below_step HC1.out HC2.out)).cell 2, (HB0.out.grow (below_step HC1.out HC2.out)).cell 3⟩; clear hO2 hb2))
    all_goals
      go_wp2_with fail
      go_meet
      case rel =>
        have A2 := HA0.out.grow (below_step HC1.out HC2.out)
        have B2 := HB0.out.grow (below_step HC1.out HC2.out)
        refine ⟨_, _, xb, xs, xf, xm, yb, ys, yf, ym, zb, zs, zf, zm, tb, ts, tf, tm, rfl, rfl, ?_, ?_, ?_, ?_, HP1.out.frame ?_, HP2.out.frame ?_, ?_⟩
        · repeat (first
            | (with_reducible exact A2)
            | (with_reducible exact B2)
            | (with_reducible exact HV1.out)
            | (with_reducible exact HV2.out)
            | (with_reducible exact Blk.new1 _ _ _)
            | (with_reducible refine Blk.set4 ?_ _ _ _ _)
            | (with_reducible refine Blk.other4 ?_ (by omega) _ _ _ _)
            | ((with_reducible refine Blk.newAt ?_); (first | (with_reducible rfl) | (simp only [World.size_setCell]; done)))
            | (with_reducible refine Blk.grow ?_ (new_alloc _ _)))
        · repeat (first
            | (with_reducible exact A2)
            | (with_reducible exact B2)
            | (with_reducible exact HV1.out)
            | (with_reducible exact HV2.out)
            | (with_reducible exact Blk.new1 _ _ _)
            | (with_reducible refine Blk.set4 ?_ _ _ _ _)
            | (with_reducible refine Blk.other4 ?_ (by omega) _ _ _ _)
            | ((with_reducible refine Blk.newAt ?_); (first | (with_reducible rfl) | (simp only [World.size_setCell]; done)))
            | (with_reducible refine Blk.grow ?_ (new_alloc _ _)))
        · repeat (first
            | (with_reducible exact A2)
            | (with_reducible exact B2)
            | (with_reducible exact HV1.out)
            | (with_reducible exact HV2.out)
            | (with_reducible exact Blk.new1 _ _ _)
            | (with_reducible refine Blk.set4 ?_ _ _ _ _)
            | (with_reducible refine Blk.other4 ?_ (by omega) _ _ _ _)
            | ((with_reducible refine Blk.newAt ?_); (first | (with_reducible rfl) | (simp only [World.size_setCell]; done)))
            | (with_reducible refine Blk.grow ?_ (new_alloc _ _)))
        · repeat (first
            | (with_reducible exact A2)
            | (with_reducible exact B2)
            | (with_reducible exact HV1.out)
            | (with_reducible exact HV2.out)
            | (with_reducible exact Blk.new1 _ _ _)
            | (with_reducible refine Blk.set4 ?_ _ _ _ _)
            | (with_reducible refine Blk.other4 ?_ (by omega) _ _ _ _)
            | ((with_reducible refine Blk.newAt ?_); (first | (with_reducible rfl) | (simp only [World.size_setCell]; done)))
            | (with_reducible refine Blk.grow ?_ (new_alloc _ _)))
        · repeat (first | (with_reducible exact Frame29.refl _) | (with_reducible refine Frame29.set4 HV1.out ?_ _ _ _ _) | (with_reducible refine Frame29.set4 HV2.out ?_ _ _ _ _) | (with_reducible refine Frame29.alloc ?_ _))
        · repeat (first | (with_reducible exact Frame29.refl _) | (with_reducible refine Frame29.set4 HV1.out ?_ _ _ _ _) | (with_reducible refine Frame29.set4 HV2.out ?_ _ _ _ _) | (with_reducible refine Frame29.alloc ?_ _))
        · repeat (first | (with_reducible exact HPB.out) | (with_reducible refine below_set4 ?_ _ (by omega) _ _ _ _) | (with_reducible refine below_alloc ?_ _))

end Go.Proofs.YtkianldkbfjehaaGreatDoor
