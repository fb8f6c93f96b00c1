/-
  Proved here: the law SymbolsSpares (switchyardlaw07) answers true for every input, and each argument reads afterwards as it read before. No condition of ours: the row's own reach alone (each slice and text takes at most 2^47 - 4096 bytes).
-/
import Derived.Test.YtnmcdkhfjkpklaaKit3
import Derived.Test.YtnmcdkhfjkpklaaSame
import Derived.Test.YtnmcdkhfjkpklaaRObj
import Derived.Test.YtnmcdkhfjkpklaaTabW
import Derived.Deep.RegionHeld3
import Derived.Test.YtnmcdkhfjkpklaaCpy3
import Derived.Test.YtnmcdkhfjkpklaaCopy
import Derived.Test.YtnmcdkhfjkpklaaRowsA
import Derived.Test.YtnmcdkhfjkpklaaHvyW
import Derived.Test.YtnmcdkhfjkpklaaMark
import Derived.Test.YtnmcdkhfjkpklaaW3
import Derived.Lib.QuietBelow
import Derived.Deep.RegionLaw
import Derived.Test.YtnmcdkhfjkpklaaStaL
import Derived.Test.YtnmcdkhfjkpklaaAwkW
import Derived.Test.YtnmcdkhfjkpklaaOpenU

/- switchyardkit.SameObject. -/
namespace Go.Proofs.Ytnmcdkhfjkpklaa
open Go.RowKit

theorem ob_eq {o o' : Ob} : o = o' ↔ o.bs = o'.bs ∧ o.sy = o'.sy ∧ o.fx = o'.fx ∧ o.mk_ = o'.mk_ := by
  constructor
  · rintro rfl; exact ⟨rfl, rfl, rfl, rfl⟩
  · obtain ⟨a, b, c, d⟩ := o
    obtain ⟨a', b', c', d'⟩ := o'
    rintro ⟨h1, h2, h3, h4⟩
    simp only at h1 h2 h3 h4
    subst h1 h2 h3 h4
    rfl
theorem max63 {n : Nat} (h : n ≤ maxLen) : n ≤ 9223372036854775807 := by unfold maxLen at h; omega
/-- whether it holds -/
noncomputable def eqB (P : Prop) : Bool := @decide P (Classical.propDecidable P)
theorem eqB_iff (P : Prop) : eqB P = true ↔ P := by simp [eqB]
theorem eqB_of {b : Bool} {P : Prop} (h : b = true ↔ P) : b = eqB P := by
  cases hb : eqB P with
  | true => exact h.2 ((eqB_iff P).1 hb)
  | false =>
    cases b with
    | false => rfl
    | true => rw [(eqB_iff P).2 (h.1 rfl)] at hb; cases hb
theorem calls_eqB {f : FuncId} {vs : Array Value} {w : World} {P : Prop} (h : Calls Try.prog f vs w fun E w' => (∃ b, E = .returned (.bool b) ∧ (b = true ↔ P)) ∧ ∃ z, w' = w.drewN z) :
    Calls Try.prog f vs w fun E w' => E = .returned (.bool (eqB P)) ∧ ∃ z, w' = w.drewN z := by
  refine h.mono ?_
  rintro E w' ⟨⟨b, rfl, hb⟩, hz⟩
  exact ⟨by rw [eqB_of hb], hz⟩
theorem eqB_same (o o' : Ob) : eqB (o = o') = (eqB (o.bs = o'.bs) && eqB (o.sy = o'.sy) && eqB (o.fx = o'.fx) && eqB (o.mk_ = o'.mk_)) := by
  refine (eqB_of ?_).symm
  simp only [Bool.and_eq_true, eqB_iff]
  rw [ob_eq]
  constructor
  · rintro ⟨⟨⟨a, b⟩, c⟩, d⟩; exact ⟨a, b, c, d⟩
  · rintro ⟨a, b, c, d⟩; exact ⟨⟨⟨a, b⟩, c⟩, d⟩
theorem equal_draw {f : FuncId} {vs : Array Value} {w : World} {b : Bool} (h : Calls Try.prog f vs w fun E w' => E = .returned (.bool b) ∧ w' = w) : Calls Try.prog f vs w fun E w' => E = .returned (.bool b) ∧ ∃ z, w' = w.drewN z :=
  h.mono fun _ _ k => ⟨k.1, 0, k.2⟩
theorem sameB_eqB (xs ys : List Int) : sameB xs ys = eqB (xs = ys) := eqB_of (by simp [sameB])

set_option maxRecDepth 20000 in
set_option maxHeartbeats 2000000 in
theorem sameObject_any (o o' : Ob) (pb ps pf pm : Option Addr) (nb cb ns cs nf cf nm cm : Nat) (qb qs qf qm : Option Addr) (mb db ms ds mf df mm dm : Nat) (w : World) (h : ObIn w o pb ps pf pm nb cb ns cs nf cf nm cm) (h' : ObIn w o' qb qs qf qm mb db ms ds mf df mm dm) :
    Calls Try.prog 37 #[.agg (obA pb ps pf pm nb cb ns cs nf cf nm cm), .agg (obA qb qs qf qm mb db ms ds mf df mm dm)] w fun E w' => E = .returned (.bool (eqB (o = o'))) ∧ Below w.heap.size w w' := by
  have hB := fun W (k : ObIn W o pb ps pf pm nb cb ns cs nf cf nm cm) (k' : ObIn W o' qb qs qf qm mb db ms ds mf df mm dm) => sameBytes_any pb qb nb cb mb db o.bs o'.bs W k.lb k'.lb (max63 (Nat.le_trans k.kb k.mb)) k.rb k'.rb
  have hS := fun W (k : ObIn W o pb ps pf pm nb cb ns cs nf cf nm cm) (k' : ObIn W o' qb qs qf qm mb db ms ds mf df mm dm) => calls_eqB (sameSyms_any ps qs ns cs ms ds o.sy o'.sy W k.ls k'.ls (max63 k.ks) (max63 k'.ks) k.rs k'.rs)
  have hF := fun W (k : ObIn W o pb ps pf pm nb cb ns cs nf cf nm cm) (k' : ObIn W o' qb qs qf qm mb db ms ds mf df mm dm) => calls_eqB (sameFixes_any pf qf nf cf mf df o.fx o'.fx W k.lf k'.lf (max63 k.kf) (max63 k'.kf) k.rf k'.rf)
  have hM := fun W (k : ObIn W o pb ps pf pm nb cb ns cs nf cf nm cm) (k' : ObIn W o' qb qs qf qm mb db ms ds mf df mm dm) => calls_eqB (sameMarks_any pm qm nm cm mm dm o.mk_ o'.mk_ W k.lm k'.lm (max63 k.km) (max63 k'.km) k.rm k'.rm)
  simp only [sameB_eqB] at hB
  rw [eqB_same]
  generalize eqB (o.bs = o'.bs) = r0 at *
  generalize eqB (o.sy = o'.sy) = r1 at *
  generalize eqB (o.fx = o'.fx) = r2 at *
  generalize eqB (o.mk_ = o'.mk_) = r3 at *
  have H := Hid.in h
  have H' := Hid.in h'
  clear h h'
  have HA0 : Hid (Blk ((w.alloc (.cells (obA pb ps pf pm nb cb ns cs nf cf nm cm) 39)).alloc (.cells (obA qb qs qf qm mb db ms ds mf df mm dm) 39)) w.heap.size 39 (obA pb ps pf pm nb cb ns cs nf cf nm cm)) := (Blk.new w 39 _).grow (new_alloc _ _)
  have HB0 : Hid (Blk ((w.alloc (.cells (obA pb ps pf pm nb cb ns cs nf cf nm cm) 39)).alloc (.cells (obA qb qs qf qm mb db ms ds mf df mm dm) 39)) (w.heap.size + 1) 39 (obA qb qs qf qm mb db ms ds mf df mm dm)) := by
    have := Blk.new (w.alloc (.cells (obA pb ps pf pm nb cb ns cs nf cf nm cm) 39)) 39 (obA qb qs qf qm mb db ms ds mf df mm dm)
    rw [size_one] at this
    exact this
  have HW0 : Hid (Below w.heap.size w ((w.alloc (.cells (obA pb ps pf pm nb cb ns cs nf cf nm cm) 39)).alloc (.cells (obA qb qs qf qm mb db ms ds mf df mm dm) 39))) := below_alloc (new_alloc w _) _
  go_enter Try.func37, Try.ntmps37
  go_upto_region 1 with fail
  generalize (w.alloc (.cells (obA pb ps pf pm nb cb ns cs nf cf nm cm) 39)).alloc (.cells (obA qb qs qf qm mb db ms ds mf df mm dm) 39) = w0 at *
  have HI : Hid (∀ z, ObIn (w0.drewN z) o pb ps pf pm nb cb ns cs nf cf nm cm) := fun z => (H.out.below HW0.out).below (below_draws (below_self _) z)
  have HI' : Hid (∀ z, ObIn (w0.drewN z) o' qb qs qf qm mb db ms ds mf df mm dm) := fun z => (H'.out.below HW0.out).below (below_draws (below_self _) z)
  have a0 : w0.cell? ⟨w.heap.size, 0, none⟩ = some (.slice pb nb cb) := HA0.out.cell 0
  have a1 : w0.cell? ⟨w.heap.size, 1, none⟩ = some (.slice ps ns cs) := HA0.out.cell 1
  have a2 : w0.cell? ⟨w.heap.size, 2, none⟩ = some (.slice pf nf cf) := HA0.out.cell 2
  have a3 : w0.cell? ⟨w.heap.size, 3, none⟩ = some (.slice pm nm cm) := HA0.out.cell 3
  have b0 : w0.cell? ⟨w.heap.size + 1, 0, none⟩ = some (.slice qb mb db) := HB0.out.cell 0
  have b1 : w0.cell? ⟨w.heap.size + 1, 1, none⟩ = some (.slice qs ms ds) := HB0.out.cell 1
  have b2 : w0.cell? ⟨w.heap.size + 1, 2, none⟩ = some (.slice qf mf df) := HB0.out.cell 2
  have b3 : w0.cell? ⟨w.heap.size + 1, 3, none⟩ = some (.slice qm mm dm) := HB0.out.cell 3
  cases r0 with
  | false =>
    go_wp2_with (first
      | (go_at_call 49; refine (hB _ (H.out.below HW0.out) (H'.out.below HW0.out)).mono ?_; rintro E W ⟨rfl, z19, rfl⟩))
    go_ret
    exact ⟨rfl, HW0.out.trans ((below_draws (below_self w0) _).mono HW0.out.size)⟩
  | true =>
    cases r1 with
    | false =>
      go_wp2_with (first
        | (go_at_call 49; refine (hB _ (H.out.below HW0.out) (H'.out.below HW0.out)).mono ?_; rintro E W ⟨rfl, z19, rfl⟩)
        | (go_at_call 19; refine (hS _ (HI.out _) (HI'.out _)).mono ?_; rintro E W ⟨rfl, z32, rfl⟩))
      go_ret
      exact ⟨rfl, HW0.out.trans ((below_draws (below_self w0) _).mono HW0.out.size)⟩
    | true =>
      cases r2 with
      | false =>
        go_wp2_with (first
          | (go_at_call 49; refine (hB _ (H.out.below HW0.out) (H'.out.below HW0.out)).mono ?_; rintro E W ⟨rfl, z19, rfl⟩)
          | (go_at_call 19; refine (hS _ (HI.out _) (HI'.out _)).mono ?_; rintro E W ⟨rfl, z32, rfl⟩)
          | (go_at_call 50; refine (hF _ (HI.out _) (HI'.out _)).mono ?_; rintro E W ⟨rfl, z33, rfl⟩))
        go_ret
        exact ⟨rfl, HW0.out.trans ((below_draws (below_self w0) _).mono HW0.out.size)⟩
      | true =>
        go_wp2_with (first
          | (go_at_call 49; refine (hB _ (H.out.below HW0.out) (H'.out.below HW0.out)).mono ?_; rintro E W ⟨rfl, z19, rfl⟩)
          | (go_at_call 19; refine (hS _ (HI.out _) (HI'.out _)).mono ?_; rintro E W ⟨rfl, z32, rfl⟩)
          | (go_at_call 50; refine (hF _ (HI.out _) (HI'.out _)).mono ?_; rintro E W ⟨rfl, z33, rfl⟩)
          | (go_at_call 51; refine (hM _ (HI.out _) (HI'.out _)).mono ?_; rintro E W ⟨rfl, z34, rfl⟩))
        go_ret
        exact ⟨rfl, HW0.out.trans ((below_draws (below_self w0) _).mono HW0.out.size)⟩

end Go.Proofs.Ytnmcdkhfjkpklaa

/- switchyardkit.SameObjects, of the same units. -/
namespace Go.Proofs.Ytnmcdkhfjkpklaa
open Go.RowKit

set_option maxRecDepth 20000 in
set_option maxHeartbeats 4000000 in
theorem sameObjects_self (p q : Option Addr) (n c d : Nat) (xs : List Ob) (w : World) (hn : xs.length = n) (hn63 : n ≤ 9223372036854775807) (hx : Units w p xs) (hy : Units w q xs) :
    Calls Try.prog 20 #[.slice p n c, .slice q n d] w fun E w' => E = .returned (.bool true) ∧ Below w.heap.size w w' := by
  have HX := Hid.in hx
  have HY := Hid.in hy
  have HN := Hid.in hn
  clear hx hy hn
  have hne : ((n : Int) != (n : Int)) = false := by simp
  go_enter Try.func20, Try.ntmps20
  go_wp2_with fail
  go_loopw [5] (fun vi wr => ∃ k : Nat, vi = .int .i64 k ∧ k ≤ n ∧ Below w.heap.size w wr) (fun vi _ => n - (intOf vi).toNat)
  case atStart => exact ⟨0, rfl, Nat.zero_le _, below_self _⟩
  case round =>
    obtain ⟨k, rfl, hk, hb⟩ := hrel
    have HB := Hid.in hb
    clear hb
    by_cases hlt : k < n
    · have hkl : k < xs.length := by rw [HN.out]; exact hlt
      obtain ⟨b, o, hp, hc⟩ := HX.out.below HB.out (by omega)
      obtain ⟨pb, ps, pf, pm, cb, cs, cf, cm, ⟨c0, c1, c2, c3⟩, hI⟩ := hc k hkl
      obtain ⟨b', o', hq, hc'⟩ := HY.out.below HB.out (by omega)
      obtain ⟨qb, qs, qf, qm, db, ds, df, dm, ⟨e0, e1, e2, e3⟩, hJ⟩ := hc' k hkl
      subst hp hq
      have hS := fun W (k1 : ObIn W xs[k] pb ps pf pm xs[k].bs.length cb xs[k].sy.length cs xs[k].fx.length cf xs[k].mk_.length cm) (k2 : ObIn W xs[k] qb qs qf qm xs[k].bs.length db xs[k].sy.length ds xs[k].fx.length df xs[k].mk_.length dm) => sameObject_any xs[k] xs[k] _ _ _ _ _ _ _ _ _ _ _ _ _ _ _ _ _ _ _ _ _ _ _ _ W k1 k2
      rw [show eqB (xs[k] = xs[k]) = true from (eqB_iff _).2 rfl] at hS
      have HI := Hid.in hI
      have HJ := Hid.in hJ
      clear hc hc' hI hJ
      generalize xs[k] = x at *
      go_upto_region 6 with fail
      go_region_held3 (fun W => (W.cell? ⟨b, o + k * 4, none⟩ = some (.slice pb x.bs.length cb) ∧ W.cell? ⟨b, o + k * 4 + 1, none⟩ = some (.slice ps x.sy.length cs) ∧ W.cell? ⟨b, o + k * 4 + 2, none⟩ = some (.slice pf x.fx.length cf) ∧ W.cell? ⟨b, o + k * 4 + 3, none⟩ = some (.slice pm x.mk_.length cm)) ∧ W.cell? ⟨b', o' + k * 4, none⟩ = some (.slice qb x.bs.length db) ∧ W.cell? ⟨b', o' + k * 4 + 1, none⟩ = some (.slice qs x.sy.length ds) ∧ W.cell? ⟨b', o' + k * 4 + 2, none⟩ = some (.slice qf x.fx.length df) ∧ W.cell? ⟨b', o' + k * 4 + 3, none⟩ = some (.slice qm x.mk_.length dm)) (first | go_keep | exact hk1)
        (first
          | (go_at_call 37; refine (hS _ (HI.out.below (below_draws (below_self wr) 1)) (HJ.out.below (below_draws (below_self wr) 1))).mono ?_; rintro E w1 ⟨rfl, hb1⟩; have HB1 := Hid.in (below_step (below_draws HB.out 1) hb1); have HD1 := below_step (below_draws (below_self wr) 1) hb1; have hk1 : (w1.cell? ⟨b, o + k * 4, none⟩ = some (.slice pb x.bs.length cb) ∧ w1.cell? ⟨b, o + k * 4 + 1, none⟩ = some (.slice ps x.sy.length cs) ∧ w1.cell? ⟨b, o + k * 4 + 2, none⟩ = some (.slice pf x.fx.length cf) ∧ w1.cell? ⟨b, o + k * 4 + 3, none⟩ = some (.slice pm x.mk_.length cm)) ∧ w1.cell? ⟨b', o' + k * 4, none⟩ = some (.slice qb x.bs.length db) ∧ w1.cell? ⟨b', o' + k * 4 + 1, none⟩ = some (.slice qs x.sy.length ds) ∧ w1.cell? ⟨b', o' + k * 4 + 2, none⟩ = some (.slice qf x.fx.length df) ∧ w1.cell? ⟨b', o' + k * 4 + 3, none⟩ = some (.slice qm x.mk_.length dm) := ⟨⟨(HD1.cell (cell_lt c0)).trans c0, (HD1.cell (cell_lt c1)).trans c1, (HD1.cell (cell_lt c2)).trans c2, (HD1.cell (cell_lt c3)).trans c3⟩, (HD1.cell (cell_lt e0)).trans e0, (HD1.cell (cell_lt e1)).trans e1, (HD1.cell (cell_lt e2)).trans e2, (HD1.cell (cell_lt e3)).trans e3⟩; clear hb1 HD1))
      go_wp2_with fail
      go_roundw
      case rel => exact ⟨k + 1, by go_num, by omega, HB1.out⟩
      case measure => simp [intOf]; omega
    · go_wp2_with fail
      go_ret
      exact ⟨rfl, HB.out⟩

end Go.Proofs.Ytnmcdkhfjkpklaa

/- switchyardkit.CopyObject, of lists as great as an argument may be. -/
namespace Go.Proofs.Ytnmcdkhfjkpklaa
open Go.RowKit

abbrev noObj : Array Value := #[.slice none 0 0, .slice none 0 0, .slice none 0 0, .slice none 0 0]
theorem Try.sz39 : (Try.prog.info? 39).map (·.size) = some noObj.size := by kernel_rfl
theorem Blk.load {w : World} {g : Nat} {T : TypeId} {c : Array Value} (hB : Blk w g T c) (t : TypeId) (d : TypeDesc) (hu : Try.prog.underlying t = some d) (hd : d.isRow = true) (hi : (Try.prog.info? t).map (·.size) = some c.size) :
    (loadVar t ⟨g, 0, none⟩).run Try.prog w = .ok (.agg c) w := by
  have := run_loadVar_mid (P := Try.prog) w g 0 t c.toList d hB.range hu hd (by rw [hi, Array.length_toList])
  simpa using this
theorem TOwn.far {T : TypeId} {w : World} {B g : Nat} {v : Value} {L : List V3} (h : TOwn T w B v L) (hg : g < B) : v = .slice none 0 0 ∨ v.ownBlock ≠ some g := by
  rcases h.2 with ⟨e1, _⟩ | ⟨g', cap, cur, e1, e2, _⟩
  · exact .inl e1
  · refine .inr ?_
    rw [e1]
    simp only [Value.ownBlock]
    intro ee
    injection ee with ee
    have : g' = g := ee
    omega
theorem TOwn.lower {T : TypeId} {w : World} {B B' : Nat} {v : Value} {L : List V3} (h : TOwn T w B v L) (hB : B' ≤ B) : TOwn T w B' v L := by
  obtain ⟨h0, h1⟩ := h
  refine ⟨h0, h1.imp id ?_⟩
  rintro ⟨g, cap, cur, e1, e2, e3⟩
  exact ⟨g, cap, cur, e1, Nat.le_trans hB e2, e3⟩
/-- an object that a call has made: its lists in blocks of its own -/
structure ObOwn (w : World) (B : Nat) (o : Ob) (vb vs vf vm : Value) : Prop where
  b : OwnV w B vb o.bs
  s : TOwn 34 w B vs (o.sy.map syV)
  f : TOwn 74 w B vf (o.fx.map fxV)
  m : TOwn 77 w B vm (o.mk_.map mkV)
theorem ObOwn.below {w w' : World} {B : Nat} {o : Ob} {vb vs vf vm : Value} (h : ObOwn w B o vb vs vf vm) (hb : Below w.heap.size w w') : ObOwn w' B o vb vs vf vm := ⟨h.b.below hb, h.s.below hb, h.f.below hb, h.m.below hb⟩
theorem OwnV.low {w : World} {B B' : Nat} {v : Value} {xs : List Int} (h : OwnV w B v xs) (hB : B' ≤ B) : OwnV w B' v xs := by
  rcases h.shape with ⟨rfl, rfl⟩ | ⟨g, cap, rfl, ho⟩
  · exact OwnV.nil _ _
  · exact ho.lower hB
theorem ObOwn.lower {w : World} {B B' : Nat} {o : Ob} {vb vs vf vm : Value} (h : ObOwn w B o vb vs vf vm) (hB : B' ≤ B) : ObOwn w B' o vb vs vf vm := ⟨h.b.low hB, h.s.lower hB, h.f.lower hB, h.m.lower hB⟩
theorem OwnV.slice2 {w : World} {B : Nat} {v : Value} {xs : List Int} (h : OwnV w B v xs) : ∃ p cap, v = .slice p xs.length cap ∧ Row w p xs ∧ xs.length ≤ cap ∧ cap ≤ maxLen := by
  rcases h.shape with ⟨rfl, rfl⟩ | ⟨g, cap, rfl, ho⟩
  · exact ⟨none, 0, rfl, fun h => absurd h (Nat.lt_irrefl 0), Nat.le_refl _, Nat.zero_le _⟩
  · obtain ⟨cur, _, _, h3, h4, _⟩ := ho.parts
    exact ⟨_, cap, rfl, ho.row, h3, h4⟩
/-- .. seen as one in memory -/
theorem ObOwn.inn {w : World} {B : Nat} {o : Ob} {vb vs vf vm : Value} (h : ObOwn w B o vb vs vf vm) (hf : ObF o) :
    ∃ pb ps pf pm cb cs cf cm, (vb = .slice pb o.bs.length cb ∧ vs = .slice ps o.sy.length cs ∧ vf = .slice pf o.fx.length cf ∧ vm = .slice pm o.mk_.length cm) ∧ ObIn w o pb ps pf pm o.bs.length cb o.sy.length cs o.fx.length cf o.mk_.length cm := by
  obtain ⟨pb, cb, e1, r1, k1, m1⟩ := h.b.slice2
  obtain ⟨ps, cs, e2, k2, m2, r2⟩ := h.s.row3
  obtain ⟨pf, cf, e3, k3, m3, r3⟩ := h.f.row3
  obtain ⟨pm, cm, e4, k4, m4, r4⟩ := h.m.row3
  rw [List.length_map] at e2 k2 e3 k3 e4 k4
  exact ⟨pb, ps, pf, pm, cb, cs, cf, cm, ⟨e1, e2, e3, e4⟩, ⟨rfl, rfl, rfl, rfl, k1, m1, Nat.le_trans k2 m2, Nat.le_trans k3 m3, Nat.le_trans k4 m4, r1, r2, r3, r4, hf⟩⟩

theorem OwnV.keptFar {w w' : World} {B g : Nat} {v : Value} {xs : List Int} (h : OwnV w B v xs) (hg : w.grownBy w' (some g)) (hB : g < B) : OwnV w' B v xs := by
  rcases h.shape with ⟨rfl, rfl⟩ | ⟨g', cap, rfl, ho⟩
  · exact OwnV.nil _ _
  · refine World.ownsRow.kept h hg (.inr (fun e => ?_))
    have e' : some g' = some g := e
    injection e' with e'
    have := ho.base
    omega

/-- 'append(l, x)', as far as memory goes -/
theorem tpushV {ops : Array Oper} {rest : List Oper} {o : Oper} {a : Act} {Q : Exit → Act → World → Prop} {t T : TypeId} {by_ : Nat} (he : Elem3 t T by_) (w : World) (hgd : o.guard = none) (s x : Operand)
    (ho : o.op = .call { callee := .builtin .append, args := #[s, x], argTypes := #[t, t] }) (B : Nat) (v : Value) (L : List V3) (hs : a.eval s = v) (hown : TOwn T w B v L)
    (ad : Addr) (c : Nat) (q : V3) (hq : one3 q) (hx : a.eval x = .slice (some ad) 1 c) (hnews : ∀ j u, (l3 q)[j]? = some u → w.cell? (ad.add j) = some u)
    (hlen : L.length ≤ 4398046511000) (hby : (L.length + 1) * by_ ≤ 140737488355328) (hB : B ≤ w.heap.size)
    (h : ∀ v' w', TOwn T w' B v' (L ++ [q]) → w.grownBy w' v.ownBlock → (∀ w0, Below B w0 w → Below B w0 w') → wpList Try.prog ops Q rest (a.put o.dst v') w') :
    wpList Try.prog ops Q (o :: rest) a w := by
  obtain ⟨hu, z, hzc, hinfo⟩ := he
  obtain ⟨i0, hi, hz0, hz1, hz2⟩ := info_parts hinfo
  refine wpList_append_own w hgd s x t ho B T i0 z 3 by_ hu hi hz0 hz1 hz2 hzc (by decide) v L.length (c3 L) hs hown ad 1 c (l3 q) hx rfl hnews (one3_mem hq) (by unfold maxLen; omega) hby hB ?_
  intro v' w' h2 h3 _
  refine h v' w' ?_ h3 (fun w0 hb => hb.grown h3 hB fun k hk => (World.ownsRow.lt hown k hk).1)
  unfold TOwn
  rw [List.length_append, c3_two]
  have e : c3 [q] = l3 q := by simp [c3]
  rw [e]
  exact h2

set_option maxRecDepth 20000 in
set_option maxHeartbeats 1000000 in
theorem copySymsV_any (p : Option Addr) (n c : Nat) (L : List Sy) (w : World) (hn : L.length = n) (hn6 : n ≤ 4398046510976) (h1 : Row3 w p (L.map syV)) :
    Calls Try.prog 26 #[.slice p n c] w fun E w' => ∃ v, E = .returned v ∧ TOwn 34 w' w.heap.size v (L.map syV) ∧ Below w.heap.size w w' := by
  have HL := Hid.in hn
  have H1 := Hid.in h1
  clear hn h1
  go_enter Try.func26, Try.ntmps26
  go_wp2_with fail
  go_loopw [3, 4] (fun v vi wr => ∃ k : Nat, vi = .int .i64 k ∧ k ≤ n ∧ TOwn 34 wr w.heap.size v ((L.take k).map syV) ∧ Below w.heap.size w wr) (fun _ vi _ => n - (intOf vi).toNat)
  case atStart => exact ⟨0, rfl, Nat.zero_le _, TOwn.nil _ _ _, below_self _⟩
  case round =>
    obtain ⟨k, rfl, hk, hT, hb⟩ := hrel
    have HT := Hid.in hT
    have HB := Hid.in hb
    have hlen : ((L.take k).map syV).length = k := by rw [List.length_map, List.length_take, HL.out]; omega
    obtain ⟨pv, cv, hv, -, -, -⟩ := hT.shape
    rw [hlen] at hv
    subst hv
    have HLEN := Hid.in hlen
    clear hT hb hlen
    by_cases hlt : k < n
    · have hk1 : k < L.length := by rw [HL.out]; exact hlt
      obtain ⟨b, o, rfl, hc⟩ := (H1.out.below HB.out) (by rw [List.length_map]; omega)
      obtain ⟨c0, c1, c2⟩ := cells3 hc k (by rw [List.length_map]; exact hk1)
      simp only [List.getElem_map, syV] at c0 c1 c2
      have HTK : Hid ((L.take (k + 1)).map syV = (L.take k).map syV ++ [syV L[k]]) := by
        rw [List.take_succ_eq_append_getElem hk1, List.map_append]; exact rfl
      clear hc
      generalize (L.take k).map syV = LQ at *
      generalize L[k] = x at *
      have hl1 : LQ.length ≤ 4398046511000 := by have := HLEN.out; omega
      have hl2 : (LQ.length + 1) * 32 ≤ 140737488355328 := by have := HLEN.out; omega
      go_wp2_with (refine tpushV Try.elemSym _ rfl _ _ rfl w.heap.size _ LQ rfl (HT.out.alloc _) ⟨wr.heap.size, 0, none⟩ 1 (.string x.name, .int .i64 x.at_, .bool x.g) ⟨rfl, rfl, rfl⟩ rfl (news3 _ _ _) hl1 hl2 (by have := HB.out.size; simp; omega) ?_; intro v5 w5 hT5 hg5 hb5; have HT5 := Hid.in hT5; have HB5 := Hid.in (hb5 w (below_alloc HB.out _)); clear hT5 hg5 hb5)
      go_roundw
      case rel => exact ⟨k + 1, by go_num, by omega, by rw [HTK.out]; exact HT5.out, HB5.out⟩
      case measure => simp [intOf]; omega
    · have hkn : k = n := by omega
      subst hkn
      have HR : Hid ((L.take k).map syV = L.map syV) := by
        rw [List.take_of_length_le (by rw [HL.out]; exact Nat.le_refl _)]; exact rfl
      rw [HR.out] at HT
      go_wp2_with fail
      go_ret
      exact ⟨_, rfl, HT.out, HB.out⟩

set_option maxRecDepth 20000 in
set_option maxHeartbeats 1000000 in
theorem copyFixesV_any (p : Option Addr) (n c : Nat) (L : List Fx) (w : World) (hn : L.length = n) (hn6 : n ≤ 4398046510976) (h1 : Row3 w p (L.map fxV)) :
    Calls Try.prog 46 #[.slice p n c] w fun E w' => ∃ v, E = .returned v ∧ TOwn 74 w' w.heap.size v (L.map fxV) ∧ Below w.heap.size w w' := by
  have HL := Hid.in hn
  have H1 := Hid.in h1
  clear hn h1
  go_enter Try.func46, Try.ntmps46
  go_wp2_with fail
  go_loopw [3, 4] (fun v vi wr => ∃ k : Nat, vi = .int .i64 k ∧ k ≤ n ∧ TOwn 74 wr w.heap.size v ((L.take k).map fxV) ∧ Below w.heap.size w wr) (fun _ vi _ => n - (intOf vi).toNat)
  case atStart => exact ⟨0, rfl, Nat.zero_le _, TOwn.nil _ _ _, below_self _⟩
  case round =>
    obtain ⟨k, rfl, hk, hT, hb⟩ := hrel
    have HT := Hid.in hT
    have HB := Hid.in hb
    have hlen : ((L.take k).map fxV).length = k := by rw [List.length_map, List.length_take, HL.out]; omega
    obtain ⟨pv, cv, hv, -, -, -⟩ := hT.shape
    rw [hlen] at hv
    subst hv
    have HLEN := Hid.in hlen
    clear hT hb hlen
    by_cases hlt : k < n
    · have hk1 : k < L.length := by rw [HL.out]; exact hlt
      obtain ⟨b, o, rfl, hc⟩ := (H1.out.below HB.out) (by rw [List.length_map]; omega)
      obtain ⟨c0, c1, c2⟩ := cells3 hc k (by rw [List.length_map]; exact hk1)
      simp only [List.getElem_map, fxV] at c0 c1 c2
      have HTK : Hid ((L.take (k + 1)).map fxV = (L.take k).map fxV ++ [fxV L[k]]) := by
        rw [List.take_succ_eq_append_getElem hk1, List.map_append]; exact rfl
      clear hc
      generalize (L.take k).map fxV = LQ at *
      generalize L[k] = x at *
      have hl1 : LQ.length ≤ 4398046511000 := by have := HLEN.out; omega
      have hl2 : (LQ.length + 1) * 32 ≤ 140737488355328 := by have := HLEN.out; omega
      go_wp2_with (refine tpushV Try.elemFix _ rfl _ _ rfl w.heap.size _ LQ rfl (HT.out.alloc _) ⟨wr.heap.size, 0, none⟩ 1 (.int .u8 x.k, .int .i64 x.at_, .string x.name) ⟨rfl, rfl, rfl⟩ rfl (news3 _ _ _) hl1 hl2 (by have := HB.out.size; simp; omega) ?_; intro v5 w5 hT5 hg5 hb5; have HT5 := Hid.in hT5; have HB5 := Hid.in (hb5 w (below_alloc HB.out _)); clear hT5 hg5 hb5)
      go_roundw
      case rel => exact ⟨k + 1, by go_num, by omega, by rw [HTK.out]; exact HT5.out, HB5.out⟩
      case measure => simp [intOf]; omega
    · have hkn : k = n := by omega
      subst hkn
      have HR : Hid ((L.take k).map fxV = L.map fxV) := by
        rw [List.take_of_length_le (by rw [HL.out]; exact Nat.le_refl _)]; exact rfl
      rw [HR.out] at HT
      go_wp2_with fail
      go_ret
      exact ⟨_, rfl, HT.out, HB.out⟩

set_option maxRecDepth 20000 in
set_option maxHeartbeats 1000000 in
theorem copyMarksV_any (p : Option Addr) (n c : Nat) (L : List Mk) (w : World) (hn : L.length = n) (hn6 : n ≤ 3518437208780) (h1 : Row3 w p (L.map mkV)) :
    Calls Try.prog 47 #[.slice p n c] w fun E w' => ∃ v, E = .returned v ∧ TOwn 77 w' w.heap.size v (L.map mkV) ∧ Below w.heap.size w w' := by
  have HL := Hid.in hn
  have H1 := Hid.in h1
  clear hn h1
  go_enter Try.func47, Try.ntmps47
  go_wp2_with fail
  go_loopw [3, 4] (fun v vi wr => ∃ k : Nat, vi = .int .i64 k ∧ k ≤ n ∧ TOwn 77 wr w.heap.size v ((L.take k).map mkV) ∧ Below w.heap.size w wr) (fun _ vi _ => n - (intOf vi).toNat)
  case atStart => exact ⟨0, rfl, Nat.zero_le _, TOwn.nil _ _ _, below_self _⟩
  case round =>
    obtain ⟨k, rfl, hk, hT, hb⟩ := hrel
    have HT := Hid.in hT
    have HB := Hid.in hb
    have hlen : ((L.take k).map mkV).length = k := by rw [List.length_map, List.length_take, HL.out]; omega
    obtain ⟨pv, cv, hv, -, -, -⟩ := hT.shape
    rw [hlen] at hv
    subst hv
    have HLEN := Hid.in hlen
    clear hT hb hlen
    by_cases hlt : k < n
    · have hk1 : k < L.length := by rw [HL.out]; exact hlt
      obtain ⟨b, o, rfl, hc⟩ := (H1.out.below HB.out) (by rw [List.length_map]; omega)
      obtain ⟨c0, c1, c2⟩ := cells3 hc k (by rw [List.length_map]; exact hk1)
      simp only [List.getElem_map, mkV] at c0 c1 c2
      have HTK : Hid ((L.take (k + 1)).map mkV = (L.take k).map mkV ++ [mkV L[k]]) := by
        rw [List.take_succ_eq_append_getElem hk1, List.map_append]; exact rfl
      clear hc
      generalize (L.take k).map mkV = LQ at *
      generalize L[k] = x at *
      have hl1 : LQ.length ≤ 4398046511000 := by have := HLEN.out; omega
      have hl2 : (LQ.length + 1) * 40 ≤ 140737488355328 := by have := HLEN.out; omega
      go_wp2_with (refine tpushV Try.elemMark _ rfl _ _ rfl w.heap.size _ LQ rfl (HT.out.alloc _) ⟨wr.heap.size, 0, none⟩ 1 (.int .i64 x.at_, .string x.key, .string x.to_) ⟨rfl, rfl, rfl⟩ rfl (news3 _ _ _) hl1 hl2 (by have := HB.out.size; simp; omega) ?_; intro v5 w5 hT5 hg5 hb5; have HT5 := Hid.in hT5; have HB5 := Hid.in (hb5 w (below_alloc HB.out _)); clear hT5 hg5 hb5)
      go_roundw
      case rel => exact ⟨k + 1, by go_num, by omega, by rw [HTK.out]; exact HT5.out, HB5.out⟩
      case measure => simp [intOf]; omega
    · have hkn : k = n := by omega
      subst hkn
      have HR : Hid ((L.take k).map mkV = L.map mkV) := by
        rw [List.take_of_length_le (by rw [HL.out]; exact Nat.le_refl _)]; exact rfl
      rw [HR.out] at HT
      go_wp2_with fail
      go_ret
      exact ⟨_, rfl, HT.out, HB.out⟩

set_option maxRecDepth 20000 in
set_option maxHeartbeats 2000000 in
theorem copyObjectV_any (o : Ob) (pb ps pf pm : Option Addr) (nb cb ns cs nf cf nm cm : Nat) (w : World) (h : ObIn w o pb ps pf pm nb cb ns cs nf cf nm cm) (h1 : nb ≤ 140737488351232) (h2 : ns ≤ 4398046510976) (h3 : nf ≤ 4398046510976) (h4 : nm ≤ 3518437208780) :
    Calls Try.prog 35 #[.agg (obA pb ps pf pm nb cb ns cs nf cf nm cm)] w fun E w' => (∃ vb vs vf vm, E = .returned (.agg #[vb, vs, vf, vm]) ∧ ObOwn w' w.heap.size o vb vs vf vm) ∧ Below w.heap.size w w' := by
  have hB := fun W (k : ObIn W o pb ps pf pm nb cb ns cs nf cf nm cm) => copy_any pb nb cb o.bs W k.lb (by omega) k.rb
  have hS := fun W (k : ObIn W o pb ps pf pm nb cb ns cs nf cf nm cm) => copySymsV_any ps ns cs o.sy W k.ls h2 k.rs
  have hF := fun W (k : ObIn W o pb ps pf pm nb cb ns cs nf cf nm cm) => copyFixesV_any pf nf cf o.fx W k.lf h3 k.rf
  have hM := fun W (k : ObIn W o pb ps pf pm nb cb ns cs nf cf nm cm) => copyMarksV_any pm nm cm o.mk_ W k.lm h4 k.rm
  have H := Hid.in h
  clear h
  go_enter Try.func35, Try.ntmps35
  go_upto_region 1 with fail
  have HA0 : Hid (Blk ((w.alloc (.cells (obA pb ps pf pm nb cb ns cs nf cf nm cm) 39)).alloc (.cells noObj 39)) w.heap.size 39 (obA pb ps pf pm nb cb ns cs nf cf nm cm)) := (Blk.new w 39 _).grow (new_alloc _ _)
  have HB0 : Hid (Blk ((w.alloc (.cells (obA pb ps pf pm nb cb ns cs nf cf nm cm) 39)).alloc (.cells noObj 39)) (w.heap.size + 1) 39 noObj) := by
    have := Blk.new (w.alloc (.cells (obA pb ps pf pm nb cb ns cs nf cf nm cm) 39)) 39 noObj
    rw [size_one] at this
    exact this
  have HW0 : Hid (Below w.heap.size w ((w.alloc (.cells (obA pb ps pf pm nb cb ns cs nf cf nm cm) 39)).alloc (.cells noObj 39))) := below_alloc (new_alloc w _) _
  generalize (w.alloc (.cells (obA pb ps pf pm nb cb ns cs nf cf nm cm) 39)).alloc (.cells noObj 39) = w0 at *
  have a0 : w0.cell? ⟨w.heap.size, 0, none⟩ = some (.slice pb nb cb) := HA0.out.cell 0
  have a1 : w0.cell? ⟨w.heap.size, 1, none⟩ = some (.slice ps ns cs) := HA0.out.cell 1
  have a2 : w0.cell? ⟨w.heap.size, 2, none⟩ = some (.slice pf nf cf) := HA0.out.cell 2
  have a3 : w0.cell? ⟨w.heap.size, 3, none⟩ = some (.slice pm nm cm) := HA0.out.cell 3
  go_region_held3 (fun W => W.cell? ⟨w.heap.size, 0, none⟩ = some (.slice pb nb cb) ∧ W.cell? ⟨w.heap.size, 1, none⟩ = some (.slice ps ns cs) ∧ W.cell? ⟨w.heap.size, 2, none⟩ = some (.slice pf nf cf) ∧ W.cell? ⟨w.heap.size, 3, none⟩ = some (.slice pm nm cm)) (first | go_keep | exact hk1 | exact hk2 | exact hk3 | exact hk4)
    (first
      | (go_at_call 45; refine (hB _ (H.out.below (below_draws HW0.out 1))).mono ?_; rintro E w1 ⟨v1, rfl, ho1, hb1⟩; obtain ⟨p1, c1, hv1, -, -, -⟩ := ho1.slice2; subst hv1; have HW1 := Hid.in (below_step (below_draws HW0.out 1) hb1); have HC1 := Hid.in (below_step (below_draws (below_self w0) 1) hb1); have HA1 := Hid.in (HA0.out.grow HC1.out); have HB1 := Hid.in (HB0.out.grow HC1.out); have HO1 := Hid.in ho1; have hk1 : w1.cell? ⟨w.heap.size, 0, none⟩ = some (.slice pb nb cb) ∧ w1.cell? ⟨w.heap.size, 1, none⟩ = some (.slice ps ns cs) ∧ w1.cell? ⟨w.heap.size, 2, none⟩ = some (.slice pf nf cf) ∧ w1.cell? ⟨w.heap.size, 3, none⟩ = some (.slice pm nm cm) := ⟨HA1.out.cell 0, HA1.out.cell 1, HA1.out.cell 2, HA1.out.cell 3⟩; clear ho1 hb1)
      | (go_at_call 26; refine (hS _ (H.out.below HW1.out)).mono ?_; rintro E w2 ⟨v2, rfl, ho2, hb2⟩; obtain ⟨p2, c2, hv2, -, -, -⟩ := ho2.shape; rw [List.length_map] at hv2; subst hv2; have HW2 := Hid.in (below_step HW1.out hb2); have HA2 := Hid.in (HA1.out.grow hb2); have HB2 := Hid.in (HB1.out.grow hb2); have HO2 := Hid.in (HO1.out.below hb2); have HS2 := Hid.in ho2; have hk2 : w2.cell? ⟨w.heap.size, 0, none⟩ = some (.slice pb nb cb) ∧ w2.cell? ⟨w.heap.size, 1, none⟩ = some (.slice ps ns cs) ∧ w2.cell? ⟨w.heap.size, 2, none⟩ = some (.slice pf nf cf) ∧ w2.cell? ⟨w.heap.size, 3, none⟩ = some (.slice pm nm cm) := ⟨HA2.out.cell 0, HA2.out.cell 1, HA2.out.cell 2, HA2.out.cell 3⟩; clear ho2 hb2)
      | (go_at_call 46; refine (hF _ (H.out.below HW2.out)).mono ?_; rintro E w3 ⟨v3, rfl, ho3, hb3⟩; obtain ⟨p3, c3', hv3, -, -, -⟩ := ho3.shape; rw [List.length_map] at hv3; subst hv3; have HW3 := Hid.in (below_step HW2.out hb3); have HA3 := Hid.in (HA2.out.grow hb3); have HB3 := Hid.in (HB2.out.grow hb3); have HO3 := Hid.in (HO2.out.below hb3); have HS3 := Hid.in (HS2.out.below hb3); have HF3 := Hid.in ho3; have hk3 : w3.cell? ⟨w.heap.size, 0, none⟩ = some (.slice pb nb cb) ∧ w3.cell? ⟨w.heap.size, 1, none⟩ = some (.slice ps ns cs) ∧ w3.cell? ⟨w.heap.size, 2, none⟩ = some (.slice pf nf cf) ∧ w3.cell? ⟨w.heap.size, 3, none⟩ = some (.slice pm nm cm) := ⟨HA3.out.cell 0, HA3.out.cell 1, HA3.out.cell 2, HA3.out.cell 3⟩; clear ho3 hb3)
      | (go_at_call 47; refine (hM _ (H.out.below HW3.out)).mono ?_; rintro E w4 ⟨v4, rfl, ho4, hb4⟩; obtain ⟨p4, c4, hv4, -, -, -⟩ := ho4.shape; rw [List.length_map] at hv4; subst hv4; have HW4 := Hid.in (below_step HW3.out hb4); have HA4 := Hid.in (HA3.out.grow hb4); have HB4 := Hid.in (HB3.out.grow hb4); have HO4 := Hid.in (HO3.out.below hb4); have HS4 := Hid.in (HS3.out.below hb4); have HF4 := Hid.in (HF3.out.below hb4); have HM4 := Hid.in ho4; have hk4 : w4.cell? ⟨w.heap.size, 0, none⟩ = some (.slice pb nb cb) ∧ w4.cell? ⟨w.heap.size, 1, none⟩ = some (.slice ps ns cs) ∧ w4.cell? ⟨w.heap.size, 2, none⟩ = some (.slice pf nf cf) ∧ w4.cell? ⟨w.heap.size, 3, none⟩ = some (.slice pm nm cm) := ⟨HA4.out.cell 0, HA4.out.cell 1, HA4.out.cell 2, HA4.out.cell 3⟩; have e0 : w4.cell? ⟨w.heap.size + 1, 0, none⟩ = some (.slice none 0 0) := HB4.out.cell 0; have z0 : w4.frozen? ⟨w.heap.size + 1, 0, none⟩ = false := HB4.out.free 0; have e1 : w4.cell? ⟨w.heap.size + 1, 1, none⟩ = some (.slice none 0 0) := HB4.out.cell 1; have z1 : w4.frozen? ⟨w.heap.size + 1, 1, none⟩ = false := HB4.out.free 1; have e2 : w4.cell? ⟨w.heap.size + 1, 2, none⟩ = some (.slice none 0 0) := HB4.out.cell 2; have z2 : w4.frozen? ⟨w.heap.size + 1, 2, none⟩ = false := HB4.out.free 2; have e3 : w4.cell? ⟨w.heap.size + 1, 3, none⟩ = some (.slice none 0 0) := HB4.out.cell 3; have z3 : w4.frozen? ⟨w.heap.size + 1, 3, none⟩ = false := HB4.out.free 3; clear ho4 hb4))
  have HB5 : Hid (Blk ((((w4.setCell ⟨w.heap.size + 1, 0, none⟩ (.slice p1 o.bs.length c1)).setCell ⟨w.heap.size + 1, 1, none⟩ (.slice p2 o.sy.length c2)).setCell ⟨w.heap.size + 1, 2, none⟩ (.slice p3 o.fx.length c3')).setCell ⟨w.heap.size + 1, 3, none⟩ (.slice p4 o.mk_.length c4)) (w.heap.size + 1) 39 #[.slice p1 o.bs.length c1, .slice p2 o.sy.length c2, .slice p3 o.fx.length c3', .slice p4 o.mk_.length c4]) := HB4.out.setAll #[.slice p1 o.bs.length c1, .slice p2 o.sy.length c2, .slice p3 o.fx.length c3', .slice p4 o.mk_.length c4] rfl
  have HG5 : Hid (w4.grownBy ((((w4.setCell ⟨w.heap.size + 1, 0, none⟩ (.slice p1 o.bs.length c1)).setCell ⟨w.heap.size + 1, 1, none⟩ (.slice p2 o.sy.length c2)).setCell ⟨w.heap.size + 1, 2, none⟩ (.slice p3 o.fx.length c3')).setCell ⟨w.heap.size + 1, 3, none⟩ (.slice p4 o.mk_.length c4)) (some (w.heap.size + 1))) := grown_setCells (w.heap.size + 1) [.slice p1 o.bs.length c1, .slice p2 o.sy.length c2, .slice p3 o.fx.length c3', .slice p4 o.mk_.length c4] 0 w4
  generalize ((((w4.setCell ⟨w.heap.size + 1, 0, none⟩ (.slice p1 o.bs.length c1)).setCell ⟨w.heap.size + 1, 1, none⟩ (.slice p2 o.sy.length c2)).setCell ⟨w.heap.size + 1, 2, none⟩ (.slice p3 o.fx.length c3')).setCell ⟨w.heap.size + 1, 3, none⟩ (.slice p4 o.mk_.length c4)) = w5 at *
  clear e0 e1 e2 e3 z0 z1 z2 z3 hk1 hk2 hk3 hk4 a0 a1 a2 a3 hB hS hF hM
  have l1 : w.heap.size + 1 < w1.heap.size := HB1.out.lt
  have l0 : w.heap.size + 1 < w0.heap.size := HB0.out.lt
  have l2 : w.heap.size + 1 < w2.heap.size := HB2.out.lt
  have l3 : w.heap.size + 1 < w3.heap.size := HB3.out.lt
  go_wp2_with fail
  have hld := HB5.out.load 39 _ Try.underlying39 rfl Try.sz39
  have hB7 := HW4.out.grown HG5.out HW4.out.size (fun k hk => by cases hk; exact Nat.le_succ _)
  exact bodyPost_ret (v := .agg #[.slice p1 o.bs.length c1, .slice p2 o.sy.length c2, .slice p3 o.fx.length c3', .slice p4 o.mk_.length c4]) (by simp [results, Try.results35, asAddr, hld]) rfl
    ⟨⟨_, _, _, _, rfl, ⟨(HO4.out.keptFar HG5.out l0).low (show w.heap.size ≤ w0.heap.size by omega), TOwn.lower (kept_row HS4.out HG5.out (HS4.out.far l1)) (by omega), TOwn.lower (kept_row HF4.out HG5.out (HF4.out.far l2)) (by omega), TOwn.lower (kept_row HM4.out HG5.out (HM4.out.far l3)) (by omega)⟩⟩, hB7⟩

end Go.Proofs.Ytnmcdkhfjkpklaa

/- Lists of units that a call has made; switchyardkit.CopyObjects. -/
namespace Go.Proofs.Ytnmcdkhfjkpklaa
open Go.RowKit

abbrev V4 : Type := Value × Value × Value × Value
def l4 (q : V4) : List Value := [q.1, q.2.1, q.2.2.1, q.2.2.2]
/-- the cells of a list of such elements -/
def c4 (L : List V4) : List Value := L.flatMap l4
theorem c4_len (L : List V4) : (c4 L).length = L.length * 4 := by
  induction L with
  | nil => rfl
  | cons q L ih =>
    unfold c4 at *
    rw [List.flatMap_cons, List.length_append, ih, List.length_cons]
    have : (l4 q).length = 4 := rfl
    omega
theorem c4_two (L M : List V4) : c4 (L ++ M) = c4 L ++ c4 M := by simp [c4]
theorem c4_at : ∀ (L : List V4) (i : Nat) (h : i < L.length) (j : Nat), j < 4 → (c4 L)[i * 4 + j]? = (l4 L[i])[j]?
  | [], i, h, _, _ => absurd h (by simp)
  | q :: L, 0, _, j, hj => by
    unfold c4
    rw [List.flatMap_cons, Nat.zero_mul, Nat.zero_add, List.getElem?_append_left (by show j < 4; exact hj)]
    rfl
  | q :: L, i + 1, h, j, hj => by
    have h' : i < L.length := by simpa using h
    have ih := c4_at L i h' j hj
    unfold c4 at *
    have h3 : (l4 q).length = 4 := rfl
    rw [List.flatMap_cons, List.getElem?_append_right (by rw [h3]; omega), h3, show (i + 1) * 4 + j - 4 = i * 4 + j by omega, ih]
    rfl
/-- a row of units, nil or not -/
def QOwn (w : World) (B : Nat) (v : Value) (L : List V4) : Prop := w.ownsRow B 39 4 v L.length (c4 L)
theorem QOwn.nil (w : World) (B : Nat) : QOwn w B (.slice none 0 0) [] := World.ownsRow_nil _ _ _ _
theorem QOwn.below {w w' : World} {B : Nat} {v : Value} {L : List V4} (h : QOwn w B v L) (hb : Below w.heap.size w w') : QOwn w' B v L := by
  obtain ⟨h0, h1⟩ := h
  refine ⟨h0, h1.imp id ?_⟩
  rintro ⟨g, cap, cur, e1, e2, e3, e4⟩
  exact ⟨g, cap, cur, e1, e2, (hb.block g (Array.getElem?_eq_some_iff.1 e3).1).trans e3, e4⟩
theorem QOwn.shape {w : World} {B : Nat} {v : Value} {L : List V4} (h : QOwn w B v L) : ∃ p cap, v = .slice p L.length cap ∧ L.length ≤ cap ∧ cap ≤ maxLen ∧ (0 < L.length → ∃ g, p = some ⟨g, 0, none⟩ ∧ B ≤ g ∧ g < w.heap.size ∧ ∀ i (hi : i < L.length) j, j < 4 → w.cell? ⟨g, i * 4 + j, none⟩ = (l4 L[i])[j]?) := by
  rcases h.2 with ⟨e1, e2⟩ | ⟨g, cap, cur, e1, e2, e3, e4, e5, _⟩
  · exact ⟨none, 0, by rw [e1, e2], by omega, Nat.zero_le _, fun h0 => by omega⟩
  · refine ⟨_, cap, e1, e4, e5, fun _ => ⟨g, rfl, e2, (Array.getElem?_eq_some_iff.1 e3).1, fun i hi j hj => ?_⟩⟩
    have hr : w.ownsRow B 39 4 v L.length (c4 L) := h
    rw [e1] at hr
    rw [hr.cellAt (i * 4 + j) (by omega), c4_at L i hi j hj]
def one4 (q : V4) : Prop := q.1.oneCell' = true ∧ q.2.1.oneCell' = true ∧ q.2.2.1.oneCell' = true ∧ q.2.2.2.oneCell' = true
theorem one4_mem {q : V4} (h : one4 q) : ∀ u ∈ l4 q, u.oneCell' = true := by
  intro u hu
  simp only [l4, List.mem_cons, List.not_mem_nil, or_false] at hu
  rcases hu with rfl | rfl | rfl | rfl
  · exact h.1
  · exact h.2.1
  · exact h.2.2.1
  · exact h.2.2.2
theorem news4 (w : World) (q : V4) (T : TypeId) : ∀ j u, (l4 q)[j]? = some u → (w.alloc (.cells #[q.1, q.2.1, q.2.2.1, q.2.2.2] T)).cell? ((⟨w.heap.size, 0, none⟩ : Addr).add j) = some u := by
  intro j u hj
  rw [Go.WideShapes.add_plain]
  match j, hj with
  | 0, hj => simpa [l4] using hj
  | 1, hj => simpa [l4] using hj
  | 2, hj => simpa [l4] using hj
  | 3, hj => simpa [l4] using hj
  | j + 4, hj => simp [l4] at hj
theorem Try.elemOb : Try.prog.underlying 27 = some (.slice 39) ∧ ∃ z, z.cells.size = 4 ∧ (Try.prog.info? 39).map (fun i => (i.zero, i.size, i.bytes)) = some (some z, 4, 96) := ⟨Try.underlying27, .agg noObj, rfl, by kernel_rfl⟩

/-- 'append(l, x)' -/
theorem qpush {ops : Array Oper} {rest : List Oper} {o : Oper} {a : Act} {Q : Exit → Act → World → Prop} (w : World) (hgd : o.guard = none) (s x : Operand)
    (ho : o.op = .call { callee := .builtin .append, args := #[s, x], argTypes := #[27, 27] }) (B : Nat) (v : Value) (L : List V4) (hs : a.eval s = v) (hown : QOwn w B v L)
    (ad : Addr) (c : Nat) (q : V4) (hq : one4 q) (hx : a.eval x = .slice (some ad) 1 c) (hnews : ∀ j u, (l4 q)[j]? = some u → w.cell? (ad.add j) = some u)
    (hby : (L.length + 1) * 96 ≤ 140737488355328) (hB : B ≤ w.heap.size)
    (h : ∀ v' w', QOwn w' B v' (L ++ [q]) → w.grownBy w' v.ownBlock → (∀ w0, Below B w0 w → Below B w0 w') → wpList Try.prog ops Q rest (a.put o.dst v') w') :
    wpList Try.prog ops Q (o :: rest) a w := by
  obtain ⟨hu, z, hzc, hinfo⟩ := Try.elemOb
  obtain ⟨i0, hi, hz0, hz1, hz2⟩ := info_parts hinfo
  refine wpList_append_own w hgd s x 27 ho B 39 i0 z 4 96 hu hi hz0 hz1 hz2 hzc (by decide) v L.length (c4 L) hs hown ad 1 c (l4 q) hx rfl hnews (one4_mem hq) (by unfold maxLen; omega) hby hB ?_
  intro v' w' h2 h3 _
  refine h v' w' ?_ h3 (fun w0 hb => hb.grown h3 hB fun k hk => (World.ownsRow.lt hown k hk).1)
  unfold QOwn
  rw [List.length_append, c4_two]
  have e : c4 [q] = l4 q := by simp [c4]
  rw [e]
  exact h2

/-- a list of units that a call has made, with all their lists -/
def UOwn (w : World) (B : Nat) (v : Value) (xs : List Ob) : Prop :=
  ∃ L : List V4, L.length = xs.length ∧ QOwn w B v L ∧ ∀ i (h : i < xs.length), ObF xs[i] ∧ ∃ q, L[i]? = some q ∧ ObOwn w B xs[i] q.1 q.2.1 q.2.2.1 q.2.2.2
theorem UOwn.nil (w : World) (B : Nat) : UOwn w B (.slice none 0 0) [] := ⟨[], rfl, QOwn.nil _ _, fun i h => absurd h (by simp)⟩
theorem UOwn.below {w w' : World} {B : Nat} {v : Value} {xs : List Ob} (h : UOwn w B v xs) (hb : Below w.heap.size w w') : UOwn w' B v xs := by
  obtain ⟨L, h1, h2, h3⟩ := h
  refine ⟨L, h1, h2.below hb, fun i hi => ?_⟩
  obtain ⟨hf, q, hq, ho⟩ := h3 i hi
  exact ⟨hf, q, hq, ho.below hb⟩
theorem UOwn.slice {w : World} {B : Nat} {v : Value} {xs : List Ob} (h : UOwn w B v xs) : ∃ p c, v = .slice p xs.length c ∧ xs.length ≤ c ∧ c ≤ maxLen ∧ Units w p xs := by
  obtain ⟨L, h1, h2, h3⟩ := h
  obtain ⟨p, cap, e1, e2, e3, e4⟩ := h2.shape
  refine ⟨p, cap, by rw [e1, h1], by omega, e3, fun h0 => ?_⟩
  obtain ⟨g, hp, -, -, hc⟩ := e4 (by omega)
  refine ⟨g, 0, hp, fun i hi => ?_⟩
  obtain ⟨hf, q, hq, ho⟩ := h3 i hi
  have hiL : i < L.length := by omega
  obtain rfl : L[i] = q := by rw [List.getElem?_eq_getElem hiL] at hq; exact Option.some.inj hq
  obtain ⟨pb, ps, pf, pm, cb, cs, cf, cm, ⟨k1, k2, k3, k4⟩, hI⟩ := ho.inn hf
  have c0 := hc i hiL 0 (by decide)
  have c1 := hc i hiL 1 (by decide)
  have c2 := hc i hiL 2 (by decide)
  have c3 := hc i hiL 3 (by decide)
  have d0 : w.cell? ⟨g, i * 4 + 0, none⟩ = some L[i].1 := c0
  have d1 : w.cell? ⟨g, i * 4 + 1, none⟩ = some L[i].2.1 := c1
  have d2 : w.cell? ⟨g, i * 4 + 2, none⟩ = some L[i].2.2.1 := c2
  have d3 : w.cell? ⟨g, i * 4 + 3, none⟩ = some L[i].2.2.2 := c3
  rw [k1] at d0
  rw [k2] at d1
  rw [k3] at d2
  rw [k4] at d3
  refine ⟨pb, ps, pf, pm, cb, cs, cf, cm, ⟨?_, ?_, ?_, ?_⟩, hI⟩
  · rw [Nat.zero_add]; exact d0
  · rw [Nat.zero_add]; exact d1
  · rw [Nat.zero_add]; exact d2
  · rw [Nat.zero_add]; exact d3
/-- a unit's lists stay where a row of units grows -/
theorem ObOwn.keptU {w w' : World} {B B' n : Nat} {o : Ob} {vb vs vf vm v : Value} {xs : List Value} (h : ObOwn w B o vb vs vf vm) (hv : w.ownsRow B' 39 4 v n xs) (hg : w.grownBy w' v.ownBlock) : ObOwn w' B o vb vs vf vm :=
  ⟨kept_row h.b hg (rows_apart h.b hv (by decide)), kept_row h.s hg (rows_apart h.s hv (by decide)), kept_row h.f hg (rows_apart h.f hv (by decide)), kept_row h.m hg (rows_apart h.m hv (by decide))⟩
theorem UOwn.grown {w w' : World} {B : Nat} {v v' : Value} {xs : List Ob} {L : List V4} {x : Ob} {q : V4} (h1 : L.length = xs.length) (h2 : QOwn w B v L) (h3 : ∀ i (h : i < xs.length), ObF xs[i] ∧ ∃ q, L[i]? = some q ∧ ObOwn w B xs[i] q.1 q.2.1 q.2.2.1 q.2.2.2)
    (hx : ObOwn w B x q.1 q.2.1 q.2.2.1 q.2.2.2) (hf : ObF x) (hq : QOwn w' B v' (L ++ [q])) (hg : w.grownBy w' v.ownBlock) : UOwn w' B v' (xs ++ [x]) := by
  refine ⟨L ++ [q], by simp [h1], hq, fun i hi => ?_⟩
  by_cases hin : i < xs.length
  · obtain ⟨hfi, q', hq', ho⟩ := h3 i hin
    rw [List.getElem_append_left hin]
    exact ⟨hfi, q', by rw [List.getElem?_append_left (by omega)]; exact hq', ho.keptU h2 hg⟩
  · have e : i = xs.length := by simp at hi; omega
    subst e
    rw [List.getElem_append_right (Nat.le_refl _)]
    simp only [Nat.sub_self, List.getElem_cons_zero]
    exact ⟨hf, q, by rw [List.getElem?_append_right (by omega), h1]; simp, hx.keptU h2 hg⟩

set_option maxRecDepth 20000 in
set_option maxHeartbeats 4000000 in
theorem copyObjects_any (p : Option Addr) (n c : Nat) (xs : List Ob) (w : World) (hn : xs.length = n) (hn96 : n * 96 ≤ 140737488351232) (hx : Units w p xs) (hW : ∀ x ∈ xs, ObW x) :
    Calls Try.prog 17 #[.slice p n c] w fun E w' => ∃ v, E = .returned v ∧ UOwn w' w.heap.size v xs ∧ Below w.heap.size w w' := by
  have HX := Hid.in hx
  have HN := Hid.in hn
  have HW := Hid.in hW
  clear hx hn hW
  go_enter Try.func17, Try.ntmps17
  go_wp2_with fail
  go_loopw [3, 4] (fun v vi wr => ∃ k : Nat, vi = .int .i64 k ∧ k ≤ n ∧ UOwn wr w.heap.size v (xs.take k) ∧ Below w.heap.size w wr) (fun _ vi _ => n - (intOf vi).toNat)
  case atStart => exact ⟨0, rfl, Nat.zero_le _, by rw [List.take_zero]; exact UOwn.nil _ _, below_self _⟩
  case round =>
    obtain ⟨k, rfl, hk, hT, hb⟩ := hrel
    have HB := Hid.in hb
    have HT := Hid.in hT
    have hlen : (xs.take k).length = k := by rw [List.length_take, HN.out]; omega
    obtain ⟨pv, cv, hv, -, -, -⟩ := hT.slice
    rw [hlen] at hv
    subst hv
    clear hT hb
    by_cases hlt : k < n
    · have hkl : k < xs.length := by rw [HN.out]; exact hlt
      obtain ⟨b, o, hp, hc⟩ := HX.out.below HB.out (by omega)
      obtain ⟨pb, ps, pf, pm, cb, cs, cf, cm, ⟨c0, c1, c2, c3⟩, hI⟩ := hc k hkl
      subst hp
      obtain ⟨w1, w2, w3, w4⟩ := HW.out xs[k] (List.getElem_mem hkl)
      have HTK : Hid (xs.take (k + 1) = xs.take k ++ [xs[k]]) := by
        have h : xs.take (k + 1) = xs.take k ++ [xs[k]] := List.take_succ_eq_append_getElem hkl
        exact h
      have HFX := Hid.in hI.fit
      have hC := copyObjectV_any xs[k] pb ps pf pm _ cb _ cs _ cf _ cm wr hI w1 w2 w3 w4
      have HLEN := Hid.in hlen
      clear hc hI w1 w2 w3 w4 hlen
      generalize xs[k] = x at *
      go_wp2_with (first
        | (go_at_call 35; refine hC.mono ?_; rintro E w2 ⟨⟨vb, vs, vf, vm, rfl, ho2⟩, hb2⟩; obtain ⟨pb2, ps2, pf2, pm2, cb2, cs2, cf2, cm2, ⟨rfl, rfl, rfl, rfl⟩, hI2⟩ := ho2.inn HFX.out; have HO2 := Hid.in ho2; have HD2 := Hid.in hb2; have HB2 := Hid.in (below_step HB.out hb2); obtain ⟨L, hL1, hL2, hL3⟩ := HT.out.below hb2; have HL1 := Hid.in hL1; have HL2 := Hid.in hL2; have HL3 := Hid.in hL3; clear hI2 ho2 hb2 hL1 hL2 hL3)
        | (refine qpush _ rfl _ _ rfl w.heap.size _ L rfl (HL2.out.below (new_alloc _ _)) ⟨w2.heap.size, 0, none⟩ 1 (.slice pb2 x.bs.length cb2, .slice ps2 x.sy.length cs2, .slice pf2 x.fx.length cf2, .slice pm2 x.mk_.length cm2) ⟨rfl, rfl, rfl, rfl⟩ rfl (news4 _ _ _) (by have := HL1.out; have := HLEN.out; omega) (by have := HB2.out.size; simp; omega) ?_; intro v5 w5 hT5 hg5 hb5; have HU5 := Hid.in (UOwn.grown HL1.out (HL2.out.below (new_alloc w2 (.cells #[.slice pb2 x.bs.length cb2, .slice ps2 x.sy.length cs2, .slice pf2 x.fx.length cf2, .slice pm2 x.mk_.length cm2] 39))) (fun i hi => ⟨(HL3.out i hi).1, (HL3.out i hi).2.choose, (HL3.out i hi).2.choose_spec.1, (HL3.out i hi).2.choose_spec.2.below (new_alloc w2 _)⟩) ((HO2.out.lower HB.out.size).below (new_alloc w2 _)) HFX.out hT5 hg5); have HB5 := Hid.in (hb5 w (below_alloc HB2.out _)); clear hT5 hg5 hb5))
      go_roundw
      case rel => exact ⟨k + 1, by go_num, by omega, by rw [HTK.out]; exact HU5.out, HB5.out⟩
      case measure => simp [intOf]; omega
    · obtain rfl : k = n := by omega
      have HR : Hid (xs.take k = xs) := by
        have h : xs.take k = xs := List.take_of_length_le (by rw [HN.out]; exact Nat.le_refl _)
        exact h
      rw [HR.out] at HT
      go_wp2_with fail
      go_ret
      exact ⟨_, rfl, HT.out, HB.out⟩

end Go.Proofs.Ytnmcdkhfjkpklaa

/- Lists of three-cell elements (or nil) that lie apart: what stores and appends leave as it was; the states of switchyardkit's Apart functions over them. Plain facts on worlds. -/
namespace Go.Proofs.Ytnmcdkhfjkpklaa
open Go.RowKit

/-- a list of such elements, not nil -/
def TOw (T : TypeId) (w : World) (B g cap : Nat) (L : List V3) : Prop := w.ownsRow B T 3 (.slice (some ⟨g, 0, none⟩) L.length cap) L.length (c3 L)
theorem TOw.parts {T : TypeId} {w : World} {B g cap : Nat} {L : List V3} (h : TOw T w B g cap L) :
    ∃ cur, B ≤ g ∧ w.heap[g]? = some (.cells cur T (0, 0)) ∧ L.length ≤ cap ∧ cap ≤ maxLen ∧ cur.size = cap * 3 ∧ cur.toList.take (L.length * 3) = c3 L := by
  rcases h.2 with ⟨h', _⟩ | ⟨g', cap', cur, h', h1, h2, h3, h4, h5, h6⟩
  · simp at h'
  · simp only [Value.slice.injEq, Option.some.injEq, Addr.mk.injEq, and_true, true_and] at h'
    obtain ⟨rfl, rfl⟩ := h'
    exact ⟨cur, h1, h2, h3, h4, h5, h6⟩
theorem TOw.mk {T : TypeId} {w : World} {B g cap : Nat} {L : List V3} {cur : Array Value} (h1 : B ≤ g) (h2 : w.heap[g]? = some (.cells cur T (0, 0))) (h3 : L.length ≤ cap) (h4 : cap ≤ maxLen) (h5 : cur.size = cap * 3) (h6 : cur.toList.take (L.length * 3) = c3 L) : TOw T w B g cap L :=
  ⟨c3_len L, .inr ⟨g, cap, cur, rfl, h1, h2, h3, h4, h5, h6⟩⟩
theorem TOw.lt {T : TypeId} {w : World} {B g cap : Nat} {L : List V3} (h : TOw T w B g cap L) : g < w.heap.size := by
  obtain ⟨cur, _, h2, _⟩ := h.parts
  rcases Nat.lt_or_ge g w.heap.size with h | h
  · exact h
  · rw [Array.getElem?_eq_none h] at h2; cases h2
theorem TOw.base {T : TypeId} {w : World} {B g cap : Nat} {L : List V3} (h : TOw T w B g cap L) : B ≤ g := by obtain ⟨cur, h1, _⟩ := h.parts; exact h1
theorem TOw.lower {T : TypeId} {w : World} {B B' g cap : Nat} {L : List V3} (h : TOw T w B g cap L) (hB : B' ≤ g) : TOw T w B' g cap L := by
  obtain ⟨cur, _, h2, h3, h4, h5, h6⟩ := h.parts
  exact TOw.mk hB h2 h3 h4 h5 h6
theorem TOw.cell {T : TypeId} {w : World} {B g cap : Nat} {L : List V3} (h : TOw T w B g cap L) (i : Nat) (hi : i < L.length) (j : Nat) (hj : j < 3) : w.cell? ⟨g, i * 3 + j, none⟩ = (l3 L[i])[j]? := by
  have hr : w.ownsRow B T 3 (.slice (some ⟨g, 0, none⟩) L.length cap) L.length (c3 L) := h
  rw [hr.cellAt (i * 3 + j) (by omega), c3_at L i hi j hj]
theorem TOw.free {T : TypeId} {w : World} {B g cap : Nat} {L : List V3} (h : TOw T w B g cap L) (i : Nat) : w.frozen? ⟨g, i, none⟩ = false := World.ownsRow.frozenAt h i
theorem TOw.val {T : TypeId} {w : World} {B g cap : Nat} {L : List V3} (h : TOw T w B g cap L) : TOwn T w B (.slice (some ⟨g, 0, none⟩) L.length cap) L := h
theorem TOwn.form {T : TypeId} {w : World} {B : Nat} {v : Value} {L : List V3} (h : TOwn T w B v L) : (v = .slice none 0 0 ∧ L = []) ∨ ∃ g cap, v = .slice (some ⟨g, 0, none⟩) L.length cap ∧ TOw T w B g cap L := by
  rcases h.2 with ⟨h1, h2⟩ | ⟨g, cap, cur, h1, h2⟩
  · exact .inl ⟨h1, List.eq_nil_of_length_eq_zero h2⟩
  · subst h1
    exact .inr ⟨g, cap, rfl, h⟩
theorem TOwn.kept {T : TypeId} {w w' : World} {B : Nat} {v : Value} {L : List V3} {row : Option Nat} (h : TOwn T w B v L) (hg : w.grownBy w' row) (hne : v.ownBlock = none ∨ v.ownBlock ≠ row) : TOwn T w' B v L := World.ownsRow.kept h hg hne
theorem TOwn.store_other {T : TypeId} {w : World} {B : Nat} {v : Value} {L : List V3} (h : TOwn T w B v L) (b i : Nat) (u : Value) (hne : v.ownBlock ≠ some b) : TOwn T (w.setCell ⟨b, i, none⟩ u) B v L :=
  h.kept (row := some b) ⟨rfl, rfl, rfl, by simp, fun k _ hk => heap_setCell_other w ⟨b, i, none⟩ k u (fun e => hk (by simp [e]))⟩ (.inr hne)
/-- an element stored -/
def set3 (w : World) (g i : Nat) (q : V3) : World := ((w.setCell ⟨g, i * 3, none⟩ q.1).setCell ⟨g, i * 3 + 1, none⟩ q.2.1).setCell ⟨g, i * 3 + 2, none⟩ q.2.2
theorem c3_set3 : ∀ (L : List V3) (i : Nat) (q : V3), i < L.length → (((c3 L).set (i * 3) q.1).set (i * 3 + 1) q.2.1).set (i * 3 + 2) q.2.2 = c3 (L.set i q)
  | x :: L, 0, q, _ => by
    show (((l3 x ++ c3 L).set (0 * 3) q.1).set (0 * 3 + 1) q.2.1).set (0 * 3 + 2) q.2.2 = l3 q ++ c3 L
    rfl
  | x :: L, i + 1, q, h => by
    have ih := c3_set3 L i q (by simpa using h)
    have h3 : (l3 x).length = 3 := rfl
    show (((l3 x ++ c3 L).set ((i + 1) * 3) q.1).set ((i + 1) * 3 + 1) q.2.1).set ((i + 1) * 3 + 2) q.2.2 = l3 x ++ c3 (L.set i q)
    rw [List.set_append_right _ _ (by rw [h3]; omega), List.set_append_right _ _ (by rw [h3]; omega), List.set_append_right _ _ (by rw [h3]; omega), h3, show (i + 1) * 3 - 3 = i * 3 by omega, show (i + 1) * 3 + 1 - 3 = i * 3 + 1 by omega, show (i + 1) * 3 + 2 - 3 = i * 3 + 2 by omega, ih]
theorem TOw.store {T : TypeId} {w : World} {B g cap : Nat} {L : List V3} (h : TOw T w B g cap L) (i : Nat) (hi : i < L.length) (q : V3) : TOw T (set3 w g i q) B g cap (L.set i q) := by
  have h1 := (World.ownsRow.stored h (i * 3) q.1).1
  have h2 := (World.ownsRow.stored h1 (i * 3 + 1) q.2.1).1
  have h3 := (World.ownsRow.stored h2 (i * 3 + 2) q.2.2).1
  rw [c3_set3 L i q hi] at h3
  unfold TOw
  rw [List.length_set]
  exact h3
theorem set3_block (w : World) (g i : Nat) (q : V3) (k : Nat) (h : k ≠ g) : (set3 w g i q).heap[k]? = w.heap[k]? := by
  unfold set3
  rw [heap_setCell_other _ ⟨g, i * 3 + 2, none⟩ k _ h, heap_setCell_other _ ⟨g, i * 3 + 1, none⟩ k _ h, heap_setCell_other _ ⟨g, i * 3, none⟩ k _ h]
theorem TOwn.set3_other {T : TypeId} {w : World} {B : Nat} {v : Value} {L : List V3} (h : TOwn T w B v L) (b i : Nat) (q : V3) (hne : v.ownBlock ≠ some b) : TOwn T (set3 w b i q) B v L :=
  ((h.store_other b (i * 3) q.1 hne).store_other b (i * 3 + 1) q.2.1 hne).store_other b (i * 3 + 2) q.2.2 hne
theorem TabOf.set3 {e : TypeId} {w : World} {L K : Nat} {f : Nat → Value} (h : TabOf e w L K f) (b i : Nat) (q : V3) (hne : L ≠ b) : TabOf e (set3 w b i q) L K f :=
  ((h.store_other b (i * 3) q.1 hne).store_other b (i * 3 + 1) q.2.1 hne).store_other b (i * 3 + 2) q.2.2 hne
theorem Keeps.set3 {G : Nat → Prop} {a w : World} (h : Keeps G a w) (b i : Nat) (q : V3) (hb : G b ∨ a.heap.size ≤ b) : Keeps G a (set3 w b i q) :=
  ((h.setCell b (i * 3) q.1 hb).setCell b (i * 3 + 1) q.2.1 hb).setCell b (i * 3 + 2) q.2.2 hb

theorem TOwn.filled {T : TypeId} {w : World} {B : Nat} {p : Option Nat} {n c : Nat} {vs : List V3} (h : TOwn T w B (sl p n c) vs) (h0 : 0 < vs.length) : ∃ g, p = some g ∧ n = vs.length ∧ TOw T w B g c vs := by
  rcases h.form with ⟨_, e⟩ | ⟨g, cap, e, ho⟩
  · rw [e] at h0; exact absurd h0 (Nat.lt_irrefl 0)
  · cases p with
    | none => simp [sl] at e
    | some b =>
      simp [sl] at e
      obtain ⟨rfl, rfl, rfl⟩ := e
      exact ⟨b, rfl, rfl, ho⟩
theorem TOwn.full {T : TypeId} {w : World} {B g n c : Nat} {vs : List V3} (h : TOwn T w B (sl (some g) n c) vs) : n = vs.length ∧ TOw T w B g c vs := by
  rcases h.form with ⟨e, _⟩ | ⟨g', cap, e, ho⟩
  · simp [sl] at e
  · simp [sl] at e
    obtain ⟨rfl, rfl, rfl⟩ := e
    exact ⟨rfl, ho⟩
theorem TOw.caps {T T' : TypeId} {w : World} {B B' g cap cap' : Nat} {xs ys : List V3} (h : TOw T w B g cap xs) (h' : TOw T' w B' g cap' ys) : cap = cap' := by
  obtain ⟨cur, _, h2, _, _, h5, _⟩ := h.parts
  obtain ⟨cur', _, h2', _, _, h5', _⟩ := h'.parts
  rw [h2] at h2'
  cases h2'
  omega
theorem TOw.front {T : TypeId} {w : World} {B g cap : Nat} {xs ys : List V3} (h : TOw T w B g cap (xs ++ ys)) : TOw T w B g cap xs := by
  obtain ⟨cur, h1, h2, h3, h4, h5, h6⟩ := h.parts
  rw [List.length_append] at h3
  refine TOw.mk h1 h2 (by omega) h4 h5 ?_
  have e : cur.toList.take (xs.length * 3) = (cur.toList.take ((xs ++ ys).length * 3)).take (xs.length * 3) := by
    rw [List.take_take, List.length_append, Nat.min_eq_left (by omega)]
  rw [e, h6, c3_two, ← c3_len xs, List.take_left]

theorem TabOf.ne3 {e T : TypeId} (hT : T ≠ e) {w : World} {L K : Nat} {f : Nat → Value} (h : TabOf e w L K f) {B n c : Nat} {p : Option Nat} {vs : List V3} (ho : TOwn T w B (sl p n c) vs) : p ≠ some L := fun he => by
  subst he
  obtain ⟨cur, _, h2, _⟩ := ho.full.2.parts
  unfold TabOf at h
  rw [h2] at h
  injection h with h
  injection h with _ h
  exact hT h
/-- lists apart: each in a block of its own, or nil -/
def AllOwn3 (T : TypeId) (w : World) (B K : Nat) (p : Nat → Option Nat) (n c : Nat → Nat) (ct : Nat → List V3) : Prop := ∀ j, j < K → TOwn T w B (sl (p j) (n j) (c j)) (ct j)
theorem AllOwn3.kept {T : TypeId} {w w' : World} {B K : Nat} {p : Nat → Option Nat} {n c : Nat → Nat} {ct : Nat → List V3} {row : Option Nat} (h : AllOwn3 T w B K p n c ct) (hg : w.grownBy w' row) (hne : ∀ j, j < K → p j = none ∨ p j ≠ row) : AllOwn3 T w' B K p n c ct :=
  fun j hj => (h j hj).kept hg (by rw [sl_block]; exact hne j hj)
theorem AllOwn3.store_other {T : TypeId} {w : World} {B K : Nat} {p : Nat → Option Nat} {n c : Nat → Nat} {ct : Nat → List V3} (h : AllOwn3 T w B K p n c ct) (b i : Nat) (v : Value) (hne : ∀ j, j < K → p j ≠ some b) : AllOwn3 T (w.setCell ⟨b, i, none⟩ v) B K p n c ct :=
  fun j hj => (h j hj).store_other b i v (by rw [sl_block]; exact hne j hj)
theorem AllOwn3.store {T : TypeId} {w : World} {B K : Nat} {p : Nat → Option Nat} {n c : Nat → Nat} {ct ct' : Nat → List V3} (h : AllOwn3 T w B K p n c ct) (ha : Apart K p) (k i g : Nat) (hk : k < K) (hp : p k = some g) (hi : i < (ct k).length) (z : V3) (h1 : ct' k = (ct k).set i z) (h2 : ∀ j, j ≠ k → ct' j = ct j) : AllOwn3 T (set3 w g i z) B K p n c ct' := fun j hj => by
  by_cases e : j = k
  · subst e
    have ho := h j hj
    rw [hp] at ho
    obtain ⟨hn, ho2⟩ := ho.full
    rw [h1, hp, sl_some, hn]
    have := ho2.store i hi z
    have h3 : TOwn T (set3 w g i z) B (.slice (some ⟨g, 0, none⟩) ((ct j).set i z).length (c j)) ((ct j).set i z) := this.val
    rw [List.length_set] at h3
    exact h3
  · rw [h2 j e]
    refine (h j hj).set3_other g i _ ?_
    rw [sl_block]
    rcases ha j k hj hk e with h3 | h3
    · rw [h3]; simp
    · rw [← hp]; exact h3
theorem AllOwn3.drewN {T : TypeId} {w : World} {B K : Nat} {p : Nat → Option Nat} {n c : Nat → Nat} {ct : Nat → List V3} (h : AllOwn3 T w B K p n c ct) (m : Nat) : AllOwn3 T (w.drewN m) B K p n c ct := h
theorem AllOwn3.drew {T : TypeId} {w : World} {B K : Nat} {p : Nat → Option Nat} {n c : Nat → Nat} {ct : Nat → List V3} (h : AllOwn3 T w B K p n c ct) : AllOwn3 T w.drew B K p n c ct := h

/-- the first m marks of list k -/
def mkL3 (mk : Nat → Nat → V3) (k m : Nat) : List V3 := (List.range m).map (mk k)
theorem mkL3_length (mk : Nat → Nat → V3) (k m : Nat) : (mkL3 mk k m).length = m := by simp [mkL3]
theorem mkL3_succ (mk : Nat → Nat → V3) (k m : Nat) : mkL3 mk k (m + 1) = mkL3 mk k m ++ [mk k m] := by simp [mkL3, List.range_succ]
theorem mkL3_at (mk : Nat → Nat → V3) (k m i : Nat) (h : i < m) : (mkL3 mk k m)[i]? = some (mk k i) := by simp [mkL3, h]

/-- list k, its first i places marked -/
def part3 (mk : Nat → Nat → V3) (xs : List V3) (k i : Nat) : List V3 := mkL3 mk k i ++ xs.drop i
theorem part3_zero (mk : Nat → Nat → V3) (xs : List V3) (k : Nat) : part3 mk xs k 0 = xs := by simp [part3, mkL3]
theorem part3_end (mk : Nat → Nat → V3) (xs : List V3) (k n : Nat) (h : xs.length = n) : part3 mk xs k n = mkL3 mk k n := by simp [part3, h]
theorem part3_length (mk : Nat → Nat → V3) (xs : List V3) (k i n : Nat) (h : xs.length = n) (hi : i ≤ n) : (part3 mk xs k i).length = n := by simp [part3, mkL3_length, h]; omega
theorem part3_step (mk : Nat → Nat → V3) (xs : List V3) (k i n : Nat) (h : xs.length = n) (hi : i < n) : (part3 mk xs k i).set i (mk k i) = part3 mk xs k (i + 1) := by
  unfold part3
  have hl : (mkL3 mk k i).length = i := mkL3_length mk k i
  rw [List.set_append_right _ _ (by omega), hl, Nat.sub_self, mkL3_succ, List.append_assoc, List.drop_eq_getElem_cons (by omega : i < xs.length)]
  rfl

/-- what the lists hold in the first loop: those before k are marked, k up to i -/
def ctAt3 (mk : Nat → Nat → V3) (xs : Nat → List V3) (n : Nat → Nat) (k i j : Nat) : List V3 := if j < k then mkL3 mk j (n j) else if j = k then part3 mk (xs j) j i else xs j
theorem ctAt3_zero (mk : Nat → Nat → V3) (xs : Nat → List V3) (n : Nat → Nat) (k j : Nat) : ctAt3 mk xs n k 0 j = if j < k then mkL3 mk j (n j) else xs j := by
  unfold ctAt3
  by_cases h : j < k
  · rw [if_pos h, if_pos h]
  · rw [if_neg h, if_neg h]
    split
    · exact part3_zero ..
    · rfl
theorem ctAt3_next (mk : Nat → Nat → V3) (xs : Nat → List V3) (n : Nat → Nat) (k j : Nat) (h : (xs k).length = n k) : ctAt3 mk xs n k (n k) j = ctAt3 mk xs n (k + 1) 0 j := by
  rw [ctAt3_zero]
  unfold ctAt3
  by_cases h1 : j < k
  · rw [if_pos h1, if_pos (by omega)]
  · rw [if_neg h1]
    by_cases h2 : j = k
    · subst h2
      rw [if_pos rfl, if_pos (by omega), part3_end _ _ _ _ h]
    · rw [if_neg h2, if_neg (by omega)]

/-- the first loop's state -/
structure St13 (T e : TypeId) (w : World) (K B L G : Nat) (p : Nat → Option Nat) (n c : Nat → Nat) (ct : Nat → List V3) (wr : World) : Prop where
  own : AllOwn3 T wr B K p n c ct
  tab : TabOf e wr L K (fun k => sl (p k) (n k) (c k))
  gs : TabOf e wr G K (fun _ => .slice none 0 0)
  keeps : Keeps (GSet K p) w wr

theorem St13.mark {T e : TypeId} {mk : Nat → Nat → V3} (hT : T ≠ e) {w wr : World} {K B L G : Nat} {p : Nat → Option Nat} {n c : Nat → Nat} {xs : Nat → List V3} {k i g : Nat} (h : St13 T e w K B L G p n c (fun j => ctAt3 mk xs n k i j) wr) (ha : Apart K p) (hk : k < K) (hp : p k = some g) (hx : (xs k).length = n k) (hi : i < n k) :
    St13 T e w K B L G p n c (fun j => ctAt3 mk xs n k (i + 1) j) (set3 wr g i (mk k i)) := by
  have ho := h.own k hk
  have n1 := h.tab.ne3 hT ho
  have n2 := h.gs.ne3 hT ho
  rw [hp] at n1 n2
  refine ⟨h.own.store ha k i g hk hp (by simp only [ctAt3, Nat.lt_irrefl, if_false, if_true]; rw [part3_length mk (xs k) k i (n k) hx (by omega)]; exact hi) _ ?_ (fun j hj => ?_), h.tab.set3 _ _ _ (fun e => n1 (by rw [e])), h.gs.set3 _ _ _ (fun e => n2 (by rw [e])), h.keeps.set3 _ _ _ (.inl ⟨k, hk, hp⟩)⟩
  · simp only [ctAt3, Nat.lt_irrefl, if_false, if_true]
    exact (part3_step mk (xs k) k i (n k) hx hi).symm
  · simp [ctAt3, hj]
theorem St13.drew {T e : TypeId} {w wr : World} {K B L G : Nat} {p : Nat → Option Nat} {n c : Nat → Nat} {ct : Nat → List V3} (h : St13 T e w K B L G p n c ct wr) : St13 T e w K B L G p n c ct wr.drew := ⟨h.own.drew, h.tab.drew, h.gs.drew, h.keeps.drew⟩
theorem St13.drewN {T e : TypeId} {w wr : World} {K B L G : Nat} {p : Nat → Option Nat} {n c : Nat → Nat} {ct : Nat → List V3} (h : St13 T e w K B L G p n c ct wr) (m : Nat) : St13 T e w K B L G p n c ct (wr.drewN m) := ⟨h.own.drewN m, h.tab.drewN m, h.gs.drewN m, h.keeps.drewN m⟩
theorem St13.grown {T e : TypeId} {w wr w1 : World} {K B L G : Nat} {p : Nat → Option Nat} {n c : Nat → Nat} {ct : Nat → List V3} (h : St13 T e w K B L G p n c ct wr) (hg : wr.grownBy w1 none) : St13 T e w K B L G p n c ct w1 :=
  ⟨h.own.kept hg (fun j _ => by cases p j <;> simp), h.tab.kept hg (by simp), h.gs.kept hg (by simp), h.keeps.grown hg (fun _ e => by cases e)⟩

/-- the second loop's state: the lists before k have grown -/
structure St23 (T e : TypeId) (mk : Nat → Nat → V3) (w : World) (K B L G : Nat) (p : Nat → Option Nat) (n c : Nat → Nat) (k : Nat) (ub uc : Nat → Nat) (wr : World) : Prop where
  own : AllOwn3 T wr B K p n c (fun j => mkL3 mk j (n j))
  tab : TabOf e wr L K (fun k => sl (p k) (n k) (c k))
  gs : TabOf e wr G K (fun i => if i < k then .slice (some ⟨ub i, 0, none⟩) (n i + 64) (uc i) else .slice none 0 0)
  us : ∀ i, i < k → TOw T wr B (ub i) (uc i) (mkL3 mk i (n i + 64))
  sep : ∀ i, i < k → ∀ j, j < K → i ≠ j → p j ≠ some (ub i)
  keeps : Keeps (GSet K p) w wr

theorem St13.next {T e : TypeId} {mk : Nat → Nat → V3} {w wr : World} {K B L G : Nat} {p : Nat → Option Nat} {n c : Nat → Nat} {xs : Nat → List V3} (h : St13 T e w K B L G p n c (fun j => ctAt3 mk xs n K 0 j) wr) : St23 T e mk w K B L G p n c 0 (fun _ => 0) (fun _ => 0) wr :=
  ⟨fun j hj => by have := h.own j hj; simpa only [ctAt3_zero, if_pos hj] using this, h.tab, by simpa using h.gs, fun i hi => absurd hi (Nat.not_lt_zero i), fun i hi => absurd hi (Nat.not_lt_zero i), h.keeps⟩

/-- .. and while list k grows: it stands in block q (or is nil still), with j marks more -/
structure St23i (T e : TypeId) (mk : Nat → Nat → V3) (w : World) (K B L G : Nat) (p : Nat → Option Nat) (n c : Nat → Nat) (k : Nat) (ub uc : Nat → Nat) (q : Option Nat) (gc j : Nat) (wr : World) : Prop where
  st : St23 T e mk w K B L G p n c k ub uc wr
  cur : TOwn T wr B (sl q (n k + j) gc) (mkL3 mk k (n k + j))
  sepg : ∀ i, i < K → i ≠ k → q = none ∨ q ≠ p i
  sepu : ∀ i, i < k → q ≠ some (ub i)
  same : q = p k ∨ ∃ b, q = some b ∧ w.heap.size ≤ b

theorem St23.start {T e : TypeId} {mk : Nat → Nat → V3} {w wr : World} {K B L G : Nat} {p : Nat → Option Nat} {n c : Nat → Nat} {k : Nat} {ub uc : Nat → Nat} (h : St23 T e mk w K B L G p n c k ub uc wr) (ha : Apart K p) (hk : k < K) : St23i T e mk w K B L G p n c k ub uc (p k) (c k) 0 wr :=
  ⟨h, h.own k hk, fun i hi hne => ha k i hk hi (Ne.symm hne), fun i hi => h.sep i hi k hk (by omega), .inl rfl⟩

theorem St23i.grown {T e : TypeId} {mk : Nat → Nat → V3} {w wr w1 : World} {K B L G : Nat} {p : Nat → Option Nat} {n c : Nat → Nat} {k : Nat} {ub uc : Nat → Nat} {q : Option Nat} {gc j : Nat} (h : St23i T e mk w K B L G p n c k ub uc q gc j wr) (hg : wr.grownBy w1 none) : St23i T e mk w K B L G p n c k ub uc q gc j w1 :=
  ⟨⟨h.st.own.kept hg (fun j _ => by cases p j <;> simp), h.st.tab.kept hg (by simp), h.st.gs.kept hg (by simp), fun i hi => TOwn.kept (h.st.us i hi).val hg (.inr (by simp [Value.ownBlock])), h.st.sep, h.st.keeps.grown hg (fun _ e => by cases e)⟩,
    h.cur.kept hg (by rw [sl_block]; cases q <;> simp), h.sepg, h.sepu, h.same⟩

theorem St23i.grows {T e : TypeId} {mk : Nat → Nat → V3} {w wr w1 : World} {K B L G : Nat} {p : Nat → Option Nat} {n c : Nat → Nat} {k : Nat} {ub uc : Nat → Nat} {q : Option Nat} {gc j gb' gc' B' : Nat} (h : St23i T e mk w K B L G p n c k ub uc q gc j wr) (hBw : B ≤ wr.heap.size) (hg : wr.grownBy w1 none) (hB : wr.heap.size ≤ B') (ho : TOw T w1 B' gb' gc' (mkL3 mk k (n k + j) ++ [mk k (n k + j)])) :
    St23i T e mk w K B L G p n c k ub uc (some gb') gc' (j + 1) w1 := by
  have hb := ho.base
  have h1 := h.grown hg
  refine ⟨h1.st, ?_, fun i hi _ => .inr fun e => ?_, fun i hi e => ?_, .inr ⟨gb', rfl, Nat.le_trans h.st.keeps.size (by omega)⟩⟩
  · have h2 := (ho.lower (B' := B) (by omega)).val
    rw [show n k + (j + 1) = n k + j + 1 by omega, sl_some, mkL3_succ]
    rw [List.length_append, mkL3_length] at h2
    exact h2
  · have ho2 := h.st.own i hi
    rw [← e] at ho2
    have := ho2.full.2.lt
    omega
  · have := (h.st.us i hi).lt
    injection e with e
    omega

theorem St23i.fits {T e : TypeId} {mk : Nat → Nat → V3} (hT : T ≠ e) {w wr w1 : World} {K B L G : Nat} {p : Nat → Option Nat} {n c : Nat → Nat} {k : Nat} {ub uc : Nat → Nat} {gb gc j : Nat} (h : St23i T e mk w K B L G p n c k ub uc (some gb) gc j wr) (hk : k < K) (hg : wr.grownBy w1 (some gb)) (ho : TOw T w1 B gb gc (mkL3 mk k (n k + j) ++ [mk k (n k + j)])) :
    St23i T e mk w K B L G p n c k ub uc (some gb) gc (j + 1) w1 := by
  have n1 := h.st.tab.ne3 hT h.cur
  have n2 := h.st.gs.ne3 hT h.cur
  refine ⟨⟨fun i hi => ?_, h.st.tab.kept hg (Ne.symm n1), h.st.gs.kept hg (Ne.symm n2), fun i hi => TOwn.kept (h.st.us i hi).val hg (.inr (Ne.symm (h.sepu i hi))), h.st.sep, h.st.keeps.grown hg (fun b e => ?_)⟩, ?_, h.sepg, h.sepu, h.same⟩
  · by_cases e : i = k
    · subst e
      by_cases eb : p i = some gb
      · have hi0 := h.st.own i hi
        rw [eb] at hi0
        obtain ⟨hn, hi1⟩ := hi0.full
        have hc := hi1.caps h.cur.full.2
        have hf := ho.front
        have hsp : mkL3 mk i (n i + j) = mkL3 mk i (n i) ++ (mkL3 mk i (n i + j)).drop (n i) := by
          have ht : (mkL3 mk i (n i + j)).take (n i) = mkL3 mk i (n i) := by
            simp [mkL3, ← List.map_take, List.take_range]
          rw [← ht, List.take_append_drop]
        rw [hsp] at hf
        have hf2 := hf.front.val
        rw [mkL3_length] at hf2
        rw [hc, eb]
        exact hf2
      · exact (h.st.own i hi).kept hg (.inr (by rw [sl_block]; exact eb))
    · refine (h.st.own i hi).kept hg ?_
      rw [sl_block]
      rcases h.sepg i hi e with h3 | h3
      · cases h3
      · exact .inr (Ne.symm h3)
  · cases e
    rcases h.same with e | ⟨b, e, hb⟩
    · exact .inl ⟨k, hk, e.symm⟩
    · injection e with e
      subst e
      exact .inr hb
  · have h2 := ho.val
    rw [show n k + (j + 1) = n k + j + 1 by omega, sl_some, mkL3_succ]
    rw [List.length_append, mkL3_length] at h2
    exact h2

theorem St23i.done {T e : TypeId} {mk : Nat → Nat → V3} (hT : T ≠ e) {w wr : World} {K B L G : Nat} {p : Nat → Option Nat} {n c : Nat → Nat} {k : Nat} {ub uc : Nat → Nat} {gb gc : Nat} (h : St23i T e mk w K B L G p n c k ub uc (some gb) gc 64 wr) (hG : w.heap.size ≤ G) (hL : L < w.heap.size) :
    St23 T e mk w K B L G p n c (k + 1) (fun i => if i = k then gb else ub i) (fun i => if i = k then gc else uc i) (wr.setCell ⟨G, k, none⟩ (.slice (some ⟨gb, 0, none⟩) (n k + 64) gc)) := by
  refine ⟨h.st.own.store_other _ _ _ (fun j hj => h.st.gs.ne3 hT (h.st.own j hj)), ?_, ?_, fun i hi => ?_, fun i hi j hj hne => ?_, h.st.keeps.setCell _ _ _ (.inr hG)⟩
  · exact h.st.tab.store_other _ _ _ (by omega)
  · have := h.st.gs.store k (.slice (some ⟨gb, 0, none⟩) (n k + 64) gc)
    have e : (fun i => if i = k then Value.slice (some ⟨gb, 0, none⟩) (n k + 64) gc else if i < k then Value.slice (some ⟨ub i, 0, none⟩) (n i + 64) (uc i) else .slice none 0 0) = fun i => if i < k + 1 then Value.slice (some ⟨if i = k then gb else ub i, 0, none⟩) (n i + 64) (if i = k then gc else uc i) else .slice none 0 0 := by
      funext i
      by_cases e : i = k
      · subst e; simp
      · by_cases hi : i < k
        · simp [e, hi, show i < k + 1 by omega]
        · simp [e, hi, show ¬ i < k + 1 by omega]
    rw [e] at this
    exact this
  · by_cases e : i = k
    · subst e
      simp only [if_true]
      have h2 := h.cur.store_other G i (.slice (some ⟨gb, 0, none⟩) (n i + 64) gc) (by rw [sl_block]; exact h.st.gs.ne3 hT h.cur)
      exact h2.full.2
    · simp only [e, if_false]
      have hu : TOwn T wr B (sl (some (ub i)) (n i + 64) (uc i)) (mkL3 mk i (n i + 64)) := by
        have := (h.st.us i (by omega)).val
        rw [mkL3_length] at this
        exact this
      exact (hu.store_other G k _ (by rw [sl_block]; exact h.st.gs.ne3 hT hu)).full.2
  · by_cases e : i = k
    · subst e
      simp only [if_true]
      rcases h.sepg j hj (Ne.symm hne) with h3 | h3
      · cases h3
      · exact Ne.symm h3
    · simp only [e, if_false]
      exact h.st.sep i (by omega) j hj hne
/-- what stands where the first loop marks -/
theorem St13.look {T e : TypeId} {mk : Nat → Nat → V3} (hT : T ≠ e) {w wr : World} {K B L G : Nat} {p : Nat → Option Nat} {n c : Nat → Nat} {xs : Nat → List V3} {k i g : Nat} (h : St13 T e w K B L G p n c (fun j => ctAt3 mk xs n k i j) wr) (hk : k < K) (hp : p k = some g) (hx : (xs k).length = n k) (hi : i < n k) :
    wr.cell? ⟨L, k, none⟩ = some (.slice (some ⟨g, 0, none⟩) (n k) (c k)) ∧ (∃ o0 o1 o2, wr.cell? ⟨g, i * 3, none⟩ = some o0 ∧ wr.cell? ⟨g, i * 3 + 1, none⟩ = some o1 ∧ wr.cell? ⟨g, i * 3 + 2, none⟩ = some o2) ∧ (wr.frozen? ⟨g, i * 3, none⟩ = false ∧ wr.frozen? ⟨g, i * 3 + 1, none⟩ = false ∧ wr.frozen? ⟨g, i * 3 + 2, none⟩ = false) ∧ L ≠ g := by
  have cl := h.tab.cell k hk
  rw [sl_ptr, hp, ptr_some] at cl
  have ho := h.own k hk
  have hne : L ≠ g := fun e => h.tab.ne3 hT ho (by rw [hp, e])
  have hct : ctAt3 mk xs n k i k = part3 mk (xs k) k i := by simp [ctAt3]
  have hpl := part3_length mk (xs k) k i (n k) hx (by omega)
  rw [hp, hct] at ho
  obtain ⟨-, ho2⟩ := ho.full
  exact ⟨cl, ⟨_, _, _, ho2.cell i (by omega) 0 (by decide), ho2.cell i (by omega) 1 (by decide), ho2.cell i (by omega) 2 (by decide)⟩, ⟨ho2.free _, ho2.free _, ho2.free _⟩, hne⟩
/-- an element's three cells -/
def At3 (w : World) (g i : Nat) (q : V3) : Prop := w.cell? ⟨g, i * 3, none⟩ = some q.1 ∧ w.cell? ⟨g, i * 3 + 1, none⟩ = some q.2.1 ∧ w.cell? ⟨g, i * 3 + 2, none⟩ = some q.2.2
theorem TOw.at {T : TypeId} {w : World} {B g cap : Nat} {L : List V3} (h : TOw T w B g cap L) {i : Nat} {q : V3} (hq : L[i]? = some q) : At3 w g i q := by
  obtain ⟨hi, rfl⟩ := List.getElem?_eq_some_iff.1 hq
  exact ⟨h.cell i hi 0 (by decide), h.cell i hi 1 (by decide), h.cell i hi 2 (by decide)⟩
/-- what the third loop reads -/
theorem St23.look {T e : TypeId} {mk : Nat → Nat → V3} {w wr : World} {K B L G : Nat} {p : Nat → Option Nat} {n c : Nat → Nat} {ub uc : Nat → Nat} (h : St23 T e mk w K B L G p n c K ub uc wr) (k : Nat) (hk : k < K) :
    wr.cell? ⟨L, k, none⟩ = some (.slice (ptr (p k)) (n k) (c k)) ∧ wr.cell? ⟨G, k, none⟩ = some (.slice (some ⟨ub k, 0, none⟩) (n k + 64) (uc k)) ∧ (∀ i, i < n k + 64 → At3 wr (ub k) i (mk k i)) ∧ (0 < n k → ∃ g, p k = some g ∧ ∀ i, i < n k → At3 wr g i (mk k i)) := by
  refine ⟨h.tab.cell k hk, ?_, fun i hi => ?_, fun h0 => ?_⟩
  · have := h.gs.cell k hk
    rwa [if_pos hk] at this
  · exact (h.us k hk).at (mkL3_at mk k _ i hi)
  · obtain ⟨g, hp, -, ho⟩ := (h.own k hk).filled (by rw [mkL3_length]; exact h0)
    exact ⟨g, hp, fun i hi => ho.at (mkL3_at mk k _ i hi)⟩
theorem St23.grown {T e : TypeId} {mk : Nat → Nat → V3} {w wr w1 : World} {K B L G : Nat} {p : Nat → Option Nat} {n c : Nat → Nat} {k : Nat} {ub uc : Nat → Nat} (h : St23 T e mk w K B L G p n c k ub uc wr) (hg : wr.grownBy w1 none) : St23 T e mk w K B L G p n c k ub uc w1 :=
  ⟨h.own.kept hg (fun j _ => by cases p j <;> simp), h.tab.kept hg (by simp), h.gs.kept hg (by simp), fun i hi => TOwn.kept (h.us i hi).val hg (.inr (by simp [Value.ownBlock])), h.sep, h.keeps.grown hg (fun _ e => by cases e)⟩
end Go.Proofs.Ytnmcdkhfjkpklaa

/- What switchyardkit.ApartSymbols answers, for lists that lie apart (or are nil): true; nothing but these lists is turned. -/
namespace Go.Proofs.Ytnmcdkhfjkpklaa
open Go.RowKit

theorem Try.info23' : (Try.prog.info? 23).map (fun i => (i.zero, i.size, i.bytes)) = some (some (.slice none 0 0), 1, 24) := by kernel_rfl

/-- the mark of place i in list k -/
def msV (k i : Nat) : V3 := (.string (mt k i), .int .i64 0, .bool false)
/-- 'append(g, z)' within the room -/
theorem tfits {ops : Array Oper} {rest : List Oper} {o : Oper} {a : Act} {Q : Exit → Act → World → Prop} {t T : TypeId} {by_ : Nat} (he : Elem3 t T by_) (w : World) (hgd : o.guard = none) (s x : Operand)
    (ho : o.op = .call { callee := .builtin .append, args := #[s, x], argTypes := #[t, t] }) (B g k cap : Nat) (xs : List V3) (hs : a.eval s = .slice (some ⟨g, 0, none⟩) k cap) (hk : xs.length = k) (hown : TOw T w B g cap xs)
    (ad : Addr) (m : Nat) (q : V3) (hq : one3 q) (hx : a.eval x = .slice (some ad) 1 m) (hnews : ∀ j u, (l3 q)[j]? = some u → w.cell? (ad.add j) = some u) (hroom : k + 1 ≤ cap)
    (h : ∀ w', TOw T w' B g cap (xs ++ [q]) → w.grownBy w' (some g) → wpList Try.prog ops Q rest (a.put o.dst (.slice (some ⟨g, 0, none⟩) (k + 1) cap)) w') :
    wpList Try.prog ops Q (o :: rest) a w := by
  obtain ⟨hu, z0, hzc, hinfo⟩ := he
  obtain ⟨i0, hi, hz0, hz2, hz3⟩ := info_parts hinfo
  subst hk
  refine wpList_append_fits w hgd s x t ho B T i0 3 hu hi hz2 g xs.length cap (c3 xs) hs hown ad 1 m (l3 q) hx rfl hnews (one3_mem hq) hroom fun w' h1 h2 => h w' ?_ h2
  unfold TOw
  rw [List.length_append, c3_two]
  have e : c3 [q] = l3 q := by simp [c3]
  rw [e]
  exact h1
/-- 'append(g, z)' without room: a new block -/
theorem tgrows {ops : Array Oper} {rest : List Oper} {o : Oper} {a : Act} {Q : Exit → Act → World → Prop} {t T : TypeId} {by_ : Nat} (he : Elem3 t T by_) (w : World) (hgd : o.guard = none) (s x : Operand)
    (ho : o.op = .call { callee := .builtin .append, args := #[s, x], argTypes := #[t, t] }) (B k cap : Nat) (q : Option Nat) (xs : List V3) (hs : a.eval s = .slice (q.map fun b => ⟨b, 0, none⟩) k cap) (hk : xs.length = k) (hown : TOwn T w B (sl q k cap) xs)
    (ad : Addr) (m : Nat) (z : V3) (hz1 : one3 z) (hx : a.eval x = .slice (some ad) 1 m) (hnews : ∀ j u, (l3 z)[j]? = some u → w.cell? (ad.add j) = some u) (hfull : cap < k + 1) (hlen : k + 1 ≤ 140737488355328) (hby : (k + 1) * by_ ≤ 140737488355328)
    (h : ∀ g' cap' w', TOw T w' w.heap.size g' cap' (xs ++ [z]) → w.grownBy w' none → wpList Try.prog ops Q rest (a.put o.dst (.slice (some ⟨g', 0, none⟩) (k + 1) cap')) w') :
    wpList Try.prog ops Q (o :: rest) a w := by
  obtain ⟨hu, z0, hzc, hinfo⟩ := he
  obtain ⟨i0, hi, hz0, hz2, hz3⟩ := info_parts hinfo
  subst hk
  refine wpList_append_grows w hgd s x t ho T i0 z0 3 by_ hu hi hz0 hz2 hz3 hzc (by decide) _ xs.length cap (c3 xs) hs (fun e => ?_) (c3_len xs) (fun b e j u hj => ?_) ad 1 m (l3 z) hx rfl hnews (one3_mem hz1) hfull (by unfold maxLen; omega) hby fun v' w' h1 h2 => ?_
  · cases q with
    | some g => cases e
    | none =>
      rcases hown.form with ⟨e2, e3⟩ | ⟨g, cap', e2, _⟩
      · injection e2 with _ e4 e5; exact ⟨e4, e5⟩
      · simp [sl] at e2
  · cases q with
    | none => cases e
    | some g =>
      cases e
      have hjl : j < (c3 xs).length := by
        rcases Nat.lt_or_ge j (c3 xs).length with h | h
        · exact h
        · rw [List.getElem?_eq_none h] at hj; cases hj
      have hr : w.ownsRow B T 3 (.slice (some ⟨g, 0, none⟩) xs.length cap) xs.length (c3 xs) := hown.full.2
      rw [← hj, ← hr.cellAt j (by rw [c3_len] at hjl; omega), Go.WideShapes.add_plain, Nat.zero_add]
  · have hv : TOwn T w' w.heap.size v' (xs ++ [z]) := by
      unfold TOwn
      rw [List.length_append, c3_two]
      have e : c3 [z] = l3 z := by simp [c3]
      rw [e]
      exact h1
    rcases hv.form with ⟨_, e⟩ | ⟨g', cap', e, ho'⟩
    · simp at e
    · subst e
      rw [List.length_append]
      exact h g' cap' w' ho' h2

theorem below_of_drew {w w2 : World} (h : Below w.drew.heap.size w.drew w2) : Below w.heap.size w w2 := ⟨h.os, h.tape, h.output, h.size, h.block⟩

set_option maxRecDepth 100000 in
set_option maxHeartbeats 4000000 in
theorem apartSyms_any (K B L : Nat) (p : Nat → Option Nat) (n c : Nat → Nat) (xs : Nat → List V3) (w : World) (hK : K ≤ 1000) (hap : Apart K p) (hx : ∀ k, k < K → (xs k).length = n k) (hn : ∀ k, k < K → n k ≤ 1099511627776) (hB : B ≤ w.heap.size)
    (hown : AllOwn3 34 w B K p n c xs) (htab : TabOf 23 w L K (fun k => sl (p k) (n k) (c k))) :
    Calls Try.prog 28 #[.slice (some ⟨L, 0, none⟩) K K] w fun e w' => e = .returned (.bool true) ∧ Keeps (GSet K p) w w' := by
  obtain ⟨i0, hi, hz0, hz1, hz2⟩ := info_parts Try.info23'
  have HX : Hid (∀ k, k < K → (xs k).length = n k) := hx
  have HN : Hid (∀ k, k < K → n k ≤ 1099511627776) := hn
  clear hx hn
  go_enter Try.func28, Try.ntmps28
  go_wp2_with (at_make; refine wpList_make_full _ rfl _ _ 56 rfl _ 23 i0 (.slice none 0 0) 1 Try.underlying56 hi hz0 hz1 _ _ _ _ K rfl rfl rfl rfl (by rw [hz2]; omega) (by unfold maxLen; omega) (Nat.le_refl _) ?_; intro w1 hmk hgrow; have hst : St13 34 23 w K B L w.heap.size p n c (fun j => ctAt3 msV xs n 0 0 j) w1 := ⟨fun j hj => by rw [ctAt3_zero, if_neg (Nat.not_lt_zero j)]; exact (hown j hj).kept hgrow (by rw [sl_block]; cases p j <;> simp), htab.kept hgrow (by simp), TabOf.made hmk, (Keeps.refl _ _).grown hgrow (by simp)⟩; clear hmk hgrow)
  have hGs : w.heap.size = w.heap.size := rfl
  generalize hG : w.heap.size = G at hst ⊢
  clear hGs
  have hGle : w.heap.size ≤ G := by omega
  have hLlt : L < w.heap.size := htab.lt
  clear hG hown htab
  go_loopw [4] (fun kv wr => ∃ k : Nat, k ≤ K ∧ kv = .int .i64 k ∧ St13 34 23 w K B L G p n c (fun j => ctAt3 msV xs n k 0 j) wr) (fun kv _ => K - (intOf kv).toNat)
  case atStart => exact ⟨0, Nat.zero_le _, rfl, hst⟩
  case round =>
    obtain ⟨k, hk, rfl, hs⟩ := hrel
    clear hst
    by_cases hlt : k < K
    · go_wp2
      go_loopw [5] (fun iv wr => ∃ i : Nat, i ≤ n k ∧ iv = .int .i64 i ∧ St13 34 23 w K B L G p n c (fun j => ctAt3 msV xs n k i j) wr) (fun iv _ => n k - (intOf iv).toNat)
      case atStart => exact ⟨0, Nat.zero_le _, rfl, hs⟩
      case round =>
        obtain ⟨i, hik, rfl, hs2⟩ := hrel
        clear hs
        have cl := hs2.tab.cell k hlt
        rw [sl_ptr] at cl
        have hnk := HN.out k hlt
        by_cases hi2 : i < n k
        · obtain ⟨g, hp⟩ : ∃ g, p k = some g := by
            have ho := hs2.own k hlt
            have hct : ctAt3 msV xs n k i k = part3 msV (xs k) k i := by simp [ctAt3]
            rw [hct] at ho
            have hpl := part3_length msV (xs k) k i (n k) (HX.out k hlt) hik
            obtain ⟨g, hp, -, -⟩ := ho.filled (by omega)
            exact ⟨g, hp⟩
          clear cl
          obtain ⟨cl, ⟨old0, old1, old2, cg0, cg1, cg2⟩, ⟨fg0, fg1, fg2⟩, hne⟩ := hs2.look (by decide) hlt hp (HX.out k hlt) hi2
          have HM : Hid (∀ wx, Below wr.heap.size wr wx → St13 34 23 w K B L G p n c (fun j => ctAt3 msV xs n k (i + 1) j) (set3 wx g i (msV k i))) := fun wx hb => (hs2.grown (grown_of_below hb)).mark (by decide) hap hlt hp (HX.out k hlt) hi2
          have HR : Hid (∀ wx, Below wr.heap.size wr wx → wx.cell? ⟨L, k, none⟩ = some (.slice (some ⟨g, 0, none⟩) (n k) (c k)) ∧ (∃ o0 o1 o2, wx.cell? ⟨g, i * 3, none⟩ = some o0 ∧ wx.cell? ⟨g, i * 3 + 1, none⟩ = some o1 ∧ wx.cell? ⟨g, i * 3 + 2, none⟩ = some o2) ∧ (wx.frozen? ⟨g, i * 3, none⟩ = false ∧ wx.frozen? ⟨g, i * 3 + 1, none⟩ = false ∧ wx.frozen? ⟨g, i * 3 + 2, none⟩ = false) ∧ L ≠ g) := fun wx hb => (hs2.grown (grown_of_below hb)).look (by decide) hlt hp (HX.out k hlt) hi2
          have HC : Hid (∀ wx, Calls Try.prog 42 #[.int .i64 k, .int .i64 i] wx fun e w' => e = .returned (.string (mt k i)) ∧ Below wx.heap.size wx w') := fun wx => markText_any k i wx (by omega) (by omega)
          have q0 : (0 : Int) ≤ (k : Int) := by omega
          have q1 : (k : Int) < (K : Int) := by omega
          have q2 : (0 : Int) ≤ (i : Int) := by omega
          have q3 : (i : Int) < (n k : Int) := by omega
          have HP : Hid (p k = some g) := hp
          clear hs2 hp
          go_wp2_with fail
          go_region_law (go_simp; go_at_call 42; refine (HC.out _).mono ?_; rintro e w2 ⟨rfl, hb2⟩; have hb3 := below_of_drew hb2; obtain ⟨k1, ⟨ol0, ol1, ol2, k20, k21, k22⟩, ⟨k30, k31, k32⟩, -⟩ := HR.out w2 hb3; have hs3 := HM.out w2 hb3)
          all_goals
            go_wp2_with fail
            go_roundw
            case rel => exact ⟨i + 1, by omega, by go_num, hs3⟩
            case measure => simp [intOf]; omega
        · have hs4 : St13 34 23 w K B L G p n c (fun j => ctAt3 msV xs n (k + 1) 0 j) wr := by
            obtain rfl : i = n k := by omega
            have e : (fun j => ctAt3 msV xs n k (n k) j) = fun j => ctAt3 msV xs n (k + 1) 0 j := funext fun j => ctAt3_next msV xs n k j (HX.out k hlt)
            rw [← e]
            exact hs2
          clear hs2
          go_wp2
          go_roundw
          case rel => exact ⟨k + 1, by omega, by go_num, hs4⟩
          case measure => simp [intOf]; omega
    · have hs0 : St23 34 23 msV w K B L G p n c 0 (fun _ => 0) (fun _ => 0) wr := by
        have hkK : k = K := by omega
        rw [hkK] at hs
        exact hs.next
      clear hs
      go_wp2
      go_loopw [6] (fun kv wr => ∃ (k : Nat) (ub uc : Nat → Nat), k ≤ K ∧ kv = .int .i64 k ∧ St23 34 23 msV w K B L G p n c k ub uc wr) (fun kv _ => K - (intOf kv).toNat)
      case atStart => exact ⟨0, _, _, Nat.zero_le _, rfl, hs0⟩
      case round =>
        obtain ⟨k2, ub, uc, hk2, rfl, hs⟩ := hrel
        clear hs0
        by_cases hlt2 : k2 < K
        · have cl := hs.tab.cell k2 hlt2
          rw [sl_ptr] at cl
          have hs1 := hs.start hap hlt2
          have hnk := HN.out k2 hlt2
          clear hs
          go_wp2
          go_loopw [7, 8] (fun gv jv wr => ∃ (j gc : Nat) (q : Option Nat), j ≤ 64 ∧ jv = .int .i64 j ∧ gv = .slice (ptr q) (n k2 + j) gc ∧ St23i 34 23 msV w K B L G p n c k2 ub uc q gc j wr) (fun _ jv _ => 64 - (intOf jv).toNat)
          case atStart => exact ⟨0, _, _, Nat.zero_le _, rfl, rfl, hs1⟩
          case round =>
            obtain ⟨j, gc, q, hj, rfl, rfl, hs2⟩ := hrel
            clear hs1 cl
            have cl := hs2.st.tab.cell k2 hlt2
            rw [sl_ptr] at cl
            by_cases hj2 : j < 64
            · have hml := mkL3_length msV k2 (n k2 + j)
              have HC : Hid (∀ wx, Calls Try.prog 42 #[.int .i64 k2, .int .i64 ((n k2 : Int) + (j : Int))] wx fun e w' => e = .returned (.string (mt k2 (n k2 + j))) ∧ Below wx.heap.size wx w') := fun wx => by
                have := markText_any k2 (n k2 + j) wx (by omega) (by omega)
                simpa using this
              by_cases hroom : n k2 + j + 1 ≤ gc
              · obtain ⟨gb, rfl⟩ : ∃ gb, q = some gb := by
                  cases q with
                  | some gb => exact ⟨gb, rfl⟩
                  | none =>
                    rcases hs2.cur.form with ⟨e2, -⟩ | ⟨_, _, e2, _⟩
                    · simp [sl] at e2; omega
                    · simp [sl] at e2
                rw [ptr_some]
                go_wp2_with fail
                refine (HC.out _).mono ?_
                rintro e w2 ⟨rfl, hb2⟩
                have hsa := fun o => (hs2.grown (grown_of_below hb2)).grown (World.grownBy_alloc w2 o none)
                clear hs2 hb2 cl
                go_wp2_with (at_builtin; refine tfits Try.elemSym _ rfl _ _ rfl B gb (n k2 + j) gc (mkL3 msV k2 (n k2 + j)) rfl hml (hsa _).cur.full.2 ⟨_, 0, none⟩ 1 (.string (mt k2 (n k2 + j)), .int .i64 0, .bool false) ⟨rfl, rfl, rfl⟩ rfl (news3 _ _ _) hroom ?_; intro w3 ho3 hg3; have hs3 := (hsa _).fits (by decide) hlt2 hg3 ho3)
                go_roundw
                case rel => exact ⟨j + 1, gc, some gb, by omega, by go_num, by rw [show n k2 + (j + 1) = n k2 + j + 1 by omega]; rfl, hs3⟩
                case measure => simp [intOf]; omega
              · go_wp2_with fail
                refine (HC.out _).mono ?_
                rintro e w2 ⟨rfl, hb2⟩
                have hsa := fun o => (hs2.grown (grown_of_below hb2)).grown (World.grownBy_alloc w2 o none)
                have hBw : ∀ o, B ≤ (w2.alloc o).heap.size := fun o => Nat.le_trans hB (hsa o).st.keeps.size
                clear hs2 hb2 cl
                go_wp2_with (at_builtin; refine tgrows Try.elemSym _ rfl _ _ rfl B (n k2 + j) gc q (mkL3 msV k2 (n k2 + j)) rfl hml (hsa _).cur ⟨_, 0, none⟩ 1 (.string (mt k2 (n k2 + j)), .int .i64 0, .bool false) ⟨rfl, rfl, rfl⟩ rfl (news3 _ _ _) (by omega) (by omega) (by omega) ?_; intro gb2 gc2 w3 ho3 hg3; have hs3 := (hsa _).grows (hBw _) hg3 (Nat.le_refl _) ho3)
                go_roundw
                case rel => exact ⟨j + 1, gc2, some gb2, by omega, by go_num, by rw [show n k2 + (j + 1) = n k2 + j + 1 by omega]; rfl, hs3⟩
                case measure => simp [intOf]; omega
            · obtain rfl : j = 64 := by omega
              obtain ⟨gb, rfl⟩ : ∃ gb, q = some gb := by
                obtain ⟨gb, e, -, -⟩ := hs2.cur.filled (by rw [mkL3_length]; omega)
                exact ⟨gb, e⟩
              rw [ptr_some]
              have cg := hs2.st.gs.cell k2 hlt2
              have fg := hs2.st.gs.free k2
              rw [if_neg (Nat.lt_irrefl k2)] at cg
              have hs3 := hs2.done (by decide) hGle hLlt
              clear hs2
              go_wp2
              go_roundw
              case rel => exact ⟨k2 + 1, _, _, by omega, by go_num, hs3⟩
              case measure => simp [intOf]; omega
        · have hkK : k2 = K := by omega
          rw [hkK] at hs
          clear hkK
          go_wp2
          go_loopw [10] (fun kv wx => ∃ k : Nat, k ≤ K ∧ kv = .int .i64 k ∧ St23 34 23 msV w K B L G p n c K ub uc wx) (fun kv _ => K - (intOf kv).toNat)
          case atStart => exact ⟨0, Nat.zero_le _, rfl, hs⟩
          case round =>
            clear hs
            obtain ⟨k3, hk3, rfl, hs⟩ := hrel
            by_cases hlt3 : k3 < K
            · obtain ⟨cl, cg, -, -⟩ := hs.look k3 hlt3
              have hnk := HN.out k3 hlt3
              go_wp2
              go_loopw [11] (fun iv wx => ∃ i : Nat, i ≤ n k3 + 64 ∧ iv = .int .i64 i ∧ St23 34 23 msV w K B L G p n c K ub uc wx) (fun iv _ => n k3 + 64 - (intOf iv).toNat)
              case atStart => exact ⟨0, Nat.zero_le _, rfl, hs⟩
              case round =>
                clear hs cl cg
                obtain ⟨i, hi3, rfl, hs⟩ := hrel
                obtain ⟨cl, cg, hU, hV⟩ := hs.look k3 hlt3
                by_cases hi4 : i < n k3 + 64
                · obtain ⟨cu0, cu1, cu2⟩ := hU i hi4
                  unfold msV at cu0 cu1 cu2
                  have HC : Hid (∀ wx, Calls Try.prog 42 #[.int .i64 k3, .int .i64 i] wx fun e w' => e = .returned (.string (mt k3 i)) ∧ Below wx.heap.size wx w') := fun wx => markText_any k3 i wx (by omega) (by omega)
                  have HS : Hid (St23 34 23 msV w K B L G p n c K ub uc wr) := hs
                  by_cases hi5 : i < n k3
                  · obtain ⟨g, hp, hv⟩ := hV (by omega)
                    obtain ⟨cv0, cv1, cv2⟩ := hv i hi5
                    unfold msV at cv0 cv1 cv2
                    have hi6 : (i : Int) < (n k3 : Int) := by omega
                    rw [hp, ptr_some] at cl
                    have cl' := fun d os => cell_regrown cl d os
                    have cg' := fun d os => cell_regrown cg d os
                    have cu0' := fun d os => cell_regrown cu0 d os
                    have cu1' := fun d os => cell_regrown cu1 d os
                    have cu2' := fun d os => cell_regrown cu2 d os
                    have cv0' := fun d os => cell_regrown cv0 d os
                    have cv1' := fun d os => cell_regrown cv1 d os
                    have cv2' := fun d os => cell_regrown cv2 d os
                    clear hp hv hU hV hs
                    generalize mt k3 i = z at *
                    have hzz : (z.toList != z.toList) = false := by simp
                    go_wp2_with fail
                    refine wp_region_quiet_below (by kernel_rfl) (by kernel_rfl) ?_
                    iterate 35 (go_big_quiet_step ((exact Calls.regrown_of (HC.out _))))
                    refine wpQuiet_nil ?_
                    intro _ hw'
                    obtain ⟨⟨dq, osq⟩, hw''⟩ := hw'
                    subst hw''
                    have hs5 := HS.out.grown (grown_of_below (below_regrown wr dq osq))
                    clear HS cl' cg' cu0' cu1' cu2' cv0' cv1' cv2' cl cg cu0 cu1 cu2 cv0 cv1 cv2
                    generalize Go.Sort.grow (redrawn wr dq) osq = W2 at hs5 ⊢
                    go_wp2_with fail
                    go_roundw
                    case rel => exact ⟨i + 1, by omega, by go_num, hs5⟩
                    case measure => simp [intOf]; omega
                  · have hd : decide ((i : Int) < (n k3 : Int)) = false := by simp; omega
                    have cl' := fun d os => cell_regrown cl d os
                    have cg' := fun d os => cell_regrown cg d os
                    have cu0' := fun d os => cell_regrown cu0 d os
                    have cu1' := fun d os => cell_regrown cu1 d os
                    have cu2' := fun d os => cell_regrown cu2 d os
                    clear hU hV hs
                    generalize mt k3 i = z at *
                    have hzz : (z.toList != z.toList) = false := by simp
                    go_wp2_with fail
                    refine wp_region_quiet_below (by kernel_rfl) (by kernel_rfl) ?_
                    iterate 35 (go_big_quiet_step ((exact Calls.regrown_of (HC.out _))))
                    refine wpQuiet_nil ?_
                    intro _ hw'
                    obtain ⟨⟨dq, osq⟩, hw''⟩ := hw'
                    subst hw''
                    have hs5 := HS.out.grown (grown_of_below (below_regrown wr dq osq))
                    clear HS cl' cg' cu0' cu1' cu2' cl cg cu0 cu1 cu2
                    generalize Go.Sort.grow (redrawn wr dq) osq = W2 at hs5 ⊢
                    go_wp2_with fail
                    go_roundw
                    case rel => exact ⟨i + 1, by omega, by go_num, hs5⟩
                    case measure => simp [intOf]; omega
                · go_wp2
                  go_roundw
                  case rel => exact ⟨k3 + 1, by omega, by go_num, hs⟩
                  case measure => simp [intOf]; omega
            · go_wp2
              go_ret
              exact ⟨rfl, hs.keeps⟩

end Go.Proofs.Ytnmcdkhfjkpklaa

/- Two lists that lie apart, twice: what the Apart functions ask; units that stay while lists are turned. -/
namespace Go.Proofs.Ytnmcdkhfjkpklaa
open Go.RowKit

theorem GOwnV.split {T : TypeId} {w : World} {B n : Nat} {v : Value} {vs : List Value} (h : GOwnV T w B v vs) (hn : vs.length = n) :
    ∃ p c, v = .slice (ptr p) n c ∧ GOwnV T w B (sl p n c) vs ∧ ∀ g, p = some g → B ≤ g ∧ g < w.heap.size := by
  subst hn
  rcases h.shape with ⟨rfl, rfl⟩ | ⟨g, cap, rfl, ho⟩
  · exact ⟨none, 0, rfl, GOwnV.nil _ _ _, fun g e => by cases e⟩
  · exact ⟨some g, cap, rfl, ho.val, fun g' e => by cases e; exact ⟨ho.base, ho.lt⟩⟩
theorem GOwnV.rowP {T : TypeId} {w : World} {B n c : Nat} {p : Option Nat} {vs : List Value} (h : GOwnV T w B (sl p n c) vs) : GRow w (ptr p) vs := by
  obtain ⟨p', c', e, r, -, -⟩ := h.slice
  rw [sl_ptr] at e
  injection e with e1 _ _
  rw [e1]; exact r
theorem apart2 {p q : Option Nat} {l r l' r' : Nat} (h : ∀ g, p = some g → l ≤ g ∧ g < r) (h' : ∀ g, q = some g → l' ≤ g ∧ g < r') (hd : r ≤ l' ∨ r' ≤ l) : p = none ∨ p ≠ q := by
  cases p with
  | none => exact .inl rfl
  | some g => exact .inr fun e => by have := h g rfl; have := h' g e.symm; omega
def twoV {α : Type} (a b : α) (k : Nat) : α := if k = 0 then a else b
theorem two_apart {a b : Option Nat} {n0 n1 n2 n3 : Nat} (ha : ∀ g, a = some g → n0 ≤ g ∧ g < n1) (hb : ∀ g, b = some g → n2 ≤ g ∧ g < n3) (h1 : n1 ≤ n2) : Apart 2 (twoV a b) := by
  intro i j hi hj hne
  rcases (show i = 0 ∨ i = 1 by omega) with r | r <;> rcases (show j = 0 ∨ j = 1 by omega) with s | s <;> subst r <;> subst s <;> first | exact absurd rfl hne | skip
  · exact apart2 ha hb (by omega)
  · exact apart2 hb ha (by omega)
theorem two_own {T : TypeId} {w : World} {B m cx cy : Nat} {a b : Option Nat} {x : List Value} (ha : GOwnV T w B (sl a m cx) x) (hb : GOwnV T w B (sl b m cy) x) : AllOwn T w B 2 (twoV a b) (twoV m m) (twoV cx cy) (twoV x x) := by
  intro j hj
  rcases (show j = 0 ∨ j = 1 by omega) with r | r <;> subst r
  · exact ha
  · exact hb
theorem two_mem {a b : Option Nat} {g : Nat} (h : GSet 2 (twoV a b) g) : a = some g ∨ b = some g := by
  obtain ⟨k, hk, e⟩ := h
  rcases (show k = 0 ∨ k = 1 by omega) with r | r <;> subst r
  · exact .inl e
  · exact .inr e
theorem tab_two (e : TypeId) (w : World) (a b : Option Nat) (m cx cy : Nat) :
    TabOf e (w.alloc (.cells #[.slice (ptr a) m cx, .slice (ptr b) m cy] e)) w.heap.size 2 (fun k => sl (twoV a b k) (twoV m m k) (twoV cx cy k)) := by
  unfold TabOf
  rw [heap_alloc_new]
  rfl
theorem two_len {x : List Value} {n : Nat} (hx : x.length = n) (k : Nat) : (twoV x x k).length = twoV n n k := by
  unfold twoV; split <;> exact hx
theorem two_le {n M : Nat} (hn : n ≤ M) (k : Nat) : twoV n n k ≤ M := by unfold twoV; split <;> exact hn
theorem GOwnV.keeps {T : TypeId} {G : Nat → Prop} {w w' : World} {B n c : Nat} {p : Option Nat} {vs : List Value} (h : GOwnV T w B (sl p n c) vs) (hk : Keeps G w w') (hne : ∀ g, p = some g → ¬ G g) : GOwnV T w' B (sl p n c) vs := by
  cases p with
  | none =>
    rcases h.shape with ⟨e, rfl⟩ | ⟨g, cap, e, ho⟩
    · rw [e]; exact GOwnV.nil _ _ _
    · simp [sl] at e
  | some g =>
    obtain ⟨hn, ho⟩ := h.full
    obtain ⟨cur, h1, h2, h3, h4, h5, h6⟩ := ho.parts
    subst hn
    exact (GOwn.mk h1 (by rw [hk.block g ho.lt (hne g rfl)]; exact h2) h3 h4 h5 h6).val
theorem row_keeps {G : Nat → Prop} {w w' : World} {B : Nat} {T : TypeId} {z : Nat} {v : Value} {n : Nat} {xs : List Value} (h : w.ownsRow B T z v n xs) (hk : Keeps G w w') (hne : ∀ g, B ≤ g → ¬ G g) : w'.ownsRow B T z v n xs := by
  obtain ⟨h0, h1⟩ := h
  refine ⟨h0, h1.imp id ?_⟩
  rintro ⟨g, cap, cur, e1, e2, e3, e4⟩
  exact ⟨g, cap, cur, e1, e2, (hk.block g (Array.getElem?_eq_some_iff.1 e3).1 (hne g e2)).trans e3, e4⟩
theorem OwnV.keeps {G : Nat → Prop} {w w' : World} {B : Nat} {v : Value} {xs : List Int} (h : OwnV w B v xs) (hk : Keeps G w w') (hne : ∀ g, B ≤ g → ¬ G g) : OwnV w' B v xs := row_keeps h hk hne
theorem two_out {a b : Option Nat} {l r : Nat} (ha : ∀ g, a = some g → l ≤ g ∧ g < r) (hb : ∀ g, b = some g → l ≤ g ∧ g < r) : (∀ g, r ≤ g → ¬ GSet 2 (twoV a b) g) ∧ ∀ g, GSet 2 (twoV a b) g → l ≤ g := by
  refine ⟨fun g hg h => ?_, fun g h => ?_⟩
  · rcases two_mem h with e | e
    · have := ha g e; omega
    · have := hb g e; omega
  · rcases two_mem h with e | e
    · exact (ha g e).1
    · exact (hb g e).1
theorem TOwn.split {T : TypeId} {w : World} {B n : Nat} {v : Value} {L : List V3} (h : TOwn T w B v L) (hn : L.length = n) :
    ∃ p c, v = .slice (ptr p) n c ∧ TOwn T w B (sl p n c) L ∧ ∀ g, p = some g → B ≤ g ∧ g < w.heap.size := by
  subst hn
  rcases h.form with ⟨rfl, rfl⟩ | ⟨g, cap, rfl, ho⟩
  · exact ⟨none, 0, rfl, TOwn.nil _ _ _, fun g e => by cases e⟩
  · exact ⟨some g, cap, rfl, ho.val, fun g' e => by cases e; exact ⟨ho.base, ho.lt⟩⟩
theorem TOwn.rowP {T : TypeId} {w : World} {B n c : Nat} {p : Option Nat} {L : List V3} (h : TOwn T w B (sl p n c) L) : Row3 w (ptr p) L := by
  obtain ⟨p', c', e, -, -, r⟩ := h.row3
  rw [sl_ptr] at e
  injection e with e1 _ _
  rw [e1]; exact r
theorem TOwn.keeps {T : TypeId} {G : Nat → Prop} {w w' : World} {B n c : Nat} {p : Option Nat} {L : List V3} (h : TOwn T w B (sl p n c) L) (hk : Keeps G w w') (hne : ∀ g, p = some g → ¬ G g) : TOwn T w' B (sl p n c) L := by
  cases p with
  | none =>
    rcases h.form with ⟨e, rfl⟩ | ⟨g, cap, e, ho⟩
    · rw [e]; exact TOwn.nil _ _ _
    · simp [sl] at e
  | some g =>
    obtain ⟨hn, ho⟩ := h.full
    obtain ⟨cur, h1, h2, h3, h4, h5, h6⟩ := ho.parts
    subst hn
    exact (TOw.mk h1 (by rw [hk.block g ho.lt (hne g rfl)]; exact h2) h3 h4 h5 h6).val
theorem two_own3 {T : TypeId} {w : World} {B m cx cy : Nat} {a b : Option Nat} {x : List V3} (ha : TOwn T w B (sl a m cx) x) (hb : TOwn T w B (sl b m cy) x) : AllOwn3 T w B 2 (twoV a b) (twoV m m) (twoV cx cy) (twoV x x) := by
  intro j hj
  rcases (show j = 0 ∨ j = 1 by omega) with r | r <;> subst r
  · exact ha
  · exact hb
theorem two_len3 {x : List V3} {n : Nat} (hx : x.length = n) (k : Nat) : (twoV x x k).length = twoV n n k := by
  unfold twoV; split <;> exact hx
theorem not_both {w : World} {B B' n m c d z z' : Nat} {T T' : TypeId} {p q : Option Nat} {xs ys : List Value} (h : w.ownsRow B T z (sl p n c) n xs) (h' : w.ownsRow B' T' z' (sl q m d) m ys) (hT : T ≠ T') (g : Nat) (e : p = some g) : q ≠ some g := fun e' => by
  rcases rows_apart h h' hT with h1 | h1
  · rw [e] at h1; simp [sl] at h1
  · rw [sl_block, sl_block, e, e'] at h1; exact h1 rfl
theorem ObOwn.keeps {G : Nat → Prop} {w w' : World} {B : Nat} {o : Ob} {vb vs vf vm : Value} (h : ObOwn w B o vb vs vf vm) (hk : Keeps G w w') (hne : ∀ g, B ≤ g → ¬ G g) : ObOwn w' B o vb vs vf vm :=
  ⟨row_keeps h.b hk hne, row_keeps h.s hk hne, row_keeps h.f hk hne, row_keeps h.m hk hne⟩
theorem UOwn.keeps {G : Nat → Prop} {w w' : World} {B : Nat} {v : Value} {xs : List Ob} (h : UOwn w B v xs) (hk : Keeps G w w') (hne : ∀ g, B ≤ g → ¬ G g) : UOwn w' B v xs := by
  obtain ⟨L, h1, h2, h3⟩ := h
  refine ⟨L, h1, row_keeps h2 hk hne, fun i hi => ?_⟩
  obtain ⟨hf, q, hq, ho⟩ := h3 i hi
  exact ⟨hf, q, hq, ho.keeps hk hne⟩
theorem cnt_bound : ∀ (xs : List Ob), (∀ x ∈ xs, x.sy.length ≤ 4096) → cntAt xs xs.length ≤ xs.length * 4096
  | [], _ => Nat.zero_le _
  | x :: xs, h => by
    show x.sy.length + cntAt xs xs.length ≤ (xs.length + 1) * 4096
    have h1 := h x (by simp)
    have h2 := cnt_bound xs fun y hy => h y (by simp [hy])
    omega
theorem tab_small (xs : List Ob) : (tabL xs).ss.length ≤ 16 ∧ (tabL xs).ts.length ≤ 65536 := by
  by_cases h : (tabL xs).e = 0
  · obtain ⟨h16, ht, hok, -, -⟩ := tab_good h
    rw [ht]
    refine ⟨by show (begs 0 xs).length ≤ 16; rw [begs_len]; exact h16, ?_⟩
    show (labs 0 xs).length ≤ 65536
    rw [labs_len]
    have := cnt_bound xs fun x hx => (ok_parts (hok x hx)).2.1
    omega
  · obtain ⟨h1, h2, -⟩ := tab_bad h
    rw [h1, h2]
    exact ⟨Nat.zero_le _, Nat.zero_le _⟩

end Go.Proofs.Ytnmcdkhfjkpklaa

/- switchyardlaw07.SymbolsSpares: true, for every list of units. -/
namespace Go.Proofs.Ytnmcdkhfjkpklaa
open Go.RowKit

theorem same_st (p q : Option Addr) (n c d : Nat) (L : List Sy) (w : World) (hl : L.length = n) (hn : n ≤ 9223372036854775807) (h1 : Row3 w p (L.map syV)) (h2 : Row3 w q (L.map syV)) : Calls Try.prog 19 #[.slice p n c, .slice q n d] w fun e w' => e = .returned (.bool true) ∧ ∃ m, w' = w.drewN m := by
  refine (sameSyms_any p q n c n d L L w hl hl hn hn h1 h2).mono ?_
  rintro E w' ⟨⟨b, rfl, hb⟩, hz⟩
  exact ⟨by rw [hb.2 rfl], hz⟩

set_option maxRecDepth 100000 in
set_option maxHeartbeats 8000000 in
theorem spares_walk (p : Option Addr) (c : Nat) (xs : List Ob) (w : World) (hn96 : xs.length * 96 ≤ 140737488351232) (hx : Units w p xs) (hW : ∀ x ∈ xs, ObW x) :
    Calls Try.prog 8 #[.slice p xs.length c] w fun E w' => E = .returned (.bool true) ∧ Below w.heap.size w w' := by
  have hn63 : xs.length ≤ 9223372036854775807 := by omega
  have hH := heavy_any p xs.length c xs w rfl hn63 hx hW
  have hTT := fun (W : World) (q : Option Addr) (d : Nat) (h : Units W q xs) => table_any q xs.length d xs W rfl hn63 h
  unfold TabIs at hTT
  obtain ⟨hzi, hzt⟩ := tab_small xs
  have HX := Hid.in hx
  have HW := Hid.in hW
  clear hx hW
  generalize tabL xs = T at *
  obtain ⟨ss, ts, te, tu⟩ := T
  simp only at hTT hzi hzt
  obtain ⟨zi, hzi2⟩ : ∃ zi, ss.length = zi := ⟨_, rfl⟩
  obtain ⟨zt, hzt2⟩ : ∃ zt, ts.length = zt := ⟨_, rfl⟩
  rw [hzi2] at hzi
  rw [hzt2] at hzt
  have HZI : Hid ((startsV ss).length = zi) := by
    have h : (startsV ss).length = zi := by unfold startsV; rw [List.length_map]; exact hzi2
    exact h
  have HZT : Hid ((ts.map syV).length = zt) := by
    have h : (ts.map syV).length = zt := by rw [List.length_map]; exact hzt2
    exact h
  have HZT2 := Hid.in hzt2
  clear hzi2 hzt2
  go_enter Try.func8, Try.ntmps8
  go_wp2_with (go_at_call 16; refine Hid.out ?_)
  refine Lib.hid ?_
  refine hH.mono ?_
  rintro E W ⟨b, z0, rfl, rfl⟩
  clear hH
  have HB0 : Hid (Below w.heap.size w (w.drewN z0)) := below_draws (below_self w) z0
  have HS0 : Hid ((w.drewN z0).heap.size = w.heap.size) := rfl
  generalize w.drewN z0 = w0 at *
  cases b with
  | true =>
    go_wp2_with (go_at_call 15; refine (awake_any w0).mono ?_; rintro E w1 ⟨rfl, hb1⟩)
    go_ret
    exact ⟨rfl, below_step HB0.out hb1⟩
  | false =>
    go_wp2_with (go_at_call 9; refine Hid.out ?_)
    refine Lib.hid ?_
    refine (hTT w0 p c (HX.out.below HB0.out)).mono ?_
    rintro E w1 ⟨v1, v2, rfl, hv1, hv2, hb1⟩
    obtain ⟨pa, ca, rfl, oa, ia⟩ := hv1.split HZI.out
    obtain ⟨pc, cc, rfl, oc, ic⟩ := hv2.split HZT.out
    have OA1 := Hid.in oa
    have OC1 := Hid.in oc
    have IA := Hid.in ia
    have IC := Hid.in ic
    have HS1 := Hid.in hb1.size
    have HB1 := Hid.in (below_step HB0.out hb1)
    clear hv1 hv2 hb1 oa ia oc ic HB0
    go_wp2_with (go_at_call 9; refine Hid.out ?_)
    refine Lib.hid ?_
    refine (hTT w1 p c (HX.out.below HB1.out)).mono ?_
    rintro E w2 ⟨v1, v2, rfl, hv1, hv2, hb2⟩
    obtain ⟨pb, cb, rfl, ob, ib⟩ := hv1.split HZI.out
    obtain ⟨pd, cd, rfl, od, id⟩ := hv2.split HZT.out
    have OB2 := Hid.in ob
    have OD2 := Hid.in od
    have IB := Hid.in ib
    have ID := Hid.in id
    have OA2 := Hid.in (OA1.out.below hb2)
    have OC2 := Hid.in (OC1.out.below hb2)
    have HS2 := Hid.in hb2.size
    have HB2 := Hid.in (below_step HB1.out hb2)
    clear hv1 hv2 hb2 ob ib od id HB1 OA1 OC1
    have hee : (te != te) = false := by simp
    go_wp2_with (go_at_call 19; refine Hid.out ?_)
    refine Lib.hid ?_
    refine (same_st (ptr pc) (ptr pd) zt cc cd ts w2 HZT2.out (by omega) OC2.out.rowP OD2.out.rowP).mono ?_
    rintro E W ⟨rfl, z3, rfl⟩
    have HD3 : Hid (Below w2.heap.size w2 (w2.drewN z3)) := below_draws (below_self w2) z3
    have HS3 : Hid ((w2.drewN z3).heap.size = w2.heap.size) := rfl
    have OA3 := Hid.in (OA2.out.below HD3.out)
    have OB3 := Hid.in (OB2.out.below HD3.out)
    have OC3 := Hid.in (OC2.out.below HD3.out)
    have OD3 := Hid.in (OD2.out.below HD3.out)
    have HB3 := Hid.in (below_step HB2.out HD3.out)
    generalize w2.drewN z3 = w3 at *
    clear OA2 OB2 OC2 OD2 HB2 HD3 hee
    go_wp2_with (go_at_call 26; refine Hid.out ?_)
    refine Lib.hid ?_
    refine (copySymsV_any (ptr pc) zt cc ts w3 HZT2.out (by omega) OC3.out.rowP).mono ?_
    rintro E w4 ⟨v4, rfl, hv4, hb4⟩
    have OW4 := Hid.in hv4
    have HD4 := Hid.in hb4
    obtain ⟨p4, c4, hv4', -, -, -⟩ := hv4.row3
    rw [HZT.out] at hv4'
    subst hv4'
    have HB4 := Hid.in (below_step HB3.out hb4)
    clear hv4 hb4
    go_wp2_with (go_at_call 17; refine Hid.out ?_)
    refine Lib.hid ?_
    refine (copyObjects_any p xs.length c xs w4 rfl hn96 (HX.out.below HB4.out) HW.out).mono ?_
    rintro E w5 ⟨v5, rfl, hv5, hb5⟩
    have OU5 := Hid.in hv5
    obtain ⟨p5, c5, hv5', -, -, -⟩ := hv5.slice
    subst hv5'
    have HD5 := Hid.in (below_step HD4.out hb5)
    have OW5 := Hid.in (OW4.out.below hb5)
    have HS4 := Hid.in HD4.out.size
    have HB5 := Hid.in (below_step HB3.out HD5.out)
    clear hv5 hb5 OW4 HD4 HB4
    have hS0 := HS0.out
    have hS1 := HS1.out
    have hS2 := HS2.out
    have hS3 := HS3.out
    have hS4 := HS4.out
    have hS5 := HD5.out.size
    have OA5 := Hid.in (OA3.out.below HD5.out)
    have OB5 := Hid.in ((OB3.out.below HD5.out).lowerV (show w0.heap.size ≤ w1.heap.size from hS1))
    have OC5 := Hid.in (OC3.out.below HD5.out)
    have OD5 := Hid.in (TOwn.lower (OD3.out.below HD5.out) (show w0.heap.size ≤ w1.heap.size from hS1))
    clear OA3 OB3 OC3 OD3 HB3
    have RI := Hid.in (two_out (l := w.heap.size) (r := w2.heap.size) (fun g hg => by have := IA.out g hg; omega) (fun g hg => by have := IB.out g hg; omega) : (∀ g, w2.heap.size ≤ g → ¬ GSet 2 (twoV pa pb) g) ∧ ∀ g, GSet 2 (twoV pa pb) g → w.heap.size ≤ g)
    have RB := Hid.in (two_out (l := w.heap.size) (r := w2.heap.size) (fun g hg => by have := IC.out g hg; omega) (fun g hg => by have := ID.out g hg; omega) : (∀ g, w2.heap.size ≤ g → ¬ GSet 2 (twoV pc pd) g) ∧ ∀ g, GSet 2 (twoV pc pd) g → w.heap.size ≤ g)
    have RX : Hid (∀ g, (pc = some g ∨ pd = some g) → ¬ GSet 2 (twoV pa pb) g) := fun g hg h => by
      have la : ∀ B n, GOwnV 3 w5 B (sl pa n ca) (startsV ss) → n = (startsV ss).length → w5.ownsRow B 3 1 (sl pa n ca) n (startsV ss) := fun B n h e => by rw [e]; rw [e] at h; exact h
      have lb : ∀ B n, GOwnV 3 w5 B (sl pb n cb) (startsV ss) → n = (startsV ss).length → w5.ownsRow B 3 1 (sl pb n cb) n (startsV ss) := fun B n h e => by rw [e]; rw [e] at h; exact h
      have lc : ∀ B n, TOwn 34 w5 B (sl pc n cc) (ts.map syV) → n = (ts.map syV).length → w5.ownsRow B 34 3 (sl pc n cc) n (c3 (ts.map syV)) := fun B n h e => by rw [e]; rw [e] at h; exact h
      have ld : ∀ B n, TOwn 34 w5 B (sl pd n cd) (ts.map syV) → n = (ts.map syV).length → w5.ownsRow B 34 3 (sl pd n cd) n (c3 (ts.map syV)) := fun B n h e => by rw [e]; rw [e] at h; exact h
      have ka := la _ _ OA5.out HZI.out.symm
      have kb := lb _ _ OB5.out HZI.out.symm
      have kc := lc _ _ OC5.out HZT.out.symm
      have kd := ld _ _ OD5.out HZT.out.symm
      rcases two_mem h with e | e <;> rcases hg with e' | e'
      · exact not_both ka kc (by decide) g e e'
      · exact not_both ka kd (by decide) g e e'
      · exact not_both kb kc (by decide) g e e'
      · exact not_both kb kd (by decide) g e e'
    have hAI := apartInts_any 2 w0.heap.size w5.heap.size (twoV pa pb) (twoV zi zi) (twoV ca cb) (twoV (startsV ss) (startsV ss)) (w5.alloc (.cells #[.slice (ptr pa) zi ca, .slice (ptr pb) zi cb] 22)) (by decide)
      (two_apart IA.out IB.out (Nat.le_refl _)) (fun k _ => two_len HZI.out k) (fun k _ => two_le (by omega) k) (by rw [size_one]; omega) (two_own (OA5.out.alloc _) (OB5.out.alloc _)) (tab_two 22 w5 pa pb zi ca cb)
    go_wp2_with (go_at_call 27; refine Hid.out ?_)
    refine Lib.hid ?_
    refine hAI.mono ?_
    rintro E w6 ⟨rfl, hk6⟩
    have OC6 := Hid.in ((OC5.out.alloc _).keeps hk6 (fun g e => RX.out g (.inl e)))
    have OD6 := Hid.in ((OD5.out.alloc _).keeps hk6 (fun g e => RX.out g (.inr e)))
    have OW6 : Hid (TOwn 34 w6 w3.heap.size (.slice p4 zt c4) (ts.map syV)) := row_keeps (OW5.out.alloc _) hk6 (fun g hg => RI.out.1 g (by omega))
    have OU6 := Hid.in ((OU5.out.below (new_alloc w5 _)).keeps hk6 (fun g hg => RI.out.1 g (by omega)))
    have HB6 := Hid.in ((below_alloc HB5.out _).trans (hk6.below (by rw [size_one]; omega) RI.out.2))
    have hS6 := hk6.size
    rw [size_one] at hS6
    clear hk6 OC5 OD5 OW5 OU5 OA5 OB5 HB5 hAI
    have hAS := apartSyms_any 2 w0.heap.size w6.heap.size (twoV pc pd) (twoV zt zt) (twoV cc cd) (twoV (ts.map syV) (ts.map syV)) (w6.alloc (.cells #[.slice (ptr pc) zt cc, .slice (ptr pd) zt cd] 23)) (by decide)
      (two_apart IC.out ID.out (Nat.le_refl _)) (fun k _ => two_len3 HZT.out k) (fun k _ => two_le (by omega) k) (by rw [size_one]; omega) (two_own3 (OC6.out.alloc _) (OD6.out.alloc _)) (tab_two 23 w6 pc pd zt cc cd)
    go_wp2_with (go_at_call 28; refine Hid.out ?_)
    refine Lib.hid ?_
    refine hAS.mono ?_
    rintro E w7 ⟨rfl, hk7⟩
    have OW7 : Hid (TOwn 34 w7 w3.heap.size (.slice p4 zt c4) (ts.map syV)) := row_keeps (OW6.out.alloc _) hk7 (fun g hg => RB.out.1 g (by omega))
    have OU7 := Hid.in ((OU6.out.below (new_alloc w6 _)).keeps hk7 (fun g hg => RB.out.1 g (by omega)))
    have HB7 := Hid.in ((below_alloc HB6.out _).trans (hk7.below (by rw [size_one]; omega) RB.out.2))
    clear hk7 OC6 OD6 OW6 OU6 HB6 hAS
    obtain ⟨p5', c5', e5, -, -, hu7⟩ := OU7.out.slice
    injection e5 with e51 e52 e53
    subst e51
    clear e52 e53
    obtain ⟨p4', c4', e4, -, -, hr7⟩ := OW7.out.row3
    injection e4 with e41 e42 e43
    subst e41
    clear e42 e43
    have HU7 := Hid.in hu7
    have HR7 := Hid.in hr7
    clear hu7 hr7 OU7 OW7
    go_wp2_with (go_at_call 9; refine Hid.out ?_)
    refine Lib.hid ?_
    refine (hTT w7 p5 c5 HU7.out).mono ?_
    rintro E w8 ⟨v1, v2, rfl, hv1, hv2, hb8⟩
    obtain ⟨p9, c9, hv9, -, -, hr9⟩ := hv2.row3
    rw [HZT.out] at hv9
    subst hv9
    have HR9 := Hid.in hr9
    have HR8 := Hid.in (HR7.out.below hb8)
    have HU8 := Hid.in (HU7.out.below hb8)
    have HB8 := Hid.in (below_step HB7.out hb8)
    clear hv1 hv2 hb8 hr9 HR7 HU7 HB7
    go_wp2_with (go_at_call 19; refine Hid.out ?_)
    refine Lib.hid ?_
    refine (same_st p9 p4 zt c9 c4 ts w8 HZT2.out (by omega) HR9.out HR8.out).mono ?_
    rintro E W ⟨rfl, z9, rfl⟩
    have HD9 : Hid (Below w8.heap.size w8 (w8.drewN z9)) := below_draws (below_self w8) z9
    have HB9 := Hid.in (below_step HB8.out HD9.out)
    have HU9 := Hid.in (HU8.out.below HD9.out)
    generalize w8.drewN z9 = w9 at *
    clear HR9 HR8 HU8 HB8 HD9
    go_wp2_with (go_at_call 20; refine Hid.out ?_)
    refine Lib.hid ?_
    refine (sameObjects_self p p5 xs.length c c5 xs w9 rfl hn63 (HX.out.below HB9.out) HU9.out).mono ?_
    rintro E w10 ⟨rfl, hb10⟩
    have HB10 := Hid.in (below_step HB9.out hb10)
    go_wp2_with (go_at_call 15; refine (awake_any w10).mono ?_; rintro E w11 ⟨rfl, hb11⟩)
    go_ret
    exact ⟨rfl, below_step HB10.out hb11⟩

end Go.Proofs.Ytnmcdkhfjkpklaa

namespace Go.Proofs.Ytnmcdkhfjkpklaa
open Go.ChangeShapes Go.WideShapes Go.ChangeAt Go.RowKit
open Go.ChangeMaps (open_string shut_string)

set_option maxRecDepth 100000 in
theorem symbolsSpares_lifted (os : Os) (started : os.Started) (H : Type) (enc : TypeId × Value → H) :
    ReturnsInHanded {} Try.checked os 8 .any (Rows.symbolsSparesSpec.pre6 enc Try.prog Try.f8 Rows.symbolsSparesRow.domain false) (Rows.symbolsSparesSpec.post enc Try.prog Try.f8 false true false false) := by
  refine returnsInHanded_of_change_sized (C := Try.checked) Try.own started (by kernel_rfl) Try.func8
    (ChangeSpec.witness6 (enc := enc) (C := Try.checked) false ⟨#[], #[.slice none 0 0], []⟩ 8 (by kernel_rfl) (by kernel_rfl) (by kernel_rfl) (by kernel_rfl)) ?_
  intro W base args ds gs before hval0 hW hcnd hsz0 _
  have hW' := hW
  obtain ⟨p, q, hA0, hV, rfl, hfz, hnd⟩ := hW
  have hA : DataW.TrodAll enc Try.prog W 0 (fun _ => true) true Try.f8.params.toList args.toList ds p := hA0
  have hval : ∀ (j : Nat) t v, Try.f8.params[j]? = some t → args[j]? = some v → Value.okWide Try.prog W .any base t v := hval0
  have hsz : (DataW.weightsEach Try.prog (Try.f8.params.toList ++ Rows.symbolsSparesSpec.plain.varTypes Try.prog) (ds ++ gs)).all (· ≤ reachBytes) = true := hsz0
  rw [Try.params8] at hA hval hsz
  obtain ⟨v0, vs0, d0, ds0, p0, q0_, hargs, rfl, rfl, h0, r0⟩ := trodAll_cons hA
  obtain ⟨rfl, rfl, rfl⟩ := trodAll_nil r0
  obtain rfl : args = #[v0] := by cases args; simp_all
  obtain ⟨rfl, rfl⟩ := trodVars_none hV
  have k0 := h0
  have lt0 : ∀ x ∈ p0, x.block < W.heap.size := by obtain ⟨m, hm⟩ := k0; exact DataW.trod_lt m _ _ _ hm
  obtain ⟨q0, e0, L0, rfl, hl0, hm0, hb0, hu0, hw0⟩ := open_units_val (hval 0 27 v0 rfl rfl) h0 hsz (j := 0) rfl rfl
  refine (spares_walk q0 e0 L0 W hb0 hu0 hw0).mono fun e W' ⟨he, bel⟩ => ?_
  subst he
  exact ⟨_, rfl, _, _, _, [], _, [], hW', trodAll_mk1 (shut_bool Try.underlying4 _), (trodAll_cons_mk (Below.trod Try.laidOut (by kernel_rfl) (of_decide_eq_true (by kernel_rfl)) k0 bel lt0) trodAll_mk0), rfl, bel.frame _, fun h => by cases h⟩

theorem symbolsSpares_holds : Rows.SymbolsSparesSaid :=
  OpenClaim.holds_of_wide 8 Try.f8 rfl rfl rfl rfl rfl rfl rfl ⟨rfl, rfl, rfl, rfl, rfl⟩ rfl rfl rfl rfl rfl (by kernel_rfl) Try.func8 (by kernel_rfl)
    (of_decide_eq_true (by kernel_rfl)) (by unfold Func.isWrapper; first | (rw [if_pos (by decide +kernel)]; kernel_rfl) | (rw [if_neg (by decide +kernel)]; exact ⟨rfl, rfl⟩))
    (fun os started H enc _ => symbolsSpares_lifted os started H enc)
#print axioms symbolsSpares_holds

end Go.Proofs.Ytnmcdkhfjkpklaa
