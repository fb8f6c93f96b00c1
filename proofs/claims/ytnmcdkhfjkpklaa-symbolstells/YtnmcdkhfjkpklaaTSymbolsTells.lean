/-
  Proved here: the law SymbolsTells (switchyardlaw07) answers true for every input, and each argument reads afterwards as it read before. No condition of ours: the row's own reach alone (each slice and text takes at most 2^47 - 4096 bytes).
-/
import Derived.Test.YtnmcdkhfjkpklaaKit3
import Derived.Test.YtnmcdkhfjkpklaaSame
import Derived.Test.YtnmcdkhfjkpklaaRObj
import Derived.Test.YtnmcdkhfjkpklaaTabW
import Derived.Deep.RegionHeld3
import Derived.Test.YtnmcdkhfjkpklaaCpy3
import Derived.Test.YtnmcdkhfjkpklaaCopy
import Derived.Test.YtnmcdkhfjkpklaaRowsA
import Derived.Test.YtnmcdkhfjkpklaaHvyW
import Derived.Test.YtnmcdkhfjkpklaaAwkW
import Derived.Test.YtnmcdkhfjkpklaaRTab
import Derived.Test.YtnmcdkhfjkpklaaStaL
import Derived.Test.YtnmcdkhfjkpklaaOpenU

/- switchyardkit.SameObject. -/
namespace Go.Proofs.Ytnmcdkhfjkpklaa
open Go.RowKit

theorem ob_eq {o o' : Ob} : o = o' ↔ o.bs = o'.bs ∧ o.sy = o'.sy ∧ o.fx = o'.fx ∧ o.mk_ = o'.mk_ := by
  constructor
  · rintro rfl; exact ⟨rfl, rfl, rfl, rfl⟩
  · obtain ⟨a, b, c, d⟩ := o
    obtain ⟨a', b', c', d'⟩ := o'
    rintro ⟨h1, h2, h3, h4⟩
    simp only at h1 h2 h3 h4
    subst h1 h2 h3 h4
    rfl
theorem max63 {n : Nat} (h : n ≤ maxLen) : n ≤ 9223372036854775807 := by unfold maxLen at h; omega
/-- whether it holds -/
noncomputable def eqB (P : Prop) : Bool := @decide P (Classical.propDecidable P)
theorem eqB_iff (P : Prop) : eqB P = true ↔ P := by simp [eqB]
theorem eqB_of {b : Bool} {P : Prop} (h : b = true ↔ P) : b = eqB P := by
  cases hb : eqB P with
  | true => exact h.2 ((eqB_iff P).1 hb)
  | false =>
    cases b with
    | false => rfl
    | true => rw [(eqB_iff P).2 (h.1 rfl)] at hb; cases hb
theorem calls_eqB {f : FuncId} {vs : Array Value} {w : World} {P : Prop} (h : Calls Try.prog f vs w fun E w' => (∃ b, E = .returned (.bool b) ∧ (b = true ↔ P)) ∧ ∃ z, w' = w.drewN z) :
    Calls Try.prog f vs w fun E w' => E = .returned (.bool (eqB P)) ∧ ∃ z, w' = w.drewN z := by
  refine h.mono ?_
  rintro E w' ⟨⟨b, rfl, hb⟩, hz⟩
  exact ⟨by rw [eqB_of hb], hz⟩
theorem eqB_same (o o' : Ob) : eqB (o = o') = (eqB (o.bs = o'.bs) && eqB (o.sy = o'.sy) && eqB (o.fx = o'.fx) && eqB (o.mk_ = o'.mk_)) := by
  refine (eqB_of ?_).symm
  simp only [Bool.and_eq_true, eqB_iff]
  rw [ob_eq]
  constructor
  · rintro ⟨⟨⟨a, b⟩, c⟩, d⟩; exact ⟨a, b, c, d⟩
  · rintro ⟨a, b, c, d⟩; exact ⟨⟨⟨a, b⟩, c⟩, d⟩
theorem equal_draw {f : FuncId} {vs : Array Value} {w : World} {b : Bool} (h : Calls Try.prog f vs w fun E w' => E = .returned (.bool b) ∧ w' = w) : Calls Try.prog f vs w fun E w' => E = .returned (.bool b) ∧ ∃ z, w' = w.drewN z :=
  h.mono fun _ _ k => ⟨k.1, 0, k.2⟩
theorem sameB_eqB (xs ys : List Int) : sameB xs ys = eqB (xs = ys) := eqB_of (by simp [sameB])

set_option maxRecDepth 20000 in
set_option maxHeartbeats 2000000 in
theorem sameObject_any (o o' : Ob) (pb ps pf pm : Option Addr) (nb cb ns cs nf cf nm cm : Nat) (qb qs qf qm : Option Addr) (mb db ms ds mf df mm dm : Nat) (w : World) (h : ObIn w o pb ps pf pm nb cb ns cs nf cf nm cm) (h' : ObIn w o' qb qs qf qm mb db ms ds mf df mm dm) :
    Calls Try.prog 37 #[.agg (obA pb ps pf pm nb cb ns cs nf cf nm cm), .agg (obA qb qs qf qm mb db ms ds mf df mm dm)] w fun E w' => E = .returned (.bool (eqB (o = o'))) ∧ Below w.heap.size w w' := by
  have hB := fun W (k : ObIn W o pb ps pf pm nb cb ns cs nf cf nm cm) (k' : ObIn W o' qb qs qf qm mb db ms ds mf df mm dm) => sameBytes_any pb qb nb cb mb db o.bs o'.bs W k.lb k'.lb (max63 (Nat.le_trans k.kb k.mb)) k.rb k'.rb
  have hS := fun W (k : ObIn W o pb ps pf pm nb cb ns cs nf cf nm cm) (k' : ObIn W o' qb qs qf qm mb db ms ds mf df mm dm) => calls_eqB (sameSyms_any ps qs ns cs ms ds o.sy o'.sy W k.ls k'.ls (max63 k.ks) (max63 k'.ks) k.rs k'.rs)
  have hF := fun W (k : ObIn W o pb ps pf pm nb cb ns cs nf cf nm cm) (k' : ObIn W o' qb qs qf qm mb db ms ds mf df mm dm) => calls_eqB (sameFixes_any pf qf nf cf mf df o.fx o'.fx W k.lf k'.lf (max63 k.kf) (max63 k'.kf) k.rf k'.rf)
  have hM := fun W (k : ObIn W o pb ps pf pm nb cb ns cs nf cf nm cm) (k' : ObIn W o' qb qs qf qm mb db ms ds mf df mm dm) => calls_eqB (sameMarks_any pm qm nm cm mm dm o.mk_ o'.mk_ W k.lm k'.lm (max63 k.km) (max63 k'.km) k.rm k'.rm)
  simp only [sameB_eqB] at hB
  rw [eqB_same]
  generalize eqB (o.bs = o'.bs) = r0 at *
  generalize eqB (o.sy = o'.sy) = r1 at *
  generalize eqB (o.fx = o'.fx) = r2 at *
  generalize eqB (o.mk_ = o'.mk_) = r3 at *
  have H := Hid.in h
  have H' := Hid.in h'
  clear h h'
  have HA0 : Hid (Blk ((w.alloc (.cells (obA pb ps pf pm nb cb ns cs nf cf nm cm) 39)).alloc (.cells (obA qb qs qf qm mb db ms ds mf df mm dm) 39)) w.heap.size 39 (obA pb ps pf pm nb cb ns cs nf cf nm cm)) := (Blk.new w 39 _).grow (new_alloc _ _)
  have HB0 : Hid (Blk ((w.alloc (.cells (obA pb ps pf pm nb cb ns cs nf cf nm cm) 39)).alloc (.cells (obA qb qs qf qm mb db ms ds mf df mm dm) 39)) (w.heap.size + 1) 39 (obA qb qs qf qm mb db ms ds mf df mm dm)) := by
    have := Blk.new (w.alloc (.cells (obA pb ps pf pm nb cb ns cs nf cf nm cm) 39)) 39 (obA qb qs qf qm mb db ms ds mf df mm dm)
    rw [size_one] at this
    exact this
  have HW0 : Hid (Below w.heap.size w ((w.alloc (.cells (obA pb ps pf pm nb cb ns cs nf cf nm cm) 39)).alloc (.cells (obA qb qs qf qm mb db ms ds mf df mm dm) 39))) := below_alloc (new_alloc w _) _
  go_enter Try.func37, Try.ntmps37
  go_upto_region 1 with fail
  generalize (w.alloc (.cells (obA pb ps pf pm nb cb ns cs nf cf nm cm) 39)).alloc (.cells (obA qb qs qf qm mb db ms ds mf df mm dm) 39) = w0 at *
  have HI : Hid (∀ z, ObIn (w0.drewN z) o pb ps pf pm nb cb ns cs nf cf nm cm) := fun z => (H.out.below HW0.out).below (below_draws (below_self _) z)
  have HI' : Hid (∀ z, ObIn (w0.drewN z) o' qb qs qf qm mb db ms ds mf df mm dm) := fun z => (H'.out.below HW0.out).below (below_draws (below_self _) z)
  have a0 : w0.cell? ⟨w.heap.size, 0, none⟩ = some (.slice pb nb cb) := HA0.out.cell 0
  have a1 : w0.cell? ⟨w.heap.size, 1, none⟩ = some (.slice ps ns cs) := HA0.out.cell 1
  have a2 : w0.cell? ⟨w.heap.size, 2, none⟩ = some (.slice pf nf cf) := HA0.out.cell 2
  have a3 : w0.cell? ⟨w.heap.size, 3, none⟩ = some (.slice pm nm cm) := HA0.out.cell 3
  have b0 : w0.cell? ⟨w.heap.size + 1, 0, none⟩ = some (.slice qb mb db) := HB0.out.cell 0
  have b1 : w0.cell? ⟨w.heap.size + 1, 1, none⟩ = some (.slice qs ms ds) := HB0.out.cell 1
  have b2 : w0.cell? ⟨w.heap.size + 1, 2, none⟩ = some (.slice qf mf df) := HB0.out.cell 2
  have b3 : w0.cell? ⟨w.heap.size + 1, 3, none⟩ = some (.slice qm mm dm) := HB0.out.cell 3
  cases r0 with
  | false =>
    go_wp2_with (first
      | (go_at_call 49; refine (hB _ (H.out.below HW0.out) (H'.out.below HW0.out)).mono ?_; rintro E W ⟨rfl, z19, rfl⟩))
    go_ret
    exact ⟨rfl, HW0.out.trans ((below_draws (below_self w0) _).mono HW0.out.size)⟩
  | true =>
    cases r1 with
    | false =>
      go_wp2_with (first
        | (go_at_call 49; refine (hB _ (H.out.below HW0.out) (H'.out.below HW0.out)).mono ?_; rintro E W ⟨rfl, z19, rfl⟩)
        | (go_at_call 19; refine (hS _ (HI.out _) (HI'.out _)).mono ?_; rintro E W ⟨rfl, z32, rfl⟩))
      go_ret
      exact ⟨rfl, HW0.out.trans ((below_draws (below_self w0) _).mono HW0.out.size)⟩
    | true =>
      cases r2 with
      | false =>
        go_wp2_with (first
          | (go_at_call 49; refine (hB _ (H.out.below HW0.out) (H'.out.below HW0.out)).mono ?_; rintro E W ⟨rfl, z19, rfl⟩)
          | (go_at_call 19; refine (hS _ (HI.out _) (HI'.out _)).mono ?_; rintro E W ⟨rfl, z32, rfl⟩)
          | (go_at_call 50; refine (hF _ (HI.out _) (HI'.out _)).mono ?_; rintro E W ⟨rfl, z33, rfl⟩))
        go_ret
        exact ⟨rfl, HW0.out.trans ((below_draws (below_self w0) _).mono HW0.out.size)⟩
      | true =>
        go_wp2_with (first
          | (go_at_call 49; refine (hB _ (H.out.below HW0.out) (H'.out.below HW0.out)).mono ?_; rintro E W ⟨rfl, z19, rfl⟩)
          | (go_at_call 19; refine (hS _ (HI.out _) (HI'.out _)).mono ?_; rintro E W ⟨rfl, z32, rfl⟩)
          | (go_at_call 50; refine (hF _ (HI.out _) (HI'.out _)).mono ?_; rintro E W ⟨rfl, z33, rfl⟩)
          | (go_at_call 51; refine (hM _ (HI.out _) (HI'.out _)).mono ?_; rintro E W ⟨rfl, z34, rfl⟩))
        go_ret
        exact ⟨rfl, HW0.out.trans ((below_draws (below_self w0) _).mono HW0.out.size)⟩

end Go.Proofs.Ytnmcdkhfjkpklaa

/- switchyardkit.SameObjects, of the same units. -/
namespace Go.Proofs.Ytnmcdkhfjkpklaa
open Go.RowKit

set_option maxRecDepth 20000 in
set_option maxHeartbeats 4000000 in
theorem sameObjects_self (p q : Option Addr) (n c d : Nat) (xs : List Ob) (w : World) (hn : xs.length = n) (hn63 : n ≤ 9223372036854775807) (hx : Units w p xs) (hy : Units w q xs) :
    Calls Try.prog 20 #[.slice p n c, .slice q n d] w fun E w' => E = .returned (.bool true) ∧ Below w.heap.size w w' := by
  have HX := Hid.in hx
  have HY := Hid.in hy
  have HN := Hid.in hn
  clear hx hy hn
  have hne : ((n : Int) != (n : Int)) = false := by simp
  go_enter Try.func20, Try.ntmps20
  go_wp2_with fail
  go_loopw [5] (fun vi wr => ∃ k : Nat, vi = .int .i64 k ∧ k ≤ n ∧ Below w.heap.size w wr) (fun vi _ => n - (intOf vi).toNat)
  case atStart => exact ⟨0, rfl, Nat.zero_le _, below_self _⟩
  case round =>
    obtain ⟨k, rfl, hk, hb⟩ := hrel
    have HB := Hid.in hb
    clear hb
    by_cases hlt : k < n
    · have hkl : k < xs.length := by rw [HN.out]; exact hlt
      obtain ⟨b, o, hp, hc⟩ := HX.out.below HB.out (by omega)
      obtain ⟨pb, ps, pf, pm, cb, cs, cf, cm, ⟨c0, c1, c2, c3⟩, hI⟩ := hc k hkl
      obtain ⟨b', o', hq, hc'⟩ := HY.out.below HB.out (by omega)
      obtain ⟨qb, qs, qf, qm, db, ds, df, dm, ⟨e0, e1, e2, e3⟩, hJ⟩ := hc' k hkl
      subst hp hq
      have hS := fun W (k1 : ObIn W xs[k] pb ps pf pm xs[k].bs.length cb xs[k].sy.length cs xs[k].fx.length cf xs[k].mk_.length cm) (k2 : ObIn W xs[k] qb qs qf qm xs[k].bs.length db xs[k].sy.length ds xs[k].fx.length df xs[k].mk_.length dm) => sameObject_any xs[k] xs[k] _ _ _ _ _ _ _ _ _ _ _ _ _ _ _ _ _ _ _ _ _ _ _ _ W k1 k2
      rw [show eqB (xs[k] = xs[k]) = true from (eqB_iff _).2 rfl] at hS
      have HI := Hid.in hI
      have HJ := Hid.in hJ
      clear hc hc' hI hJ
      generalize xs[k] = x at *
      go_upto_region 6 with fail
      go_region_held3 (fun W => (W.cell? ⟨b, o + k * 4, none⟩ = some (.slice pb x.bs.length cb) ∧ W.cell? ⟨b, o + k * 4 + 1, none⟩ = some (.slice ps x.sy.length cs) ∧ W.cell? ⟨b, o + k * 4 + 2, none⟩ = some (.slice pf x.fx.length cf) ∧ W.cell? ⟨b, o + k * 4 + 3, none⟩ = some (.slice pm x.mk_.length cm)) ∧ W.cell? ⟨b', o' + k * 4, none⟩ = some (.slice qb x.bs.length db) ∧ W.cell? ⟨b', o' + k * 4 + 1, none⟩ = some (.slice qs x.sy.length ds) ∧ W.cell? ⟨b', o' + k * 4 + 2, none⟩ = some (.slice qf x.fx.length df) ∧ W.cell? ⟨b', o' + k * 4 + 3, none⟩ = some (.slice qm x.mk_.length dm)) (first | go_keep | exact hk1)
        (first
          | (go_at_call 37; refine (hS _ (HI.out.below (below_draws (below_self wr) 1)) (HJ.out.below (below_draws (below_self wr) 1))).mono ?_; rintro E w1 ⟨rfl, hb1⟩; have HB1 := Hid.in (below_step (below_draws HB.out 1) hb1); have HD1 := below_step (below_draws (below_self wr) 1) hb1; have hk1 : (w1.cell? ⟨b, o + k * 4, none⟩ = some (.slice pb x.bs.length cb) ∧ w1.cell? ⟨b, o + k * 4 + 1, none⟩ = some (.slice ps x.sy.length cs) ∧ w1.cell? ⟨b, o + k * 4 + 2, none⟩ = some (.slice pf x.fx.length cf) ∧ w1.cell? ⟨b, o + k * 4 + 3, none⟩ = some (.slice pm x.mk_.length cm)) ∧ w1.cell? ⟨b', o' + k * 4, none⟩ = some (.slice qb x.bs.length db) ∧ w1.cell? ⟨b', o' + k * 4 + 1, none⟩ = some (.slice qs x.sy.length ds) ∧ w1.cell? ⟨b', o' + k * 4 + 2, none⟩ = some (.slice qf x.fx.length df) ∧ w1.cell? ⟨b', o' + k * 4 + 3, none⟩ = some (.slice qm x.mk_.length dm) := ⟨⟨(HD1.cell (cell_lt c0)).trans c0, (HD1.cell (cell_lt c1)).trans c1, (HD1.cell (cell_lt c2)).trans c2, (HD1.cell (cell_lt c3)).trans c3⟩, (HD1.cell (cell_lt e0)).trans e0, (HD1.cell (cell_lt e1)).trans e1, (HD1.cell (cell_lt e2)).trans e2, (HD1.cell (cell_lt e3)).trans e3⟩; clear hb1 HD1))
      go_wp2_with fail
      go_roundw
      case rel => exact ⟨k + 1, by go_num, by omega, HB1.out⟩
      case measure => simp [intOf]; omega
    · go_wp2_with fail
      go_ret
      exact ⟨rfl, HB.out⟩

end Go.Proofs.Ytnmcdkhfjkpklaa

/- switchyardkit.CopyObject, of lists as great as an argument may be. -/
namespace Go.Proofs.Ytnmcdkhfjkpklaa
open Go.RowKit

abbrev noObj : Array Value := #[.slice none 0 0, .slice none 0 0, .slice none 0 0, .slice none 0 0]
theorem Try.sz39 : (Try.prog.info? 39).map (·.size) = some noObj.size := by kernel_rfl
theorem Blk.load {w : World} {g : Nat} {T : TypeId} {c : Array Value} (hB : Blk w g T c) (t : TypeId) (d : TypeDesc) (hu : Try.prog.underlying t = some d) (hd : d.isRow = true) (hi : (Try.prog.info? t).map (·.size) = some c.size) :
    (loadVar t ⟨g, 0, none⟩).run Try.prog w = .ok (.agg c) w := by
  have := run_loadVar_mid (P := Try.prog) w g 0 t c.toList d hB.range hu hd (by rw [hi, Array.length_toList])
  simpa using this
theorem TOwn.far {T : TypeId} {w : World} {B g : Nat} {v : Value} {L : List V3} (h : TOwn T w B v L) (hg : g < B) : v = .slice none 0 0 ∨ v.ownBlock ≠ some g := by
  rcases h.2 with ⟨e1, _⟩ | ⟨g', cap, cur, e1, e2, _⟩
  · exact .inl e1
  · refine .inr ?_
    rw [e1]
    simp only [Value.ownBlock]
    intro ee
    injection ee with ee
    have : g' = g := ee
    omega
theorem TOwn.lower {T : TypeId} {w : World} {B B' : Nat} {v : Value} {L : List V3} (h : TOwn T w B v L) (hB : B' ≤ B) : TOwn T w B' v L := by
  obtain ⟨h0, h1⟩ := h
  refine ⟨h0, h1.imp id ?_⟩
  rintro ⟨g, cap, cur, e1, e2, e3⟩
  exact ⟨g, cap, cur, e1, Nat.le_trans hB e2, e3⟩
/-- an object that a call has made: its lists in blocks of its own -/
structure ObOwn (w : World) (B : Nat) (o : Ob) (vb vs vf vm : Value) : Prop where
  b : OwnV w B vb o.bs
  s : TOwn 34 w B vs (o.sy.map syV)
  f : TOwn 74 w B vf (o.fx.map fxV)
  m : TOwn 77 w B vm (o.mk_.map mkV)
theorem ObOwn.below {w w' : World} {B : Nat} {o : Ob} {vb vs vf vm : Value} (h : ObOwn w B o vb vs vf vm) (hb : Below w.heap.size w w') : ObOwn w' B o vb vs vf vm := ⟨h.b.below hb, h.s.below hb, h.f.below hb, h.m.below hb⟩
theorem OwnV.low {w : World} {B B' : Nat} {v : Value} {xs : List Int} (h : OwnV w B v xs) (hB : B' ≤ B) : OwnV w B' v xs := by
  rcases h.shape with ⟨rfl, rfl⟩ | ⟨g, cap, rfl, ho⟩
  · exact OwnV.nil _ _
  · exact ho.lower hB
theorem ObOwn.lower {w : World} {B B' : Nat} {o : Ob} {vb vs vf vm : Value} (h : ObOwn w B o vb vs vf vm) (hB : B' ≤ B) : ObOwn w B' o vb vs vf vm := ⟨h.b.low hB, h.s.lower hB, h.f.lower hB, h.m.lower hB⟩
theorem OwnV.slice2 {w : World} {B : Nat} {v : Value} {xs : List Int} (h : OwnV w B v xs) : ∃ p cap, v = .slice p xs.length cap ∧ Row w p xs ∧ xs.length ≤ cap ∧ cap ≤ maxLen := by
  rcases h.shape with ⟨rfl, rfl⟩ | ⟨g, cap, rfl, ho⟩
  · exact ⟨none, 0, rfl, fun h => absurd h (Nat.lt_irrefl 0), Nat.le_refl _, Nat.zero_le _⟩
  · obtain ⟨cur, _, _, h3, h4, _⟩ := ho.parts
    exact ⟨_, cap, rfl, ho.row, h3, h4⟩
/-- .. seen as one in memory -/
theorem ObOwn.inn {w : World} {B : Nat} {o : Ob} {vb vs vf vm : Value} (h : ObOwn w B o vb vs vf vm) (hf : ObF o) :
    ∃ pb ps pf pm cb cs cf cm, (vb = .slice pb o.bs.length cb ∧ vs = .slice ps o.sy.length cs ∧ vf = .slice pf o.fx.length cf ∧ vm = .slice pm o.mk_.length cm) ∧ ObIn w o pb ps pf pm o.bs.length cb o.sy.length cs o.fx.length cf o.mk_.length cm := by
  obtain ⟨pb, cb, e1, r1, k1, m1⟩ := h.b.slice2
  obtain ⟨ps, cs, e2, k2, m2, r2⟩ := h.s.row3
  obtain ⟨pf, cf, e3, k3, m3, r3⟩ := h.f.row3
  obtain ⟨pm, cm, e4, k4, m4, r4⟩ := h.m.row3
  rw [List.length_map] at e2 k2 e3 k3 e4 k4
  exact ⟨pb, ps, pf, pm, cb, cs, cf, cm, ⟨e1, e2, e3, e4⟩, ⟨rfl, rfl, rfl, rfl, k1, m1, Nat.le_trans k2 m2, Nat.le_trans k3 m3, Nat.le_trans k4 m4, r1, r2, r3, r4, hf⟩⟩

theorem OwnV.keptFar {w w' : World} {B g : Nat} {v : Value} {xs : List Int} (h : OwnV w B v xs) (hg : w.grownBy w' (some g)) (hB : g < B) : OwnV w' B v xs := by
  rcases h.shape with ⟨rfl, rfl⟩ | ⟨g', cap, rfl, ho⟩
  · exact OwnV.nil _ _
  · refine World.ownsRow.kept h hg (.inr (fun e => ?_))
    have e' : some g' = some g := e
    injection e' with e'
    have := ho.base
    omega

/-- 'append(l, x)', as far as memory goes -/
theorem tpushV {ops : Array Oper} {rest : List Oper} {o : Oper} {a : Act} {Q : Exit → Act → World → Prop} {t T : TypeId} {by_ : Nat} (he : Elem3 t T by_) (w : World) (hgd : o.guard = none) (s x : Operand)
    (ho : o.op = .call { callee := .builtin .append, args := #[s, x], argTypes := #[t, t] }) (B : Nat) (v : Value) (L : List V3) (hs : a.eval s = v) (hown : TOwn T w B v L)
    (ad : Addr) (c : Nat) (q : V3) (hq : one3 q) (hx : a.eval x = .slice (some ad) 1 c) (hnews : ∀ j u, (l3 q)[j]? = some u → w.cell? (ad.add j) = some u)
    (hlen : L.length ≤ 4398046511000) (hby : (L.length + 1) * by_ ≤ 140737488355328) (hB : B ≤ w.heap.size)
    (h : ∀ v' w', TOwn T w' B v' (L ++ [q]) → w.grownBy w' v.ownBlock → (∀ w0, Below B w0 w → Below B w0 w') → wpList Try.prog ops Q rest (a.put o.dst v') w') :
    wpList Try.prog ops Q (o :: rest) a w := by
  obtain ⟨hu, z, hzc, hinfo⟩ := he
  obtain ⟨i0, hi, hz0, hz1, hz2⟩ := info_parts hinfo
  refine wpList_append_own w hgd s x t ho B T i0 z 3 by_ hu hi hz0 hz1 hz2 hzc (by decide) v L.length (c3 L) hs hown ad 1 c (l3 q) hx rfl hnews (one3_mem hq) (by unfold maxLen; omega) hby hB ?_
  intro v' w' h2 h3 _
  refine h v' w' ?_ h3 (fun w0 hb => hb.grown h3 hB fun k hk => (World.ownsRow.lt hown k hk).1)
  unfold TOwn
  rw [List.length_append, c3_two]
  have e : c3 [q] = l3 q := by simp [c3]
  rw [e]
  exact h2

set_option maxRecDepth 20000 in
set_option maxHeartbeats 1000000 in
theorem copySymsV_any (p : Option Addr) (n c : Nat) (L : List Sy) (w : World) (hn : L.length = n) (hn6 : n ≤ 4398046510976) (h1 : Row3 w p (L.map syV)) :
    Calls Try.prog 26 #[.slice p n c] w fun E w' => ∃ v, E = .returned v ∧ TOwn 34 w' w.heap.size v (L.map syV) ∧ Below w.heap.size w w' := by
  have HL := Hid.in hn
  have H1 := Hid.in h1
  clear hn h1
  go_enter Try.func26, Try.ntmps26
  go_wp2_with fail
  go_loopw [3, 4] (fun v vi wr => ∃ k : Nat, vi = .int .i64 k ∧ k ≤ n ∧ TOwn 34 wr w.heap.size v ((L.take k).map syV) ∧ Below w.heap.size w wr) (fun _ vi _ => n - (intOf vi).toNat)
  case atStart => exact ⟨0, rfl, Nat.zero_le _, TOwn.nil _ _ _, below_self _⟩
  case round =>
    obtain ⟨k, rfl, hk, hT, hb⟩ := hrel
    have HT := Hid.in hT
    have HB := Hid.in hb
    have hlen : ((L.take k).map syV).length = k := by rw [List.length_map, List.length_take, HL.out]; omega
    obtain ⟨pv, cv, hv, -, -, -⟩ := hT.shape
    rw [hlen] at hv
    subst hv
    have HLEN := Hid.in hlen
    clear hT hb hlen
    by_cases hlt : k < n
    · have hk1 : k < L.length := by rw [HL.out]; exact hlt
      obtain ⟨b, o, rfl, hc⟩ := (H1.out.below HB.out) (by rw [List.length_map]; omega)
      obtain ⟨c0, c1, c2⟩ := cells3 hc k (by rw [List.length_map]; exact hk1)
      simp only [List.getElem_map, syV] at c0 c1 c2
      have HTK : Hid ((L.take (k + 1)).map syV = (L.take k).map syV ++ [syV L[k]]) := by
        rw [List.take_succ_eq_append_getElem hk1, List.map_append]; exact rfl
      clear hc
      generalize (L.take k).map syV = LQ at *
      generalize L[k] = x at *
      have hl1 : LQ.length ≤ 4398046511000 := by have := HLEN.out; omega
      have hl2 : (LQ.length + 1) * 32 ≤ 140737488355328 := by have := HLEN.out; omega
      go_wp2_with (refine tpushV Try.elemSym _ rfl _ _ rfl w.heap.size _ LQ rfl (HT.out.alloc _) ⟨wr.heap.size, 0, none⟩ 1 (.string x.name, .int .i64 x.at_, .bool x.g) ⟨rfl, rfl, rfl⟩ rfl (news3 _ _ _) hl1 hl2 (by have := HB.out.size; simp; omega) ?_; intro v5 w5 hT5 hg5 hb5; have HT5 := Hid.in hT5; have HB5 := Hid.in (hb5 w (below_alloc HB.out _)); clear hT5 hg5 hb5)
      go_roundw
      case rel => exact ⟨k + 1, by go_num, by omega, by rw [HTK.out]; exact HT5.out, HB5.out⟩
      case measure => simp [intOf]; omega
    · have hkn : k = n := by omega
      subst hkn
      have HR : Hid ((L.take k).map syV = L.map syV) := by
        rw [List.take_of_length_le (by rw [HL.out]; exact Nat.le_refl _)]; exact rfl
      rw [HR.out] at HT
      go_wp2_with fail
      go_ret
      exact ⟨_, rfl, HT.out, HB.out⟩

set_option maxRecDepth 20000 in
set_option maxHeartbeats 1000000 in
theorem copyFixesV_any (p : Option Addr) (n c : Nat) (L : List Fx) (w : World) (hn : L.length = n) (hn6 : n ≤ 4398046510976) (h1 : Row3 w p (L.map fxV)) :
    Calls Try.prog 46 #[.slice p n c] w fun E w' => ∃ v, E = .returned v ∧ TOwn 74 w' w.heap.size v (L.map fxV) ∧ Below w.heap.size w w' := by
  have HL := Hid.in hn
  have H1 := Hid.in h1
  clear hn h1
  go_enter Try.func46, Try.ntmps46
  go_wp2_with fail
  go_loopw [3, 4] (fun v vi wr => ∃ k : Nat, vi = .int .i64 k ∧ k ≤ n ∧ TOwn 74 wr w.heap.size v ((L.take k).map fxV) ∧ Below w.heap.size w wr) (fun _ vi _ => n - (intOf vi).toNat)
  case atStart => exact ⟨0, rfl, Nat.zero_le _, TOwn.nil _ _ _, below_self _⟩
  case round =>
    obtain ⟨k, rfl, hk, hT, hb⟩ := hrel
    have HT := Hid.in hT
    have HB := Hid.in hb
    have hlen : ((L.take k).map fxV).length = k := by rw [List.length_map, List.length_take, HL.out]; omega
    obtain ⟨pv, cv, hv, -, -, -⟩ := hT.shape
    rw [hlen] at hv
    subst hv
    have HLEN := Hid.in hlen
    clear hT hb hlen
    by_cases hlt : k < n
    · have hk1 : k < L.length := by rw [HL.out]; exact hlt
      obtain ⟨b, o, rfl, hc⟩ := (H1.out.below HB.out) (by rw [List.length_map]; omega)
      obtain ⟨c0, c1, c2⟩ := cells3 hc k (by rw [List.length_map]; exact hk1)
      simp only [List.getElem_map, fxV] at c0 c1 c2
      have HTK : Hid ((L.take (k + 1)).map fxV = (L.take k).map fxV ++ [fxV L[k]]) := by
        rw [List.take_succ_eq_append_getElem hk1, List.map_append]; exact rfl
      clear hc
      generalize (L.take k).map fxV = LQ at *
      generalize L[k] = x at *
      have hl1 : LQ.length ≤ 4398046511000 := by have := HLEN.out; omega
      have hl2 : (LQ.length + 1) * 32 ≤ 140737488355328 := by have := HLEN.out; omega
      go_wp2_with (refine tpushV Try.elemFix _ rfl _ _ rfl w.heap.size _ LQ rfl (HT.out.alloc _) ⟨wr.heap.size, 0, none⟩ 1 (.int .u8 x.k, .int .i64 x.at_, .string x.name) ⟨rfl, rfl, rfl⟩ rfl (news3 _ _ _) hl1 hl2 (by have := HB.out.size; simp; omega) ?_; intro v5 w5 hT5 hg5 hb5; have HT5 := Hid.in hT5; have HB5 := Hid.in (hb5 w (below_alloc HB.out _)); clear hT5 hg5 hb5)
      go_roundw
      case rel => exact ⟨k + 1, by go_num, by omega, by rw [HTK.out]; exact HT5.out, HB5.out⟩
      case measure => simp [intOf]; omega
    · have hkn : k = n := by omega
      subst hkn
      have HR : Hid ((L.take k).map fxV = L.map fxV) := by
        rw [List.take_of_length_le (by rw [HL.out]; exact Nat.le_refl _)]; exact rfl
      rw [HR.out] at HT
      go_wp2_with fail
      go_ret
      exact ⟨_, rfl, HT.out, HB.out⟩

set_option maxRecDepth 20000 in
set_option maxHeartbeats 1000000 in
theorem copyMarksV_any (p : Option Addr) (n c : Nat) (L : List Mk) (w : World) (hn : L.length = n) (hn6 : n ≤ 3518437208780) (h1 : Row3 w p (L.map mkV)) :
    Calls Try.prog 47 #[.slice p n c] w fun E w' => ∃ v, E = .returned v ∧ TOwn 77 w' w.heap.size v (L.map mkV) ∧ Below w.heap.size w w' := by
  have HL := Hid.in hn
  have H1 := Hid.in h1
  clear hn h1
  go_enter Try.func47, Try.ntmps47
  go_wp2_with fail
  go_loopw [3, 4] (fun v vi wr => ∃ k : Nat, vi = .int .i64 k ∧ k ≤ n ∧ TOwn 77 wr w.heap.size v ((L.take k).map mkV) ∧ Below w.heap.size w wr) (fun _ vi _ => n - (intOf vi).toNat)
  case atStart => exact ⟨0, rfl, Nat.zero_le _, TOwn.nil _ _ _, below_self _⟩
  case round =>
    obtain ⟨k, rfl, hk, hT, hb⟩ := hrel
    have HT := Hid.in hT
    have HB := Hid.in hb
    have hlen : ((L.take k).map mkV).length = k := by rw [List.length_map, List.length_take, HL.out]; omega
    obtain ⟨pv, cv, hv, -, -, -⟩ := hT.shape
    rw [hlen] at hv
    subst hv
    have HLEN := Hid.in hlen
    clear hT hb hlen
    by_cases hlt : k < n
    · have hk1 : k < L.length := by rw [HL.out]; exact hlt
      obtain ⟨b, o, rfl, hc⟩ := (H1.out.below HB.out) (by rw [List.length_map]; omega)
      obtain ⟨c0, c1, c2⟩ := cells3 hc k (by rw [List.length_map]; exact hk1)
      simp only [List.getElem_map, mkV] at c0 c1 c2
      have HTK : Hid ((L.take (k + 1)).map mkV = (L.take k).map mkV ++ [mkV L[k]]) := by
        rw [List.take_succ_eq_append_getElem hk1, List.map_append]; exact rfl
      clear hc
      generalize (L.take k).map mkV = LQ at *
      generalize L[k] = x at *
      have hl1 : LQ.length ≤ 4398046511000 := by have := HLEN.out; omega
      have hl2 : (LQ.length + 1) * 40 ≤ 140737488355328 := by have := HLEN.out; omega
      go_wp2_with (refine tpushV Try.elemMark _ rfl _ _ rfl w.heap.size _ LQ rfl (HT.out.alloc _) ⟨wr.heap.size, 0, none⟩ 1 (.int .i64 x.at_, .string x.key, .string x.to_) ⟨rfl, rfl, rfl⟩ rfl (news3 _ _ _) hl1 hl2 (by have := HB.out.size; simp; omega) ?_; intro v5 w5 hT5 hg5 hb5; have HT5 := Hid.in hT5; have HB5 := Hid.in (hb5 w (below_alloc HB.out _)); clear hT5 hg5 hb5)
      go_roundw
      case rel => exact ⟨k + 1, by go_num, by omega, by rw [HTK.out]; exact HT5.out, HB5.out⟩
      case measure => simp [intOf]; omega
    · have hkn : k = n := by omega
      subst hkn
      have HR : Hid ((L.take k).map mkV = L.map mkV) := by
        rw [List.take_of_length_le (by rw [HL.out]; exact Nat.le_refl _)]; exact rfl
      rw [HR.out] at HT
      go_wp2_with fail
      go_ret
      exact ⟨_, rfl, HT.out, HB.out⟩

set_option maxRecDepth 20000 in
set_option maxHeartbeats 2000000 in
theorem copyObjectV_any (o : Ob) (pb ps pf pm : Option Addr) (nb cb ns cs nf cf nm cm : Nat) (w : World) (h : ObIn w o pb ps pf pm nb cb ns cs nf cf nm cm) (h1 : nb ≤ 140737488351232) (h2 : ns ≤ 4398046510976) (h3 : nf ≤ 4398046510976) (h4 : nm ≤ 3518437208780) :
    Calls Try.prog 35 #[.agg (obA pb ps pf pm nb cb ns cs nf cf nm cm)] w fun E w' => (∃ vb vs vf vm, E = .returned (.agg #[vb, vs, vf, vm]) ∧ ObOwn w' w.heap.size o vb vs vf vm) ∧ Below w.heap.size w w' := by
  have hB := fun W (k : ObIn W o pb ps pf pm nb cb ns cs nf cf nm cm) => copy_any pb nb cb o.bs W k.lb (by omega) k.rb
  have hS := fun W (k : ObIn W o pb ps pf pm nb cb ns cs nf cf nm cm) => copySymsV_any ps ns cs o.sy W k.ls h2 k.rs
  have hF := fun W (k : ObIn W o pb ps pf pm nb cb ns cs nf cf nm cm) => copyFixesV_any pf nf cf o.fx W k.lf h3 k.rf
  have hM := fun W (k : ObIn W o pb ps pf pm nb cb ns cs nf cf nm cm) => copyMarksV_any pm nm cm o.mk_ W k.lm h4 k.rm
  have H := Hid.in h
  clear h
  go_enter Try.func35, Try.ntmps35
  go_upto_region 1 with fail
  have HA0 : Hid (Blk ((w.alloc (.cells (obA pb ps pf pm nb cb ns cs nf cf nm cm) 39)).alloc (.cells noObj 39)) w.heap.size 39 (obA pb ps pf pm nb cb ns cs nf cf nm cm)) := (Blk.new w 39 _).grow (new_alloc _ _)
  have HB0 : Hid (Blk ((w.alloc (.cells (obA pb ps pf pm nb cb ns cs nf cf nm cm) 39)).alloc (.cells noObj 39)) (w.heap.size + 1) 39 noObj) := by
    have := Blk.new (w.alloc (.cells (obA pb ps pf pm nb cb ns cs nf cf nm cm) 39)) 39 noObj
    rw [size_one] at this
    exact this
  have HW0 : Hid (Below w.heap.size w ((w.alloc (.cells (obA pb ps pf pm nb cb ns cs nf cf nm cm) 39)).alloc (.cells noObj 39))) := below_alloc (new_alloc w _) _
  generalize (w.alloc (.cells (obA pb ps pf pm nb cb ns cs nf cf nm cm) 39)).alloc (.cells noObj 39) = w0 at *
  have a0 : w0.cell? ⟨w.heap.size, 0, none⟩ = some (.slice pb nb cb) := HA0.out.cell 0
  have a1 : w0.cell? ⟨w.heap.size, 1, none⟩ = some (.slice ps ns cs) := HA0.out.cell 1
  have a2 : w0.cell? ⟨w.heap.size, 2, none⟩ = some (.slice pf nf cf) := HA0.out.cell 2
  have a3 : w0.cell? ⟨w.heap.size, 3, none⟩ = some (.slice pm nm cm) := HA0.out.cell 3
  go_region_held3 (fun W => W.cell? ⟨w.heap.size, 0, none⟩ = some (.slice pb nb cb) ∧ W.cell? ⟨w.heap.size, 1, none⟩ = some (.slice ps ns cs) ∧ W.cell? ⟨w.heap.size, 2, none⟩ = some (.slice pf nf cf) ∧ W.cell? ⟨w.heap.size, 3, none⟩ = some (.slice pm nm cm)) (first | go_keep | exact hk1 | exact hk2 | exact hk3 | exact hk4)
    (first
      | (go_at_call 45; refine (hB _ (H.out.below (below_draws HW0.out 1))).mono ?_; rintro E w1 ⟨v1, rfl, ho1, hb1⟩; obtain ⟨p1, c1, hv1, -, -, -⟩ := ho1.slice2; subst hv1; have HW1 := Hid.in (below_step (below_draws HW0.out 1) hb1); have HC1 := Hid.in (below_step (below_draws (below_self w0) 1) hb1); have HA1 := Hid.in (HA0.out.grow HC1.out); have HB1 := Hid.in (HB0.out.grow HC1.out); have HO1 := Hid.in ho1; have hk1 : w1.cell? ⟨w.heap.size, 0, none⟩ = some (.slice pb nb cb) ∧ w1.cell? ⟨w.heap.size, 1, none⟩ = some (.slice ps ns cs) ∧ w1.cell? ⟨w.heap.size, 2, none⟩ = some (.slice pf nf cf) ∧ w1.cell? ⟨w.heap.size, 3, none⟩ = some (.slice pm nm cm) := ⟨HA1.out.cell 0, HA1.out.cell 1, HA1.out.cell 2, HA1.out.cell 3⟩; clear ho1 hb1)
      | (go_at_call 26; refine (hS _ (H.out.below HW1.out)).mono ?_; rintro E w2 ⟨v2, rfl, ho2, hb2⟩; obtain ⟨p2, c2, hv2, -, -, -⟩ := ho2.shape; rw [List.length_map] at hv2; subst hv2; have HW2 := Hid.in (below_step HW1.out hb2); have HA2 := Hid.in (HA1.out.grow hb2); have HB2 := Hid.in (HB1.out.grow hb2); have HO2 := Hid.in (HO1.out.below hb2); have HS2 := Hid.in ho2; have hk2 : w2.cell? ⟨w.heap.size, 0, none⟩ = some (.slice pb nb cb) ∧ w2.cell? ⟨w.heap.size, 1, none⟩ = some (.slice ps ns cs) ∧ w2.cell? ⟨w.heap.size, 2, none⟩ = some (.slice pf nf cf) ∧ w2.cell? ⟨w.heap.size, 3, none⟩ = some (.slice pm nm cm) := ⟨HA2.out.cell 0, HA2.out.cell 1, HA2.out.cell 2, HA2.out.cell 3⟩; clear ho2 hb2)
      | (go_at_call 46; refine (hF _ (H.out.below HW2.out)).mono ?_; rintro E w3 ⟨v3, rfl, ho3, hb3⟩; obtain ⟨p3, c3', hv3, -, -, -⟩ := ho3.shape; rw [List.length_map] at hv3; subst hv3; have HW3 := Hid.in (below_step HW2.out hb3); have HA3 := Hid.in (HA2.out.grow hb3); have HB3 := Hid.in (HB2.out.grow hb3); have HO3 := Hid.in (HO2.out.below hb3); have HS3 := Hid.in (HS2.out.below hb3); have HF3 := Hid.in ho3; have hk3 : w3.cell? ⟨w.heap.size, 0, none⟩ = some (.slice pb nb cb) ∧ w3.cell? ⟨w.heap.size, 1, none⟩ = some (.slice ps ns cs) ∧ w3.cell? ⟨w.heap.size, 2, none⟩ = some (.slice pf nf cf) ∧ w3.cell? ⟨w.heap.size, 3, none⟩ = some (.slice pm nm cm) := ⟨HA3.out.cell 0, HA3.out.cell 1, HA3.out.cell 2, HA3.out.cell 3⟩; clear ho3 hb3)
      | (go_at_call 47; refine (hM _ (H.out.below HW3.out)).mono ?_; rintro E w4 ⟨v4, rfl, ho4, hb4⟩; obtain ⟨p4, c4, hv4, -, -, -⟩ := ho4.shape; rw [List.length_map] at hv4; subst hv4; have HW4 := Hid.in (below_step HW3.out hb4); have HA4 := Hid.in (HA3.out.grow hb4); have HB4 := Hid.in (HB3.out.grow hb4); have HO4 := Hid.in (HO3.out.below hb4); have HS4 := Hid.in (HS3.out.below hb4); have HF4 := Hid.in (HF3.out.below hb4); have HM4 := Hid.in ho4; have hk4 : w4.cell? ⟨w.heap.size, 0, none⟩ = some (.slice pb nb cb) ∧ w4.cell? ⟨w.heap.size, 1, none⟩ = some (.slice ps ns cs) ∧ w4.cell? ⟨w.heap.size, 2, none⟩ = some (.slice pf nf cf) ∧ w4.cell? ⟨w.heap.size, 3, none⟩ = some (.slice pm nm cm) := ⟨HA4.out.cell 0, HA4.out.cell 1, HA4.out.cell 2, HA4.out.cell 3⟩; have e0 : w4.cell? ⟨w.heap.size + 1, 0, none⟩ = some (.slice none 0 0) := HB4.out.cell 0; have z0 : w4.frozen? ⟨w.heap.size + 1, 0, none⟩ = false := HB4.out.free 0; have e1 : w4.cell? ⟨w.heap.size + 1, 1, none⟩ = some (.slice none 0 0) := HB4.out.cell 1; have z1 : w4.frozen? ⟨w.heap.size + 1, 1, none⟩ = false := HB4.out.free 1; have e2 : w4.cell? ⟨w.heap.size + 1, 2, none⟩ = some (.slice none 0 0) := HB4.out.cell 2; have z2 : w4.frozen? ⟨w.heap.size + 1, 2, none⟩ = false := HB4.out.free 2; have e3 : w4.cell? ⟨w.heap.size + 1, 3, none⟩ = some (.slice none 0 0) := HB4.out.cell 3; have z3 : w4.frozen? ⟨w.heap.size + 1, 3, none⟩ = false := HB4.out.free 3; clear ho4 hb4))
  have HB5 : Hid (Blk ((((w4.setCell ⟨w.heap.size + 1, 0, none⟩ (.slice p1 o.bs.length c1)).setCell ⟨w.heap.size + 1, 1, none⟩ (.slice p2 o.sy.length c2)).setCell ⟨w.heap.size + 1, 2, none⟩ (.slice p3 o.fx.length c3')).setCell ⟨w.heap.size + 1, 3, none⟩ (.slice p4 o.mk_.length c4)) (w.heap.size + 1) 39 #[.slice p1 o.bs.length c1, .slice p2 o.sy.length c2, .slice p3 o.fx.length c3', .slice p4 o.mk_.length c4]) := HB4.out.setAll #[.slice p1 o.bs.length c1, .slice p2 o.sy.length c2, .slice p3 o.fx.length c3', .slice p4 o.mk_.length c4] rfl
  have HG5 : Hid (w4.grownBy ((((w4.setCell ⟨w.heap.size + 1, 0, none⟩ (.slice p1 o.bs.length c1)).setCell ⟨w.heap.size + 1, 1, none⟩ (.slice p2 o.sy.length c2)).setCell ⟨w.heap.size + 1, 2, none⟩ (.slice p3 o.fx.length c3')).setCell ⟨w.heap.size + 1, 3, none⟩ (.slice p4 o.mk_.length c4)) (some (w.heap.size + 1))) := grown_setCells (w.heap.size + 1) [.slice p1 o.bs.length c1, .slice p2 o.sy.length c2, .slice p3 o.fx.length c3', .slice p4 o.mk_.length c4] 0 w4
  generalize ((((w4.setCell ⟨w.heap.size + 1, 0, none⟩ (.slice p1 o.bs.length c1)).setCell ⟨w.heap.size + 1, 1, none⟩ (.slice p2 o.sy.length c2)).setCell ⟨w.heap.size + 1, 2, none⟩ (.slice p3 o.fx.length c3')).setCell ⟨w.heap.size + 1, 3, none⟩ (.slice p4 o.mk_.length c4)) = w5 at *
  clear e0 e1 e2 e3 z0 z1 z2 z3 hk1 hk2 hk3 hk4 a0 a1 a2 a3 hB hS hF hM
  have l1 : w.heap.size + 1 < w1.heap.size := HB1.out.lt
  have l0 : w.heap.size + 1 < w0.heap.size := HB0.out.lt
  have l2 : w.heap.size + 1 < w2.heap.size := HB2.out.lt
  have l3 : w.heap.size + 1 < w3.heap.size := HB3.out.lt
  go_wp2_with fail
  have hld := HB5.out.load 39 _ Try.underlying39 rfl Try.sz39
  have hB7 := HW4.out.grown HG5.out HW4.out.size (fun k hk => by cases hk; exact Nat.le_succ _)
  exact bodyPost_ret (v := .agg #[.slice p1 o.bs.length c1, .slice p2 o.sy.length c2, .slice p3 o.fx.length c3', .slice p4 o.mk_.length c4]) (by simp [results, Try.results35, asAddr, hld]) rfl
    ⟨⟨_, _, _, _, rfl, ⟨(HO4.out.keptFar HG5.out l0).low (show w.heap.size ≤ w0.heap.size by omega), TOwn.lower (kept_row HS4.out HG5.out (HS4.out.far l1)) (by omega), TOwn.lower (kept_row HF4.out HG5.out (HF4.out.far l2)) (by omega), TOwn.lower (kept_row HM4.out HG5.out (HM4.out.far l3)) (by omega)⟩⟩, hB7⟩

end Go.Proofs.Ytnmcdkhfjkpklaa

/- Lists of units that a call has made; switchyardkit.CopyObjects. -/
namespace Go.Proofs.Ytnmcdkhfjkpklaa
open Go.RowKit

abbrev V4 : Type := Value × Value × Value × Value
def l4 (q : V4) : List Value := [q.1, q.2.1, q.2.2.1, q.2.2.2]
/-- the cells of a list of such elements -/
def c4 (L : List V4) : List Value := L.flatMap l4
theorem c4_len (L : List V4) : (c4 L).length = L.length * 4 := by
  induction L with
  | nil => rfl
  | cons q L ih =>
    unfold c4 at *
    rw [List.flatMap_cons, List.length_append, ih, List.length_cons]
    have : (l4 q).length = 4 := rfl
    omega
theorem c4_two (L M : List V4) : c4 (L ++ M) = c4 L ++ c4 M := by simp [c4]
theorem c4_at : ∀ (L : List V4) (i : Nat) (h : i < L.length) (j : Nat), j < 4 → (c4 L)[i * 4 + j]? = (l4 L[i])[j]?
  | [], i, h, _, _ => absurd h (by simp)
  | q :: L, 0, _, j, hj => by
    unfold c4
    rw [List.flatMap_cons, Nat.zero_mul, Nat.zero_add, List.getElem?_append_left (by show j < 4; exact hj)]
    rfl
  | q :: L, i + 1, h, j, hj => by
    have h' : i < L.length := by simpa using h
    have ih := c4_at L i h' j hj
    unfold c4 at *
    have h3 : (l4 q).length = 4 := rfl
    rw [List.flatMap_cons, List.getElem?_append_right (by rw [h3]; omega), h3, show (i + 1) * 4 + j - 4 = i * 4 + j by omega, ih]
    rfl
/-- a row of units, nil or not -/
def QOwn (w : World) (B : Nat) (v : Value) (L : List V4) : Prop := w.ownsRow B 39 4 v L.length (c4 L)
theorem QOwn.nil (w : World) (B : Nat) : QOwn w B (.slice none 0 0) [] := World.ownsRow_nil _ _ _ _
theorem QOwn.below {w w' : World} {B : Nat} {v : Value} {L : List V4} (h : QOwn w B v L) (hb : Below w.heap.size w w') : QOwn w' B v L := by
  obtain ⟨h0, h1⟩ := h
  refine ⟨h0, h1.imp id ?_⟩
  rintro ⟨g, cap, cur, e1, e2, e3, e4⟩
  exact ⟨g, cap, cur, e1, e2, (hb.block g (Array.getElem?_eq_some_iff.1 e3).1).trans e3, e4⟩
theorem QOwn.shape {w : World} {B : Nat} {v : Value} {L : List V4} (h : QOwn w B v L) : ∃ p cap, v = .slice p L.length cap ∧ L.length ≤ cap ∧ cap ≤ maxLen ∧ (0 < L.length → ∃ g, p = some ⟨g, 0, none⟩ ∧ B ≤ g ∧ g < w.heap.size ∧ ∀ i (hi : i < L.length) j, j < 4 → w.cell? ⟨g, i * 4 + j, none⟩ = (l4 L[i])[j]?) := by
  rcases h.2 with ⟨e1, e2⟩ | ⟨g, cap, cur, e1, e2, e3, e4, e5, _⟩
  · exact ⟨none, 0, by rw [e1, e2], by omega, Nat.zero_le _, fun h0 => by omega⟩
  · refine ⟨_, cap, e1, e4, e5, fun _ => ⟨g, rfl, e2, (Array.getElem?_eq_some_iff.1 e3).1, fun i hi j hj => ?_⟩⟩
    have hr : w.ownsRow B 39 4 v L.length (c4 L) := h
    rw [e1] at hr
    rw [hr.cellAt (i * 4 + j) (by omega), c4_at L i hi j hj]
def one4 (q : V4) : Prop := q.1.oneCell' = true ∧ q.2.1.oneCell' = true ∧ q.2.2.1.oneCell' = true ∧ q.2.2.2.oneCell' = true
theorem one4_mem {q : V4} (h : one4 q) : ∀ u ∈ l4 q, u.oneCell' = true := by
  intro u hu
  simp only [l4, List.mem_cons, List.not_mem_nil, or_false] at hu
  rcases hu with rfl | rfl | rfl | rfl
  · exact h.1
  · exact h.2.1
  · exact h.2.2.1
  · exact h.2.2.2
theorem news4 (w : World) (q : V4) (T : TypeId) : ∀ j u, (l4 q)[j]? = some u → (w.alloc (.cells #[q.1, q.2.1, q.2.2.1, q.2.2.2] T)).cell? ((⟨w.heap.size, 0, none⟩ : Addr).add j) = some u := by
  intro j u hj
  rw [Go.WideShapes.add_plain]
  match j, hj with
  | 0, hj => simpa [l4] using hj
  | 1, hj => simpa [l4] using hj
  | 2, hj => simpa [l4] using hj
  | 3, hj => simpa [l4] using hj
  | j + 4, hj => simp [l4] at hj
theorem Try.elemOb : Try.prog.underlying 27 = some (.slice 39) ∧ ∃ z, z.cells.size = 4 ∧ (Try.prog.info? 39).map (fun i => (i.zero, i.size, i.bytes)) = some (some z, 4, 96) := ⟨Try.underlying27, .agg noObj, rfl, by kernel_rfl⟩

/-- 'append(l, x)' -/
theorem qpush {ops : Array Oper} {rest : List Oper} {o : Oper} {a : Act} {Q : Exit → Act → World → Prop} (w : World) (hgd : o.guard = none) (s x : Operand)
    (ho : o.op = .call { callee := .builtin .append, args := #[s, x], argTypes := #[27, 27] }) (B : Nat) (v : Value) (L : List V4) (hs : a.eval s = v) (hown : QOwn w B v L)
    (ad : Addr) (c : Nat) (q : V4) (hq : one4 q) (hx : a.eval x = .slice (some ad) 1 c) (hnews : ∀ j u, (l4 q)[j]? = some u → w.cell? (ad.add j) = some u)
    (hby : (L.length + 1) * 96 ≤ 140737488355328) (hB : B ≤ w.heap.size)
    (h : ∀ v' w', QOwn w' B v' (L ++ [q]) → w.grownBy w' v.ownBlock → (∀ w0, Below B w0 w → Below B w0 w') → wpList Try.prog ops Q rest (a.put o.dst v') w') :
    wpList Try.prog ops Q (o :: rest) a w := by
  obtain ⟨hu, z, hzc, hinfo⟩ := Try.elemOb
  obtain ⟨i0, hi, hz0, hz1, hz2⟩ := info_parts hinfo
  refine wpList_append_own w hgd s x 27 ho B 39 i0 z 4 96 hu hi hz0 hz1 hz2 hzc (by decide) v L.length (c4 L) hs hown ad 1 c (l4 q) hx rfl hnews (one4_mem hq) (by unfold maxLen; omega) hby hB ?_
  intro v' w' h2 h3 _
  refine h v' w' ?_ h3 (fun w0 hb => hb.grown h3 hB fun k hk => (World.ownsRow.lt hown k hk).1)
  unfold QOwn
  rw [List.length_append, c4_two]
  have e : c4 [q] = l4 q := by simp [c4]
  rw [e]
  exact h2

/-- a list of units that a call has made, with all their lists -/
def UOwn (w : World) (B : Nat) (v : Value) (xs : List Ob) : Prop :=
  ∃ L : List V4, L.length = xs.length ∧ QOwn w B v L ∧ ∀ i (h : i < xs.length), ObF xs[i] ∧ ∃ q, L[i]? = some q ∧ ObOwn w B xs[i] q.1 q.2.1 q.2.2.1 q.2.2.2
theorem UOwn.nil (w : World) (B : Nat) : UOwn w B (.slice none 0 0) [] := ⟨[], rfl, QOwn.nil _ _, fun i h => absurd h (by simp)⟩
theorem UOwn.below {w w' : World} {B : Nat} {v : Value} {xs : List Ob} (h : UOwn w B v xs) (hb : Below w.heap.size w w') : UOwn w' B v xs := by
  obtain ⟨L, h1, h2, h3⟩ := h
  refine ⟨L, h1, h2.below hb, fun i hi => ?_⟩
  obtain ⟨hf, q, hq, ho⟩ := h3 i hi
  exact ⟨hf, q, hq, ho.below hb⟩
theorem UOwn.slice {w : World} {B : Nat} {v : Value} {xs : List Ob} (h : UOwn w B v xs) : ∃ p c, v = .slice p xs.length c ∧ xs.length ≤ c ∧ c ≤ maxLen ∧ Units w p xs := by
  obtain ⟨L, h1, h2, h3⟩ := h
  obtain ⟨p, cap, e1, e2, e3, e4⟩ := h2.shape
  refine ⟨p, cap, by rw [e1, h1], by omega, e3, fun h0 => ?_⟩
  obtain ⟨g, hp, -, -, hc⟩ := e4 (by omega)
  refine ⟨g, 0, hp, fun i hi => ?_⟩
  obtain ⟨hf, q, hq, ho⟩ := h3 i hi
  have hiL : i < L.length := by omega
  obtain rfl : L[i] = q := by rw [List.getElem?_eq_getElem hiL] at hq; exact Option.some.inj hq
  obtain ⟨pb, ps, pf, pm, cb, cs, cf, cm, ⟨k1, k2, k3, k4⟩, hI⟩ := ho.inn hf
  have c0 := hc i hiL 0 (by decide)
  have c1 := hc i hiL 1 (by decide)
  have c2 := hc i hiL 2 (by decide)
  have c3 := hc i hiL 3 (by decide)
  have d0 : w.cell? ⟨g, i * 4 + 0, none⟩ = some L[i].1 := c0
  have d1 : w.cell? ⟨g, i * 4 + 1, none⟩ = some L[i].2.1 := c1
  have d2 : w.cell? ⟨g, i * 4 + 2, none⟩ = some L[i].2.2.1 := c2
  have d3 : w.cell? ⟨g, i * 4 + 3, none⟩ = some L[i].2.2.2 := c3
  rw [k1] at d0
  rw [k2] at d1
  rw [k3] at d2
  rw [k4] at d3
  refine ⟨pb, ps, pf, pm, cb, cs, cf, cm, ⟨?_, ?_, ?_, ?_⟩, hI⟩
  · rw [Nat.zero_add]; exact d0
  · rw [Nat.zero_add]; exact d1
  · rw [Nat.zero_add]; exact d2
  · rw [Nat.zero_add]; exact d3
/-- a unit's lists stay where a row of units grows -/
theorem ObOwn.keptU {w w' : World} {B B' n : Nat} {o : Ob} {vb vs vf vm v : Value} {xs : List Value} (h : ObOwn w B o vb vs vf vm) (hv : w.ownsRow B' 39 4 v n xs) (hg : w.grownBy w' v.ownBlock) : ObOwn w' B o vb vs vf vm :=
  ⟨kept_row h.b hg (rows_apart h.b hv (by decide)), kept_row h.s hg (rows_apart h.s hv (by decide)), kept_row h.f hg (rows_apart h.f hv (by decide)), kept_row h.m hg (rows_apart h.m hv (by decide))⟩
theorem UOwn.grown {w w' : World} {B : Nat} {v v' : Value} {xs : List Ob} {L : List V4} {x : Ob} {q : V4} (h1 : L.length = xs.length) (h2 : QOwn w B v L) (h3 : ∀ i (h : i < xs.length), ObF xs[i] ∧ ∃ q, L[i]? = some q ∧ ObOwn w B xs[i] q.1 q.2.1 q.2.2.1 q.2.2.2)
    (hx : ObOwn w B x q.1 q.2.1 q.2.2.1 q.2.2.2) (hf : ObF x) (hq : QOwn w' B v' (L ++ [q])) (hg : w.grownBy w' v.ownBlock) : UOwn w' B v' (xs ++ [x]) := by
  refine ⟨L ++ [q], by simp [h1], hq, fun i hi => ?_⟩
  by_cases hin : i < xs.length
  · obtain ⟨hfi, q', hq', ho⟩ := h3 i hin
    rw [List.getElem_append_left hin]
    exact ⟨hfi, q', by rw [List.getElem?_append_left (by omega)]; exact hq', ho.keptU h2 hg⟩
  · have e : i = xs.length := by simp at hi; omega
    subst e
    rw [List.getElem_append_right (Nat.le_refl _)]
    simp only [Nat.sub_self, List.getElem_cons_zero]
    exact ⟨hf, q, by rw [List.getElem?_append_right (by omega), h1]; simp, hx.keptU h2 hg⟩

set_option maxRecDepth 20000 in
set_option maxHeartbeats 4000000 in
theorem copyObjects_any (p : Option Addr) (n c : Nat) (xs : List Ob) (w : World) (hn : xs.length = n) (hn96 : n * 96 ≤ 140737488351232) (hx : Units w p xs) (hW : ∀ x ∈ xs, ObW x) :
    Calls Try.prog 17 #[.slice p n c] w fun E w' => ∃ v, E = .returned v ∧ UOwn w' w.heap.size v xs ∧ Below w.heap.size w w' := by
  have HX := Hid.in hx
  have HN := Hid.in hn
  have HW := Hid.in hW
  clear hx hn hW
  go_enter Try.func17, Try.ntmps17
  go_wp2_with fail
  go_loopw [3, 4] (fun v vi wr => ∃ k : Nat, vi = .int .i64 k ∧ k ≤ n ∧ UOwn wr w.heap.size v (xs.take k) ∧ Below w.heap.size w wr) (fun _ vi _ => n - (intOf vi).toNat)
  case atStart => exact ⟨0, rfl, Nat.zero_le _, by rw [List.take_zero]; exact UOwn.nil _ _, below_self _⟩
  case round =>
    obtain ⟨k, rfl, hk, hT, hb⟩ := hrel
    have HB := Hid.in hb
    have HT := Hid.in hT
    have hlen : (xs.take k).length = k := by rw [List.length_take, HN.out]; omega
    obtain ⟨pv, cv, hv, -, -, -⟩ := hT.slice
    rw [hlen] at hv
    subst hv
    clear hT hb
    by_cases hlt : k < n
    · have hkl : k < xs.length := by rw [HN.out]; exact hlt
      obtain ⟨b, o, hp, hc⟩ := HX.out.below HB.out (by omega)
      obtain ⟨pb, ps, pf, pm, cb, cs, cf, cm, ⟨c0, c1, c2, c3⟩, hI⟩ := hc k hkl
      subst hp
      obtain ⟨w1, w2, w3, w4⟩ := HW.out xs[k] (List.getElem_mem hkl)
      have HTK : Hid (xs.take (k + 1) = xs.take k ++ [xs[k]]) := by
        have h : xs.take (k + 1) = xs.take k ++ [xs[k]] := List.take_succ_eq_append_getElem hkl
        exact h
      have HFX := Hid.in hI.fit
      have hC := copyObjectV_any xs[k] pb ps pf pm _ cb _ cs _ cf _ cm wr hI w1 w2 w3 w4
      have HLEN := Hid.in hlen
      clear hc hI w1 w2 w3 w4 hlen
      generalize xs[k] = x at *
      go_wp2_with (first
        | (go_at_call 35; refine hC.mono ?_; rintro E w2 ⟨⟨vb, vs, vf, vm, rfl, ho2⟩, hb2⟩; obtain ⟨pb2, ps2, pf2, pm2, cb2, cs2, cf2, cm2, ⟨rfl, rfl, rfl, rfl⟩, hI2⟩ := ho2.inn HFX.out; have HO2 := Hid.in ho2; have HD2 := Hid.in hb2; have HB2 := Hid.in (below_step HB.out hb2); obtain ⟨L, hL1, hL2, hL3⟩ := HT.out.below hb2; have HL1 := Hid.in hL1; have HL2 := Hid.in hL2; have HL3 := Hid.in hL3; clear hI2 ho2 hb2 hL1 hL2 hL3)
        | (refine qpush _ rfl _ _ rfl w.heap.size _ L rfl (HL2.out.below (new_alloc _ _)) ⟨w2.heap.size, 0, none⟩ 1 (.slice pb2 x.bs.length cb2, .slice ps2 x.sy.length cs2, .slice pf2 x.fx.length cf2, .slice pm2 x.mk_.length cm2) ⟨rfl, rfl, rfl, rfl⟩ rfl (news4 _ _ _) (by have := HL1.out; have := HLEN.out; omega) (by have := HB2.out.size; simp; omega) ?_; intro v5 w5 hT5 hg5 hb5; have HU5 := Hid.in (UOwn.grown HL1.out (HL2.out.below (new_alloc w2 (.cells #[.slice pb2 x.bs.length cb2, .slice ps2 x.sy.length cs2, .slice pf2 x.fx.length cf2, .slice pm2 x.mk_.length cm2] 39))) (fun i hi => ⟨(HL3.out i hi).1, (HL3.out i hi).2.choose, (HL3.out i hi).2.choose_spec.1, (HL3.out i hi).2.choose_spec.2.below (new_alloc w2 _)⟩) ((HO2.out.lower HB.out.size).below (new_alloc w2 _)) HFX.out hT5 hg5); have HB5 := Hid.in (hb5 w (below_alloc HB2.out _)); clear hT5 hg5 hb5))
      go_roundw
      case rel => exact ⟨k + 1, by go_num, by omega, by rw [HTK.out]; exact HU5.out, HB5.out⟩
      case measure => simp [intOf]; omega
    · obtain rfl : k = n := by omega
      have HR : Hid (xs.take k = xs) := by
        have h : xs.take k = xs := List.take_of_length_le (by rw [HN.out]; exact Nat.le_refl _)
        exact h
      rw [HR.out] at HT
      go_wp2_with fail
      go_ret
      exact ⟨_, rfl, HT.out, HB.out⟩

end Go.Proofs.Ytnmcdkhfjkpklaa

/- switchyardlaw07.SymbolsTells: true, for every list of units. -/
namespace Go.Proofs.Ytnmcdkhfjkpklaa
open Go.RowKit

theorem ss_le16 {xs : List Ob} : (tabL xs).ss.length ≤ 16 := by
  by_cases h : (tabL xs).e = 0
  · rw [(tab_ok h).1]
    unfold tabL at h
    by_cases h1 : xs.length > 16
    · rw [if_pos h1] at h; cases h
    · omega
  · rw [(tab_bad h).1]; exact Nat.zero_le _
/-- 'SameInts' of two tables' begins -/
theorem same_starts (p q : Option Addr) (c d : Nat) (ss : List Nat) (w : World) (hl : ss.length ≤ 16) (h1 : GRow w p (startsV ss)) (h2 : GRow w q (startsV ss)) : Calls Try.prog 14 #[.slice p ss.length c, .slice q ss.length d] w fun e w' => e = .returned (.bool true) ∧ ∃ m, w' = w.drewN m := by
  have e : startsV ss = nums (ss.map fun (n : Nat) => (n : Int)) := by unfold startsV nums; rw [List.map_map]; rfl
  rw [e] at h1 h2
  exact sameInts_self p q ss.length c d (ss.map fun (n : Nat) => (n : Int)) w (by omega) (by rw [List.length_map]) h1 h2
theorem same_syms (p q : Option Addr) (c d : Nat) (L : List Sy) (w : World) (hl : L.length ≤ 9223372036854775807) (h1 : Row3 w p (L.map syV)) (h2 : Row3 w q (L.map syV)) : Calls Try.prog 19 #[.slice p L.length c, .slice q L.length d] w fun e w' => e = .returned (.bool true) ∧ ∃ m, w' = w.drewN m := by
  refine (sameSyms_any p q L.length c L.length d L L w rfl rfl hl hl h1 h2).mono ?_
  rintro E w' ⟨⟨b, rfl, hb⟩, hz⟩
  exact ⟨by rw [hb.2 rfl], hz⟩

set_option maxRecDepth 20000 in
set_option maxHeartbeats 4000000 in
theorem tells_walk (p : Option Addr) (n c : Nat) (xs : List Ob) (w : World) (hn : xs.length = n) (hn96 : n * 96 ≤ 140737488351232) (hx : Units w p xs) (hW : ∀ x ∈ xs, ObW x) :
    Calls Try.prog 4 #[.slice p n c] w fun E w' => E = .returned (.bool true) ∧ Below w.heap.size w w' := by
  have hn63 : n ≤ 9223372036854775807 := by omega
  have hH := heavy_any p n c xs w hn hn63 hx hW
  subst hn
  have hss := ss_le16 (xs := xs)
  go_enter Try.func4, Try.ntmps4
  go_wp2_with (go_at_call 16; refine Hid.out ?_)
  refine Lib.hid ?_
  refine hH.mono ?_
  rintro E W ⟨b, z0, rfl, rfl⟩
  clear hH
  have HB0 : Hid (Below w.heap.size w (w.drewN z0)) := below_draws (below_self w) z0
  generalize w.drewN z0 = w0 at *
  cases b with
  | true =>
    go_wp2_with (go_at_call 15; refine (awake_any w0).mono ?_; rintro E w1 ⟨rfl, hb1⟩)
    go_ret
    exact ⟨rfl, below_step HB0.out hb1⟩
  | false =>
    go_wp2_with (go_at_call 17; refine Hid.out ?_)
    refine Lib.hid ?_
    refine (copyObjects_any p xs.length c xs w0 rfl hn96 (hx.below HB0.out) hW).mono ?_
    rintro E w1 ⟨v, rfl, hU, hb1⟩
    have HB1 := Hid.in (below_step HB0.out hb1)
    obtain ⟨pu, cu, rfl, -, -, hu1⟩ := hU.slice
    have HU1 := Hid.in hu1
    clear hb1 hU hu1
    go_wp2_with (go_at_call 9; refine Hid.out ?_)
    refine Lib.hid ?_
    have hT := table_any pu xs.length cu xs w1 rfl hn63 HU1.out
    unfold TabIs at hT
    refine hT.mono ?_
    rintro E w2 ⟨v2, v3, rfl, h2, h3, hb2⟩
    have HB2 := Hid.in (below_step HB1.out hb2)
    have HU2 := Hid.in (HU1.out.below hb2)
    obtain ⟨p2, c2, rfl, hr2, -, -⟩ := h2.slice
    obtain ⟨p3, c3, hv3, hcap1, hcap2, hr3⟩ := h3.row3
    rw [List.length_map] at hv3 hcap1
    subst hv3
    have hts : (tabL xs).ts.length ≤ 9223372036854775807 := max63 (Nat.le_trans hcap1 hcap2)
    have HR2 := Hid.in hr2
    have HR3 := Hid.in hr3
    clear hT h2 h3 hb2 hr2 hr3 hcap1 hcap2
    rw [show (startsV (tabL xs).ss).length = (tabL xs).ss.length from List.length_map _]
    go_wp2_with (go_at_call 18; refine Hid.out ?_)
    refine Lib.hid ?_
    have hT := refTable_any p xs.length c xs w2 rfl hn63 (hx.below HB2.out)
    unfold TabIs at hT
    refine hT.mono ?_
    rintro E w3 ⟨v4, v5, rfl, h4, h5, hb3⟩
    have HB3 := Hid.in (below_step HB2.out hb3)
    have HU3 := Hid.in (HU2.out.below hb3)
    have HR23 := Hid.in (HR2.out.below hb3)
    have HR33 := Hid.in (HR3.out.below hb3)
    obtain ⟨p4, c4, rfl, hr4, -, -⟩ := h4.slice
    obtain ⟨p5, c5, hv5, -, -, hr5⟩ := h5.row3
    rw [List.length_map] at hv5
    subst hv5
    have HR4 := Hid.in hr4
    have HR5 := Hid.in hr5
    clear hT h4 h5 hb3 hr4 hr5 HR2 HR3 HU2
    rw [show (startsV (tabL xs).ss).length = (tabL xs).ss.length from List.length_map _]
    generalize tabL xs = T at *
    obtain ⟨ss, ts, te, tu⟩ := T
    simp only at *
    go_wp2_with (go_at_call 14; refine Hid.out ?_)
    refine Lib.hid ?_
    refine (same_starts p2 p4 c2 c4 ss w3 hss HR23.out HR4.out).mono ?_
    rintro E W ⟨rfl, z4, rfl⟩
    have HD4 : Hid (Below w3.heap.size w3 (w3.drewN z4)) := below_draws (below_self w3) z4
    have HB4 := Hid.in (below_step HB3.out HD4.out)
    have HU4 := Hid.in (HU3.out.below HD4.out)
    have HR34 := Hid.in (HR33.out.below HD4.out)
    have HR54 := Hid.in (HR5.out.below HD4.out)
    generalize w3.drewN z4 = w4 at *
    clear HR23 HR4 HR33 HR5 HU3 HB3 HD4
    go_wp2_with (go_at_call 19; refine Hid.out ?_)
    refine Lib.hid ?_
    refine (same_syms p3 p5 c3 c5 ts w4 hts HR34.out HR54.out).mono ?_
    rintro E W ⟨rfl, z5, rfl⟩
    have HD5 : Hid (Below w4.heap.size w4 (w4.drewN z5)) := below_draws (below_self w4) z5
    have HB5 := Hid.in (below_step HB4.out HD5.out)
    have HU5 := Hid.in (HU4.out.below HD5.out)
    generalize w4.drewN z5 = w5 at *
    go_wp2_with (go_at_call 20; refine Hid.out ?_)
    refine Lib.hid ?_
    have hO := sameObjects_self pu p xs.length cu c xs w5 rfl hn63 HU5.out (hx.below HB5.out)
    refine hO.mono ?_
    rintro E w6 ⟨rfl, hb6⟩
    have HB6 := Hid.in (below_step HB5.out hb6)
    go_wp2_with (go_at_call 15; refine (awake_any w6).mono ?_; rintro E w7 ⟨rfl, hb7⟩)
    go_ret
    exact ⟨rfl, below_step HB6.out hb7⟩

end Go.Proofs.Ytnmcdkhfjkpklaa

namespace Go.Proofs.Ytnmcdkhfjkpklaa
open Go.ChangeShapes Go.WideShapes Go.ChangeAt Go.RowKit
open Go.ChangeMaps (open_string shut_string)

set_option maxRecDepth 100000 in
theorem symbolsTells_lifted (os : Os) (started : os.Started) (H : Type) (enc : TypeId × Value → H) :
    ReturnsInHanded {} Try.checked os 4 .any (Rows.symbolsTellsSpec.pre6 enc Try.prog Try.f4 Rows.symbolsTellsRow.domain false) (Rows.symbolsTellsSpec.post enc Try.prog Try.f4 false true false false) := by
  refine returnsInHanded_of_change_sized (C := Try.checked) Try.own started (by kernel_rfl) Try.func4
    (ChangeSpec.witness6 (enc := enc) (C := Try.checked) false ⟨#[], #[.slice none 0 0], []⟩ 8 (by kernel_rfl) (by kernel_rfl) (by kernel_rfl) (by kernel_rfl)) ?_
  intro W base args ds gs before hval0 hW hcnd hsz0 _
  have hW' := hW
  obtain ⟨p, q, hA0, hV, rfl, hfz, hnd⟩ := hW
  have hA : DataW.TrodAll enc Try.prog W 0 (fun _ => true) true Try.f4.params.toList args.toList ds p := hA0
  have hval : ∀ (j : Nat) t v, Try.f4.params[j]? = some t → args[j]? = some v → Value.okWide Try.prog W .any base t v := hval0
  have hsz : (DataW.weightsEach Try.prog (Try.f4.params.toList ++ Rows.symbolsTellsSpec.plain.varTypes Try.prog) (ds ++ gs)).all (· ≤ reachBytes) = true := hsz0
  rw [Try.params4] at hA hval hsz
  obtain ⟨v0, vs0, d0, ds0, p0, q0_, hargs, rfl, rfl, h0, r0⟩ := trodAll_cons hA
  obtain ⟨rfl, rfl, rfl⟩ := trodAll_nil r0
  obtain rfl : args = #[v0] := by cases args; simp_all
  obtain ⟨rfl, rfl⟩ := trodVars_none hV
  have k0 := h0
  have lt0 : ∀ x ∈ p0, x.block < W.heap.size := by obtain ⟨m, hm⟩ := k0; exact DataW.trod_lt m _ _ _ hm
  obtain ⟨q0, e0, L0, rfl, hl0, hm0, hb0, hu0, hw0⟩ := open_units_val (hval 0 27 v0 rfl rfl) h0 hsz (j := 0) rfl rfl
  refine (tells_walk q0 L0.length e0 L0 W rfl hb0 hu0 hw0).mono fun e W' ⟨he, bel⟩ => ?_
  subst he
  exact ⟨_, rfl, _, _, _, [], _, [], hW', trodAll_mk1 (shut_bool Try.underlying4 _), (trodAll_cons_mk (Below.trod Try.laidOut (by kernel_rfl) (of_decide_eq_true (by kernel_rfl)) k0 bel lt0) trodAll_mk0), rfl, bel.frame _, fun h => by cases h⟩

theorem symbolsTells_holds : Rows.SymbolsTellsSaid :=
  OpenClaim.holds_of_wide 4 Try.f4 rfl rfl rfl rfl rfl rfl rfl ⟨rfl, rfl, rfl, rfl, rfl⟩ rfl rfl rfl rfl rfl (by kernel_rfl) Try.func4 (by kernel_rfl)
    (of_decide_eq_true (by kernel_rfl)) (by unfold Func.isWrapper; first | (rw [if_pos (by decide +kernel)]; kernel_rfl) | (rw [if_neg (by decide +kernel)]; exact ⟨rfl, rfl⟩))
    (fun os started H enc _ => symbolsTells_lifted os started H enc)
#print axioms symbolsTells_holds

end Go.Proofs.Ytnmcdkhfjkpklaa
