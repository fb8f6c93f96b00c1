/- switchyardkit.SameObject. -/
import Derived.Test.YtnmcdkhfjkpklaaKit3
import Derived.Test.YtnmcdkhfjkpklaaSame
import Derived.Test.YtnmcdkhfjkpklaaRObj
namespace Go.Proofs.Ytnmcdkhfjkpklaa
open Go.RowKit

theorem ob_eq {o o' : Ob} : o = o' ↔ o.bs = o'.bs ∧ o.sy = o'.sy ∧ o.fx = o'.fx ∧ o.mk_ = o'.mk_ := by
  constructor
  · rintro rfl; exact ⟨rfl, rfl, rfl, rfl⟩
  · obtain ⟨a, b, c, d⟩ := o
    obtain ⟨a', b', c', d'⟩ := o'
    rintro ⟨h1, h2, h3, h4⟩
    simp only at h1 h2 h3 h4
    subst h1 h2 h3 h4
    rfl
theorem max63 {n : Nat} (h : n ≤ maxLen) : n ≤ 9223372036854775807 := by unfold maxLen at h; omega
/-- whether it holds -/
noncomputable def eqB (P : Prop) : Bool := @decide P (Classical.propDecidable P)
theorem eqB_iff (P : Prop) : eqB P = true ↔ P := by simp [eqB]
theorem eqB_of {b : Bool} {P : Prop} (h : b = true ↔ P) : b = eqB P := by
  cases hb : eqB P with
  | true => exact h.2 ((eqB_iff P).1 hb)
  | false =>
    cases b with
    | false => rfl
    | true => rw [(eqB_iff P).2 (h.1 rfl)] at hb; cases hb
theorem calls_eqB {f : FuncId} {vs : Array Value} {w : World} {P : Prop} (h : Calls Try.prog f vs w fun E w' => (∃ b, E = .returned (.bool b) ∧ (b = true ↔ P)) ∧ ∃ z, w' = w.drewN z) :
    Calls Try.prog f vs w fun E w' => E = .returned (.bool (eqB P)) ∧ ∃ z, w' = w.drewN z := by
  refine h.mono ?_
  rintro E w' ⟨⟨b, rfl, hb⟩, hz⟩
  exact ⟨by rw [eqB_of hb], hz⟩
theorem eqB_same (o o' : Ob) : eqB (o = o') = (eqB (o.bs = o'.bs) && eqB (o.sy = o'.sy) && eqB (o.fx = o'.fx) && eqB (o.mk_ = o'.mk_)) := by
  refine (eqB_of ?_).symm
  simp only [Bool.and_eq_true, eqB_iff]
  rw [ob_eq]
  constructor
  · rintro ⟨⟨⟨a, b⟩, c⟩, d⟩; exact ⟨a, b, c, d⟩
  · rintro ⟨a, b, c, d⟩; exact ⟨⟨⟨a, b⟩, c⟩, d⟩
theorem equal_draw {f : FuncId} {vs : Array Value} {w : World} {b : Bool} (h : Calls Try.prog f vs w fun E w' => E = .returned (.bool b) ∧ w' = w) : Calls Try.prog f vs w fun E w' => E = .returned (.bool b) ∧ ∃ z, w' = w.drewN z :=
  h.mono fun _ _ k => ⟨k.1, 0, k.2⟩
theorem sameB_eqB (xs ys : List Int) : sameB xs ys = eqB (xs = ys) := eqB_of (by simp [sameB])

set_option maxRecDepth 20000 in
set_option maxHeartbeats 2000000 in
theorem sameObject_any (o o' : Ob) (pb ps pf pm : Option Addr) (nb cb ns cs nf cf nm cm : Nat) (qb qs qf qm : Option Addr) (mb db ms ds mf df mm dm : Nat) (w : World) (h : ObIn w o pb ps pf pm nb cb ns cs nf cf nm cm) (h' : ObIn w o' qb qs qf qm mb db ms ds mf df mm dm) :
    Calls Try.prog 37 #[.agg (obA pb ps pf pm nb cb ns cs nf cf nm cm), .agg (obA qb qs qf qm mb db ms ds mf df mm dm)] w fun E w' => E = .returned (.bool (eqB (o = o'))) ∧ Below w.heap.size w w' := by
  have hB := fun W (k : ObIn W o pb ps pf pm nb cb ns cs nf cf nm cm) (k' : ObIn W o' qb qs qf qm mb db ms ds mf df mm dm) => sameBytes_any pb qb nb cb mb db o.bs o'.bs W k.lb k'.lb (max63 (Nat.le_trans k.kb k.mb)) k.rb k'.rb
  have hS := fun W (k : ObIn W o pb ps pf pm nb cb ns cs nf cf nm cm) (k' : ObIn W o' qb qs qf qm mb db ms ds mf df mm dm) => calls_eqB (sameSyms_any ps qs ns cs ms ds o.sy o'.sy W k.ls k'.ls (max63 k.ks) (max63 k'.ks) k.rs k'.rs)
  have hF := fun W (k : ObIn W o pb ps pf pm nb cb ns cs nf cf nm cm) (k' : ObIn W o' qb qs qf qm mb db ms ds mf df mm dm) => calls_eqB (sameFixes_any pf qf nf cf mf df o.fx o'.fx W k.lf k'.lf (max63 k.kf) (max63 k'.kf) k.rf k'.rf)
  have hM := fun W (k : ObIn W o pb ps pf pm nb cb ns cs nf cf nm cm) (k' : ObIn W o' qb qs qf qm mb db ms ds mf df mm dm) => calls_eqB (sameMarks_any pm qm nm cm mm dm o.mk_ o'.mk_ W k.lm k'.lm (max63 k.km) (max63 k'.km) k.rm k'.rm)
  simp only [sameB_eqB] at hB
  rw [eqB_same]
  generalize eqB (o.bs = o'.bs) = r0 at *
  generalize eqB (o.sy = o'.sy) = r1 at *
  generalize eqB (o.fx = o'.fx) = r2 at *
  generalize eqB (o.mk_ = o'.mk_) = r3 at *
  have H := Hid.in h
  have H' := Hid.in h'
  clear h h'
  have HA0 : Hid (Blk ((w.alloc (.cells (obA pb ps pf pm nb cb ns cs nf cf nm cm) 39)).alloc (.cells (obA qb qs qf qm mb db ms ds mf df mm dm) 39)) w.heap.size 39 (obA pb ps pf pm nb cb ns cs nf cf nm cm)) := (Blk.new w 39 _).grow (new_alloc _ _)
  have HB0 : Hid (Blk ((w.alloc (.cells (obA pb ps pf pm nb cb ns cs nf cf nm cm) 39)).alloc (.cells (obA qb qs qf qm mb db ms ds mf df mm dm) 39)) (w.heap.size + 1) 39 (obA qb qs qf qm mb db ms ds mf df mm dm)) := by
    have := Blk.new (w.alloc (.cells (obA pb ps pf pm nb cb ns cs nf cf nm cm) 39)) 39 (obA qb qs qf qm mb db ms ds mf df mm dm)
    rw [size_one] at this
    exact this
  have HW0 : Hid (Below w.heap.size w ((w.alloc (.cells (obA pb ps pf pm nb cb ns cs nf cf nm cm) 39)).alloc (.cells (obA qb qs qf qm mb db ms ds mf df mm dm) 39))) := below_alloc (new_alloc w _) _
  go_enter Try.func37, Try.ntmps37
  go_upto_region 1 with fail
  generalize (w.alloc (.cells (obA pb ps pf pm nb cb ns cs nf cf nm cm) 39)).alloc (.cells (obA qb qs qf qm mb db ms ds mf df mm dm) 39) = w0 at *
  have HI : Hid (∀ z, ObIn (w0.drewN z) o pb ps pf pm nb cb ns cs nf cf nm cm) := fun z => (H.out.below HW0.out).below (below_draws (below_self _) z)
  have HI' : Hid (∀ z, ObIn (w0.drewN z) o' qb qs qf qm mb db ms ds mf df mm dm) := fun z => (H'.out.below HW0.out).below (below_draws (below_self _) z)
  have a0 : w0.cell? ⟨w.heap.size, 0, none⟩ = some (.slice pb nb cb) := HA0.out.cell 0
  have a1 : w0.cell? ⟨w.heap.size, 1, none⟩ = some (.slice ps ns cs) := HA0.out.cell 1
  have a2 : w0.cell? ⟨w.heap.size, 2, none⟩ = some (.slice pf nf cf) := HA0.out.cell 2
  have a3 : w0.cell? ⟨w.heap.size, 3, none⟩ = some (.slice pm nm cm) := HA0.out.cell 3
  have b0 : w0.cell? ⟨w.heap.size + 1, 0, none⟩ = some (.slice qb mb db) := HB0.out.cell 0
  have b1 : w0.cell? ⟨w.heap.size + 1, 1, none⟩ = some (.slice qs ms ds) := HB0.out.cell 1
  have b2 : w0.cell? ⟨w.heap.size + 1, 2, none⟩ = some (.slice qf mf df) := HB0.out.cell 2
  have b3 : w0.cell? ⟨w.heap.size + 1, 3, none⟩ = some (.slice qm mm dm) := HB0.out.cell 3
  cases r0 with
  | false =>
    go_wp2_with (first
      | (go_at_call 49; refine (hB _ (H.out.below HW0.out) (H'.out.below HW0.out)).mono ?_; rintro E W ⟨rfl, z19, rfl⟩))
    go_ret
    exact ⟨rfl, HW0.out.trans ((below_draws (below_self w0) _).mono HW0.out.size)⟩
  | true =>
    cases r1 with
    | false =>
      go_wp2_with (first
        | (go_at_call 49; refine (hB _ (H.out.below HW0.out) (H'.out.below HW0.out)).mono ?_; rintro E W ⟨rfl, z19, rfl⟩)
        | (go_at_call 19; refine (hS _ (HI.out _) (HI'.out _)).mono ?_; rintro E W ⟨rfl, z32, rfl⟩))
      go_ret
      exact ⟨rfl, HW0.out.trans ((below_draws (below_self w0) _).mono HW0.out.size)⟩
    | true =>
      cases r2 with
      | false =>
        go_wp2_with (first
          | (go_at_call 49; refine (hB _ (H.out.below HW0.out) (H'.out.below HW0.out)).mono ?_; rintro E W ⟨rfl, z19, rfl⟩)
          | (go_at_call 19; refine (hS _ (HI.out _) (HI'.out _)).mono ?_; rintro E W ⟨rfl, z32, rfl⟩)
          | (go_at_call 50; refine (hF _ (HI.out _) (HI'.out _)).mono ?_; rintro E W ⟨rfl, z33, rfl⟩))
        go_ret
        exact ⟨rfl, HW0.out.trans ((below_draws (below_self w0) _).mono HW0.out.size)⟩
      | true =>
        go_wp2_with (first
          | (go_at_call 49; refine (hB _ (H.out.below HW0.out) (H'.out.below HW0.out)).mono ?_; rintro E W ⟨rfl, z19, rfl⟩)
          | (go_at_call 19; refine (hS _ (HI.out _) (HI'.out _)).mono ?_; rintro E W ⟨rfl, z32, rfl⟩)
          | (go_at_call 50; refine (hF _ (HI.out _) (HI'.out _)).mono ?_; rintro E W ⟨rfl, z33, rfl⟩)
          | (go_at_call 51; refine (hM _ (HI.out _) (HI'.out _)).mono ?_; rintro E W ⟨rfl, z34, rfl⟩))
        go_ret
        exact ⟨rfl, HW0.out.trans ((below_draws (below_self w0) _).mono HW0.out.size)⟩

end Go.Proofs.Ytnmcdkhfjkpklaa
