/- object.Right, for every object. -/
import Derived.Test.YtkpieeldoielgaaRFix
import Derived.Test.YtkpieeldoielgaaRMrk
namespace Go.Proofs.Ytkpieeldoielgaa
open Go.RowKit

/-- an object's lists in memory -/
structure ObIn (w : World) (o : Ob) (pb ps pf pm : Option Addr) (nb cb ns cs nf cf nm cm : Nat) : Prop where
  lb : o.bs.length = nb
  ls : o.sy.length = ns
  lf : o.fx.length = nf
  lm : o.mk_.length = nm
  kb : nb ≤ cb
  mb : cb ≤ maxLen
  ks : ns ≤ maxLen
  kf : nf ≤ maxLen
  km : nm ≤ maxLen
  rb : Row w pb o.bs
  rs : Row3 w ps (o.sy.map syV)
  rf : Row3 w pf (o.fx.map fxV)
  rm : Row3 w pm (o.mk_.map mkV)
  fit : ObF o
theorem ObIn.below {w w' : World} {o : Ob} {pb ps pf pm : Option Addr} {nb cb ns cs nf cf nm cm : Nat} (h : ObIn w o pb ps pf pm nb cb ns cs nf cf nm cm) (hb : Below w.heap.size w w') : ObIn w' o pb ps pf pm nb cb ns cs nf cf nm cm :=
  { h with rb := h.rb.below hb, rs := h.rs.below hb, rf := h.rf.below hb, rm := h.rm.below hb }

set_option maxRecDepth 20000 in
set_option maxHeartbeats 2000000 in
theorem oright_any (o : Ob) (pb ps pf pm : Option Addr) (nb cb ns cs nf cf nm cm : Nat) (w : World) (h : ObIn w o pb ps pf pm nb cb ns cs nf cf nm cm) :
    Calls Try.prog 58 #[.agg (obA pb ps pf pm nb cb ns cs nf cf nm cm)] w fun E w' => E = .returned (.bool (okO o)) ∧ Below w.heap.size w w' := by
  have H := Hid.in h
  have hcb : cb ≤ 9223372036854775807 := by have := h.mb; unfold maxLen at this; omega
  have hns : ns ≤ 9223372036854775807 := by have := h.ks; unfold maxLen at this; omega
  have hnf : nf ≤ 9223372036854775807 := by have := h.kf; unfold maxLen at this; omega
  have hnm : nm ≤ 9223372036854775807 := by have := h.km; unfold maxLen at this; omega
  have hkb := h.kb
  have HE : Hid (okO o = (decide (nb ≤ 65536 ∧ ns ≤ 4096 ∧ nf ≤ 4096 ∧ nm ≤ 4096) && rsL nb 0 [] o.sy && rfL o.bs 0 o.fx && rmL o.bs o.fx 0 o.mk_)) := by
    have : okO o = (decide (nb ≤ 65536 ∧ ns ≤ 4096 ∧ nf ≤ 4096 ∧ nm ≤ 4096) && rsL nb 0 [] o.sy && rfL o.bs 0 o.fx && rmL o.bs o.fx 0 o.mk_) := by
      unfold okO
      rw [h.lb, h.ls, h.lf, h.lm]
    exact this
  clear h
  obtain ⟨r, hr⟩ : ∃ r, okO o = r := ⟨_, rfl⟩
  rw [hr]
  have HR := Hid.in hr
  clear hr
  have HK0 : Hid (Blk (w.alloc (.cells (obA pb ps pf pm nb cb ns cs nf cf nm cm) 105)) w.heap.size 105 (obA pb ps pf pm nb cb ns cs nf cf nm cm)) := Blk.new w 105 _
  have HB0 : Hid (Below w.heap.size w (w.alloc (.cells (obA pb ps pf pm nb cb ns cs nf cf nm cm) 105))) := new_alloc w _
  by_cases hs : nb ≤ 65536 ∧ ns ≤ 4096 ∧ nf ≤ 4096 ∧ nm ≤ 4096
  · obtain ⟨h1, h2, h3, h4⟩ := hs
    have hS := fun W (k : ObIn W o pb ps pf pm nb cb ns cs nf cf nm cm) => rightSymbols_any pb ps pf pm nb cb ns cs nf cf nm cm o.sy W k.ls h2 h1 k.fit.sy k.rs
    have hF := fun W (k : ObIn W o pb ps pf pm nb cb ns cs nf cf nm cm) => rightFixes_any pb ps pf pm nb cb ns cs nf cf nm cm o.bs o.fx W k.lb hkb hcb k.lf h3 h1 k.fit.byt k.fit.fx k.rb k.rf
    have hM := fun W (k : ObIn W o pb ps pf pm nb cb ns cs nf cf nm cm) => rightMarks_any pb ps pf pm nb cb ns cs nf cf nm cm o.bs o.fx o.mk_ W k.lb hkb hcb k.lf h3 k.lm h4 h1 k.fit.byt k.fit.mk_ k.rb k.rf k.rm
    have hd : decide (nb ≤ 65536 ∧ ns ≤ 4096 ∧ nf ≤ 4096 ∧ nm ≤ 4096) = true := decide_eq_true ⟨h1, h2, h3, h4⟩
    rw [hd, Bool.true_and] at HE
    clear hd
    generalize rsL nb 0 [] o.sy = r1 at *
    generalize rfL o.bs 0 o.fx = r2 at *
    generalize rmL o.bs o.fx 0 o.mk_ = r3 at *
    go_enter Try.func58, Try.ntmps58
    go_upto_region 1 with fail
    generalize w.alloc (.cells (obA pb ps pf pm nb cb ns cs nf cf nm cm) 105) = w0 at *
    have o0 : w0.cell? ⟨w.heap.size, 0, none⟩ = some (.slice pb nb cb) := HK0.out.cell 0
    have o1 : w0.cell? ⟨w.heap.size, 1, none⟩ = some (.slice ps ns cs) := HK0.out.cell 1
    have o2 : w0.cell? ⟨w.heap.size, 2, none⟩ = some (.slice pf nf cf) := HK0.out.cell 2
    have o3 : w0.cell? ⟨w.heap.size, 3, none⟩ = some (.slice pm nm cm) := HK0.out.cell 3
    cases r1 with
    | false =>
      go_wp2_with (go_at_call 68; refine (hS _ (H.out.below HB0.out)).mono ?_; rintro E w1 ⟨rfl, hb1⟩; have HK1 := Hid.in (HK0.out.grow hb1); have HB1 := Hid.in (below_step HB0.out hb1); have o10 : w1.cell? ⟨w.heap.size, 0, none⟩ = some (.slice pb nb cb) := (HK0.out.grow hb1).cell 0; have o11 : w1.cell? ⟨w.heap.size, 1, none⟩ = some (.slice ps ns cs) := (HK0.out.grow hb1).cell 1; have o12 : w1.cell? ⟨w.heap.size, 2, none⟩ = some (.slice pf nf cf) := (HK0.out.grow hb1).cell 2; have o13 : w1.cell? ⟨w.heap.size, 3, none⟩ = some (.slice pm nm cm) := (HK0.out.grow hb1).cell 3; clear hb1)
      all_goals
        go_ret
        exact ⟨ret_bool (by rw [← HR.out, HE.out]; rfl), HB1.out⟩
    | true =>
      cases r2 with
      | false =>
        go_wp2_with (first
          | (go_at_call 68; refine (hS _ (H.out.below HB0.out)).mono ?_; rintro E w1 ⟨rfl, hb1⟩; have HK1 := Hid.in (HK0.out.grow hb1); have HB1 := Hid.in (below_step HB0.out hb1); have o10 : w1.cell? ⟨w.heap.size, 0, none⟩ = some (.slice pb nb cb) := (HK0.out.grow hb1).cell 0; have o11 : w1.cell? ⟨w.heap.size, 1, none⟩ = some (.slice ps ns cs) := (HK0.out.grow hb1).cell 1; have o12 : w1.cell? ⟨w.heap.size, 2, none⟩ = some (.slice pf nf cf) := (HK0.out.grow hb1).cell 2; have o13 : w1.cell? ⟨w.heap.size, 3, none⟩ = some (.slice pm nm cm) := (HK0.out.grow hb1).cell 3; clear hb1)
          | (go_at_call 69; refine (hF _ (H.out.below HB1.out)).mono ?_; rintro E w2 ⟨rfl, hb2⟩; have HK2 := Hid.in (HK1.out.grow hb2); have HB2 := Hid.in (below_step HB1.out hb2); have o20 : w2.cell? ⟨w.heap.size, 0, none⟩ = some (.slice pb nb cb) := (HK1.out.grow hb2).cell 0; have o21 : w2.cell? ⟨w.heap.size, 1, none⟩ = some (.slice ps ns cs) := (HK1.out.grow hb2).cell 1; have o22 : w2.cell? ⟨w.heap.size, 2, none⟩ = some (.slice pf nf cf) := (HK1.out.grow hb2).cell 2; have o23 : w2.cell? ⟨w.heap.size, 3, none⟩ = some (.slice pm nm cm) := (HK1.out.grow hb2).cell 3; clear hb2))
        all_goals
          go_ret
          exact ⟨ret_bool (by rw [← HR.out, HE.out]; rfl), HB2.out⟩
      | true =>
        go_wp2_with (first
          | (go_at_call 68; refine (hS _ (H.out.below HB0.out)).mono ?_; rintro E w1 ⟨rfl, hb1⟩; have HK1 := Hid.in (HK0.out.grow hb1); have HB1 := Hid.in (below_step HB0.out hb1); have o10 : w1.cell? ⟨w.heap.size, 0, none⟩ = some (.slice pb nb cb) := (HK0.out.grow hb1).cell 0; have o11 : w1.cell? ⟨w.heap.size, 1, none⟩ = some (.slice ps ns cs) := (HK0.out.grow hb1).cell 1; have o12 : w1.cell? ⟨w.heap.size, 2, none⟩ = some (.slice pf nf cf) := (HK0.out.grow hb1).cell 2; have o13 : w1.cell? ⟨w.heap.size, 3, none⟩ = some (.slice pm nm cm) := (HK0.out.grow hb1).cell 3; clear hb1)
          | (go_at_call 69; refine (hF _ (H.out.below HB1.out)).mono ?_; rintro E w2 ⟨rfl, hb2⟩; have HK2 := Hid.in (HK1.out.grow hb2); have HB2 := Hid.in (below_step HB1.out hb2); have o20 : w2.cell? ⟨w.heap.size, 0, none⟩ = some (.slice pb nb cb) := (HK1.out.grow hb2).cell 0; have o21 : w2.cell? ⟨w.heap.size, 1, none⟩ = some (.slice ps ns cs) := (HK1.out.grow hb2).cell 1; have o22 : w2.cell? ⟨w.heap.size, 2, none⟩ = some (.slice pf nf cf) := (HK1.out.grow hb2).cell 2; have o23 : w2.cell? ⟨w.heap.size, 3, none⟩ = some (.slice pm nm cm) := (HK1.out.grow hb2).cell 3; clear hb2)
          | (go_at_call 70; refine (hM _ (H.out.below HB2.out) (by trivial)).mono ?_; rintro E w3 ⟨rfl, hb3⟩; have HB3 := Hid.in (below_step HB2.out hb3); clear hb3))
        all_goals
          go_ret
          exact ⟨ret_bool (by rw [← HR.out, HE.out]; rfl), HB3.out⟩
  · have hd : decide (nb ≤ 65536 ∧ ns ≤ 4096 ∧ nf ≤ 4096 ∧ nm ≤ 4096) = false := decide_eq_false hs
    rw [hd, Bool.false_and, Bool.false_and, Bool.false_and] at HE
    clear hd
    go_enter Try.func58, Try.ntmps58
    go_upto_region 1 with fail
    generalize w.alloc (.cells (obA pb ps pf pm nb cb ns cs nf cf nm cm) 105) = w0 at *
    have o0 : w0.cell? ⟨w.heap.size, 0, none⟩ = some (.slice pb nb cb) := HK0.out.cell 0
    have o1 : w0.cell? ⟨w.heap.size, 1, none⟩ = some (.slice ps ns cs) := HK0.out.cell 1
    have o2 : w0.cell? ⟨w.heap.size, 2, none⟩ = some (.slice pf nf cf) := HK0.out.cell 2
    have o3 : w0.cell? ⟨w.heap.size, 3, none⟩ = some (.slice pm nm cm) := HK0.out.cell 3
    go_wp2_with fail
    all_goals (try (exfalso; simp_all; omega))
    all_goals
      go_ret
      exact ⟨ret_bool (by rw [← HR.out, HE.out]), HB0.out⟩

end Go.Proofs.Ytkpieeldoielgaa
