/- Texts put together: RfG. -/
import Derived.Test.YtekggimgobeggaaGi

/- The document's patcher: Step, where a piece is written. -/
namespace Go.Proofs.Ytekggimgobeggaa
open Go.RowKit Go.Sort

theorem siR_cells {w : World} {p : Option Addr} {L : List Si} {i : Nat} {x : Si} (h : RowS w 0 p L) (hx : L[i]? = some x) : ∃ b o, p = some ⟨b, o, none⟩ ∧ w.cell? ⟨b, o + i * 3, none⟩ = some (.int .i64 x.key) ∧ w.cell? ⟨b, o + i * 3 + 1, none⟩ = some (.int .i64 x.at_) ∧ w.cell? ⟨b, o + i * 3 + 2, none⟩ = some (.int .i64 x.to_) := by
  obtain ⟨hi, rfl⟩ := List.getElem?_eq_some_iff.1 hx
  obtain ⟨b, o, cur, e, -, -, hc⟩ := h (by omega)
  exact ⟨b, o, e, by have := hc i hi 0 (by decide); simpa [l3, siV] using this, by have := hc i hi 1 (by decide); simpa [l3, siV] using this, by have := hc i hi 2 (by decide); simpa [l3, siV] using this⟩
set_option maxRecDepth 20000 in
set_option maxHeartbeats 4000000 in
theorem rstep_w (xs : List Int) (n : Int) (fs : List Bool) (ph sent : Nat) (bt lf : List Si) (dn : Nat) (up : Bool) (ct : Ct) (q : RP) (pr : Option Addr) (cr : Nat) (rs : List Bool) (mg : Nat) (w : World) (hM : RM w mg (RD.mk xs n fs ph sent bt lf dn up ct) q) (hp2 : 2 ≤ ph) (hp4 : ph ≤ 4) (x : Si) (hx : bt[dn]? = some x) (hSi : SiB x) (k : Nat) (ys : List Int) (hpc : pieceR ph up x = ((k : Int), ys)) (hfit : k + ys.length ≤ xs.length) (hxl : xs.length ≤ 65536) (hbl : bt.length ≤ 4) (hmg : mg < w.heap.size) (hr0 : 0 ≤ ct.wr) (hr1 : ct.wr ≤ 1000000) (hs0 : 0 ≤ ct.st) (hs1 : ct.st ≤ 1000000) :
    Calls Try.prog 22 #[.agg ((RD.mk xs n fs ph sent bt lf dn up ct).val q), .slice pr rs.length cr] w (RsIs w mg ⟨RD.mk (putA xs k ys) n fs ph sent bt lf (dn + 1) up { ct with wr := ct.wr + 1, st := ct.st + 1 }, [⟨10, 0, (k : Int), 0, ys.length⟩], false, 0⟩) := by
  obtain ⟨b, o, hbo, -⟩ := siR_cells hM.bt hx
  obtain ⟨bp, bc, fp, fc, tp, tc, lp, lc⟩ := q
  obtain ⟨csi, cwr, cro, cst, cwa⟩ := ct
  simp only at hr0 hr1 hs0 hs1 hbo
  subst hbo
  have hdb : dn < bt.length := (List.getElem?_eq_some_iff.1 hx).1
  have hpl : (putA xs k ys).length = xs.length := putA_len hfit
  obtain ⟨zs, hzs⟩ : ∃ zs, zs = putA xs k ys := ⟨_, rfl⟩
  rw [← hzs] at hpl ⊢
  have HR : Hid (∀ w' a c v, RowB w' mg a zs → zs.length ≤ c → EOwn 43 w' w.heap.size v [⟨10, 0, (k : Int), 0, ys.length⟩] → RM w' mg (RD.mk xs n fs ph sent bt lf dn up ⟨csi, cwr, cro, cst, cwa⟩) ⟨bp, bc, fp, fc, some ⟨b, o, none⟩, tc, lp, lc⟩ → Below w.heap.size w w' → RsIs w mg ⟨RD.mk zs n fs ph sent bt lf (dn + 1) up ⟨csi, cwr + 1, cro, cst + 1, cwa⟩, [⟨10, 0, (k : Int), 0, ys.length⟩], false, 0⟩ (.returned (.tuple #[.agg ((RD.mk zs n fs ph sent bt lf (dn + 1) up ⟨csi, cwr + 1, cro, cst + 1, cwa⟩).val ⟨a, c, fp, fc, some ⟨b, o, none⟩, tc, lp, lc⟩), v, .bool false, .int .i64 0])) w') := fun w' a c v h1 h2 h3 h hb => rsIs_of rfl rfl rfl ⟨h1, h.fs, h.bt, h.lf, h2, h.hf, h.ht, h.tn, h.hl⟩ h3 hb
  have HM := Hid.in hM
  have HX := Hid.in hx
  clear hM hx
  generalize RsIs w mg ⟨RD.mk zs n fs ph sent bt lf (dn + 1) up ⟨csi, cwr + 1, cro, cst + 1, cwa⟩, [⟨10, 0, (k : Int), 0, ys.length⟩], false, 0⟩ = R at *
  have HPC : Hid (∀ W, Calls Try.prog 66 #[.agg #[.slice bp xs.length bc, .int .i64 n, .slice fp fs.length fc, .int .u8 ph, .int .u8 sent, .slice (some ⟨b, o, none⟩) bt.length tc, .slice lp lf.length lc, .int .i64 dn, .bool up, .int .i64 csi, .int .i64 cwr, .int .i64 cro, .int .i64 cst, .int .i64 cwa], .agg #[.int .i64 x.key, .int .i64 x.at_, .int .i64 x.to_]] W (PieceIs W (k : Int) ys)) := fun W => by
    have h := rpiece_any (RD.mk xs n fs ph sent bt lf dn up ⟨csi, cwr, cro, cst, cwa⟩) ⟨bp, bc, fp, fc, some ⟨b, o, none⟩, tc, lp, lc⟩ x W hSi
    simp only [hpc] at h
    exact h
  have HWR : Hid (∀ W r d, Row W bp xs → Row W r ys → Calls Try.prog 67 #[.slice bp xs.length bc, .int .i64 k, .slice r ys.length d] W fun e w' => ∃ v, e = .returned (.tuple #[v, .int .i64 0]) ∧ OwnV w' W.heap.size v zs ∧ Below W.heap.size W w') := fun W r d h1 h2 => by rw [hzs]; exact refWrite_ok bp r bc d k xs ys W h1 h2 hxl hfit
  have hyl : ys.length ≤ 65536 := by omega
  have hkl : k ≤ 65536 := by omega
  have g7 : ((dn : Int) == (bt.length : Int)) = false := by rw [beq_eq_false_iff_ne]; omega
  clear hpc hzs hfit hSi hpl
  have g0 : ((ph : Int) == 0) = false := by rw [beq_eq_false_iff_ne]; omega
  have g1 : ((ph : Int) == 1) = false := by rw [beq_eq_false_iff_ne]; omega
  have g5 : ((ph : Int) == 5) = false := by rw [beq_eq_false_iff_ne]; omega
  have g6 : ((ph : Int) == 6) = false := by rw [beq_eq_false_iff_ne]; omega
  clear hp2 hp4
  go_enter Try.func22, Try.ntmps22
  go_upto_region 1 with fail
  obtain ⟨w0, hw0⟩ : ∃ w0, w0 = (w.alloc (.cells ((RD.mk xs n fs ph sent bt lf dn up ⟨csi, cwr, cro, cst, cwa⟩).val ⟨bp, bc, fp, fc, some ⟨b, o, none⟩, tc, lp, lc⟩) 66)).alloc (.cells stZ 66) := ⟨_, rfl⟩
  rw [← hw0]
  have HB1 : Hid (Blk w0 w.heap.size 66 ((RD.mk xs n fs ph sent bt lf dn up ⟨csi, cwr, cro, cst, cwa⟩).val ⟨bp, bc, fp, fc, some ⟨b, o, none⟩, tc, lp, lc⟩)) := by rw [hw0]; exact (Blk.new _ _ _).grow (new_alloc _ _)
  have HB2 : Hid (Blk w0 (w.heap.size + 1) 66 stZ) := by rw [hw0]; exact blk_second _ _ _ _ _
  have HL0 : Hid (Below w.heap.size w w0) := by rw [hw0]; exact below_alloc (new_alloc _ _) _
  clear hw0
  have HX0 := Hid.in (siR_cells (HM.out.bt.below HL0.out) HX.out)
  obtain ⟨b', o', e', x0, x1, x2⟩ := HX0.out
  injection e' with e'
  injection e' with e1 e2
  subst e1
  subst e2
  have c0 : w0.cell? ⟨w.heap.size, 0, none⟩ = some (.slice bp xs.length bc) := HB1.out.cell 0
  have c1 : w0.cell? ⟨w.heap.size, 1, none⟩ = some (.int .i64 n) := HB1.out.cell 1
  have c2 : w0.cell? ⟨w.heap.size, 2, none⟩ = some (.slice fp fs.length fc) := HB1.out.cell 2
  have c3 : w0.cell? ⟨w.heap.size, 3, none⟩ = some (.int .u8 ph) := HB1.out.cell 3
  have c4 : w0.cell? ⟨w.heap.size, 4, none⟩ = some (.int .u8 sent) := HB1.out.cell 4
  have c5 : w0.cell? ⟨w.heap.size, 5, none⟩ = some (.slice (some ⟨b, o, none⟩) bt.length tc) := HB1.out.cell 5
  have c6 : w0.cell? ⟨w.heap.size, 6, none⟩ = some (.slice lp lf.length lc) := HB1.out.cell 6
  have c7 : w0.cell? ⟨w.heap.size, 7, none⟩ = some (.int .i64 dn) := HB1.out.cell 7
  have c8 : w0.cell? ⟨w.heap.size, 8, none⟩ = some (.bool up) := HB1.out.cell 8
  have c9 : w0.cell? ⟨w.heap.size, 9, none⟩ = some (.int .i64 csi) := HB1.out.cell 9
  have c10 : w0.cell? ⟨w.heap.size, 10, none⟩ = some (.int .i64 cwr) := HB1.out.cell 10
  have c11 : w0.cell? ⟨w.heap.size, 11, none⟩ = some (.int .i64 cro) := HB1.out.cell 11
  have c12 : w0.cell? ⟨w.heap.size, 12, none⟩ = some (.int .i64 cst) := HB1.out.cell 12
  have c13 : w0.cell? ⟨w.heap.size, 13, none⟩ = some (.int .i64 cwa) := HB1.out.cell 13
  go_upto_region 18 with fail
  have HK : Hid (∀ W, Below w0.heap.size w0 W → W.cell? ⟨w.heap.size, 0, none⟩ = some (.slice bp xs.length bc) ∧ W.cell? ⟨w.heap.size, 1, none⟩ = some (.int .i64 n) ∧ W.cell? ⟨w.heap.size, 2, none⟩ = some (.slice fp fs.length fc) ∧ W.cell? ⟨w.heap.size, 3, none⟩ = some (.int .u8 ph) ∧ W.cell? ⟨w.heap.size, 4, none⟩ = some (.int .u8 sent) ∧ W.cell? ⟨w.heap.size, 5, none⟩ = some (.slice (some ⟨b, o, none⟩) bt.length tc) ∧ W.cell? ⟨w.heap.size, 6, none⟩ = some (.slice lp lf.length lc) ∧ W.cell? ⟨w.heap.size, 7, none⟩ = some (.int .i64 dn) ∧ W.cell? ⟨w.heap.size, 8, none⟩ = some (.bool up) ∧ W.cell? ⟨w.heap.size, 9, none⟩ = some (.int .i64 csi) ∧ W.cell? ⟨w.heap.size, 10, none⟩ = some (.int .i64 cwr) ∧ W.cell? ⟨w.heap.size, 11, none⟩ = some (.int .i64 cro) ∧ W.cell? ⟨w.heap.size, 12, none⟩ = some (.int .i64 cst) ∧ W.cell? ⟨w.heap.size, 13, none⟩ = some (.int .i64 cwa) ∧ W.cell? ⟨b, o + dn * 3, none⟩ = some (.int .i64 x.key) ∧ W.cell? ⟨b, o + dn * 3 + 1, none⟩ = some (.int .i64 x.at_) ∧ W.cell? ⟨b, o + dn * 3 + 2, none⟩ = some (.int .i64 x.to_)) := fun W hb => ⟨(HB1.out.grow hb).cell 0, (HB1.out.grow hb).cell 1, (HB1.out.grow hb).cell 2, (HB1.out.grow hb).cell 3, (HB1.out.grow hb).cell 4, (HB1.out.grow hb).cell 5, (HB1.out.grow hb).cell 6, (HB1.out.grow hb).cell 7, (HB1.out.grow hb).cell 8, (HB1.out.grow hb).cell 9, (HB1.out.grow hb).cell 10, (HB1.out.grow hb).cell 11, (HB1.out.grow hb).cell 12, (HB1.out.grow hb).cell 13, (hb.cell (p := ⟨b, o + dn * 3, none⟩) (cell_lt x0)).trans x0, (hb.cell (p := ⟨b, o + dn * 3 + 1, none⟩) (cell_lt x1)).trans x1, (hb.cell (p := ⟨b, o + dn * 3 + 2, none⟩) (cell_lt x2)).trans x2⟩
  go_region_held3 (fun W => W.cell? ⟨w.heap.size, 0, none⟩ = some (.slice bp xs.length bc) ∧ W.cell? ⟨w.heap.size, 1, none⟩ = some (.int .i64 n) ∧ W.cell? ⟨w.heap.size, 2, none⟩ = some (.slice fp fs.length fc) ∧ W.cell? ⟨w.heap.size, 3, none⟩ = some (.int .u8 ph) ∧ W.cell? ⟨w.heap.size, 4, none⟩ = some (.int .u8 sent) ∧ W.cell? ⟨w.heap.size, 5, none⟩ = some (.slice (some ⟨b, o, none⟩) bt.length tc) ∧ W.cell? ⟨w.heap.size, 6, none⟩ = some (.slice lp lf.length lc) ∧ W.cell? ⟨w.heap.size, 7, none⟩ = some (.int .i64 dn) ∧ W.cell? ⟨w.heap.size, 8, none⟩ = some (.bool up) ∧ W.cell? ⟨w.heap.size, 9, none⟩ = some (.int .i64 csi) ∧ W.cell? ⟨w.heap.size, 10, none⟩ = some (.int .i64 cwr) ∧ W.cell? ⟨w.heap.size, 11, none⟩ = some (.int .i64 cro) ∧ W.cell? ⟨w.heap.size, 12, none⟩ = some (.int .i64 cst) ∧ W.cell? ⟨w.heap.size, 13, none⟩ = some (.int .i64 cwa) ∧ W.cell? ⟨b, o + dn * 3, none⟩ = some (.int .i64 x.key) ∧ W.cell? ⟨b, o + dn * 3 + 1, none⟩ = some (.int .i64 x.at_) ∧ W.cell? ⟨b, o + dn * 3 + 2, none⟩ = some (.int .i64 x.to_)) (first | (with_reducible exact hk3) | go_keep)
    (first | (go_at_call 66; (with_reducible refine (HPC.out _).mono ?_); rintro e w1 ⟨py, cy, rfl, hry, hb⟩; have HB01 := Hid.in (below_step (below_draws (below_self w0) 1) hb); have hk3 := HK.out w1 HB01.out; have HRY := Hid.in hry; clear hry hb))
  clear c0 c1 c2 c3 c4 c5 c6 c7 c8 c9 c10 c11 c12 c13 x0 x1 x2 hk3 HPC HK HX0 HX
  have HA1 := Hid.in (HB1.out.grow HB01.out)
  have HA2 := Hid.in (HB2.out.grow HB01.out)
  have HL1 := Hid.in (below_step HL0.out HB01.out)
  clear HB01 HB1 HB2 HL0
  have c0 : w1.cell? ⟨w.heap.size, 0, none⟩ = some (.slice bp xs.length bc) := HA1.out.cell 0
  go_wp2_with (go_at_call 67; refine Hid.out ?_)
  refine Lib.hid ?_
  refine (HWR.out w1 py cy (HM.out.xs.below HL1.out).row HRY.out).mono ?_
  rintro e w2 ⟨vz, rfl, hvz, hb⟩
  obtain ⟨pz, cz, rfl, hcz, hrz⟩ := hvz.rowB (mg := mg) (Nat.lt_of_lt_of_le hmg HL1.out.size)
  have HZ := Hid.in hrz
  have HCZ := Hid.in hcz
  have HC1 := Hid.in (HA1.out.grow hb)
  have HC2 := Hid.in (HA2.out.grow hb)
  have HL2 := Hid.in (below_step HL1.out hb)
  clear hb hvz hrz hcz HA1 HA2 HL1 HWR HRY c0
  have c0 : w2.cell? ⟨w.heap.size, 0, none⟩ = some (.slice bp xs.length bc) := HC1.out.cell 0
  have c7 : w2.cell? ⟨w.heap.size, 7, none⟩ = some (.int .i64 dn) := HC1.out.cell 7
  have c10 : w2.cell? ⟨w.heap.size, 10, none⟩ = some (.int .i64 cwr) := HC1.out.cell 10
  have f0 := HC1.out.free 0
  have f7 := HC1.out.free 7
  have f10 := HC1.out.free 10
  go_upto_region 22 with fail
  obtain ⟨w3, hw3⟩ : ∃ w3, w3 = ((w2.setCell ⟨w.heap.size, 0, none⟩ (.slice pz zs.length cz)).setCell ⟨w.heap.size, 7, none⟩ (.int .i64 ((dn : Int) + 1))).setCell ⟨w.heap.size, 10, none⟩ (.int .i64 (cwr + 1)) := ⟨_, rfl⟩
  rw [← hw3]
  have HD1 : Hid (Blk w3 w.heap.size 66 ((RD.mk zs n fs ph sent bt lf (dn + 1) up ⟨csi, cwr + 1, cro, cst, cwa⟩).val ⟨pz, cz, fp, fc, some ⟨b, o, none⟩, tc, lp, lc⟩)) := by rw [hw3]; exact ((HC1.out.set 0 _).set 7 _).set 10 _
  have HD2 : Hid (Blk w3 (w.heap.size + 1) 66 stZ) := by rw [hw3]; exact (((HC2.out.other (by omega) _ _).other (by omega) _ _).other (by omega) _ _)
  have HL3 : Hid (Below w.heap.size w w3) := by rw [hw3]; exact (below_two (below_two (below_two HL2.out _ _) _ _) _ _)
  have HZ3 : Hid (RowB w3 mg pz zs) := by rw [hw3]; exact HZ.out.keeps (keeps_grown (((grown_setCell _ _ _ _).trans (grown_setCell _ _ _ _)).trans (grown_setCell _ _ _ _))) (fun j hj => .inr ⟨66, _, hj ▸ HC1.out, by decide⟩)
  clear hw3 HC1 HC2 HL2 HZ c0 c7 c10 f0 f7 f10
  go_wp2_with (refine epush Try.elemEv _ rfl _ _ rfl w3.heap.size (.slice none 0 0) [] rfl (EOwn.nil _ _ _) ⟨w3.heap.size, 0, none⟩ 1 ⟨10, 0, (k : Int), 0, ys.length⟩ rfl (news7 _ _ _) (by decide) (by decide) (by rw [size_one]; exact Nat.le_succ _) ?_; intro ve w4 he4 _hg4 hb4; refine Hid.out ?_)
  refine Lib.hid ?_
  have HB34 : Hid (Below w3.heap.size w3 w4) := hb4 w3 (new_alloc _ _)
  have HE4 : Hid (EOwn 43 w4 w.heap.size ve [⟨10, 0, (k : Int), 0, ys.length⟩]) := he4.lowE HL3.out.size
  obtain ⟨pe, ce, hve, -⟩ := he4.shape
  have HG1 := Hid.in (HD1.out.grow HB34.out)
  have HG2 := Hid.in (HD2.out.grow HB34.out)
  have HL4 := Hid.in (below_step HL3.out HB34.out)
  have HZ4 := Hid.in (HZ3.out.below HB34.out)
  subst hve
  clear he4 _hg4 hb4 HD1 HD2 HL3 HZ3 HB34
  have d12 : w4.cell? ⟨w.heap.size, 12, none⟩ = some (.int .i64 cst) := HG1.out.cell 12
  have f12 := HG1.out.free 12
  go_upto_region 36 with fail
  obtain ⟨w5, hw5⟩ : ∃ w5, w5 = w4.setCell ⟨w.heap.size, 12, none⟩ (.int .i64 (cst + 1)) := ⟨_, rfl⟩
  rw [← hw5]
  have HJ1 : Hid (Blk w5 w.heap.size 66 ((RD.mk zs n fs ph sent bt lf (dn + 1) up ⟨csi, cwr + 1, cro, cst + 1, cwa⟩).val ⟨pz, cz, fp, fc, some ⟨b, o, none⟩, tc, lp, lc⟩)) := by rw [hw5]; exact HG1.out.set 12 _
  have HJ2 : Hid (Blk w5 (w.heap.size + 1) 66 stZ) := by rw [hw5]; exact (HG2.out.other (by omega) _ _)
  have HL5 : Hid (Below w.heap.size w w5) := by rw [hw5]; exact (below_two HL4.out _ _)
  have HZ5 : Hid (RowB w5 mg pz zs) := by rw [hw5]; exact HZ4.out.keeps (keeps_grown (grown_setCell _ _ _ _)) (fun j hj => .inr ⟨66, _, hj ▸ HG1.out, by decide⟩)
  have HE5 : Hid (EOwn 43 w5 w.heap.size (.slice pe [(⟨10, 0, (k : Int), 0, ys.length⟩ : Ev)].length ce) [⟨10, 0, (k : Int), 0, ys.length⟩]) := by rw [hw5]; exact HE4.out.off66 (grown_setCell _ _ _ _) HG1.out
  clear hw5 HG1 HG2 HL4 HZ4 HE4 d12 f12
  go_wp2_with (first | (refine step_load_blk HJ1.out rfl 66 _ rfl rfl _ (List.prefix_refl _) _ Try.underlying66 rfl (by kernel_rfl) ?_) | (refine step_store_blk HJ2.out rfl 66 _ _ rfl rfl rfl _ rfl (by kernel_rfl) rfl (by kernel_rfl) ?_; intro w9 hb9 hk9; refine Hid.out ?_))
  refine Lib.hid ?_
  have HA9 := Hid.in hb9
  have HL9 := Hid.in (HL5.out.trans (below_grown hk9 (Nat.le_succ _) HL5.out.size))
  have HK9 := Hid.in hk9
  clear hb9 hk9
  go_wp2_with fail
  exact bodyPost_ret (res22 HA9.out rfl rfl rfl rfl) rfl (HR.out _ _ _ _ (HZ5.out.keeps (keeps_grown HK9.out) (fun j hj => .inr ⟨66, _, hj ▸ HJ2.out, by decide⟩)) HCZ.out (HE5.out.off66 HK9.out HJ2.out) (HM.out.below HL9.out) HL9.out)
end Go.Proofs.Ytekggimgobeggaa
