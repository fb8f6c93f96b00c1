/- Texts put together: RDoF. -/
import Derived.Test.YtnpaijbkhmnfpaaGreatKal

/- switchyardref14.Do, where an instruction can't be done. -/
namespace Go.Proofs.YtnpaijbkhmnfpaaGreat
open Go.RowKit

set_option maxHeartbeats 4000000 in
set_option maxRecDepth 8000 in
theorem rdo_wrong (o a b : Nat) (n pc : Int) (R S : List Int) (p q : Option Addr) (s c d dc : Nat) (w : World) (ha : a ≤ 255) (hb : b ≤ 255) (hpc : 0 ≤ pc ∧ pc ≤ 4294967295)
    (lR : R.length = 8) (hS : S.length = s) (hs : s * 4 ≤ 140737488355324) (hr : PRow w p S)
    (hR : rightB o a b n = false) :
    Calls Tryz.prog 58 #[ins o a b n, .int .u32 pc, rgV R (.slice p s c), .slice q d dc] w fun e w' => (∃ v, e = .returned (.tuple #[rgV R v, .agg (effA { goE pc with fl := 120 })]) ∧ POwnV w' w.heap.size v S) ∧ Below w.heap.size w w' := by
  have h14 := fun W => rspan_any o a b n W (by omega) (by omega)
  rw [show spanN o a b n = 0 by simp [spanN, hR]] at h14
  have h7 := fun W (h : PRow W p S) => copyRegs_any R p s c S W lR hS (by omega) h
  have HRW : Hid (∀ W, Below w.heap.size w W → PRow W p S) := fun W h => hr.below h
  have HS := Hid.in hS
  have sz9 : ∀ v, (Tryz.prog.info? 47).map (·.size) = some (rgA R v).size := fun v => by rw [rgA_size R _ lR]; exact Tryz.sz47
  have SZ := Hid.in sz9
  have ON : Hid (∀ v, v.oneCell' = true → (rgA R v).all (·.oneCell') = true) := fun v hv => rgA_one R v hv
  clear hr hS sz9
  show Calls Tryz.prog 58 #[ins o a b n, .int .u32 pc, .agg (rgA R (.slice p s c)), .slice q d dc] w _
  go_enter Tryz.func58, Tryz.ntmps58
  go_upto_region 1 with fail
  obtain ⟨hst, hsz, hb0, hbr⟩ := RSt.start w _ o a b n R S (.slice p s c) lR rfl
  generalize (((w.alloc (.cells #[.int .u8 o, .int .u8 a, .int .u8 b, .int .i32 n] 117)).alloc (.cells (rgA R (.slice p s c)) 47)).alloc (.cells noRegs 47)).alloc (.cells (efA 0) 121) = w0 at *
  have h7' := h7 w0 (HRW.out _ hb0)
  have HB0 := Hid.in (hbr w0 (below_self _))
  clear h7 HRW
  go_wp2_with (first | (go_at_call 35; refine Hid.out ?_) | (refine step_load_blk HB0.out rfl 47 _ rfl rfl (rgA R (.slice p s c)) (List.prefix_refl _) _ Tryz.underlying47 rfl (SZ.out _) ?_))
  refine Lib.hid ?_
  refine h7'.mono ?_
  rintro e w1 ⟨⟨v, rfl, ho1⟩, hb1⟩
  obtain ⟨pv, cv, rfl, -, -⟩ := ho1.slice
  rw [HS.out] at ho1 ⊢
  have HB1 := Hid.in (hbr w1 hb1)
  have HST : Hid (∀ w2, w1.grownBy w2 (some (w.heap.size + 1)) → Blk w2 (w.heap.size + 1) 47 (rgA R (.slice pv s cv)) → RSt w w.heap.size o a b n R (.slice pv s cv) S w2) := fun w2 k1 k2 => hst w1 w2 _ (by rw [← hsz]; exact ho1) hb1 k1 k2
  clear hst hbr hb1 ho1 h7' hb0 HB0
  go_wp2_with (first | (go_at_call 94; refine Hid.out ?_) | (refine step_store_blk HB1.out rfl 47 _ _ rfl rfl rfl (rgA R (.slice pv s cv)) rfl (SZ.out _) (by rw [rgA_size R _ lR, rgA_size R _ lR]) (ON.out _ rfl) ?_; intro w2 hk2 hg2; have HST2 := Hid.in (HST.out w2 hg2 hk2); have i0 : w2.cell? ⟨w.heap.size, 0, none⟩ = some (.int .u8 o) := HST2.out.bi.cell 0; have i1 : w2.cell? ⟨w.heap.size, 1, none⟩ = some (.int .u8 a) := HST2.out.bi.cell 1; have i2 : w2.cell? ⟨w.heap.size, 2, none⟩ = some (.int .u8 b) := HST2.out.bi.cell 2; have i3 : w2.cell? ⟨w.heap.size, 3, none⟩ = some (.int .i32 n) := HST2.out.bi.cell 3; clear hk2 hg2 HB1))
  refine Lib.hid ?_
  refine (h14 _).mono ?_
  rintro e w3 ⟨rfl, hb3⟩
  have HST3 := Hid.in (HST2.out.below hb3)
  clear h14 hb3 HST HST2 i0 i1 i2 i3
  have i0 : w3.cell? ⟨w.heap.size, 0, none⟩ = some (.int .u8 o) := HST3.out.bi.cell 0
  have i3 : w3.cell? ⟨w.heap.size, 3, none⟩ = some (.int .i32 n) := HST3.out.bi.cell 3
  obtain ⟨r0, r1, r2, r3, r4, r5, r6, r7, rfl⟩ := eight lR
  have B1 : Hid (Blk w3 (w.heap.size + 1) 47 #[.int .u32 r0, .int .u32 r1, .int .u32 r2, .int .u32 r3, .int .u32 r4, .int .u32 r5, .int .u32 r6, .int .u32 r7, .slice pv s cv]) := HST3.out.br
  have B8 := Hid.in HST3.out.b8
  have B9 := Hid.in HST3.out.b9
  have a0 : w3.cell? ⟨w.heap.size + 1, 0, none⟩ = some (.int .u32 r0) := B1.out.cell 0
  have a1 : w3.cell? ⟨w.heap.size + 1, 1, none⟩ = some (.int .u32 r1) := B1.out.cell 1
  have a2 : w3.cell? ⟨w.heap.size + 1, 2, none⟩ = some (.int .u32 r2) := B1.out.cell 2
  have a3 : w3.cell? ⟨w.heap.size + 1, 3, none⟩ = some (.int .u32 r3) := B1.out.cell 3
  have a4 : w3.cell? ⟨w.heap.size + 1, 4, none⟩ = some (.int .u32 r4) := B1.out.cell 4
  have a5 : w3.cell? ⟨w.heap.size + 1, 5, none⟩ = some (.int .u32 r5) := B1.out.cell 5
  have a6 : w3.cell? ⟨w.heap.size + 1, 6, none⟩ = some (.int .u32 r6) := B1.out.cell 6
  have a7 : w3.cell? ⟨w.heap.size + 1, 7, none⟩ = some (.int .u32 r7) := B1.out.cell 7
  have a8 : w3.cell? ⟨w.heap.size + 1, 8, none⟩ = some (.slice pv s cv) := B1.out.cell 8
  have y0 : w3.cell? ⟨w.heap.size + 1 + 1, 0, none⟩ = some (.int .u32 0) := B8.out.cell 0
  have y1 : w3.cell? ⟨w.heap.size + 1 + 1, 1, none⟩ = some (.int .u32 0) := B8.out.cell 1
  have y2 : w3.cell? ⟨w.heap.size + 1 + 1, 2, none⟩ = some (.int .u32 0) := B8.out.cell 2
  have y3 : w3.cell? ⟨w.heap.size + 1 + 1, 3, none⟩ = some (.int .u32 0) := B8.out.cell 3
  have y4 : w3.cell? ⟨w.heap.size + 1 + 1, 4, none⟩ = some (.int .u32 0) := B8.out.cell 4
  have y5 : w3.cell? ⟨w.heap.size + 1 + 1, 5, none⟩ = some (.int .u32 0) := B8.out.cell 5
  have y6 : w3.cell? ⟨w.heap.size + 1 + 1, 6, none⟩ = some (.int .u32 0) := B8.out.cell 6
  have y7 : w3.cell? ⟨w.heap.size + 1 + 1, 7, none⟩ = some (.int .u32 0) := B8.out.cell 7
  have y8 : w3.cell? ⟨w.heap.size + 1 + 1, 8, none⟩ = some (.slice none 0 0) := B8.out.cell 8
  have z0 : w3.cell? ⟨w.heap.size + 1 + 1 + 1, 0, none⟩ = some (.int .u32 0) := B9.out.cell 0
  have z1 : w3.cell? ⟨w.heap.size + 1 + 1 + 1, 1, none⟩ = some (.bool false) := B9.out.cell 1
  have z2 : w3.cell? ⟨w.heap.size + 1 + 1 + 1, 2, none⟩ = some (.int .i64 0) := B9.out.cell 2
  have z3 : w3.cell? ⟨w.heap.size + 1 + 1 + 1, 3, none⟩ = some (.bool false) := B9.out.cell 3
  have z4 : w3.cell? ⟨w.heap.size + 1 + 1 + 1, 4, none⟩ = some (.bool false) := B9.out.cell 4
  have z5 : w3.cell? ⟨w.heap.size + 1 + 1 + 1, 5, none⟩ = some (.int .u32 0) := B9.out.cell 5
  have z6 : w3.cell? ⟨w.heap.size + 1 + 1 + 1, 6, none⟩ = some (.int .u32 0) := B9.out.cell 6
  have f8 : ∀ i, w3.frozen? ⟨w.heap.size + 1 + 1, i, none⟩ = false := fun i => B8.out.free i
  have f9 : ∀ i, w3.frozen? ⟨w.heap.size + 1 + 1 + 1, i, none⟩ = false := fun i => B9.out.free i
  go_wp2_with fail
  have HDD : Hid (Blk ((((((((((((((((w3.setCell ⟨w.heap.size + 1 + 1, 0, none⟩ (.int .u32 r0)).setCell ⟨w.heap.size + 1 + 1, 1, none⟩ (.int .u32 r1)).setCell ⟨w.heap.size + 1 + 1, 2, none⟩ (.int .u32 r2)).setCell ⟨w.heap.size + 1 + 1, 3, none⟩ (.int .u32 r3)).setCell ⟨w.heap.size + 1 + 1, 4, none⟩ (.int .u32 r4)).setCell ⟨w.heap.size + 1 + 1, 5, none⟩ (.int .u32 r5)).setCell ⟨w.heap.size + 1 + 1, 6, none⟩ (.int .u32 r6)).setCell ⟨w.heap.size + 1 + 1, 7, none⟩ (.int .u32 r7)).setCell ⟨w.heap.size + 1 + 1, 8, none⟩ (.slice pv s cv)).setCell ⟨w.heap.size + 1 + 1 + 1, 0, none⟩ (.int .u32 pc)).setCell ⟨w.heap.size + 1 + 1 + 1, 1, none⟩ (.bool false)).setCell ⟨w.heap.size + 1 + 1 + 1, 2, none⟩ (.int .i64 120)).setCell ⟨w.heap.size + 1 + 1 + 1, 3, none⟩ (.bool false)).setCell ⟨w.heap.size + 1 + 1 + 1, 4, none⟩ (.bool false)).setCell ⟨w.heap.size + 1 + 1 + 1, 5, none⟩ (.int .u32 0)).setCell ⟨w.heap.size + 1 + 1 + 1, 6, none⟩ (.int .u32 0)) (w.heap.size + 1 + 1) 47 #[.int .u32 r0, .int .u32 r1, .int .u32 r2, .int .u32 r3, .int .u32 r4, .int .u32 r5, .int .u32 r6, .int .u32 r7, .slice pv s cv] ∧ Blk ((((((((((((((((w3.setCell ⟨w.heap.size + 1 + 1, 0, none⟩ (.int .u32 r0)).setCell ⟨w.heap.size + 1 + 1, 1, none⟩ (.int .u32 r1)).setCell ⟨w.heap.size + 1 + 1, 2, none⟩ (.int .u32 r2)).setCell ⟨w.heap.size + 1 + 1, 3, none⟩ (.int .u32 r3)).setCell ⟨w.heap.size + 1 + 1, 4, none⟩ (.int .u32 r4)).setCell ⟨w.heap.size + 1 + 1, 5, none⟩ (.int .u32 r5)).setCell ⟨w.heap.size + 1 + 1, 6, none⟩ (.int .u32 r6)).setCell ⟨w.heap.size + 1 + 1, 7, none⟩ (.int .u32 r7)).setCell ⟨w.heap.size + 1 + 1, 8, none⟩ (.slice pv s cv)).setCell ⟨w.heap.size + 1 + 1 + 1, 0, none⟩ (.int .u32 pc)).setCell ⟨w.heap.size + 1 + 1 + 1, 1, none⟩ (.bool false)).setCell ⟨w.heap.size + 1 + 1 + 1, 2, none⟩ (.int .i64 120)).setCell ⟨w.heap.size + 1 + 1 + 1, 3, none⟩ (.bool false)).setCell ⟨w.heap.size + 1 + 1 + 1, 4, none⟩ (.bool false)).setCell ⟨w.heap.size + 1 + 1 + 1, 5, none⟩ (.int .u32 0)).setCell ⟨w.heap.size + 1 + 1 + 1, 6, none⟩ (.int .u32 0)) (w.heap.size + 1 + 1 + 1) 121 #[.int .u32 pc, .bool false, .int .i64 120, .bool false, .bool false, .int .u32 0, .int .u32 0] ∧ POwnV ((((((((((((((((w3.setCell ⟨w.heap.size + 1 + 1, 0, none⟩ (.int .u32 r0)).setCell ⟨w.heap.size + 1 + 1, 1, none⟩ (.int .u32 r1)).setCell ⟨w.heap.size + 1 + 1, 2, none⟩ (.int .u32 r2)).setCell ⟨w.heap.size + 1 + 1, 3, none⟩ (.int .u32 r3)).setCell ⟨w.heap.size + 1 + 1, 4, none⟩ (.int .u32 r4)).setCell ⟨w.heap.size + 1 + 1, 5, none⟩ (.int .u32 r5)).setCell ⟨w.heap.size + 1 + 1, 6, none⟩ (.int .u32 r6)).setCell ⟨w.heap.size + 1 + 1, 7, none⟩ (.int .u32 r7)).setCell ⟨w.heap.size + 1 + 1, 8, none⟩ (.slice pv s cv)).setCell ⟨w.heap.size + 1 + 1 + 1, 0, none⟩ (.int .u32 pc)).setCell ⟨w.heap.size + 1 + 1 + 1, 1, none⟩ (.bool false)).setCell ⟨w.heap.size + 1 + 1 + 1, 2, none⟩ (.int .i64 120)).setCell ⟨w.heap.size + 1 + 1 + 1, 3, none⟩ (.bool false)).setCell ⟨w.heap.size + 1 + 1 + 1, 4, none⟩ (.bool false)).setCell ⟨w.heap.size + 1 + 1 + 1, 5, none⟩ (.int .u32 0)).setCell ⟨w.heap.size + 1 + 1 + 1, 6, none⟩ (.int .u32 0)) w.heap.size (.slice pv s cv) S ∧ Below w.heap.size w ((((((((((((((((w3.setCell ⟨w.heap.size + 1 + 1, 0, none⟩ (.int .u32 r0)).setCell ⟨w.heap.size + 1 + 1, 1, none⟩ (.int .u32 r1)).setCell ⟨w.heap.size + 1 + 1, 2, none⟩ (.int .u32 r2)).setCell ⟨w.heap.size + 1 + 1, 3, none⟩ (.int .u32 r3)).setCell ⟨w.heap.size + 1 + 1, 4, none⟩ (.int .u32 r4)).setCell ⟨w.heap.size + 1 + 1, 5, none⟩ (.int .u32 r5)).setCell ⟨w.heap.size + 1 + 1, 6, none⟩ (.int .u32 r6)).setCell ⟨w.heap.size + 1 + 1, 7, none⟩ (.int .u32 r7)).setCell ⟨w.heap.size + 1 + 1, 8, none⟩ (.slice pv s cv)).setCell ⟨w.heap.size + 1 + 1 + 1, 0, none⟩ (.int .u32 pc)).setCell ⟨w.heap.size + 1 + 1 + 1, 1, none⟩ (.bool false)).setCell ⟨w.heap.size + 1 + 1 + 1, 2, none⟩ (.int .i64 120)).setCell ⟨w.heap.size + 1 + 1 + 1, 3, none⟩ (.bool false)).setCell ⟨w.heap.size + 1 + 1 + 1, 4, none⟩ (.bool false)).setCell ⟨w.heap.size + 1 + 1 + 1, 5, none⟩ (.int .u32 0)).setCell ⟨w.heap.size + 1 + 1 + 1, 6, none⟩ (.int .u32 0))) := HST3.out.stored #[.int .u32 r0, .int .u32 r1, .int .u32 r2, .int .u32 r3, .int .u32 r4, .int .u32 r5, .int .u32 r6, .int .u32 r7, .slice pv s cv] #[.int .u32 pc, .bool false, .int .i64 120, .bool false, .bool false, .int .u32 0, .int .u32 0] rfl rfl
  generalize ((((((((((((((((w3.setCell ⟨w.heap.size + 1 + 1, 0, none⟩ (.int .u32 r0)).setCell ⟨w.heap.size + 1 + 1, 1, none⟩ (.int .u32 r1)).setCell ⟨w.heap.size + 1 + 1, 2, none⟩ (.int .u32 r2)).setCell ⟨w.heap.size + 1 + 1, 3, none⟩ (.int .u32 r3)).setCell ⟨w.heap.size + 1 + 1, 4, none⟩ (.int .u32 r4)).setCell ⟨w.heap.size + 1 + 1, 5, none⟩ (.int .u32 r5)).setCell ⟨w.heap.size + 1 + 1, 6, none⟩ (.int .u32 r6)).setCell ⟨w.heap.size + 1 + 1, 7, none⟩ (.int .u32 r7)).setCell ⟨w.heap.size + 1 + 1, 8, none⟩ (.slice pv s cv)).setCell ⟨w.heap.size + 1 + 1 + 1, 0, none⟩ (.int .u32 pc)).setCell ⟨w.heap.size + 1 + 1 + 1, 1, none⟩ (.bool false)).setCell ⟨w.heap.size + 1 + 1 + 1, 2, none⟩ (.int .i64 120)).setCell ⟨w.heap.size + 1 + 1 + 1, 3, none⟩ (.bool false)).setCell ⟨w.heap.size + 1 + 1 + 1, 4, none⟩ (.bool false)).setCell ⟨w.heap.size + 1 + 1 + 1, 5, none⟩ (.int .u32 0)).setCell ⟨w.heap.size + 1 + 1 + 1, 6, none⟩ (.int .u32 0)) = wd at *
  obtain ⟨d1, d2, d3, d4⟩ := HDD.out
  have l1 := d1.load 47 _ Tryz.underlying47 rfl Tryz.sz47
  have l2 := d2.load 121 _ Tryz.underlying121 rfl Tryz.sz121
  exact bodyPost_ret (v := .tuple #[.agg #[.int .u32 r0, .int .u32 r1, .int .u32 r2, .int .u32 r3, .int .u32 r4, .int .u32 r5, .int .u32 r6, .int .u32 r7, .slice pv s cv], .agg #[.int .u32 pc, .bool false, .int .i64 120, .bool false, .bool false, .int .u32 0, .int .u32 0]]) (by simp [results, Tryz.results58, asAddr, l1, l2]) rfl ⟨⟨_, rfl, d3⟩, d4⟩

set_option maxHeartbeats 4000000 in
set_option maxRecDepth 8000 in
theorem rdo_brk (o a b : Nat) (n pc : Int) (R S : List Int) (p q : Option Addr) (s c d dc : Nat) (w : World) (ha : a ≤ 255) (hb : b ≤ 255) (_hpc : 0 ≤ pc ∧ pc ≤ 4294967295)
    (lR : R.length = 8) (hS : S.length = s) (hs : s * 4 ≤ 140737488355324) (hr : PRow w p S)
    (ho : o = 4) (hR : rightB o a b n = true) :
    Calls Tryz.prog 58 #[ins o a b n, .int .u32 pc, rgV R (.slice p s c), .slice q d dc] w fun e w' => (∃ v, e = .returned (.tuple #[rgV R v, .agg (effA { goE pc with fl := 120 })]) ∧ POwnV w' w.heap.size v S) ∧ Below w.heap.size w w' := by
  have h14 := fun W => rspan_any o a b n W (by omega) (by omega)
  rw [spanN_right hR] at h14
  have hlen := lenN_in o (by omega) (by omega)
  have l0 : ((lenN o : Int) == 0) = false := by simp; omega
  have HO := Hid.in ho
  clear ho hR
  have h7 := fun W (h : PRow W p S) => copyRegs_any R p s c S W lR hS (by omega) h
  have HRW : Hid (∀ W, Below w.heap.size w W → PRow W p S) := fun W h => hr.below h
  have HS := Hid.in hS
  have sz9 : ∀ v, (Tryz.prog.info? 47).map (·.size) = some (rgA R v).size := fun v => by rw [rgA_size R _ lR]; exact Tryz.sz47
  have SZ := Hid.in sz9
  have ON : Hid (∀ v, v.oneCell' = true → (rgA R v).all (·.oneCell') = true) := fun v hv => rgA_one R v hv
  clear hr hS sz9
  show Calls Tryz.prog 58 #[ins o a b n, .int .u32 pc, .agg (rgA R (.slice p s c)), .slice q d dc] w _
  go_enter Tryz.func58, Tryz.ntmps58
  go_upto_region 1 with fail
  obtain ⟨hst, hsz, hb0, hbr⟩ := RSt.start w _ o a b n R S (.slice p s c) lR rfl
  generalize (((w.alloc (.cells #[.int .u8 o, .int .u8 a, .int .u8 b, .int .i32 n] 117)).alloc (.cells (rgA R (.slice p s c)) 47)).alloc (.cells noRegs 47)).alloc (.cells (efA 0) 121) = w0 at *
  have h7' := h7 w0 (HRW.out _ hb0)
  have HB0 := Hid.in (hbr w0 (below_self _))
  clear h7 HRW
  go_wp2_with (first | (go_at_call 35; refine Hid.out ?_) | (refine step_load_blk HB0.out rfl 47 _ rfl rfl (rgA R (.slice p s c)) (List.prefix_refl _) _ Tryz.underlying47 rfl (SZ.out _) ?_))
  refine Lib.hid ?_
  refine h7'.mono ?_
  rintro e w1 ⟨⟨v, rfl, ho1⟩, hb1⟩
  obtain ⟨pv, cv, rfl, -, -⟩ := ho1.slice
  rw [HS.out] at ho1 ⊢
  have HB1 := Hid.in (hbr w1 hb1)
  have HST : Hid (∀ w2, w1.grownBy w2 (some (w.heap.size + 1)) → Blk w2 (w.heap.size + 1) 47 (rgA R (.slice pv s cv)) → RSt w w.heap.size o a b n R (.slice pv s cv) S w2) := fun w2 k1 k2 => hst w1 w2 _ (by rw [← hsz]; exact ho1) hb1 k1 k2
  clear hst hbr hb1 ho1 h7' hb0 HB0
  go_wp2_with (first | (go_at_call 94; refine Hid.out ?_) | (refine step_store_blk HB1.out rfl 47 _ _ rfl rfl rfl (rgA R (.slice pv s cv)) rfl (SZ.out _) (by rw [rgA_size R _ lR, rgA_size R _ lR]) (ON.out _ rfl) ?_; intro w2 hk2 hg2; have HST2 := Hid.in (HST.out w2 hg2 hk2); have i0 : w2.cell? ⟨w.heap.size, 0, none⟩ = some (.int .u8 o) := HST2.out.bi.cell 0; have i1 : w2.cell? ⟨w.heap.size, 1, none⟩ = some (.int .u8 a) := HST2.out.bi.cell 1; have i2 : w2.cell? ⟨w.heap.size, 2, none⟩ = some (.int .u8 b) := HST2.out.bi.cell 2; have i3 : w2.cell? ⟨w.heap.size, 3, none⟩ = some (.int .i32 n) := HST2.out.bi.cell 3; clear hk2 hg2 HB1))
  refine Lib.hid ?_
  refine (h14 _).mono ?_
  rintro e w3 ⟨rfl, hb3⟩
  have HST3 := Hid.in (HST2.out.below hb3)
  clear h14 hb3 HST HST2 i0 i1 i2 i3
  have i0 : w3.cell? ⟨w.heap.size, 0, none⟩ = some (.int .u8 o) := HST3.out.bi.cell 0
  have i3 : w3.cell? ⟨w.heap.size, 3, none⟩ = some (.int .i32 n) := HST3.out.bi.cell 3
  have ho := HO.out
  subst ho
  obtain ⟨r0, r1, r2, r3, r4, r5, r6, r7, rfl⟩ := eight lR
  have B1 : Hid (Blk w3 (w.heap.size + 1) 47 #[.int .u32 r0, .int .u32 r1, .int .u32 r2, .int .u32 r3, .int .u32 r4, .int .u32 r5, .int .u32 r6, .int .u32 r7, .slice pv s cv]) := HST3.out.br
  have B8 := Hid.in HST3.out.b8
  have B9 := Hid.in HST3.out.b9
  have a0 : w3.cell? ⟨w.heap.size + 1, 0, none⟩ = some (.int .u32 r0) := B1.out.cell 0
  have a1 : w3.cell? ⟨w.heap.size + 1, 1, none⟩ = some (.int .u32 r1) := B1.out.cell 1
  have a2 : w3.cell? ⟨w.heap.size + 1, 2, none⟩ = some (.int .u32 r2) := B1.out.cell 2
  have a3 : w3.cell? ⟨w.heap.size + 1, 3, none⟩ = some (.int .u32 r3) := B1.out.cell 3
  have a4 : w3.cell? ⟨w.heap.size + 1, 4, none⟩ = some (.int .u32 r4) := B1.out.cell 4
  have a5 : w3.cell? ⟨w.heap.size + 1, 5, none⟩ = some (.int .u32 r5) := B1.out.cell 5
  have a6 : w3.cell? ⟨w.heap.size + 1, 6, none⟩ = some (.int .u32 r6) := B1.out.cell 6
  have a7 : w3.cell? ⟨w.heap.size + 1, 7, none⟩ = some (.int .u32 r7) := B1.out.cell 7
  have a8 : w3.cell? ⟨w.heap.size + 1, 8, none⟩ = some (.slice pv s cv) := B1.out.cell 8
  have y0 : w3.cell? ⟨w.heap.size + 1 + 1, 0, none⟩ = some (.int .u32 0) := B8.out.cell 0
  have y1 : w3.cell? ⟨w.heap.size + 1 + 1, 1, none⟩ = some (.int .u32 0) := B8.out.cell 1
  have y2 : w3.cell? ⟨w.heap.size + 1 + 1, 2, none⟩ = some (.int .u32 0) := B8.out.cell 2
  have y3 : w3.cell? ⟨w.heap.size + 1 + 1, 3, none⟩ = some (.int .u32 0) := B8.out.cell 3
  have y4 : w3.cell? ⟨w.heap.size + 1 + 1, 4, none⟩ = some (.int .u32 0) := B8.out.cell 4
  have y5 : w3.cell? ⟨w.heap.size + 1 + 1, 5, none⟩ = some (.int .u32 0) := B8.out.cell 5
  have y6 : w3.cell? ⟨w.heap.size + 1 + 1, 6, none⟩ = some (.int .u32 0) := B8.out.cell 6
  have y7 : w3.cell? ⟨w.heap.size + 1 + 1, 7, none⟩ = some (.int .u32 0) := B8.out.cell 7
  have y8 : w3.cell? ⟨w.heap.size + 1 + 1, 8, none⟩ = some (.slice none 0 0) := B8.out.cell 8
  have z0 : w3.cell? ⟨w.heap.size + 1 + 1 + 1, 0, none⟩ = some (.int .u32 0) := B9.out.cell 0
  have z1 : w3.cell? ⟨w.heap.size + 1 + 1 + 1, 1, none⟩ = some (.bool false) := B9.out.cell 1
  have z2 : w3.cell? ⟨w.heap.size + 1 + 1 + 1, 2, none⟩ = some (.int .i64 0) := B9.out.cell 2
  have z3 : w3.cell? ⟨w.heap.size + 1 + 1 + 1, 3, none⟩ = some (.bool false) := B9.out.cell 3
  have z4 : w3.cell? ⟨w.heap.size + 1 + 1 + 1, 4, none⟩ = some (.bool false) := B9.out.cell 4
  have z5 : w3.cell? ⟨w.heap.size + 1 + 1 + 1, 5, none⟩ = some (.int .u32 0) := B9.out.cell 5
  have z6 : w3.cell? ⟨w.heap.size + 1 + 1 + 1, 6, none⟩ = some (.int .u32 0) := B9.out.cell 6
  have f8 : ∀ i, w3.frozen? ⟨w.heap.size + 1 + 1, i, none⟩ = false := fun i => B8.out.free i
  have f9 : ∀ i, w3.frozen? ⟨w.heap.size + 1 + 1 + 1, i, none⟩ = false := fun i => B9.out.free i
  go_wp2_with fail
  have HDD : Hid (Blk ((((((((((((((((w3.setCell ⟨w.heap.size + 1 + 1, 0, none⟩ (.int .u32 r0)).setCell ⟨w.heap.size + 1 + 1, 1, none⟩ (.int .u32 r1)).setCell ⟨w.heap.size + 1 + 1, 2, none⟩ (.int .u32 r2)).setCell ⟨w.heap.size + 1 + 1, 3, none⟩ (.int .u32 r3)).setCell ⟨w.heap.size + 1 + 1, 4, none⟩ (.int .u32 r4)).setCell ⟨w.heap.size + 1 + 1, 5, none⟩ (.int .u32 r5)).setCell ⟨w.heap.size + 1 + 1, 6, none⟩ (.int .u32 r6)).setCell ⟨w.heap.size + 1 + 1, 7, none⟩ (.int .u32 r7)).setCell ⟨w.heap.size + 1 + 1, 8, none⟩ (.slice pv s cv)).setCell ⟨w.heap.size + 1 + 1 + 1, 0, none⟩ (.int .u32 pc)).setCell ⟨w.heap.size + 1 + 1 + 1, 1, none⟩ (.bool false)).setCell ⟨w.heap.size + 1 + 1 + 1, 2, none⟩ (.int .i64 120)).setCell ⟨w.heap.size + 1 + 1 + 1, 3, none⟩ (.bool false)).setCell ⟨w.heap.size + 1 + 1 + 1, 4, none⟩ (.bool false)).setCell ⟨w.heap.size + 1 + 1 + 1, 5, none⟩ (.int .u32 0)).setCell ⟨w.heap.size + 1 + 1 + 1, 6, none⟩ (.int .u32 0)) (w.heap.size + 1 + 1) 47 #[.int .u32 r0, .int .u32 r1, .int .u32 r2, .int .u32 r3, .int .u32 r4, .int .u32 r5, .int .u32 r6, .int .u32 r7, .slice pv s cv] ∧ Blk ((((((((((((((((w3.setCell ⟨w.heap.size + 1 + 1, 0, none⟩ (.int .u32 r0)).setCell ⟨w.heap.size + 1 + 1, 1, none⟩ (.int .u32 r1)).setCell ⟨w.heap.size + 1 + 1, 2, none⟩ (.int .u32 r2)).setCell ⟨w.heap.size + 1 + 1, 3, none⟩ (.int .u32 r3)).setCell ⟨w.heap.size + 1 + 1, 4, none⟩ (.int .u32 r4)).setCell ⟨w.heap.size + 1 + 1, 5, none⟩ (.int .u32 r5)).setCell ⟨w.heap.size + 1 + 1, 6, none⟩ (.int .u32 r6)).setCell ⟨w.heap.size + 1 + 1, 7, none⟩ (.int .u32 r7)).setCell ⟨w.heap.size + 1 + 1, 8, none⟩ (.slice pv s cv)).setCell ⟨w.heap.size + 1 + 1 + 1, 0, none⟩ (.int .u32 pc)).setCell ⟨w.heap.size + 1 + 1 + 1, 1, none⟩ (.bool false)).setCell ⟨w.heap.size + 1 + 1 + 1, 2, none⟩ (.int .i64 120)).setCell ⟨w.heap.size + 1 + 1 + 1, 3, none⟩ (.bool false)).setCell ⟨w.heap.size + 1 + 1 + 1, 4, none⟩ (.bool false)).setCell ⟨w.heap.size + 1 + 1 + 1, 5, none⟩ (.int .u32 0)).setCell ⟨w.heap.size + 1 + 1 + 1, 6, none⟩ (.int .u32 0)) (w.heap.size + 1 + 1 + 1) 121 #[.int .u32 pc, .bool false, .int .i64 120, .bool false, .bool false, .int .u32 0, .int .u32 0] ∧ POwnV ((((((((((((((((w3.setCell ⟨w.heap.size + 1 + 1, 0, none⟩ (.int .u32 r0)).setCell ⟨w.heap.size + 1 + 1, 1, none⟩ (.int .u32 r1)).setCell ⟨w.heap.size + 1 + 1, 2, none⟩ (.int .u32 r2)).setCell ⟨w.heap.size + 1 + 1, 3, none⟩ (.int .u32 r3)).setCell ⟨w.heap.size + 1 + 1, 4, none⟩ (.int .u32 r4)).setCell ⟨w.heap.size + 1 + 1, 5, none⟩ (.int .u32 r5)).setCell ⟨w.heap.size + 1 + 1, 6, none⟩ (.int .u32 r6)).setCell ⟨w.heap.size + 1 + 1, 7, none⟩ (.int .u32 r7)).setCell ⟨w.heap.size + 1 + 1, 8, none⟩ (.slice pv s cv)).setCell ⟨w.heap.size + 1 + 1 + 1, 0, none⟩ (.int .u32 pc)).setCell ⟨w.heap.size + 1 + 1 + 1, 1, none⟩ (.bool false)).setCell ⟨w.heap.size + 1 + 1 + 1, 2, none⟩ (.int .i64 120)).setCell ⟨w.heap.size + 1 + 1 + 1, 3, none⟩ (.bool false)).setCell ⟨w.heap.size + 1 + 1 + 1, 4, none⟩ (.bool false)).setCell ⟨w.heap.size + 1 + 1 + 1, 5, none⟩ (.int .u32 0)).setCell ⟨w.heap.size + 1 + 1 + 1, 6, none⟩ (.int .u32 0)) w.heap.size (.slice pv s cv) S ∧ Below w.heap.size w ((((((((((((((((w3.setCell ⟨w.heap.size + 1 + 1, 0, none⟩ (.int .u32 r0)).setCell ⟨w.heap.size + 1 + 1, 1, none⟩ (.int .u32 r1)).setCell ⟨w.heap.size + 1 + 1, 2, none⟩ (.int .u32 r2)).setCell ⟨w.heap.size + 1 + 1, 3, none⟩ (.int .u32 r3)).setCell ⟨w.heap.size + 1 + 1, 4, none⟩ (.int .u32 r4)).setCell ⟨w.heap.size + 1 + 1, 5, none⟩ (.int .u32 r5)).setCell ⟨w.heap.size + 1 + 1, 6, none⟩ (.int .u32 r6)).setCell ⟨w.heap.size + 1 + 1, 7, none⟩ (.int .u32 r7)).setCell ⟨w.heap.size + 1 + 1, 8, none⟩ (.slice pv s cv)).setCell ⟨w.heap.size + 1 + 1 + 1, 0, none⟩ (.int .u32 pc)).setCell ⟨w.heap.size + 1 + 1 + 1, 1, none⟩ (.bool false)).setCell ⟨w.heap.size + 1 + 1 + 1, 2, none⟩ (.int .i64 120)).setCell ⟨w.heap.size + 1 + 1 + 1, 3, none⟩ (.bool false)).setCell ⟨w.heap.size + 1 + 1 + 1, 4, none⟩ (.bool false)).setCell ⟨w.heap.size + 1 + 1 + 1, 5, none⟩ (.int .u32 0)).setCell ⟨w.heap.size + 1 + 1 + 1, 6, none⟩ (.int .u32 0))) := HST3.out.stored #[.int .u32 r0, .int .u32 r1, .int .u32 r2, .int .u32 r3, .int .u32 r4, .int .u32 r5, .int .u32 r6, .int .u32 r7, .slice pv s cv] #[.int .u32 pc, .bool false, .int .i64 120, .bool false, .bool false, .int .u32 0, .int .u32 0] rfl rfl
  generalize ((((((((((((((((w3.setCell ⟨w.heap.size + 1 + 1, 0, none⟩ (.int .u32 r0)).setCell ⟨w.heap.size + 1 + 1, 1, none⟩ (.int .u32 r1)).setCell ⟨w.heap.size + 1 + 1, 2, none⟩ (.int .u32 r2)).setCell ⟨w.heap.size + 1 + 1, 3, none⟩ (.int .u32 r3)).setCell ⟨w.heap.size + 1 + 1, 4, none⟩ (.int .u32 r4)).setCell ⟨w.heap.size + 1 + 1, 5, none⟩ (.int .u32 r5)).setCell ⟨w.heap.size + 1 + 1, 6, none⟩ (.int .u32 r6)).setCell ⟨w.heap.size + 1 + 1, 7, none⟩ (.int .u32 r7)).setCell ⟨w.heap.size + 1 + 1, 8, none⟩ (.slice pv s cv)).setCell ⟨w.heap.size + 1 + 1 + 1, 0, none⟩ (.int .u32 pc)).setCell ⟨w.heap.size + 1 + 1 + 1, 1, none⟩ (.bool false)).setCell ⟨w.heap.size + 1 + 1 + 1, 2, none⟩ (.int .i64 120)).setCell ⟨w.heap.size + 1 + 1 + 1, 3, none⟩ (.bool false)).setCell ⟨w.heap.size + 1 + 1 + 1, 4, none⟩ (.bool false)).setCell ⟨w.heap.size + 1 + 1 + 1, 5, none⟩ (.int .u32 0)).setCell ⟨w.heap.size + 1 + 1 + 1, 6, none⟩ (.int .u32 0)) = wd at *
  obtain ⟨d1, d2, d3, d4⟩ := HDD.out
  have l1 := d1.load 47 _ Tryz.underlying47 rfl Tryz.sz47
  have l2 := d2.load 121 _ Tryz.underlying121 rfl Tryz.sz121
  exact bodyPost_ret (v := .tuple #[.agg #[.int .u32 r0, .int .u32 r1, .int .u32 r2, .int .u32 r3, .int .u32 r4, .int .u32 r5, .int .u32 r6, .int .u32 r7, .slice pv s cv], .agg #[.int .u32 pc, .bool false, .int .i64 120, .bool false, .bool false, .int .u32 0, .int .u32 0]]) (by simp [results, Tryz.results58, asAddr, l1, l2]) rfl ⟨⟨_, rfl, d3⟩, d4⟩

set_option maxHeartbeats 4000000 in
set_option maxRecDepth 8000 in
theorem rdo_call (o a b : Nat) (n pc : Int) (R S : List Int) (p q : Option Addr) (s c d dc : Nat) (w : World) (ha : a ≤ 255) (hb : b ≤ 255) (_hpc : 0 ≤ pc ∧ pc ≤ 4294967295)
    (lR : R.length = 8) (hS : S.length = s) (hs : s * 4 ≤ 140737488355324) (hr : PRow w p S)
    (ho : o = 12) (hR : rightB o a b n = true)
    (h64 : 64 ≤ s) :
    Calls Tryz.prog 58 #[ins o a b n, .int .u32 pc, rgV R (.slice p s c), .slice q d dc] w fun e w' => (∃ v, e = .returned (.tuple #[rgV R v, .agg (effA { goE pc with fl := 3 })]) ∧ POwnV w' w.heap.size v S) ∧ Below w.heap.size w w' := by
  have h14 := fun W => rspan_any o a b n W (by omega) (by omega)
  rw [spanN_right hR] at h14
  have hlen := lenN_in o (by omega) (by omega)
  have l0 : ((lenN o : Int) == 0) = false := by simp; omega
  have HO := Hid.in ho
  clear ho hR
  have h7 := fun W (h : PRow W p S) => copyRegs_any R p s c S W lR hS (by omega) h
  have HRW : Hid (∀ W, Below w.heap.size w W → PRow W p S) := fun W h => hr.below h
  have HS := Hid.in hS
  have sz9 : ∀ v, (Tryz.prog.info? 47).map (·.size) = some (rgA R v).size := fun v => by rw [rgA_size R _ lR]; exact Tryz.sz47
  have SZ := Hid.in sz9
  have ON : Hid (∀ v, v.oneCell' = true → (rgA R v).all (·.oneCell') = true) := fun v hv => rgA_one R v hv
  clear hr hS sz9
  show Calls Tryz.prog 58 #[ins o a b n, .int .u32 pc, .agg (rgA R (.slice p s c)), .slice q d dc] w _
  go_enter Tryz.func58, Tryz.ntmps58
  go_upto_region 1 with fail
  obtain ⟨hst, hsz, hb0, hbr⟩ := RSt.start w _ o a b n R S (.slice p s c) lR rfl
  generalize (((w.alloc (.cells #[.int .u8 o, .int .u8 a, .int .u8 b, .int .i32 n] 117)).alloc (.cells (rgA R (.slice p s c)) 47)).alloc (.cells noRegs 47)).alloc (.cells (efA 0) 121) = w0 at *
  have h7' := h7 w0 (HRW.out _ hb0)
  have HB0 := Hid.in (hbr w0 (below_self _))
  clear h7 HRW
  go_wp2_with (first | (go_at_call 35; refine Hid.out ?_) | (refine step_load_blk HB0.out rfl 47 _ rfl rfl (rgA R (.slice p s c)) (List.prefix_refl _) _ Tryz.underlying47 rfl (SZ.out _) ?_))
  refine Lib.hid ?_
  refine h7'.mono ?_
  rintro e w1 ⟨⟨v, rfl, ho1⟩, hb1⟩
  obtain ⟨pv, cv, rfl, -, -⟩ := ho1.slice
  rw [HS.out] at ho1 ⊢
  have HB1 := Hid.in (hbr w1 hb1)
  have HST : Hid (∀ w2, w1.grownBy w2 (some (w.heap.size + 1)) → Blk w2 (w.heap.size + 1) 47 (rgA R (.slice pv s cv)) → RSt w w.heap.size o a b n R (.slice pv s cv) S w2) := fun w2 k1 k2 => hst w1 w2 _ (by rw [← hsz]; exact ho1) hb1 k1 k2
  clear hst hbr hb1 ho1 h7' hb0 HB0
  go_wp2_with (first | (go_at_call 94; refine Hid.out ?_) | (refine step_store_blk HB1.out rfl 47 _ _ rfl rfl rfl (rgA R (.slice pv s cv)) rfl (SZ.out _) (by rw [rgA_size R _ lR, rgA_size R _ lR]) (ON.out _ rfl) ?_; intro w2 hk2 hg2; have HST2 := Hid.in (HST.out w2 hg2 hk2); have i0 : w2.cell? ⟨w.heap.size, 0, none⟩ = some (.int .u8 o) := HST2.out.bi.cell 0; have i1 : w2.cell? ⟨w.heap.size, 1, none⟩ = some (.int .u8 a) := HST2.out.bi.cell 1; have i2 : w2.cell? ⟨w.heap.size, 2, none⟩ = some (.int .u8 b) := HST2.out.bi.cell 2; have i3 : w2.cell? ⟨w.heap.size, 3, none⟩ = some (.int .i32 n) := HST2.out.bi.cell 3; clear hk2 hg2 HB1))
  refine Lib.hid ?_
  refine (h14 _).mono ?_
  rintro e w3 ⟨rfl, hb3⟩
  have HST3 := Hid.in (HST2.out.below hb3)
  clear h14 hb3 HST HST2 i0 i1 i2 i3
  have i0 : w3.cell? ⟨w.heap.size, 0, none⟩ = some (.int .u8 o) := HST3.out.bi.cell 0
  have i3 : w3.cell? ⟨w.heap.size, 3, none⟩ = some (.int .i32 n) := HST3.out.bi.cell 3
  have o4 : ((o : Int) == 4) = false := by have := HO.out; simp; omega
  go_upto_region 8 with fail
  have HX5 := Hid.in (HST3.out.withE (.cells (efA ((pc + (lenN o : Int)) % 4294967296)) 121) rfl)
  generalize (pc + (lenN o : Int)) % 4294967296 = bh at *
  generalize w3.alloc (.cells (efA bh) 121) = w5 at *
  generalize w3.heap.size = gx at *
  have HX : Hid (RSx w w.heap.size o a b n R (.slice pv s cv) S gx (efA bh) w5) := HX5.out
  clear HX5 HST3 i0 i3 hlen l0 o4
  have i0 : w5.cell? ⟨w.heap.size, 0, none⟩ = some (.int .u8 o) := HX.out.st.bi.cell 0
  have r8 : w5.cell? ⟨w.heap.size + 1, 8, none⟩ = some (.slice pv s cv) := by rw [HX.out.st.br.cell, rgA_last R _ HX.out.st.len]
  have ho := HO.out
  subst ho
  obtain ⟨r0, r1, r2, r3, r4, r5, r6, r7, rfl⟩ := eight lR
  have B1 : Hid (Blk w5 (w.heap.size + 1) 47 #[.int .u32 r0, .int .u32 r1, .int .u32 r2, .int .u32 r3, .int .u32 r4, .int .u32 r5, .int .u32 r6, .int .u32 r7, .slice pv s cv]) := HX.out.st.br
  have B8 := Hid.in HX.out.st.b8
  have B9 := Hid.in HX.out.st.b9
  have a0 : w5.cell? ⟨w.heap.size + 1, 0, none⟩ = some (.int .u32 r0) := B1.out.cell 0
  have a1 : w5.cell? ⟨w.heap.size + 1, 1, none⟩ = some (.int .u32 r1) := B1.out.cell 1
  have a2 : w5.cell? ⟨w.heap.size + 1, 2, none⟩ = some (.int .u32 r2) := B1.out.cell 2
  have a3 : w5.cell? ⟨w.heap.size + 1, 3, none⟩ = some (.int .u32 r3) := B1.out.cell 3
  have a4 : w5.cell? ⟨w.heap.size + 1, 4, none⟩ = some (.int .u32 r4) := B1.out.cell 4
  have a5 : w5.cell? ⟨w.heap.size + 1, 5, none⟩ = some (.int .u32 r5) := B1.out.cell 5
  have a6 : w5.cell? ⟨w.heap.size + 1, 6, none⟩ = some (.int .u32 r6) := B1.out.cell 6
  have a7 : w5.cell? ⟨w.heap.size + 1, 7, none⟩ = some (.int .u32 r7) := B1.out.cell 7
  have a8 : w5.cell? ⟨w.heap.size + 1, 8, none⟩ = some (.slice pv s cv) := B1.out.cell 8
  have y0 : w5.cell? ⟨w.heap.size + 1 + 1, 0, none⟩ = some (.int .u32 0) := B8.out.cell 0
  have y1 : w5.cell? ⟨w.heap.size + 1 + 1, 1, none⟩ = some (.int .u32 0) := B8.out.cell 1
  have y2 : w5.cell? ⟨w.heap.size + 1 + 1, 2, none⟩ = some (.int .u32 0) := B8.out.cell 2
  have y3 : w5.cell? ⟨w.heap.size + 1 + 1, 3, none⟩ = some (.int .u32 0) := B8.out.cell 3
  have y4 : w5.cell? ⟨w.heap.size + 1 + 1, 4, none⟩ = some (.int .u32 0) := B8.out.cell 4
  have y5 : w5.cell? ⟨w.heap.size + 1 + 1, 5, none⟩ = some (.int .u32 0) := B8.out.cell 5
  have y6 : w5.cell? ⟨w.heap.size + 1 + 1, 6, none⟩ = some (.int .u32 0) := B8.out.cell 6
  have y7 : w5.cell? ⟨w.heap.size + 1 + 1, 7, none⟩ = some (.int .u32 0) := B8.out.cell 7
  have y8 : w5.cell? ⟨w.heap.size + 1 + 1, 8, none⟩ = some (.slice none 0 0) := B8.out.cell 8
  have z0 : w5.cell? ⟨w.heap.size + 1 + 1 + 1, 0, none⟩ = some (.int .u32 0) := B9.out.cell 0
  have z1 : w5.cell? ⟨w.heap.size + 1 + 1 + 1, 1, none⟩ = some (.bool false) := B9.out.cell 1
  have z2 : w5.cell? ⟨w.heap.size + 1 + 1 + 1, 2, none⟩ = some (.int .i64 0) := B9.out.cell 2
  have z3 : w5.cell? ⟨w.heap.size + 1 + 1 + 1, 3, none⟩ = some (.bool false) := B9.out.cell 3
  have z4 : w5.cell? ⟨w.heap.size + 1 + 1 + 1, 4, none⟩ = some (.bool false) := B9.out.cell 4
  have z5 : w5.cell? ⟨w.heap.size + 1 + 1 + 1, 5, none⟩ = some (.int .u32 0) := B9.out.cell 5
  have z6 : w5.cell? ⟨w.heap.size + 1 + 1 + 1, 6, none⟩ = some (.int .u32 0) := B9.out.cell 6
  have f8 : ∀ i, w5.frozen? ⟨w.heap.size + 1 + 1, i, none⟩ = false := fun i => B8.out.free i
  have f9 : ∀ i, w5.frozen? ⟨w.heap.size + 1 + 1 + 1, i, none⟩ = false := fun i => B9.out.free i
  go_wp2_with fail
  have HDD : Hid (Blk ((((((((((((((((w5.setCell ⟨w.heap.size + 1 + 1, 0, none⟩ (.int .u32 r0)).setCell ⟨w.heap.size + 1 + 1, 1, none⟩ (.int .u32 r1)).setCell ⟨w.heap.size + 1 + 1, 2, none⟩ (.int .u32 r2)).setCell ⟨w.heap.size + 1 + 1, 3, none⟩ (.int .u32 r3)).setCell ⟨w.heap.size + 1 + 1, 4, none⟩ (.int .u32 r4)).setCell ⟨w.heap.size + 1 + 1, 5, none⟩ (.int .u32 r5)).setCell ⟨w.heap.size + 1 + 1, 6, none⟩ (.int .u32 r6)).setCell ⟨w.heap.size + 1 + 1, 7, none⟩ (.int .u32 r7)).setCell ⟨w.heap.size + 1 + 1, 8, none⟩ (.slice pv s cv)).setCell ⟨w.heap.size + 1 + 1 + 1, 0, none⟩ (.int .u32 pc)).setCell ⟨w.heap.size + 1 + 1 + 1, 1, none⟩ (.bool false)).setCell ⟨w.heap.size + 1 + 1 + 1, 2, none⟩ (.int .i64 3)).setCell ⟨w.heap.size + 1 + 1 + 1, 3, none⟩ (.bool false)).setCell ⟨w.heap.size + 1 + 1 + 1, 4, none⟩ (.bool false)).setCell ⟨w.heap.size + 1 + 1 + 1, 5, none⟩ (.int .u32 0)).setCell ⟨w.heap.size + 1 + 1 + 1, 6, none⟩ (.int .u32 0)) (w.heap.size + 1 + 1) 47 #[.int .u32 r0, .int .u32 r1, .int .u32 r2, .int .u32 r3, .int .u32 r4, .int .u32 r5, .int .u32 r6, .int .u32 r7, .slice pv s cv] ∧ Blk ((((((((((((((((w5.setCell ⟨w.heap.size + 1 + 1, 0, none⟩ (.int .u32 r0)).setCell ⟨w.heap.size + 1 + 1, 1, none⟩ (.int .u32 r1)).setCell ⟨w.heap.size + 1 + 1, 2, none⟩ (.int .u32 r2)).setCell ⟨w.heap.size + 1 + 1, 3, none⟩ (.int .u32 r3)).setCell ⟨w.heap.size + 1 + 1, 4, none⟩ (.int .u32 r4)).setCell ⟨w.heap.size + 1 + 1, 5, none⟩ (.int .u32 r5)).setCell ⟨w.heap.size + 1 + 1, 6, none⟩ (.int .u32 r6)).setCell ⟨w.heap.size + 1 + 1, 7, none⟩ (.int .u32 r7)).setCell ⟨w.heap.size + 1 + 1, 8, none⟩ (.slice pv s cv)).setCell ⟨w.heap.size + 1 + 1 + 1, 0, none⟩ (.int .u32 pc)).setCell ⟨w.heap.size + 1 + 1 + 1, 1, none⟩ (.bool false)).setCell ⟨w.heap.size + 1 + 1 + 1, 2, none⟩ (.int .i64 3)).setCell ⟨w.heap.size + 1 + 1 + 1, 3, none⟩ (.bool false)).setCell ⟨w.heap.size + 1 + 1 + 1, 4, none⟩ (.bool false)).setCell ⟨w.heap.size + 1 + 1 + 1, 5, none⟩ (.int .u32 0)).setCell ⟨w.heap.size + 1 + 1 + 1, 6, none⟩ (.int .u32 0)) (w.heap.size + 1 + 1 + 1) 121 #[.int .u32 pc, .bool false, .int .i64 3, .bool false, .bool false, .int .u32 0, .int .u32 0] ∧ POwnV ((((((((((((((((w5.setCell ⟨w.heap.size + 1 + 1, 0, none⟩ (.int .u32 r0)).setCell ⟨w.heap.size + 1 + 1, 1, none⟩ (.int .u32 r1)).setCell ⟨w.heap.size + 1 + 1, 2, none⟩ (.int .u32 r2)).setCell ⟨w.heap.size + 1 + 1, 3, none⟩ (.int .u32 r3)).setCell ⟨w.heap.size + 1 + 1, 4, none⟩ (.int .u32 r4)).setCell ⟨w.heap.size + 1 + 1, 5, none⟩ (.int .u32 r5)).setCell ⟨w.heap.size + 1 + 1, 6, none⟩ (.int .u32 r6)).setCell ⟨w.heap.size + 1 + 1, 7, none⟩ (.int .u32 r7)).setCell ⟨w.heap.size + 1 + 1, 8, none⟩ (.slice pv s cv)).setCell ⟨w.heap.size + 1 + 1 + 1, 0, none⟩ (.int .u32 pc)).setCell ⟨w.heap.size + 1 + 1 + 1, 1, none⟩ (.bool false)).setCell ⟨w.heap.size + 1 + 1 + 1, 2, none⟩ (.int .i64 3)).setCell ⟨w.heap.size + 1 + 1 + 1, 3, none⟩ (.bool false)).setCell ⟨w.heap.size + 1 + 1 + 1, 4, none⟩ (.bool false)).setCell ⟨w.heap.size + 1 + 1 + 1, 5, none⟩ (.int .u32 0)).setCell ⟨w.heap.size + 1 + 1 + 1, 6, none⟩ (.int .u32 0)) w.heap.size (.slice pv s cv) S ∧ Below w.heap.size w ((((((((((((((((w5.setCell ⟨w.heap.size + 1 + 1, 0, none⟩ (.int .u32 r0)).setCell ⟨w.heap.size + 1 + 1, 1, none⟩ (.int .u32 r1)).setCell ⟨w.heap.size + 1 + 1, 2, none⟩ (.int .u32 r2)).setCell ⟨w.heap.size + 1 + 1, 3, none⟩ (.int .u32 r3)).setCell ⟨w.heap.size + 1 + 1, 4, none⟩ (.int .u32 r4)).setCell ⟨w.heap.size + 1 + 1, 5, none⟩ (.int .u32 r5)).setCell ⟨w.heap.size + 1 + 1, 6, none⟩ (.int .u32 r6)).setCell ⟨w.heap.size + 1 + 1, 7, none⟩ (.int .u32 r7)).setCell ⟨w.heap.size + 1 + 1, 8, none⟩ (.slice pv s cv)).setCell ⟨w.heap.size + 1 + 1 + 1, 0, none⟩ (.int .u32 pc)).setCell ⟨w.heap.size + 1 + 1 + 1, 1, none⟩ (.bool false)).setCell ⟨w.heap.size + 1 + 1 + 1, 2, none⟩ (.int .i64 3)).setCell ⟨w.heap.size + 1 + 1 + 1, 3, none⟩ (.bool false)).setCell ⟨w.heap.size + 1 + 1 + 1, 4, none⟩ (.bool false)).setCell ⟨w.heap.size + 1 + 1 + 1, 5, none⟩ (.int .u32 0)).setCell ⟨w.heap.size + 1 + 1 + 1, 6, none⟩ (.int .u32 0))) := HX.out.st.stored #[.int .u32 r0, .int .u32 r1, .int .u32 r2, .int .u32 r3, .int .u32 r4, .int .u32 r5, .int .u32 r6, .int .u32 r7, .slice pv s cv] #[.int .u32 pc, .bool false, .int .i64 3, .bool false, .bool false, .int .u32 0, .int .u32 0] rfl rfl
  generalize ((((((((((((((((w5.setCell ⟨w.heap.size + 1 + 1, 0, none⟩ (.int .u32 r0)).setCell ⟨w.heap.size + 1 + 1, 1, none⟩ (.int .u32 r1)).setCell ⟨w.heap.size + 1 + 1, 2, none⟩ (.int .u32 r2)).setCell ⟨w.heap.size + 1 + 1, 3, none⟩ (.int .u32 r3)).setCell ⟨w.heap.size + 1 + 1, 4, none⟩ (.int .u32 r4)).setCell ⟨w.heap.size + 1 + 1, 5, none⟩ (.int .u32 r5)).setCell ⟨w.heap.size + 1 + 1, 6, none⟩ (.int .u32 r6)).setCell ⟨w.heap.size + 1 + 1, 7, none⟩ (.int .u32 r7)).setCell ⟨w.heap.size + 1 + 1, 8, none⟩ (.slice pv s cv)).setCell ⟨w.heap.size + 1 + 1 + 1, 0, none⟩ (.int .u32 pc)).setCell ⟨w.heap.size + 1 + 1 + 1, 1, none⟩ (.bool false)).setCell ⟨w.heap.size + 1 + 1 + 1, 2, none⟩ (.int .i64 3)).setCell ⟨w.heap.size + 1 + 1 + 1, 3, none⟩ (.bool false)).setCell ⟨w.heap.size + 1 + 1 + 1, 4, none⟩ (.bool false)).setCell ⟨w.heap.size + 1 + 1 + 1, 5, none⟩ (.int .u32 0)).setCell ⟨w.heap.size + 1 + 1 + 1, 6, none⟩ (.int .u32 0)) = wd at *
  obtain ⟨d1, d2, d3, d4⟩ := HDD.out
  have l1 := d1.load 47 _ Tryz.underlying47 rfl Tryz.sz47
  have l2 := d2.load 121 _ Tryz.underlying121 rfl Tryz.sz121
  exact bodyPost_ret (v := .tuple #[.agg #[.int .u32 r0, .int .u32 r1, .int .u32 r2, .int .u32 r3, .int .u32 r4, .int .u32 r5, .int .u32 r6, .int .u32 r7, .slice pv s cv], .agg #[.int .u32 pc, .bool false, .int .i64 3, .bool false, .bool false, .int .u32 0, .int .u32 0]]) (by simp [results, Tryz.results58, asAddr, l1, l2]) rfl ⟨⟨_, rfl, d3⟩, d4⟩

set_option maxHeartbeats 4000000 in
set_option maxRecDepth 8000 in
theorem rdo_load (o a b : Nat) (n pc : Int) (R S : List Int) (p q : Option Addr) (s c d dc : Nat) (w : World) (ha : a ≤ 255) (hb : b ≤ 255) (_hpc : 0 ≤ pc ∧ pc ≤ 4294967295)
    (lR : R.length = 8) (hS : S.length = s) (hs : s * 4 ≤ 140737488355324) (hr : PRow w p S)
    (ho : o = 14) (hR : rightB o a b n = true)
    (hd4 : d < 4) :
    Calls Tryz.prog 58 #[ins o a b n, .int .u32 pc, rgV R (.slice p s c), .slice q d dc] w fun e w' => (∃ v, e = .returned (.tuple #[rgV R v, .agg (effA { goE pc with fl := 210 })]) ∧ POwnV w' w.heap.size v S) ∧ Below w.heap.size w w' := by
  have h14 := fun W => rspan_any o a b n W (by omega) (by omega)
  rw [spanN_right hR] at h14
  have hlen := lenN_in o (by omega) (by omega)
  have l0 : ((lenN o : Int) == 0) = false := by simp; omega
  have HO := Hid.in ho
  clear ho hR
  have h7 := fun W (h : PRow W p S) => copyRegs_any R p s c S W lR hS (by omega) h
  have HRW : Hid (∀ W, Below w.heap.size w W → PRow W p S) := fun W h => hr.below h
  have HS := Hid.in hS
  have sz9 : ∀ v, (Tryz.prog.info? 47).map (·.size) = some (rgA R v).size := fun v => by rw [rgA_size R _ lR]; exact Tryz.sz47
  have SZ := Hid.in sz9
  have ON : Hid (∀ v, v.oneCell' = true → (rgA R v).all (·.oneCell') = true) := fun v hv => rgA_one R v hv
  clear hr hS sz9
  show Calls Tryz.prog 58 #[ins o a b n, .int .u32 pc, .agg (rgA R (.slice p s c)), .slice q d dc] w _
  go_enter Tryz.func58, Tryz.ntmps58
  go_upto_region 1 with fail
  obtain ⟨hst, hsz, hb0, hbr⟩ := RSt.start w _ o a b n R S (.slice p s c) lR rfl
  generalize (((w.alloc (.cells #[.int .u8 o, .int .u8 a, .int .u8 b, .int .i32 n] 117)).alloc (.cells (rgA R (.slice p s c)) 47)).alloc (.cells noRegs 47)).alloc (.cells (efA 0) 121) = w0 at *
  have h7' := h7 w0 (HRW.out _ hb0)
  have HB0 := Hid.in (hbr w0 (below_self _))
  clear h7 HRW
  go_wp2_with (first | (go_at_call 35; refine Hid.out ?_) | (refine step_load_blk HB0.out rfl 47 _ rfl rfl (rgA R (.slice p s c)) (List.prefix_refl _) _ Tryz.underlying47 rfl (SZ.out _) ?_))
  refine Lib.hid ?_
  refine h7'.mono ?_
  rintro e w1 ⟨⟨v, rfl, ho1⟩, hb1⟩
  obtain ⟨pv, cv, rfl, -, -⟩ := ho1.slice
  rw [HS.out] at ho1 ⊢
  have HB1 := Hid.in (hbr w1 hb1)
  have HST : Hid (∀ w2, w1.grownBy w2 (some (w.heap.size + 1)) → Blk w2 (w.heap.size + 1) 47 (rgA R (.slice pv s cv)) → RSt w w.heap.size o a b n R (.slice pv s cv) S w2) := fun w2 k1 k2 => hst w1 w2 _ (by rw [← hsz]; exact ho1) hb1 k1 k2
  clear hst hbr hb1 ho1 h7' hb0 HB0
  go_wp2_with (first | (go_at_call 94; refine Hid.out ?_) | (refine step_store_blk HB1.out rfl 47 _ _ rfl rfl rfl (rgA R (.slice pv s cv)) rfl (SZ.out _) (by rw [rgA_size R _ lR, rgA_size R _ lR]) (ON.out _ rfl) ?_; intro w2 hk2 hg2; have HST2 := Hid.in (HST.out w2 hg2 hk2); have i0 : w2.cell? ⟨w.heap.size, 0, none⟩ = some (.int .u8 o) := HST2.out.bi.cell 0; have i1 : w2.cell? ⟨w.heap.size, 1, none⟩ = some (.int .u8 a) := HST2.out.bi.cell 1; have i2 : w2.cell? ⟨w.heap.size, 2, none⟩ = some (.int .u8 b) := HST2.out.bi.cell 2; have i3 : w2.cell? ⟨w.heap.size, 3, none⟩ = some (.int .i32 n) := HST2.out.bi.cell 3; clear hk2 hg2 HB1))
  refine Lib.hid ?_
  refine (h14 _).mono ?_
  rintro e w3 ⟨rfl, hb3⟩
  have HST3 := Hid.in (HST2.out.below hb3)
  clear h14 hb3 HST HST2 i0 i1 i2 i3
  have i0 : w3.cell? ⟨w.heap.size, 0, none⟩ = some (.int .u8 o) := HST3.out.bi.cell 0
  have i3 : w3.cell? ⟨w.heap.size, 3, none⟩ = some (.int .i32 n) := HST3.out.bi.cell 3
  have o4 : ((o : Int) == 4) = false := by have := HO.out; simp; omega
  go_upto_region 8 with fail
  have HX5 := Hid.in (HST3.out.withE (.cells (efA ((pc + (lenN o : Int)) % 4294967296)) 121) rfl)
  generalize (pc + (lenN o : Int)) % 4294967296 = bh at *
  generalize w3.alloc (.cells (efA bh) 121) = w5 at *
  generalize w3.heap.size = gx at *
  have HX : Hid (RSx w w.heap.size o a b n R (.slice pv s cv) S gx (efA bh) w5) := HX5.out
  clear HX5 HST3 i0 i3 hlen l0 o4
  have i0 : w5.cell? ⟨w.heap.size, 0, none⟩ = some (.int .u8 o) := HX.out.st.bi.cell 0
  have r8 : w5.cell? ⟨w.heap.size + 1, 8, none⟩ = some (.slice pv s cv) := by rw [HX.out.st.br.cell, rgA_last R _ HX.out.st.len]
  have ho := HO.out
  subst ho
  obtain ⟨r0, r1, r2, r3, r4, r5, r6, r7, rfl⟩ := eight lR
  have B1 : Hid (Blk w5 (w.heap.size + 1) 47 #[.int .u32 r0, .int .u32 r1, .int .u32 r2, .int .u32 r3, .int .u32 r4, .int .u32 r5, .int .u32 r6, .int .u32 r7, .slice pv s cv]) := HX.out.st.br
  have B8 := Hid.in HX.out.st.b8
  have B9 := Hid.in HX.out.st.b9
  have a0 : w5.cell? ⟨w.heap.size + 1, 0, none⟩ = some (.int .u32 r0) := B1.out.cell 0
  have a1 : w5.cell? ⟨w.heap.size + 1, 1, none⟩ = some (.int .u32 r1) := B1.out.cell 1
  have a2 : w5.cell? ⟨w.heap.size + 1, 2, none⟩ = some (.int .u32 r2) := B1.out.cell 2
  have a3 : w5.cell? ⟨w.heap.size + 1, 3, none⟩ = some (.int .u32 r3) := B1.out.cell 3
  have a4 : w5.cell? ⟨w.heap.size + 1, 4, none⟩ = some (.int .u32 r4) := B1.out.cell 4
  have a5 : w5.cell? ⟨w.heap.size + 1, 5, none⟩ = some (.int .u32 r5) := B1.out.cell 5
  have a6 : w5.cell? ⟨w.heap.size + 1, 6, none⟩ = some (.int .u32 r6) := B1.out.cell 6
  have a7 : w5.cell? ⟨w.heap.size + 1, 7, none⟩ = some (.int .u32 r7) := B1.out.cell 7
  have a8 : w5.cell? ⟨w.heap.size + 1, 8, none⟩ = some (.slice pv s cv) := B1.out.cell 8
  have y0 : w5.cell? ⟨w.heap.size + 1 + 1, 0, none⟩ = some (.int .u32 0) := B8.out.cell 0
  have y1 : w5.cell? ⟨w.heap.size + 1 + 1, 1, none⟩ = some (.int .u32 0) := B8.out.cell 1
  have y2 : w5.cell? ⟨w.heap.size + 1 + 1, 2, none⟩ = some (.int .u32 0) := B8.out.cell 2
  have y3 : w5.cell? ⟨w.heap.size + 1 + 1, 3, none⟩ = some (.int .u32 0) := B8.out.cell 3
  have y4 : w5.cell? ⟨w.heap.size + 1 + 1, 4, none⟩ = some (.int .u32 0) := B8.out.cell 4
  have y5 : w5.cell? ⟨w.heap.size + 1 + 1, 5, none⟩ = some (.int .u32 0) := B8.out.cell 5
  have y6 : w5.cell? ⟨w.heap.size + 1 + 1, 6, none⟩ = some (.int .u32 0) := B8.out.cell 6
  have y7 : w5.cell? ⟨w.heap.size + 1 + 1, 7, none⟩ = some (.int .u32 0) := B8.out.cell 7
  have y8 : w5.cell? ⟨w.heap.size + 1 + 1, 8, none⟩ = some (.slice none 0 0) := B8.out.cell 8
  have z0 : w5.cell? ⟨w.heap.size + 1 + 1 + 1, 0, none⟩ = some (.int .u32 0) := B9.out.cell 0
  have z1 : w5.cell? ⟨w.heap.size + 1 + 1 + 1, 1, none⟩ = some (.bool false) := B9.out.cell 1
  have z2 : w5.cell? ⟨w.heap.size + 1 + 1 + 1, 2, none⟩ = some (.int .i64 0) := B9.out.cell 2
  have z3 : w5.cell? ⟨w.heap.size + 1 + 1 + 1, 3, none⟩ = some (.bool false) := B9.out.cell 3
  have z4 : w5.cell? ⟨w.heap.size + 1 + 1 + 1, 4, none⟩ = some (.bool false) := B9.out.cell 4
  have z5 : w5.cell? ⟨w.heap.size + 1 + 1 + 1, 5, none⟩ = some (.int .u32 0) := B9.out.cell 5
  have z6 : w5.cell? ⟨w.heap.size + 1 + 1 + 1, 6, none⟩ = some (.int .u32 0) := B9.out.cell 6
  have f8 : ∀ i, w5.frozen? ⟨w.heap.size + 1 + 1, i, none⟩ = false := fun i => B8.out.free i
  have f9 : ∀ i, w5.frozen? ⟨w.heap.size + 1 + 1 + 1, i, none⟩ = false := fun i => B9.out.free i
  go_wp2_with fail
  have HDD : Hid (Blk ((((((((((((((((w5.setCell ⟨w.heap.size + 1 + 1, 0, none⟩ (.int .u32 r0)).setCell ⟨w.heap.size + 1 + 1, 1, none⟩ (.int .u32 r1)).setCell ⟨w.heap.size + 1 + 1, 2, none⟩ (.int .u32 r2)).setCell ⟨w.heap.size + 1 + 1, 3, none⟩ (.int .u32 r3)).setCell ⟨w.heap.size + 1 + 1, 4, none⟩ (.int .u32 r4)).setCell ⟨w.heap.size + 1 + 1, 5, none⟩ (.int .u32 r5)).setCell ⟨w.heap.size + 1 + 1, 6, none⟩ (.int .u32 r6)).setCell ⟨w.heap.size + 1 + 1, 7, none⟩ (.int .u32 r7)).setCell ⟨w.heap.size + 1 + 1, 8, none⟩ (.slice pv s cv)).setCell ⟨w.heap.size + 1 + 1 + 1, 0, none⟩ (.int .u32 pc)).setCell ⟨w.heap.size + 1 + 1 + 1, 1, none⟩ (.bool false)).setCell ⟨w.heap.size + 1 + 1 + 1, 2, none⟩ (.int .i64 210)).setCell ⟨w.heap.size + 1 + 1 + 1, 3, none⟩ (.bool false)).setCell ⟨w.heap.size + 1 + 1 + 1, 4, none⟩ (.bool false)).setCell ⟨w.heap.size + 1 + 1 + 1, 5, none⟩ (.int .u32 0)).setCell ⟨w.heap.size + 1 + 1 + 1, 6, none⟩ (.int .u32 0)) (w.heap.size + 1 + 1) 47 #[.int .u32 r0, .int .u32 r1, .int .u32 r2, .int .u32 r3, .int .u32 r4, .int .u32 r5, .int .u32 r6, .int .u32 r7, .slice pv s cv] ∧ Blk ((((((((((((((((w5.setCell ⟨w.heap.size + 1 + 1, 0, none⟩ (.int .u32 r0)).setCell ⟨w.heap.size + 1 + 1, 1, none⟩ (.int .u32 r1)).setCell ⟨w.heap.size + 1 + 1, 2, none⟩ (.int .u32 r2)).setCell ⟨w.heap.size + 1 + 1, 3, none⟩ (.int .u32 r3)).setCell ⟨w.heap.size + 1 + 1, 4, none⟩ (.int .u32 r4)).setCell ⟨w.heap.size + 1 + 1, 5, none⟩ (.int .u32 r5)).setCell ⟨w.heap.size + 1 + 1, 6, none⟩ (.int .u32 r6)).setCell ⟨w.heap.size + 1 + 1, 7, none⟩ (.int .u32 r7)).setCell ⟨w.heap.size + 1 + 1, 8, none⟩ (.slice pv s cv)).setCell ⟨w.heap.size + 1 + 1 + 1, 0, none⟩ (.int .u32 pc)).setCell ⟨w.heap.size + 1 + 1 + 1, 1, none⟩ (.bool false)).setCell ⟨w.heap.size + 1 + 1 + 1, 2, none⟩ (.int .i64 210)).setCell ⟨w.heap.size + 1 + 1 + 1, 3, none⟩ (.bool false)).setCell ⟨w.heap.size + 1 + 1 + 1, 4, none⟩ (.bool false)).setCell ⟨w.heap.size + 1 + 1 + 1, 5, none⟩ (.int .u32 0)).setCell ⟨w.heap.size + 1 + 1 + 1, 6, none⟩ (.int .u32 0)) (w.heap.size + 1 + 1 + 1) 121 #[.int .u32 pc, .bool false, .int .i64 210, .bool false, .bool false, .int .u32 0, .int .u32 0] ∧ POwnV ((((((((((((((((w5.setCell ⟨w.heap.size + 1 + 1, 0, none⟩ (.int .u32 r0)).setCell ⟨w.heap.size + 1 + 1, 1, none⟩ (.int .u32 r1)).setCell ⟨w.heap.size + 1 + 1, 2, none⟩ (.int .u32 r2)).setCell ⟨w.heap.size + 1 + 1, 3, none⟩ (.int .u32 r3)).setCell ⟨w.heap.size + 1 + 1, 4, none⟩ (.int .u32 r4)).setCell ⟨w.heap.size + 1 + 1, 5, none⟩ (.int .u32 r5)).setCell ⟨w.heap.size + 1 + 1, 6, none⟩ (.int .u32 r6)).setCell ⟨w.heap.size + 1 + 1, 7, none⟩ (.int .u32 r7)).setCell ⟨w.heap.size + 1 + 1, 8, none⟩ (.slice pv s cv)).setCell ⟨w.heap.size + 1 + 1 + 1, 0, none⟩ (.int .u32 pc)).setCell ⟨w.heap.size + 1 + 1 + 1, 1, none⟩ (.bool false)).setCell ⟨w.heap.size + 1 + 1 + 1, 2, none⟩ (.int .i64 210)).setCell ⟨w.heap.size + 1 + 1 + 1, 3, none⟩ (.bool false)).setCell ⟨w.heap.size + 1 + 1 + 1, 4, none⟩ (.bool false)).setCell ⟨w.heap.size + 1 + 1 + 1, 5, none⟩ (.int .u32 0)).setCell ⟨w.heap.size + 1 + 1 + 1, 6, none⟩ (.int .u32 0)) w.heap.size (.slice pv s cv) S ∧ Below w.heap.size w ((((((((((((((((w5.setCell ⟨w.heap.size + 1 + 1, 0, none⟩ (.int .u32 r0)).setCell ⟨w.heap.size + 1 + 1, 1, none⟩ (.int .u32 r1)).setCell ⟨w.heap.size + 1 + 1, 2, none⟩ (.int .u32 r2)).setCell ⟨w.heap.size + 1 + 1, 3, none⟩ (.int .u32 r3)).setCell ⟨w.heap.size + 1 + 1, 4, none⟩ (.int .u32 r4)).setCell ⟨w.heap.size + 1 + 1, 5, none⟩ (.int .u32 r5)).setCell ⟨w.heap.size + 1 + 1, 6, none⟩ (.int .u32 r6)).setCell ⟨w.heap.size + 1 + 1, 7, none⟩ (.int .u32 r7)).setCell ⟨w.heap.size + 1 + 1, 8, none⟩ (.slice pv s cv)).setCell ⟨w.heap.size + 1 + 1 + 1, 0, none⟩ (.int .u32 pc)).setCell ⟨w.heap.size + 1 + 1 + 1, 1, none⟩ (.bool false)).setCell ⟨w.heap.size + 1 + 1 + 1, 2, none⟩ (.int .i64 210)).setCell ⟨w.heap.size + 1 + 1 + 1, 3, none⟩ (.bool false)).setCell ⟨w.heap.size + 1 + 1 + 1, 4, none⟩ (.bool false)).setCell ⟨w.heap.size + 1 + 1 + 1, 5, none⟩ (.int .u32 0)).setCell ⟨w.heap.size + 1 + 1 + 1, 6, none⟩ (.int .u32 0))) := HX.out.st.stored #[.int .u32 r0, .int .u32 r1, .int .u32 r2, .int .u32 r3, .int .u32 r4, .int .u32 r5, .int .u32 r6, .int .u32 r7, .slice pv s cv] #[.int .u32 pc, .bool false, .int .i64 210, .bool false, .bool false, .int .u32 0, .int .u32 0] rfl rfl
  generalize ((((((((((((((((w5.setCell ⟨w.heap.size + 1 + 1, 0, none⟩ (.int .u32 r0)).setCell ⟨w.heap.size + 1 + 1, 1, none⟩ (.int .u32 r1)).setCell ⟨w.heap.size + 1 + 1, 2, none⟩ (.int .u32 r2)).setCell ⟨w.heap.size + 1 + 1, 3, none⟩ (.int .u32 r3)).setCell ⟨w.heap.size + 1 + 1, 4, none⟩ (.int .u32 r4)).setCell ⟨w.heap.size + 1 + 1, 5, none⟩ (.int .u32 r5)).setCell ⟨w.heap.size + 1 + 1, 6, none⟩ (.int .u32 r6)).setCell ⟨w.heap.size + 1 + 1, 7, none⟩ (.int .u32 r7)).setCell ⟨w.heap.size + 1 + 1, 8, none⟩ (.slice pv s cv)).setCell ⟨w.heap.size + 1 + 1 + 1, 0, none⟩ (.int .u32 pc)).setCell ⟨w.heap.size + 1 + 1 + 1, 1, none⟩ (.bool false)).setCell ⟨w.heap.size + 1 + 1 + 1, 2, none⟩ (.int .i64 210)).setCell ⟨w.heap.size + 1 + 1 + 1, 3, none⟩ (.bool false)).setCell ⟨w.heap.size + 1 + 1 + 1, 4, none⟩ (.bool false)).setCell ⟨w.heap.size + 1 + 1 + 1, 5, none⟩ (.int .u32 0)).setCell ⟨w.heap.size + 1 + 1 + 1, 6, none⟩ (.int .u32 0)) = wd at *
  obtain ⟨d1, d2, d3, d4⟩ := HDD.out
  have l1 := d1.load 47 _ Tryz.underlying47 rfl Tryz.sz47
  have l2 := d2.load 121 _ Tryz.underlying121 rfl Tryz.sz121
  exact bodyPost_ret (v := .tuple #[.agg #[.int .u32 r0, .int .u32 r1, .int .u32 r2, .int .u32 r3, .int .u32 r4, .int .u32 r5, .int .u32 r6, .int .u32 r7, .slice pv s cv], .agg #[.int .u32 pc, .bool false, .int .i64 210, .bool false, .bool false, .int .u32 0, .int .u32 0]]) (by simp [results, Tryz.results58, asAddr, l1, l2]) rfl ⟨⟨_, rfl, d3⟩, d4⟩

set_option maxHeartbeats 4000000 in
set_option maxRecDepth 8000 in
theorem rdo_store (o a b : Nat) (n pc : Int) (R S : List Int) (p q : Option Addr) (s c d dc : Nat) (w : World) (ha : a ≤ 255) (hb : b ≤ 255) (_hpc : 0 ≤ pc ∧ pc ≤ 4294967295)
    (lR : R.length = 8) (hS : S.length = s) (hs : s * 4 ≤ 140737488355324) (hr : PRow w p S)
    (ho : o = 15) (hR : rightB o a b n = true)
    (hd4 : d < 4) :
    Calls Tryz.prog 58 #[ins o a b n, .int .u32 pc, rgV R (.slice p s c), .slice q d dc] w fun e w' => (∃ v, e = .returned (.tuple #[rgV R v, .agg (effA { goE pc with fl := 210 })]) ∧ POwnV w' w.heap.size v S) ∧ Below w.heap.size w w' := by
  have h14 := fun W => rspan_any o a b n W (by omega) (by omega)
  rw [spanN_right hR] at h14
  have hlen := lenN_in o (by omega) (by omega)
  have l0 : ((lenN o : Int) == 0) = false := by simp; omega
  have HO := Hid.in ho
  clear ho hR
  have h7 := fun W (h : PRow W p S) => copyRegs_any R p s c S W lR hS (by omega) h
  have HRW : Hid (∀ W, Below w.heap.size w W → PRow W p S) := fun W h => hr.below h
  have HS := Hid.in hS
  have sz9 : ∀ v, (Tryz.prog.info? 47).map (·.size) = some (rgA R v).size := fun v => by rw [rgA_size R _ lR]; exact Tryz.sz47
  have SZ := Hid.in sz9
  have ON : Hid (∀ v, v.oneCell' = true → (rgA R v).all (·.oneCell') = true) := fun v hv => rgA_one R v hv
  clear hr hS sz9
  show Calls Tryz.prog 58 #[ins o a b n, .int .u32 pc, .agg (rgA R (.slice p s c)), .slice q d dc] w _
  go_enter Tryz.func58, Tryz.ntmps58
  go_upto_region 1 with fail
  obtain ⟨hst, hsz, hb0, hbr⟩ := RSt.start w _ o a b n R S (.slice p s c) lR rfl
  generalize (((w.alloc (.cells #[.int .u8 o, .int .u8 a, .int .u8 b, .int .i32 n] 117)).alloc (.cells (rgA R (.slice p s c)) 47)).alloc (.cells noRegs 47)).alloc (.cells (efA 0) 121) = w0 at *
  have h7' := h7 w0 (HRW.out _ hb0)
  have HB0 := Hid.in (hbr w0 (below_self _))
  clear h7 HRW
  go_wp2_with (first | (go_at_call 35; refine Hid.out ?_) | (refine step_load_blk HB0.out rfl 47 _ rfl rfl (rgA R (.slice p s c)) (List.prefix_refl _) _ Tryz.underlying47 rfl (SZ.out _) ?_))
  refine Lib.hid ?_
  refine h7'.mono ?_
  rintro e w1 ⟨⟨v, rfl, ho1⟩, hb1⟩
  obtain ⟨pv, cv, rfl, -, -⟩ := ho1.slice
  rw [HS.out] at ho1 ⊢
  have HB1 := Hid.in (hbr w1 hb1)
  have HST : Hid (∀ w2, w1.grownBy w2 (some (w.heap.size + 1)) → Blk w2 (w.heap.size + 1) 47 (rgA R (.slice pv s cv)) → RSt w w.heap.size o a b n R (.slice pv s cv) S w2) := fun w2 k1 k2 => hst w1 w2 _ (by rw [← hsz]; exact ho1) hb1 k1 k2
  clear hst hbr hb1 ho1 h7' hb0 HB0
  go_wp2_with (first | (go_at_call 94; refine Hid.out ?_) | (refine step_store_blk HB1.out rfl 47 _ _ rfl rfl rfl (rgA R (.slice pv s cv)) rfl (SZ.out _) (by rw [rgA_size R _ lR, rgA_size R _ lR]) (ON.out _ rfl) ?_; intro w2 hk2 hg2; have HST2 := Hid.in (HST.out w2 hg2 hk2); have i0 : w2.cell? ⟨w.heap.size, 0, none⟩ = some (.int .u8 o) := HST2.out.bi.cell 0; have i1 : w2.cell? ⟨w.heap.size, 1, none⟩ = some (.int .u8 a) := HST2.out.bi.cell 1; have i2 : w2.cell? ⟨w.heap.size, 2, none⟩ = some (.int .u8 b) := HST2.out.bi.cell 2; have i3 : w2.cell? ⟨w.heap.size, 3, none⟩ = some (.int .i32 n) := HST2.out.bi.cell 3; clear hk2 hg2 HB1))
  refine Lib.hid ?_
  refine (h14 _).mono ?_
  rintro e w3 ⟨rfl, hb3⟩
  have HST3 := Hid.in (HST2.out.below hb3)
  clear h14 hb3 HST HST2 i0 i1 i2 i3
  have i0 : w3.cell? ⟨w.heap.size, 0, none⟩ = some (.int .u8 o) := HST3.out.bi.cell 0
  have i3 : w3.cell? ⟨w.heap.size, 3, none⟩ = some (.int .i32 n) := HST3.out.bi.cell 3
  have o4 : ((o : Int) == 4) = false := by have := HO.out; simp; omega
  go_upto_region 8 with fail
  have HX5 := Hid.in (HST3.out.withE (.cells (efA ((pc + (lenN o : Int)) % 4294967296)) 121) rfl)
  generalize (pc + (lenN o : Int)) % 4294967296 = bh at *
  generalize w3.alloc (.cells (efA bh) 121) = w5 at *
  generalize w3.heap.size = gx at *
  have HX : Hid (RSx w w.heap.size o a b n R (.slice pv s cv) S gx (efA bh) w5) := HX5.out
  clear HX5 HST3 i0 i3 hlen l0 o4
  have i0 : w5.cell? ⟨w.heap.size, 0, none⟩ = some (.int .u8 o) := HX.out.st.bi.cell 0
  have r8 : w5.cell? ⟨w.heap.size + 1, 8, none⟩ = some (.slice pv s cv) := by rw [HX.out.st.br.cell, rgA_last R _ HX.out.st.len]
  have ho := HO.out
  subst ho
  obtain ⟨r0, r1, r2, r3, r4, r5, r6, r7, rfl⟩ := eight lR
  have B1 : Hid (Blk w5 (w.heap.size + 1) 47 #[.int .u32 r0, .int .u32 r1, .int .u32 r2, .int .u32 r3, .int .u32 r4, .int .u32 r5, .int .u32 r6, .int .u32 r7, .slice pv s cv]) := HX.out.st.br
  have B8 := Hid.in HX.out.st.b8
  have B9 := Hid.in HX.out.st.b9
  have a0 : w5.cell? ⟨w.heap.size + 1, 0, none⟩ = some (.int .u32 r0) := B1.out.cell 0
  have a1 : w5.cell? ⟨w.heap.size + 1, 1, none⟩ = some (.int .u32 r1) := B1.out.cell 1
  have a2 : w5.cell? ⟨w.heap.size + 1, 2, none⟩ = some (.int .u32 r2) := B1.out.cell 2
  have a3 : w5.cell? ⟨w.heap.size + 1, 3, none⟩ = some (.int .u32 r3) := B1.out.cell 3
  have a4 : w5.cell? ⟨w.heap.size + 1, 4, none⟩ = some (.int .u32 r4) := B1.out.cell 4
  have a5 : w5.cell? ⟨w.heap.size + 1, 5, none⟩ = some (.int .u32 r5) := B1.out.cell 5
  have a6 : w5.cell? ⟨w.heap.size + 1, 6, none⟩ = some (.int .u32 r6) := B1.out.cell 6
  have a7 : w5.cell? ⟨w.heap.size + 1, 7, none⟩ = some (.int .u32 r7) := B1.out.cell 7
  have a8 : w5.cell? ⟨w.heap.size + 1, 8, none⟩ = some (.slice pv s cv) := B1.out.cell 8
  have y0 : w5.cell? ⟨w.heap.size + 1 + 1, 0, none⟩ = some (.int .u32 0) := B8.out.cell 0
  have y1 : w5.cell? ⟨w.heap.size + 1 + 1, 1, none⟩ = some (.int .u32 0) := B8.out.cell 1
  have y2 : w5.cell? ⟨w.heap.size + 1 + 1, 2, none⟩ = some (.int .u32 0) := B8.out.cell 2
  have y3 : w5.cell? ⟨w.heap.size + 1 + 1, 3, none⟩ = some (.int .u32 0) := B8.out.cell 3
  have y4 : w5.cell? ⟨w.heap.size + 1 + 1, 4, none⟩ = some (.int .u32 0) := B8.out.cell 4
  have y5 : w5.cell? ⟨w.heap.size + 1 + 1, 5, none⟩ = some (.int .u32 0) := B8.out.cell 5
  have y6 : w5.cell? ⟨w.heap.size + 1 + 1, 6, none⟩ = some (.int .u32 0) := B8.out.cell 6
  have y7 : w5.cell? ⟨w.heap.size + 1 + 1, 7, none⟩ = some (.int .u32 0) := B8.out.cell 7
  have y8 : w5.cell? ⟨w.heap.size + 1 + 1, 8, none⟩ = some (.slice none 0 0) := B8.out.cell 8
  have z0 : w5.cell? ⟨w.heap.size + 1 + 1 + 1, 0, none⟩ = some (.int .u32 0) := B9.out.cell 0
  have z1 : w5.cell? ⟨w.heap.size + 1 + 1 + 1, 1, none⟩ = some (.bool false) := B9.out.cell 1
  have z2 : w5.cell? ⟨w.heap.size + 1 + 1 + 1, 2, none⟩ = some (.int .i64 0) := B9.out.cell 2
  have z3 : w5.cell? ⟨w.heap.size + 1 + 1 + 1, 3, none⟩ = some (.bool false) := B9.out.cell 3
  have z4 : w5.cell? ⟨w.heap.size + 1 + 1 + 1, 4, none⟩ = some (.bool false) := B9.out.cell 4
  have z5 : w5.cell? ⟨w.heap.size + 1 + 1 + 1, 5, none⟩ = some (.int .u32 0) := B9.out.cell 5
  have z6 : w5.cell? ⟨w.heap.size + 1 + 1 + 1, 6, none⟩ = some (.int .u32 0) := B9.out.cell 6
  have f8 : ∀ i, w5.frozen? ⟨w.heap.size + 1 + 1, i, none⟩ = false := fun i => B8.out.free i
  have f9 : ∀ i, w5.frozen? ⟨w.heap.size + 1 + 1 + 1, i, none⟩ = false := fun i => B9.out.free i
  go_wp2_with fail
  have HDD : Hid (Blk ((((((((((((((((w5.setCell ⟨w.heap.size + 1 + 1, 0, none⟩ (.int .u32 r0)).setCell ⟨w.heap.size + 1 + 1, 1, none⟩ (.int .u32 r1)).setCell ⟨w.heap.size + 1 + 1, 2, none⟩ (.int .u32 r2)).setCell ⟨w.heap.size + 1 + 1, 3, none⟩ (.int .u32 r3)).setCell ⟨w.heap.size + 1 + 1, 4, none⟩ (.int .u32 r4)).setCell ⟨w.heap.size + 1 + 1, 5, none⟩ (.int .u32 r5)).setCell ⟨w.heap.size + 1 + 1, 6, none⟩ (.int .u32 r6)).setCell ⟨w.heap.size + 1 + 1, 7, none⟩ (.int .u32 r7)).setCell ⟨w.heap.size + 1 + 1, 8, none⟩ (.slice pv s cv)).setCell ⟨w.heap.size + 1 + 1 + 1, 0, none⟩ (.int .u32 pc)).setCell ⟨w.heap.size + 1 + 1 + 1, 1, none⟩ (.bool false)).setCell ⟨w.heap.size + 1 + 1 + 1, 2, none⟩ (.int .i64 210)).setCell ⟨w.heap.size + 1 + 1 + 1, 3, none⟩ (.bool false)).setCell ⟨w.heap.size + 1 + 1 + 1, 4, none⟩ (.bool false)).setCell ⟨w.heap.size + 1 + 1 + 1, 5, none⟩ (.int .u32 0)).setCell ⟨w.heap.size + 1 + 1 + 1, 6, none⟩ (.int .u32 0)) (w.heap.size + 1 + 1) 47 #[.int .u32 r0, .int .u32 r1, .int .u32 r2, .int .u32 r3, .int .u32 r4, .int .u32 r5, .int .u32 r6, .int .u32 r7, .slice pv s cv] ∧ Blk ((((((((((((((((w5.setCell ⟨w.heap.size + 1 + 1, 0, none⟩ (.int .u32 r0)).setCell ⟨w.heap.size + 1 + 1, 1, none⟩ (.int .u32 r1)).setCell ⟨w.heap.size + 1 + 1, 2, none⟩ (.int .u32 r2)).setCell ⟨w.heap.size + 1 + 1, 3, none⟩ (.int .u32 r3)).setCell ⟨w.heap.size + 1 + 1, 4, none⟩ (.int .u32 r4)).setCell ⟨w.heap.size + 1 + 1, 5, none⟩ (.int .u32 r5)).setCell ⟨w.heap.size + 1 + 1, 6, none⟩ (.int .u32 r6)).setCell ⟨w.heap.size + 1 + 1, 7, none⟩ (.int .u32 r7)).setCell ⟨w.heap.size + 1 + 1, 8, none⟩ (.slice pv s cv)).setCell ⟨w.heap.size + 1 + 1 + 1, 0, none⟩ (.int .u32 pc)).setCell ⟨w.heap.size + 1 + 1 + 1, 1, none⟩ (.bool false)).setCell ⟨w.heap.size + 1 + 1 + 1, 2, none⟩ (.int .i64 210)).setCell ⟨w.heap.size + 1 + 1 + 1, 3, none⟩ (.bool false)).setCell ⟨w.heap.size + 1 + 1 + 1, 4, none⟩ (.bool false)).setCell ⟨w.heap.size + 1 + 1 + 1, 5, none⟩ (.int .u32 0)).setCell ⟨w.heap.size + 1 + 1 + 1, 6, none⟩ (.int .u32 0)) (w.heap.size + 1 + 1 + 1) 121 #[.int .u32 pc, .bool false, .int .i64 210, .bool false, .bool false, .int .u32 0, .int .u32 0] ∧ POwnV ((((((((((((((((w5.setCell ⟨w.heap.size + 1 + 1, 0, none⟩ (.int .u32 r0)).setCell ⟨w.heap.size + 1 + 1, 1, none⟩ (.int .u32 r1)).setCell ⟨w.heap.size + 1 + 1, 2, none⟩ (.int .u32 r2)).setCell ⟨w.heap.size + 1 + 1, 3, none⟩ (.int .u32 r3)).setCell ⟨w.heap.size + 1 + 1, 4, none⟩ (.int .u32 r4)).setCell ⟨w.heap.size + 1 + 1, 5, none⟩ (.int .u32 r5)).setCell ⟨w.heap.size + 1 + 1, 6, none⟩ (.int .u32 r6)).setCell ⟨w.heap.size + 1 + 1, 7, none⟩ (.int .u32 r7)).setCell ⟨w.heap.size + 1 + 1, 8, none⟩ (.slice pv s cv)).setCell ⟨w.heap.size + 1 + 1 + 1, 0, none⟩ (.int .u32 pc)).setCell ⟨w.heap.size + 1 + 1 + 1, 1, none⟩ (.bool false)).setCell ⟨w.heap.size + 1 + 1 + 1, 2, none⟩ (.int .i64 210)).setCell ⟨w.heap.size + 1 + 1 + 1, 3, none⟩ (.bool false)).setCell ⟨w.heap.size + 1 + 1 + 1, 4, none⟩ (.bool false)).setCell ⟨w.heap.size + 1 + 1 + 1, 5, none⟩ (.int .u32 0)).setCell ⟨w.heap.size + 1 + 1 + 1, 6, none⟩ (.int .u32 0)) w.heap.size (.slice pv s cv) S ∧ Below w.heap.size w ((((((((((((((((w5.setCell ⟨w.heap.size + 1 + 1, 0, none⟩ (.int .u32 r0)).setCell ⟨w.heap.size + 1 + 1, 1, none⟩ (.int .u32 r1)).setCell ⟨w.heap.size + 1 + 1, 2, none⟩ (.int .u32 r2)).setCell ⟨w.heap.size + 1 + 1, 3, none⟩ (.int .u32 r3)).setCell ⟨w.heap.size + 1 + 1, 4, none⟩ (.int .u32 r4)).setCell ⟨w.heap.size + 1 + 1, 5, none⟩ (.int .u32 r5)).setCell ⟨w.heap.size + 1 + 1, 6, none⟩ (.int .u32 r6)).setCell ⟨w.heap.size + 1 + 1, 7, none⟩ (.int .u32 r7)).setCell ⟨w.heap.size + 1 + 1, 8, none⟩ (.slice pv s cv)).setCell ⟨w.heap.size + 1 + 1 + 1, 0, none⟩ (.int .u32 pc)).setCell ⟨w.heap.size + 1 + 1 + 1, 1, none⟩ (.bool false)).setCell ⟨w.heap.size + 1 + 1 + 1, 2, none⟩ (.int .i64 210)).setCell ⟨w.heap.size + 1 + 1 + 1, 3, none⟩ (.bool false)).setCell ⟨w.heap.size + 1 + 1 + 1, 4, none⟩ (.bool false)).setCell ⟨w.heap.size + 1 + 1 + 1, 5, none⟩ (.int .u32 0)).setCell ⟨w.heap.size + 1 + 1 + 1, 6, none⟩ (.int .u32 0))) := HX.out.st.stored #[.int .u32 r0, .int .u32 r1, .int .u32 r2, .int .u32 r3, .int .u32 r4, .int .u32 r5, .int .u32 r6, .int .u32 r7, .slice pv s cv] #[.int .u32 pc, .bool false, .int .i64 210, .bool false, .bool false, .int .u32 0, .int .u32 0] rfl rfl
  generalize ((((((((((((((((w5.setCell ⟨w.heap.size + 1 + 1, 0, none⟩ (.int .u32 r0)).setCell ⟨w.heap.size + 1 + 1, 1, none⟩ (.int .u32 r1)).setCell ⟨w.heap.size + 1 + 1, 2, none⟩ (.int .u32 r2)).setCell ⟨w.heap.size + 1 + 1, 3, none⟩ (.int .u32 r3)).setCell ⟨w.heap.size + 1 + 1, 4, none⟩ (.int .u32 r4)).setCell ⟨w.heap.size + 1 + 1, 5, none⟩ (.int .u32 r5)).setCell ⟨w.heap.size + 1 + 1, 6, none⟩ (.int .u32 r6)).setCell ⟨w.heap.size + 1 + 1, 7, none⟩ (.int .u32 r7)).setCell ⟨w.heap.size + 1 + 1, 8, none⟩ (.slice pv s cv)).setCell ⟨w.heap.size + 1 + 1 + 1, 0, none⟩ (.int .u32 pc)).setCell ⟨w.heap.size + 1 + 1 + 1, 1, none⟩ (.bool false)).setCell ⟨w.heap.size + 1 + 1 + 1, 2, none⟩ (.int .i64 210)).setCell ⟨w.heap.size + 1 + 1 + 1, 3, none⟩ (.bool false)).setCell ⟨w.heap.size + 1 + 1 + 1, 4, none⟩ (.bool false)).setCell ⟨w.heap.size + 1 + 1 + 1, 5, none⟩ (.int .u32 0)).setCell ⟨w.heap.size + 1 + 1 + 1, 6, none⟩ (.int .u32 0)) = wd at *
  obtain ⟨d1, d2, d3, d4⟩ := HDD.out
  have l1 := d1.load 47 _ Tryz.underlying47 rfl Tryz.sz47
  have l2 := d2.load 121 _ Tryz.underlying121 rfl Tryz.sz121
  exact bodyPost_ret (v := .tuple #[.agg #[.int .u32 r0, .int .u32 r1, .int .u32 r2, .int .u32 r3, .int .u32 r4, .int .u32 r5, .int .u32 r6, .int .u32 r7, .slice pv s cv], .agg #[.int .u32 pc, .bool false, .int .i64 210, .bool false, .bool false, .int .u32 0, .int .u32 0]]) (by simp [results, Tryz.results58, asAddr, l1, l2]) rfl ⟨⟨_, rfl, d3⟩, d4⟩

end Go.Proofs.YtnpaijbkhmnfpaaGreat
