/- Texts put together: RHh. -/
import Derived.Test.YtnpaijbkhmnfpaaGreatKaz
import Derived.Deep.DeepCutAuto

/- Ours: the reference's Step (switchyardref15): an instruction is done. -/
namespace Go.Proofs.YtnpaijbkhmnfpaaGreat
open Go.RowKit Go.Maps

set_option maxHeartbeats 16000000 in
set_option maxRecDepth 8000 in
theorem rstepH_exec {H : Hs} {V : Value} (id t : Int) (p8 : Option Addr) (d : Nat) (xs : List Int) (hold : Bool) (w : World) (hok : HsOk 1000000 H) (G : Nat → Prop) (hG : ∀ j, G j → j < w.heap.size) (k : HvN G w H V) (hx : Row w p8 xs) (hxo : Off G p8 xs.length) (hxl : xs.length ≤ 65536) (tr : Option Nat) (hbx : Byt xs) (h0 : H.st = 0) (hd : doneB H.hv = true) (hcase : (dec H.hv).e = 0 ∧ (dec H.hv).o ≠ 4) :
    Calls Tryz.prog 23 #[V, .int .i64 id, .slice p8 xs.length d, .bool hold, .int .i64 t] w fun e w' => RsIs G w (insH id (nilH H) xs tr (dec H.hv)) e w' := by
  obtain ⟨st, pc, R, S, hv, L⟩ := H
  obtain ⟨hpc, lR, wR, wS, lS, bH, lH, wL, lL⟩ := hok
  obtain ⟨pS, cS, pH, cH, pL, cL, rfl, s1, s2, s3, s4, s5, s6⟩ := k
  dsimp only at *
  subst h0
  obtain ⟨r0, r1, r2, r3, r4, r5, r6, r7, rfl⟩ := eight lR
  simp only [stA, List.getD_cons_zero, List.getD_cons_succ]
  have HS := Hid.in (And.intro s1 (And.intro s2 (And.intro s3 s4)))
  have HX := Hid.in hx
  have HXO := Hid.in hxo
  have HO5 := Hid.in (And.intro s5 s6)
  have HGG := Hid.in hG
  have HA := Hid.in ((Blk.new w 50 #[.int .u8 0, .int .u32 pc, .int .u32 r0, .int .u32 r1, .int .u32 r2, .int .u32 r3, .int .u32 r4, .int .u32 r5, .int .u32 r6, .int .u32 r7, .slice pS S.length cS, .slice pH hv.length cH, .slice pL L.length cL]).grow (new_alloc _ (.cells #[.int .u8 0, .int .u32 0, .int .u32 0, .int .u32 0, .int .u32 0, .int .u32 0, .int .u32 0, .int .u32 0, .int .u32 0, .int .u32 0, .slice none 0 0, .slice none 0 0, .slice none 0 0] 50)))
  have HZ := Hid.in (blk_two w 50 50 #[.int .u8 0, .int .u32 pc, .int .u32 r0, .int .u32 r1, .int .u32 r2, .int .u32 r3, .int .u32 r4, .int .u32 r5, .int .u32 r6, .int .u32 r7, .slice pS S.length cS, .slice pH hv.length cH, .slice pL L.length cL] #[.int .u8 0, .int .u32 0, .int .u32 0, .int .u32 0, .int .u32 0, .int .u32 0, .int .u32 0, .int .u32 0, .int .u32 0, .int .u32 0, .slice none 0 0, .slice none 0 0, .slice none 0 0])
  have HN := Hid.in (below_alloc (new_alloc w (.cells #[.int .u8 0, .int .u32 pc, .int .u32 r0, .int .u32 r1, .int .u32 r2, .int .u32 r3, .int .u32 r4, .int .u32 r5, .int .u32 r6, .int .u32 r7, .slice pS S.length cS, .slice pH hv.length cH, .slice pL L.length cL] 50)) (.cells #[.int .u8 0, .int .u32 0, .int .u32 0, .int .u32 0, .int .u32 0, .int .u32 0, .int .u32 0, .int .u32 0, .int .u32 0, .int .u32 0, .slice none 0 0, .slice none 0 0, .slice none 0 0] 50))
  clear s1 s2 s3 s4 s5 s6 lR hx hxo hG
  have hDc := fun (W : World) (h : Row W pH hv) => rdecode_any pH hv.length cH hv W rfl (by omega) h bH
  have HDB : Hid _ := dec_bounds bH
  generalize dec hv = dd at *
  obtain ⟨o, a, b', n, le, e⟩ := dd
  dsimp only [decV, decT, nilH] at hDc HDB hcase ⊢
  obtain ⟨he, ho⟩ := hcase
  obtain ⟨hb1, hb2, hb3, hb4, hb5⟩ := HDB.out he
  obtain ⟨on, rfl⟩ : ∃ k : Nat, o = k := ⟨o.toNat, by omega⟩
  obtain ⟨an, rfl⟩ : ∃ k : Nat, a = k := ⟨a.toNat, by omega⟩
  obtain ⟨bn, rfl⟩ : ∃ k : Nat, b' = k := ⟨b'.toNat, by omega⟩
  subst he
  have HDc := Hid.in hDc
  clear hDc
  rw [show insH id ⟨0, pc, [r0, r1, r2, r3, r4, r5, r6, r7], S, [], L⟩ xs tr ⟨on, an, bn, n, le, 0⟩ = exeH id ⟨0, pc, [r0, r1, r2, r3, r4, r5, r6, r7], S, [], L⟩ xs on (doL on an bn n pc [r0, r1, r2, r3, r4, r5, r6, r7] S (dataL xs on n)) from (if_pos rfl).trans (if_neg ho)]
  have HFC := Hid.in (doL_facts on an bn n pc [r0, r1, r2, r3, r4, r5, r6, r7] S (dataL xs on n) (by omega) rfl wR wS lS (dataL_byt hbx on n))
  have HDL : Hid ((dataL xs on n).length ≤ 4) := dataL_len xs on n
  have HBD := Hid.in (dataL_byt hbx on n)
  have HD58 := Hid.in (fun (W : World) (pD : Option Addr) (cD : Nat) (h1 : PRow W pS S) (h2 : Row W pD (dataL xs on n)) => rdo_any on an bn n pc [r0, r1, r2, r3, r4, r5, r6, r7] S (dataL xs on n) pS pD S.length cS (dataL xs on n).length cD W (by omega) (by omega) (by omega) hb4 rfl rfl (by omega) rfl (by have := HDL.out; omega) h1 h2 HBD.out)
  have HD59 : Hid (∀ (W : World), Row W p8 xs → Calls Tryz.prog 59 #[.slice p8 xs.length d, ins on an bn n] W fun e w' => ∃ v, e = .returned v ∧ OwnV w' W.heap.size v (dataL xs on n) ∧ Below W.heap.size W w') := fun W hmW => by
    by_cases h1 : on = 14 ∨ on = 15
    · obtain ⟨nn, rfl⟩ : ∃ k : Nat, n = k := ⟨n.toNat, by have := hb5 (by omega); omega⟩
      have := rdata_yes p8 xs.length d nn on an bn xs W hmW rfl hxl (by omega) (by omega)
      have e : dataL xs on nn = (xs.drop nn).take 4 := by unfold dataL; rw [if_pos h1, Int.toNat_natCast]
      rw [e]
      exact this
    · have e : dataL xs on n = [] := if_neg h1
      rw [e]
      refine (rdata_no p8 xs.length d on an bn n W (by omega) (by omega)).mono ?_
      rintro E w' ⟨rfl, hb⟩
      exact ⟨_, rfl, OwnV.nil _ _, hb⟩
  have HST : Hid ((doL on an bn n pc [r0, r1, r2, r3, r4, r5, r6, r7] S (dataL xs on n)).2.2.fl = 0 → (doL on an bn n pc [r0, r1, r2, r3, r4, r5, r6, r7] S (dataL xs on n)).2.2.st = true → ∃ k : Nat, (doL on an bn n pc [r0, r1, r2, r3, r4, r5, r6, r7] S (dataL xs on n)).2.2.at_ = k ∧ k + 4 ≤ xs.length) := fun h1 h2 => by
    obtain ⟨h3, h4, h5⟩ := HFC.out.2.2.2.2.2.2.2.2 h1 h2
    have hn0 := hb5 (by omega)
    refine ⟨n.toNat, by rw [h4]; omega, ?_⟩
    have e : dataL xs on n = (xs.drop n.toNat).take 4 := if_pos (.inr h3)
    rw [e, List.length_take, List.length_drop] at h5
    omega
  clear HDB hb2 hb3 hb4 hb5 HBD HDL
  generalize dataL xs on n = D at *
  generalize doL on an bn n pc [r0, r1, r2, r3, r4, r5, r6, r7] S D = r at *
  obtain ⟨R9, S9, nx, hal, fl, ou, stt, at_, va⟩ := r
  dsimp only at HFC HD58 HST ⊢
  obtain ⟨l9, w9, ws9, ls9, u1, u2, u3, u4, -⟩ := HFC.out
  clear HFC
  obtain ⟨s0, s1, s2, s3, s4, s5, s6, s7, rfl⟩ := eight l9
  simp only [rgV_eight, effA] at HD58
  go_enter Tryz.func23, Tryz.ntmps23
  go_upto_region 1 with fail
  generalize (w.alloc (.cells #[.int .u8 0, .int .u32 pc, .int .u32 r0, .int .u32 r1, .int .u32 r2, .int .u32 r3, .int .u32 r4, .int .u32 r5, .int .u32 r6, .int .u32 r7, .slice pS S.length cS, .slice pH hv.length cH, .slice pL L.length cL] 50)).alloc (.cells #[.int .u8 0, .int .u32 0, .int .u32 0, .int .u32 0, .int .u32 0, .int .u32 0, .int .u32 0, .int .u32 0, .int .u32 0, .int .u32 0, .slice none 0 0, .slice none 0 0, .slice none 0 0] 50) = w1 at *
  have c0 : w1.cell? ⟨w.heap.size, 0, none⟩ = some (.int .u8 0) := HA.out.cell 0
  have c11 : w1.cell? ⟨w.heap.size, 11, none⟩ = some (.slice pH hv.length cH) := HA.out.cell 11
  have hD := rdone_any pH hv.length cH hv w1 rfl (by omega) (HS.out.2.1.below HN.out)
  rw [hd] at hD
  go_wp2_with (go_at_call 53; refine Hid.out ?_)
  refine Lib.hid ?_
  (with_reducible refine hD.mono ?_)
  rintro e_ w2 ⟨rfl, hb2⟩
  have HA2 := Hid.in (HA.out.grow hb2)
  have HZ2 := Hid.in (HZ.out.grow hb2)
  have HN2 := Hid.in (below_step HN.out hb2)
  clear hD hb2 HA HZ HN c0 c11
  have c11 : w2.cell? ⟨w.heap.size, 11, none⟩ = some (.slice pH hv.length cH) := HA2.out.cell 11
  have hDc := HDc.out w2 (HS.out.2.1.below HN2.out)
  go_wp2_with (go_at_call 57; refine Hid.out ?_)
  refine Lib.hid ?_
  (with_reducible refine hDc.mono ?_)
  rintro e_ w3 ⟨rfl, hb3⟩
  have HA3 := Hid.in ((HA2.out.grow hb3).grow (new_alloc w3 (.cells #[.int .u8 on, .int .u8 an, .int .u8 bn, .int .i32 n] 117)))
  have HZ3 := Hid.in ((HZ2.out.grow hb3).grow (new_alloc w3 (.cells #[.int .u8 on, .int .u8 an, .int .u8 bn, .int .i32 n] 117)))
  have HN3 := Hid.in (below_alloc (below_step HN2.out hb3) (.cells #[.int .u8 on, .int .u8 an, .int .u8 bn, .int .i32 n] 117))
  have HI3 := Hid.in (Blk.new w3 117 #[.int .u8 on, .int .u8 an, .int .u8 bn, .int .i32 n])
  have HL3 : Hid (w.heap.size + 1 < w3.heap.size) := (HZ2.out.grow hb3).lt
  clear hDc hb3 HA2 HZ2 HN2 c11 HDc
  go_upto_region 16 with fail
  generalize w3.alloc (.cells #[.int .u8 on, .int .u8 an, .int .u8 bn, .int .i32 n] 117) = w3a at *
  have c11 : w3a.cell? ⟨w.heap.size, 11, none⟩ = some (.slice pH hv.length cH) := HA3.out.cell 11
  have f11 : w3a.frozen? ⟨w.heap.size, 11, none⟩ = false := HA3.out.free 11
  have HA4 : Hid (Blk (w3a.setCell ⟨w.heap.size, 11, none⟩ (.slice none 0 0)) w.heap.size 50 #[.int .u8 0, .int .u32 pc, .int .u32 r0, .int .u32 r1, .int .u32 r2, .int .u32 r3, .int .u32 r4, .int .u32 r5, .int .u32 r6, .int .u32 r7, .slice pS S.length cS, .slice none 0 0, .slice pL L.length cL]) := HA3.out.set 11 (.slice none 0 0)
  have HZ4 := Hid.in (HZ3.out.other (k := w.heap.size) (by omega) 11 (.slice none 0 0))
  have HI4 := Hid.in (HI3.out.other (k := w.heap.size) (by have := HL3.out; omega) 11 (.slice none 0 0))
  have HN4 := Hid.in (HN3.out.grown (grown_setCell w3a w.heap.size 11 (.slice none 0 0)) HN3.out.size (fun k hk => by injection hk with hk; omega))
  go_upto_region 17 with fail
  generalize w3a.setCell ⟨w.heap.size, 11, none⟩ (.slice none 0 0) = w4 at *
  generalize w3.heap.size = gi at *
  clear c11 f11 HA3 HZ3 HN3 HI3
  have i0 : w4.cell? ⟨gi, 0, none⟩ = some (.int .u8 on) := HI4.out.cell 0
  have g1 : ((on : Int) == 4) = false := by simpa using ho
  go_upto_region 24 with fail
  go_cut [28, 29] (fun v28 v29 wx => ∃ (gr gx : Nat) (pR : Option Addr) (cR : Nat), v28 = .pointer (some ⟨gr, 0, none⟩) ∧ v29 = .pointer (some ⟨gx, 0, none⟩) ∧ Blk wx gr 47 #[.int .u32 s0, .int .u32 s1, .int .u32 s2, .int .u32 s3, .int .u32 s4, .int .u32 s5, .int .u32 s6, .int .u32 s7, .slice pR S9.length cR] ∧ Blk wx gx 121 #[.int .u32 nx, .bool hal, .int .i64 fl, .bool ou, .bool stt, .int .u32 at_, .int .u32 va] ∧ POwnV wx w.heap.size (.slice pR S9.length cR) S9 ∧ Below w4.heap.size w4 wx ∧ w4.heap.size ≤ gr ∧ w4.heap.size ≤ gx)
  case first =>
      skip
      have k0 : w4.cell? ⟨gi, 0, none⟩ = some (.int .u8 on) := HI4.out.cell 0
      have k1 : w4.cell? ⟨gi, 1, none⟩ = some (.int .u8 an) := HI4.out.cell 1
      have k2 : w4.cell? ⟨gi, 2, none⟩ = some (.int .u8 bn) := HI4.out.cell 2
      have k3 : w4.cell? ⟨gi, 3, none⟩ = some (.int .i32 n) := HI4.out.cell 3
      have k4 : w4.cell? ⟨w.heap.size, 1, none⟩ = some (.int .u32 pc) := HA4.out.cell 1
      have k5 : w4.cell? ⟨w.heap.size, 2, none⟩ = some (.int .u32 r0) := HA4.out.cell 2
      have k6 : w4.cell? ⟨w.heap.size, 3, none⟩ = some (.int .u32 r1) := HA4.out.cell 3
      have k7 : w4.cell? ⟨w.heap.size, 4, none⟩ = some (.int .u32 r2) := HA4.out.cell 4
      have k8 : w4.cell? ⟨w.heap.size, 5, none⟩ = some (.int .u32 r3) := HA4.out.cell 5
      have k9 : w4.cell? ⟨w.heap.size, 6, none⟩ = some (.int .u32 r4) := HA4.out.cell 6
      have k10 : w4.cell? ⟨w.heap.size, 7, none⟩ = some (.int .u32 r5) := HA4.out.cell 7
      have k11 : w4.cell? ⟨w.heap.size, 8, none⟩ = some (.int .u32 r6) := HA4.out.cell 8
      have k12 : w4.cell? ⟨w.heap.size, 9, none⟩ = some (.int .u32 r7) := HA4.out.cell 9
      have k13 : w4.cell? ⟨w.heap.size, 10, none⟩ = some (.slice pS S.length cS) := HA4.out.cell 10
      have kr0 := fun d os => cell_regrown k0 d os
      have kr1 := fun d os => cell_regrown k1 d os
      have kr2 := fun d os => cell_regrown k2 d os
      have kr3 := fun d os => cell_regrown k3 d os
      have kr4 := fun d os => cell_regrown k4 d os
      have kr5 := fun d os => cell_regrown k5 d os
      have kr6 := fun d os => cell_regrown k6 d os
      have kr7 := fun d os => cell_regrown k7 d os
      have kr8 := fun d os => cell_regrown k8 d os
      have kr9 := fun d os => cell_regrown k9 d os
      have kr10 := fun d os => cell_regrown k10 d os
      have kr11 := fun d os => cell_regrown k11 d os
      have kr12 := fun d os => cell_regrown k12 d os
      have kr13 := fun d os => cell_regrown k13 d os
      have hDat : ∀ W, Below w4.heap.size w4 W → _ := fun W hb => HD59.out W (HX.out.below (below_step HN4.out hb))
      have hDo := fun W pD cD (hb : Below w4.heap.size w4 W) hr => HD58.out W pD cD (HS.out.1.below (below_step HN4.out hb)) hr
      have HSZ := Hid.in HN4.out.size
      refine wp_region_noPanic ?_
      refine wp_region_sink 7 [14, 15] 9 (by kernel_rfl) (by kernel_rfl) (by kernel_rfl) (by kernel_rfl) (by kernel_rfl) (fun _ _ _ _ _ h => h) ?_
      simp only [List.take_succ_cons, List.take_zero]
      iterate 7 (go_big_quiet_step (fail))
      refine wpQuiet_nil ?_
      rintro _ ⟨⟨dq, osq⟩, rfl⟩
      have HQ := Hid.in (below_regrown w4 dq osq)
      generalize Go.Sort.grow (redrawn w4 dq) osq = w5 at HQ ⊢
      clear k0 kr0 k1 kr1 k2 kr2 k3 kr3 k4 kr4 k5 kr5 k6 kr6 k7 kr7 k8 kr8 k9 kr9 k10 kr10 k11 kr11 k12 kr12 k13 kr13
      refine wpAnyG_three (i := 7) (j := 12) (k := 13) (by kernel_rfl) rfl rfl rfl (fun K hK => ?_) (fun K hK => ?_) (fun K hK => ?_)
      ·   skip
          go_simp
          go_at_call 59
          refine (hDat _ HQ.out).mono ?_
          rintro e_ w16 ⟨vD, rfl, hoD, hbD⟩
          obtain ⟨pD, cD, hvD, hrD, -⟩ := hoD.slice
          subst hvD
          have HRD := Hid.in hrD
          replace HQ := Hid.in (below_step HQ.out hbD)
          refine hK.out _ _ (regrown_of_below HQ.out) (fun _ => ?_)
          clear hK K hoD hrD hbD
          refine wpAnyG_three (i := 8) (j := 12) (k := 13) (by kernel_rfl) rfl rfl rfl (fun K hK => ?_) (fun K hK => ?_) (fun K hK => ?_)
          ·   skip
              go_simp
              go_at_call 58
              refine (hDo _ pD cD HQ.out HRD.out).mono ?_
              rintro e_ w17 ⟨⟨v5, rfl, ho5⟩, hb5⟩
              obtain ⟨pR, cR, hvR, -, -⟩ := ho5.slice
              subst hvR
              have HO5 := Hid.in (ho5.low (Nat.le_trans HSZ.out HQ.out.size))
              replace HQ := Hid.in (below_step HQ.out hb5)
              refine hK.out _ _ (regrown_of_below HQ.out) (fun _ => ?_)
              clear hK K ho5 hb5
              refine wpAnyG_takeW (i := 9) (v := .tuple #[.agg #[.int .u32 s0, .int .u32 s1, .int .u32 s2, .int .u32 s3, .int .u32 s4, .int .u32 s5, .int .u32 s6, .int .u32 s7, .slice pR S9.length cR], .agg #[.int .u32 nx, .bool hal, .int .i64 fl, .bool ou, .bool stt, .int .u32 at_, .int .u32 va]]) rfl (by kernel_rfl) (by kernel_rfl) (by kernel_rfl) (fun _ _ _ h => h) (((Closed.picked (ex := [14, 15]) (List.range 7) _ (by kernel_rfl) (Closed.start _)).step (j := 7) (by kernel_rfl)).step (j := 8) (by kernel_rfl)) (by kernel_rfl) (fun W => by go_simp) ?_
              refine wpAnyG_takeW (i := 10) (v := .agg #[.int .u32 s0, .int .u32 s1, .int .u32 s2, .int .u32 s3, .int .u32 s4, .int .u32 s5, .int .u32 s6, .int .u32 s7, .slice pR S9.length cR]) rfl (by kernel_rfl) (by kernel_rfl) (by kernel_rfl) (fun _ _ _ h => h) ((((Closed.picked (ex := [14, 15]) (List.range 7) _ (by kernel_rfl) (Closed.start _)).step (j := 7) (by kernel_rfl)).step (j := 8) (by kernel_rfl)).step (j := 9) (by kernel_rfl)) (by kernel_rfl) (fun W => by go_simp) ?_
              refine wpAnyG_takeW (i := 11) (v := .agg #[.int .u32 nx, .bool hal, .int .i64 fl, .bool ou, .bool stt, .int .u32 at_, .int .u32 va]) rfl (by kernel_rfl) (by kernel_rfl) (by kernel_rfl) (fun _ _ _ h => h) (((((Closed.picked (ex := [14, 15]) (List.range 7) _ (by kernel_rfl) (Closed.start _)).step (j := 7) (by kernel_rfl)).step (j := 8) (by kernel_rfl)).step (j := 9) (by kernel_rfl)).step (j := 10) (by kernel_rfl)) (by kernel_rfl) (fun W => by go_simp) ?_
              refine wpAnyG_two (i := 12) (j := 13) (by kernel_rfl) rfl rfl (fun K hK => ?_) (fun K hK => ?_)
              · as_aux_lemma =>
                  go_simp
                  refine hK.out _ _ (regrown_of_below (below_alloc HQ.out _)) (fun _ => ?_)
                  clear hK K
                  have HA := Hid.in (Blk.new w17 47 #[.int .u32 0, .int .u32 0, .int .u32 0, .int .u32 0, .int .u32 0, .int .u32 0, .int .u32 0, .int .u32 0, .slice none 0 0])
                  have HGA : Hid (w4.heap.size ≤ w17.heap.size) := HQ.out.size
                  replace HO5 := Hid.in (HO5.out.alloc (.cells #[.int .u32 0, .int .u32 0, .int .u32 0, .int .u32 0, .int .u32 0, .int .u32 0, .int .u32 0, .int .u32 0, .slice none 0 0] 47))
                  replace HQ := Hid.in (below_alloc HQ.out (.cells #[.int .u32 0, .int .u32 0, .int .u32 0, .int .u32 0, .int .u32 0, .int .u32 0, .int .u32 0, .int .u32 0, .slice none 0 0] 47))
                  generalize w17.alloc (.cells #[.int .u32 0, .int .u32 0, .int .u32 0, .int .u32 0, .int .u32 0, .int .u32 0, .int .u32 0, .int .u32 0, .slice none 0 0] 47) = w18 at *
                  refine wpAnyG_one (i := 13) (by kernel_rfl) rfl (fun K hK => ?_)
                  go_simp
                  refine hK.out _ _ (regrown_of_below (below_alloc HQ.out _)) (fun _ => ?_)
                  clear hK K
                  have HB := Hid.in (Blk.new w18 121 #[.int .u32 0, .bool false, .int .i64 0, .bool false, .bool false, .int .u32 0, .int .u32 0])
                  have HGB : Hid (w4.heap.size ≤ w18.heap.size) := HQ.out.size
                  replace HA := Hid.in (HA.out.grow (new_alloc w18 (.cells #[.int .u32 0, .bool false, .int .i64 0, .bool false, .bool false, .int .u32 0, .int .u32 0] 121)))
                  replace HO5 := Hid.in (HO5.out.alloc (.cells #[.int .u32 0, .bool false, .int .i64 0, .bool false, .bool false, .int .u32 0, .int .u32 0] 121))
                  replace HQ := Hid.in (below_alloc HQ.out (.cells #[.int .u32 0, .bool false, .int .i64 0, .bool false, .bool false, .int .u32 0, .int .u32 0] 121))
                  generalize w18.alloc (.cells #[.int .u32 0, .bool false, .int .i64 0, .bool false, .bool false, .int .u32 0, .int .u32 0] 121) = w19 at *
                  refine wpAnyG_last (i := 14) (by kernel_rfl) rfl rfl (fun K hK => ?_)
                  refine oper_store HA.out (by rfl) 47 _ _ (by rfl) (by rfl) (by rfl) [.int .u32 s0, .int .u32 s1, .int .u32 s2, .int .u32 s3, .int .u32 s4, .int .u32 s5, .int .u32 s6, .int .u32 s7, .slice pR S9.length cR] (by rfl) Tryz.sz47 rfl rfl ?_
                  intro wA hbA hgA
                  refine hK.out _ _ ?_
                  clear hK K
                  have HB1 := Hid.in (HB.out.kept hgA (by intro e; injection e with e; exact blk_ne HA.out HB.out (by decide) e.symm))
                  refine wpAnyG_last (i := 15) (by kernel_rfl) rfl rfl (fun K hK => ?_)
                  refine oper_store HB1.out (by rfl) 121 _ _ (by rfl) (by rfl) (by rfl) [.int .u32 nx, .bool hal, .int .i64 fl, .bool ou, .bool stt, .int .u32 at_, .int .u32 va] (by rfl) Tryz.sz121 rfl rfl ?_
                  intro wB hbB hgB
                  refine hK.out _ _ ?_
                  clear hK K
                  have HF := Hid.in (fin121 HA.out HB.out HO5.out HQ.out HGA.out HGB.out hbA hgA hbB hgB)
                  clear hbA hgA hbB hgB HB1 HA HB HO5 HQ
                  refine wpAnyG_done (by kernel_rfl) ?_ _
                  refine NoPanic.normal ?_
                  go_wp2_with fail
                  go_meet
                  case rel => exact ⟨_, _, pR, cR, rfl, rfl, HF.out⟩
              · as_aux_lemma =>
                  go_simp
                  refine hK.out _ _ (regrown_of_below (below_alloc HQ.out _)) (fun _ => ?_)
                  clear hK K
                  have HB := Hid.in (Blk.new w17 121 #[.int .u32 0, .bool false, .int .i64 0, .bool false, .bool false, .int .u32 0, .int .u32 0])
                  have HGB : Hid (w4.heap.size ≤ w17.heap.size) := HQ.out.size
                  replace HO5 := Hid.in (HO5.out.alloc (.cells #[.int .u32 0, .bool false, .int .i64 0, .bool false, .bool false, .int .u32 0, .int .u32 0] 121))
                  replace HQ := Hid.in (below_alloc HQ.out (.cells #[.int .u32 0, .bool false, .int .i64 0, .bool false, .bool false, .int .u32 0, .int .u32 0] 121))
                  generalize w17.alloc (.cells #[.int .u32 0, .bool false, .int .i64 0, .bool false, .bool false, .int .u32 0, .int .u32 0] 121) = w20 at *
                  refine wpAnyG_one (i := 12) (by kernel_rfl) rfl (fun K hK => ?_)
                  go_simp
                  refine hK.out _ _ (regrown_of_below (below_alloc HQ.out _)) (fun _ => ?_)
                  clear hK K
                  have HA := Hid.in (Blk.new w20 47 #[.int .u32 0, .int .u32 0, .int .u32 0, .int .u32 0, .int .u32 0, .int .u32 0, .int .u32 0, .int .u32 0, .slice none 0 0])
                  have HGA : Hid (w4.heap.size ≤ w20.heap.size) := HQ.out.size
                  replace HB := Hid.in (HB.out.grow (new_alloc w20 (.cells #[.int .u32 0, .int .u32 0, .int .u32 0, .int .u32 0, .int .u32 0, .int .u32 0, .int .u32 0, .int .u32 0, .slice none 0 0] 47)))
                  replace HO5 := Hid.in (HO5.out.alloc (.cells #[.int .u32 0, .int .u32 0, .int .u32 0, .int .u32 0, .int .u32 0, .int .u32 0, .int .u32 0, .int .u32 0, .slice none 0 0] 47))
                  replace HQ := Hid.in (below_alloc HQ.out (.cells #[.int .u32 0, .int .u32 0, .int .u32 0, .int .u32 0, .int .u32 0, .int .u32 0, .int .u32 0, .int .u32 0, .slice none 0 0] 47))
                  generalize w20.alloc (.cells #[.int .u32 0, .int .u32 0, .int .u32 0, .int .u32 0, .int .u32 0, .int .u32 0, .int .u32 0, .int .u32 0, .slice none 0 0] 47) = w21 at *
                  refine wpAnyG_last (i := 14) (by kernel_rfl) rfl rfl (fun K hK => ?_)
                  refine oper_store HA.out (by rfl) 47 _ _ (by rfl) (by rfl) (by rfl) [.int .u32 s0, .int .u32 s1, .int .u32 s2, .int .u32 s3, .int .u32 s4, .int .u32 s5, .int .u32 s6, .int .u32 s7, .slice pR S9.length cR] (by rfl) Tryz.sz47 rfl rfl ?_
                  intro wA hbA hgA
                  refine hK.out _ _ ?_
                  clear hK K
                  have HB1 := Hid.in (HB.out.kept hgA (by intro e; injection e with e; exact blk_ne HA.out HB.out (by decide) e.symm))
                  refine wpAnyG_last (i := 15) (by kernel_rfl) rfl rfl (fun K hK => ?_)
                  refine oper_store HB1.out (by rfl) 121 _ _ (by rfl) (by rfl) (by rfl) [.int .u32 nx, .bool hal, .int .i64 fl, .bool ou, .bool stt, .int .u32 at_, .int .u32 va] (by rfl) Tryz.sz121 rfl rfl ?_
                  intro wB hbB hgB
                  refine hK.out _ _ ?_
                  clear hK K
                  have HF := Hid.in (fin121 HA.out HB.out HO5.out HQ.out HGA.out HGB.out hbA hgA hbB hgB)
                  clear hbA hgA hbB hgB HB1 HA HB HO5 HQ
                  refine wpAnyG_done (by kernel_rfl) ?_ _
                  refine NoPanic.normal ?_
                  go_wp2_with fail
                  go_meet
                  case rel => exact ⟨_, _, pR, cR, rfl, rfl, HF.out⟩
          ·   skip
              go_simp
              refine hK.out _ _ (regrown_of_below (below_alloc HQ.out _)) (fun _ => ?_)
              clear hK K
              have HA := Hid.in (Blk.new w16 47 #[.int .u32 0, .int .u32 0, .int .u32 0, .int .u32 0, .int .u32 0, .int .u32 0, .int .u32 0, .int .u32 0, .slice none 0 0])
              have HGA : Hid (w4.heap.size ≤ w16.heap.size) := HQ.out.size
              replace HRD := Hid.in (HRD.out.below (new_alloc w16 (.cells #[.int .u32 0, .int .u32 0, .int .u32 0, .int .u32 0, .int .u32 0, .int .u32 0, .int .u32 0, .int .u32 0, .slice none 0 0] 47)))
              replace HQ := Hid.in (below_alloc HQ.out (.cells #[.int .u32 0, .int .u32 0, .int .u32 0, .int .u32 0, .int .u32 0, .int .u32 0, .int .u32 0, .int .u32 0, .slice none 0 0] 47))
              generalize w16.alloc (.cells #[.int .u32 0, .int .u32 0, .int .u32 0, .int .u32 0, .int .u32 0, .int .u32 0, .int .u32 0, .int .u32 0, .slice none 0 0] 47) = w22 at *
              refine wpAnyG_two (i := 8) (j := 13) (by kernel_rfl) rfl rfl (fun K hK => ?_) (fun K hK => ?_)
              · as_aux_lemma =>
                  go_simp
                  go_at_call 58
                  refine (hDo _ pD cD HQ.out HRD.out).mono ?_
                  rintro e_ w23 ⟨⟨v5, rfl, ho5⟩, hb5⟩
                  obtain ⟨pR, cR, hvR, -, -⟩ := ho5.slice
                  subst hvR
                  have HO5 := Hid.in (ho5.low (Nat.le_trans HSZ.out HQ.out.size))
                  replace HA := Hid.in (HA.out.grow hb5)
                  replace HQ := Hid.in (below_step HQ.out hb5)
                  refine hK.out _ _ (regrown_of_below HQ.out) (fun _ => ?_)
                  clear hK K ho5 hb5
                  refine wpAnyG_takeW (i := 9) (v := .tuple #[.agg #[.int .u32 s0, .int .u32 s1, .int .u32 s2, .int .u32 s3, .int .u32 s4, .int .u32 s5, .int .u32 s6, .int .u32 s7, .slice pR S9.length cR], .agg #[.int .u32 nx, .bool hal, .int .i64 fl, .bool ou, .bool stt, .int .u32 at_, .int .u32 va]]) rfl (by kernel_rfl) (by kernel_rfl) (by kernel_rfl) (fun _ _ _ h => h) ((((Closed.picked (ex := [14, 15]) (List.range 7) _ (by kernel_rfl) (Closed.start _)).step (j := 7) (by kernel_rfl)).step (j := 12) (by kernel_rfl)).step (j := 8) (by kernel_rfl)) (by kernel_rfl) (fun W => by go_simp) ?_
                  refine wpAnyG_takeW (i := 10) (v := .agg #[.int .u32 s0, .int .u32 s1, .int .u32 s2, .int .u32 s3, .int .u32 s4, .int .u32 s5, .int .u32 s6, .int .u32 s7, .slice pR S9.length cR]) rfl (by kernel_rfl) (by kernel_rfl) (by kernel_rfl) (fun _ _ _ h => h) (((((Closed.picked (ex := [14, 15]) (List.range 7) _ (by kernel_rfl) (Closed.start _)).step (j := 7) (by kernel_rfl)).step (j := 12) (by kernel_rfl)).step (j := 8) (by kernel_rfl)).step (j := 9) (by kernel_rfl)) (by kernel_rfl) (fun W => by go_simp) ?_
                  refine wpAnyG_takeW (i := 11) (v := .agg #[.int .u32 nx, .bool hal, .int .i64 fl, .bool ou, .bool stt, .int .u32 at_, .int .u32 va]) rfl (by kernel_rfl) (by kernel_rfl) (by kernel_rfl) (fun _ _ _ h => h) ((((((Closed.picked (ex := [14, 15]) (List.range 7) _ (by kernel_rfl) (Closed.start _)).step (j := 7) (by kernel_rfl)).step (j := 12) (by kernel_rfl)).step (j := 8) (by kernel_rfl)).step (j := 9) (by kernel_rfl)).step (j := 10) (by kernel_rfl)) (by kernel_rfl) (fun W => by go_simp) ?_
                  refine wpAnyG_one (i := 13) (by kernel_rfl) rfl (fun K hK => ?_)
                  go_simp
                  refine hK.out _ _ (regrown_of_below (below_alloc HQ.out _)) (fun _ => ?_)
                  clear hK K
                  have HB := Hid.in (Blk.new w23 121 #[.int .u32 0, .bool false, .int .i64 0, .bool false, .bool false, .int .u32 0, .int .u32 0])
                  have HGB : Hid (w4.heap.size ≤ w23.heap.size) := HQ.out.size
                  replace HA := Hid.in (HA.out.grow (new_alloc w23 (.cells #[.int .u32 0, .bool false, .int .i64 0, .bool false, .bool false, .int .u32 0, .int .u32 0] 121)))
                  replace HO5 := Hid.in (HO5.out.alloc (.cells #[.int .u32 0, .bool false, .int .i64 0, .bool false, .bool false, .int .u32 0, .int .u32 0] 121))
                  replace HQ := Hid.in (below_alloc HQ.out (.cells #[.int .u32 0, .bool false, .int .i64 0, .bool false, .bool false, .int .u32 0, .int .u32 0] 121))
                  generalize w23.alloc (.cells #[.int .u32 0, .bool false, .int .i64 0, .bool false, .bool false, .int .u32 0, .int .u32 0] 121) = w24 at *
                  refine wpAnyG_last (i := 14) (by kernel_rfl) rfl rfl (fun K hK => ?_)
                  refine oper_store HA.out (by rfl) 47 _ _ (by rfl) (by rfl) (by rfl) [.int .u32 s0, .int .u32 s1, .int .u32 s2, .int .u32 s3, .int .u32 s4, .int .u32 s5, .int .u32 s6, .int .u32 s7, .slice pR S9.length cR] (by rfl) Tryz.sz47 rfl rfl ?_
                  intro wA hbA hgA
                  refine hK.out _ _ ?_
                  clear hK K
                  have HB1 := Hid.in (HB.out.kept hgA (by intro e; injection e with e; exact blk_ne HA.out HB.out (by decide) e.symm))
                  refine wpAnyG_last (i := 15) (by kernel_rfl) rfl rfl (fun K hK => ?_)
                  refine oper_store HB1.out (by rfl) 121 _ _ (by rfl) (by rfl) (by rfl) [.int .u32 nx, .bool hal, .int .i64 fl, .bool ou, .bool stt, .int .u32 at_, .int .u32 va] (by rfl) Tryz.sz121 rfl rfl ?_
                  intro wB hbB hgB
                  refine hK.out _ _ ?_
                  clear hK K
                  have HF := Hid.in (fin121 HA.out HB.out HO5.out HQ.out HGA.out HGB.out hbA hgA hbB hgB)
                  clear hbA hgA hbB hgB HB1 HA HB HO5 HQ
                  refine wpAnyG_done (by kernel_rfl) ?_ _
                  refine NoPanic.normal ?_
                  go_wp2_with fail
                  go_meet
                  case rel => exact ⟨_, _, pR, cR, rfl, rfl, HF.out⟩
              · as_aux_lemma =>
                  go_simp
                  refine hK.out _ _ (regrown_of_below (below_alloc HQ.out _)) (fun _ => ?_)
                  clear hK K
                  have HB := Hid.in (Blk.new w22 121 #[.int .u32 0, .bool false, .int .i64 0, .bool false, .bool false, .int .u32 0, .int .u32 0])
                  have HGB : Hid (w4.heap.size ≤ w22.heap.size) := HQ.out.size
                  replace HA := Hid.in (HA.out.grow (new_alloc w22 (.cells #[.int .u32 0, .bool false, .int .i64 0, .bool false, .bool false, .int .u32 0, .int .u32 0] 121)))
                  replace HRD := Hid.in (HRD.out.below (new_alloc w22 (.cells #[.int .u32 0, .bool false, .int .i64 0, .bool false, .bool false, .int .u32 0, .int .u32 0] 121)))
                  replace HQ := Hid.in (below_alloc HQ.out (.cells #[.int .u32 0, .bool false, .int .i64 0, .bool false, .bool false, .int .u32 0, .int .u32 0] 121))
                  generalize w22.alloc (.cells #[.int .u32 0, .bool false, .int .i64 0, .bool false, .bool false, .int .u32 0, .int .u32 0] 121) = w25 at *
                  refine wpAnyG_one (i := 8) (by kernel_rfl) rfl (fun K hK => ?_)
                  go_simp
                  go_at_call 58
                  refine (hDo _ pD cD HQ.out HRD.out).mono ?_
                  rintro e_ w26 ⟨⟨v5, rfl, ho5⟩, hb5⟩
                  obtain ⟨pR, cR, hvR, -, -⟩ := ho5.slice
                  subst hvR
                  have HO5 := Hid.in (ho5.low (Nat.le_trans HSZ.out HQ.out.size))
                  replace HA := Hid.in (HA.out.grow hb5)
                  replace HB := Hid.in (HB.out.grow hb5)
                  replace HQ := Hid.in (below_step HQ.out hb5)
                  refine hK.out _ _ (regrown_of_below HQ.out) (fun _ => ?_)
                  clear hK K ho5 hb5
                  refine wpAnyG_takeW (i := 9) (v := .tuple #[.agg #[.int .u32 s0, .int .u32 s1, .int .u32 s2, .int .u32 s3, .int .u32 s4, .int .u32 s5, .int .u32 s6, .int .u32 s7, .slice pR S9.length cR], .agg #[.int .u32 nx, .bool hal, .int .i64 fl, .bool ou, .bool stt, .int .u32 at_, .int .u32 va]]) rfl (by kernel_rfl) (by kernel_rfl) (by kernel_rfl) (fun _ _ _ h => h) (((((Closed.picked (ex := [14, 15]) (List.range 7) _ (by kernel_rfl) (Closed.start _)).step (j := 7) (by kernel_rfl)).step (j := 12) (by kernel_rfl)).step (j := 13) (by kernel_rfl)).step (j := 8) (by kernel_rfl)) (by kernel_rfl) (fun W => by go_simp) ?_
                  refine wpAnyG_takeW (i := 10) (v := .agg #[.int .u32 s0, .int .u32 s1, .int .u32 s2, .int .u32 s3, .int .u32 s4, .int .u32 s5, .int .u32 s6, .int .u32 s7, .slice pR S9.length cR]) rfl (by kernel_rfl) (by kernel_rfl) (by kernel_rfl) (fun _ _ _ h => h) ((((((Closed.picked (ex := [14, 15]) (List.range 7) _ (by kernel_rfl) (Closed.start _)).step (j := 7) (by kernel_rfl)).step (j := 12) (by kernel_rfl)).step (j := 13) (by kernel_rfl)).step (j := 8) (by kernel_rfl)).step (j := 9) (by kernel_rfl)) (by kernel_rfl) (fun W => by go_simp) ?_
                  refine wpAnyG_takeW (i := 11) (v := .agg #[.int .u32 nx, .bool hal, .int .i64 fl, .bool ou, .bool stt, .int .u32 at_, .int .u32 va]) rfl (by kernel_rfl) (by kernel_rfl) (by kernel_rfl) (fun _ _ _ h => h) (((((((Closed.picked (ex := [14, 15]) (List.range 7) _ (by kernel_rfl) (Closed.start _)).step (j := 7) (by kernel_rfl)).step (j := 12) (by kernel_rfl)).step (j := 13) (by kernel_rfl)).step (j := 8) (by kernel_rfl)).step (j := 9) (by kernel_rfl)).step (j := 10) (by kernel_rfl)) (by kernel_rfl) (fun W => by go_simp) ?_
                  go_simp
                  refine wpAnyG_last (i := 14) (by kernel_rfl) rfl rfl (fun K hK => ?_)
                  refine oper_store HA.out (by rfl) 47 _ _ (by rfl) (by rfl) (by rfl) [.int .u32 s0, .int .u32 s1, .int .u32 s2, .int .u32 s3, .int .u32 s4, .int .u32 s5, .int .u32 s6, .int .u32 s7, .slice pR S9.length cR] (by rfl) Tryz.sz47 rfl rfl ?_
                  intro wA hbA hgA
                  refine hK.out _ _ ?_
                  clear hK K
                  have HB1 := Hid.in (HB.out.kept hgA (by intro e; injection e with e; exact blk_ne HA.out HB.out (by decide) e.symm))
                  refine wpAnyG_last (i := 15) (by kernel_rfl) rfl rfl (fun K hK => ?_)
                  refine oper_store HB1.out (by rfl) 121 _ _ (by rfl) (by rfl) (by rfl) [.int .u32 nx, .bool hal, .int .i64 fl, .bool ou, .bool stt, .int .u32 at_, .int .u32 va] (by rfl) Tryz.sz121 rfl rfl ?_
                  intro wB hbB hgB
                  refine hK.out _ _ ?_
                  clear hK K
                  have HF := Hid.in (fin121 HA.out HB.out HO5.out HQ.out HGA.out HGB.out hbA hgA hbB hgB)
                  clear hbA hgA hbB hgB HB1 HA HB HO5 HQ
                  refine wpAnyG_done (by kernel_rfl) ?_ _
                  refine NoPanic.normal ?_
                  go_wp2_with fail
                  go_meet
                  case rel => exact ⟨_, _, pR, cR, rfl, rfl, HF.out⟩
          ·   skip
              go_simp
              refine hK.out _ _ (regrown_of_below (below_alloc HQ.out _)) (fun _ => ?_)
              clear hK K
              have HB := Hid.in (Blk.new w16 121 #[.int .u32 0, .bool false, .int .i64 0, .bool false, .bool false, .int .u32 0, .int .u32 0])
              have HGB : Hid (w4.heap.size ≤ w16.heap.size) := HQ.out.size
              replace HRD := Hid.in (HRD.out.below (new_alloc w16 (.cells #[.int .u32 0, .bool false, .int .i64 0, .bool false, .bool false, .int .u32 0, .int .u32 0] 121)))
              replace HQ := Hid.in (below_alloc HQ.out (.cells #[.int .u32 0, .bool false, .int .i64 0, .bool false, .bool false, .int .u32 0, .int .u32 0] 121))
              generalize w16.alloc (.cells #[.int .u32 0, .bool false, .int .i64 0, .bool false, .bool false, .int .u32 0, .int .u32 0] 121) = w27 at *
              refine wpAnyG_two (i := 8) (j := 12) (by kernel_rfl) rfl rfl (fun K hK => ?_) (fun K hK => ?_)
              · as_aux_lemma =>
                  go_simp
                  go_at_call 58
                  refine (hDo _ pD cD HQ.out HRD.out).mono ?_
                  rintro e_ w28 ⟨⟨v5, rfl, ho5⟩, hb5⟩
                  obtain ⟨pR, cR, hvR, -, -⟩ := ho5.slice
                  subst hvR
                  have HO5 := Hid.in (ho5.low (Nat.le_trans HSZ.out HQ.out.size))
                  replace HB := Hid.in (HB.out.grow hb5)
                  replace HQ := Hid.in (below_step HQ.out hb5)
                  refine hK.out _ _ (regrown_of_below HQ.out) (fun _ => ?_)
                  clear hK K ho5 hb5
                  refine wpAnyG_takeW (i := 9) (v := .tuple #[.agg #[.int .u32 s0, .int .u32 s1, .int .u32 s2, .int .u32 s3, .int .u32 s4, .int .u32 s5, .int .u32 s6, .int .u32 s7, .slice pR S9.length cR], .agg #[.int .u32 nx, .bool hal, .int .i64 fl, .bool ou, .bool stt, .int .u32 at_, .int .u32 va]]) rfl (by kernel_rfl) (by kernel_rfl) (by kernel_rfl) (fun _ _ _ h => h) ((((Closed.picked (ex := [14, 15]) (List.range 7) _ (by kernel_rfl) (Closed.start _)).step (j := 7) (by kernel_rfl)).step (j := 13) (by kernel_rfl)).step (j := 8) (by kernel_rfl)) (by kernel_rfl) (fun W => by go_simp) ?_
                  refine wpAnyG_takeW (i := 10) (v := .agg #[.int .u32 s0, .int .u32 s1, .int .u32 s2, .int .u32 s3, .int .u32 s4, .int .u32 s5, .int .u32 s6, .int .u32 s7, .slice pR S9.length cR]) rfl (by kernel_rfl) (by kernel_rfl) (by kernel_rfl) (fun _ _ _ h => h) (((((Closed.picked (ex := [14, 15]) (List.range 7) _ (by kernel_rfl) (Closed.start _)).step (j := 7) (by kernel_rfl)).step (j := 13) (by kernel_rfl)).step (j := 8) (by kernel_rfl)).step (j := 9) (by kernel_rfl)) (by kernel_rfl) (fun W => by go_simp) ?_
                  refine wpAnyG_takeW (i := 11) (v := .agg #[.int .u32 nx, .bool hal, .int .i64 fl, .bool ou, .bool stt, .int .u32 at_, .int .u32 va]) rfl (by kernel_rfl) (by kernel_rfl) (by kernel_rfl) (fun _ _ _ h => h) ((((((Closed.picked (ex := [14, 15]) (List.range 7) _ (by kernel_rfl) (Closed.start _)).step (j := 7) (by kernel_rfl)).step (j := 13) (by kernel_rfl)).step (j := 8) (by kernel_rfl)).step (j := 9) (by kernel_rfl)).step (j := 10) (by kernel_rfl)) (by kernel_rfl) (fun W => by go_simp) ?_
                  refine wpAnyG_one (i := 12) (by kernel_rfl) rfl (fun K hK => ?_)
                  go_simp
                  refine hK.out _ _ (regrown_of_below (below_alloc HQ.out _)) (fun _ => ?_)
                  clear hK K
                  have HA := Hid.in (Blk.new w28 47 #[.int .u32 0, .int .u32 0, .int .u32 0, .int .u32 0, .int .u32 0, .int .u32 0, .int .u32 0, .int .u32 0, .slice none 0 0])
                  have HGA : Hid (w4.heap.size ≤ w28.heap.size) := HQ.out.size
                  replace HB := Hid.in (HB.out.grow (new_alloc w28 (.cells #[.int .u32 0, .int .u32 0, .int .u32 0, .int .u32 0, .int .u32 0, .int .u32 0, .int .u32 0, .int .u32 0, .slice none 0 0] 47)))
                  replace HO5 := Hid.in (HO5.out.alloc (.cells #[.int .u32 0, .int .u32 0, .int .u32 0, .int .u32 0, .int .u32 0, .int .u32 0, .int .u32 0, .int .u32 0, .slice none 0 0] 47))
                  replace HQ := Hid.in (below_alloc HQ.out (.cells #[.int .u32 0, .int .u32 0, .int .u32 0, .int .u32 0, .int .u32 0, .int .u32 0, .int .u32 0, .int .u32 0, .slice none 0 0] 47))
                  generalize w28.alloc (.cells #[.int .u32 0, .int .u32 0, .int .u32 0, .int .u32 0, .int .u32 0, .int .u32 0, .int .u32 0, .int .u32 0, .slice none 0 0] 47) = w29 at *
                  refine wpAnyG_last (i := 14) (by kernel_rfl) rfl rfl (fun K hK => ?_)
                  refine oper_store HA.out (by rfl) 47 _ _ (by rfl) (by rfl) (by rfl) [.int .u32 s0, .int .u32 s1, .int .u32 s2, .int .u32 s3, .int .u32 s4, .int .u32 s5, .int .u32 s6, .int .u32 s7, .slice pR S9.length cR] (by rfl) Tryz.sz47 rfl rfl ?_
                  intro wA hbA hgA
                  refine hK.out _ _ ?_
                  clear hK K
                  have HB1 := Hid.in (HB.out.kept hgA (by intro e; injection e with e; exact blk_ne HA.out HB.out (by decide) e.symm))
                  refine wpAnyG_last (i := 15) (by kernel_rfl) rfl rfl (fun K hK => ?_)
                  refine oper_store HB1.out (by rfl) 121 _ _ (by rfl) (by rfl) (by rfl) [.int .u32 nx, .bool hal, .int .i64 fl, .bool ou, .bool stt, .int .u32 at_, .int .u32 va] (by rfl) Tryz.sz121 rfl rfl ?_
                  intro wB hbB hgB
                  refine hK.out _ _ ?_
                  clear hK K
                  have HF := Hid.in (fin121 HA.out HB.out HO5.out HQ.out HGA.out HGB.out hbA hgA hbB hgB)
                  clear hbA hgA hbB hgB HB1 HA HB HO5 HQ
                  refine wpAnyG_done (by kernel_rfl) ?_ _
                  refine NoPanic.normal ?_
                  go_wp2_with fail
                  go_meet
                  case rel => exact ⟨_, _, pR, cR, rfl, rfl, HF.out⟩
              · as_aux_lemma =>
                  go_simp
                  refine hK.out _ _ (regrown_of_below (below_alloc HQ.out _)) (fun _ => ?_)
                  clear hK K
                  have HA := Hid.in (Blk.new w27 47 #[.int .u32 0, .int .u32 0, .int .u32 0, .int .u32 0, .int .u32 0, .int .u32 0, .int .u32 0, .int .u32 0, .slice none 0 0])
                  have HGA : Hid (w4.heap.size ≤ w27.heap.size) := HQ.out.size
                  replace HB := Hid.in (HB.out.grow (new_alloc w27 (.cells #[.int .u32 0, .int .u32 0, .int .u32 0, .int .u32 0, .int .u32 0, .int .u32 0, .int .u32 0, .int .u32 0, .slice none 0 0] 47)))
                  replace HRD := Hid.in (HRD.out.below (new_alloc w27 (.cells #[.int .u32 0, .int .u32 0, .int .u32 0, .int .u32 0, .int .u32 0, .int .u32 0, .int .u32 0, .int .u32 0, .slice none 0 0] 47)))
                  replace HQ := Hid.in (below_alloc HQ.out (.cells #[.int .u32 0, .int .u32 0, .int .u32 0, .int .u32 0, .int .u32 0, .int .u32 0, .int .u32 0, .int .u32 0, .slice none 0 0] 47))
                  generalize w27.alloc (.cells #[.int .u32 0, .int .u32 0, .int .u32 0, .int .u32 0, .int .u32 0, .int .u32 0, .int .u32 0, .int .u32 0, .slice none 0 0] 47) = w30 at *
                  refine wpAnyG_one (i := 8) (by kernel_rfl) rfl (fun K hK => ?_)
                  go_simp
                  go_at_call 58
                  refine (hDo _ pD cD HQ.out HRD.out).mono ?_
                  rintro e_ w31 ⟨⟨v5, rfl, ho5⟩, hb5⟩
                  obtain ⟨pR, cR, hvR, -, -⟩ := ho5.slice
                  subst hvR
                  have HO5 := Hid.in (ho5.low (Nat.le_trans HSZ.out HQ.out.size))
                  replace HA := Hid.in (HA.out.grow hb5)
                  replace HB := Hid.in (HB.out.grow hb5)
                  replace HQ := Hid.in (below_step HQ.out hb5)
                  refine hK.out _ _ (regrown_of_below HQ.out) (fun _ => ?_)
                  clear hK K ho5 hb5
                  refine wpAnyG_takeW (i := 9) (v := .tuple #[.agg #[.int .u32 s0, .int .u32 s1, .int .u32 s2, .int .u32 s3, .int .u32 s4, .int .u32 s5, .int .u32 s6, .int .u32 s7, .slice pR S9.length cR], .agg #[.int .u32 nx, .bool hal, .int .i64 fl, .bool ou, .bool stt, .int .u32 at_, .int .u32 va]]) rfl (by kernel_rfl) (by kernel_rfl) (by kernel_rfl) (fun _ _ _ h => h) (((((Closed.picked (ex := [14, 15]) (List.range 7) _ (by kernel_rfl) (Closed.start _)).step (j := 7) (by kernel_rfl)).step (j := 13) (by kernel_rfl)).step (j := 12) (by kernel_rfl)).step (j := 8) (by kernel_rfl)) (by kernel_rfl) (fun W => by go_simp) ?_
                  refine wpAnyG_takeW (i := 10) (v := .agg #[.int .u32 s0, .int .u32 s1, .int .u32 s2, .int .u32 s3, .int .u32 s4, .int .u32 s5, .int .u32 s6, .int .u32 s7, .slice pR S9.length cR]) rfl (by kernel_rfl) (by kernel_rfl) (by kernel_rfl) (fun _ _ _ h => h) ((((((Closed.picked (ex := [14, 15]) (List.range 7) _ (by kernel_rfl) (Closed.start _)).step (j := 7) (by kernel_rfl)).step (j := 13) (by kernel_rfl)).step (j := 12) (by kernel_rfl)).step (j := 8) (by kernel_rfl)).step (j := 9) (by kernel_rfl)) (by kernel_rfl) (fun W => by go_simp) ?_
                  refine wpAnyG_takeW (i := 11) (v := .agg #[.int .u32 nx, .bool hal, .int .i64 fl, .bool ou, .bool stt, .int .u32 at_, .int .u32 va]) rfl (by kernel_rfl) (by kernel_rfl) (by kernel_rfl) (fun _ _ _ h => h) (((((((Closed.picked (ex := [14, 15]) (List.range 7) _ (by kernel_rfl) (Closed.start _)).step (j := 7) (by kernel_rfl)).step (j := 13) (by kernel_rfl)).step (j := 12) (by kernel_rfl)).step (j := 8) (by kernel_rfl)).step (j := 9) (by kernel_rfl)).step (j := 10) (by kernel_rfl)) (by kernel_rfl) (fun W => by go_simp) ?_
                  go_simp
                  refine wpAnyG_last (i := 14) (by kernel_rfl) rfl rfl (fun K hK => ?_)
                  refine oper_store HA.out (by rfl) 47 _ _ (by rfl) (by rfl) (by rfl) [.int .u32 s0, .int .u32 s1, .int .u32 s2, .int .u32 s3, .int .u32 s4, .int .u32 s5, .int .u32 s6, .int .u32 s7, .slice pR S9.length cR] (by rfl) Tryz.sz47 rfl rfl ?_
                  intro wA hbA hgA
                  refine hK.out _ _ ?_
                  clear hK K
                  have HB1 := Hid.in (HB.out.kept hgA (by intro e; injection e with e; exact blk_ne HA.out HB.out (by decide) e.symm))
                  refine wpAnyG_last (i := 15) (by kernel_rfl) rfl rfl (fun K hK => ?_)
                  refine oper_store HB1.out (by rfl) 121 _ _ (by rfl) (by rfl) (by rfl) [.int .u32 nx, .bool hal, .int .i64 fl, .bool ou, .bool stt, .int .u32 at_, .int .u32 va] (by rfl) Tryz.sz121 rfl rfl ?_
                  intro wB hbB hgB
                  refine hK.out _ _ ?_
                  clear hK K
                  have HF := Hid.in (fin121 HA.out HB.out HO5.out HQ.out HGA.out HGB.out hbA hgA hbB hgB)
                  clear hbA hgA hbB hgB HB1 HA HB HO5 HQ
                  refine wpAnyG_done (by kernel_rfl) ?_ _
                  refine NoPanic.normal ?_
                  go_wp2_with fail
                  go_meet
                  case rel => exact ⟨_, _, pR, cR, rfl, rfl, HF.out⟩
      ·   skip
          go_simp
          refine hK.out _ _ (regrown_of_below (below_alloc HQ.out _)) (fun _ => ?_)
          clear hK K
          have HA := Hid.in (Blk.new w5 47 #[.int .u32 0, .int .u32 0, .int .u32 0, .int .u32 0, .int .u32 0, .int .u32 0, .int .u32 0, .int .u32 0, .slice none 0 0])
          have HGA : Hid (w4.heap.size ≤ w5.heap.size) := HQ.out.size
          replace HQ := Hid.in (below_alloc HQ.out (.cells #[.int .u32 0, .int .u32 0, .int .u32 0, .int .u32 0, .int .u32 0, .int .u32 0, .int .u32 0, .int .u32 0, .slice none 0 0] 47))
          generalize w5.alloc (.cells #[.int .u32 0, .int .u32 0, .int .u32 0, .int .u32 0, .int .u32 0, .int .u32 0, .int .u32 0, .int .u32 0, .slice none 0 0] 47) = w32 at *
          refine wpAnyG_two (i := 7) (j := 13) (by kernel_rfl) rfl rfl (fun K hK => ?_) (fun K hK => ?_)
          ·   skip
              go_simp
              go_at_call 59
              refine (hDat _ HQ.out).mono ?_
              rintro e_ w33 ⟨vD, rfl, hoD, hbD⟩
              obtain ⟨pD, cD, hvD, hrD, -⟩ := hoD.slice
              subst hvD
              have HRD := Hid.in hrD
              replace HA := Hid.in (HA.out.grow hbD)
              replace HQ := Hid.in (below_step HQ.out hbD)
              refine hK.out _ _ (regrown_of_below HQ.out) (fun _ => ?_)
              clear hK K hoD hrD hbD
              refine wpAnyG_two (i := 8) (j := 13) (by kernel_rfl) rfl rfl (fun K hK => ?_) (fun K hK => ?_)
              · as_aux_lemma =>
                  go_simp
                  go_at_call 58
                  refine (hDo _ pD cD HQ.out HRD.out).mono ?_
                  rintro e_ w34 ⟨⟨v5, rfl, ho5⟩, hb5⟩
                  obtain ⟨pR, cR, hvR, -, -⟩ := ho5.slice
                  subst hvR
                  have HO5 := Hid.in (ho5.low (Nat.le_trans HSZ.out HQ.out.size))
                  replace HA := Hid.in (HA.out.grow hb5)
                  replace HQ := Hid.in (below_step HQ.out hb5)
                  refine hK.out _ _ (regrown_of_below HQ.out) (fun _ => ?_)
                  clear hK K ho5 hb5
                  refine wpAnyG_takeW (i := 9) (v := .tuple #[.agg #[.int .u32 s0, .int .u32 s1, .int .u32 s2, .int .u32 s3, .int .u32 s4, .int .u32 s5, .int .u32 s6, .int .u32 s7, .slice pR S9.length cR], .agg #[.int .u32 nx, .bool hal, .int .i64 fl, .bool ou, .bool stt, .int .u32 at_, .int .u32 va]]) rfl (by kernel_rfl) (by kernel_rfl) (by kernel_rfl) (fun _ _ _ h => h) ((((Closed.picked (ex := [14, 15]) (List.range 7) _ (by kernel_rfl) (Closed.start _)).step (j := 12) (by kernel_rfl)).step (j := 7) (by kernel_rfl)).step (j := 8) (by kernel_rfl)) (by kernel_rfl) (fun W => by go_simp) ?_
                  refine wpAnyG_takeW (i := 10) (v := .agg #[.int .u32 s0, .int .u32 s1, .int .u32 s2, .int .u32 s3, .int .u32 s4, .int .u32 s5, .int .u32 s6, .int .u32 s7, .slice pR S9.length cR]) rfl (by kernel_rfl) (by kernel_rfl) (by kernel_rfl) (fun _ _ _ h => h) (((((Closed.picked (ex := [14, 15]) (List.range 7) _ (by kernel_rfl) (Closed.start _)).step (j := 12) (by kernel_rfl)).step (j := 7) (by kernel_rfl)).step (j := 8) (by kernel_rfl)).step (j := 9) (by kernel_rfl)) (by kernel_rfl) (fun W => by go_simp) ?_
                  refine wpAnyG_takeW (i := 11) (v := .agg #[.int .u32 nx, .bool hal, .int .i64 fl, .bool ou, .bool stt, .int .u32 at_, .int .u32 va]) rfl (by kernel_rfl) (by kernel_rfl) (by kernel_rfl) (fun _ _ _ h => h) ((((((Closed.picked (ex := [14, 15]) (List.range 7) _ (by kernel_rfl) (Closed.start _)).step (j := 12) (by kernel_rfl)).step (j := 7) (by kernel_rfl)).step (j := 8) (by kernel_rfl)).step (j := 9) (by kernel_rfl)).step (j := 10) (by kernel_rfl)) (by kernel_rfl) (fun W => by go_simp) ?_
                  refine wpAnyG_one (i := 13) (by kernel_rfl) rfl (fun K hK => ?_)
                  go_simp
                  refine hK.out _ _ (regrown_of_below (below_alloc HQ.out _)) (fun _ => ?_)
                  clear hK K
                  have HB := Hid.in (Blk.new w34 121 #[.int .u32 0, .bool false, .int .i64 0, .bool false, .bool false, .int .u32 0, .int .u32 0])
                  have HGB : Hid (w4.heap.size ≤ w34.heap.size) := HQ.out.size
                  replace HA := Hid.in (HA.out.grow (new_alloc w34 (.cells #[.int .u32 0, .bool false, .int .i64 0, .bool false, .bool false, .int .u32 0, .int .u32 0] 121)))
                  replace HO5 := Hid.in (HO5.out.alloc (.cells #[.int .u32 0, .bool false, .int .i64 0, .bool false, .bool false, .int .u32 0, .int .u32 0] 121))
                  replace HQ := Hid.in (below_alloc HQ.out (.cells #[.int .u32 0, .bool false, .int .i64 0, .bool false, .bool false, .int .u32 0, .int .u32 0] 121))
                  generalize w34.alloc (.cells #[.int .u32 0, .bool false, .int .i64 0, .bool false, .bool false, .int .u32 0, .int .u32 0] 121) = w35 at *
                  refine wpAnyG_last (i := 14) (by kernel_rfl) rfl rfl (fun K hK => ?_)
                  refine oper_store HA.out (by rfl) 47 _ _ (by rfl) (by rfl) (by rfl) [.int .u32 s0, .int .u32 s1, .int .u32 s2, .int .u32 s3, .int .u32 s4, .int .u32 s5, .int .u32 s6, .int .u32 s7, .slice pR S9.length cR] (by rfl) Tryz.sz47 rfl rfl ?_
                  intro wA hbA hgA
                  refine hK.out _ _ ?_
                  clear hK K
                  have HB1 := Hid.in (HB.out.kept hgA (by intro e; injection e with e; exact blk_ne HA.out HB.out (by decide) e.symm))
                  refine wpAnyG_last (i := 15) (by kernel_rfl) rfl rfl (fun K hK => ?_)
                  refine oper_store HB1.out (by rfl) 121 _ _ (by rfl) (by rfl) (by rfl) [.int .u32 nx, .bool hal, .int .i64 fl, .bool ou, .bool stt, .int .u32 at_, .int .u32 va] (by rfl) Tryz.sz121 rfl rfl ?_
                  intro wB hbB hgB
                  refine hK.out _ _ ?_
                  clear hK K
                  have HF := Hid.in (fin121 HA.out HB.out HO5.out HQ.out HGA.out HGB.out hbA hgA hbB hgB)
                  clear hbA hgA hbB hgB HB1 HA HB HO5 HQ
                  refine wpAnyG_done (by kernel_rfl) ?_ _
                  refine NoPanic.normal ?_
                  go_wp2_with fail
                  go_meet
                  case rel => exact ⟨_, _, pR, cR, rfl, rfl, HF.out⟩
              · as_aux_lemma =>
                  go_simp
                  refine hK.out _ _ (regrown_of_below (below_alloc HQ.out _)) (fun _ => ?_)
                  clear hK K
                  have HB := Hid.in (Blk.new w33 121 #[.int .u32 0, .bool false, .int .i64 0, .bool false, .bool false, .int .u32 0, .int .u32 0])
                  have HGB : Hid (w4.heap.size ≤ w33.heap.size) := HQ.out.size
                  replace HA := Hid.in (HA.out.grow (new_alloc w33 (.cells #[.int .u32 0, .bool false, .int .i64 0, .bool false, .bool false, .int .u32 0, .int .u32 0] 121)))
                  replace HRD := Hid.in (HRD.out.below (new_alloc w33 (.cells #[.int .u32 0, .bool false, .int .i64 0, .bool false, .bool false, .int .u32 0, .int .u32 0] 121)))
                  replace HQ := Hid.in (below_alloc HQ.out (.cells #[.int .u32 0, .bool false, .int .i64 0, .bool false, .bool false, .int .u32 0, .int .u32 0] 121))
                  generalize w33.alloc (.cells #[.int .u32 0, .bool false, .int .i64 0, .bool false, .bool false, .int .u32 0, .int .u32 0] 121) = w36 at *
                  refine wpAnyG_one (i := 8) (by kernel_rfl) rfl (fun K hK => ?_)
                  go_simp
                  go_at_call 58
                  refine (hDo _ pD cD HQ.out HRD.out).mono ?_
                  rintro e_ w37 ⟨⟨v5, rfl, ho5⟩, hb5⟩
                  obtain ⟨pR, cR, hvR, -, -⟩ := ho5.slice
                  subst hvR
                  have HO5 := Hid.in (ho5.low (Nat.le_trans HSZ.out HQ.out.size))
                  replace HA := Hid.in (HA.out.grow hb5)
                  replace HB := Hid.in (HB.out.grow hb5)
                  replace HQ := Hid.in (below_step HQ.out hb5)
                  refine hK.out _ _ (regrown_of_below HQ.out) (fun _ => ?_)
                  clear hK K ho5 hb5
                  refine wpAnyG_takeW (i := 9) (v := .tuple #[.agg #[.int .u32 s0, .int .u32 s1, .int .u32 s2, .int .u32 s3, .int .u32 s4, .int .u32 s5, .int .u32 s6, .int .u32 s7, .slice pR S9.length cR], .agg #[.int .u32 nx, .bool hal, .int .i64 fl, .bool ou, .bool stt, .int .u32 at_, .int .u32 va]]) rfl (by kernel_rfl) (by kernel_rfl) (by kernel_rfl) (fun _ _ _ h => h) (((((Closed.picked (ex := [14, 15]) (List.range 7) _ (by kernel_rfl) (Closed.start _)).step (j := 12) (by kernel_rfl)).step (j := 7) (by kernel_rfl)).step (j := 13) (by kernel_rfl)).step (j := 8) (by kernel_rfl)) (by kernel_rfl) (fun W => by go_simp) ?_
                  refine wpAnyG_takeW (i := 10) (v := .agg #[.int .u32 s0, .int .u32 s1, .int .u32 s2, .int .u32 s3, .int .u32 s4, .int .u32 s5, .int .u32 s6, .int .u32 s7, .slice pR S9.length cR]) rfl (by kernel_rfl) (by kernel_rfl) (by kernel_rfl) (fun _ _ _ h => h) ((((((Closed.picked (ex := [14, 15]) (List.range 7) _ (by kernel_rfl) (Closed.start _)).step (j := 12) (by kernel_rfl)).step (j := 7) (by kernel_rfl)).step (j := 13) (by kernel_rfl)).step (j := 8) (by kernel_rfl)).step (j := 9) (by kernel_rfl)) (by kernel_rfl) (fun W => by go_simp) ?_
                  refine wpAnyG_takeW (i := 11) (v := .agg #[.int .u32 nx, .bool hal, .int .i64 fl, .bool ou, .bool stt, .int .u32 at_, .int .u32 va]) rfl (by kernel_rfl) (by kernel_rfl) (by kernel_rfl) (fun _ _ _ h => h) (((((((Closed.picked (ex := [14, 15]) (List.range 7) _ (by kernel_rfl) (Closed.start _)).step (j := 12) (by kernel_rfl)).step (j := 7) (by kernel_rfl)).step (j := 13) (by kernel_rfl)).step (j := 8) (by kernel_rfl)).step (j := 9) (by kernel_rfl)).step (j := 10) (by kernel_rfl)) (by kernel_rfl) (fun W => by go_simp) ?_
                  go_simp
                  refine wpAnyG_last (i := 14) (by kernel_rfl) rfl rfl (fun K hK => ?_)
                  refine oper_store HA.out (by rfl) 47 _ _ (by rfl) (by rfl) (by rfl) [.int .u32 s0, .int .u32 s1, .int .u32 s2, .int .u32 s3, .int .u32 s4, .int .u32 s5, .int .u32 s6, .int .u32 s7, .slice pR S9.length cR] (by rfl) Tryz.sz47 rfl rfl ?_
                  intro wA hbA hgA
                  refine hK.out _ _ ?_
                  clear hK K
                  have HB1 := Hid.in (HB.out.kept hgA (by intro e; injection e with e; exact blk_ne HA.out HB.out (by decide) e.symm))
                  refine wpAnyG_last (i := 15) (by kernel_rfl) rfl rfl (fun K hK => ?_)
                  refine oper_store HB1.out (by rfl) 121 _ _ (by rfl) (by rfl) (by rfl) [.int .u32 nx, .bool hal, .int .i64 fl, .bool ou, .bool stt, .int .u32 at_, .int .u32 va] (by rfl) Tryz.sz121 rfl rfl ?_
                  intro wB hbB hgB
                  refine hK.out _ _ ?_
                  clear hK K
                  have HF := Hid.in (fin121 HA.out HB.out HO5.out HQ.out HGA.out HGB.out hbA hgA hbB hgB)
                  clear hbA hgA hbB hgB HB1 HA HB HO5 HQ
                  refine wpAnyG_done (by kernel_rfl) ?_ _
                  refine NoPanic.normal ?_
                  go_wp2_with fail
                  go_meet
                  case rel => exact ⟨_, _, pR, cR, rfl, rfl, HF.out⟩
          · as_aux_lemma =>
              go_simp
              refine hK.out _ _ (regrown_of_below (below_alloc HQ.out _)) (fun _ => ?_)
              clear hK K
              have HB := Hid.in (Blk.new w32 121 #[.int .u32 0, .bool false, .int .i64 0, .bool false, .bool false, .int .u32 0, .int .u32 0])
              have HGB : Hid (w4.heap.size ≤ w32.heap.size) := HQ.out.size
              replace HA := Hid.in (HA.out.grow (new_alloc w32 (.cells #[.int .u32 0, .bool false, .int .i64 0, .bool false, .bool false, .int .u32 0, .int .u32 0] 121)))
              replace HQ := Hid.in (below_alloc HQ.out (.cells #[.int .u32 0, .bool false, .int .i64 0, .bool false, .bool false, .int .u32 0, .int .u32 0] 121))
              generalize w32.alloc (.cells #[.int .u32 0, .bool false, .int .i64 0, .bool false, .bool false, .int .u32 0, .int .u32 0] 121) = w38 at *
              refine wpAnyG_one (i := 7) (by kernel_rfl) rfl (fun K hK => ?_)
              go_simp
              go_at_call 59
              refine (hDat _ HQ.out).mono ?_
              rintro e_ w39 ⟨vD, rfl, hoD, hbD⟩
              obtain ⟨pD, cD, hvD, hrD, -⟩ := hoD.slice
              subst hvD
              have HRD := Hid.in hrD
              replace HA := Hid.in (HA.out.grow hbD)
              replace HB := Hid.in (HB.out.grow hbD)
              replace HQ := Hid.in (below_step HQ.out hbD)
              refine hK.out _ _ (regrown_of_below HQ.out) (fun _ => ?_)
              clear hK K hoD hrD hbD
              refine wpAnyG_one (i := 8) (by kernel_rfl) rfl (fun K hK => ?_)
              go_simp
              go_at_call 58
              refine (hDo _ pD cD HQ.out HRD.out).mono ?_
              rintro e_ w40 ⟨⟨v5, rfl, ho5⟩, hb5⟩
              obtain ⟨pR, cR, hvR, -, -⟩ := ho5.slice
              subst hvR
              have HO5 := Hid.in (ho5.low (Nat.le_trans HSZ.out HQ.out.size))
              replace HA := Hid.in (HA.out.grow hb5)
              replace HB := Hid.in (HB.out.grow hb5)
              replace HQ := Hid.in (below_step HQ.out hb5)
              refine hK.out _ _ (regrown_of_below HQ.out) (fun _ => ?_)
              clear hK K ho5 hb5
              refine wpAnyG_takeW (i := 9) (v := .tuple #[.agg #[.int .u32 s0, .int .u32 s1, .int .u32 s2, .int .u32 s3, .int .u32 s4, .int .u32 s5, .int .u32 s6, .int .u32 s7, .slice pR S9.length cR], .agg #[.int .u32 nx, .bool hal, .int .i64 fl, .bool ou, .bool stt, .int .u32 at_, .int .u32 va]]) rfl (by kernel_rfl) (by kernel_rfl) (by kernel_rfl) (fun _ _ _ h => h) (((((Closed.picked (ex := [14, 15]) (List.range 7) _ (by kernel_rfl) (Closed.start _)).step (j := 12) (by kernel_rfl)).step (j := 13) (by kernel_rfl)).step (j := 7) (by kernel_rfl)).step (j := 8) (by kernel_rfl)) (by kernel_rfl) (fun W => by go_simp) ?_
              refine wpAnyG_takeW (i := 10) (v := .agg #[.int .u32 s0, .int .u32 s1, .int .u32 s2, .int .u32 s3, .int .u32 s4, .int .u32 s5, .int .u32 s6, .int .u32 s7, .slice pR S9.length cR]) rfl (by kernel_rfl) (by kernel_rfl) (by kernel_rfl) (fun _ _ _ h => h) ((((((Closed.picked (ex := [14, 15]) (List.range 7) _ (by kernel_rfl) (Closed.start _)).step (j := 12) (by kernel_rfl)).step (j := 13) (by kernel_rfl)).step (j := 7) (by kernel_rfl)).step (j := 8) (by kernel_rfl)).step (j := 9) (by kernel_rfl)) (by kernel_rfl) (fun W => by go_simp) ?_
              refine wpAnyG_takeW (i := 11) (v := .agg #[.int .u32 nx, .bool hal, .int .i64 fl, .bool ou, .bool stt, .int .u32 at_, .int .u32 va]) rfl (by kernel_rfl) (by kernel_rfl) (by kernel_rfl) (fun _ _ _ h => h) (((((((Closed.picked (ex := [14, 15]) (List.range 7) _ (by kernel_rfl) (Closed.start _)).step (j := 12) (by kernel_rfl)).step (j := 13) (by kernel_rfl)).step (j := 7) (by kernel_rfl)).step (j := 8) (by kernel_rfl)).step (j := 9) (by kernel_rfl)).step (j := 10) (by kernel_rfl)) (by kernel_rfl) (fun W => by go_simp) ?_
              go_simp
              refine wpAnyG_last (i := 14) (by kernel_rfl) rfl rfl (fun K hK => ?_)
              refine oper_store HA.out (by rfl) 47 _ _ (by rfl) (by rfl) (by rfl) [.int .u32 s0, .int .u32 s1, .int .u32 s2, .int .u32 s3, .int .u32 s4, .int .u32 s5, .int .u32 s6, .int .u32 s7, .slice pR S9.length cR] (by rfl) Tryz.sz47 rfl rfl ?_
              intro wA hbA hgA
              refine hK.out _ _ ?_
              clear hK K
              have HB1 := Hid.in (HB.out.kept hgA (by intro e; injection e with e; exact blk_ne HA.out HB.out (by decide) e.symm))
              refine wpAnyG_last (i := 15) (by kernel_rfl) rfl rfl (fun K hK => ?_)
              refine oper_store HB1.out (by rfl) 121 _ _ (by rfl) (by rfl) (by rfl) [.int .u32 nx, .bool hal, .int .i64 fl, .bool ou, .bool stt, .int .u32 at_, .int .u32 va] (by rfl) Tryz.sz121 rfl rfl ?_
              intro wB hbB hgB
              refine hK.out _ _ ?_
              clear hK K
              have HF := Hid.in (fin121 HA.out HB.out HO5.out HQ.out HGA.out HGB.out hbA hgA hbB hgB)
              clear hbA hgA hbB hgB HB1 HA HB HO5 HQ
              refine wpAnyG_done (by kernel_rfl) ?_ _
              refine NoPanic.normal ?_
              go_wp2_with fail
              go_meet
              case rel => exact ⟨_, _, pR, cR, rfl, rfl, HF.out⟩
      ·   skip
          go_simp
          refine hK.out _ _ (regrown_of_below (below_alloc HQ.out _)) (fun _ => ?_)
          clear hK K
          have HB := Hid.in (Blk.new w5 121 #[.int .u32 0, .bool false, .int .i64 0, .bool false, .bool false, .int .u32 0, .int .u32 0])
          have HGB : Hid (w4.heap.size ≤ w5.heap.size) := HQ.out.size
          replace HQ := Hid.in (below_alloc HQ.out (.cells #[.int .u32 0, .bool false, .int .i64 0, .bool false, .bool false, .int .u32 0, .int .u32 0] 121))
          generalize w5.alloc (.cells #[.int .u32 0, .bool false, .int .i64 0, .bool false, .bool false, .int .u32 0, .int .u32 0] 121) = w41 at *
          refine wpAnyG_two (i := 7) (j := 12) (by kernel_rfl) rfl rfl (fun K hK => ?_) (fun K hK => ?_)
          ·   skip
              go_simp
              go_at_call 59
              refine (hDat _ HQ.out).mono ?_
              rintro e_ w42 ⟨vD, rfl, hoD, hbD⟩
              obtain ⟨pD, cD, hvD, hrD, -⟩ := hoD.slice
              subst hvD
              have HRD := Hid.in hrD
              replace HB := Hid.in (HB.out.grow hbD)
              replace HQ := Hid.in (below_step HQ.out hbD)
              refine hK.out _ _ (regrown_of_below HQ.out) (fun _ => ?_)
              clear hK K hoD hrD hbD
              refine wpAnyG_two (i := 8) (j := 12) (by kernel_rfl) rfl rfl (fun K hK => ?_) (fun K hK => ?_)
              · as_aux_lemma =>
                  go_simp
                  go_at_call 58
                  refine (hDo _ pD cD HQ.out HRD.out).mono ?_
                  rintro e_ w43 ⟨⟨v5, rfl, ho5⟩, hb5⟩
                  obtain ⟨pR, cR, hvR, -, -⟩ := ho5.slice
                  subst hvR
                  have HO5 := Hid.in (ho5.low (Nat.le_trans HSZ.out HQ.out.size))
                  replace HB := Hid.in (HB.out.grow hb5)
                  replace HQ := Hid.in (below_step HQ.out hb5)
                  refine hK.out _ _ (regrown_of_below HQ.out) (fun _ => ?_)
                  clear hK K ho5 hb5
                  refine wpAnyG_takeW (i := 9) (v := .tuple #[.agg #[.int .u32 s0, .int .u32 s1, .int .u32 s2, .int .u32 s3, .int .u32 s4, .int .u32 s5, .int .u32 s6, .int .u32 s7, .slice pR S9.length cR], .agg #[.int .u32 nx, .bool hal, .int .i64 fl, .bool ou, .bool stt, .int .u32 at_, .int .u32 va]]) rfl (by kernel_rfl) (by kernel_rfl) (by kernel_rfl) (fun _ _ _ h => h) ((((Closed.picked (ex := [14, 15]) (List.range 7) _ (by kernel_rfl) (Closed.start _)).step (j := 13) (by kernel_rfl)).step (j := 7) (by kernel_rfl)).step (j := 8) (by kernel_rfl)) (by kernel_rfl) (fun W => by go_simp) ?_
                  refine wpAnyG_takeW (i := 10) (v := .agg #[.int .u32 s0, .int .u32 s1, .int .u32 s2, .int .u32 s3, .int .u32 s4, .int .u32 s5, .int .u32 s6, .int .u32 s7, .slice pR S9.length cR]) rfl (by kernel_rfl) (by kernel_rfl) (by kernel_rfl) (fun _ _ _ h => h) (((((Closed.picked (ex := [14, 15]) (List.range 7) _ (by kernel_rfl) (Closed.start _)).step (j := 13) (by kernel_rfl)).step (j := 7) (by kernel_rfl)).step (j := 8) (by kernel_rfl)).step (j := 9) (by kernel_rfl)) (by kernel_rfl) (fun W => by go_simp) ?_
                  refine wpAnyG_takeW (i := 11) (v := .agg #[.int .u32 nx, .bool hal, .int .i64 fl, .bool ou, .bool stt, .int .u32 at_, .int .u32 va]) rfl (by kernel_rfl) (by kernel_rfl) (by kernel_rfl) (fun _ _ _ h => h) ((((((Closed.picked (ex := [14, 15]) (List.range 7) _ (by kernel_rfl) (Closed.start _)).step (j := 13) (by kernel_rfl)).step (j := 7) (by kernel_rfl)).step (j := 8) (by kernel_rfl)).step (j := 9) (by kernel_rfl)).step (j := 10) (by kernel_rfl)) (by kernel_rfl) (fun W => by go_simp) ?_
                  refine wpAnyG_one (i := 12) (by kernel_rfl) rfl (fun K hK => ?_)
                  go_simp
                  refine hK.out _ _ (regrown_of_below (below_alloc HQ.out _)) (fun _ => ?_)
                  clear hK K
                  have HA := Hid.in (Blk.new w43 47 #[.int .u32 0, .int .u32 0, .int .u32 0, .int .u32 0, .int .u32 0, .int .u32 0, .int .u32 0, .int .u32 0, .slice none 0 0])
                  have HGA : Hid (w4.heap.size ≤ w43.heap.size) := HQ.out.size
                  replace HB := Hid.in (HB.out.grow (new_alloc w43 (.cells #[.int .u32 0, .int .u32 0, .int .u32 0, .int .u32 0, .int .u32 0, .int .u32 0, .int .u32 0, .int .u32 0, .slice none 0 0] 47)))
                  replace HO5 := Hid.in (HO5.out.alloc (.cells #[.int .u32 0, .int .u32 0, .int .u32 0, .int .u32 0, .int .u32 0, .int .u32 0, .int .u32 0, .int .u32 0, .slice none 0 0] 47))
                  replace HQ := Hid.in (below_alloc HQ.out (.cells #[.int .u32 0, .int .u32 0, .int .u32 0, .int .u32 0, .int .u32 0, .int .u32 0, .int .u32 0, .int .u32 0, .slice none 0 0] 47))
                  generalize w43.alloc (.cells #[.int .u32 0, .int .u32 0, .int .u32 0, .int .u32 0, .int .u32 0, .int .u32 0, .int .u32 0, .int .u32 0, .slice none 0 0] 47) = w44 at *
                  refine wpAnyG_last (i := 14) (by kernel_rfl) rfl rfl (fun K hK => ?_)
                  refine oper_store HA.out (by rfl) 47 _ _ (by rfl) (by rfl) (by rfl) [.int .u32 s0, .int .u32 s1, .int .u32 s2, .int .u32 s3, .int .u32 s4, .int .u32 s5, .int .u32 s6, .int .u32 s7, .slice pR S9.length cR] (by rfl) Tryz.sz47 rfl rfl ?_
                  intro wA hbA hgA
                  refine hK.out _ _ ?_
                  clear hK K
                  have HB1 := Hid.in (HB.out.kept hgA (by intro e; injection e with e; exact blk_ne HA.out HB.out (by decide) e.symm))
                  refine wpAnyG_last (i := 15) (by kernel_rfl) rfl rfl (fun K hK => ?_)
                  refine oper_store HB1.out (by rfl) 121 _ _ (by rfl) (by rfl) (by rfl) [.int .u32 nx, .bool hal, .int .i64 fl, .bool ou, .bool stt, .int .u32 at_, .int .u32 va] (by rfl) Tryz.sz121 rfl rfl ?_
                  intro wB hbB hgB
                  refine hK.out _ _ ?_
                  clear hK K
                  have HF := Hid.in (fin121 HA.out HB.out HO5.out HQ.out HGA.out HGB.out hbA hgA hbB hgB)
                  clear hbA hgA hbB hgB HB1 HA HB HO5 HQ
                  refine wpAnyG_done (by kernel_rfl) ?_ _
                  refine NoPanic.normal ?_
                  go_wp2_with fail
                  go_meet
                  case rel => exact ⟨_, _, pR, cR, rfl, rfl, HF.out⟩
              · as_aux_lemma =>
                  go_simp
                  refine hK.out _ _ (regrown_of_below (below_alloc HQ.out _)) (fun _ => ?_)
                  clear hK K
                  have HA := Hid.in (Blk.new w42 47 #[.int .u32 0, .int .u32 0, .int .u32 0, .int .u32 0, .int .u32 0, .int .u32 0, .int .u32 0, .int .u32 0, .slice none 0 0])
                  have HGA : Hid (w4.heap.size ≤ w42.heap.size) := HQ.out.size
                  replace HB := Hid.in (HB.out.grow (new_alloc w42 (.cells #[.int .u32 0, .int .u32 0, .int .u32 0, .int .u32 0, .int .u32 0, .int .u32 0, .int .u32 0, .int .u32 0, .slice none 0 0] 47)))
                  replace HRD := Hid.in (HRD.out.below (new_alloc w42 (.cells #[.int .u32 0, .int .u32 0, .int .u32 0, .int .u32 0, .int .u32 0, .int .u32 0, .int .u32 0, .int .u32 0, .slice none 0 0] 47)))
                  replace HQ := Hid.in (below_alloc HQ.out (.cells #[.int .u32 0, .int .u32 0, .int .u32 0, .int .u32 0, .int .u32 0, .int .u32 0, .int .u32 0, .int .u32 0, .slice none 0 0] 47))
                  generalize w42.alloc (.cells #[.int .u32 0, .int .u32 0, .int .u32 0, .int .u32 0, .int .u32 0, .int .u32 0, .int .u32 0, .int .u32 0, .slice none 0 0] 47) = w45 at *
                  refine wpAnyG_one (i := 8) (by kernel_rfl) rfl (fun K hK => ?_)
                  go_simp
                  go_at_call 58
                  refine (hDo _ pD cD HQ.out HRD.out).mono ?_
                  rintro e_ w46 ⟨⟨v5, rfl, ho5⟩, hb5⟩
                  obtain ⟨pR, cR, hvR, -, -⟩ := ho5.slice
                  subst hvR
                  have HO5 := Hid.in (ho5.low (Nat.le_trans HSZ.out HQ.out.size))
                  replace HA := Hid.in (HA.out.grow hb5)
                  replace HB := Hid.in (HB.out.grow hb5)
                  replace HQ := Hid.in (below_step HQ.out hb5)
                  refine hK.out _ _ (regrown_of_below HQ.out) (fun _ => ?_)
                  clear hK K ho5 hb5
                  refine wpAnyG_takeW (i := 9) (v := .tuple #[.agg #[.int .u32 s0, .int .u32 s1, .int .u32 s2, .int .u32 s3, .int .u32 s4, .int .u32 s5, .int .u32 s6, .int .u32 s7, .slice pR S9.length cR], .agg #[.int .u32 nx, .bool hal, .int .i64 fl, .bool ou, .bool stt, .int .u32 at_, .int .u32 va]]) rfl (by kernel_rfl) (by kernel_rfl) (by kernel_rfl) (fun _ _ _ h => h) (((((Closed.picked (ex := [14, 15]) (List.range 7) _ (by kernel_rfl) (Closed.start _)).step (j := 13) (by kernel_rfl)).step (j := 7) (by kernel_rfl)).step (j := 12) (by kernel_rfl)).step (j := 8) (by kernel_rfl)) (by kernel_rfl) (fun W => by go_simp) ?_
                  refine wpAnyG_takeW (i := 10) (v := .agg #[.int .u32 s0, .int .u32 s1, .int .u32 s2, .int .u32 s3, .int .u32 s4, .int .u32 s5, .int .u32 s6, .int .u32 s7, .slice pR S9.length cR]) rfl (by kernel_rfl) (by kernel_rfl) (by kernel_rfl) (fun _ _ _ h => h) ((((((Closed.picked (ex := [14, 15]) (List.range 7) _ (by kernel_rfl) (Closed.start _)).step (j := 13) (by kernel_rfl)).step (j := 7) (by kernel_rfl)).step (j := 12) (by kernel_rfl)).step (j := 8) (by kernel_rfl)).step (j := 9) (by kernel_rfl)) (by kernel_rfl) (fun W => by go_simp) ?_
                  refine wpAnyG_takeW (i := 11) (v := .agg #[.int .u32 nx, .bool hal, .int .i64 fl, .bool ou, .bool stt, .int .u32 at_, .int .u32 va]) rfl (by kernel_rfl) (by kernel_rfl) (by kernel_rfl) (fun _ _ _ h => h) (((((((Closed.picked (ex := [14, 15]) (List.range 7) _ (by kernel_rfl) (Closed.start _)).step (j := 13) (by kernel_rfl)).step (j := 7) (by kernel_rfl)).step (j := 12) (by kernel_rfl)).step (j := 8) (by kernel_rfl)).step (j := 9) (by kernel_rfl)).step (j := 10) (by kernel_rfl)) (by kernel_rfl) (fun W => by go_simp) ?_
                  go_simp
                  refine wpAnyG_last (i := 14) (by kernel_rfl) rfl rfl (fun K hK => ?_)
                  refine oper_store HA.out (by rfl) 47 _ _ (by rfl) (by rfl) (by rfl) [.int .u32 s0, .int .u32 s1, .int .u32 s2, .int .u32 s3, .int .u32 s4, .int .u32 s5, .int .u32 s6, .int .u32 s7, .slice pR S9.length cR] (by rfl) Tryz.sz47 rfl rfl ?_
                  intro wA hbA hgA
                  refine hK.out _ _ ?_
                  clear hK K
                  have HB1 := Hid.in (HB.out.kept hgA (by intro e; injection e with e; exact blk_ne HA.out HB.out (by decide) e.symm))
                  refine wpAnyG_last (i := 15) (by kernel_rfl) rfl rfl (fun K hK => ?_)
                  refine oper_store HB1.out (by rfl) 121 _ _ (by rfl) (by rfl) (by rfl) [.int .u32 nx, .bool hal, .int .i64 fl, .bool ou, .bool stt, .int .u32 at_, .int .u32 va] (by rfl) Tryz.sz121 rfl rfl ?_
                  intro wB hbB hgB
                  refine hK.out _ _ ?_
                  clear hK K
                  have HF := Hid.in (fin121 HA.out HB.out HO5.out HQ.out HGA.out HGB.out hbA hgA hbB hgB)
                  clear hbA hgA hbB hgB HB1 HA HB HO5 HQ
                  refine wpAnyG_done (by kernel_rfl) ?_ _
                  refine NoPanic.normal ?_
                  go_wp2_with fail
                  go_meet
                  case rel => exact ⟨_, _, pR, cR, rfl, rfl, HF.out⟩
          · as_aux_lemma =>
              go_simp
              refine hK.out _ _ (regrown_of_below (below_alloc HQ.out _)) (fun _ => ?_)
              clear hK K
              have HA := Hid.in (Blk.new w41 47 #[.int .u32 0, .int .u32 0, .int .u32 0, .int .u32 0, .int .u32 0, .int .u32 0, .int .u32 0, .int .u32 0, .slice none 0 0])
              have HGA : Hid (w4.heap.size ≤ w41.heap.size) := HQ.out.size
              replace HB := Hid.in (HB.out.grow (new_alloc w41 (.cells #[.int .u32 0, .int .u32 0, .int .u32 0, .int .u32 0, .int .u32 0, .int .u32 0, .int .u32 0, .int .u32 0, .slice none 0 0] 47)))
              replace HQ := Hid.in (below_alloc HQ.out (.cells #[.int .u32 0, .int .u32 0, .int .u32 0, .int .u32 0, .int .u32 0, .int .u32 0, .int .u32 0, .int .u32 0, .slice none 0 0] 47))
              generalize w41.alloc (.cells #[.int .u32 0, .int .u32 0, .int .u32 0, .int .u32 0, .int .u32 0, .int .u32 0, .int .u32 0, .int .u32 0, .slice none 0 0] 47) = w47 at *
              refine wpAnyG_one (i := 7) (by kernel_rfl) rfl (fun K hK => ?_)
              go_simp
              go_at_call 59
              refine (hDat _ HQ.out).mono ?_
              rintro e_ w48 ⟨vD, rfl, hoD, hbD⟩
              obtain ⟨pD, cD, hvD, hrD, -⟩ := hoD.slice
              subst hvD
              have HRD := Hid.in hrD
              replace HA := Hid.in (HA.out.grow hbD)
              replace HB := Hid.in (HB.out.grow hbD)
              replace HQ := Hid.in (below_step HQ.out hbD)
              refine hK.out _ _ (regrown_of_below HQ.out) (fun _ => ?_)
              clear hK K hoD hrD hbD
              refine wpAnyG_one (i := 8) (by kernel_rfl) rfl (fun K hK => ?_)
              go_simp
              go_at_call 58
              refine (hDo _ pD cD HQ.out HRD.out).mono ?_
              rintro e_ w49 ⟨⟨v5, rfl, ho5⟩, hb5⟩
              obtain ⟨pR, cR, hvR, -, -⟩ := ho5.slice
              subst hvR
              have HO5 := Hid.in (ho5.low (Nat.le_trans HSZ.out HQ.out.size))
              replace HA := Hid.in (HA.out.grow hb5)
              replace HB := Hid.in (HB.out.grow hb5)
              replace HQ := Hid.in (below_step HQ.out hb5)
              refine hK.out _ _ (regrown_of_below HQ.out) (fun _ => ?_)
              clear hK K ho5 hb5
              refine wpAnyG_takeW (i := 9) (v := .tuple #[.agg #[.int .u32 s0, .int .u32 s1, .int .u32 s2, .int .u32 s3, .int .u32 s4, .int .u32 s5, .int .u32 s6, .int .u32 s7, .slice pR S9.length cR], .agg #[.int .u32 nx, .bool hal, .int .i64 fl, .bool ou, .bool stt, .int .u32 at_, .int .u32 va]]) rfl (by kernel_rfl) (by kernel_rfl) (by kernel_rfl) (fun _ _ _ h => h) (((((Closed.picked (ex := [14, 15]) (List.range 7) _ (by kernel_rfl) (Closed.start _)).step (j := 13) (by kernel_rfl)).step (j := 12) (by kernel_rfl)).step (j := 7) (by kernel_rfl)).step (j := 8) (by kernel_rfl)) (by kernel_rfl) (fun W => by go_simp) ?_
              refine wpAnyG_takeW (i := 10) (v := .agg #[.int .u32 s0, .int .u32 s1, .int .u32 s2, .int .u32 s3, .int .u32 s4, .int .u32 s5, .int .u32 s6, .int .u32 s7, .slice pR S9.length cR]) rfl (by kernel_rfl) (by kernel_rfl) (by kernel_rfl) (fun _ _ _ h => h) ((((((Closed.picked (ex := [14, 15]) (List.range 7) _ (by kernel_rfl) (Closed.start _)).step (j := 13) (by kernel_rfl)).step (j := 12) (by kernel_rfl)).step (j := 7) (by kernel_rfl)).step (j := 8) (by kernel_rfl)).step (j := 9) (by kernel_rfl)) (by kernel_rfl) (fun W => by go_simp) ?_
              refine wpAnyG_takeW (i := 11) (v := .agg #[.int .u32 nx, .bool hal, .int .i64 fl, .bool ou, .bool stt, .int .u32 at_, .int .u32 va]) rfl (by kernel_rfl) (by kernel_rfl) (by kernel_rfl) (fun _ _ _ h => h) (((((((Closed.picked (ex := [14, 15]) (List.range 7) _ (by kernel_rfl) (Closed.start _)).step (j := 13) (by kernel_rfl)).step (j := 12) (by kernel_rfl)).step (j := 7) (by kernel_rfl)).step (j := 8) (by kernel_rfl)).step (j := 9) (by kernel_rfl)).step (j := 10) (by kernel_rfl)) (by kernel_rfl) (fun W => by go_simp) ?_
              go_simp
              refine wpAnyG_last (i := 14) (by kernel_rfl) rfl rfl (fun K hK => ?_)
              refine oper_store HA.out (by rfl) 47 _ _ (by rfl) (by rfl) (by rfl) [.int .u32 s0, .int .u32 s1, .int .u32 s2, .int .u32 s3, .int .u32 s4, .int .u32 s5, .int .u32 s6, .int .u32 s7, .slice pR S9.length cR] (by rfl) Tryz.sz47 rfl rfl ?_
              intro wA hbA hgA
              refine hK.out _ _ ?_
              clear hK K
              have HB1 := Hid.in (HB.out.kept hgA (by intro e; injection e with e; exact blk_ne HA.out HB.out (by decide) e.symm))
              refine wpAnyG_last (i := 15) (by kernel_rfl) rfl rfl (fun K hK => ?_)
              refine oper_store HB1.out (by rfl) 121 _ _ (by rfl) (by rfl) (by rfl) [.int .u32 nx, .bool hal, .int .i64 fl, .bool ou, .bool stt, .int .u32 at_, .int .u32 va] (by rfl) Tryz.sz121 rfl rfl ?_
              intro wB hbB hgB
              refine hK.out _ _ ?_
              clear hK K
              have HF := Hid.in (fin121 HA.out HB.out HO5.out HQ.out HGA.out HGB.out hbA hgA hbB hgB)
              clear hbA hgA hbB hgB HB1 HA HB HO5 HQ
              refine wpAnyG_done (by kernel_rfl) ?_ _
              refine NoPanic.normal ?_
              go_wp2_with fail
              go_meet
              case rel => exact ⟨_, _, pR, cR, rfl, rfl, HF.out⟩
  case rest =>
      obtain ⟨gr, gx, pR, cR, rfl, rfl, hgr, hgx, hown, hbel, -, -⟩ := hcut
      refine ‹∀ (a : Act) (w : World), Code.wp Tryz.prog _ _ a w → _› _ _ ?_
      exact rstepH_rest id p8 d xs w G hxl pc S L hpc pS cS pL cL r0 r1 r2 r3 r4 r5 r6 r7 pH cH hv HS HX HXO HO5 HGG n le on an bn S9 nx hal fl ou stt at_ va HST u1 u2 u3 u4 s0 s1 s2 s3 s4 s5 s6 s7 w4 HA4 HZ4 HN4 gi HI4 wc gr gx pR cR hgr hgx hown hbel _ _ _ _ _ _ _ _ _ _ _ _ _ _ _ _ _ _ _ _ _ _ _ _ _ _ _ _ _ _ _ _ _ _ _ _ _ _ _ _ _ _ _ _ _ _ _ _ _ _ _ _ _ _ _ _ _ _ _ _ _ _ _ _ _ _ _ _ _ _ _ _ _ _ _ _ _ _ _ _ _ _ _ _ _ _ _ _ _ _ _ _ _ _ _ _ _ _ _ _ _ _ _ _ _ _ _ _ _ _ _ _ _ _ _ _ _ _ _ _ _ _ _ _ _ _ _ _ _ _ _ _ _ _ _ _ _ _ _ _ _ _ _ _ _ _ _ _ _ _ _ _ _ _ _ _ _ _ _ _ _ _ _ _ _ _ _ _ _ _ _ _ _ _ _ _ _ _ _ _ _ _ _ _ _ _ _ _ _ _ _ _ _ _ _ _ _ _ _ _ _ _ _ _ _ _ _ _ _
end Go.Proofs.YtnpaijbkhmnfpaaGreat
