/- switchyardlaw07.SymbolsNumbers: true. -/
import Derived.Test.YtnmcdkhfjkpklaaNumC
import Derived.Deep.CutRange
namespace Go.Proofs.Ytnmcdkhfjkpklaa
open Go.RowKit

set_option maxRecDepth 20000 in
set_option maxHeartbeats 40000000 in
theorem numbers_walk (w : World) : Calls Try.prog 3 #[] w fun E w' => E = .returned (.bool true) ∧ Below w.heap.size w w' := by
  obtain ⟨nb, hnb⟩ : ∃ nb : Nat, nb = 65533 := ⟨_, rfl⟩
  obtain ⟨nc, hnc⟩ : ∃ nc : Nat, nc = 65536 := ⟨_, rfl⟩
  have HNB := Hid.in hnb
  have HNC := Hid.in hnc
  clear hnb hnc
  go_enter Try.func3, Try.ntmps3
  go_wp2_with (go_at_call 10; refine Hid.out ?_)
  refine Lib.hid ?_
  refine (two_any w).mono ?_
  rintro E w1 ⟨p1, rfl, hu1, hb1⟩
  have HB1 := Hid.in (hb1)
  clear hb1
  go_wp2_with (go_at_call 9; refine Hid.out ?_)
  refine Lib.hid ?_
  refine (two_table p1 w1 hu1).mono ?_
  rintro E w2 ⟨q2, d2, q3, d3, rfl, hr2, hr3, hb2⟩
  have HB2 := Hid.in (below_step HB1.out hb2)
  have HR2 := Hid.in hr3
  clear hr2 hr3 hu1
  clear hb2
  go_wp2_with (go_at_call 11; refine Hid.out ?_)
  refine Lib.hid ?_
  refine (find_is q3 4 d3 tabTwo ⟨#[98]⟩ 9 true w2 rfl (by decide) HR2.out ⟨by rw [find_b]; rfl, by rw [find_b]; rfl⟩).mono ?_
  rintro E w3 ⟨rfl, hb3⟩
  have HB3 := Hid.in (below_step HB2.out hb3)
  have HR3 := Hid.in (HR2.out.below hb3)
  clear hb3
  go_wp2_with (go_at_call 11; refine Hid.out ?_)
  refine Lib.hid ?_
  refine (find_is q3 4 d3 tabTwo ⟨#[99]⟩ 0 false w3 rfl (by decide) HR3.out ⟨by rw [find_c]; rfl, by rw [find_c]; rfl⟩).mono ?_
  rintro E w4 ⟨rfl, hb4⟩
  have HB4 := Hid.in (below_step HB3.out hb4)
  clear HR2 HR3
  clear hb4
  go_wp2_with (go_at_call 10; refine Hid.out ?_)
  refine Lib.hid ?_
  refine (two_any w4).mono ?_
  rintro E w5 ⟨p5, rfl, hu5, hb5⟩
  have HB5 := Hid.in (below_step HB4.out hb5)
  clear hb5
  go_wp2_with (go_at_call 12; refine Hid.out ?_)
  refine Lib.hid ?_
  refine (res_is p5 2 2 [twoA, twoB] 1 ⟨#[97]⟩ 0 0 w5 rfl (by decide) hu5 res_1a).mono ?_
  rintro E w6 ⟨rfl, hb6⟩
  have HB6 := Hid.in (below_step HB5.out hb6)
  clear hu5
  clear hb6
  go_wp2_with (go_at_call 10; refine Hid.out ?_)
  refine Lib.hid ?_
  refine (two_any w6).mono ?_
  rintro E w7 ⟨p7, rfl, hu7, hb7⟩
  have HB7 := Hid.in (below_step HB6.out hb7)
  clear hb7
  go_wp2_with (go_at_call 12; refine Hid.out ?_)
  refine Lib.hid ?_
  refine (res_is p7 2 2 [twoA, twoB] 0 ⟨#[99]⟩ 0 171 w7 rfl (by decide) hu7 res_0c).mono ?_
  rintro E w8 ⟨rfl, hb8⟩
  have HB8 := Hid.in (below_step HB7.out hb8)
  clear hu7
  clear hb8
  go_wp2_with (go_at_call 10; refine Hid.out ?_)
  refine Lib.hid ?_
  refine (two_any w8).mono ?_
  rintro E w9 ⟨p9, rfl, hu9, hb9⟩
  have HB9 := Hid.in (below_step HB8.out hb9)
  clear hb9
  go_wp2_with (go_at_call 12; refine Hid.out ?_)
  refine Lib.hid ?_
  refine (res_is p9 2 2 [twoA, twoB] 2 ⟨#[97]⟩ 0 2 w9 rfl (by decide) hu9 res_2a).mono ?_
  rintro E w10 ⟨rfl, hb10⟩
  have HB10 := Hid.in (below_step HB9.out hb10)
  clear hu9
  clear hb10
  go_wp2_with (go_at_call 10; refine Hid.out ?_)
  refine Lib.hid ?_
  refine (two_any w10).mono ?_
  rintro E w11 ⟨p11, rfl, hu11, hb11⟩
  have HB11 := Hid.in (below_step HB10.out hb11)
  clear hb11
  go_wp2_with (go_at_call 12; refine Hid.out ?_)
  refine Lib.hid ?_
  refine (res_is p11 2 2 [twoA, twoB] (-1) ⟨#[97]⟩ 0 2 w11 rfl (by decide) hu11 res_na).mono ?_
  rintro E w12 ⟨rfl, hb12⟩
  have HB12 := Hid.in (below_step HB11.out hb12)
  clear hu11
  clear hb12
  go_wp2_with (go_at_call 10; refine Hid.out ?_)
  refine Lib.hid ?_
  refine (two_blk w12).mono ?_
  rintro E w13 ⟨g1, g2, g3, g4, g5, rfl, hT, hb13⟩
  have HB13 := Hid.in (below_step HB12.out hb13)
  have HT := Hid.in hT
  have HBL := Hid.in (Nat.le_trans HB12.out.size hT.l4)
  clear hb13 hT
  have t5 : w13.cell? ⟨g5, 5, none⟩ = some (.slice (some ⟨g4, 0, none⟩) 2 2) := HT.out.h5.cell 5
  have t43 : w13.cell? ⟨g4, 3, none⟩ = some (.string ⟨#[99]⟩) := HT.out.h4.cell 3
  have t45 : w13.cell? ⟨g4, 5, none⟩ = some (.bool false) := HT.out.h4.cell 5
  have f43 : w13.frozen? ⟨g4, 3, none⟩ = false := HT.out.h4.free 3
  have f45 : w13.frozen? ⟨g4, 5, none⟩ = false := HT.out.h4.free 5
  have n54 : g5 ≠ g4 := fun e => by have a := HT.out.h5; have b := HT.out.h4; unfold Blk at a b; rw [e, b] at a; cases a
  have n45 : g4 ≠ g5 := fun e => n54 e.symm
  go_upto_region 9 with fail
  go_region_held3 (fun W => W.cell? ⟨g5, 5, none⟩ = some (.slice (some ⟨g4, 0, none⟩) 2 2)) (first | go_keep) (fail)
  have HU14 : Hid (Units ((w13.setCell ⟨g4, 3, none⟩ (.string ⟨#[97]⟩)).setCell ⟨g4, 5, none⟩ (.bool true)).drew (some ⟨g5, 0, none⟩) [twoA, twoB2]) := (twice_units HT.out).below (below_draws (below_self _) 1)
  have HB14 : Hid (Below w.heap.size w ((w13.setCell ⟨g4, 3, none⟩ (.string ⟨#[97]⟩)).setCell ⟨g4, 5, none⟩ (.bool true)).drew) := below_draws ((HB13.out.setCell (p := ⟨g4, 3, none⟩) HBL.out (.string ⟨#[97]⟩)).setCell (p := ⟨g4, 5, none⟩) HBL.out (.bool true)) 1
  generalize ((w13.setCell ⟨g4, 3, none⟩ (.string ⟨#[97]⟩)).setCell ⟨g4, 5, none⟩ (.bool true)).drew = w14 at *
  clear t5 t43 t45 f43 f45 HT HBL
  go_wp2_with (go_at_call 9; refine Hid.out ?_)
  refine Lib.hid ?_
  refine (tab_err (some ⟨g5, 0, none⟩) 2 2 [twoA, twoB2] 170 1 w14 rfl (by decide) HU14.out tab_twice).mono ?_
  rintro E w15 ⟨r1, s1, r2, s2, rfl, hb15⟩
  have HB15 := Hid.in (below_step HB14.out hb15)
  have HU15 := Hid.in (HU14.out.below hb15)
  clear hb15 HU14
  go_wp2_with (go_at_call 12; refine Hid.out ?_)
  refine Lib.hid ?_
  refine (res_is (some ⟨g5, 0, none⟩) 2 2 [twoA, twoB2] 5 ⟨#[97]⟩ 0 170 w15 rfl (by decide) HU15.out res_twice).mono ?_
  rintro E w16 ⟨rfl, hb16⟩
  have HB16 := Hid.in (below_step HB15.out hb16)
  clear hb16 HU15 n54 n45
  go_upto_region 13 with fail
  have h27 := run_mk27
  go_upto_region 14 with fail
  clear h27
  have HU17 : Hid (Units (w16.alloc (.cells (madeCells noObj 68) 39)) (some ⟨w16.heap.size, 0, none⟩) (List.replicate 17 noOb)) := units_made (n := 68) (Blk.new w16 39 _) (fun j h => made_no 68 j h) (by decide)
  have HV17 : Hid (Units (w16.alloc (.cells (madeCells noObj 68) 39)) (some ⟨w16.heap.size, 0, none⟩) (List.replicate 16 noOb)) := units_made (n := 68) (Blk.new w16 39 _) (fun j h => made_no 68 j h) (by decide)
  have HB17 : Hid (Below w.heap.size w (w16.alloc (.cells (madeCells noObj 68) 39))) := below_alloc HB16.out _
  generalize w16.alloc (.cells (madeCells noObj 68) 39) = w17 at *
  generalize w16.heap.size = gz at *
  go_wp2_with (go_at_call 9; refine Hid.out ?_)
  refine Lib.hid ?_
  refine (tab_err (some ⟨gz, 0, none⟩) 17 17 (List.replicate 17 noOb) 3 0 w17 rfl (by decide) HU17.out tab_17).mono ?_
  rintro E w18 ⟨r3, s3, r4, s4, rfl, hb18⟩
  have HB18 := Hid.in (below_step HB17.out hb18)
  have HV18 := Hid.in (HV17.out.below hb18)
  clear hb18 HU17 HV17
  go_wp2_with (go_at_call 9; refine Hid.out ?_)
  refine Lib.hid ?_
  refine (tab16_is (some ⟨gz, 0, none⟩) w18 HV18.out).mono ?_
  rintro E w19 ⟨r5, s5, r6, s6, rfl, hb19⟩
  have HB19 := Hid.in (below_step HB18.out hb19)
  clear hb19 HV18
  go_upto_region 16 with fail
  go_cut [34] from 196 to 201 (fun v34 wx => ∃ gf, v34 = .slice (some ⟨gf, 0, none⟩) 3 3 ∧ Units wx (some ⟨gf, 0, none⟩) [bigOb nb, noOb, bigOb 1] ∧ Below w.heap.size w wx)
  case first =>
    obtain ⟨Zb, hZb⟩ : ∃ Zb, Zb = madeCells #[.int .u8 0] nb := ⟨_, rfl⟩
    obtain ⟨Z1, hZ1⟩ : ∃ Z1, Z1 = madeCells #[.int .u8 0] 1 := ⟨_, rfl⟩
    have hmb := fun W => run_mkb nb HNB.out W
    have hm1 := run_mk1
    simp only [← hZ1] at hm1
    simp only [← hZb] at hmb
    have HZb : Hid (Zb.toList = List.replicate nb (.int .u8 0)) := by have h := toList_madeCells_one (.int .u8 0) nb; rw [← hZb] at h; exact h
    have HZ1 : Hid (Z1.toList = List.replicate 1 (.int .u8 0)) := by have h := toList_madeCells_one (.int .u8 0) 1; rw [← hZ1] at h; exact h
    clear hZb hZ1
    go_region_held3 (fun W => True) (trivial) (fail)
    all_goals clear hmb hm1
    all_goals go_wp2_with fail
    all_goals go_meet
    all_goals refine ⟨_, rfl, full_units d3_3 ?_ HZb.out ?_ HZ1.out (by have := HNB.out; omega), three_below HB19.out⟩
    all_goals first
      | exact d3_1
      | exact d3_2
  case rest =>
    obtain ⟨gf, rfl, hUf, hBf⟩ := hcut
    have HUf := Hid.in hUf
    have HB20 := Hid.in hBf
    clear hUf hBf HB19
    go_wp2_with (go_at_call 9; refine Hid.out ?_)
    refine Lib.hid ?_
    refine (tab_err (some ⟨gf, 0, none⟩) 3 3 [bigOb nb, noOb, bigOb 1] 3 2 wc rfl (by decide) HUf.out (tab_full3 nb HNB.out)).mono ?_
    rintro E w21 ⟨r7, s7, r8, s8, rfl, hb21⟩
    have HB21 := Hid.in (below_step HB20.out hb21)
    have HV21 : Hid (Units w21 (some ⟨gf, 0, none⟩) [bigOb nb, noOb]) := Units.ahead (B := [bigOb 1]) (HUf.out.below hb21)
    clear hb21 HUf HB20
    go_wp2_with (go_at_call 9; refine Hid.out ?_)
    refine Lib.hid ?_
    refine (full2_is (some ⟨gf, 0, none⟩) nb HNB.out w21 HV21.out).mono ?_
    rintro E w22 ⟨r9, s9, r10, s10, rfl, hr9, hb22⟩
    have HB22 := Hid.in (below_step HB21.out hb22)
    have HR22 := Hid.in hr9
    clear hb22 hr9 HV21 HB21
    go_wp2_with (go_at_call 13; refine Hid.out ?_)
    refine Lib.hid ?_
    refine (far_any ⟨#[97]⟩ true w22).mono ?_
    rintro E w23 ⟨h23, rfl, hk23, hb23⟩
    have HB23 := Hid.in (below_step HB22.out hb23)
    have HR23 := Hid.in (HR22.out.below hb23)
    have HK23 := Hid.in hk23
    clear hb23 HB22 HR22 hk23
    go_wp2_with (go_at_call 13; refine Hid.out ?_)
    refine Lib.hid ?_
    refine (far_any ⟨#[97]⟩ true w23).mono ?_
    rintro E w24 ⟨h24, rfl, hk24, hb24⟩
    have HB24 := Hid.in (below_step HB23.out hb24)
    have HR24 := Hid.in (HR23.out.below hb24)
    have HK24 := Hid.in hk24
    have HK23' := Hid.in (HK23.out.grow hb24)
    clear hb24 HB23 HR23 hk24 HK23
    go_wp2_with (go_at_call 9; refine Hid.out ?_)
    refine Lib.hid ?_
    refine (tab_err (some ⟨w24.heap.size, 0, none⟩) 3 3 [farOb ⟨#[97]⟩ true, noOb, farOb ⟨#[97]⟩ true] 170 2 _ rfl (by decide) (far_units rfl (Blk.new w24 39 _) (HK23'.out.grow (new_alloc w24 _)) (HK24.out.grow (new_alloc w24 _))) tab_far1).mono ?_
    rintro E w25 ⟨r11, s11, r12, s12, rfl, hb25⟩
    have HD25 := Hid.in (below_step (new_alloc w24 _) hb25)
    have HB25 := Hid.in (below_step HB24.out HD25.out)
    have HR25 := Hid.in (HR24.out.below HD25.out)
    clear hb25 HB24 HR24 HK23' HK24 HD25
    go_wp2_with (go_at_call 13; refine Hid.out ?_)
    refine Lib.hid ?_
    refine (far_any ⟨#[97]⟩ true w25).mono ?_
    rintro E w26 ⟨h26, rfl, hk26, hb26⟩
    have HB26 := Hid.in (below_step HB25.out hb26)
    have HR26 := Hid.in (HR25.out.below hb26)
    have HK26 := Hid.in hk26
    clear hb26 HB25 HR25 hk26
    go_wp2_with (go_at_call 13; refine Hid.out ?_)
    refine Lib.hid ?_
    refine (far_any ⟨#[97]⟩ false w26).mono ?_
    rintro E w27 ⟨h27, rfl, hk27, hb27⟩
    have HB27 := Hid.in (below_step HB26.out hb27)
    have HR27 := Hid.in (HR26.out.below hb27)
    have HK27 := Hid.in hk27
    have HK26' := Hid.in (HK26.out.grow hb27)
    clear hb27 HB26 HR26 hk27 HK26
    go_wp2_with (go_at_call 9; refine Hid.out ?_)
    refine Lib.hid ?_
    refine (tab_e0 (some ⟨w27.heap.size, 0, none⟩) 3 3 [noOb, farOb ⟨#[97]⟩ true, farOb ⟨#[97]⟩ false] _ rfl (by decide) (far_units2 rfl (Blk.new w27 39 _) (HK26'.out.grow (new_alloc w27 _)) (HK27.out.grow (new_alloc w27 _))) tab_far2).mono ?_
    rintro E w28 ⟨y2, y3, y4, rfl, hb28⟩
    have HD28 := Hid.in (below_step (new_alloc w27 _) hb28)
    have HB28 := Hid.in (below_step HB27.out HD28.out)
    have HR28 := Hid.in (HR27.out.below HD28.out)
    clear hb28 HB27 HR27 HK26' HK27 HD28
    go_upto_region 22 with fail
    go_cut [52, 53, 54, 55] from 241 to 253 (fun _ _ v54 v55 wx => v54 = .int .i64 2 ∧ v55 = .int .i64 1 ∧ GRow wx r9 (nums [0, 65536]) ∧ Below w.heap.size w wx)
    case first =>
      obtain ⟨Zc, hZc⟩ : ∃ Zc, Zc = madeCells #[.int .u8 0] nc := ⟨_, rfl⟩
      obtain ⟨Z1, hZ1⟩ : ∃ Z1, Z1 = madeCells #[.int .u8 0] 1 := ⟨_, rfl⟩
      have hmc := fun W => run_mkc nc HNC.out W
      have hm1 := run_mk1
      simp only [← hZ1] at hm1
      simp only [← hZc] at hmc
      have HZc : Hid (Zc.toList = List.replicate nc (.int .u8 0)) := by have h := toList_madeCells_one (.int .u8 0) nc; rw [← hZc] at h; exact h
      have HZ1 : Hid (Z1.toList = List.replicate 1 (.int .u8 0)) := by have h := toList_madeCells_one (.int .u8 0) 1; rw [← hZ1] at h; exact h
      have hnc : nc ≤ 65536 := by have := HNC.out; omega
      clear hZc hZ1
      go_region_held3 (fun W => True) (trivial)
        (first
          | (go_at_call 9; refine (tab_err (some ⟨w28.heap.size + 1 + 1 + 1, 0, none⟩) 2 2 [bigOb nc, badOb] 2 1 _ rfl (by decide) (v_units d4_4 (by first | exact d4_1 | exact d4_2 | exact d4_3) HZc.out (by first | exact d4_1 | exact d4_2 | exact d4_3) HZ1.out (by first | exact d4_1 | exact d4_2 | exact d4_3) hnc) (tab_v nc HNC.out)).mono ?_; rintro E wq ⟨r13, s13, r14, s14, rfl, hbq⟩; have HDq := Hid.in (below_step (four_below (below_self w28)) hbq); clear hbq))
      all_goals clear hmc hm1
      all_goals go_wp2_with fail
      all_goals go_meet
      all_goals exact ⟨rfl, rfl, HR28.out.below HDq.out, below_step HB28.out HDq.out⟩
    case rest =>
      obtain ⟨rfl, rfl, hRc, hBc⟩ := hcut
      have HR29 := Hid.in hRc
      have HB29 := Hid.in hBc
      clear hRc hBc HR28 HB28
      go_wp2_with (go_at_call 11; refine Hid.out ?_)
      refine Lib.hid ?_
      refine (find_is (some ⟨wc.heap.size, 0, none⟩) 2 2 [⟨⟨#[97]⟩, 1, true⟩, ⟨⟨#[97]⟩, 2, true⟩] ⟨#[97]⟩ 1 true _ rfl (by decide) (row3_two (a := ⟨⟨#[97]⟩, 1, true⟩) (b := ⟨⟨#[97]⟩, 2, true⟩) (Blk.new wc 34 _)) ⟨by rw [find_a2]; rfl, by rw [find_a2]; rfl⟩).mono ?_
      rintro E w30 ⟨rfl, hb30⟩
      have HD30 := Hid.in (below_step (new_alloc wc _) hb30)
      have HB30 := Hid.in (below_step HB29.out HD30.out)
      have HR30 := Hid.in (HR29.out.below HD30.out)
      clear hb30 HD30 HB29 HR29
      go_wp2_with (go_at_call 10; refine Hid.out ?_)
      refine Lib.hid ?_
      refine (two_blk w30).mono ?_
      rintro E w31 ⟨a1, a2, a3, a4, a5, rfl, hT, hb31⟩
      have HD31 := Hid.in hb31
      have HT := Hid.in hT
      clear hb31 hT
      go_upto_region 27 with (refine qpush _ rfl _ _ rfl w30.heap.size (.slice (some ⟨a5, 0, none⟩) 2 2) [(.slice (some ⟨a1, 0, none⟩) 5 5, .slice (some ⟨a2, 0, none⟩) 2 2, .slice none 0 0, .slice none 0 0), (.slice (some ⟨a3, 0, none⟩) 3 3, .slice (some ⟨a4, 0, none⟩) 2 2, .slice none 0 0, .slice none 0 0)] rfl ((HT.out.row.below (new_alloc w31 _)).below (new_alloc _ _)) ⟨w31.heap.size + 1, 0, none⟩ 1 (.slice none 0 0, .slice (some ⟨w31.heap.size, 0, none⟩) 1 1, .slice none 0 0, .slice none 0 0) ⟨rfl, rfl, rfl, rfl⟩ rfl (newsB (blk_at (size1 w31 _))) (show 3 * 96 ≤ 140737488355328 by decide) (below_alloc (below_alloc HD31.out _) _).size ?_; intro v5 w33 hQ hg hb; have HD33 := Hid.in (hb w30 (below_alloc (below_alloc HD31.out _) _)); obtain ⟨pz, cz, hvz, huz⟩ := bad_units ((HT.out.below (new_alloc w31 _)).below (new_alloc _ _)) ((Blk.new w31 34 _).grow (new_alloc _ _)) hg hQ; subst hvz; have HUz := Hid.in huz; clear hQ hg hb huz)
      have HB33 := Hid.in (below_step HB30.out HD33.out)
      have HR33 := Hid.in (HR30.out.below HD33.out)
      clear HD31 HT HD33 HB30 HR30
      go_wp2_with (go_at_call 9; refine Hid.out ?_)
      refine Lib.hid ?_
      refine (tab_err pz 3 cz [twoA, twoB, farOb ⟨#[49]⟩ false] 2 2 w33 rfl (by decide) HUz.out tab_bad3).mono ?_
      rintro E w34 ⟨r15, s15, r16, s16, rfl, hb34⟩
      have HB34 := Hid.in (below_step HB33.out hb34)
      have HR34 := Hid.in (HR33.out.below hb34)
      clear hb34 HB33 HR33 HUz
      go_wp2_with (go_at_call 14; refine Hid.out ?_)
      refine Lib.hid ?_
      have hS : Calls Try.prog 14 #[.slice r9 2 s9, .slice (some ⟨w34.heap.size, 0, none⟩) 2 2] (w34.alloc (.cells #[.int .i64 0, .int .i64 65536] 3)) fun E w' => E = .returned (.bool true) ∧ ∃ m, w' = (w34.alloc (.cells #[.int .i64 0, .int .i64 65536] 3)).drewN m := sameInts_self r9 (some ⟨w34.heap.size, 0, none⟩) 2 s9 2 [0, 65536] _ (by decide) rfl (HR34.out.below (new_alloc w34 _)) (ints_lit2 w34 0 65536)
      refine hS.mono ?_
      rintro E W ⟨rfl, z35, rfl⟩
      clear hS
      have HB35 : Hid (Below w.heap.size w ((w34.alloc (.cells #[.int .i64 0, .int .i64 65536] 3)).drewN z35)) := below_draws (below_alloc HB34.out _) z35
      generalize (w34.alloc (.cells #[.int .i64 0, .int .i64 65536] 3)).drewN z35 = w35 at *
      clear HB34 HR34
      go_wp2_with (go_at_call 15; refine (awake_any w35).mono ?_; rintro E w36 ⟨rfl, hb36⟩)
      go_ret
      exact ⟨rfl, below_step HB35.out hb36⟩

end Go.Proofs.Ytnmcdkhfjkpklaa
