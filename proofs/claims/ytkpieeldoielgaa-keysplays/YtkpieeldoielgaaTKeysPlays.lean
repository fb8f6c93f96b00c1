/-
  Proved here: the law KeysPlays (switchyardlaw21) answers true for every input, and each argument reads afterwards as it read before. No condition of ours: the row's own reach alone (each slice and text takes at most 2^47 - 4096 bytes).
-/
import Derived.Test.YtkpieeldoielgaaGh
import Derived.Deep.DeepCutAuto
import Derived.Deep.CutBlock
import Derived.Deep.RegionHeld3
import Derived.Test.YtkpieeldoielgaaGf

/- Ours: KeysPlays answers true. -/
namespace Go.Proofs.Ytkpieeldoielgaa
open Go.RowKit

set_option maxRecDepth 100000 in
set_option maxHeartbeats 64000000 in
theorem plays_walk (p : Option Addr) (n c : Nat) (L : List Int) (q : Option Addr) (e : Nat) (O : List OpD) (w : World) (hL : L.length = n) (hn : n ≤ 140737488355328) (hnc : n ≤ c) (hr : GRow w p (numZ L)) (hO : O.length ≤ 9223372036854775807) (hS : Scr w q O) :
    Calls Try.prog 4 #[.slice p n c, .slice q O.length e] w fun e w' => e = .returned (.bool true) ∧ Below w.heap.size w w' := by
  have hIm := image_sl p n c L w hL hn hnc hr
  have HSc := Hid.in hS
  clear hL hn hnc hr hS
  go_enter Try.func4, Try.ntmps4
  go_wp2_with (go_at_call 16; refine Hid.out ?_)
  refine Lib.hid ?_
  (with_reducible refine hIm.mono ?_)
  rintro e w1 ⟨l, qb, qk, qs, qu, nb, db, dk, ns, ds, nu, du, hl, rfl, hI, hns, hb1⟩
  have h20 : l.length ≤ 20 := by rw [hl, List.length_take]; omega
  have HSL : Hid ((imM l).si.length = ns) := (imM_sl l).trans hns.symm
  have hns20 : ns ≤ 20 := by rw [hns]; exact h20
  clear hl hIm hns
  have HB1 := Hid.in hb1
  have HV0 := Hid.in (Blk.new w1 31 #[.slice qb nb db, .slice qk (imN l) dk, .slice qs ns ds, .slice qu nu du])
  have HN0 := Hid.in (new_alloc w1 (.cells #[.slice qb nb db, .slice qk (imN l) dk, .slice qs ns ds, .slice qu nu du] 31))
  obtain ⟨HRs, HQs⟩ : Hid (Row3 w1 qs ((imM l).si.map siV)) ∧ Hid (∀ a, qs = some a → w.heap.size ≤ a.block ∧ a.block < w1.heap.size) := by
    obtain ⟨q', c', e', -, -, hr'⟩ := hI.s.row3
    injection e' with e1 _ _
    subst e1
    refine ⟨hr', fun a ea => ?_⟩
    rcases hI.s.2 with ⟨e1, _⟩ | ⟨g, cap, cur, e1, e2, e3, _⟩
    · rw [ea] at e1
      exact absurd e1 (fun e => slice_no e)
    · rw [ea] at e1
      injection e1 with e1 _ _
      injection e1 with e1
      subst e1
      exact ⟨e2, (Array.getElem?_eq_some_iff.1 e3).1⟩
  have HI := Hid.in hI
  have HIB : Hid (ImOwn (w1.alloc (.cells #[.slice qb nb db, .slice qk (imN l) dk, .slice qs ns ds, .slice qu nu du] 31)) w.heap.size (imM l) (.slice qb nb db) (.slice qk (imN l) dk) (.slice qs ns ds) (.slice qu nu du)) := hI.below HN0.out
  obtain ⟨z0, z1, z2, z3⟩ := HV0.out.cells4
  have hC := copy_im l h20 _ _ _ _ _ _ HIB.out
  have HS1 : Hid (w1.heap.size + 1 = (w1.alloc (.cells #[.slice qb nb db, .slice qk (imN l) dk, .slice qs ns ds, .slice qu nu du] 31)).heap.size) := (size_one _ _).symm
  clear hb1 hI HI
  go_wp2_with (go_at_call 17; refine Hid.out ?_)
  refine Lib.hid ?_
  generalize w1.alloc (.cells #[.slice qb nb db, .slice qk (imN l) dk, .slice qs ns ds, .slice qu nu du] 31) = w2 at *
  (with_reducible refine hC.mono ?_)
  rintro e w3 ⟨vb, vk, vs, vu, rfl, hJ, hb3⟩
  obtain ⟨rb, rk, rs, ru, eb, ek, es, eu, rfl, rfl, rfl, rfl, -, -⟩ := hJ.inOk (imM_ok l h20) (imM_byt _)
  have HGI3 : Hid (0 < (imM l).si.length → ∃ g, rs = some ⟨g, 0, none⟩ ∧ w2.heap.size ≤ g ∧ g < w3.heap.size ∧ Cel w3 g 41 ((imM l).si.length * 3)) := fun h0 => by
    obtain ⟨g, e, hb, hc⟩ := hJ.s.cel (by rw [List.length_map]; exact h0)
    rw [List.length_map] at hc
    exact ⟨g, e, hb, hc.lt, hc⟩
  have HV1 := Hid.in (Blk.new w3 31 #[.slice rb (imM l).bs.length eb, .slice rk (imM l).ks.length ek, .slice rs (imM l).si.length es, .slice ru (imM l).un.length eu])
  have HN3 := Hid.in (new_alloc w3 (.cells #[.slice rb (imM l).bs.length eb, .slice rk (imM l).ks.length ek, .slice rs (imM l).si.length es, .slice ru (imM l).un.length eu] 31))
  have HS3 : Hid (w3.heap.size + 1 = (w3.alloc (.cells #[.slice rb (imM l).bs.length eb, .slice rk (imM l).ks.length ek, .slice rs (imM l).si.length es, .slice ru (imM l).un.length eu] 31)).heap.size) := (size_one _ _).symm
  have HJ := Hid.in (hJ.below HN3.out)
  have HB3 := Hid.in hb3
  have HV0' := Hid.in ((HV0.out.grow hb3).grow HN3.out)
  have HIB' := Hid.in ((HIB.out.below hb3).below HN3.out)
  have HRs' := Hid.in (((HRs.out.below HN0.out).below hb3).below HN3.out)
  have hT1 := tnew_im l h20 _ _ _ _ _ _ HJ.out
  obtain ⟨y0, y1, y2, y3⟩ := HV1.out.cells4
  clear hC hJ hb3 HV0 HIB HRs z0 z1 z2 z3
  go_wp2_with (go_at_call 9; refine Hid.out ?_)
  refine Lib.hid ?_
  generalize w3.alloc (.cells #[.slice rb (imM l).bs.length eb, .slice rk (imM l).ks.length ek, .slice rs (imM l).si.length es, .slice ru (imM l).un.length eu] 31) = w4 at *
  (with_reducible refine hT1.mono ?_)
  rintro e w5 ⟨h0, b0, p0, c0, rfl, hT5, hb5, hh0, hbb0, hp0⟩
  have HX5 := Hid.in hT5
  have HV05 := Hid.in (HV0'.out.grow hb5)
  have HV15 := Hid.in (HV1.out.grow hb5)
  have HI5 := Hid.in (HIB'.out.below hb5)
  have HJ5 := Hid.in (HJ.out.below hb5)
  have HRs5 := Hid.in (HRs'.out.below hb5)
  have HB5 := Hid.in hb5
  have HP0 := Hid.in hp0
  have HHH0 := Hid.in (And.intro hh0 hbb0)
  clear hT1 hT5 hb5 hh0 hbb0 hp0 HV0' HV1 HIB' HJ HRs' y0 y1 y2 y3
  have hT2 := tnew_im l h20 _ _ _ _ _ _ HI5.out
  obtain ⟨z0, z1, z2, z3⟩ := HV05.out.cells4
  go_wp2_with (go_at_call 9; refine Hid.out ?_)
  refine Lib.hid ?_
  (with_reducible refine hT2.mono ?_)
  rintro e w6 ⟨h1, b1, p1, c1, rfl, hT6, hb6, hh1, hbb1, hp1⟩
  have HX6 := Hid.in (HX5.out.below hb6)
  have HY6 := Hid.in hT6
  have HV06 := Hid.in (HV05.out.grow hb6)
  have HV16 := Hid.in (HV15.out.grow hb6)
  have HI6 := Hid.in (HI5.out.below hb6)
  have HJ6 := Hid.in (HJ5.out.below hb6)
  have HRs6 := Hid.in (HRs5.out.below hb6)
  have HB6 := Hid.in hb6
  have HP1 := Hid.in hp1
  have HHH1 := Hid.in (And.intro hh1 hbb1)
  have HXS : Hid ((h0 < w5.heap.size ∧ b0 < w5.heap.size) ∧ ∀ a, p0 = some a → a.block < w5.heap.size) := ⟨⟨HX5.out.blk.lt, HX5.out.map.lt⟩, HX5.out.pl⟩
  clear hT2 hT6 hb6 hh1 hbb1 hp1 HX5 HV05 HV15 HI5 HJ5 HRs5 z0 z1 z2 z3
  have hSI := same_im l h20 w6 _ _ _ _ _ _ _ _ _ _ HJ6.out HI6.out
  obtain ⟨z0, z1, z2, z3⟩ := HV06.out.cells4
  obtain ⟨y0, y1, y2, y3⟩ := HV16.out.cells4
  go_wp2_with (go_at_call 18; refine Hid.out ?_)
  refine Lib.hid ?_
  (with_reducible refine hSI.mono ?_)
  rintro e w7 ⟨rfl, hb7⟩
  -- the state ahead of the law's own variables
  have HKP : Hid (KP w w7 w1.heap.size (imN l) h0 b0 p0 c0 h1 b1 p1 c1 (imM l).si qs #[.slice qb nb db, .slice qk (imN l) dk, .slice qs ns ds, .slice qu nu du]) := by
    have s1 := HS1.out
    have s2 := HB3.out.size
    have s3 := HS3.out
    have s5 := HB5.out.size
    have s6 := HB6.out.size
    have s7 := hb7.size
    have sw := HB1.out.size
    have t0 := HHH0.out
    have t1 := HHH1.out
    have t2 := HXS.out
    refine ⟨HV06.out.grow hb7, HRs6.out.below hb7, fun a ea => ?_, HX6.out.below hb7, HY6.out.below hb7, fun a ea => ?_, fun a ea => ?_, by omega, by omega, by omega, by omega, below_step (below_step (below_step (below_step (below_step (below_step HB1.out HN0.out) HB3.out) HN3.out) HB5.out) HB6.out) hb7, by omega⟩
    · have := HQs.out a ea
      omega
    · have := t2.2 a ea
      omega
    · have := HP1.out a ea
      omega
  have HV17 := Hid.in (HV16.out.grow hb7)
  have HQr : Hid (∀ a, qs = some a → a.block < w1.heap.size) := fun a ea => (HQs.out a ea).2
  have HSZ : Hid (w1.heap.size < w2.heap.size ∧ w2.heap.size ≤ w3.heap.size ∧ w3.heap.size < w4.heap.size ∧ w.heap.size ≤ w1.heap.size ∧ w4.heap.size ≤ h0 ∧ w4.heap.size ≤ b0 ∧ (∀ a, p0 = some a → w4.heap.size ≤ a.block) ∧ (∀ a, p1 = some a → w4.heap.size ≤ a.block)) := by
    have s1 := HS1.out
    have s2 := HB3.out.size
    have s3 := HS3.out
    have s5 := HB5.out.size
    have sw := HB1.out.size
    have t0 := HHH0.out
    exact ⟨by omega, s2, by omega, sw, t0.1, t0.2, HP0.out, fun a ea => by have := HP1.out a ea; omega⟩
  have HGI : Hid (0 < (imM l).si.length → ∃ g, rs = some ⟨g, 0, none⟩ ∧ (w2.heap.size ≤ g ∧ g < w3.heap.size) ∧ Cel w7 g 41 ((imM l).si.length * 3)) := fun h0 => by
    obtain ⟨g, e, ha, hb, hc⟩ := HGI3.out h0
    exact ⟨g, e, ⟨ha, hb⟩, (((hc.below HN3.out).below HB5.out).below HB6.out).below hb7⟩
  clear hSI hb7 HX6 HY6 HV06 HV16 HI6 HJ6 HRs6 HB6 HP1 HHH1 HXS HHH0 HP0 HB5 HS3 HS1 HB3 HB1 HN0 HN3 HQs HGI3 z0 z1 z2 z3 y0 y1 y2 y3
  have HBY := Hid.in (imM_by l h20)
  have hkn20 : imN l ≤ 20 := Nat.le_trans (imN_le l) h20
  have hks : (imM l).ks.length = imN l := imM_ks l
  have hsb : (imM l).si.length ≤ 20 := by rw [HSL.out]; exact hns20
  rw [← HSL.out] at HKP ⊢
  clear HSL hns20
  generalize (imM l).si = si at *
  generalize (imM l).bs.length = lbs at *
  generalize (imM l).ks.length = lks at *
  generalize (imM l).un.length = lun at *
  generalize imN l = kn at *
  clear hks
  go_wp2_with fail
  go_loopw [11] (fun vi wr => ∃ k : Nat, vi = .int .i64 k ∧ k ≤ si.length ∧ Keeps (fun j => w2.heap.size ≤ j ∧ j < w3.heap.size) w7 wr ∧ (0 < si.length → ∃ g, rs = some ⟨g, 0, none⟩ ∧ (w2.heap.size ≤ g ∧ g < w3.heap.size) ∧ Cel wr g 41 (si.length * 3))) (fun vi _ => si.length - (intOf vi).toNat)
  case atStart => exact ⟨0, rfl, Nat.zero_le _, Keeps.refl _ _, HGI.out⟩
  case round =>
    obtain ⟨k, rfl, hk, hK, hG⟩ := hrel
    have HK := Hid.in hK
    have HG := Hid.in hG
    clear hK hG HGI
    have HVr : Hid (Blk wr w3.heap.size 31 #[.slice rb lbs eb, .slice rk lks ek, .slice rs si.length es, .slice ru lun eu]) := (HK.out.block w3.heap.size HV17.out.lt (fun hj => by omega)).trans HV17.out
    obtain ⟨y0, y1, y2, y3⟩ := HVr.out.cells4
    by_cases hlt : k < si.length
    · obtain ⟨g, rfl, hg, hC⟩ := HG.out (by omega)
      have HC := Hid.in hC
      have f1 : decide ((si.length : Int) ≤ (k : Int)) = false := decide_eq_false (by omega)
      clear hC HG
      have hk3 : k * 3 + 3 ≤ si.length * 3 := by omega
      go_wp2_with (refine step_clear HC.out hk3 rfl _ _ rfl rfl (by rfl) (by rfl) ?_; intro w8 hC8 hK8; have HC8 := Hid.in hC8; have HK8 := Hid.in (HK.out.trans' (hK8.wider (fun j e => e ▸ hg))); clear hC8 hK8)
      go_roundw
      case rel => exact ⟨k + 1, by go_num, by omega, HK8.out, fun _ => ⟨g, rfl, hg, HC8.out⟩⟩
      case measure => simp [intOf]; omega
    · have f1 : decide ((k : Int) < (si.length : Int)) = false := decide_eq_false (by omega)
      have HKQ : Hid (KP w wr w1.heap.size kn h0 b0 p0 c0 h1 b1 p1 c1 si qs #[.slice qb nb db, .slice qk kn dk, .slice qs si.length ds, .slice qu nu du]) := by
        have sz := HSZ.out
        refine HKP.out.keeps HK.out (fun e => by omega) (fun j e => ?_) (fun a ea e => ?_) (fun a ea e => ?_) (fun a ea e => ?_)
        · have l1 := HKP.out.hh
          have l2 := HKP.out.bb
          omega
        · have := HQr.out a ea; omega
        · have := sz.2.2.2.2.2.2.1 a ea; omega
        · have := sz.2.2.2.2.2.2.2 a ea; omega
      clear HK HG HKP HVr HV17
      have HNT := Hid.in (new_alloc wr (.cells #[.pointer (some ⟨h0, 0, none⟩), .pointer (some ⟨h1, 0, none⟩)] 47))
      have HTB := Hid.in (Blk.new wr 47 #[.pointer (some ⟨h0, 0, none⟩), .pointer (some ⟨h1, 0, none⟩)])
      go_upto_region 12 with fail
      clear y0 y1 y2 y3
      generalize wr.alloc (.cells #[.pointer (some ⟨h0, 0, none⟩), .pointer (some ⟨h1, 0, none⟩)] 47) = w8 at *
      have HKB8 := Hid.in (HKQ.out.below HNT.out)
      have HGT : Hid (∃ gt, wr.heap.size = gt) := ⟨_, rfl⟩
      have hkb : kn ≤ 1048576 := by omega
      go_cut [13] (fun v W => ∃ gw g1 g2, v = .pointer (some ⟨gw, 0, none⟩) ∧ Blk W gw 51 #[.slice (some ⟨g1, 0, none⟩) kn kn, .bool false, .slice (some ⟨g2, 0, none⟩) kn kn, .bool false] ∧ Blk W g1 3 (numZ (zerosC kn)).toArray ∧ Blk W g2 3 (numZ (zerosC kn)).toArray ∧ w8.heap.size ≤ gw ∧ Below w8.heap.size w8 W)
      case first =>
        have HM : Hid (∀ W, Below w8.heap.size w8 W → W.cell? ⟨w1.heap.size, 1, none⟩ = some (.slice qk kn dk)) := fun W hW => (HKB8.out.mb.grow hW).cell 1
        have z1 := HM.out w8 (below_self _)
        have hA1 := rnew_any kn w8.drew hkb
        have hB1 := rnew_any kn (w8.alloc (.cells #[.slice none 0 0, .bool false, .slice none 0 0, .bool false] 51)).drew hkb
        have HZ : Hid (Blk (w8.alloc (.cells #[.slice none 0 0, .bool false, .slice none 0 0, .bool false] 51)).drew w8.heap.size 51 #[.slice none 0 0, .bool false, .slice none 0 0, .bool false]) := Blk.new w8 51 #[.slice none 0 0, .bool false, .slice none 0 0, .bool false]
        have HZB : Hid (Below w8.heap.size w8 (w8.alloc (.cells #[.slice none 0 0, .bool false, .slice none 0 0, .bool false] 51)).drew) := below_draws (new_alloc _ _) 1
        have HMl : Hid (w1.heap.size < w8.heap.size) := HKB8.out.mb.lt
        have hz1 : ¬ w1.heap.size = w8.heap.size := fun e => by have := HMl.out; omega
        have hz2 : ¬ w8.heap.size = w1.heap.size := fun e => hz1 e.symm
        go_region_held3 (fun W => W.cell? ⟨w1.heap.size, 1, none⟩ = some (.slice qk kn dk)) (first | (with_reducible exact hk9) | (with_reducible exact hk10) | go_keep)
          (first
            | (go_at_call 19; (with_reducible refine hA1.mono ?_); rintro e w9 ⟨g1, rfl, hg1, hl1, hb9⟩; clear hA1 hB1; have HB9 : Hid (Below w8.heap.size w8 w9) := below_step (below_draws (below_self w8) 1) hb9; have HG1 := Hid.in hg1; have hk9 := HM.out w9 HB9.out; have hz3 : ¬ w1.heap.size = w9.heap.size := (fun e => by have := HMl.out; have := HB9.out.size; omega); have hz4 : ¬ w9.heap.size = w1.heap.size := (fun e => hz3 e.symm); have hA2 := rnew_any kn w9 hkb; have hC2 := rnew_any kn (w9.alloc (.cells #[.slice none 0 0, .bool false, .slice none 0 0, .bool false] 51)) hkb; clear hg1 hl1 hb9)
            | (go_at_call 19; (with_reducible refine hB1.mono ?_); rintro e w9 ⟨g1, rfl, hg1, hl1, hb9⟩; clear hA1 hB1; have HB9 : Hid (Below w8.heap.size w8 w9) := below_step HZB.out hb9; have HG1 := Hid.in hg1; have hk9 := HM.out w9 HB9.out; have HZ9 := Hid.in (HZ.out.grow hb9); have hB2 := rnew_any kn w9 hkb; clear hg1 hl1 hb9)
            | (go_at_call 19; (with_reducible refine hA2.mono ?_); rintro e w10 ⟨g2, rfl, hg2, hl2, hb10⟩; clear hA2 hC2; have HB10 := Hid.in (below_step HB9.out hb10); have HG2 := Hid.in hg2; have HG1' := Hid.in (HG1.out.grow hb10); have hk10 := HM.out w10 HB10.out; clear hg2 hl2 hb10 HG1)
            | (go_at_call 19; (with_reducible refine hC2.mono ?_); rintro e w10 ⟨g2, rfl, hg2, hl2, hb10⟩; clear hA2 hC2; have HB10 := Hid.in (below_step (below_alloc HB9.out _) hb10); have HG2 := Hid.in hg2; have HG1' := Hid.in ((HG1.out.grow (new_alloc _ _)).grow hb10); have HZ10 := Hid.in ((Blk.new w9 51 #[.slice none 0 0, .bool false, .slice none 0 0, .bool false]).grow hb10); obtain ⟨q0, q1, q2, q3⟩ := HZ10.out.cells4; have f0 := HZ10.out.free 0; have f1 := HZ10.out.free 1; have f2 := HZ10.out.free 2; have f3 := HZ10.out.free 3; have hk10 := HM.out w10 HB10.out; clear hg2 hl2 hb10 HG1)
            | (go_at_call 19; (with_reducible refine hB2.mono ?_); rintro e w10 ⟨g2, rfl, hg2, hl2, hb10⟩; clear hB2; have HB10 := Hid.in (below_step HB9.out hb10); have HG2 := Hid.in hg2; have HG1' := Hid.in (HG1.out.grow hb10); have HZ10 := Hid.in (HZ9.out.grow hb10); obtain ⟨q0, q1, q2, q3⟩ := HZ10.out.cells4; have f0 := HZ10.out.free 0; have f1 := HZ10.out.free 1; have f2 := HZ10.out.free 2; have f3 := HZ10.out.free 3; have hk10 := HM.out w10 HB10.out; clear hg2 hl2 hb10 HG1))
        · go_wp2_with fail
          go_meet
          case rel => exact ⟨_, g1, g2, rfl, Blk.new _ _ _, HG1'.out.grow (new_alloc _ _), HG2.out.grow (new_alloc _ _), HB10.out.size, below_alloc HB10.out _⟩
        · have HF := Hid.in (fin12 HZ10.out HG1'.out HG2.out HB10.out HB9.out.size (.slice (some ⟨g1, 0, none⟩) kn kn) (.bool false) (.slice (some ⟨g2, 0, none⟩) kn kn) (.bool false))
          have hzl : w8.heap.size ≤ w9.heap.size := HB9.out.size
          go_wp2_with fail
          go_meet
          case rel => exact ⟨_, g1, g2, rfl, HF.out.1, HF.out.2.1, HF.out.2.2.1, hzl, HF.out.2.2.2⟩
        · have HF := Hid.in (fin12 HZ10.out HG1'.out HG2.out HB10.out (Nat.le_refl _) (.slice (some ⟨g1, 0, none⟩) kn kn) (.bool false) (.slice (some ⟨g2, 0, none⟩) kn kn) (.bool false))
          go_wp2_with fail
          go_meet
          case rel => exact ⟨_, g1, g2, rfl, HF.out.1, HF.out.2.1, HF.out.2.2.1, Nat.le_refl _, HF.out.2.2.2⟩
      case rest =>
        obtain ⟨gw, g1, g2, rfl, hb, hg1, hg2, hgw, hbl⟩ := hcut
        have HKS : Hid (KT w wc w1.heap.size wr.heap.size gw kn (T0 kn h0 b0 p0 c0 h1 b1 p1 c1) (R0 kn g1 g2) si qs #[.slice qb nb db, .slice qk kn dk, .slice qs si.length ds, .slice qu nu du]) := HKQ.out.ks (below_step HNT.out hbl) (Nat.le_refl _) (Nat.le_trans HNT.out.size hgw) (HTB.out.grow hbl) hb hg1 hg2
        clear hb hg1 hg2 hgw hbl HKB8 HKQ HNT HTB HGT
        have HPK : Hid (PK w wc w1.heap.size wr.heap.size gw kn 0 si qs #[.slice qb nb db, .slice qk kn dk, .slice qs si.length ds, .slice qu nu du]) := ⟨_, _, HKS.out, duo_all (P := fun k _ => (R0 kn g1 g2 k).cs = (T0 kn h0 b0 p0 c0 h1 b1 p1 c1 k).cs ∧ (R0 kn g1 g2 k).op = (T0 kn h0 b0 p0 c0 h1 b1 p1 c1 k).op ∧ (T0 kn h0 b0 p0 c0 h1 b1 p1 c1 k).n ≤ kn + 0) (x := ()) (y := ()) ⟨rfl, rfl, Nat.le_refl _⟩ ⟨rfl, rfl, Nat.le_refl _⟩⟩
        clear HKS
        generalize w1.heap.size = M at *
        generalize wr.heap.size = gt at *
        go_wp2_with fail
        go_loopw [14] (fun vi wr => ∃ i : Nat, vi = .int .i64 i ∧ i ≤ 300 ∧ PK w wr M gt gw kn i si qs #[.slice qb nb db, .slice qk kn dk, .slice qs si.length ds, .slice qu nu du]) (fun vi _ => 300 - (intOf vi).toNat)
        case atStart => exact ⟨0, rfl, by decide, HPK.out⟩
        case round =>
          obtain ⟨i, rfl, hi, hP⟩ := hrel
          have HP := Hid.in hP
          clear hP HPK
          by_cases hlt : i < O.length ∧ i < 300
          · obtain ⟨hi1, hi2⟩ := hlt
            obtain ⟨b3, o3, rfl, hsc⟩ := HSc.out (by omega)
            obtain ⟨⟨s0, s1, s2, s3⟩, hOp⟩ := hsc i O[i] (List.getElem?_eq_getElem hi1)
            have hbel : Below w.heap.size w wr := by
              obtain ⟨T, R, H, -⟩ := HP.out
              exact H.bel
            have d0 := (hbel.cell (p := ⟨b3, o3 + i * 4, none⟩) (cell_lt s0)).trans s0
            have d1 := (hbel.cell (p := ⟨b3, o3 + i * 4 + 1, none⟩) (cell_lt s1)).trans s1
            have d2 := (hbel.cell (p := ⟨b3, o3 + i * 4 + 2, none⟩) (cell_lt s2)).trans s2
            have d3 := (hbel.cell (p := ⟨b3, o3 + i * 4 + 3, none⟩) (cell_lt s3)).trans s3
            clear hsc s0 s1 s2 s3 hbel
            generalize O[i] = y at *
            obtain ⟨ky, on_, z, up⟩ := y
            have hz : i64P z := hOp.2.2
            simp only at d0 d1 d2 d3
            have HN5 := Hid.in (new_alloc wr (.cells #[.int .i64 ky, .int .i64 on_, .int .i64 z, .bool up] 53))
            have HO5 := Hid.in (Blk.new wr 53 #[.int .i64 ky, .int .i64 on_, .int .i64 z, .bool up])
            have e1 : decide ((i : Int) < (O.length : Int)) = true := decide_eq_true (by omega)
            have e2 : decide ((i : Int) < 300) = true := decide_eq_true (by omega)
            obtain ⟨jn, hjn, h01⟩ : ∃ jn : Int, bits .and .i64 on_ 1 = jn ∧ ∃ k : Nat, k < 2 ∧ jn = k := ⟨_, rfl, ((on_ % 2).toNat), by omega, by rw [i64_and1]; omega⟩
            go_upto_region 17 with fail
            obtain ⟨T, R, hT5, hSy⟩ := HP.out
            have HT5 := Hid.in (hT5.below HN5.out)
            have HSy := Hid.in hSy
            clear hT5 hSy HP HN5
            generalize wr.alloc (.cells #[.int .i64 ky, .int .i64 on_, .int .i64 z, .bool up] 53) = w5 at *
            have HOb : Hid (Blk w5 wr.heap.size 53 #[.int .i64 ky, .int .i64 on_, .int .i64 z, .bool up]) := HO5.out
            clear HO5 d0 d1 d2 d3
            generalize wr.heap.size = ob at *
            obtain ⟨o0, o1, o2, o3'⟩ := HOb.out.cells4
            obtain ⟨k, hk2, rfl⟩ := h01
            go_upto_block 4 with fail
            clear hjn o0 o1 o2 o3'
            go_cut [17] (fun _ wx => PK w wx M gt gw kn (i + 1) si qs #[.slice qb nb db, .slice qk kn dk, .slice qs si.length ds, .slice qu nu du])
            case first =>
              obtain ⟨⟨h, b, n5, cs, op, p', c'⟩, hTk⟩ : ∃ y, T k = y := ⟨_, rfl⟩
              obtain ⟨⟨q5, d5, cs', op'⟩, hRk⟩ : ∃ y, R k = y := ⟨_, rfl⟩
              obtain ⟨hcs, hop, hn5⟩ := HSy.out k hk2
              rw [hTk, hRk] at hcs hop
              rw [hTk] at hn5
              simp only at hcs hop hn5
              subst hcs hop
              have hl5 : cs'.length = kn := by have := HT5.out.lR k hk2; rw [hRk] at this; exact this
              have HTk := Hid.in hTk
              have HRk := Hid.in hRk
              have HL5 := Hid.in hl5
              clear hTk hRk hl5
              obtain ⟨o0, o1, o2, o3'⟩ := HOb.out.cells4
              by_cases hk1 : ky = 1
              · subst hk1
                as_aux_lemma =>
                  have HTb := Hid.in (HT5.out.tabY hk2 HTk.out)
                  obtain ⟨⟨rcs, rop, rt, re⟩, hr⟩ : ∃ r, calL cs' op' z up = r := ⟨_, rfl⟩
                  obtain ⟨Lt, hLt⟩ : ∃ Lt, toldR si z ⟨rcs, rop, rt, re⟩ = Lt := ⟨_, rfl⟩
                  have HrL : Hid (rcs.length = kn) := by have := calL_len cs' op' z up; rw [hr] at this; exact this.trans HL5.out
                  have HHC := Hid.in (fun i (hi : i < cs'.length) => HTb.out.hc i hi)
                  have h64 : kn ≤ 64 := by omega
                  have HC1 : Hid (∀ W, TabAt W h b n5 cs' op' p' c' si → Calls Try.prog 11 #[.pointer (some ⟨h, 0, none⟩), .int .i64 z, .bool up] W fun e w' => ∃ ql cq n', e = .returned (.tuple #[.slice ql Lt.length cq, .bool rt, .int .i64 re]) ∧ TOwn 41 w' W.heap.size (.slice ql Lt.length cq) (Lt.map siV) ∧ TabAt w' h b n' rcs rop p' c' si ∧ n' ≤ n5 + 1 ∧ Keeps (G2 h b) W w') := fun W hW => call_sl h b n5 cs' p' c' si W op' hW z hz up (by omega) ⟨rcs, rop, rt, re⟩ hr Lt hLt
                  have HC2 : Hid (∀ W, GRow W q5 (numZ cs') → Calls Try.prog 20 #[.agg #[.slice q5 kn d5, .bool op'], .int .i64 z, .bool up] W fun e w' => ∃ q2 d2, e = .returned (.tuple #[.agg #[.slice q2 kn d2, .bool rop], .bool rt, .int .i64 re]) ∧ GRow w' q2 (numZ rcs) ∧ (q2 = q5 ∨ ∀ a, q2 = some a → W.heap.size ≤ a.block) ∧ Below W.heap.size W w') := fun W hW => rcall_kn q5 d5 cs' op' z up W kn HL5.out h64 hW HHC.out ⟨rcs, rop, rt, re⟩ hr
                  have HLt := Hid.in hLt
                  have HLl : Hid (Lt.length ≤ 256) := by rw [← hLt]; exact Nat.le_trans (told_le si z _) HTb.out.hs
                  have HSl : Hid (si.length ≤ 256) := HTb.out.hs
                  clear hr hLt HHC
                  have HKs : Hid (∀ W, KT w W M gt gw kn T R si qs #[.slice qb nb db, .slice qk kn dk, .slice qs si.length ds, .slice qu nu du] → Blk W ob 53 #[.int .i64 1, .int .i64 on_, .int .i64 z, .bool up] → W.cell? ⟨gt, k, none⟩ = some (.pointer (some ⟨h, 0, none⟩)) ∧ W.cell? ⟨ob, 2, none⟩ = some (.int .i64 z) ∧ W.cell? ⟨ob, 3, none⟩ = some (.bool up)) := fun W h1 h2 => ⟨h1.ptrY hk2 HTk.out, h2.cell 2, h2.cell 3⟩
                  obtain ⟨x0, x1, x2⟩ := HKs.out w5 HT5.out HOb.out
                  have HTd : Hid (TabAt w5.drew h b n5 cs' op' p' c' si) := HTb.out.below (below_draws (below_self w5) 1)
                  have hC1 := HC1.out _ HTd.out
                  have hki0 : (0 : Int) ≤ (k : Int) := by omega
                  have hki2 : (k : Int) < 2 := by omega
                  have hki1 : (k : Int) ≤ 1 := by omega
                  have HNO : Hid (¬ G2 h b ob) := HT5.out.notG HOb.out (by decide) hk2 HTk.out
                  have HNt : Hid (¬ G2 h b gt) := HT5.out.notG HT5.out.bt (by decide) hk2 HTk.out
                  clear o0 o1 o2 o3' HTb
                  go_upto_region 20 with fail
                  go_region_held3 (fun W => W.cell? ⟨gt, k, none⟩ = some (.pointer (some ⟨h, 0, none⟩)) ∧ W.cell? ⟨ob, 2, none⟩ = some (.int .i64 z) ∧ W.cell? ⟨ob, 3, none⟩ = some (.bool up)) (first | (with_reducible exact hk9) | go_keep)
                    (first | (go_at_call 11; (with_reducible refine hC1.mono ?_); rintro e w6 ⟨ql, cq, n6, rfl, hL6, hT6, hn6, hK6'⟩; have HK6 : Hid (Keeps (G2 h b) w5 w6) := Hid.in (⟨hK6'.os, hK6'.tape, hK6'.output, hK6'.size, hK6'.block⟩ : Keeps (G2 h b) w5 w6); have HU6 := Hid.in hT6; have HL6 : Hid (TOwn 41 w6 w5.heap.size (.slice ql Lt.length cq) (Lt.map siV)) := hL6; have HO6 : Hid (Blk w6 ob 53 #[.int .i64 1, .int .i64 on_, .int .i64 z, .bool up]) := (HK6.out.block ob HOb.out.lt HNO.out).trans HOb.out; have hk9 : w6.cell? ⟨gt, k, none⟩ = some (.pointer (some ⟨h, 0, none⟩)) ∧ w6.cell? ⟨ob, 2, none⟩ = some (.int .i64 z) ∧ w6.cell? ⟨ob, 3, none⟩ = some (.bool up) := ⟨KT.ptrY (HT5.out.callY hk2 HTk.out HK6.out HU6.out HrL.out) hk2 (upd_same _ _ _), HO6.out.cell 2, HO6.out.cell 3⟩; clear hL6 hT6 hK6'))
                  have HT6 := Hid.in (HT5.out.callY hk2 HTk.out HK6.out HU6.out HrL.out)
                  have HS5 : Hid (w5.heap.size ≤ w6.heap.size) := HK6.out.size
                  have HAq : Hid (∀ (n' : Nat) (rcs' : List Int) (rop' : Bool) (q2 : Option Addr) (d2 : Nat) (w6 : World), rcs'.length = cs'.length → (q2 = q5 ∨ ∀ a, q2 = some a → w6.heap.size ≤ a.block) → ∀ g, w5.heap.size ≤ g → g < w6.heap.size → Apt w M gt gw (upd T k ⟨h, b, n', rcs', rop', p', c'⟩) (upd R k ⟨q2, d2, rcs', rop'⟩) qs g) := fun n' rcs' rop' q2 d2 w6 hl hq g h1 h2 => HT5.out.apt hk2 HTk.out HRk.out hl hq h1 h2
                  clear x0 x1 x2 hk9 hC1 HC1 HTd HNO HNt HK6 HU6 HKs HOb HT5
                  go_upto_region 21 with fail
                  go_cut [20, 21, 22] (fun v20 v21 v22 W => ∃ (gx : Nat) (q2 : Option Addr) (d2 : Nat), v20 = .pointer (some ⟨gx, 0, none⟩) ∧ v21 = .bool rt ∧ v22 = .int .i64 re ∧ Blk W gx 49 #[.slice q2 kn d2, .bool rop] ∧ GRow W q2 (numZ rcs) ∧ (q2 = q5 ∨ ∀ a, q2 = some a → w6.heap.size ≤ a.block) ∧ Below w6.heap.size w6 W)
                  case first =>
                    have HRr := Hid.in (HT6.out.rowY hk2 HRk.out)
                    have HKr : Hid (∀ W, Below w6.heap.size w6 W → W.cell? ⟨gw, k * 2, none⟩ = some (.slice q5 kn d5) ∧ W.cell? ⟨gw, k * 2 + 1, none⟩ = some (.bool op') ∧ W.cell? ⟨ob, 2, none⟩ = some (.int .i64 z) ∧ W.cell? ⟨ob, 3, none⟩ = some (.bool up)) := fun W hW => ⟨((HT6.out.below hW).refY hk2 HRk.out).1, ((HT6.out.below hW).refY hk2 HRk.out).2, (HO6.out.grow hW).cell 2, (HO6.out.grow hW).cell 3⟩
                    obtain ⟨x0, x1, x2, x3⟩ := HKr.out w6 (below_self _)
                    have HBA : Hid (Below w6.heap.size w6 w6.drew) := below_draws (below_self w6) 1
                    have HBB : Hid (Below w6.heap.size w6 (w6.alloc (.cells #[.slice none 0 0, .bool false] 49)).drew) := below_draws (new_alloc w6 _) 1
                    have hA := HC2.out w6.drew (HRr.out.below HBA.out)
                    have hB := HC2.out (w6.alloc (.cells #[.slice none 0 0, .bool false] 49)).drew (HRr.out.below HBB.out)
                    have HZ : Hid (Blk (w6.alloc (.cells #[.slice none 0 0, .bool false] 49)).drew w6.heap.size 49 #[.slice none 0 0, .bool false]) := Blk.new w6 49 #[.slice none 0 0, .bool false]
                    have hgl : gw < w6.heap.size := HT6.out.bw.lt
                    have hol : ob < w6.heap.size := HO6.out.lt
                    have hz1 : ¬ gw = w6.heap.size := by omega
                    have hz2 : ¬ w6.heap.size = gw := by omega
                    have hz3 : ¬ ob = w6.heap.size := by omega
                    have hz4 : ¬ w6.heap.size = ob := by omega
                    go_region_held3 (fun W => W.cell? ⟨gw, k * 2, none⟩ = some (.slice q5 kn d5) ∧ W.cell? ⟨gw, k * 2 + 1, none⟩ = some (.bool op') ∧ W.cell? ⟨ob, 2, none⟩ = some (.int .i64 z) ∧ W.cell? ⟨ob, 3, none⟩ = some (.bool up)) (first | (with_reducible exact hk9) | go_keep)
                      (first
                        | (go_at_call 20; (with_reducible refine hA.mono ?_); rintro e w7 ⟨q2, d2, rfl, hr7, hq7, hb7⟩; have HB7 := Hid.in (below_step HBA.out hb7); have HR7 := Hid.in hr7; have HQ7 : Hid (q2 = q5 ∨ ∀ a, q2 = some a → w6.heap.size ≤ a.block) := hq7; have hk9 := HKr.out w7 HB7.out; clear hr7 hq7 hb7 hA hB)
                        | (go_at_call 20; (with_reducible refine hB.mono ?_); rintro e w7 ⟨q2, d2, rfl, hr7, hq7, hb7⟩; have HB7 := Hid.in (below_step HBB.out hb7); have HR7 := Hid.in hr7; have HZ7 := Hid.in (HZ.out.grow hb7); have HQ7 : Hid (q2 = q5 ∨ ∀ a, q2 = some a → w6.heap.size ≤ a.block) := Hid.in (hq7.imp id (fun h a ea => Nat.le_trans HBB.out.size (h a ea))); have hk9 := HKr.out w7 HB7.out; obtain ⟨y0, y1⟩ := HZ7.out.cells2; have f0 := HZ7.out.free 0; have f1 := HZ7.out.free 1; clear hr7 hq7 hb7 hA hB))
                    · go_wp2_with fail
                      go_meet
                      case rel => exact ⟨_, q2, d2, rfl, rfl, rfl, Blk.new _ _ _, HR7.out.below (new_alloc _ _), HQ7.out, below_alloc HB7.out _⟩
                    · have HBk : Hid (Blk ((w7.setCell ⟨w6.heap.size, 0, none⟩ (.slice q2 kn d2)).setCell ⟨w6.heap.size, 1, none⟩ (.bool rop)) w6.heap.size 49 #[.slice q2 kn d2, .bool rop]) := st2_blk HZ7.out _ _
                      have HBl := Hid.in (below2 HB7.out (Nat.le_refl w6.heap.size) (.slice q2 kn d2) (.bool rop))
                      have HRl : Hid (GRow ((w7.setCell ⟨w6.heap.size, 0, none⟩ (.slice q2 kn d2)).setCell ⟨w6.heap.size, 1, none⟩ (.bool rop)) q2 (numZ rcs)) := HR7.out.offT HZ7.out ((grown_setCell w7 w6.heap.size 0 (.slice q2 kn d2)).trans (grown_setCell _ w6.heap.size 1 (.bool rop)))
                      go_wp2_with fail
                      go_meet
                      case rel => exact ⟨_, q2, d2, rfl, rfl, rfl, HBk.out, HRl.out, HQ7.out, HBl.out⟩
                  case rest =>
                    obtain ⟨gx, q2, d2, rfl, rfl, rfl, hx, hr7, hq7, hb7⟩ := hcut
                    have HL6s : Hid ((∀ a, ql = some a → w5.heap.size ≤ a.block ∧ a.block < w6.heap.size) ∧ (0 < Lt.length → ∃ g, ql = some ⟨g, 0, none⟩ ∧ (w5.heap.size ≤ g ∧ g < w6.heap.size) ∧ Cel w6 g 41 (Lt.length * 3)) ∧ Row3 w6 ql (Lt.map siV)) := by
                      refine ⟨HL6.out.ge, fun h0 => ?_, HL6.out.rowS⟩
                      obtain ⟨g, e, hb, hc⟩ := TOwn.cel HL6.out (by rw [List.length_map]; exact h0)
                      rw [List.length_map] at hc
                      exact ⟨g, e, ⟨hb, hc.lt⟩, hc⟩
                    have HT7 := Hid.in (HT6.out.below hb7)
                    have HO7 := Hid.in (HO6.out.grow hb7)
                    have HLR := Hid.in (HL6s.out.2.2.below hb7)
                    have HLC : Hid (0 < Lt.length → ∃ g, ql = some ⟨g, 0, none⟩ ∧ (w5.heap.size ≤ g ∧ g < w6.heap.size) ∧ Cel wc g 41 (Lt.length * 3)) := fun h0 => by
                      obtain ⟨g, e, hb, hc⟩ := HL6s.out.2.1 h0
                      exact ⟨g, e, hb, hc.below hb7⟩
                    have HLG : Hid (∀ a, ql = some a → w5.heap.size ≤ a.block ∧ a.block < w6.heap.size) := HL6s.out.1
                    have HX := Hid.in hx
                    have HR7 := Hid.in hr7
                    have HHo := Hid.in (HT6.out.newR (cs2 := rcs) hk2 (by rw [HRk.out]) (by rw [HRk.out]) (HrL.out.trans HL5.out.symm) hq7)
                    have HApt : Hid (∀ g, w5.heap.size ≤ g → g < w6.heap.size → Apt w M gt gw (upd T k ⟨h, b, n6, rcs, rop, p', c'⟩) (upd R k ⟨q2, d2, rcs, rop⟩) qs g) := fun g h1 h2 => HAq.out n6 rcs rop q2 d2 w6 (HrL.out.trans HL5.out.symm) hq7 g h1 h2
                    clear hx hr7 hq7 hb7 HL6s HL6 HT6 HO6 HAq HC2
                    obtain ⟨x0, x1⟩ := HX.out.cells2
                    obtain ⟨lA, lB⟩ := HT7.out.refY hk2 HRk.out
                    have fA := HT7.out.bw.free (k * 2)
                    have fB := HT7.out.bw.free (k * 2 + 1)
                    have HW8 := Hid.in (ref_setK hk2 HT7.out.bw q2 d2 rcs rop HrL.out)
                    have HG8 := Hid.in ((grown_setCell wc gw (k * 2) (.slice q2 kn d2)).trans (grown_setCell _ gw (k * 2 + 1) (.bool rop)))
                    go_upto_region 23 with fail
                    generalize (wc.setCell ⟨gw, k * 2, none⟩ (.slice q2 kn d2)).setCell ⟨gw, k * 2 + 1, none⟩ (.bool rop) = w8 at *
                    have HT8 := Hid.in (HT7.out.setR hk2 ⟨q2, d2, rcs, rop⟩ HW8.out HG8.out HR7.out HHo.out HrL.out)
                    have hgw5 : ∀ g, w5.heap.size ≤ g → g < w6.heap.size → g ≠ gw := fun g h1 h2 e => (HApt.out g h1 h2).hG (.inr (.inl e))
                    have HO8 : Hid (Blk w8 ob 53 #[.int .i64 1, .int .i64 on_, .int .i64 z, .bool up]) := HO7.out.kept HG8.out (fun e => HO7.out.neT HT7.out.bw (by decide) (by injection e))
                    have HLR8 := Hid.in (HLR.out.keeps (keeps_grown HG8.out) (fun a ea => hgw5 _ (HLG.out a ea).1 (HLG.out a ea).2))
                    have HLC8 : Hid (0 < Lt.length → ∃ g, ql = some ⟨g, 0, none⟩ ∧ (w5.heap.size ≤ g ∧ g < w6.heap.size) ∧ Cel w8 g 41 (Lt.length * 3)) := fun h0 => by
                      obtain ⟨g, e, hb, hc⟩ := HLC.out h0
                      exact ⟨g, e, hb, hc.keeps (keeps_grown HG8.out) (hgw5 g hb.1 hb.2)⟩
                    clear x0 x1 lA lB fA fB HX HW8 HG8 HR7 HHo HT7 HO7 HLR HLC HLG hgw5
                    have HPK : Hid (∀ W, KT w W M gt gw kn (upd T k ⟨h, b, n6, rcs, rop, p', c'⟩) (upd R k ⟨q2, d2, rcs, rop⟩) si qs #[.slice qb nb db, .slice qk kn dk, .slice qs si.length ds, .slice qu nu du] → PK w W M gt gw kn (i + 1) si qs #[.slice qb nb db, .slice qk kn dk, .slice qs si.length ds, .slice qu nu du]) := fun W hW => pk_of hW HSy.out rfl rfl (by show n6 ≤ _; omega)
                    generalize upd T k ⟨h, b, n6, rcs, rop, p', c'⟩ = T2 at *
                    generalize upd R k ⟨q2, d2, rcs, rop⟩ = R2 at *
                    have hL256 := HLl.out
                    go_upto_if 123 with fail
                    go_cut [23] (fun v W => ∃ (qa : Option Addr) (ca : Nat), v = .slice qa Lt.length ca ∧ Row3 W qa (Lt.map siV) ∧ Below w8.heap.size w8 W)
                    case first =>
                      cases rt
                      · have h0 : Lt = [] := HLt.out.symm
                        subst h0
                        go_wp2_with fail
                        go_meet
                        case rel => exact ⟨none, 0, rfl, fun h => absurd h (Nat.lt_irrefl 0), below_self _⟩
                      · have hof : ofK si z = Lt := HLt.out
                        have hRs := rsites_any qs si.length ds z si w8 rfl (by omega) HT8.out.sr
                        rw [cntS_all HBY.out z (Nat.le_refl _), hof] at hRs
                        obtain ⟨a0, a1, a2, a3⟩ := HT8.out.mb.cells4
                        have o2 := HO8.out.cell 2
                        simp only [List.getElem?_toArray, List.getElem?_cons_zero, List.getElem?_cons_succ] at o2
                        go_wp2_with (go_at_call 21; refine Hid.out ?_)
                        refine Lib.hid ?_
                        (with_reducible refine hRs.mono ?_)
                        rintro e w9 ⟨v, rfl, hT9, hb9⟩
                        obtain ⟨qa, ca, hv, -, -, hr9⟩ := TOwn.row3 hT9
                        rw [List.length_map] at hv
                        subst hv
                        have HR9 := Hid.in hr9
                        have HB9 := Hid.in hb9
                        clear hT9 hr9 hb9 hRs a0 a1 a2 a3 o2
                        go_wp2_with fail
                        go_meet
                        case rel => exact ⟨qa, ca, rfl, HR9.out, HB9.out⟩
                    case rest =>
                      obtain ⟨qa, ca, rfl, hra, hb9⟩ := hcut
                      have HT9 := Hid.in (HT8.out.below hb9)
                      have HLR9 := Hid.in (HLR8.out.below hb9)
                      have HLC9 : Hid (0 < Lt.length → ∃ g, ql = some ⟨g, 0, none⟩ ∧ (w5.heap.size ≤ g ∧ g < w6.heap.size) ∧ Cel wc g 41 (Lt.length * 3)) := fun h0 => by
                        obtain ⟨g, e, hb, hc⟩ := HLC8.out h0
                        exact ⟨g, e, hb, hc.below hb9⟩
                      clear hb9 HT8 HLR8 HLC8 HO8
                      have hSm := sameSites_any ql qa Lt.length cq Lt.length ca Lt Lt _ rfl rfl (by omega) (by omega) HLR9.out hra
                      go_wp2_with (go_at_call 22; refine Hid.out ?_)
                      refine Lib.hid ?_
                      (with_reducible refine hSm.mono ?_)
                      rintro e w10 ⟨⟨bb, rfl, hbb⟩, z10, hw10⟩
                      obtain rfl : bb = true := hbb.2 (by trivial)
                      have HT10 : Hid (KT w w10 M gt gw kn T2 R2 si qs #[.slice qb nb db, .slice qk kn dk, .slice qs si.length ds, .slice qu nu du]) := by rw [hw10]; exact HT9.out.below (below_draws (below_self _) z10)
                      have HLC10 : Hid (0 < Lt.length → ∃ g, ql = some ⟨g, 0, none⟩ ∧ (w5.heap.size ≤ g ∧ g < w6.heap.size) ∧ Cel w10 g 41 (Lt.length * 3)) := fun h0 => by
                        obtain ⟨g, e, hb, hc⟩ := HLC9.out h0
                        rw [hw10]
                        exact ⟨g, e, hb, hc.below (below_draws (below_self _) z10)⟩
                      clear hw10 hbb hSm hra HT9 HLR9 HLC9
                      go_wp2_with fail
                      go_loopw [24] (fun vi wr => ∃ m : Nat, vi = .int .i64 m ∧ m ≤ Lt.length ∧ KT w wr M gt gw kn T2 R2 si qs #[.slice qb nb db, .slice qk kn dk, .slice qs si.length ds, .slice qu nu du] ∧ (0 < Lt.length → ∃ g, ql = some ⟨g, 0, none⟩ ∧ (w5.heap.size ≤ g ∧ g < w6.heap.size) ∧ Cel wr g 41 (Lt.length * 3))) (fun vi _ => Lt.length - (intOf vi).toNat)
                      case atStart => exact ⟨0, rfl, Nat.zero_le _, HT10.out, HLC10.out⟩
                      case round =>
                        obtain ⟨m, rfl, hm, hTm, hCm⟩ := hrel
                        have HTm := Hid.in hTm
                        have HCm := Hid.in hCm
                        clear hTm hCm HT10 HLC10
                        by_cases hlm : m < Lt.length
                        · obtain ⟨g, rfl, hg, hC⟩ := HCm.out (by omega)
                          have HC := Hid.in hC
                          have f1 : decide ((Lt.length : Int) ≤ (m : Int)) = false := decide_eq_false (by omega)
                          clear hC HCm
                          have hm3 : m * 3 + 3 ≤ Lt.length * 3 := by omega
                          go_wp2_with (refine step_clear HC.out hm3 rfl _ _ rfl rfl (by rfl) (by rfl) ?_; intro w8 hC8 hK8; have HC8 := Hid.in hC8; have HT11 := Hid.in (HTm.out.wr hK8 (HApt.out g hg.1 hg.2)); clear hC8 hK8)
                          go_roundw
                          case rel => exact ⟨m + 1, by go_num, by omega, HT11.out, fun _ => ⟨g, rfl, hg, HC8.out⟩⟩
                          case measure => simp [intOf]; omega
                        · have f1 : decide ((m : Int) < (Lt.length : Int)) = false := decide_eq_false (by omega)
                          go_wp2_with fail
                          go_meet
                          case rel => exact HPK.out _ HTm.out
              · have b1 : (ky == 1) = false := beq_eq_false_iff_ne.2 hk1
                have c1 : decide (ky = 1) = false := decide_eq_false hk1
                by_cases hk2' : ky = 2
                · subst hk2'
                  as_aux_lemma =>
                    obtain ⟨rv, hrv⟩ : ∃ rv : Int, (if op' = true then (0 : Int) else 2) = rv := ⟨_, rfl⟩
                    have HR2 := Hid.in (fun W => rret_kn q5 kn d5 op' W)
                    rw [hrv] at HR2
                    have HRV := Hid.in hrv
                    clear hrv
                    obtain ⟨x1, x2⟩ := HT5.out.refY hk2 HRk.out
                    go_wp2_with (go_at_call 23; refine Hid.out ?_)
                    refine Lib.hid ?_
                    (with_reducible refine (HR2.out _).mono ?_)
                    rintro e w6 ⟨rfl, hb6⟩
                    have HX := Hid.in (Blk.new w6 49 #[.slice q5 kn d5, .bool false])
                    have HT7 := Hid.in (HT5.out.below (below_step hb6 (new_alloc w6 (.cells #[.slice q5 kn d5, .bool false] 49))))
                    clear hb6 HT5 HR2 x1 x2 o0 o1 o2 o3'
                    go_upto_region 34 with fail
                    generalize w6.alloc (.cells #[.slice q5 kn d5, .bool false] 49) = w7 at *
                    obtain ⟨x1, x2⟩ := HX.out.cells2
                    obtain ⟨lA, lB⟩ := HT7.out.refY hk2 HRk.out
                    have fA := HT7.out.bw.free (k * 2)
                    have fB := HT7.out.bw.free (k * 2 + 1)
                    have HW8 := Hid.in (ref_setK hk2 HT7.out.bw q5 d5 cs' false HL5.out)
                    have HG8 := Hid.in ((grown_setCell w7 gw (k * 2) (.slice q5 kn d5)).trans (grown_setCell _ gw (k * 2 + 1) (.bool false)))
                    go_upto_region 35 with fail
                    generalize (w7.setCell ⟨gw, k * 2, none⟩ (.slice q5 kn d5)).setCell ⟨gw, k * 2 + 1, none⟩ (.bool false) = w8 at *
                    clear x1 x2 lA lB fA fB HX
                    have HT8 := Hid.in (HT7.out.setR hk2 ⟨q5, d5, cs', false⟩ HW8.out HG8.out (HT7.out.rowY hk2 HRk.out) (HT7.out.newR hk2 (by rw [HRk.out]) (by rw [HRk.out]) rfl (.inl rfl)) HL5.out)
                    clear HW8 HG8 HT7
                    have x0 := HT8.out.ptrY hk2 HTk.out
                    have hRt := return_any h b n5 cs' op' p' c' si w8 (HT8.out.tabY hk2 HTk.out)
                    rw [HRV.out] at hRt
                    go_wp2_with (go_at_call 12; refine Hid.out ?_)
                    refine Lib.hid ?_
                    (with_reducible refine hRt.mono ?_)
                    rintro e w9 ⟨rfl, hT9, hK9⟩
                    have HT9 := Hid.in (HT8.out.callY hk2 HTk.out hK9 hT9 HL5.out)
                    clear hT9 hK9 hRt HT8 x0
                    go_wp2_with fail
                    go_meet
                    case rel => exact pk_of HT9.out HSy.out rfl rfl (by show n5 ≤ _; omega)
                · have b2 : (ky == 2) = false := beq_eq_false_iff_ne.2 hk2'
                  have c2 : decide (ky = 2) = false := decide_eq_false hk2'
                  by_cases hk4 : ky = 4
                  · subst hk4
                    rcases (by omega : k = 0 ∨ k = 1) with rfl | rfl
                    · as_aux_lemma =>
                        clear o0 o1 o2 o3'
                        have hk2' : 0 < 2 := by decide
                        have hj2 : 1 < 2 := by decide
                        have HKs : Hid (∀ W, Below w5.heap.size w5 W → W.cell? ⟨gt, 0, none⟩ = some (.pointer (some ⟨h, 0, none⟩)) ∧ W.cell? ⟨gw, 0, none⟩ = some (.slice q5 kn d5) ∧ W.cell? ⟨gw, 1, none⟩ = some (.bool op')) := fun W hW => ⟨(HT5.out.below hW).ptrY hk2' HTk.out, ((HT5.out.below hW).refY (k := 0) hk2' HRk.out).1, ((HT5.out.below hW).refY (k := 0) hk2' HRk.out).2⟩
                        have HTd : Hid (TabAt w5.drew h b n5 cs' op' p' c' si) := (HT5.out.below (below_draws (below_self w5) 1)).tabY hk2' HTk.out
                        have hCp := tcopy_any h b n5 cs' op' p' c' si w5.drew HTd.out
                        obtain ⟨x0, x1, x2⟩ := HKs.out w5 (below_self _)
                        have hn1 : ¬ gt = gw := HT5.out.bt.neT HT5.out.bw (by decide)
                        have hn2 : ¬ gw = gt := fun e => hn1 e.symm
                        have HKk : Hid (∀ (W : World) (v : Value), (W.cell? ⟨gt, 0, none⟩ = some (.pointer (some ⟨h, 0, none⟩)) ∧ W.cell? ⟨gw, 0, none⟩ = some (.slice q5 kn d5) ∧ W.cell? ⟨gw, 1, none⟩ = some (.bool op')) → ((W.setCell ⟨gt, 1, none⟩ v).cell? ⟨gt, 0, none⟩ = some (.pointer (some ⟨h, 0, none⟩)) ∧ (W.setCell ⟨gt, 1, none⟩ v).cell? ⟨gw, 0, none⟩ = some (.slice q5 kn d5) ∧ (W.setCell ⟨gt, 1, none⟩ v).cell? ⟨gw, 1, none⟩ = some (.bool op'))) := fun W v hS => by
                          exact ⟨cellFar hS.1 _ (.inr (by decide)), cellFar hS.2.1 _ (.inl hn1), cellFar hS.2.2 _ (.inl hn1)⟩
                        have HKm : Hid (∀ (W : World) (v x y : Value), (W.cell? ⟨gt, 0, none⟩ = some (.pointer (some ⟨h, 0, none⟩)) ∧ W.cell? ⟨gw, 0, none⟩ = some (.slice q5 kn d5) ∧ W.cell? ⟨gw, 1, none⟩ = some (.bool op')) → ((((W.setCell ⟨gt, 1, none⟩ v).setCell ⟨gw, 2, none⟩ x).setCell ⟨gw, 3, none⟩ y).cell? ⟨gt, 0, none⟩ = some (.pointer (some ⟨h, 0, none⟩)) ∧ (((W.setCell ⟨gt, 1, none⟩ v).setCell ⟨gw, 2, none⟩ x).setCell ⟨gw, 3, none⟩ y).cell? ⟨gw, 0, none⟩ = some (.slice q5 kn d5) ∧ (((W.setCell ⟨gt, 1, none⟩ v).setCell ⟨gw, 2, none⟩ x).setCell ⟨gw, 3, none⟩ y).cell? ⟨gw, 1, none⟩ = some (.bool op'))) := fun W v x y hS => by
                          have hS' := HKk.out W v hS
                          exact ⟨cellFar (cellFar hS'.1 _ (.inl hn2)) _ (.inl hn2), cellFar (cellFar hS'.2.1 _ (.inr (by decide))) _ (.inr (by decide)), cellFar (cellFar hS'.2.2 _ (.inr (by decide))) _ (.inr (by decide))⟩
                        have hw0 : IntKind.i64.wrap 0 = 0 := by decide
                        have hw1 : IntKind.i64.wrap 1 = 1 := by decide
                        have hw2 : IntKind.i64.wrap (1 - 0) = 1 := by decide
                        go_upto_region 38 with fail
                        go_region_held3 (fun W => W.cell? ⟨gt, 0, none⟩ = some (.pointer (some ⟨h, 0, none⟩)) ∧ W.cell? ⟨gw, 0, none⟩ = some (.slice q5 kn d5) ∧ W.cell? ⟨gw, 1, none⟩ = some (.bool op')) (first | (with_reducible exact hk9) | (with_reducible exact HKk.out _ _ hk9) | (with_reducible exact HKm.out _ _ _ _ hk9) | go_keep)
                          (first | (go_at_call 24; (with_reducible refine hCp.mono ?_); rintro e w6 ⟨h', b', rfl, hT6, hb6, hh6, hb6'⟩; have HB6 : Hid (Below w5.heap.size w5 w6) := below_step (below_draws (below_self w5) 1) hb6; have HU6 := Hid.in hT6; have HH6 : Hid (w5.heap.size ≤ h' ∧ w5.heap.size ≤ b') := ⟨hh6, hb6'⟩; have HT6 := Hid.in (HT5.out.below HB6.out); have hk9 := HKs.out w6 HB6.out; have y0 := HT6.out.bt.cell 1; have y1 := HT6.out.bw.cell 2; have y2 := HT6.out.bw.cell 3; simp only [List.getElem?_toArray, List.getElem?_cons_zero, List.getElem?_cons_succ] at y0 y1 y2; have f0 := HT6.out.bt.free 1; have f1 := HT6.out.bw.free 2; have f2 := HT6.out.bw.free 3; clear hT6 hb6 hh6 hb6' hCp))
                        have HT7 := Hid.in (HT5.out.setT HB6.out hk2' (j := 1) (by decide) (by rw [HTk.out]; exact HU6.out) HH6.out.1 HH6.out.2 (by rw [HTk.out]; exact ptr_set hj2 HT6.out.bt ⟨h', b', n5, cs', op', p', c'⟩) (grown_setCell w6 gt 1 (.pointer (some ⟨h', 0, none⟩))))
                        rw [HTk.out] at HT7
                        have HW8 := Hid.in (ref_setK hj2 HT7.out.bw q5 d5 cs' op' HL5.out)
                        have HG8 := Hid.in ((grown_setCell (w6.setCell ⟨gt, 1, none⟩ (.pointer (some ⟨h', 0, none⟩))) gw (1 * 2) (.slice q5 kn d5)).trans (grown_setCell _ gw (1 * 2 + 1) (.bool op')))
                        have HT8 := Hid.in (HT7.out.setR hj2 ⟨q5, d5, cs', op'⟩ HW8.out HG8.out (HT7.out.rowY hk2' HRk.out) (HT7.out.newR hk2' (by rw [HRk.out]) (by rw [HRk.out]) rfl (.inl rfl)) HL5.out)
                        clear HW8 HG8 HT7 HT6 HU6 HB6 HKs HKk HKm HT5
                        go_wp2_with fail
                        go_meet
                        case rel => exact pk_of HT8.out HSy.out rfl rfl (by show n5 ≤ _; omega)
                    · as_aux_lemma =>
                        clear o0 o1 o2 o3'
                        have hk2' : 1 < 2 := by decide
                        have hj2 : 0 < 2 := by decide
                        have HKs : Hid (∀ W, Below w5.heap.size w5 W → W.cell? ⟨gt, 1, none⟩ = some (.pointer (some ⟨h, 0, none⟩)) ∧ W.cell? ⟨gw, 2, none⟩ = some (.slice q5 kn d5) ∧ W.cell? ⟨gw, 3, none⟩ = some (.bool op')) := fun W hW => ⟨(HT5.out.below hW).ptrY hk2' HTk.out, ((HT5.out.below hW).refY (k := 1) hk2' HRk.out).1, ((HT5.out.below hW).refY (k := 1) hk2' HRk.out).2⟩
                        have HTd : Hid (TabAt w5.drew h b n5 cs' op' p' c' si) := (HT5.out.below (below_draws (below_self w5) 1)).tabY hk2' HTk.out
                        have hCp := tcopy_any h b n5 cs' op' p' c' si w5.drew HTd.out
                        obtain ⟨x0, x1, x2⟩ := HKs.out w5 (below_self _)
                        have hn1 : ¬ gt = gw := HT5.out.bt.neT HT5.out.bw (by decide)
                        have hn2 : ¬ gw = gt := fun e => hn1 e.symm
                        have HKk : Hid (∀ (W : World) (v : Value), (W.cell? ⟨gt, 1, none⟩ = some (.pointer (some ⟨h, 0, none⟩)) ∧ W.cell? ⟨gw, 2, none⟩ = some (.slice q5 kn d5) ∧ W.cell? ⟨gw, 3, none⟩ = some (.bool op')) → ((W.setCell ⟨gt, 0, none⟩ v).cell? ⟨gt, 1, none⟩ = some (.pointer (some ⟨h, 0, none⟩)) ∧ (W.setCell ⟨gt, 0, none⟩ v).cell? ⟨gw, 2, none⟩ = some (.slice q5 kn d5) ∧ (W.setCell ⟨gt, 0, none⟩ v).cell? ⟨gw, 3, none⟩ = some (.bool op'))) := fun W v hS => by
                          exact ⟨cellFar hS.1 _ (.inr (by decide)), cellFar hS.2.1 _ (.inl hn1), cellFar hS.2.2 _ (.inl hn1)⟩
                        have HKm : Hid (∀ (W : World) (v x y : Value), (W.cell? ⟨gt, 1, none⟩ = some (.pointer (some ⟨h, 0, none⟩)) ∧ W.cell? ⟨gw, 2, none⟩ = some (.slice q5 kn d5) ∧ W.cell? ⟨gw, 3, none⟩ = some (.bool op')) → ((((W.setCell ⟨gt, 0, none⟩ v).setCell ⟨gw, 0, none⟩ x).setCell ⟨gw, 1, none⟩ y).cell? ⟨gt, 1, none⟩ = some (.pointer (some ⟨h, 0, none⟩)) ∧ (((W.setCell ⟨gt, 0, none⟩ v).setCell ⟨gw, 0, none⟩ x).setCell ⟨gw, 1, none⟩ y).cell? ⟨gw, 2, none⟩ = some (.slice q5 kn d5) ∧ (((W.setCell ⟨gt, 0, none⟩ v).setCell ⟨gw, 0, none⟩ x).setCell ⟨gw, 1, none⟩ y).cell? ⟨gw, 3, none⟩ = some (.bool op'))) := fun W v x y hS => by
                          have hS' := HKk.out W v hS
                          exact ⟨cellFar (cellFar hS'.1 _ (.inl hn2)) _ (.inl hn2), cellFar (cellFar hS'.2.1 _ (.inr (by decide))) _ (.inr (by decide)), cellFar (cellFar hS'.2.2 _ (.inr (by decide))) _ (.inr (by decide))⟩
                        have hw0 : IntKind.i64.wrap 0 = 0 := by decide
                        have hw1 : IntKind.i64.wrap 1 = 1 := by decide
                        have hw2 : IntKind.i64.wrap (1 - 1) = 0 := by decide
                        go_upto_region 38 with fail
                        go_region_held3 (fun W => W.cell? ⟨gt, 1, none⟩ = some (.pointer (some ⟨h, 0, none⟩)) ∧ W.cell? ⟨gw, 2, none⟩ = some (.slice q5 kn d5) ∧ W.cell? ⟨gw, 3, none⟩ = some (.bool op')) (first | (with_reducible exact hk9) | (with_reducible exact HKk.out _ _ hk9) | (with_reducible exact HKm.out _ _ _ _ hk9) | go_keep)
                          (first | (go_at_call 24; (with_reducible refine hCp.mono ?_); rintro e w6 ⟨h', b', rfl, hT6, hb6, hh6, hb6'⟩; have HB6 : Hid (Below w5.heap.size w5 w6) := below_step (below_draws (below_self w5) 1) hb6; have HU6 := Hid.in hT6; have HH6 : Hid (w5.heap.size ≤ h' ∧ w5.heap.size ≤ b') := ⟨hh6, hb6'⟩; have HT6 := Hid.in (HT5.out.below HB6.out); have hk9 := HKs.out w6 HB6.out; have y0 := HT6.out.bt.cell 0; have y1 := HT6.out.bw.cell 0; have y2 := HT6.out.bw.cell 1; simp only [List.getElem?_toArray, List.getElem?_cons_zero, List.getElem?_cons_succ] at y0 y1 y2; have f0 := HT6.out.bt.free 0; have f1 := HT6.out.bw.free 0; have f2 := HT6.out.bw.free 1; clear hT6 hb6 hh6 hb6' hCp))
                        have HT7 := Hid.in (HT5.out.setT HB6.out hk2' (j := 0) (by decide) (by rw [HTk.out]; exact HU6.out) HH6.out.1 HH6.out.2 (by rw [HTk.out]; exact ptr_set hj2 HT6.out.bt ⟨h', b', n5, cs', op', p', c'⟩) (grown_setCell w6 gt 0 (.pointer (some ⟨h', 0, none⟩))))
                        rw [HTk.out] at HT7
                        have HW8 := Hid.in (ref_setK hj2 HT7.out.bw q5 d5 cs' op' HL5.out)
                        have HG8 := Hid.in ((grown_setCell (w6.setCell ⟨gt, 0, none⟩ (.pointer (some ⟨h', 0, none⟩))) gw (0 * 2) (.slice q5 kn d5)).trans (grown_setCell _ gw (0 * 2 + 1) (.bool op')))
                        have HT8 := Hid.in (HT7.out.setR hj2 ⟨q5, d5, cs', op'⟩ HW8.out HG8.out (HT7.out.rowY hk2' HRk.out) (HT7.out.newR hk2' (by rw [HRk.out]) (by rw [HRk.out]) rfl (.inl rfl)) HL5.out)
                        clear HW8 HG8 HT7 HT6 HU6 HB6 HKs HKk HKm HT5
                        go_wp2_with fail
                        go_meet
                        case rel => exact pk_of HT8.out HSy.out rfl rfl (by show n5 ≤ _; omega)
                  · have b4 : (ky == 4) = false := beq_eq_false_iff_ne.2 hk4
                    have c4 : decide (ky = 4) = false := decide_eq_false hk4
                    clear hk1 hk2' hk4
                    go_wp2_with fail
                    go_meet
                    case rel => exact ⟨T, R, HT5.out, fun j hj => by have := HSy.out j hj; exact ⟨this.1, this.2.1, by omega⟩⟩
            case rest =>
              obtain ⟨T', R', hT', hSy'⟩ := hcut
              have HT6 := Hid.in hT'
              have HSy6 := Hid.in hSy'
              clear hT' hSy' HT5 HSy HOb hz hOp
              obtain ⟨⟨h0', b0', n0, cs0, op0, p0', c0'⟩, hT0⟩ : ∃ y, T' 0 = y := ⟨_, rfl⟩
              obtain ⟨⟨q0, d0, cs0', op0'⟩, hR0⟩ : ∃ y, R' 0 = y := ⟨_, rfl⟩
              obtain ⟨⟨h1', b1', n1, cs1, op1, p1', c1'⟩, hT1⟩ : ∃ y, T' 1 = y := ⟨_, rfl⟩
              obtain ⟨⟨q1, d1, cs1', op1'⟩, hR1⟩ : ∃ y, R' 1 = y := ⟨_, rfl⟩
              obtain ⟨e0, e0', -⟩ := HSy6.out 0 (by decide)
              obtain ⟨e3, e3', -⟩ := HSy6.out 1 (by decide)
              rw [hT0, hR0] at e0 e0'
              rw [hT1, hR1] at e3 e3'
              simp only at e0 e0' e3 e3'
              subst e0 e0' e3 e3'
              have l0 : cs0'.length = kn := by have := HT6.out.lR 0 (by decide); rw [hR0] at this; exact this
              have l1 : cs1'.length = kn := by have := HT6.out.lR 1 (by decide); rw [hR1] at this; exact this
              have HA := Hid.in (fun W (hW : Below wc.heap.size wc W) => looks_kn h0' b0' n0 cs0' op0' p0' c0' si q0 d0 kn W l0 ((HT6.out.below hW).tabY (by decide) hT0) ((HT6.out.below hW).rowY (by decide) hR0))
              have HC := Hid.in (fun W (hW : Below wc.heap.size wc W) => looks_kn h1' b1' n1 cs1' op1' p1' c1' si q1 d1 kn W l1 ((HT6.out.below hW).tabY (by decide) hT1) ((HT6.out.below hW).rowY (by decide) hR1))
              have HK6 : Hid (∀ W, Below wc.heap.size wc W → W.cell? ⟨gt, 1, none⟩ = some (.pointer (some ⟨h1', 0, none⟩)) ∧ W.cell? ⟨gw, 2, none⟩ = some (.slice q1 kn d1) ∧ W.cell? ⟨gw, 3, none⟩ = some (.bool op1')) := fun W hW => ⟨(HT6.out.below hW).ptrY (by decide) hT1, ((HT6.out.below hW).refY (k := 1) (by decide) hR1).1, ((HT6.out.below hW).refY (k := 1) (by decide) hR1).2⟩
              have x0 := HT6.out.ptrY (by decide) hT0
              obtain ⟨x1, x2⟩ := HT6.out.refY (k := 0) (by decide) hR0
              rw [Nat.zero_mul] at x1 x2
              clear hT0 hT1 hR0 hR1 l0 l1
              go_wp2_with (go_at_call 25; refine Hid.out ?_)
              refine Lib.hid ?_
              (with_reducible refine (HA.out _ (below_self _)).mono ?_)
              rintro e w6 ⟨rfl, hb6⟩
              obtain ⟨x3, x4, x5⟩ := HK6.out w6 hb6
              have HB6 := Hid.in hb6
              clear hb6 x0 x1 x2 HA HK6
              go_wp2_with (go_at_call 25; refine Hid.out ?_)
              refine Lib.hid ?_
              (with_reducible refine (HC.out _ HB6.out).mono ?_)
              rintro e w7 ⟨rfl, hb7⟩
              have HT7 := Hid.in (HT6.out.below (below_step HB6.out hb7))
              clear hb7 HC HT6 HB6 x3 x4 x5
              go_wp2_with fail
              go_roundw
              case rel => exact ⟨i + 1, by go_num, by omega, T', R', HT7.out, HSy6.out⟩
              case measure => simp [intOf]; omega
          · obtain ⟨T, R, hT5, -⟩ := HP.out
            have HBw := Hid.in hT5.bel
            clear hT5 HP
            have f1 : decide ((i : Int) < (O.length : Int)) = true → decide ((i : Int) < 300) = false := fun h => decide_eq_false (by have := of_decide_eq_true h; omega)
            by_cases hio : i < O.length
            · have e1 : decide ((i : Int) < (O.length : Int)) = true := decide_eq_true (by omega)
              have e2 := f1 e1
              clear f1
              go_wp2_with (go_at_call 15; refine (awake_any _).mono ?_; rintro e w5 ⟨rfl, hb5⟩; have HB5 := Hid.in (below_step HBw.out hb5); clear hb5)
              go_ret
              exact ⟨rfl, HB5.out⟩
            · have e1 : decide ((i : Int) < (O.length : Int)) = false := decide_eq_false (by omega)
              clear f1
              go_wp2_with (go_at_call 15; refine (awake_any _).mono ?_; rintro e w5 ⟨rfl, hb5⟩; have HB5 := Hid.in (below_step HBw.out hb5); clear hb5)
              go_ret
              exact ⟨rfl, HB5.out⟩
end Go.Proofs.Ytkpieeldoielgaa

namespace Go.Proofs.Ytkpieeldoielgaa
open Go.ChangeShapes Go.WideShapes Go.ChangeAt Go.RowKit
open Go.ChangeMaps (open_string shut_string)

set_option maxRecDepth 100000 in
theorem keysPlays_lifted (os : Os) (started : os.Started) (H : Type) (enc : TypeId × Value → H) :
    ReturnsInHanded {} Try.checked os 4 .any (Rows.keysPlaysSpec.pre6 enc Try.prog Try.f4 Rows.keysPlaysRow.domain false) (Rows.keysPlaysSpec.post enc Try.prog Try.f4 false true false false) := by
  refine returnsInHanded_of_change_sized (C := Try.checked) Try.own started (by kernel_rfl) Try.func4
    (ChangeSpec.witness6 (enc := enc) (C := Try.checked) false ⟨#[], #[.slice none 0 0, .slice none 0 0], []⟩ 8 (by kernel_rfl) (by kernel_rfl) (by kernel_rfl) (by kernel_rfl)) ?_
  intro W base args ds gs before hval0 hW hcnd hsz0 _
  have hW' := hW
  obtain ⟨p, q, hA0, hV, rfl, hfz, hnd⟩ := hW
  have hA : DataW.TrodAll enc Try.prog W 0 (fun _ => true) true Try.f4.params.toList args.toList ds p := hA0
  have hval : ∀ (j : Nat) t v, Try.f4.params[j]? = some t → args[j]? = some v → Value.okWide Try.prog W .any base t v := hval0
  have hsz : (DataW.weightsEach Try.prog (Try.f4.params.toList ++ Rows.keysPlaysSpec.plain.varTypes Try.prog) (ds ++ gs)).all (· ≤ reachBytes) = true := hsz0
  rw [Try.params4] at hA hval hsz
  obtain ⟨v0, vs0, d0, ds0, p0, q0_, hargs, rfl, rfl, h0, r0⟩ := trodAll_cons hA
  obtain ⟨v1, vs1, d1, ds1, p1, q1_, rfl, rfl, rfl, h1, r1⟩ := trodAll_cons r0
  obtain ⟨rfl, rfl, rfl⟩ := trodAll_nil r1
  obtain rfl : args = #[v0, v1] := by cases args; simp_all
  obtain ⟨rfl, rfl⟩ := trodVars_none hV
  have k0 := h0
  have lt0 : ∀ x ∈ p0, x.block < W.heap.size := by obtain ⟨m, hm⟩ := k0; exact DataW.trod_lt m _ _ _ hm
  obtain ⟨q0, n0, e0, zs0, rfl, hl0, hn0, he0, hr0⟩ := open_ints_val (hval 0 29 v0 rfl rfl) h0 hsz (j := 0) rfl rfl
  have k1 := h1
  have lt1 : ∀ x ∈ p1, x.block < W.heap.size := by obtain ⟨m, hm⟩ := k1; exact DataW.trod_lt m _ _ _ hm
  obtain ⟨q1, e1, L1, rfl, hL1, hs1⟩ := open_script_val (hval 1 43 v1 rfl rfl) h1 hsz (j := 1) rfl rfl
  refine (plays_walk q0 n0 e0 zs0 q1 e1 L1 W hl0 hn0 he0 hr0 hL1 hs1).mono fun e W' ⟨he, bel⟩ => ?_
  subst he
  exact ⟨_, rfl, _, _, _, [], _, [], hW', trodAll_mk1 (shut_bool Try.underlying4 _), (trodAll_cons_mk (Below.trod Try.laidOut (by kernel_rfl) (of_decide_eq_true (by kernel_rfl)) k0 bel lt0) (trodAll_cons_mk (Below.trod Try.laidOut (by kernel_rfl) (of_decide_eq_true (by kernel_rfl)) k1 bel lt1) trodAll_mk0)), rfl, bel.frame _, fun h => by cases h⟩

theorem keysPlays_holds : Rows.KeysPlaysSaid :=
  OpenClaim.holds_of_wide 4 Try.f4 rfl rfl rfl rfl rfl rfl rfl ⟨rfl, rfl, rfl, rfl, rfl⟩ rfl rfl rfl rfl rfl (by kernel_rfl) Try.func4 (by kernel_rfl)
    (of_decide_eq_true (by kernel_rfl)) (by unfold Func.isWrapper; first | (rw [if_pos (by decide +kernel)]; kernel_rfl) | (rw [if_neg (by decide +kernel)]; exact ⟨rfl, rfl⟩))
    (fun os started H enc _ => keysPlays_lifted os started H enc)
#print axioms keysPlays_holds

end Go.Proofs.Ytkpieeldoielgaa
