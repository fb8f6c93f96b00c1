/- SyncsOver. -/
import Derived.Test.YtibbcenfkmgbcaaOvrL
import Derived.Test.YtibbcenfkmgbcaaOpenS
namespace Go.Proofs.Ytibbcenfkmgbcaa
open Go.RowKit

theorem zero_forms (cc : Nat) : ∃ t : Bool, decide (cc = 0) = t ∧ decide ((cc : Int) = 0) = t ∧ ((cc : Int) == 0) = t ∧ (cc == 0) = t := by
  by_cases h : cc = 0
  · subst h; exact ⟨true, rfl, rfl, rfl, rfl⟩
  · have h' : ¬ (cc : Int) = 0 := by omega
    exact ⟨false, by simpa using h, by simpa using h', by simpa using h', by simpa using h⟩
set_option maxRecDepth 8000 in
set_option maxHeartbeats 2000000 in
theorem over_walk (p po : Option Addr) (c no co : Nat) (rs0 : List Bool) (zs : List Int) (z : Int) (w : World) (hc : rs0.length ≤ c) (hcm : c ≤ 9223372036854775807) (hr : BRow w p rs0) (hz : zs.length = no) (hro : GRow w po (numZ zs)) :
    Calls Try.prog 6 #[.slice p rs0.length c, .slice po no co, .int .i64 z] w fun e w' => e = .returned (.bool true) ∧ Below w.heap.size w w' := by
  have HR : Hid (∀ W, Below w.heap.size w W → BRow W p (rs0.take 8)) := fun W hW => (hr.below hW).take 8
  have HO : Hid (∀ W, Below w.heap.size w W → GRow W po (numZ zs)) := fun W hW => hro.below hW
  have hl8 : (rs0.take 8).length ≤ 8 := by rw [List.length_take]; omega
  have HV1 : Hid (8 < rs0.length → (rs0.take 8).length = 8) := fun h => by rw [List.length_take]; omega
  have HV2 : Hid (¬ 8 < rs0.length → (rs0.take 8).length = rs0.length) := fun h => by rw [List.length_take]; omega
  have HP8 : Hid (8 < rs0.length → ∃ b0 o0, p = some ⟨b0, o0, none⟩) := fun h => by
    obtain ⟨b0, o0, e, _⟩ := hr (by omega)
    exact ⟨b0, o0, e⟩
  have HZ := Hid.in hz
  generalize rs0.take 8 = rs at *
  clear hr hro hz
  go_enter Try.func6, Try.ntmps6
  go_upto_if 24 with fail
  go_cut [0] (fun v wx => (∃ c', v = .slice p rs.length c') ∧ wx = w)
  case first =>
    by_cases h8 : 8 < rs0.length
    · have e := HV1.out h8
      obtain ⟨b0, o0, rfl⟩ := HP8.out h8
      have g2 : decide (8 < rs0.length) = true := decide_eq_true h8
      clear HV1 HV2 HP8 HR
      go_wp2_with fail
      go_meet
      case rel => exact ⟨⟨_, by rw [e]⟩, rfl⟩
    · have HE := Hid.in (HV2.out h8)
      have g2 : decide (8 < rs0.length) = false := decide_eq_false h8
      go_wp2_with fail
      go_meet
      case rel => exact ⟨⟨_, by rw [HE.out]⟩, rfl⟩
  case rest =>
    obtain ⟨⟨c', rfl⟩, rfl⟩ := hcut
    clear HV1 HV2 HP8
    rename World => w
    go_wp2_with (go_at_call 8; refine Hid.out ?_)
    refine Lib.hid ?_
    refine (RW.new rs.length w w hl8 (below_self w)).mono ?_
    rintro e w1 ⟨q, rfl, hq, hb1, -⟩
    have HQ := Hid.in hq
    clear hq hb1
    go_wp2_with fail
    go_loopw [9] (fun vk wr => ∃ (j : Nat) (fs : List Bool), vk = .int .i64 ((j : Int) + 1) ∧ j ≤ 4 ∧ RW w wr q fs j ∧ fs.length = rs.length ∧ ovr fs = true) (fun vk _ => 5 - (intOf vk).toNat)
    case atStart => exact ⟨0, _, rfl, by decide, HQ.out, by simp, repl_ovr _⟩
    case round =>
      obtain ⟨j, fs, rfl, hj, hq, hfl, hov⟩ := hrel
      clear HQ
      have HQ := Hid.in hq
      have HFL := Hid.in hfl
      have HOV := Hid.in hov
      clear hq hfl hov
      go_wp2_with (go_at_call 23; refine Hid.out ?_)
      refine Lib.hid ?_
      refine (pick_any z 4 (by decide) (by decide) wr).mono ?_
      rintro e w4 ⟨⟨pk, hpk, rfl⟩, hw⟩
      rw [hw]
      clear hw
      by_cases hle : (j : Int) + 1 ≤ 1 + (pk : Int)
      · have hdle : decide ((j : Int) + 1 ≤ 1 + (pk : Int)) = true := decide_eq_true hle
        have hj3 : j ≤ 3 := by omega
        have HL := Hid.in (HR.out wr HQ.out.bel)
        go_wp2_with (go_at_call 9; refine Hid.out ?_)
        refine Lib.hid ?_
        refine (HQ.out.send c' p rs HL.out (by omega) (by omega) HFL.out.symm HOV.out).mono ?_
        rintro e w2 ⟨rfl, hq⟩
        have HQ2 := Hid.in hq
        clear hq HQ HL HFL HOV fs
        go_wp2_with (go_at_call 11; refine Hid.out ?_)
        refine Lib.hid ?_
        refine (number_any q _ _ w2 HQ2.out.rnd).mono ?_
        rintro e w4 ⟨rfl, hw⟩
        rw [hw]
        clear hw
        go_wp2_with fail
        go_loop [12, 13] (fun vl vi => ∃ i : Nat, vi = .int .i64 i ∧ i ≤ rs.length ∧ vl = .int .i64 (cnt (rs.take i))) (fun _ vi => rs.length - (intOf vi).toNat)
        case atStart => exact ⟨0, rfl, Nat.zero_le _, rfl⟩
        case round =>
          obtain ⟨i, rfl, hi, rfl⟩ := hrel
          have hcl := cnt_le (rs.take i)
          rw [List.length_take] at hcl
          by_cases hil : i < rs.length
          · have hdi : decide ((i : Int) < (rs.length : Int)) = true := decide_eq_true (by omega)
            obtain ⟨b0, o0, rfl, hcell⟩ := HR.out w2 HQ2.out.bel (by omega)
            have ck := hcell i hil
            have HST := Hid.in (cnt_step rs i hil)
            generalize rs.getD i false = t at *
            generalize cnt (rs.take i) = cc at *
            clear hcell
            cases t
            · go_wp2_with fail
              go_round
              case rel => exact ⟨i + 1, by go_num, by omega, by rw [HST.out]; simp⟩
              case measure => simp [intOf]; omega
            · go_wp2_with fail
              go_round
              case rel => exact ⟨i + 1, by go_num, by omega, by rw [HST.out]; go_num⟩
              case measure => simp [intOf]; omega
          · have hdi : decide ((i : Int) < (rs.length : Int)) = false := decide_eq_false (by omega)
            have hii : i = rs.length := by omega
            have h10 := over_any q _ _ w2 HQ2.out.rnd
            rw [ovr_cnt] at h10
            have HE : Hid (cnt (rs.take i) = cnt rs) := by show cnt (rs.take i) = cnt rs; rw [List.take_of_length_le (by omega)]
            rw [HE.out] at hcl ⊢
            clear HE hii
            have HCN : Hid (∃ cc, cnt rs = cc) := ⟨_, rfl⟩
            obtain ⟨cc, hcc⟩ := HCN.out
            rw [hcc] at hcl h10 ⊢
            have HCC := Hid.in hcc
            clear hcc HCN
            obtain ⟨t, ht1, ht2, ht3, ht4⟩ := zero_forms cc
            rw [ht1] at h10
            go_wp2_with (go_at_call 10; refine Hid.out ?_)
            refine Lib.hid ?_
            refine h10.mono ?_
            rintro e w4 ⟨rfl, hw⟩
            rw [hw]
            clear hw h10
            go_upto_block 4 with fail
            go_cut [12] (fun vl wx => ∃ fs : List Bool, vl = .int .i64 (cnt fs) ∧ fs.length = rs.length ∧ RW w wx q fs ((j : Int) + 1))
            case first =>
              go_wp2_with fail
              clear ht1 ht2 ht3 ht4
              go_loopw [12, 14] (fun vl vi wr => ∃ (i : Nat) (fs : List Bool), vi = .int .i64 i ∧ i ≤ no ∧ i ≤ 40 ∧ vl = .int .i64 (cnt fs) ∧ fs.length = rs.length ∧ RW w wr q fs ((j : Int) + 1)) (fun _ vi _ => 40 - (intOf vi).toNat)
              case atStart => exact ⟨0, rs, rfl, Nat.zero_le _, by decide, by rw [HCC.out], rfl, HQ2.out⟩
              case round =>
                obtain ⟨i, fs, rfl, hi, hi4, rfl, hfl, hq⟩ := hrel
                clear HQ2 HCC hcl
                have HQ := Hid.in hq
                have HFL := Hid.in hfl
                clear hq hfl
                by_cases hin : i < no
                · have hd1 : decide ((i : Int) < (no : Int)) = true := decide_eq_true (by omega)
                  by_cases hi40 : i < 40
                  · have hd2 : decide ((i : Int) < 40) = true := decide_eq_true (by omega)
                    have hzl : i < (numZ zs).length := by rw [List.length_map, HZ.out]; exact hin
                    obtain ⟨b1, o1, rfl, hcell⟩ := HO.out wr HQ.out.bel (by omega)
                    have ck := hcell i hzl
                    rw [numZ_at _ _ (by rw [HZ.out]; exact hin)] at ck
                    generalize zs.getD i 0 = zi at *
                    clear hcell hzl
                    go_wp2_with (go_at_call 23; refine Hid.out ?_)
                    refine Lib.hid ?_
                    refine (pick_any zi 10 (by decide) (by decide) wr).mono ?_
                    rintro e w4 ⟨⟨m, hm, rfl⟩, hw⟩
                    rw [hw]
                    clear hw ck
                    obtain ⟨r3, hr3, hr3'⟩ : ∃ r3 : Nat, (i : Int) % 3 = r3 ∧ r3 < 3 := ⟨i % 3, by simp, by omega⟩
                    have hcfs := cnt_le fs
                    rw [HFL.out] at hcfs
                    have h12 := pending_any q fs _ ((m : Int) - 1) wr HQ.out.rnd
                    have h20 := HQ.out.drop ((m : Int) - 1)
                    have h13 := HQ.out.take ((m : Int) - 1)
                    have HPG := Hid.in (pnd_gone fs ((m : Int) - 1))
                    have HDL := Hid.in (drp_len fs ((m : Int) - 1))
                    cases hp : pnd fs ((m : Int) - 1)
                    · have HDN := Hid.in (drp_no hp)
                      unfold tkN at h13
                      rw [hp] at h12 h20 h13
                      rw [HDN.out] at h20 h13
                      obtain ⟨t, ht1, ht2, ht3, ht4⟩ := zero_forms (cnt fs)
                      have HOC : Hid (ovr fs = t) := by show ovr fs = t; rw [ovr_cnt, ht1]
                      have HPN := Hid.in hp
                      clear hp
                      generalize hcn : cnt fs = cc at *
                      have HCN := Hid.in hcn
                      clear hcn
                      by_cases h32 : r3 = 2
                      · subst h32
                        go_wp2_with (go_at_call 12; refine Hid.out ?_)
                        refine Lib.hid ?_
                        refine (h12).mono ?_
                        rintro e w4 ⟨rfl, hw⟩
                        rw [hw]
                        clear hw
                        go_wp2_with (go_at_call 20; refine Hid.out ?_)
                        refine Lib.hid ?_
                        refine (h20).mono ?_
                        rintro e w4 ⟨rfl, hq⟩
                        have HQ4 := Hid.in hq
                        clear hq h12 h20 h13
                        have h10 := over_any q _ _ w4 HQ4.out.rnd
                        have h12 := pending_any q _ _ ((m : Int) - 1) w4 HQ4.out.rnd
                        rw [HOC.out] at h10
                        rw [HPN.out] at h12
                        generalize w4 = w5 at *
                        go_wp2_with (go_at_call 10; refine Hid.out ?_)
                        refine Lib.hid ?_
                        refine (h10).mono ?_
                        rintro e w4 ⟨rfl, hw⟩
                        rw [hw]
                        clear hw
                        go_wp2_with (go_at_call 12; refine Hid.out ?_)
                        refine Lib.hid ?_
                        refine (h12).mono ?_
                        rintro e w4 ⟨rfl, hw⟩
                        rw [hw]
                        clear hw
                        go_wp2_with fail
                        go_roundw
                        case rel => exact ⟨i + 1, fs, by go_num, by omega, by omega, by rw [HCN.out], HFL.out, HQ4.out⟩
                        case measure => simp [intOf]; omega
                      · have h32a : ¬ (r3 : Int) = 2 := by omega
                        have h32b : ((r3 : Int) == 2) = false := by simpa using h32a
                        have h32c : decide ((r3 : Int) = 2) = false := decide_eq_false h32a
                        go_wp2_with (go_at_call 12; refine Hid.out ?_)
                        refine Lib.hid ?_
                        refine (h12).mono ?_
                        rintro e w4 ⟨rfl, hw⟩
                        rw [hw]
                        clear hw
                        go_wp2_with (go_at_call 13; refine Hid.out ?_)
                        refine Lib.hid ?_
                        refine (h13).mono ?_
                        rintro e w4 ⟨rfl, hq⟩
                        have HQ4 := Hid.in hq
                        clear hq h12 h20 h13
                        have h10 := over_any q _ _ w4 HQ4.out.rnd
                        have h12 := pending_any q _ _ ((m : Int) - 1) w4 HQ4.out.rnd
                        rw [HOC.out] at h10
                        rw [HPN.out] at h12
                        generalize w4 = w5 at *
                        go_wp2_with (go_at_call 10; refine Hid.out ?_)
                        refine Lib.hid ?_
                        refine (h10).mono ?_
                        rintro e w4 ⟨rfl, hw⟩
                        rw [hw]
                        clear hw
                        go_wp2_with (go_at_call 12; refine Hid.out ?_)
                        refine Lib.hid ?_
                        refine (h12).mono ?_
                        rintro e w4 ⟨rfl, hw⟩
                        rw [hw]
                        clear hw
                        go_wp2_with fail
                        go_roundw
                        case rel => exact ⟨i + 1, fs, by go_num, by omega, by omega, by rw [HCN.out], HFL.out, HQ4.out⟩
                        case measure => simp [intOf]; omega
                    · unfold tkN at h13
                      rw [hp] at h12 h20 h13
                      obtain ⟨fs', hfs'⟩ : ∃ fs', drp fs ((m : Int) - 1) = fs' := ⟨_, rfl⟩
                      have hcd := cnt_drp hp
                      rw [hfs'] at h20 h13 hcd HPG HDL
                      obtain ⟨t, ht1, ht2, ht3, ht4⟩ := zero_forms (cnt fs')
                      have HOC : Hid (ovr fs' = t) := by show ovr fs' = t; rw [ovr_cnt, ht1]
                      have hee : (cnt fs : Int) = (cnt fs' : Int) + 1 := by omega
                      have hb8 : cnt fs' ≤ 8 := by omega
                      rw [hee]
                      clear hp hfs' hcd hee
                      generalize hcn : cnt fs' = cc at *
                      have HCN := Hid.in hcn
                      clear hcn
                      by_cases h32 : r3 = 2
                      · subst h32
                        go_wp2_with (go_at_call 12; refine Hid.out ?_)
                        refine Lib.hid ?_
                        refine (h12).mono ?_
                        rintro e w4 ⟨rfl, hw⟩
                        rw [hw]
                        clear hw
                        go_wp2_with (go_at_call 20; refine Hid.out ?_)
                        refine Lib.hid ?_
                        refine (h20).mono ?_
                        rintro e w4 ⟨rfl, hq⟩
                        have HQ4 := Hid.in hq
                        clear hq h12 h20 h13
                        have h10 := over_any q _ _ w4 HQ4.out.rnd
                        have h12 := pending_any q _ _ ((m : Int) - 1) w4 HQ4.out.rnd
                        rw [HOC.out] at h10
                        rw [HPG.out] at h12
                        generalize w4 = w5 at *
                        go_wp2_with (go_at_call 10; refine Hid.out ?_)
                        refine Lib.hid ?_
                        refine (h10).mono ?_
                        rintro e w4 ⟨rfl, hw⟩
                        rw [hw]
                        clear hw
                        go_wp2_with (go_at_call 12; refine Hid.out ?_)
                        refine Lib.hid ?_
                        refine (h12).mono ?_
                        rintro e w4 ⟨rfl, hw⟩
                        rw [hw]
                        clear hw
                        go_wp2_with fail
                        go_roundw
                        case rel => exact ⟨i + 1, fs', by go_num, by omega, by omega, by rw [HCN.out], HDL.out.trans HFL.out, HQ4.out⟩
                        case measure => simp [intOf]; omega
                      · have h32a : ¬ (r3 : Int) = 2 := by omega
                        have h32b : ((r3 : Int) == 2) = false := by simpa using h32a
                        have h32c : decide ((r3 : Int) = 2) = false := decide_eq_false h32a
                        go_wp2_with (go_at_call 12; refine Hid.out ?_)
                        refine Lib.hid ?_
                        refine (h12).mono ?_
                        rintro e w4 ⟨rfl, hw⟩
                        rw [hw]
                        clear hw
                        go_wp2_with (go_at_call 13; refine Hid.out ?_)
                        refine Lib.hid ?_
                        refine (h13).mono ?_
                        rintro e w4 ⟨rfl, hq⟩
                        have HQ4 := Hid.in hq
                        clear hq h12 h20 h13
                        have h10 := over_any q _ _ w4 HQ4.out.rnd
                        have h12 := pending_any q _ _ ((m : Int) - 1) w4 HQ4.out.rnd
                        rw [HOC.out] at h10
                        rw [HPG.out] at h12
                        generalize w4 = w5 at *
                        go_wp2_with (go_at_call 10; refine Hid.out ?_)
                        refine Lib.hid ?_
                        refine (h10).mono ?_
                        rintro e w4 ⟨rfl, hw⟩
                        rw [hw]
                        clear hw
                        go_wp2_with (go_at_call 12; refine Hid.out ?_)
                        refine Lib.hid ?_
                        refine (h12).mono ?_
                        rintro e w4 ⟨rfl, hw⟩
                        rw [hw]
                        clear hw
                        go_wp2_with fail
                        go_roundw
                        case rel => exact ⟨i + 1, fs', by go_num, by omega, by omega, by rw [HCN.out], HDL.out.trans HFL.out, HQ4.out⟩
                        case measure => simp [intOf]; omega
                  · have hd2 : decide ((i : Int) < 40) = false := decide_eq_false (by omega)
                    go_wp2_with fail
                    go_meet
                    case rel => exact ⟨fs, rfl, HFL.out, HQ.out⟩
                · have hd1 : decide ((i : Int) < (no : Int)) = false := decide_eq_false (by omega)
                  go_wp2_with fail
                  go_meet
                  case rel => exact ⟨fs, rfl, HFL.out, HQ.out⟩
            case rest =>
              obtain ⟨fs, rfl, hfl, hq⟩ := hcut
              clear HQ2 HCC hcl ht1 ht2 ht3 ht4
              have HQ := Hid.in hq
              have HFL := Hid.in hfl
              have hcfs := cnt_le fs
              rw [hfl] at hcfs
              have HOC := Hid.in (ovr_cnt fs)
              clear hq hfl
              generalize cnt fs = cc at *
              go_upto_if 144 with fail
              go_cut [12] (fun _ wx => RW w wx q fs ((j : Int) + 1))
              case first =>
                by_cases h0 : 0 < cc
                · have hd0 : decide ((0 : Int) < (cc : Int)) = true := decide_eq_true (by omega)
                  have hov : ovr fs = false := by rw [HOC.out]; exact decide_eq_false (by omega)
                  go_wp2_with (go_at_call 9; refine Hid.out ?_)
                  refine Lib.hid ?_
                  refine (send_bad q c' p fs rs _ wc HQ.out.rnd (.inr hov)).mono ?_
                  rintro e w4 ⟨rfl, hw⟩
                  rw [hw]
                  clear hw hov
                  go_wp2_with (go_at_call 11; refine Hid.out ?_)
                  refine Lib.hid ?_
                  refine (number_any q _ _ wc HQ.out.rnd).mono ?_
                  rintro e w4 ⟨rfl, hw⟩
                  rw [hw]
                  clear hw
                  go_wp2_with fail
                  go_meet
                  case rel => exact HQ.out
                · have hd0 : decide ((0 : Int) < (cc : Int)) = false := decide_eq_false (by omega)
                  go_wp2_with fail
                  go_meet
                  case rel => exact HQ.out
              case rest =>
                have hq := hcut
                clear hcut HQ HOC hcfs
                have HQ := Hid.in hq
                clear hq
                go_wp2_with fail
                go_loopw [21] (fun vi wr => ∃ (i : Nat) (fs : List Bool), vi = .int .i64 i ∧ i ≤ rs.length ∧ Off8 fs i ∧ fs.length = rs.length ∧ RW w wr q fs ((j : Int) + 1)) (fun vi _ => rs.length - (intOf vi).toNat)
                case atStart => exact ⟨0, fs, rfl, Nat.zero_le _, fun j hj => absurd hj (Nat.not_lt_zero j), HFL.out, HQ.out⟩
                case round =>
                  obtain ⟨i, fs, rfl, hi, hoff, hfl, hq⟩ := hrel
                  clear HQ HFL
                  have HQ := Hid.in hq
                  have HFL := Hid.in hfl
                  have HOFF := Hid.in hoff
                  clear hq hfl hoff
                  by_cases hil : i < rs.length
                  · have hdi : decide ((i : Int) < (rs.length : Int)) = true := decide_eq_true (by omega)
                    go_wp2_with (go_at_call 20; refine Hid.out ?_)
                    refine Lib.hid ?_
                    refine (HQ.out.drop i).mono ?_
                    rintro e w5 ⟨rfl, hq5⟩
                    have HQ5 := Hid.in hq5
                    clear hq5 HQ
                    go_wp2_with fail
                    go_roundw
                    case rel => exact ⟨i + 1, _, by go_num, by omega, off_step HOFF.out, by rw [drp_len]; exact HFL.out, HQ5.out⟩
                    case measure => simp [intOf]; omega
                  · have hdi : decide ((i : Int) < (rs.length : Int)) = false := decide_eq_false (by omega)
                    have hii : i = rs.length := by omega
                    have HOV : Hid (ovr fs = true) := off_all (by rw [HFL.out, ← hii]; exact HOFF.out)
                    clear hii
                    go_wp2_with fail
                    go_roundw
                    case rel => exact ⟨j + 1, fs, by go_num, by omega, by have := HQ.out; exact this, HFL.out, HOV.out⟩
                    case measure => simp [intOf]; omega
      · have hdle : decide ((j : Int) + 1 ≤ 1 + (pk : Int)) = false := decide_eq_false hle
        have h10 := over_any q _ _ wr HQ.out.rnd
        rw [HOV.out] at h10
        go_wp2_with (go_at_call 10; refine Hid.out ?_)
        refine Lib.hid ?_
        refine h10.mono ?_
        rintro e w4 ⟨rfl, hw⟩
        rw [hw]
        clear hw
        go_wp2_with (go_at_call 14; refine Hid.out ?_)
        refine Lib.hid ?_
        refine (awake_any _).mono ?_
        rintro e wa ⟨rfl, hba⟩
        have HBa := Hid.in (below_step HQ.out.bel hba)
        clear hba
        go_wp2_with fail
        go_ret
        exact ⟨rfl, HBa.out⟩

end Go.Proofs.Ytibbcenfkmgbcaa
