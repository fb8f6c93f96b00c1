/- FetchWhole. -/
import Derived.Test.YteeeedphhaphpaaWhoL
import Derived.Deep.CutBlock
import Derived.BigQuiet
namespace Go.Proofs.Yteeeedphhaphpaa
open Go.RowKit Go.Maps

set_option maxRecDepth 8000 in
set_option maxHeartbeats 2000000 in
theorem whole_walk (p ph : Option Addr) (n c pc ch : Nat) (xs : List Int) (hs : List Bool) (w : World) (hx : xs.length = n) (hn : n ≤ 140737488351232) (hnc : n ≤ c) (hr : Row w p xs) (hpc : pc ≤ 4294967295) (hhl : hs.length ≤ 140737488351232) (hrh : BRow w ph hs) :
    Calls Try.prog 6 #[.slice p n c, .int .u32 pc, .slice ph hs.length ch] w fun e w' => e = .returned (.bool true) ∧ Below w.heap.size w w' := by
  have h8 := made_any p n c xs w hx (by omega) hnc hr
  have hzl : (xs.take 2000).length ≤ 2000 := by rw [List.length_take]; omega
  generalize xs.take 2000 = zs at *
  have HH : Hid (∀ W, Below w.heap.size w W → BRow W ph hs) := fun W hW => hrh.below hW
  clear hx hr hrh
  obtain ⟨K, hK⟩ : ∃ K, lenB (zs.getD pc 0) = K := ⟨_, rfl⟩
  have HK := Hid.in hK
  have HDN : Hid (doneB (padF zs pc K) = true) := by show doneB (padF zs pc K) = true; rw [← hK]; exact done_full zs pc
  have hK6 : 1 ≤ K ∧ K ≤ 6 := by rw [← hK]; exact lenB_in _
  clear hK
  go_enter Try.func6, Try.ntmps6
  go_wp2_with (go_at_call 8; refine Hid.out ?_)
  refine Lib.hid ?_
  refine h8.mono ?_
  rintro e w1 ⟨q, mg, l, b, pw, cw, rfl, hst, hrw, -, -⟩
  have HT := Hid.in hst
  have HRW := Hid.in hrw
  clear hst hrw h8
  go_wp2_with fail
  go_loopw [10] (fun vk wr => ∃ (k : Nat) (L : List Ln), vk = .int .i64 k ∧ k ≤ 2 ∧ FSt w wr q mg l b L zs ∧ Clean zs L ∧ L.length ≤ 3 * k ∧ Row wr pw zs) (fun vk _ => 2 - (intOf vk).toNat)
  case atStart => exact ⟨0, [], rfl, by decide, HT.out, clean_nil _, Nat.le_refl _, HRW.out⟩
  case round =>
    obtain ⟨k, L, rfl, hk, ht, hcl, hLk, hrw⟩ := hrel
    clear HT HRW
    have HT := Hid.in ht
    have HCL := Hid.in hcl
    have HLK := Hid.in hLk
    have HRW := Hid.in hrw
    clear ht hcl hLk hrw
    by_cases hk2 : k < 2
    · have hdk : decide ((k : Int) < 2) = true := decide_eq_true (by omega)
      go_upto_block 2 with fail
      go_cut [11] (fun v wx => ∃ (p' : Option Addr) (c' : Nat) (L' : List Ln), v = .slice p' K c' ∧ Row wx p' (padF zs pc K) ∧ pc < zs.length ∧ FSt w wx q mg l b L' zs ∧ Clean zs L' ∧ L'.length ≤ 3 * k + 3 ∧ Row wx pw zs)
      case first =>
        go_wp2_with fail
        go_loopw [11, 12] (fun v vi wx => ∃ (i : Nat) (p' : Option Addr) (c' : Nat) (L' : List Ln), v = .slice p' (mF zs pc i) c' ∧ vi = .int .i64 i ∧ i ≤ 3 ∧ (0 < i → pc < zs.length) ∧ Row wx p' (padF zs pc (mF zs pc i)) ∧ FSt w wx q mg l b L' zs ∧ Clean zs L' ∧ L'.length ≤ 3 * k + i ∧ Row wx pw zs) (fun _ vi _ => 3 - (intOf vi).toNat)
        case atStart => exact ⟨0, none, 0, L, by rw [mF_zero], rfl, by decide, fun h => absurd h (Nat.lt_irrefl 0), fun h => by rw [padF_len, mF_zero] at h; exact absurd h (Nat.lt_irrefl 0), HT.out, HCL.out, HLK.out, HRW.out⟩
        case round =>
          obtain ⟨i, p', c', L', rfl, rfl, hi, hpi, hr', ht', hcl', hL', hrw'⟩ := hrel
          clear HT HCL HLK HRW
          have HT' := Hid.in ht'
          have HCL' := Hid.in hcl'
          have HL' := Hid.in hL'
          have HRW' := Hid.in hrw'
          have HR' := Hid.in hr'
          have HPI := Hid.in hpi
          clear ht' hcl' hL' hrw' hr' hpi
          have hm6 := (mF_le zs pc i).2
          obtain ⟨m, hm⟩ : ∃ m, mF zs pc i = m := ⟨_, rfl⟩
          rw [hm] at hm6 HR' ⊢
          have HM := Hid.in hm
          clear hm
          by_cases hi3 : i < 3
          · have hdi : decide ((i : Int) < 3) = true := decide_eq_true (by omega)
            have h13 := done_any p' m c' (padF zs pc m) wr (padF_len ..) (by omega) HR'.out
            cases hd : doneB (padF zs pc m)
            · rw [hd] at h13
              go_wp2_with (go_at_call 13; refine Hid.out ?_)
              refine Lib.hid ?_
              refine h13.mono ?_
              rintro e w2 ⟨rfl, hb2⟩
              have HT2 := Hid.in (HT'.out.below hb2)
              have HR2 := Hid.in (HR'.out.below hb2)
              have HRW2 := Hid.in (HRW'.out.below hb2)
              clear hb2 h13 HT' HR' HRW'
              by_cases hs0 : hs.length = 0
              · have hg0 : decide (0 < hs.length) = false := decide_eq_false (by omega)
                clear hs0
                go_upto_region 10 with fail
                by_cases hin : pc + m < zs.length
                · obtain ⟨is, L2, hst, hcl2, hish, hl2⟩ := stp_pad (i := i) false HCL'.out hzl (by rw [HM.out]; exact hd) (by rw [HM.out]; exact hin)
                  obtain ⟨hg1, hg2⟩ := mF_grows (zs := zs) (pc := pc) (i := i) (by rw [HM.out]; exact hd)
                  have hm6' := (mF_le zs pc (i + 1)).2
                  have htk := padF_take zs pc (k := m) (m := mF zs pc (i + 1)) (by rw [← HM.out]; omega)
                  rw [HM.out] at hst hg1 hg2
                  have h9 := HT2.out.stepc pc c' p' (padF zs pc m) false (by have := HL'.out; omega) (by omega) hpc (by rw [padF_len]; omega) HR2.out
                  rw [hst, padF_len] at h9
                  dsimp only at h9
                  rw [padF_len] at h9
                  have hgq : ((pc : Int) + m) / 4 = (((pc + m) / 4 : Nat) : Int) := by omega
                  obtain ⟨m2, hm2⟩ : ∃ m2, mF zs pc (i + 1) = m2 := ⟨_, rfl⟩
                  rw [hm2] at h9 htk hg1 hg2 hm6'
                  have HM2 := Hid.in hm2
                  have HCL2 := Hid.in hcl2
                  have HL2 := Hid.in hl2
                  have HTK := Hid.in htk
                  generalize (pc + m) / 4 = G at *
                  clear hst hm2 hcl2 hl2 htk
                  have hge : decide ((zs.length : Int) ≤ (pc : Int) + m) = false := decide_eq_false (by omega)
                  have hle1 : decide (m2 ≤ m) = false := decide_eq_false (by omega)
                  have hle2 : decide ((m : Int) + 4 < m2) = false := decide_eq_false (by omega)
                  have hle3 : m ≤ m2 := by omega
                  have hisf : is = false := (by cases is; rfl; exact absurd (hish rfl) (by decide))
                  subst hisf
                  clear hish
                  go_wp2_with (go_at_call 9; refine Hid.out ?_)
                  refine Lib.hid ?_
                  refine h9.mono ?_
                  rintro e w3 ⟨p3, c3, rfl, hr3, hcap3, hcm3, ht3, hk3⟩
                  have HT3 := Hid.in ht3
                  have HR3 := Hid.in hr3
                  have HR23 := Hid.in (hk3 _ _ HR2.out)
                  have HRW3 := Hid.in (hk3 _ _ HRW2.out)
                  have hcap4 : m ≤ c3 := by omega
                  clear ht3 hr3 hk3 h9 HR2 HRW2 HT2
                  have h11 := sameBytes_any p3 p' m c3 m c' (padF zs pc m) (padF zs pc m) w3 (padF_len ..) (padF_len ..) (by omega) (by have := HR3.out.take m; rw [HTK.out] at this; exact this) HR23.out
                  rw [sameB_self] at h11
                  go_wp2_with (go_at_call 11; refine Hid.out ?_)
                  refine Lib.hid ?_
                  refine h11.mono ?_
                  rintro e w4 ⟨rfl, m4, rfl⟩
                  have HT4 := Hid.in (HT3.out.drewN m4)
                  have HR4 := Hid.in (HR3.out.drewN m4)
                  have HRW4 := Hid.in (HRW3.out.drewN m4)
                  clear HT3 HR3 HRW3 HR23 h11
                  generalize w3.drewN m4 = w4 at *
                  go_wp2_with fail
                  go_roundw
                  case rel => exact ⟨i + 1, p3, c3, L2, by rw [HM2.out], by go_num, by omega, fun _ => by omega, by rw [HM2.out]; exact HR4.out, HT4.out, HCL2.out, by have := HL2.out; have := HL'.out; omega, HRW4.out⟩
                  case measure => simp [intOf]; omega
                · have h9 := HT2.out.stepc pc c' p' (padF zs pc m) false (by have := HL'.out; omega) (by omega) hpc (by rw [padF_len]; omega) HR2.out
                  have hso := stp_pad_out (L := L') (zs := zs) (pc := pc) (i := i) false (by rw [HM.out]; exact hd) (by rw [HM.out]; omega)
                  rw [HM.out] at hso
                  rw [hso, padF_len] at h9
                  dsimp only at h9
                  have hge : decide ((zs.length : Int) ≤ (pc : Int) + m) = true := decide_eq_true (by omega)
                  go_wp2_with (go_at_call 9; refine Hid.out ?_)
                  refine Lib.hid ?_
                  refine h9.mono ?_
                  rintro e w3 ⟨p3, c3, rfl, -, -, -, ht3, -⟩
                  have HB3 := Hid.in ht3.bel
                  clear ht3 h9 hso HR2 HRW2 HT2
                  go_wp2_with (go_at_call 15; refine Hid.out ?_)
                  refine Lib.hid ?_
                  refine (awake_any _).mono ?_
                  rintro e wa ⟨rfl, hba⟩
                  have HBa := Hid.in (below_step HB3.out hba)
                  clear hba HB3
                  go_wp2_with fail
                  go_ret
                  exact ⟨rfl, HBa.out⟩
              · have hg0 : decide (0 < hs.length) = true := decide_eq_true (by omega)
                obtain ⟨bh, oh, rfl, hch⟩ := HH.out w2 HT2.out.bel (by omega)
                have hj : i % hs.length < hs.length := Nat.mod_lt _ (by omega)
                have hjr : (i : Int) % (hs.length : Int) = ((i % hs.length : Nat) : Int) := by simp
                have ch0 := hch _ hj
                generalize i % hs.length = j at *
                generalize hs.getD j false = hold at *
                clear hch
                go_upto_region 10 with fail
                clear ch0
                by_cases hin : pc + m < zs.length
                · obtain ⟨is, L2, hst, hcl2, hish, hl2⟩ := stp_pad (i := i) hold HCL'.out hzl (by rw [HM.out]; exact hd) (by rw [HM.out]; exact hin)
                  obtain ⟨hg1, hg2⟩ := mF_grows (zs := zs) (pc := pc) (i := i) (by rw [HM.out]; exact hd)
                  have hm6' := (mF_le zs pc (i + 1)).2
                  have htk := padF_take zs pc (k := m) (m := mF zs pc (i + 1)) (by rw [← HM.out]; omega)
                  rw [HM.out] at hst hg1 hg2
                  have h9 := HT2.out.stepc pc c' p' (padF zs pc m) hold (by have := HL'.out; omega) (by omega) hpc (by rw [padF_len]; omega) HR2.out
                  rw [hst, padF_len] at h9
                  dsimp only at h9
                  rw [padF_len] at h9
                  have hgq : ((pc : Int) + m) / 4 = (((pc + m) / 4 : Nat) : Int) := by omega
                  obtain ⟨m2, hm2⟩ : ∃ m2, mF zs pc (i + 1) = m2 := ⟨_, rfl⟩
                  rw [hm2] at h9 htk hg1 hg2 hm6'
                  have HM2 := Hid.in hm2
                  have HCL2 := Hid.in hcl2
                  have HL2 := Hid.in hl2
                  have HTK := Hid.in htk
                  generalize (pc + m) / 4 = G at *
                  clear hst hm2 hcl2 hl2 htk
                  have hge : decide ((zs.length : Int) ≤ (pc : Int) + m) = false := decide_eq_false (by omega)
                  have hle1 : decide (m2 ≤ m) = false := decide_eq_false (by omega)
                  have hle2 : decide ((m : Int) + 4 < m2) = false := decide_eq_false (by omega)
                  have hle3 : m ≤ m2 := by omega
                  cases is
                  · clear hish
                    go_wp2_with (go_at_call 9; refine Hid.out ?_)
                    refine Lib.hid ?_
                    refine h9.mono ?_
                    rintro e w3 ⟨p3, c3, rfl, hr3, hcap3, hcm3, ht3, hk3⟩
                    have HT3 := Hid.in ht3
                    have HR3 := Hid.in hr3
                    have HR23 := Hid.in (hk3 _ _ HR2.out)
                    have HRW3 := Hid.in (hk3 _ _ HRW2.out)
                    have hcap4 : m ≤ c3 := by omega
                    clear ht3 hr3 hk3 h9 HR2 HRW2 HT2
                    have h11 := sameBytes_any p3 p' m c3 m c' (padF zs pc m) (padF zs pc m) w3 (padF_len ..) (padF_len ..) (by omega) (by have := HR3.out.take m; rw [HTK.out] at this; exact this) HR23.out
                    rw [sameB_self] at h11
                    go_wp2_with (go_at_call 11; refine Hid.out ?_)
                    refine Lib.hid ?_
                    refine h11.mono ?_
                    rintro e w4 ⟨rfl, m4, rfl⟩
                    have HT4 := Hid.in (HT3.out.drewN m4)
                    have HR4 := Hid.in (HR3.out.drewN m4)
                    have HRW4 := Hid.in (HRW3.out.drewN m4)
                    clear HT3 HR3 HRW3 HR23 h11
                    generalize w3.drewN m4 = w4 at *
                    go_wp2_with fail
                    go_roundw
                    case rel => exact ⟨i + 1, p3, c3, L2, by rw [HM2.out], by go_num, by omega, fun _ => by omega, by rw [HM2.out]; exact HR4.out, HT4.out, HCL2.out, by have := HL2.out; have := HL'.out; omega, HRW4.out⟩
                    case measure => simp [intOf]; omega
                  · obtain rfl := hish rfl
                    clear hish
                    go_wp2_with (go_at_call 9; refine Hid.out ?_)
                    refine Lib.hid ?_
                    refine h9.mono ?_
                    rintro e w3 ⟨p3, c3, rfl, hr3, hcap3, hcm3, ht3, hk3⟩
                    have HT3 := Hid.in ht3
                    have HR3 := Hid.in hr3
                    have HR23 := Hid.in (hk3 _ _ HR2.out)
                    have HRW3 := Hid.in (hk3 _ _ HRW2.out)
                    have hcap4 : m ≤ c3 := by omega
                    clear ht3 hr3 hk3 h9 HR2 HRW2 HT2
                    have h11 := sameBytes_any p3 p' m c3 m c' (padF zs pc m) (padF zs pc m) w3 (padF_len ..) (padF_len ..) (by omega) (by have := HR3.out.take m; rw [HTK.out] at this; exact this) HR23.out
                    rw [sameB_self] at h11
                    go_wp2_with (go_at_call 11; refine Hid.out ?_)
                    refine Lib.hid ?_
                    refine h11.mono ?_
                    rintro e w4 ⟨rfl, m4, rfl⟩
                    have HT4 := Hid.in (HT3.out.drewN m4)
                    have HR4 := Hid.in (HR3.out.drewN m4)
                    have HRW4 := Hid.in (HRW3.out.drewN m4)
                    clear HT3 HR3 HRW3 HR23 h11
                    generalize w3.drewN m4 = w4 at *
                    go_wp2_with fail
                    go_roundw
                    case rel => exact ⟨i + 1, p3, c3, L2, by rw [HM2.out], by go_num, by omega, fun _ => by omega, by rw [HM2.out]; exact HR4.out, HT4.out, HCL2.out, by have := HL2.out; have := HL'.out; omega, HRW4.out⟩
                    case measure => simp [intOf]; omega
                · have h9 := HT2.out.stepc pc c' p' (padF zs pc m) hold (by have := HL'.out; omega) (by omega) hpc (by rw [padF_len]; omega) HR2.out
                  have hso := stp_pad_out (L := L') (zs := zs) (pc := pc) (i := i) hold (by rw [HM.out]; exact hd) (by rw [HM.out]; omega)
                  rw [HM.out] at hso
                  rw [hso, padF_len] at h9
                  dsimp only at h9
                  have hge : decide ((zs.length : Int) ≤ (pc : Int) + m) = true := decide_eq_true (by omega)
                  go_wp2_with (go_at_call 9; refine Hid.out ?_)
                  refine Lib.hid ?_
                  refine h9.mono ?_
                  rintro e w3 ⟨p3, c3, rfl, -, -, -, ht3, -⟩
                  have HB3 := Hid.in ht3.bel
                  clear ht3 h9 hso HR2 HRW2 HT2
                  go_wp2_with (go_at_call 15; refine Hid.out ?_)
                  refine Lib.hid ?_
                  refine (awake_any _).mono ?_
                  rintro e wa ⟨rfl, hba⟩
                  have HBa := Hid.in (below_step HB3.out hba)
                  clear hba HB3
                  go_wp2_with fail
                  go_ret
                  exact ⟨rfl, HBa.out⟩
            · rw [hd] at h13
              go_wp2_with (go_at_call 13; refine Hid.out ?_)
              refine Lib.hid ?_
              refine h13.mono ?_
              rintro e w2 ⟨rfl, hb2⟩
              have HT2 := Hid.in (HT'.out.below hb2)
              have HR2 := Hid.in (HR'.out.below hb2)
              have HRW2 := Hid.in (HRW'.out.below hb2)
              clear hb2 h13 HT' HR' HRW'
              have HME : Hid (m = K) := by show m = K; rw [← HK.out, ← HM.out]; exact done_end (by rw [HM.out]; exact hd)
              have hpz : pc < zs.length := HPI.out (by
                by_cases h0 : i = 0
                · have h1 := HM.out; have h2 := HME.out; rw [h0, mF_zero] at h1; omega
                · omega)
              go_wp2_with fail
              go_meet
              case rel => exact ⟨p', c', L', by rw [HME.out], by rw [← HME.out]; exact HR2.out, hpz, HT2.out, HCL'.out, by have := HL'.out; omega, HRW2.out⟩
          · have hi4 : i = 3 := by omega
            have HME : Hid (m = K) := by show m = K; rw [← HK.out, ← HM.out, hi4]; exact mF_three zs pc
            have hpz : pc < zs.length := HPI.out (by omega)
            subst hi4
            go_wp2_with fail
            go_meet
            case rel => exact ⟨p', c', L', by rw [HME.out], by rw [← HME.out]; exact HR'.out, hpz, HT'.out, HCL'.out, HL'.out, HRW'.out⟩
      case rest =>
        obtain ⟨p', c', L', rfl, hr', hpz, ht', hcl', hL', hrw'⟩ := hcut
        clear HT HCL HLK HRW
        have HT' := Hid.in ht'
        have HCL' := Hid.in hcl'
        have HL' := Hid.in hL'
        have HRW' := Hid.in hrw'
        have HR' := Hid.in hr'
        clear ht' hcl' hL' hrw' hr'
        obtain ⟨bw, ow, rfl, hcw⟩ := HRW'.out (by omega)
        have cw0 := hcw pc hpz
        have h25 := length_any (zs.getD pc 0) wc
        rw [HK.out] at h25
        generalize zs.getD pc 0 = y at *
        clear hcw
        go_wp2_with (go_at_call 25; refine Hid.out ?_)
        refine Lib.hid ?_
        refine h25.mono ?_
        rintro e w2 ⟨rfl, hb2⟩
        have HT2 := Hid.in (HT'.out.below hb2)
        have HR2 := Hid.in (HR'.out.below hb2)
        have HRW2 := Hid.in (HRW'.out.below hb2)
        clear hb2 h25 HT' HR' HRW' cw0
        have h13 := done_any p' K c' (padF zs pc K) w2 (padF_len ..) (by omega) HR2.out
        rw [HDN.out] at h13
        go_wp2_with (go_at_call 13; refine Hid.out ?_)
        refine Lib.hid ?_
        refine h13.mono ?_
        rintro e w3 ⟨rfl, hb3⟩
        have HT3 := Hid.in (HT2.out.below hb3)
        have HR3 := Hid.in (HR2.out.below hb3)
        have HRW3 := Hid.in (HRW2.out.below hb3)
        clear hb3 h13 HT2 HR2 HRW2
        go_wp2_with fail
        go_loop [19] (fun vi => ∃ i : Nat, vi = .int .i64 i ∧ i ≤ K) (fun vi => K - (intOf vi).toNat)
        case atStart => exact ⟨0, rfl, Nat.zero_le _⟩
        case round =>
          obtain ⟨i, rfl, hiK⟩ := hrel
          by_cases hi : i < K
          · have hdi : decide ((i : Int) < K) = true := decide_eq_true (by omega)
            obtain ⟨b3, o3, rfl, hc3⟩ := HR3.out (by rw [padF_len]; omega)
            have d3 := hc3 i (by rw [padF_len]; exact hi)
            rw [padF_at _ _ hi] at d3
            clear hc3
            by_cases hpi : pc + i < zs.length
            · have hdp : decide ((pc : Int) + i < zs.length) = true := decide_eq_true (by omega)
              obtain ⟨bw', ow', ebw, hcw⟩ := HRW3.out (by omega)
              injection ebw with ebw
              injection ebw with eb1 eb2
              subst eb1 eb2
              have cw1 := hcw (pc + i) hpi
              have hto : ((pc : Int) + i).toNat = pc + i := by omega
              generalize zs.getD (pc + i) 0 = z at *
              clear hcw
              go_wp2_with fail
              go_round
              case rel => exact ⟨i + 1, by go_num, by omega⟩
              case measure => simp [intOf]; omega
            · have hdp : decide ((pc : Int) + i < zs.length) = false := decide_eq_false (by omega)
              have e0 : zs.getD (pc + i) 0 = 0 := by simp only [List.getD, List.getElem?_eq_none (show zs.length ≤ pc + i by omega), Option.getD_none]
              rw [e0] at d3
              clear e0
              go_wp2_with fail
              go_round
              case rel => exact ⟨i + 1, by go_num, by omega⟩
              case measure => simp [intOf]; omega
          · have hdi : decide ((i : Int) < K) = false := decide_eq_false (by omega)
            go_wp2_with fail
            go_roundw
            case rel => exact ⟨k + 1, L', by go_num, by omega, HT3.out, HCL'.out, by have := HL'.out; omega, HRW3.out⟩
            case measure => simp [intOf]; omega
    · have hk3 : k = 2 := by omega
      go_wp2_with (go_at_call 15; refine Hid.out ?_)
      refine Lib.hid ?_
      refine (awake_any _).mono ?_
      rintro e wa ⟨rfl, hba⟩
      have HBa := Hid.in (below_step HT.out.bel hba)
      clear hba
      go_wp2_with fail
      go_ret
      exact ⟨rfl, HBa.out⟩

end Go.Proofs.Yteeeedphhaphpaa
