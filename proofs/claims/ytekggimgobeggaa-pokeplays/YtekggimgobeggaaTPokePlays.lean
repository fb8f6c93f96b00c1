/-
  Proved here: the law PokePlays (switchyardlaw19) answers true for every input, and each argument reads afterwards as it read before. No condition of ours: the row's own reach alone (each slice and text takes at most 2^47 - 4096 bytes).
-/
import Derived.Test.YtekggimgobeggaaGm

/- PokePlays: the walk. -/
namespace Go.Proofs.Ytekggimgobeggaa
open Go.RowKit Go.Sort

set_option maxRecDepth 20000 in
set_option maxHeartbeats 16000000 in
theorem plays_walk (p : Option Addr) (n c : Nat) (xs : List Int) (harts : Int) (sp : Option Addr) (sn sc : Nat) (X : List OpD) (w : World) (hx : xs.length = n) (hn : n ≤ 9223372036854775807) (hnc : n ≤ c) (hr : Row w p xs) (hX : X.length = sn) (_hsn : sn ≤ 9223372036854775807) (hs : Scr w sp X) :
    Calls Try.prog 4 #[.slice p n c, .int .i64 harts, .slice sp sn sc] w fun E w' => E = .returned (.bool true) ∧ Below w.heap.size w w' := by
  have HMD := Hid.in (made2_any p n c xs harts w hx hn hnc hr)
  have HSC := Hid.in hs
  have HX := Hid.in hX
  clear hx hnc hr hX hs hn
  go_enter Try.func4, Try.ntmps4
  go_wp2_with (go_at_call 20; refine Hid.out ?_)
  refine Lib.hid ?_
  refine HMD.out.mono ?_
  rintro E w1 ⟨k, mq, mg, rq, pq, bq, bv, g, -, hk9, rfl, hpa, hbv, hgo, hb1⟩
  have HPN : Hid (∀ w2 gw gs, Below w1.heap.size w1 w2 → Blk w2 gw 26 (wA mq rq pq) → Blk w2 gs 66 (stA bv (.slice (some ⟨g, 0, none⟩) k k) 0 0 0 (.slice none 0 0) (.slice none 0 0) 0 false ⟨0, 0, 0, 0, 0⟩) → w.heap.size ≤ gw → w.heap.size ≤ gs → PTx w w2 gw gs 0) := fun w2 gw gs a b c d e => pt_new hk9 (by rw [List.length_take]; omega) hpa hbv hgo hb1 a b c d e
  have HSZ := Hid.in hb1.size
  have hsh : ∃ p n c, bv = .slice p n c := by
    obtain ⟨A, -, ho⟩ := hbv
    obtain ⟨p, c, e, -⟩ := ho.slice
    exact ⟨_, _, _, e⟩
  obtain ⟨vp, vn, vc, rfl⟩ := hsh
  clear hpa hbv hgo hb1 HMD
  have HZ1 : Hid (Blk ((w1.alloc (.cells #[.pointer none, .pointer none, .pointer none] 26)).alloc (.cells stZ 66)) w1.heap.size 26 #[.pointer none, .pointer none, .pointer none]) := (Blk.new _ _ _).grow (new_alloc _ _)
  have HZ2 : Hid (Blk ((w1.alloc (.cells #[.pointer none, .pointer none, .pointer none] 26)).alloc (.cells stZ 66)) (w1.heap.size + 1) 66 stZ) := blk_second _ _ _ _ _
  have HZL : Hid (Below w1.heap.size w1 ((w1.alloc (.cells #[.pointer none, .pointer none, .pointer none] 26)).alloc (.cells stZ 66))) := below_alloc (new_alloc _ _) _
  go_wp2_with (first | (refine step_store_blk HZ1.out rfl 26 _ _ rfl rfl rfl (wA mq rq pq) rfl (by kernel_rfl) rfl (by kernel_rfl) ?_; intro w2 hb2 hk2; have HY1 := Hid.in hb2; have HY2 := Hid.in (HZ2.out.kept hk2 (by simp)); have HYL := Hid.in (HZL.out.trans (below_grown hk2 (Nat.le_refl _) HZL.out.size)); clear hb2 hk2) | (refine step_store_blk HY2.out rfl 66 _ _ rfl rfl rfl (stA (.slice vp vn vc) (.slice (some ⟨g, 0, none⟩) k k) 0 0 0 (.slice none 0 0) (.slice none 0 0) 0 false ⟨0, 0, 0, 0, 0⟩) rfl (by kernel_rfl) rfl (by kernel_rfl) ?_; intro w3 hb3 hk3; refine Hid.out ?_))
  refine Lib.hid ?_
  have HPT := Hid.in (HPN.out w3 w1.heap.size (w1.heap.size + 1) (HYL.out.trans (below_grown hk3 (Nat.le_succ _) HYL.out.size)) (HY1.out.kept hk3 (by simp)) hb3 HSZ.out (Nat.le_trans HSZ.out (Nat.le_succ _)))
  clear hb3 hk3 HZ1 HZ2 HZL HY1 HY2 HYL HPN hk9
  generalize w1.heap.size = gw at *
  obtain ⟨gs, hgs⟩ : ∃ gs, gs = gw + 1 := ⟨_, rfl⟩
  rw [← hgs] at HPT ⊢
  clear hgs HSZ
  go_wp2_with fail
  go_loopw [10] (fun vi wr => ∃ i : Nat, vi = .int .i64 i ∧ i ≤ sn ∧ i ≤ 300 ∧ PTx w wr gw gs i) (fun vi _ => sn - (intOf vi).toNat)
  case atStart => exact ⟨0, rfl, Nat.zero_le _, Nat.zero_le _, HPT.out⟩
  case round =>
    obtain ⟨i, rfl, hi, hi3, hpt⟩ := hrel
    clear HPT
    obtain ⟨pq, mq, mg, rq, bq, lp, lc, s, r, q, hpt⟩ := hpt
    have HP := Hid.in hpt
    clear hpt
    by_cases hin : i < sn ∧ i < 300
    · obtain ⟨hin1, hin2⟩ := hin
      have hiX : i < X.length := by rw [HX.out]; exact hin1
      obtain ⟨b, o, rfl, hc⟩ := (HSC.out.below HP.out.bl) (by omega)
      obtain ⟨⟨c0, c1, c2, c3, c4⟩, how⟩ := hc i X[i] (List.getElem?_eq_getElem hiX)
      obtain ⟨b0, o0, -, hc'⟩ := HSC.out (by omega)
      obtain ⟨-, how'⟩ := hc' i X[i] (List.getElem?_eq_getElem hiX)
      have HOW := Hid.in how'
      clear hc how hc' how'
      generalize X[i] = x at *
      obtain ⟨kd, ht, rp, rc, rs, ssp, ssc, L, up⟩ := x
      simp only at c0 c1 c2 c3 c4 HOW
      have g300 : decide ((i : Int) < 300) = true := decide_eq_true (by omega)
      go_upto_block 2 with fail
      obtain ⟨w2, hw2⟩ : ∃ w2, w2 = wr.alloc (.cells #[.int .i64 kd, .int .i64 ht, .slice rp rs.length rc, .slice ssp L.length ssc, .bool up] 72) := ⟨_, rfl⟩
      rw [← hw2]
      have HO : Hid (Blk w2 wr.heap.size 72 #[.int .i64 kd, .int .i64 ht, .slice rp rs.length rc, .slice ssp L.length ssc, .bool up]) := by rw [hw2]; exact Blk.new _ _ _
      have HP2 : Hid (PT w w2 gw gs i pq mq mg rq bq lp lc s r q) := by rw [hw2]; exact HP.out.below (new_alloc _ _)
      clear hw2 HP c0 c1 c2 c3 c4
      generalize wr.heap.size = go at *
      have hM : (i : Int) ≤ 1000000 := by omega
      go_cut [10] (fun v10 wx => v10 = .int .i64 i ∧ PTx w wx gw gs (i + 1))
      case first =>
        by_cases hk : kd = 1 ∨ kd = 2 ∨ kd = 3 ∨ kd = 4 ∨ kd = 5 ∨ kd = 6
        · rcases hk with rfl | rfl | rfl | rfl | rfl | rfl
          · as_aux_lemma =>
              have o2 : w2.cell? ⟨go, 2, none⟩ = some (.slice rp rs.length rc) := HO.out.cell 2
              have d2 : w2.cell? ⟨gw, 2, none⟩ = some (.pointer (some ⟨pq, 0, none⟩)) := HP2.out.bw.cell 2
              go_wp2_with (go_at_call 11; refine Hid.out ?_)
              refine Lib.hid ?_
              refine (pstep_any w.heap.size pq mq mg rq bq lp lc s rp rc rs w2 HP2.out.pa (HOW.out.below HP2.out.bl).row (HP2.out.ok.mono hM) HP2.out.bt).mono ?_
              rintro E w3 ⟨v3, lp3, lc3, rfl, hev3, hpa3, hk3⟩
              obtain ⟨hbw3, hbs3, hrm3, hbl3⟩ := HP2.out.turned hk3
              have HO3 := Hid.in (HP2.out.opk HO.out hk3)
              have HAR := Hid.in (HP2.out.sr.step HP2.out.ok rs)
              have HOK := Hid.in (stp_ok (rs := rs) HP2.out.ok HP2.out.bt)
              have hmg3 : mg < w3.heap.size := Nat.lt_of_lt_of_le HP2.out.mgl hk3.size
              have HRS := Hid.in (rstep_any HP2.out.sr (HP2.out.ok.mono hM) hrm3 hmg3 rp rc rs (HOW.out.below hbl3).row HOW.out.rnil)
              have HG0 := Hid.in HP2.out.g0
              have HEV3 := Hid.in hev3
              have HPA3 := Hid.in hpa3
              have HBW3 := Hid.in hbw3
              have HBS3 := Hid.in hbs3
              have HBL3 := Hid.in hbl3
              obtain ⟨pe, ce, hve, -⟩ := hev3.shape
              clear hev3 hpa3 hk3 hbw3 hbs3 hrm3 hbl3 hmg3 HP2 HO o2 d2
              generalize stpP s rs = SP at *
              generalize stpR r rs = SRr at *
              rw [HAR.out.back, HAR.out.e]
              subst hve
              have o2 : w3.cell? ⟨go, 2, none⟩ = some (.slice rp rs.length rc) := HO3.out.cell 2
              go_wp2_with (first | (refine step_load_blk HBS3.out rfl 66 _ rfl rfl _ (List.prefix_refl _) _ Try.underlying66 rfl (by kernel_rfl) ?_) | (go_at_call 22; refine Hid.out ?_))
              refine Lib.hid ?_
              refine HRS.out.mono ?_
              rintro E w4 ⟨q4, v4, rfl, hrm4, hev4, hb4⟩
              obtain ⟨pf, cf, hvf, -⟩ := hev4.shape
              subst hvf
              have HE4 := Hid.in hev4
              have HE3 := Hid.in (HEV3.out.below hb4)
              have HPA4 := Hid.in (HPA3.out.below hb4)
              have HBW4 := Hid.in (HBW3.out.grow hb4)
              have HBS4 := Hid.in (HBS3.out.grow hb4)
              have HBL4 := Hid.in (below_step HBL3.out hb4)
              have HRM4 := Hid.in hrm4
              clear hrm4 hev4 hb4 HRS HEV3 HPA3 HBW3 HBS3 HBL3 HO3 o2
              go_wp2_with (first | (refine step_store_blk (Blk.new w4 66 stZ) rfl 66 _ _ rfl rfl rfl (SRr.s.val q4) rfl (by kernel_rfl) rfl (by kernel_rfl) ?_; intro w5 hb5 hk5; refine Hid.out ?_))
              refine Lib.hid ?_
              have HBE := Hid.in ((new_alloc w4 (.cells stZ 66)).trans (below_grown hk5 (Nat.le_refl _) (by rw [size_one]; exact Nat.le_succ _)))
              have HV5 := Hid.in hb5
              have HBS5 := Hid.in (HBS4.out.grow HBE.out)
              clear hb5 hk5
              go_wp2_with (first | (refine step_load_blk HV5.out rfl 66 _ rfl rfl _ (List.prefix_refl _) _ Try.underlying66 rfl (by kernel_rfl) ?_) | (refine step_store_blk HBS5.out rfl 66 _ _ rfl rfl rfl (SRr.s.val q4) rfl (by kernel_rfl) rfl (by kernel_rfl) ?_; intro w6 hb6 hk6; refine Hid.out ?_))
              refine Lib.hid ?_
              have HPT6 : Hid (PT w w6 gw gs (i + 1) pq mq mg rq bq lp3 lc3 SP.s SRr.s q4) := ⟨(HPA4.out.below HBE.out).off HBS5.out (.inr (.inl rfl)) hk6, (HBW4.out.grow HBE.out).kept hk6 (fun e => blk_ne (HBW4.out.grow HBE.out) HBS5.out (by decide) (by injection e)), hb6, HAR.out.s, (HRM4.out.below HBE.out).off HBS5.out (.inr (.inl rfl)) hk6, HOK.out.1, HOK.out.2, (below_step HBL4.out HBE.out).trans (below_grown hk6 HG0.out.2 (below_step HBL4.out HBE.out).size), HG0.out⟩
              have HX3 := Hid.in ((HE3.out.below HBE.out).off66 hk6 HBS5.out)
              have HX4 := Hid.in ((HE4.out.below HBE.out).off66 hk6 HBS5.out)
              rw [HAR.out.ev] at HX3 ⊢
              clear hb6 hk6 HBE HV5 HBS5 HE3 HE4 HPA4 HBW4 HBS4 HBL4 HRM4 HOK HAR
              obtain ⟨p7, c7, e7, -, hm7, hr7⟩ := HX3.out.row7
              obtain ⟨p8, c8, e8, -, -, hr8⟩ := HX4.out.row7
              injection e7 with e71 _ e72
              injection e8 with e81 _ e82
              subst e71 e72 e81 e82
              have HSE := Hid.in (sameEvents_self pe pf SRr.ev.length ce cf SRr.ev w6 rfl (by have h1 := HX3.out.row7; obtain ⟨_, c9, _, h2, h3, _⟩ := h1; unfold maxLen at h3; omega) hr7 hr8)
              clear hr7 hr8 hm7 HX3 HX4
              go_wp2_with (go_at_call 23; refine Hid.out ?_)
              refine Lib.hid ?_
              refine HSE.out.mono ?_
              rintro E w7 ⟨rfl, z, hw⟩
              have HPT7 : Hid (PT w w7 gw gs (i + 1) pq mq mg rq bq lp3 lc3 SP.s SRr.s q4) := by rw [hw]; exact HPT6.out.below (below_draws (below_self _) z)
              clear hw HPT6 HSE
              go_wp2_with fail
              go_meet
              case rel => exact ⟨rfl, _, _, _, _, _, _, _, _, _, _, HPT7.out⟩
          · as_aux_lemma =>
              have o3 : w2.cell? ⟨go, 3, none⟩ = some (.slice ssp L.length ssc) := HO.out.cell 3
              have hL24 : L.length * 24 ≤ 140737488351232 := HOW.out.slen
              have HCS := Hid.in (copySites_any ssp L.length ssc L w2 rfl (by omega) (HOW.out.below HP2.out.bl).srow)
              go_wp2_with (go_at_call 24; refine Hid.out ?_)
              refine Lib.hid ?_
              refine HCS.out.mono ?_
              rintro E w3 ⟨v3, rfl, ht3, hb3⟩
              obtain ⟨pin, cin, hv3, hci, hcm, hrs3⟩ := ht3.rowS
              subst hv3
              have HGI : Hid (∃ gin, 0 < L.length → pin = some ⟨gin, 0, none⟩ ∧ w2.heap.size ≤ gin ∧ gin < w3.heap.size ∧ ∃ cur, Blk w3 gin 48 cur ∧ L.length * 3 ≤ cur.size) := by
                by_cases h0 : 0 < L.length
                · obtain ⟨g, cur, e, h1, h2, h3⟩ := ht3.gin h0
                  exact ⟨g, fun _ => ⟨e, h1, h2.lt, cur, h2, h3⟩⟩
                · exact ⟨0, fun h => absurd h h0⟩
              obtain ⟨gin, hgin⟩ := HGI.out
              have HGN := Hid.in hgin
              have HP3 := Hid.in (HP2.out.below hb3)
              have HO3 := Hid.in (HO.out.grow hb3)
              have HR3 := Hid.in hrs3
              have HLF : Hid (∀ b o, lp = some ⟨b, o, none⟩ → 0 < s.left.length → b < w2.heap.size) := fun b o e h0 => rowS_lo HP2.out.pa.row h0 e
              have HTF : Hid (∀ b o, q.tp = some ⟨b, o, none⟩ → 0 < r.bt.length → b < w2.heap.size) := fun b o e h0 => rowS_lo HP2.out.rm.bt h0 e
              have HRF : Hid (∀ b o, q.lp = some ⟨b, o, none⟩ → 0 < r.lf.length → b < w2.heap.size) := fun b o e h0 => rowS_lo HP2.out.rm.lf h0 e
              have hA2w : w.heap.size ≤ w2.heap.size := HP2.out.bl.size
              have hxl := HP2.out.ok.xl
              have hxr : r.xs.length ≤ 65536 := by rw [← HP2.out.sr.xs]; exact hxl
              have HSS := Hid.in (HP2.out.sr.start hxr L up)
              have HOK := Hid.in (start_ok HP2.out.ok (by omega) L up)
              have HBT := Hid.in HP2.out.bt
              have HG0 := Hid.in HP2.out.g0
              clear ht3 hb3 hrs3 hgin HP2 HO HCS HGI o3 hci hcm
              generalize w2.heap.size = A2 at *
              have d2 : w3.cell? ⟨gw, 2, none⟩ = some (.pointer (some ⟨pq, 0, none⟩)) := HP3.out.bw.cell 2
              have o4 : w3.cell? ⟨go, 4, none⟩ = some (.bool up) := HO3.out.cell 4
              have HPS := Hid.in (pstart2_any w.heap.size pq mq mg rq bq lp lc s pin cin L up w3 HP3.out.pa HP3.out.bl.size hxl (by omega) (fun e => by by_cases h0 : 0 < L.length; (have := (HGN.out h0).1; rw [e] at this; cases this); exact List.eq_nil_of_length_eq_zero (by omega)) HR3.out.row3)
              go_wp2_with (go_at_call 13; refine Hid.out ?_)
              refine Lib.hid ?_
              refine HPS.out.mono ?_
              rintro E w4 ⟨lp4, lc4, rfl, hpa4, hk4, hlp4⟩
              obtain ⟨hbw4, hbs4, hrm4, hbl4⟩ := HP3.out.turned hk4
              have HO4 := Hid.in (HP3.out.opk HO3.out hk4)
              have hty : ∀ j, GP pq mg rq bq j → ∃ T c, Blk w3 j T c ∧ T ≠ 48 := fun j hj => by
                rcases gp_types HP3.out.pa hj with ⟨-, c, h1⟩ | ⟨T, c, h1, -, -, h2⟩
                · exact ⟨5, c, h1, by decide⟩
                · exact ⟨T, c, h1, h2⟩
              have HR4 := Hid.in (HR3.out.keeps hk4 hty)
              have HGN4 : Hid (0 < L.length → pin = some ⟨gin, 0, none⟩ ∧ A2 ≤ gin ∧ gin < w3.heap.size ∧ ∃ cur, Blk w4 gin 48 cur ∧ L.length * 3 ≤ cur.size) := fun h0 => by
                obtain ⟨a, b, c, cur, h1, h2⟩ := HGN.out h0
                refine ⟨a, b, c, cur, h1.keeps hk4 (fun hg => ?_), h2⟩
                obtain ⟨T, c, h3, h4⟩ := hty gin hg
                exact blk_ne h1 h3 (fun e => h4 e.symm) rfl
              have HPA4 := Hid.in hpa4
              have HBW4 := Hid.in hbw4
              have HBS4 := Hid.in hbs4
              have HRM4 := Hid.in hrm4
              have HBL4 := Hid.in hbl4
              have HLP4 : Hid ((strP s L up).1 = s ∧ lp4 = lp ∨ Hi w3.heap.size lp4) := hlp4
              have HS34 := Hid.in hk4.size
              clear hpa4 hk4 hlp4 hbw4 hbs4 hrm4 hbl4 hty HPS HP3 HO3 HR3 HGN d2 o4
              rw [HSS.out.2]
              have HRS := Hid.in (rstart_any r q ssp ssc L up mg w4 HRM4.out (by omega) HOW.out.snil (HOW.out.below HBL4.out).srow hxr)
              have HTB := Hid.in (strR_bt r L up)
              generalize strP s L up = SP at *
              generalize strR r L up = SQ at *
              have o3 : w4.cell? ⟨go, 3, none⟩ = some (.slice ssp L.length ssc) := HO4.out.cell 3
              have o4 : w4.cell? ⟨go, 4, none⟩ = some (.bool up) := HO4.out.cell 4
              go_wp2_with (first | (refine step_load_blk HBS4.out rfl 66 _ rfl rfl _ (List.prefix_refl _) _ Try.underlying66 rfl (by kernel_rfl) ?_) | (go_at_call 25; refine Hid.out ?_))
              refine Lib.hid ?_
              refine HRS.out.mono ?_
              rintro E w5 ⟨q5, rfl, hrm5, hb5, -, -, htp5, hlp5⟩
              have HRM5 := Hid.in hrm5
              have HPA5 := Hid.in (HPA4.out.below hb5)
              have HBW5 := Hid.in (HBW4.out.grow hb5)
              have HBS5 := Hid.in (HBS4.out.grow hb5)
              have HBL5 := Hid.in (below_step HBL4.out hb5)
              have HR5 := Hid.in (HR4.out.below hb5)
              have HO5 := Hid.in (HO4.out.grow hb5)
              have HGN5 : Hid (0 < L.length → pin = some ⟨gin, 0, none⟩ ∧ A2 ≤ gin ∧ gin < w3.heap.size ∧ ∃ cur, Blk w5 gin 48 cur ∧ L.length * 3 ≤ cur.size) := fun h0 => by
                obtain ⟨a, b, c, cur, h1, h2⟩ := HGN4.out h0
                exact ⟨a, b, c, cur, h1.grow hb5, h2⟩
              have HTP : Hid (q5.tp = q.tp) := htp5
              have HLP5 : Hid (SQ.1 = r ∧ q5.lp = q.lp ∨ Hi w4.heap.size q5.lp) := hlp5
              clear hrm5 hb5 htp5 hlp5 HRS HRM4 HPA4 HBW4 HBS4 HBL4 HR4 HO4 HGN4 o3 o4
              go_wp2_with (first | (refine step_store_blk (Blk.new w5 66 stZ) rfl 66 _ _ rfl rfl rfl (SQ.1.val q5) rfl (by kernel_rfl) rfl (by kernel_rfl) ?_; intro w6 hb6 hk6; refine Hid.out ?_))
              refine Lib.hid ?_
              have HBE := Hid.in ((new_alloc w5 (.cells stZ 66)).trans (below_grown hk6 (Nat.le_refl _) (by rw [size_one]; exact Nat.le_succ _)))
              have HV6 := Hid.in hb6
              have HBS6 := Hid.in (HBS5.out.grow HBE.out)
              clear hb6 hk6
              go_wp2_with (first | (refine step_load_blk HV6.out rfl 66 _ rfl rfl _ (List.prefix_refl _) _ Try.underlying66 rfl (by kernel_rfl) ?_) | (refine step_store_blk HBS6.out rfl 66 _ _ rfl rfl rfl (SQ.1.val q5) rfl (by kernel_rfl) rfl (by kernel_rfl) ?_; intro w7 hb7 hk7; refine Hid.out ?_))
              refine Lib.hid ?_
              have HPT7 : Hid (PT w w7 gw gs (i + 1) pq mq mg rq bq lp4 lc4 SP.1 SQ.1 q5) := ⟨(HPA5.out.below HBE.out).off HBS6.out (.inr (.inl rfl)) hk7, (HBW5.out.grow HBE.out).kept hk7 (fun e => blk_ne (HBW5.out.grow HBE.out) HBS6.out (by decide) (by injection e)), hb7, HSS.out.1, (HRM5.out.below HBE.out).off HBS6.out (.inr (.inl rfl)) hk7, HOK.out.1, (by rw [HOK.out.2]; exact HBT.out), (below_step HBL5.out HBE.out).trans (below_grown hk7 HG0.out.2 (below_step HBL5.out HBE.out).size), HG0.out⟩
              have HR7 := Hid.in ((HR5.out.below HBE.out).keeps (keeps_grown hk7) (fun j hj => ⟨66, _, hj ▸ HBS6.out, by decide⟩))
              have HO7 := Hid.in ((HO5.out.grow HBE.out).kept hk7 (fun e => blk_ne (HO5.out.grow HBE.out) HBS6.out (by decide) (by injection e)))
              have HGN7 : Hid (0 < L.length → pin = some ⟨gin, 0, none⟩ ∧ A2 ≤ gin ∧ gin < w3.heap.size ∧ ∃ cur, Blk w7 gin 48 cur ∧ L.length * 3 ≤ cur.size) := fun h0 => by
                obtain ⟨a, b, c, cur, h1, h2⟩ := HGN5.out h0
                exact ⟨a, b, c, cur, (h1.grow HBE.out).kept hk7 (fun e => blk_ne (h1.grow HBE.out) HBS6.out (by decide) (by injection e)), h2⟩
              clear hb7 hk7 HBE HV6 HBS6 HBS5 HPA5 HBW5 HBL5 HRM5 HR5 HO5 HGN5 HOK HBT HSS
              have o3 : w7.cell? ⟨go, 3, none⟩ = some (.slice ssp L.length ssc) := HO7.out.cell 3
              have HSM := Hid.in (sameSites_any pin ssp L.length cin L.length ssc L L w7 rfl rfl (by omega) (by omega) HR7.out.row3 (HOW.out.below HPT7.out.bl).srow)
              go_wp2_with (go_at_call 26; refine Hid.out ?_)
              refine Lib.hid ?_
              refine HSM.out.mono ?_
              rintro E w8 ⟨⟨bb, rfl, hbb⟩, z, hw8⟩
              obtain rfl : bb = true := hbb.2 trivial
              have HPT8 : Hid (PT w w8 gw gs (i + 1) pq mq mg rq bq lp4 lc4 SP.1 SQ.1 q5) := by rw [hw8]; exact HPT7.out.below (below_draws (below_self _) z)
              have HGN8 : Hid (0 < L.length → pin = some ⟨gin, 0, none⟩ ∧ A2 ≤ gin ∧ gin < w3.heap.size ∧ ∃ cur, Blk w8 gin 48 cur ∧ L.length * 3 ≤ cur.size) := fun h0 => by
                obtain ⟨a, b, c, cur, h1, h2⟩ := HGN7.out h0
                exact ⟨a, b, c, cur, by rw [hw8]; exact h1.grow (below_draws (below_self _) z), h2⟩
              clear hw8 hbb HSM HPT7 HGN7 HR7 HO7 o3
              have HOV : Hid (∀ w9, Keeps (fun j => 0 < L.length ∧ j = gin) w8 w9 → PT w w9 gw gs (i + 1) pq mq mg rq bq lp4 lc4 SP.1 SQ.1 q5) := fun w9 hk9 => by
                refine HPT8.out.over hk9 (fun h0 => ?_) (fun h0 => ?_) (fun h0 b o e hl => ?_) (fun h0 b o e hl => ?_) (fun h0 b o e hl => ?_)
                · obtain ⟨-, -, -, cur, h1, -⟩ := HGN8.out h0
                  exact ⟨cur, h1⟩
                · exact Nat.le_trans hA2w (HGN8.out h0).2.1
                · obtain ⟨-, h1, h2, -⟩ := HGN8.out h0
                  rcases HLP4.out with ⟨e1, e2⟩ | h3
                  · rw [e1] at hl
                    have := HLF.out b o (by rw [← e2]; exact e) hl
                    omega
                  · have := h3 b o e
                    omega
                · obtain ⟨-, h1, h2, -⟩ := HGN8.out h0
                  rw [HTB.out] at hl
                  have := HTF.out b o (by rw [← HTP.out]; exact e) hl
                  omega
                · obtain ⟨-, h1, h2, -⟩ := HGN8.out h0
                  rcases HLP5.out with ⟨e1, e2⟩ | h3
                  · rw [e1] at hl
                    have := HRF.out b o (by rw [← e2]; exact e) hl
                    omega
                  · have := h3 b o e
                    have := HS34.out
                    omega
              clear HLP4 HLP5 HLF HTF HRF HTB HTP HS34 HPT8
              go_wp2_with fail
              go_loopw [23] (fun vk wx => ∃ k : Nat, vk = .int .i64 k ∧ k ≤ L.length ∧ Keeps (fun j => 0 < L.length ∧ j = gin) w8 wx ∧ (0 < L.length → ∃ cur, Blk wx gin 48 cur ∧ L.length * 3 ≤ cur.size)) (fun vk _ => L.length - (intOf vk).toNat)
              case atStart => exact ⟨0, rfl, Nat.zero_le _, Keeps.refl _ _, fun h0 => (HGN8.out h0).2.2.2⟩
              case round =>
                obtain ⟨k, rfl, hk, hkk, hcur⟩ := hrel
                have HKK := Hid.in hkk
                have HCU := Hid.in hcur
                clear hkk hcur
                by_cases hkL : k < L.length
                · obtain ⟨cur, hcb, hcs⟩ := HCU.out (by omega)
                  obtain ⟨rfl, -⟩ := HGN8.out (by omega)
                  have HCB := Hid.in hcb
                  have HCS := Hid.in hcs
                  clear hcb hcs HCU
                  go_wp2_with (first | (refine step_store_in HCB.out rfl 48 _ _ rfl rfl (k * 3) rfl #[.int .i64 0, .int .i64 0, .int .i64 0] rfl (by kernel_rfl) (by have := HCS.out; show k * 3 + 3 ≤ cur.size; omega) (by kernel_rfl) ?_; intro w10 c10 hb10 hs10 hg10; refine Hid.out ?_))
                  refine Lib.hid ?_
                  have HKN : Hid (Keeps (fun j => 0 < L.length ∧ j = gin) w8 w10) := HKK.out.trans' ((keeps_grown hg10).wider (fun j e => ⟨by omega, e⟩))
                  have HCN : Hid (0 < L.length → ∃ cur, Blk w10 gin 48 cur ∧ L.length * 3 ≤ cur.size) := fun _ => ⟨c10, hb10, by rw [hs10]; exact HCS.out⟩
                  clear hb10 hs10 hg10 HCB HCS HKK
                  go_wp2_with fail
                  go_roundw
                  case rel => exact ⟨k + 1, by go_num, by omega, HKN.out, HCN.out⟩
                  case measure => simp [intOf]; omega
                · have HPX := Hid.in (HOV.out _ HKK.out)
                  clear HKK HCU HOV HGN8
                  go_wp2_with fail
                  go_meet
                  case rel => exact ⟨rfl, _, _, _, _, _, _, _, _, _, _, HPX.out⟩
          · as_aux_lemma =>
              have o1 : w2.cell? ⟨go, 1, none⟩ = some (.int .i64 ht) := HO.out.cell 1
              have d1 : w2.cell? ⟨gs, 1, none⟩ = some (.int .i64 r.n) := HP2.out.bs.cell 1
              have d2 : w2.cell? ⟨gs, 2, none⟩ = some (.slice q.fp r.fs.length q.fc) := HP2.out.bs.cell 2
              cases hp : pnd r.fs ht
              · go_wp2_with (go_at_call 27; refine Hid.out ?_)
                refine Lib.hid ?_
                refine (rdrop_no q.fp q.fc r.fs r.n ht w2 HP2.out.sr.f8 HP2.out.rm.fs.row hp).mono ?_
                rintro E w3 ⟨rfl, hb3⟩
                have HP3 := Hid.in (HP2.out.below hb3)
                have HO3 := Hid.in (HO.out.grow hb3)
                clear hb3 HP2 HO o1 d1 d2
                go_upto_region 29 with fail
                obtain ⟨w4, hw4⟩ : ∃ w4, w4 = w3.alloc (.cells #[.int .i64 r.n, .slice q.fp r.fs.length q.fc] 64) := ⟨_, rfl⟩
                rw [← hw4]
                have HP4 : Hid (PT w w4 gw gs i pq mq mg rq bq lp lc s r q) := by rw [hw4]; exact HP3.out.below (new_alloc _ _)
                have HO4 : Hid (Blk w4 go 72 #[.int .i64 3, .int .i64 ht, .slice rp rs.length rc, .slice ssp L.length ssc, .bool up]) := by rw [hw4]; exact HO3.out.grow (new_alloc _ _)
                have HK4 : Hid (Blk w4 w3.heap.size 64 #[.int .i64 r.n, .slice q.fp r.fs.length q.fc]) := by rw [hw4]; exact Blk.new _ _ _
                clear hw4 HP3 HO3
                generalize w3.heap.size = gk at *
                have e0 : w4.cell? ⟨gk, 0, none⟩ = some (.int .i64 r.n) := HK4.out.cell 0
                have e1 : w4.cell? ⟨gk, 1, none⟩ = some (.slice q.fp r.fs.length q.fc) := HK4.out.cell 1
                have d1 : w4.cell? ⟨gs, 1, none⟩ = some (.int .i64 r.n) := HP4.out.bs.cell 1
                have d2 : w4.cell? ⟨gs, 2, none⟩ = some (.slice q.fp r.fs.length q.fc) := HP4.out.bs.cell 2
                have f1 := HP4.out.bs.free 1
                have f2 := HP4.out.bs.free 2
                go_upto_region 30 with fail
                obtain ⟨w5, hw5⟩ : ∃ w5, w5 = (w4.setCell ⟨gs, 1, none⟩ (.int .i64 r.n)).setCell ⟨gs, 2, none⟩ (.slice q.fp r.fs.length q.fc) := ⟨_, rfl⟩
                rw [← hw5]
                have hg5 : w4.grownBy w5 (some gs) := by rw [hw5]; exact (grown_setCell _ _ _ _).trans (grown_setCell _ _ _ _)
                have HS5 : Hid (Blk w5 gs 66 (RD.val r q)) := by rw [hw5]; exact (HP4.out.bs.set 1 _).set 2 _
                have HA5 := Hid.in (HP4.out.pa.off HP4.out.bs (.inr (.inl rfl)) hg5)
                have HM5 := Hid.in (HP4.out.rm.off HP4.out.bs (.inr (.inl rfl)) hg5)
                have HW5 := Hid.in (HP4.out.bw.kept hg5 (fun e => blk_ne HP4.out.bw HP4.out.bs (by decide) (by injection e)))
                have HO5 := Hid.in (HO4.out.kept hg5 (fun e => blk_ne HO4.out HP4.out.bs (by decide) (by injection e)))
                have HL5 := Hid.in (HP4.out.bl.trans (below_grown hg5 HP4.out.g0.2 HP4.out.bl.size))
                have HSR := Hid.in HP4.out.sr
                have HOK := Hid.in HP4.out.ok
                have HBT := Hid.in HP4.out.bt
                have HG0 := Hid.in HP4.out.g0
                clear hw5 hg5 HP4 HO4 HK4 e0 e1 d1 d2 f1 f2
                have o1 : w5.cell? ⟨go, 1, none⟩ = some (.int .i64 ht) := HO5.out.cell 1
                have b1 : w5.cell? ⟨gw, 1, none⟩ = some (.pointer (some ⟨rq, 0, none⟩)) := HW5.out.cell 1
                have HDR := Hid.in (drop_any rq s.fs s.n ht w5 HA5.out.rnd)
                rw [HSR.out.fs, hp] at HDR
                go_wp2_with (go_at_call 28; refine Hid.out ?_)
                refine Lib.hid ?_
                refine HDR.out.mono ?_
                rintro E w6 ⟨rfl, hr6, hg6⟩
                rw [drp_no hp] at hr6
                have HPT : Hid (PT w w6 gw gs (i + 1) pq mq mg rq bq lp lc { s with fs := r.fs, n := s.n } r q) := by
                  have hk6 := keeps_grown hg6
                  have hw := HA5.out.ne HW5.out (.inl rfl)
                  have hs := HA5.out.ne HS5.out (.inr (.inl rfl))
                  refine ⟨HA5.out.setR hr6 hg6, HW5.out.keeps hk6 (fun e => hw.2.2.2.1 e), HS5.out.keeps hk6 (fun e => hs.2.2.2.1 e), ?_, ?_, ?_, HBT.out, HL5.out.trans (below_grown hg6 HA5.out.gr HL5.out.size), HG0.out⟩
                  · have h := HSR.out
                    exact ⟨h.xs, rfl, h.n, h.ph, h.bt, h.lf, h.up, h.ct, h.wr, h.nx, h.b0, h.b1, h.st, h.gp, h.f8, h.b4⟩
                  · have hkk : Keeps (GP pq mg rq bq) w5 w6 := keepsR hg6
                    have h := HM5.out.keeps HA5.out hkk
                    skip
                    exact h
                  · have h := HOK.out.mono (show (i : Int) ≤ i + 1 by omega)
                    exact ⟨h.ph, h.nx, h.w1, h.w2, h.c1, h.c2, h.c3, h.c4, h.n, h.xl⟩
                clear hr6 hg6 HA5 HM5 HW5 HS5 HO5 HL5 HSR HOK HBT HDR o1 b1
                go_wp2_with fail
                go_meet
                case rel => exact ⟨rfl, _, _, _, _, _, _, _, _, _, _, HPT.out⟩
              · go_wp2_with (go_at_call 27; refine Hid.out ?_)
                refine Lib.hid ?_
                refine (rdrop_yes q.fp q.fc r.fs r.n ht w2 HP2.out.sr.f8 HP2.out.rm.fs.row hp).mono ?_
                rintro E w3 ⟨v, rfl, hgv, hb3⟩
                obtain ⟨pf, cf, hvf, hcf, hrf⟩ := hgv.rowF
                subst hvf
                have HRF := Hid.in hrf
                have HCF := Hid.in hcf
                clear hgv hrf hcf
                have HP3 := Hid.in (HP2.out.below hb3)
                have HO3 := Hid.in (HO.out.grow hb3)
                clear hb3 HP2 HO o1 d1 d2
                go_upto_region 29 with fail
                obtain ⟨w4, hw4⟩ : ∃ w4, w4 = w3.alloc (.cells #[.int .i64 r.n, .slice pf (drp r.fs ht).length cf] 64) := ⟨_, rfl⟩
                rw [← hw4]
                have HP4 : Hid (PT w w4 gw gs i pq mq mg rq bq lp lc s r q) := by rw [hw4]; exact HP3.out.below (new_alloc _ _)
                have HO4 : Hid (Blk w4 go 72 #[.int .i64 3, .int .i64 ht, .slice rp rs.length rc, .slice ssp L.length ssc, .bool up]) := by rw [hw4]; exact HO3.out.grow (new_alloc _ _)
                have HK4 : Hid (Blk w4 w3.heap.size 64 #[.int .i64 r.n, .slice pf (drp r.fs ht).length cf]) := by rw [hw4]; exact Blk.new _ _ _
                have HRF4 : Hid (RowF w4 pf (drp r.fs ht)) := by rw [hw4]; exact HRF.out.below (new_alloc _ _)
                clear hw4 HP3 HO3 HRF
                generalize w3.heap.size = gk at *
                have e0 : w4.cell? ⟨gk, 0, none⟩ = some (.int .i64 r.n) := HK4.out.cell 0
                have e1 : w4.cell? ⟨gk, 1, none⟩ = some (.slice pf (drp r.fs ht).length cf) := HK4.out.cell 1
                have d1 : w4.cell? ⟨gs, 1, none⟩ = some (.int .i64 r.n) := HP4.out.bs.cell 1
                have d2 : w4.cell? ⟨gs, 2, none⟩ = some (.slice q.fp r.fs.length q.fc) := HP4.out.bs.cell 2
                have f1 := HP4.out.bs.free 1
                have f2 := HP4.out.bs.free 2
                go_upto_region 30 with fail
                obtain ⟨w5, hw5⟩ : ∃ w5, w5 = (w4.setCell ⟨gs, 1, none⟩ (.int .i64 r.n)).setCell ⟨gs, 2, none⟩ (.slice pf (drp r.fs ht).length cf) := ⟨_, rfl⟩
                rw [← hw5]
                have hg5 : w4.grownBy w5 (some gs) := by rw [hw5]; exact (grown_setCell _ _ _ _).trans (grown_setCell _ _ _ _)
                have HS5 : Hid (Blk w5 gs 66 (RD.val { r with fs := drp r.fs ht } { q with fp := pf, fc := cf })) := by rw [hw5]; exact (HP4.out.bs.set 1 _).set 2 _
                have HA5 := Hid.in (HP4.out.pa.off HP4.out.bs (.inr (.inl rfl)) hg5)
                have HM5 := Hid.in (HP4.out.rm.off HP4.out.bs (.inr (.inl rfl)) hg5)
                have HW5 := Hid.in (HP4.out.bw.kept hg5 (fun e => blk_ne HP4.out.bw HP4.out.bs (by decide) (by injection e)))
                have HO5 := Hid.in (HO4.out.kept hg5 (fun e => blk_ne HO4.out HP4.out.bs (by decide) (by injection e)))
                have HL5 := Hid.in (HP4.out.bl.trans (below_grown hg5 HP4.out.g0.2 HP4.out.bl.size))
                have HF5 := Hid.in (HRF4.out.keeps (keeps_grown hg5) (fun j hj => ⟨66, _, hj ▸ HP4.out.bs, by decide⟩))
                have HSR := Hid.in HP4.out.sr
                have HOK := Hid.in HP4.out.ok
                have HBT := Hid.in HP4.out.bt
                have HG0 := Hid.in HP4.out.g0
                clear hw5 hg5 HP4 HO4 HK4 e0 e1 d1 d2 f1 f2 HRF4
                have o1 : w5.cell? ⟨go, 1, none⟩ = some (.int .i64 ht) := HO5.out.cell 1
                have b1 : w5.cell? ⟨gw, 1, none⟩ = some (.pointer (some ⟨rq, 0, none⟩)) := HW5.out.cell 1
                have HDR := Hid.in (drop_any rq s.fs s.n ht w5 HA5.out.rnd)
                rw [HSR.out.fs, hp] at HDR
                go_wp2_with (go_at_call 28; refine Hid.out ?_)
                refine Lib.hid ?_
                refine HDR.out.mono ?_
                rintro E w6 ⟨rfl, hr6, hg6⟩
                have HPT : Hid (PT w w6 gw gs (i + 1) pq mq mg rq bq lp lc { s with fs := drp r.fs ht, n := s.n } { r with fs := drp r.fs ht } { q with fp := pf, fc := cf }) := by
                  have hk6 := keeps_grown hg6
                  have hw := HA5.out.ne HW5.out (.inl rfl)
                  have hs := HA5.out.ne HS5.out (.inr (.inl rfl))
                  refine ⟨HA5.out.setR hr6 hg6, HW5.out.keeps hk6 (fun e => hw.2.2.2.1 e), HS5.out.keeps hk6 (fun e => hs.2.2.2.1 e), ?_, ?_, ?_, HBT.out, HL5.out.trans (below_grown hg6 HA5.out.gr HL5.out.size), HG0.out⟩
                  · have h := HSR.out
                    exact ⟨h.xs, rfl, h.n, h.ph, h.bt, h.lf, h.up, h.ct, h.wr, h.nx, h.b0, h.b1, h.st, h.gp, by show (drp r.fs ht).length ≤ 8; rw [drp_len]; exact h.f8, h.b4⟩
                  · have hkk : Keeps (GP pq mg rq bq) w5 w6 := keepsR hg6
                    have h := HM5.out.keeps HA5.out hkk
                    have hF := HF5.out.keeps hkk (fun j hj => by rcases gp_types HA5.out hj with ⟨-, c, h1⟩ | ⟨T, c, h1, h2, -, -⟩; exact ⟨5, c, h1, by decide⟩; exact ⟨T, c, h1, h2⟩)
                    exact ⟨h.xs, hF, h.bt, h.lf, h.hb, HCF.out, h.ht, h.tn, h.hl⟩
                  · have h := HOK.out.mono (show (i : Int) ≤ i + 1 by omega)
                    exact ⟨h.ph, h.nx, h.w1, h.w2, h.c1, h.c2, h.c3, h.c4, h.n, h.xl⟩
                clear hr6 hg6 HA5 HM5 HW5 HS5 HO5 HL5 HSR HOK HBT HDR o1 b1
                go_wp2_with fail
                go_meet
                case rel => exact ⟨rfl, _, _, _, _, _, _, _, _, _, _, HPT.out⟩
          · as_aux_lemma =>
              have o1 : w2.cell? ⟨go, 1, none⟩ = some (.int .i64 ht) := HO.out.cell 1
              have d1 : w2.cell? ⟨gs, 1, none⟩ = some (.int .i64 r.n) := HP2.out.bs.cell 1
              have d2 : w2.cell? ⟨gs, 2, none⟩ = some (.slice q.fp r.fs.length q.fc) := HP2.out.bs.cell 2
              cases hp : pnd r.fs ht
              · go_wp2_with (go_at_call 27; refine Hid.out ?_)
                refine Lib.hid ?_
                refine (rdrop_no q.fp q.fc r.fs r.n ht w2 HP2.out.sr.f8 HP2.out.rm.fs.row hp).mono ?_
                rintro E w3 ⟨rfl, hb3⟩
                have HP3 := Hid.in (HP2.out.below hb3)
                have HO3 := Hid.in (HO.out.grow hb3)
                clear hb3 HP2 HO o1 d1 d2
                go_upto_region 29 with fail
                obtain ⟨w4, hw4⟩ : ∃ w4, w4 = w3.alloc (.cells #[.int .i64 r.n, .slice q.fp r.fs.length q.fc] 64) := ⟨_, rfl⟩
                rw [← hw4]
                have HP4 : Hid (PT w w4 gw gs i pq mq mg rq bq lp lc s r q) := by rw [hw4]; exact HP3.out.below (new_alloc _ _)
                have HO4 : Hid (Blk w4 go 72 #[.int .i64 4, .int .i64 ht, .slice rp rs.length rc, .slice ssp L.length ssc, .bool up]) := by rw [hw4]; exact HO3.out.grow (new_alloc _ _)
                have HK4 : Hid (Blk w4 w3.heap.size 64 #[.int .i64 r.n, .slice q.fp r.fs.length q.fc]) := by rw [hw4]; exact Blk.new _ _ _
                clear hw4 HP3 HO3
                generalize w3.heap.size = gk at *
                have e0 : w4.cell? ⟨gk, 0, none⟩ = some (.int .i64 r.n) := HK4.out.cell 0
                have e1 : w4.cell? ⟨gk, 1, none⟩ = some (.slice q.fp r.fs.length q.fc) := HK4.out.cell 1
                have d1 : w4.cell? ⟨gs, 1, none⟩ = some (.int .i64 r.n) := HP4.out.bs.cell 1
                have d2 : w4.cell? ⟨gs, 2, none⟩ = some (.slice q.fp r.fs.length q.fc) := HP4.out.bs.cell 2
                have f1 := HP4.out.bs.free 1
                have f2 := HP4.out.bs.free 2
                go_upto_region 30 with fail
                obtain ⟨w5, hw5⟩ : ∃ w5, w5 = (w4.setCell ⟨gs, 1, none⟩ (.int .i64 r.n)).setCell ⟨gs, 2, none⟩ (.slice q.fp r.fs.length q.fc) := ⟨_, rfl⟩
                rw [← hw5]
                have hg5 : w4.grownBy w5 (some gs) := by rw [hw5]; exact (grown_setCell _ _ _ _).trans (grown_setCell _ _ _ _)
                have HS5 : Hid (Blk w5 gs 66 (RD.val r q)) := by rw [hw5]; exact (HP4.out.bs.set 1 _).set 2 _
                have HA5 := Hid.in (HP4.out.pa.off HP4.out.bs (.inr (.inl rfl)) hg5)
                have HM5 := Hid.in (HP4.out.rm.off HP4.out.bs (.inr (.inl rfl)) hg5)
                have HW5 := Hid.in (HP4.out.bw.kept hg5 (fun e => blk_ne HP4.out.bw HP4.out.bs (by decide) (by injection e)))
                have HO5 := Hid.in (HO4.out.kept hg5 (fun e => blk_ne HO4.out HP4.out.bs (by decide) (by injection e)))
                have HL5 := Hid.in (HP4.out.bl.trans (below_grown hg5 HP4.out.g0.2 HP4.out.bl.size))
                have HSR := Hid.in HP4.out.sr
                have HOK := Hid.in HP4.out.ok
                have HBT := Hid.in HP4.out.bt
                have HG0 := Hid.in HP4.out.g0
                clear hw5 hg5 HP4 HO4 HK4 e0 e1 d1 d2 f1 f2
                have o1 : w5.cell? ⟨go, 1, none⟩ = some (.int .i64 ht) := HO5.out.cell 1
                have b1 : w5.cell? ⟨gw, 1, none⟩ = some (.pointer (some ⟨rq, 0, none⟩)) := HW5.out.cell 1
                have HDR := Hid.in (drop_any rq s.fs s.n ht w5 HA5.out.rnd)
                rw [HSR.out.fs, hp] at HDR
                go_wp2_with (go_at_call 28; refine Hid.out ?_)
                refine Lib.hid ?_
                refine HDR.out.mono ?_
                rintro E w6 ⟨rfl, hr6, hg6⟩
                rw [drp_no hp] at hr6
                have HPT : Hid (PT w w6 gw gs (i + 1) pq mq mg rq bq lp lc { s with fs := r.fs, n := s.n } r q) := by
                  have hk6 := keeps_grown hg6
                  have hw := HA5.out.ne HW5.out (.inl rfl)
                  have hs := HA5.out.ne HS5.out (.inr (.inl rfl))
                  refine ⟨HA5.out.setR hr6 hg6, HW5.out.keeps hk6 (fun e => hw.2.2.2.1 e), HS5.out.keeps hk6 (fun e => hs.2.2.2.1 e), ?_, ?_, ?_, HBT.out, HL5.out.trans (below_grown hg6 HA5.out.gr HL5.out.size), HG0.out⟩
                  · have h := HSR.out
                    exact ⟨h.xs, rfl, h.n, h.ph, h.bt, h.lf, h.up, h.ct, h.wr, h.nx, h.b0, h.b1, h.st, h.gp, h.f8, h.b4⟩
                  · have hkk : Keeps (GP pq mg rq bq) w5 w6 := keepsR hg6
                    have h := HM5.out.keeps HA5.out hkk
                    skip
                    exact h
                  · have h := HOK.out.mono (show (i : Int) ≤ i + 1 by omega)
                    exact ⟨h.ph, h.nx, h.w1, h.w2, h.c1, h.c2, h.c3, h.c4, h.n, h.xl⟩
                clear hr6 hg6 HA5 HM5 HW5 HS5 HO5 HL5 HSR HOK HBT HDR o1 b1
                go_wp2_with fail
                go_meet
                case rel => exact ⟨rfl, _, _, _, _, _, _, _, _, _, _, HPT.out⟩
              · go_wp2_with (go_at_call 27; refine Hid.out ?_)
                refine Lib.hid ?_
                refine (rdrop_yes q.fp q.fc r.fs r.n ht w2 HP2.out.sr.f8 HP2.out.rm.fs.row hp).mono ?_
                rintro E w3 ⟨v, rfl, hgv, hb3⟩
                obtain ⟨pf, cf, hvf, hcf, hrf⟩ := hgv.rowF
                subst hvf
                have HRF := Hid.in hrf
                have HCF := Hid.in hcf
                clear hgv hrf hcf
                have HP3 := Hid.in (HP2.out.below hb3)
                have HO3 := Hid.in (HO.out.grow hb3)
                clear hb3 HP2 HO o1 d1 d2
                go_upto_region 29 with fail
                obtain ⟨w4, hw4⟩ : ∃ w4, w4 = w3.alloc (.cells #[.int .i64 r.n, .slice pf (drp r.fs ht).length cf] 64) := ⟨_, rfl⟩
                rw [← hw4]
                have HP4 : Hid (PT w w4 gw gs i pq mq mg rq bq lp lc s r q) := by rw [hw4]; exact HP3.out.below (new_alloc _ _)
                have HO4 : Hid (Blk w4 go 72 #[.int .i64 4, .int .i64 ht, .slice rp rs.length rc, .slice ssp L.length ssc, .bool up]) := by rw [hw4]; exact HO3.out.grow (new_alloc _ _)
                have HK4 : Hid (Blk w4 w3.heap.size 64 #[.int .i64 r.n, .slice pf (drp r.fs ht).length cf]) := by rw [hw4]; exact Blk.new _ _ _
                have HRF4 : Hid (RowF w4 pf (drp r.fs ht)) := by rw [hw4]; exact HRF.out.below (new_alloc _ _)
                clear hw4 HP3 HO3 HRF
                generalize w3.heap.size = gk at *
                have e0 : w4.cell? ⟨gk, 0, none⟩ = some (.int .i64 r.n) := HK4.out.cell 0
                have e1 : w4.cell? ⟨gk, 1, none⟩ = some (.slice pf (drp r.fs ht).length cf) := HK4.out.cell 1
                have d1 : w4.cell? ⟨gs, 1, none⟩ = some (.int .i64 r.n) := HP4.out.bs.cell 1
                have d2 : w4.cell? ⟨gs, 2, none⟩ = some (.slice q.fp r.fs.length q.fc) := HP4.out.bs.cell 2
                have f1 := HP4.out.bs.free 1
                have f2 := HP4.out.bs.free 2
                go_upto_region 30 with fail
                obtain ⟨w5, hw5⟩ : ∃ w5, w5 = (w4.setCell ⟨gs, 1, none⟩ (.int .i64 r.n)).setCell ⟨gs, 2, none⟩ (.slice pf (drp r.fs ht).length cf) := ⟨_, rfl⟩
                rw [← hw5]
                have hg5 : w4.grownBy w5 (some gs) := by rw [hw5]; exact (grown_setCell _ _ _ _).trans (grown_setCell _ _ _ _)
                have HS5 : Hid (Blk w5 gs 66 (RD.val { r with fs := drp r.fs ht } { q with fp := pf, fc := cf })) := by rw [hw5]; exact (HP4.out.bs.set 1 _).set 2 _
                have HA5 := Hid.in (HP4.out.pa.off HP4.out.bs (.inr (.inl rfl)) hg5)
                have HM5 := Hid.in (HP4.out.rm.off HP4.out.bs (.inr (.inl rfl)) hg5)
                have HW5 := Hid.in (HP4.out.bw.kept hg5 (fun e => blk_ne HP4.out.bw HP4.out.bs (by decide) (by injection e)))
                have HO5 := Hid.in (HO4.out.kept hg5 (fun e => blk_ne HO4.out HP4.out.bs (by decide) (by injection e)))
                have HL5 := Hid.in (HP4.out.bl.trans (below_grown hg5 HP4.out.g0.2 HP4.out.bl.size))
                have HF5 := Hid.in (HRF4.out.keeps (keeps_grown hg5) (fun j hj => ⟨66, _, hj ▸ HP4.out.bs, by decide⟩))
                have HSR := Hid.in HP4.out.sr
                have HOK := Hid.in HP4.out.ok
                have HBT := Hid.in HP4.out.bt
                have HG0 := Hid.in HP4.out.g0
                clear hw5 hg5 HP4 HO4 HK4 e0 e1 d1 d2 f1 f2 HRF4
                have o1 : w5.cell? ⟨go, 1, none⟩ = some (.int .i64 ht) := HO5.out.cell 1
                have b1 : w5.cell? ⟨gw, 1, none⟩ = some (.pointer (some ⟨rq, 0, none⟩)) := HW5.out.cell 1
                have HDR := Hid.in (drop_any rq s.fs s.n ht w5 HA5.out.rnd)
                rw [HSR.out.fs, hp] at HDR
                go_wp2_with (go_at_call 28; refine Hid.out ?_)
                refine Lib.hid ?_
                refine HDR.out.mono ?_
                rintro E w6 ⟨rfl, hr6, hg6⟩
                have HPT : Hid (PT w w6 gw gs (i + 1) pq mq mg rq bq lp lc { s with fs := drp r.fs ht, n := s.n } { r with fs := drp r.fs ht } { q with fp := pf, fc := cf }) := by
                  have hk6 := keeps_grown hg6
                  have hw := HA5.out.ne HW5.out (.inl rfl)
                  have hs := HA5.out.ne HS5.out (.inr (.inl rfl))
                  refine ⟨HA5.out.setR hr6 hg6, HW5.out.keeps hk6 (fun e => hw.2.2.2.1 e), HS5.out.keeps hk6 (fun e => hs.2.2.2.1 e), ?_, ?_, ?_, HBT.out, HL5.out.trans (below_grown hg6 HA5.out.gr HL5.out.size), HG0.out⟩
                  · have h := HSR.out
                    exact ⟨h.xs, rfl, h.n, h.ph, h.bt, h.lf, h.up, h.ct, h.wr, h.nx, h.b0, h.b1, h.st, h.gp, by show (drp r.fs ht).length ≤ 8; rw [drp_len]; exact h.f8, h.b4⟩
                  · have hkk : Keeps (GP pq mg rq bq) w5 w6 := keepsR hg6
                    have h := HM5.out.keeps HA5.out hkk
                    have hF := HF5.out.keeps hkk (fun j hj => by rcases gp_types HA5.out hj with ⟨-, c, h1⟩ | ⟨T, c, h1, h2, -, -⟩; exact ⟨5, c, h1, by decide⟩; exact ⟨T, c, h1, h2⟩)
                    exact ⟨h.xs, hF, h.bt, h.lf, h.hb, HCF.out, h.ht, h.tn, h.hl⟩
                  · have h := HOK.out.mono (show (i : Int) ≤ i + 1 by omega)
                    exact ⟨h.ph, h.nx, h.w1, h.w2, h.c1, h.c2, h.c3, h.c4, h.n, h.xl⟩
                clear hr6 hg6 HA5 HM5 HW5 HS5 HO5 HL5 HSR HOK HBT HDR o1 b1
                go_wp2_with fail
                go_meet
                case rel => exact ⟨rfl, _, _, _, _, _, _, _, _, _, _, HPT.out⟩
          · as_aux_lemma =>
              have o2 : w2.cell? ⟨go, 2, none⟩ = some (.slice rp rs.length rc) := HO.out.cell 2
              have b1 : w2.cell? ⟨gw, 1, none⟩ = some (.pointer (some ⟨rq, 0, none⟩)) := HP2.out.bw.cell 1
              by_cases hc : rs.length = r.fs.length ∧ ovr r.fs = true
              · have HC := Hid.in hc
                clear hc
                have hnn := HP2.out.ok.n
                rw [HP2.out.sr.n] at hnn
                have HNN := Hid.in hnn
                clear hnn
                have HSD := Hid.in (send_ok rq rc rp s.fs rs s.n w2 HP2.out.pa.rnd (HOW.out.below HP2.out.bl).row HP2.out.ok.n.1 (by have := HP2.out.ok.n.2; omega) (by rw [HP2.out.sr.fs]; exact HC.out.1) (by rw [HP2.out.sr.fs]; exact HC.out.2))
                go_wp2_with (go_at_call 29; refine Hid.out ?_)
                refine Lib.hid ?_
                refine HSD.out.mono ?_
                rintro E w3 ⟨rfl, hr3, hg3⟩
                have hk3 : Keeps (GP pq mg rq bq) w2 w3 := keepsR hg3
                obtain ⟨hbw3, hbs3, hrm3, hbl3⟩ := HP2.out.turned hk3
                have HA3 := Hid.in (HP2.out.pa.setR hr3 hg3)
                have HO3 := Hid.in (HP2.out.opk HO.out hk3)
                have HW3 := Hid.in hbw3
                have HS3 := Hid.in hbs3
                have HM3 := Hid.in hrm3
                have HL3 := Hid.in hbl3
                have HSR := Hid.in HP2.out.sr
                have HOK := Hid.in HP2.out.ok
                have HBT := Hid.in HP2.out.bt
                have HG0 := Hid.in HP2.out.g0
                clear hbw3 hbs3 hrm3 hbl3 hr3 hg3 hk3 HP2 HO HSD o2 b1
                have o2 : w3.cell? ⟨go, 2, none⟩ = some (.slice rp rs.length rc) := HO3.out.cell 2
                have d1 : w3.cell? ⟨gs, 1, none⟩ = some (.int .i64 r.n) := HS3.out.cell 1
                have d2 : w3.cell? ⟨gs, 2, none⟩ = some (.slice q.fp r.fs.length q.fc) := HS3.out.cell 2
                have HRS := Hid.in (rsend_ok q.fp rp q.fc rc r.fs rs r.n w3 HSR.out.f8 HM3.out.fs.row (HOW.out.below HL3.out).row HOW.out.rnil HC.out.1 HC.out.2 HNN.out.1 (by have := HNN.out.2; omega))
                go_wp2_with (go_at_call 30; refine Hid.out ?_)
                refine Lib.hid ?_
                refine HRS.out.mono ?_
                rintro E w4 ⟨v, rfl, hgv, hb4⟩
                obtain ⟨pf, cf, hvf, hcf, hrf⟩ := hgv.rowF
                subst hvf
                have HRF := Hid.in hrf
                have HCF := Hid.in hcf
                clear hgv hrf hcf
                have HA4 := Hid.in (HA3.out.below hb4)
                have HW4 := Hid.in (HW3.out.grow hb4)
                have HS4 := Hid.in (HS3.out.grow hb4)
                have HM4 := Hid.in (HM3.out.below hb4)
                have HL4 := Hid.in (below_step HL3.out hb4)
                clear hb4 HA3 HW3 HS3 HM3 HL3 HO3 HRS o2 d1 d2
                have d1 : w4.cell? ⟨gs, 1, none⟩ = some (.int .i64 r.n) := HS4.out.cell 1
                have d2 : w4.cell? ⟨gs, 2, none⟩ = some (.slice q.fp r.fs.length q.fc) := HS4.out.cell 2
                have f1 := HS4.out.free 1
                have f2 := HS4.out.free 2
                have hg5 : w4.grownBy ((w4.setCell ⟨gs, 1, none⟩ (.int .i64 (r.n + 1))).setCell ⟨gs, 2, none⟩ (.slice pf rs.length cf)) (some gs) := (grown_setCell _ _ _ _).trans (grown_setCell _ _ _ _)
                have HS5 : Hid (Blk ((w4.setCell ⟨gs, 1, none⟩ (.int .i64 (r.n + 1))).setCell ⟨gs, 2, none⟩ (.slice pf rs.length cf)) gs 66 (RD.val { r with n := r.n + 1, fs := rs } { q with fp := pf, fc := cf })) := (HS4.out.set 1 _).set 2 _
                have HPT : Hid (PT w ((w4.setCell ⟨gs, 1, none⟩ (.int .i64 (r.n + 1))).setCell ⟨gs, 2, none⟩ (.slice pf rs.length cf)) gw gs (i + 1) pq mq mg rq bq lp lc { s with fs := rs, n := s.n + 1 } { r with n := r.n + 1, fs := rs } { q with fp := pf, fc := cf }) := by
                  refine ⟨HA4.out.off HS4.out (.inr (.inl rfl)) hg5, HW4.out.kept hg5 (fun e => blk_ne HW4.out HS4.out (by decide) (by injection e)), HS5.out, ?_, ?_, ?_, HBT.out, HL4.out.trans (below_grown hg5 HG0.out.2 HL4.out.size), HG0.out⟩
                  · have h := HSR.out
                    exact ⟨h.xs, rfl, by show s.n + 1 = r.n + 1; rw [h.n], h.ph, h.bt, h.lf, h.up, h.ct, h.wr, h.nx, h.b0, h.b1, h.st, h.gp, by show rs.length ≤ 8; rw [HC.out.1]; exact h.f8, h.b4⟩
                  · have h := HM4.out.off HS4.out (.inr (.inl rfl)) hg5
                    exact ⟨h.xs, HRF.out.keeps (keeps_grown hg5) (fun j hj => ⟨66, _, hj ▸ HS4.out, by decide⟩), h.bt, h.lf, h.hb, HCF.out, h.ht, h.tn, h.hl⟩
                  · have h := HOK.out.mono (show (i : Int) ≤ i + 1 by omega)
                    have hn := HOK.out.n
                    exact ⟨h.ph, h.nx, h.w1, h.w2, h.c1, h.c2, h.c3, h.c4, ⟨by show 0 ≤ s.n + 1; omega, by show s.n + 1 ≤ _; omega⟩, h.xl⟩
                clear hg5 HS5 HA4 HW4 HS4 HM4 HL4 HSR HOK HBT
                go_wp2_with fail
                go_meet
                case rel => exact ⟨rfl, _, _, _, _, _, _, _, _, _, _, HPT.out⟩
              · have HC := Hid.in hc
                clear hc
                have HSD := Hid.in (send_bad rq rc rp s.fs rs s.n w2 HP2.out.pa.rnd (by rw [HP2.out.sr.fs]; by_cases hl : rs.length = r.fs.length; exact .inr (by cases ho : ovr r.fs; rfl; exact absurd ⟨hl, ho⟩ HC.out); exact .inl hl))
                go_wp2_with (go_at_call 29; refine Hid.out ?_)
                refine Lib.hid ?_
                refine HSD.out.mono ?_
                rintro E w3 ⟨rfl, hw3⟩
                rw [hw3]
                clear hw3 w3
                obtain ⟨w3, hw3⟩ : ∃ w3, w3 = w2 := ⟨_, rfl⟩
                rw [← hw3]
                have hbw3 : Blk w3 gw 26 (wA mq rq pq) := by rw [hw3]; exact HP2.out.bw
                have hbs3 : Blk w3 gs 66 (r.val q) := by rw [hw3]; exact HP2.out.bs
                have hrm3 : RM w3 mg r q := by rw [hw3]; exact HP2.out.rm
                have hbl3 : Below w.heap.size w w3 := by rw [hw3]; exact HP2.out.bl
                have HA3 : Hid (PA w3 w.heap.size pq mq mg rq bq lp lc s) := by rw [hw3]; exact HP2.out.pa
                have HO3 : Hid (Blk w3 go 72 #[.int .i64 5, .int .i64 ht, .slice rp rs.length rc, .slice ssp L.length ssc, .bool up]) := by rw [hw3]; exact HO.out
                clear hw3
                have HW3 := Hid.in hbw3
                have HS3 := Hid.in hbs3
                have HM3 := Hid.in hrm3
                have HL3 := Hid.in hbl3
                have HSR := Hid.in HP2.out.sr
                have HOK := Hid.in HP2.out.ok
                have HBT := Hid.in HP2.out.bt
                have HG0 := Hid.in HP2.out.g0
                clear hbw3 hbs3 hrm3 hbl3 HP2 HO HSD o2 b1
                have o2 : w3.cell? ⟨go, 2, none⟩ = some (.slice rp rs.length rc) := HO3.out.cell 2
                have d1 : w3.cell? ⟨gs, 1, none⟩ = some (.int .i64 r.n) := HS3.out.cell 1
                have d2 : w3.cell? ⟨gs, 2, none⟩ = some (.slice q.fp r.fs.length q.fc) := HS3.out.cell 2
                have HRS := Hid.in (rsend_bad q.fp rp q.fc rc r.fs rs r.n w3 HSR.out.f8 HM3.out.fs.row (by by_cases hl : rs.length = r.fs.length; exact .inr (by cases ho : ovr r.fs; rfl; exact absurd ⟨hl, ho⟩ HC.out); exact .inl hl))
                go_wp2_with (go_at_call 30; refine Hid.out ?_)
                refine Lib.hid ?_
                refine HRS.out.mono ?_
                rintro E w4 ⟨rfl, hb4⟩
                have HA4 := Hid.in (HA3.out.below hb4)
                have HW4 := Hid.in (HW3.out.grow hb4)
                have HS4 := Hid.in (HS3.out.grow hb4)
                have HM4 := Hid.in (HM3.out.below hb4)
                have HL4 := Hid.in (below_step HL3.out hb4)
                clear hb4 HA3 HW3 HS3 HM3 HL3 HO3 HRS o2 d1 d2
                have d1 : w4.cell? ⟨gs, 1, none⟩ = some (.int .i64 r.n) := HS4.out.cell 1
                have d2 : w4.cell? ⟨gs, 2, none⟩ = some (.slice q.fp r.fs.length q.fc) := HS4.out.cell 2
                have f1 := HS4.out.free 1
                have f2 := HS4.out.free 2
                have hg5 : w4.grownBy ((w4.setCell ⟨gs, 1, none⟩ (.int .i64 r.n)).setCell ⟨gs, 2, none⟩ (.slice q.fp r.fs.length q.fc)) (some gs) := (grown_setCell _ _ _ _).trans (grown_setCell _ _ _ _)
                have HS5 : Hid (Blk ((w4.setCell ⟨gs, 1, none⟩ (.int .i64 r.n)).setCell ⟨gs, 2, none⟩ (.slice q.fp r.fs.length q.fc)) gs 66 (RD.val r q)) := (HS4.out.set 1 _).set 2 _
                have HPT : Hid (PT w ((w4.setCell ⟨gs, 1, none⟩ (.int .i64 r.n)).setCell ⟨gs, 2, none⟩ (.slice q.fp r.fs.length q.fc)) gw gs (i + 1) pq mq mg rq bq lp lc s r q) := by
                  refine ⟨HA4.out.off HS4.out (.inr (.inl rfl)) hg5, HW4.out.kept hg5 (fun e => blk_ne HW4.out HS4.out (by decide) (by injection e)), HS5.out, ?_, ?_, ?_, HBT.out, HL4.out.trans (below_grown hg5 HG0.out.2 HL4.out.size), HG0.out⟩
                  · have h := HSR.out
                    exact h
                  · have h := HM4.out.off HS4.out (.inr (.inl rfl)) hg5
                    exact h
                  · have h := HOK.out.mono (show (i : Int) ≤ i + 1 by omega)
                    have hn := HOK.out.n
                    exact ⟨h.ph, h.nx, h.w1, h.w2, h.c1, h.c2, h.c3, h.c4, h.n, h.xl⟩
                clear hg5 HS5 HA4 HW4 HS4 HM4 HL4 HSR HOK HBT
                go_wp2_with fail
                go_meet
                case rel => exact ⟨rfl, _, _, _, _, _, _, _, _, _, _, HPT.out⟩
          · as_aux_lemma =>
              have hxl := HP2.out.ok.xl
              have HKC : Hid (∀ W, Below w2.heap.size w2 W → W.cell? ⟨gw, 0, none⟩ = some (.pointer (some ⟨mq, 0, none⟩)) ∧ W.cell? ⟨gw, 1, none⟩ = some (.pointer (some ⟨rq, 0, none⟩)) ∧ W.cell? ⟨gw, 2, none⟩ = some (.pointer (some ⟨pq, 0, none⟩))) := fun W hb => ⟨(HP2.out.bw.grow hb).cell 0, (HP2.out.bw.grow hb).cell 1, (HP2.out.bw.grow hb).cell 2⟩
              obtain ⟨y0, y1, y2⟩ := HKC.out w2 (below_self _)
              have HP2d : Hid (PT w w2.drew gw gs i pq mq mg rq bq lp lc s r q) := HP2.out.below (below_draws (below_self _) 1)
              have HMC : Hid (∀ W, PT w W gw gs i pq mq mg rq bq lp lc s r q → Calls Try.prog 17 #[.pointer (some ⟨mq, 0, none⟩)] W fun e w' => ∃ q' h, e = .returned (.pointer (some ⟨q', 0, none⟩)) ∧ Mem w' W.heap.size q' h s.xs ∧ Below W.heap.size W w') := fun W h => mcopy_any mq mg w.heap.size s.xs W h.pa.mem hxl
              have HRC : Hid (∀ W, PT w W gw gs i pq mq mg rq bq lp lc s r q → Calls Try.prog 18 #[.pointer (some ⟨rq, 0, none⟩)] W fun e w' => e = .returned (.pointer (some ⟨W.heap.size, 0, none⟩)) ∧ Rnd w' W.heap.size s.fs s.n ∧ Below W.heap.size W w') := fun W h => rcopy_any rq s.fs s.n W h.pa.rnd
              go_upto_region 36 with fail
              go_region_held3 (fun W => W.cell? ⟨gw, 0, none⟩ = some (.pointer (some ⟨mq, 0, none⟩)) ∧ W.cell? ⟨gw, 1, none⟩ = some (.pointer (some ⟨rq, 0, none⟩)) ∧ W.cell? ⟨gw, 2, none⟩ = some (.pointer (some ⟨pq, 0, none⟩))) (first | (with_reducible exact hk3) | (with_reducible exact hk4) | go_keep)
                (first
                  | (go_at_call 17; (with_reducible refine (HMC.out _ HP2d.out).mono ?_); rintro E w3 ⟨mq', mg', rfl, hm3, hb3⟩; have HB3 := Hid.in (below_step (below_draws (below_self w2) 1) hb3); have hk3 := HKC.out w3 HB3.out; have HP3 := Hid.in (HP2.out.below HB3.out); have HM3 : Hid (Mem w3 w2.heap.size mq' mg' s.xs) := hm3; clear hm3 hb3)
                  | (go_at_call 18; (with_reducible refine (HRC.out _ HP3.out).mono ?_); rintro E w4 ⟨rfl, hr4, hb4⟩; have HB4 := Hid.in (below_step HB3.out hb4); have hk4 := HKC.out w4 HB4.out; have HP4 := Hid.in (HP2.out.below HB4.out); have HM4 := Hid.in (HM3.out.below hb4); have HR4 := Hid.in hr4; have HS3 := Hid.in HB3.out.size; clear hr4 hb4))
              generalize w3.heap.size = rq' at *
              have HO4 := Hid.in (HO.out.grow HB4.out)
              have HT0 := Hid.in HP2.out.rm
              have HA0 : Hid (pq < w2.heap.size ∧ mg < w2.heap.size ∧ rq < w2.heap.size ∧ bq < w2.heap.size) := ⟨HP2.out.pa.pat.lt, HP2.out.mgl, HP2.out.pa.rnd.blk.lt, HP2.out.pa.bat.blk.lt⟩
              have HGW : Hid (gw < w2.heap.size) := HP2.out.bw.lt
              have HZ24 := Hid.in HB4.out.size
              clear y0 y1 y2 hk3 hk4 HP2 HP2d HMC HRC HKC HB3 HB4 HP3 HM3 HO
              generalize hA2 : w2.heap.size = A2 at *
              have HTA : Hid (∀ w' mg', RM w' mg r q → A2 ≤ mg' → RM w' mg' r q) := fun w' mg' h h' => HT0.out.turn h (by rw [hA2]; exact h')
              clear HT0 hA2
              have d0 : w4.cell? ⟨gw, 0, none⟩ = some (.pointer (some ⟨mq, 0, none⟩)) := HP4.out.bw.cell 0
              have d1 : w4.cell? ⟨gw, 1, none⟩ = some (.pointer (some ⟨rq, 0, none⟩)) := HP4.out.bw.cell 1
              have d2 : w4.cell? ⟨gw, 2, none⟩ = some (.pointer (some ⟨pq, 0, none⟩)) := HP4.out.bw.cell 2
              go_upto_region 38 with fail
              obtain ⟨w5, hw5⟩ : ∃ w5, w5 = w4.alloc (.cells (wA mq rq pq) 26) := ⟨_, rfl⟩
              rw [← hw5]
              have HB45 : Hid (Below w4.heap.size w4 w5) := by rw [hw5]; exact new_alloc _ _
              have HX5 : Hid (Blk w5 w4.heap.size 26 (wA mq rq pq)) := by rw [hw5]; exact Blk.new _ _ _
              have HP5 := Hid.in (HP4.out.below HB45.out)
              have HM5 := Hid.in (HM4.out.below HB45.out)
              have HR5 := Hid.in (HR4.out.below HB45.out)
              have HO5 := Hid.in (HO4.out.grow HB45.out)
              have HGG : Hid (gw < w4.heap.size) := Nat.lt_of_lt_of_le HGW.out HZ24.out
              clear hw5 HB45 HP4 HM4 HR4 HO4 d0 d1 d2
              generalize w4.heap.size = g2 at *
              have d2 : w5.cell? ⟨gw, 2, none⟩ = some (.pointer (some ⟨pq, 0, none⟩)) := HP5.out.bw.cell 2
              have hA0w : w.heap.size ≤ A2 := Nat.le_trans HP5.out.g0.1 (Nat.le_of_lt HGW.out)
              go_wp2_with (go_at_call 16; refine Hid.out ?_)
              refine Lib.hid ?_
              refine (pcopy_ok HP5.out.pa (HM5.out.lowM hA0w) HR5.out hxl (Nat.le_trans hA0w HS3.out) HP5.out.bl.size).mono ?_
              rintro E w6 ⟨pq', bq', rfl, hpa6, hb6, hpl6, hbl6⟩
              have hce : cpyP s s.xs s.fs s.n = s := rfl
              rw [hce] at hpa6
              have HN : Hid (A2 ≤ pq' ∧ A2 ≤ mq' ∧ A2 ≤ mg' ∧ A2 ≤ rq' ∧ A2 ≤ bq') := by
                have h1 := HX5.out.lt
                have h2 := HGG.out
                have h3 := HM5.out.base
                have h4 := HM5.out.own.base
                have h5 := HS3.out
                have h6 := HZ24.out
                exact ⟨by omega, h3, h4, h5, by omega⟩
              have HQ6 := Hid.in hpa6
              have HP6 := Hid.in (HP5.out.below hb6)
              have HX6 := Hid.in (HX5.out.grow hb6)
              have HO6 := Hid.in (HO5.out.grow hb6)
              clear hpa6 hb6 hpl6 hbl6 hce HP5 HM5 HR5 HX5 HO5 d2 HS3
              go_wp2_with (first | (refine step_store_blk HP6.out.bw rfl 26 _ _ rfl rfl rfl (wA mq' rq' pq') rfl (by kernel_rfl) rfl (by kernel_rfl) ?_; intro w7 hb7 hg7; refine Hid.out ?_))
              refine Lib.hid ?_
              have HQ7 := Hid.in (HQ6.out.off HP6.out.bw (.inl rfl) hg7)
              have HPA7 := Hid.in (HP6.out.pa.off HP6.out.bw (.inl rfl) hg7)
              have HRM7 := Hid.in (HP6.out.rm.off HP6.out.bw (.inl rfl) hg7)
              have HBS7 := Hid.in (HP6.out.bs.kept hg7 (fun e => blk_ne HP6.out.bs HP6.out.bw (by decide) (by injection e)))
              have HX7 := Hid.in (HX6.out.kept hg7 (fun e => by injection e with e; have := HGG.out; omega))
              have HO7 := Hid.in (HO6.out.kept hg7 (fun e => blk_ne HO6.out HP6.out.bw (by decide) (by injection e)))
              have HBW7 := Hid.in hb7
              have HL7 := Hid.in (HP6.out.bl.trans (below_grown hg7 HP6.out.g0.1 HP6.out.bl.size))
              have HSR := Hid.in HP6.out.sr
              have HOK := Hid.in HP6.out.ok
              have HBT := Hid.in HP6.out.bt
              have HG0 := Hid.in HP6.out.g0
              clear hb7 hg7 HQ6 HP6 HX6 HO6
              have x2 : w7.cell? ⟨g2, 2, none⟩ = some (.pointer (some ⟨pq, 0, none⟩)) := HX7.out.cell 2
              have o2 : w7.cell? ⟨go, 2, none⟩ = some (.slice rp rs.length rc) := HO7.out.cell 2
              go_wp2_with (go_at_call 11; refine Hid.out ?_)
              refine Lib.hid ?_
              refine (pstep_any w.heap.size pq mq mg rq bq lp lc s rp rc rs w7 HPA7.out (HOW.out.below HL7.out).row (HOK.out.mono hM) HBT.out).mono ?_
              rintro E w8 ⟨v8, lp8, lc8, rfl, hev8, hpa8, hk8⟩
              obtain ⟨pe, ce, hve, -⟩ := hev8.shape
              have HQ8 := Hid.in (HQ7.out.apart HPA7.out hk8 HA0.out HN.out)
              have HRM8 := Hid.in (HRM7.out.keeps HPA7.out hk8)
              have HPA8 := Hid.in hpa8
              have HBW8 := Hid.in (HBW7.out.keeps hk8 (ne_gp (HPA7.out.ne HBW7.out (.inl rfl))))
              have HBS8 := Hid.in (HBS7.out.keeps hk8 (ne_gp (HPA7.out.ne HBS7.out (.inr (.inl rfl)))))
              have HX8 := Hid.in (HX7.out.keeps hk8 (ne_gp (HPA7.out.ne HX7.out (.inl rfl))))
              have HL8 := Hid.in (HL7.out.trans (hk8.belowG (gp_ge HPA7.out) HL7.out.size))
              have HOK8 := Hid.in (stp_ok (rs := rs) HOK.out HBT.out).1
              clear hev8 hpa8 hk8 HQ7 HRM7 HPA7 HBW7 HBS7 HX7 HL7 HO7 x2 o2
              generalize stpP s rs = SP at *
              subst hve
              have x0 : w8.cell? ⟨g2, 0, none⟩ = some (.pointer (some ⟨mq, 0, none⟩)) := HX8.out.cell 0
              go_wp2_with (go_at_call 31; refine Hid.out ?_)
              refine Lib.hid ?_
              have HR3 : Hid (Row (w8.alloc (.cells #[.int .u8 1, .int .u8 2, .int .u8 3] 5)) (some ⟨w8.heap.size, 0, none⟩) [1, 2, 3]) := (Own.lit w8 [1, 2, 3] (by decide)).row
              have HB9 : Hid (Below w8.heap.size w8 (w8.alloc (.cells #[.int .u8 1, .int .u8 2, .int .u8 3] 5))) := new_alloc _ _
              generalize w8.alloc (.cells #[.int .u8 1, .int .u8 2, .int .u8 3] 5) = w9 at *
              have HPA9 := Hid.in (HPA8.out.below HB9.out)
              have HWR : Hid (Calls Try.prog 31 #[.pointer (some ⟨mq, 0, none⟩), .int .i64 0, .slice (some ⟨w8.heap.size, 0, none⟩) 3 3] w9 fun e w' => ∃ z, e = .returned (.int .i64 z) ∧ Keeps (fun b => b = mg) w9 w') := by
                by_cases h3 : 3 ≤ SP.s.xs.length
                · refine (write_ok mq mg w.heap.size 0 3 _ SP.s.xs [1, 2, 3] w9 HPA9.out.mem HR3.out (by simpa using h3) HOK8.out.xl).mono ?_
                  rintro e w' ⟨rfl, -, h⟩
                  exact ⟨_, rfl, h⟩
                · refine (write_out mq mg w.heap.size 3 3 _ 0 SP.s.xs w9 HPA9.out.mem (by decide) (by omega)).mono ?_
                  rintro e w' ⟨rfl, rfl⟩
                  exact ⟨_, rfl, Keeps.refl _ _⟩
              refine HWR.out.mono ?_
              rintro E w10 ⟨z, rfl, hk10⟩
              have hkG : Keeps (GP pq mg rq bq) w9 w10 := keepsM hk10
              have HPT : Hid (PT w w10 gw gs (i + 1) pq' mq' mg' rq' bq' lp lc s r q) := ⟨(HQ8.out.below HB9.out).apart HPA9.out hkG HA0.out HN.out, (HBW8.out.grow HB9.out).keeps hkG (ne_gp (HPA9.out.ne (HBW8.out.grow HB9.out) (.inl rfl))), (HBS8.out.grow HB9.out).keeps hkG (ne_gp (HPA9.out.ne (HBS8.out.grow HB9.out) (.inr (.inl rfl)))), HSR.out, HTA.out w10 mg' ((HRM8.out.below HB9.out).keeps HPA9.out hkG) HN.out.2.2.1, HOK.out.mono (by omega), HBT.out, (below_step HL8.out HB9.out).trans (hkG.belowG (gp_ge HPA9.out) (below_step HL8.out HB9.out).size), HG0.out⟩
              clear hk10 hkG HWR HR3 HB9 HPA9 HPA8 HQ8 HRM8 HBW8 HBS8 HX8 HL8 HOK8 HSR HOK HBT HN HA0 HTA x0
              go_wp2_with fail
              go_meet
              case rel => exact ⟨rfl, _, _, _, _, _, _, _, _, _, _, HPT.out⟩
        · have h1 : (kd == 1) = false := by rw [beq_eq_false_iff_ne]; omega
          have h2 : (kd == 2) = false := by rw [beq_eq_false_iff_ne]; omega
          have h3 : (kd == 3) = false := by rw [beq_eq_false_iff_ne]; omega
          have h4 : (kd == 4) = false := by rw [beq_eq_false_iff_ne]; omega
          have h5 : (kd == 5) = false := by rw [beq_eq_false_iff_ne]; omega
          have h6 : (kd == 6) = false := by rw [beq_eq_false_iff_ne]; omega
          clear hk
          go_wp2_with fail
          go_meet
          case rel => exact ⟨rfl, _, _, _, _, _, _, _, _, _, _, HP2.out.more⟩
      case rest =>
        as_aux_lemma =>
          clear HP2 HO HOW
          obtain ⟨rfl, pq, mq, mg, rq, bq, lp, lc, s, r, q, hpt⟩ := hcut
          have HP := Hid.in hpt
          clear hpt
          have HK : Hid (∀ W, Below wc.heap.size wc W → W.cell? ⟨gw, 0, none⟩ = some (.pointer (some ⟨mq, 0, none⟩)) ∧ W.cell? ⟨gw, 1, none⟩ = some (.pointer (some ⟨rq, 0, none⟩)) ∧ W.cell? ⟨gw, 2, none⟩ = some (.pointer (some ⟨pq, 0, none⟩)) ∧ W.cell? ⟨gs, 0, none⟩ = some (.slice q.bp r.xs.length q.bc) ∧ W.cell? ⟨gs, 1, none⟩ = some (.int .i64 r.n) ∧ W.cell? ⟨gs, 2, none⟩ = some (.slice q.fp r.fs.length q.fc) ∧ W.cell? ⟨gs, 3, none⟩ = some (.int .u8 r.ph) ∧ W.cell? ⟨gs, 4, none⟩ = some (.int .u8 r.sent) ∧ W.cell? ⟨gs, 5, none⟩ = some (.slice q.tp r.bt.length q.tc) ∧ W.cell? ⟨gs, 6, none⟩ = some (.slice q.lp r.lf.length q.lc) ∧ W.cell? ⟨gs, 7, none⟩ = some (.int .i64 r.dn) ∧ W.cell? ⟨gs, 8, none⟩ = some (.bool r.up) ∧ W.cell? ⟨gs, 9, none⟩ = some (.int .i64 r.ct.si) ∧ W.cell? ⟨gs, 10, none⟩ = some (.int .i64 r.ct.wr) ∧ W.cell? ⟨gs, 11, none⟩ = some (.int .i64 r.ct.ro) ∧ W.cell? ⟨gs, 12, none⟩ = some (.int .i64 r.ct.st) ∧ W.cell? ⟨gs, 13, none⟩ = some (.int .i64 r.ct.wa)) := fun W hb => ⟨(HP.out.bw.grow hb).cell 0, (HP.out.bw.grow hb).cell 1, (HP.out.bw.grow hb).cell 2, (HP.out.bs.grow hb).cell 0, (HP.out.bs.grow hb).cell 1, (HP.out.bs.grow hb).cell 2, (HP.out.bs.grow hb).cell 3, (HP.out.bs.grow hb).cell 4, (HP.out.bs.grow hb).cell 5, (HP.out.bs.grow hb).cell 6, (HP.out.bs.grow hb).cell 7, (HP.out.bs.grow hb).cell 8, (HP.out.bs.grow hb).cell 9, (HP.out.bs.grow hb).cell 10, (HP.out.bs.grow hb).cell 11, (HP.out.bs.grow hb).cell 12, (HP.out.bs.grow hb).cell 13⟩
          obtain ⟨y0, y1, y2, y3, y4, y5, y6, y7, y8, y9, y10, y11, y12, y13, y14, y15, y16⟩ := HK.out wc (below_self _)
          have HP1 : Hid (PT w wc.drew gw gs (i + 1) pq mq mg rq bq lp lc s r q) := HP.out.below (below_draws (below_self _) 1)
          have HSX := Hid.in (And.intro HP.out.sr.xs HP.out.ok.xl)
          have HLK : Hid (∀ W, PT w W gw gs (i + 1) pq mq mg rq bq lp lc s r q → Calls Try.prog 32 #[.agg #[.pointer (some ⟨mq, 0, none⟩), .pointer (some ⟨rq, 0, none⟩), .pointer (some ⟨pq, 0, none⟩)], .agg #[.slice q.bp r.xs.length q.bc, .int .i64 r.n, .slice q.fp r.fs.length q.fc, .int .u8 r.ph, .int .u8 r.sent, .slice q.tp r.bt.length q.tc, .slice q.lp r.lf.length q.lc, .int .i64 r.dn, .bool r.up, .int .i64 r.ct.si, .int .i64 r.ct.wr, .int .i64 r.ct.ro, .int .i64 r.ct.st, .int .i64 r.ct.wa]] W fun e w' => e = .returned (.bool true) ∧ Below W.heap.size W w') := fun W h => looks_any h.pa h.sr h.rm h.bt
          have HMB : Hid (∀ W, PT w W gw gs (i + 1) pq mq mg rq bq lp lc s r q → Calls Try.prog 34 #[.pointer (some ⟨mq, 0, none⟩)] W fun e w' => ∃ h, e = .returned (.slice (some ⟨h, 0, none⟩) r.xs.length r.xs.length) ∧ Own w' W.heap.size h r.xs.length r.xs ∧ Below W.heap.size W w') := fun W h => by
            have := mbytes_any mq mg w.heap.size s.xs W h.pa.mem HSX.out.2
            rw [HSX.out.1] at this
            exact this
          have hxl : r.xs.length ≤ 65536 := by rw [← HSX.out.1]; exact HSX.out.2
          go_upto_region 41 with fail
          go_region_held3 (fun W => W.cell? ⟨gw, 0, none⟩ = some (.pointer (some ⟨mq, 0, none⟩)) ∧ W.cell? ⟨gw, 1, none⟩ = some (.pointer (some ⟨rq, 0, none⟩)) ∧ W.cell? ⟨gw, 2, none⟩ = some (.pointer (some ⟨pq, 0, none⟩)) ∧ W.cell? ⟨gs, 0, none⟩ = some (.slice q.bp r.xs.length q.bc) ∧ W.cell? ⟨gs, 1, none⟩ = some (.int .i64 r.n) ∧ W.cell? ⟨gs, 2, none⟩ = some (.slice q.fp r.fs.length q.fc) ∧ W.cell? ⟨gs, 3, none⟩ = some (.int .u8 r.ph) ∧ W.cell? ⟨gs, 4, none⟩ = some (.int .u8 r.sent) ∧ W.cell? ⟨gs, 5, none⟩ = some (.slice q.tp r.bt.length q.tc) ∧ W.cell? ⟨gs, 6, none⟩ = some (.slice q.lp r.lf.length q.lc) ∧ W.cell? ⟨gs, 7, none⟩ = some (.int .i64 r.dn) ∧ W.cell? ⟨gs, 8, none⟩ = some (.bool r.up) ∧ W.cell? ⟨gs, 9, none⟩ = some (.int .i64 r.ct.si) ∧ W.cell? ⟨gs, 10, none⟩ = some (.int .i64 r.ct.wr) ∧ W.cell? ⟨gs, 11, none⟩ = some (.int .i64 r.ct.ro) ∧ W.cell? ⟨gs, 12, none⟩ = some (.int .i64 r.ct.st) ∧ W.cell? ⟨gs, 13, none⟩ = some (.int .i64 r.ct.wa)) (first | (with_reducible exact hk3) | (with_reducible exact hk4) | (with_reducible exact hk5) | go_keep)
            (first
              | (go_at_call 32; (with_reducible refine (HLK.out _ HP1.out).mono ?_); rintro E w3 ⟨rfl, hb3⟩; have HB3 := Hid.in (below_step (below_draws (below_self wc) 1) hb3); have hk3 := HK.out w3 HB3.out; have HP3 := Hid.in (HP.out.below HB3.out); clear hb3)
              | (go_at_call 34; (with_reducible refine (HMB.out _ HP3.out).mono ?_); rintro E w4 ⟨hb, rfl, ho4, hb4⟩; have HB4 := Hid.in (below_step HB3.out hb4); have hk4 := HK.out w4 HB4.out; have HP4 := Hid.in (HP.out.below HB4.out); have HO4 := Hid.in ho4.row; clear ho4 hb4)
              | (go_at_call 33; (with_reducible refine (sameBytes_any (some ⟨hb, 0, none⟩) q.bp r.xs.length r.xs.length r.xs.length q.bc r.xs r.xs _ rfl rfl (Nat.le_trans hxl (by decide)) HO4.out HP4.out.rm.xs.row).mono ?_); rintro E w5 ⟨rfl, z, hw⟩; rw [sameB_self]; have hk5 := HK.out w5 (hw ▸ below_draws HB4.out z); have HP5 : Hid (PT w w5 gw gs (i + 1) pq mq mg rq bq lp lc s r q) := hw ▸ HP4.out.below (below_draws (below_self _) z); clear hw))
          clear hk3 hk4 hk5 y0 y1 y2 y3 y4 y5 y6 y7 y8 y9 y10 y11 y12 y13 y14 y15 y16
          go_wp2_with fail
          go_roundw
          case rel => exact ⟨i + 1, by go_num, by omega, by omega, pq, mq, mg, rq, bq, lp, lc, s, r, q, HP5.out⟩
          case measure => simp [intOf]; omega
    · go_wp2_with (go_at_call 21; refine Hid.out ?_)
      all_goals refine Lib.hid ?_
      all_goals refine (awake_any _).mono ?_
      all_goals rintro E w7 ⟨rfl, hb⟩
      all_goals have HL7 := Hid.in (below_step HP.out.bl hb)
      all_goals clear hb
      all_goals go_wp2_with fail
      all_goals go_ret
      all_goals exact ⟨rfl, HL7.out⟩
end Go.Proofs.Ytekggimgobeggaa

namespace Go.Proofs.Ytekggimgobeggaa
open Go.ChangeShapes Go.WideShapes Go.ChangeAt Go.RowKit
open Go.ChangeMaps (open_string shut_string)

set_option maxRecDepth 100000 in
theorem pokePlays_lifted (os : Os) (started : os.Started) (H : Type) (enc : TypeId × Value → H) :
    ReturnsInHanded {} Try.checked os 4 .any (Rows.pokePlaysSpec.pre6 enc Try.prog Try.f4 Rows.pokePlaysRow.domain false) (Rows.pokePlaysSpec.post enc Try.prog Try.f4 false true false false) := by
  refine returnsInHanded_of_change_sized (C := Try.checked) Try.own started (by kernel_rfl) Try.func4
    (ChangeSpec.witness6 (enc := enc) (C := Try.checked) false ⟨#[], #[.slice none 0 0, .int .i64 0, .slice none 0 0], []⟩ 8 (by kernel_rfl) (by kernel_rfl) (by kernel_rfl) (by kernel_rfl)) ?_
  intro W base args ds gs before hval0 hW hcnd hsz0 _
  have hW' := hW
  obtain ⟨p, q, hA0, hV, rfl, hfz, hnd⟩ := hW
  have hA : DataW.TrodAll enc Try.prog W 0 (fun _ => true) true Try.f4.params.toList args.toList ds p := hA0
  have hval : ∀ (j : Nat) t v, Try.f4.params[j]? = some t → args[j]? = some v → Value.okWide Try.prog W .any base t v := hval0
  have hsz : (DataW.weightsEach Try.prog (Try.f4.params.toList ++ Rows.pokePlaysSpec.plain.varTypes Try.prog) (ds ++ gs)).all (· ≤ reachBytes) = true := hsz0
  rw [Try.params4] at hA hval hsz
  obtain ⟨v0, vs0, d0, ds0, p0, q0_, hargs, rfl, rfl, h0, r0⟩ := trodAll_cons hA
  obtain ⟨v1, vs1, d1, ds1, p1, q1_, rfl, rfl, rfl, h1, r1⟩ := trodAll_cons r0
  obtain ⟨v2, vs2, d2, ds2, p2, q2_, rfl, rfl, rfl, h2, r2⟩ := trodAll_cons r1
  obtain ⟨rfl, rfl, rfl⟩ := trodAll_nil r2
  obtain rfl : args = #[v0, v1, v2] := by cases args; simp_all
  obtain ⟨rfl, rfl⟩ := trodVars_none hV
  have k0 := h0
  have lt0 : ∀ x ∈ p0, x.block < W.heap.size := by obtain ⟨m, hm⟩ := k0; exact DataW.trod_lt m _ _ _ hm
  obtain ⟨q0, n0, e0, xs0, rfl, hx0, hn0, hc0, hr0⟩ := open_bytes_val (hval 0 54 v0 rfl rfl) h0 hsz (j := 0) rfl rfl
  obtain ⟨a1, rfl, rfl, rfl, w1⟩ := open_int Try.underlying3 (hval 1 3 v1 rfl rfl) h1
  have k2 := h2
  have lt2 : ∀ x ∈ p2, x.block < W.heap.size := by obtain ⟨m, hm⟩ := k2; exact DataW.trod_lt m _ _ _ hm
  obtain ⟨q2, e2, L2, rfl, hm2, hs2⟩ := open_script_val (hval 2 70 v2 rfl rfl) h2 hsz (j := 2) rfl rfl
  refine (plays_walk q0 n0 e0 xs0 a1 q2 L2.length e2 L2 W hx0 hn0 hc0 hr0 rfl hm2 hs2).mono fun e W' ⟨he, bel⟩ => ?_
  subst he
  exact ⟨_, rfl, _, _, _, [], _, [], hW', trodAll_mk1 (shut_bool Try.underlying4 _), (trodAll_cons_mk (Below.trod Try.laidOut (by kernel_rfl) (of_decide_eq_true (by kernel_rfl)) k0 bel lt0) (trodAll_cons_mk (shut_int Try.underlying3 w1) (trodAll_cons_mk (Below.trod Try.laidOut (by kernel_rfl) (of_decide_eq_true (by kernel_rfl)) k2 bel lt2) trodAll_mk0))), rfl, bel.frame _, fun h => by cases h⟩

theorem pokePlays_holds : Rows.PokePlaysSaid :=
  OpenClaim.holds_of_wide 4 Try.f4 rfl rfl rfl rfl rfl rfl rfl ⟨rfl, rfl, rfl, rfl, rfl⟩ rfl rfl rfl rfl rfl (by kernel_rfl) Try.func4 (by kernel_rfl)
    (of_decide_eq_true (by kernel_rfl)) (by unfold Func.isWrapper; first | (rw [if_pos (by decide +kernel)]; kernel_rfl) | (rw [if_neg (by decide +kernel)]; exact ⟨rfl, rfl⟩))
    (fun os started H enc _ => pokePlays_lifted os started H enc)
#print axioms pokePlays_holds

end Go.Proofs.Ytekggimgobeggaa
