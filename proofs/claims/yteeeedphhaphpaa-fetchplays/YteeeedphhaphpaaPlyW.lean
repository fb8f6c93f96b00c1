/- FetchPlays: any script over any small memory. -/
import Derived.Test.YteeeedphhaphpaaPlyL
import Derived.Test.YteeeedphhaphpaaLent
import Derived.Deep.DeepCutAuto
import Derived.Deep.CutBlock
import Derived.BigQuiet
import Derived.Lib.Hide
namespace Go.Proofs.Yteeeedphhaphpaa
open Go.RowKit Go.Maps

theorem OwnV.far2 {w : World} {mg B : Nat} {v : Value} {ys : List Int} (h : OwnV w B v ys) (hg : mg < B) : ∃ p c, v = .slice p ys.length c ∧ Row w p ys ∧ Far p mg ∧ (p = none → c = 0) := by
  rcases h.shape with ⟨rfl, rfl⟩ | ⟨g, cap, rfl, ho⟩
  · exact ⟨none, 0, rfl, fun h => absurd h (Nat.lt_irrefl 0), far_none _, fun _ => rfl⟩
  · exact ⟨_, _, rfl, ho.row, (fun g' o e => by injection e with e; injection e with e; have := ho.base; omega), fun e => by cases e⟩

set_option maxRecDepth 8000 in
set_option maxHeartbeats 2000000 in
theorem plays_walk (p s : Option Addr) (n c m d : Nat) (xs0 : List Int) (S : List OpD) (w : World) (hx : xs0.length = n) (hn : n ≤ 140737488351232) (hnc : n ≤ c) (hS : S.length = m) (hm : m ≤ 9223372036854775807) (hr : Row w p xs0) (hbx : Byt xs0) (hsc : Scr w s S) :
    Calls Try.prog 5 #[.slice p n c, .slice s m d] w fun e w' => e = .returned (.bool true) ∧ Below w.heap.size w w' := by
  have h8 := made_any p n c xs0 w hx (by omega) hnc hr
  have hzl : (xs0.take 2000).length ≤ 2000 := by rw [List.length_take]; omega
  have HBZ := Hid.in (byt_take hbx 2000)
  generalize xs0.take 2000 = zs at *
  have HS := Hid.in hS
  have HC : Hid (∀ W, Below w.heap.size w W → Scr W s S) := fun W hW => hsc.below hW
  obtain ⟨mm, hmm⟩ : ∃ mm, zs.length = mm := ⟨_, rfl⟩
  have HMM := Hid.in hmm
  rw [hmm] at hzl
  clear hx hr hbx hsc hS hmm
  go_enter Try.func5, Try.ntmps5
  go_wp2_with (go_at_call 8; refine Hid.out ?_)
  refine Lib.hid ?_
  refine h8.mono ?_
  rintro e w1 ⟨q, mg, l, b, pw, cw, rfl, hst, hrw, hfw, -⟩
  have HST : Hid (PSt w w1 q mg l b [] zs [] pw none none none 0) := ⟨hst, hrw, hfw, fun h => absurd h (Nat.lt_irrefl 0), fun h => absurd h (Nat.lt_irrefl 0), far_none _, fun h => absurd h (Nat.lt_irrefl 0), far_none _, fun _ => rfl⟩
  clear hst hrw hfw h8
  go_wp2_with fail
  go_loopw [7, 8, 9, 10, 11] (fun v7 v8 v9 v10 vi wr => ∃ (k : Nat) (L : List Ln) (xs hv : List Int) (pw p8 ph pq : Option Addr) (cw c8 ch cq : Nat), v7 = .slice pw mm cw ∧ v8 = .slice p8 L.length c8 ∧ v9 = .slice ph hv.length ch ∧ v10 = .slice pq hv.length cq ∧ vi = .int .i64 k ∧ k ≤ m ∧ k ≤ 200 ∧ L.length ≤ k ∧ xs.length = mm ∧ Byt xs ∧ LnW L ∧ hv.length ≤ 6 ∧ PSt w wr q mg l b L xs hv pw p8 ph pq cq) (fun _ _ _ _ vi _ => 200 - (intOf vi).toNat)
  case atStart => exact ⟨0, [], zs, [], pw, none, none, none, cw, 0, 0, 0, by rw [HMM.out], rfl, rfl, rfl, rfl, Nat.zero_le _, by decide, Nat.le_refl _, HMM.out, HBZ.out, (fun x hx => absurd hx (List.not_mem_nil)), by decide, HST.out⟩
  case round =>
    obtain ⟨k, L, xs, hv, pw, p8, ph, pq, cw, c8, ch, cq, rfl, rfl, rfl, rfl, rfl, hk, hk2, hLk, hxl, hbx, hlw, hv6, hst⟩ := hrel
    clear HST HBZ HMM
    have HST := Hid.in hst
    have HXL := Hid.in hxl
    have HBX := Hid.in hbx
    have HLW := Hid.in hlw
    have HLK := Hid.in hLk
    clear hst hxl hbx hlw hLk
    by_cases hgo : k < m ∧ k < 200
    · obtain ⟨hlt, hlt2⟩ := hgo
      have hd1 : decide (k < m) = true := decide_eq_true hlt
      have hd2 : decide ((k : Int) < 200) = true := decide_eq_true (by omega)
      obtain ⟨X, hX⟩ : ∃ X, S[k]? = some X := ⟨_, List.getElem?_eq_getElem (by rw [HS.out]; exact hlt)⟩
      obtain ⟨sb, so, rfl, hops⟩ := HC.out wr HST.out.st.bel (by rw [HS.out]; omega)
      obtain ⟨⟨s0, s1, s2, s3⟩, hXW⟩ := hops k X hX
      have HXW := Hid.in hXW
      obtain ⟨kd, xp, xh, xr, xd, zs⟩ := X
      dsimp only at s0 s1 s2 s3
      clear hops hX hXW
      have HN := Hid.in (new_alloc wr (.cells #[.int .i64 kd, .int .u32 xp, .bool xh, .slice xr zs.length xd] 48))
      have HO := Hid.in (Blk.new wr 48 #[.int .i64 kd, .int .u32 xp, .bool xh, .slice xr zs.length xd])
      have HT := Hid.in (HST.out.below HN.out)
      clear HST
      go_upto_region 8 with fail
      generalize wr.alloc (.cells #[.int .i64 kd, .int .u32 xp, .bool xh, .slice xr zs.length xd] 48) = w1 at *
      have HXR := Hid.in (HXW.out.row.below HN.out)
      have HXB := Hid.in HXW.out.byt
      have HXL2 := Hid.in HXW.out.len
      have hxp : xp ≤ 4294967295 := HXW.out.pm
      generalize wr.heap.size = ob at *
      clear HXW HN s0 s1 s2 s3
      dsimp only at HXR HXB HXL2
      have c0 : w1.cell? ⟨ob, 0, none⟩ = some (.int .i64 kd) := HO.out.cell 0
      have c1 : w1.cell? ⟨ob, 1, none⟩ = some (.int .u32 xp) := HO.out.cell 1
      have c2 : w1.cell? ⟨ob, 2, none⟩ = some (.bool xh) := HO.out.cell 2
      have c3 : w1.cell? ⟨ob, 3, none⟩ = some (.slice xr zs.length xd) := HO.out.cell 3
      go_upto_block 2 with fail
      go_cut [7, 8, 9, 10] (fun v7 v8 v9 v10 wx => ∃ (L : List Ln) (xs hv : List Int) (pw p8 ph pq : Option Addr) (cw c8 ch cq : Nat), v7 = .slice pw mm cw ∧ v8 = .slice p8 L.length c8 ∧ v9 = .slice ph hv.length ch ∧ v10 = .slice pq hv.length cq ∧ L.length ≤ k + 1 ∧ xs.length = mm ∧ Byt xs ∧ LnW L ∧ hv.length ≤ 6 ∧ PSt w wx q mg l b L xs hv pw p8 ph pq cq)
      case first =>
        rcases (by omega : kd = 1 ∨ kd = 2 ∨ kd = 3 ∨ kd = 4 ∨ (kd < 1 ∨ 4 < kd)) with rfl | rfl | rfl | rfl | hkd
        · --STEP
          clear c0 c1 c2 c3
          have h16 := lent_any ph hv.length ch hv w1 rfl (by omega) HT.out.rh
          go_wp2_with (go_at_call 16; refine Hid.out ?_)
          refine Lib.hid ?_
          refine h16.mono ?_
          rintro e w2 ⟨gi, ci, rfl, hoi, hb2⟩
          have HOI := Hid.in hoi
          have HT2 := Hid.in (HT.out.below hb2)
          have HO2 := Hid.in (HO.out.grow hb2)
          clear h16 hoi hb2 HT HO
          have c1 : w2.cell? ⟨ob, 1, none⟩ = some (.int .u32 xp) := HO2.out.cell 1
          have c2 : w2.cell? ⟨ob, 2, none⟩ = some (.bool xh) := HO2.out.cell 2
          have hxl6 : xs.length ≤ 65536 := by rw [HXL.out]; omega
          have hL6 : L.length ≤ 1000000 := by have := HLK.out; omega
          have h9 := step_any _ _ q mg l b xp ci (some ⟨gi, 0, none⟩) L xs hv xh w2 HT2.out.st.lin HT2.out.st.mem (by omega) hxl6 hxp (by omega) HOI.out.front.row
          have hok := stp_ok (hold := xh) (hv := hv) HLW.out HBX.out hxp
          have HRIS := Hid.in HT2.out.st.lin.ris
          have h20 := fun W (h1 : LRow W p8 L) (h2 : Row W pw xs) (h3 : Row W pq hv) (h4 : pq = none → cq = 0) => rstep_any pw p8 pq cw c8 cq xp L xs hv xh W HRIS.out hL6 h1 hxl6 h2 hxp (by omega) h3 h4
          generalize stpR L xs xp hv xh = T at *
          obtain ⟨out, G, is, er, L2⟩ := T
          dsimp only at h9 h20 hok
          rw [HXL.out] at h20
          obtain ⟨hlw2, hll2, hout6⟩ := hok
          have HLW2 := Hid.in hlw2
          have HLL2 : Hid (L2.length ≤ k + 1) := Nat.le_trans hll2 (Nat.succ_le_succ HLK.out)
          have H20 := Hid.in h20
          clear h20 hlw2 hll2 hxl6 hL6 HRIS
          go_wp2_with (go_at_call 9; refine Hid.out ?_)
          refine Lib.hid ?_
          refine h9.mono ?_
          rintro e w3 ⟨v3, rfl, ho3, hl3, hk3⟩
          obtain ⟨p3, c3, rfl, hr3, hf3, -⟩ := ho3.far HT2.out.st.mem.own.lt
          have hmap := HT2.out.st.lin.isMap
          have HST3 := Hid.in (HT2.out.st.swap hl3 hk3)
          have HRW3 := Hid.in (HT2.out.rw.lines hmap hk3)
          have HRL3 := Hid.in (HT2.out.rl.lines hmap hk3)
          have HRH3 := Hid.in (HT2.out.rh.lines hmap hk3)
          have HRQ3 := Hid.in (HT2.out.rq.lines hmap hk3)
          have HOI3 := Hid.in (HOI.out.lines hmap hk3)
          have HO3 := Hid.in (HO2.out.lines hmap hk3)
          have HR3 := Hid.in hr3
          have HF3 := Hid.in hf3
          have HFW := Hid.in HT2.out.fw
          have HNQ := Hid.in HT2.out.nq
          clear h9 ho3 hl3 hk3 hr3 hf3 hmap HT2 HOI HO2 c1 c2
          have c1 : w3.cell? ⟨ob, 1, none⟩ = some (.int .u32 xp) := HO3.out.cell 1
          have c2 : w3.cell? ⟨ob, 2, none⟩ = some (.bool xh) := HO3.out.cell 2
          go_wp2_with (go_at_call 20; refine Hid.out ?_)
          refine Lib.hid ?_
          refine (H20.out w3 HRL3.out HRW3.out HRQ3.out HNQ.out).mono ?_
          rintro e w4 ⟨v4, p5, c5, rfl, ho4, hl4, hb4⟩
          obtain ⟨p4, c4, rfl, hr4, hf4, hn4⟩ := ho4.far2 HST3.out.mem.own.lt
          have HST4 := Hid.in (HST3.out.below hb4)
          have HRW4 := Hid.in (HRW3.out.below hb4)
          have HRH4 := Hid.in (HRH3.out.below hb4)
          have HOI4 := Hid.in (HOI3.out.below hb4)
          have HR34 := Hid.in (HR3.out.below hb4)
          have HR4 := Hid.in hr4
          have HN4 := Hid.in hn4
          have HF4 := Hid.in hf4
          have HL4 := Hid.in hl4
          clear ho4 hl4 hb4 hr4 hn4 hf4 HST3 HRW3 HRL3 HRH3 HRQ3 HOI3 HO3 HR3 H20 HNQ c1 c2
          have h11 := sameBytes_any p3 p4 out.length c3 out.length c4 out out w4 rfl rfl (by omega) HR34.out HR4.out
          rw [sameB_self] at h11
          go_wp2_with (go_at_call 11; refine Hid.out ?_)
          refine Lib.hid ?_
          refine h11.mono ?_
          rintro e w5 ⟨rfl, m5, rfl⟩
          have h19 := kept_any ph gi hv.length ci ch _ hv (w4.drewN m5) rfl (by omega) (HOI4.out.drewN m5) (HRH4.out.drewN m5)
          clear h11
          go_wp2_with (go_at_call 19; refine Hid.out ?_)
          refine Lib.hid ?_
          refine h19.mono ?_
          rintro e w6 ⟨rfl, m6, rfl⟩
          have HT6 : Hid (PSt w ((w4.drewN m5).drewN m6) q mg l b L2 xs out pw p5 p3 p4 c4) := ⟨(HST4.out.drewN m5).drewN m6, HRW4.out, HFW.out, HL4.out, HR34.out, HF3.out, HR4.out, HF4.out, HN4.out⟩
          clear h19 HST4 HRW4 HRH4 HOI4 HR34 HR4 HN4 HF4 HL4 HF3 HFW
          generalize (w4.drewN m5).drewN m6 = w6 at *
          go_wp2_with fail
          go_meet
          case rel => exact ⟨L2, xs, out, pw, p5, p3, p4, cw, c5, c3, c4, rfl, rfl, rfl, rfl, HLL2.out, HXL.out, HBX.out, HLW2.out, hout6, HT6.out⟩
        · --WRITE
          by_cases hfit : xp + zs.length ≤ mm
          · have hfit' : xp + zs.length ≤ xs.length := by rw [HXL.out]; exact hfit
            have h21 := write_ok q mg _ xp xd xr xs zs w1 HT.out.st.mem HXR.out hfit' (by rw [HXL.out]; omega)
            have HPL : Hid ((putA xs xp zs).length = mm) := (putA_len hfit').trans HXL.out
            have HPB := Hid.in (byt_putA hfit' HBX.out HXB.out)
            generalize putA xs xp zs = xs' at *
            clear hfit'
            go_wp2_with (go_at_call 21; refine Hid.out ?_)
            refine Lib.hid ?_
            refine h21.mono ?_
            rintro e w2 ⟨rfl, hm2, hk2'⟩
            have HST2 := Hid.in (HT.out.st.written hm2 hk2')
            have HRL2 := Hid.in (HT.out.rl.mem HT.out.st.mem hk2')
            have HRH2 := Hid.in (HT.out.rh.far HT.out.fh hk2')
            have HRQ2 := Hid.in (HT.out.rq.far HT.out.fq hk2')
            have HFH := Hid.in HT.out.fh
            have HFQ := Hid.in HT.out.fq
            have HNQ := Hid.in HT.out.nq
            clear h21 hm2 hk2' HT HO c0 c1 c2 c3
            have h22 := bytes_any q mg _ xs' w2 HST2.out.mem (by rw [HPL.out]; omega)
            rw [HPL.out] at h22
            go_wp2_with (go_at_call 22; refine Hid.out ?_)
            refine Lib.hid ?_
            refine h22.mono ?_
            rintro e w3 ⟨gh, rfl, ho3, hb3⟩
            have HT3 : Hid (PSt w w3 q mg l b L xs' hv (some ⟨gh, 0, none⟩) p8 ph pq cq) := ⟨HST2.out.below hb3, ho3.row, (fun g' o' e => by injection e with e; injection e with e; have := ho3.base; have := HST2.out.mem.own.lt; omega), HRL2.out.below hb3, HRH2.out.below hb3, HFH.out, HRQ2.out.below hb3, HFQ.out, HNQ.out⟩
            clear h22 ho3 hb3 HST2 HRL2 HRH2 HRQ2
            go_wp2_with fail
            go_meet
            case rel => exact ⟨L, xs', hv, some ⟨gh, 0, none⟩, p8, ph, pq, mm, c8, ch, cq, rfl, rfl, rfl, rfl, Nat.le_succ_of_le HLK.out, HPL.out, HPB.out, HLW.out, hv6, HT3.out⟩
          · have h21 := write_out q mg _ zs.length xd xr xp xs w1 HT.out.st.mem (by have := HXL2.out; omega) (by rw [HXL.out]; omega)
            go_wp2_with (go_at_call 21; refine Hid.out ?_)
            refine Lib.hid ?_
            refine h21.mono ?_
            rintro e w2 ⟨rfl, hw2⟩
            rw [hw2]
            clear h21 hw2
            go_wp2_with fail
            go_meet
            case rel => exact ⟨L, xs, hv, pw, p8, ph, pq, cw, c8, ch, cq, rfl, rfl, rfl, rfl, Nat.le_succ_of_le HLK.out, HXL.out, HBX.out, HLW.out, hv6, HT.out⟩
        · --NOTHING
          go_wp2_with fail
          go_meet
          case rel => exact ⟨L, xs, [], pw, p8, none, none, cw, c8, 0, 0, rfl, rfl, rfl, rfl, Nat.le_succ_of_le HLK.out, HXL.out, HBX.out, HLW.out, by decide, HT.out.nothing⟩
        · --FLUSH
          go_wp2_with (go_at_call 23; refine Hid.out ?_)
          refine Lib.hid ?_
          refine (flush_any _ l b L w1 HT.out.st.lin).mono ?_
          rintro e w2 ⟨rfl, hl2, hg2⟩
          have hk2' : Keeps (fun j => j = b) w1 w2 := (Keeps.refl _ _).grown hg2 (fun j e => by injection e with e; exact .inl e.symm)
          have HT2 := Hid.in (HT.out.flushed hl2 hk2')
          clear hl2 hg2 hk2' HT HO c0 c1 c2 c3
          go_wp2_with fail
          go_meet
          case rel => exact ⟨[], xs, hv, pw, none, ph, pq, cw, 0, ch, cq, rfl, rfl, rfl, rfl, Nat.zero_le _, HXL.out, HBX.out, (fun x hx => absurd hx (List.not_mem_nil)), hv6, HT2.out⟩
        · --NONE
          rcases hkd with hkd | hkd
          all_goals
            go_wp2_with fail
            go_meet
            case rel => exact ⟨L, xs, hv, pw, p8, ph, pq, cw, c8, ch, cq, rfl, rfl, rfl, rfl, Nat.le_succ_of_le HLK.out, HXL.out, HBX.out, HLW.out, hv6, HT.out⟩
      case rest =>
        obtain ⟨L, xs, hv, pw, p8, ph, pq, cw, c8, ch, cq, rfl, rfl, rfl, rfl, hLk, hxl, hbx, hlw, hv6, hst⟩ := hcut
        clear HT HO HXL HBX HLW HLK HXR HXB HXL2 c0 c1 c2 c3
        have HT := Hid.in hst
        have HXL := Hid.in hxl
        have HBX := Hid.in hbx
        have HLW := Hid.in hlw
        have HLK := Hid.in hLk
        have hlen : L.length ≤ 201 := by omega
        clear hst hxl hbx hlw hLk
        go_wp2_with (go_at_call 14; refine Hid.out ?_)
        refine Lib.hid ?_
        refine (all_any _ l b L wc HT.out.st.lin (by omega) HLW.out.g64).mono ?_
        rintro e w3 ⟨v3, rfl, ho3, hb3⟩
        obtain ⟨pa, ca, rfl, -, -, hr3⟩ := ho3.row5
        have HR3 := Hid.in hr3
        have HT3 := Hid.in (HT.out.below hb3)
        clear ho3 hr3 hb3 HT
        go_wp2_with (go_at_call 24; refine Hid.out ?_)
        refine Lib.hid ?_
        refine (sameLines_self pa p8 L.length ca c8 L w3 rfl (by omega) HR3.out HT3.out.rl HLW.out.f8).mono ?_
        rintro e w4 ⟨rfl, m4, rfl⟩
        have HT4 := Hid.in (HT3.out.drewN m4)
        clear HT3 HR3
        generalize w3.drewN m4 = w4 at *
        go_wp2_with fail
        go_roundw
        case rel => exact ⟨k + 1, L, xs, hv, pw, p8, ph, pq, cw, c8, ch, cq, rfl, rfl, rfl, rfl, by go_num, by omega, by omega, HLK.out, HXL.out, HBX.out, HLW.out, hv6, HT4.out⟩
        case measure => simp [intOf]; omega
    · rcases (by omega : m ≤ k ∨ (k < m ∧ 200 ≤ k)) with hend | ⟨hend, hend2⟩
      all_goals
        clear hgo
        go_wp2_with (go_at_call 15; refine Hid.out ?_)
        refine Lib.hid ?_
        refine (awake_any _).mono ?_
        rintro e w9 ⟨rfl, hb⟩
        have HB9 := Hid.in (below_step HST.out.st.bel hb)
        clear hb
        go_wp2_with fail
        go_ret
        exact ⟨rfl, HB9.out⟩

end Go.Proofs.Yteeeedphhaphpaa
