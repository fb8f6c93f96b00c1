/- FetchHolds. -/
import Derived.Test.YteeeedphhaphpaaHldL
import Derived.BigQuiet
namespace Go.Proofs.Yteeeedphhaphpaa
open Go.RowKit Go.Maps

set_option maxRecDepth 8000 in
set_option maxHeartbeats 1000000 in
theorem holds_walk (p : Option Addr) (n c pc : Nat) (now : Int) (xs : List Int) (w : World) (hx : xs.length = n) (hn : n ≤ 140737488351232) (hnc : n ≤ c) (hr : Row w p xs) (hpc : pc ≤ 4294967295) :
    Calls Try.prog 7 #[.slice p n c, .int .u32 pc, .int .u8 now] w fun e w' => e = .returned (.bool true) ∧ Below w.heap.size w w' := by
  have h8 := made_any p n c xs w hx (by omega) hnc hr
  have hzl : (xs.take 2000).length ≤ 2000 := by rw [List.length_take]; omega
  generalize xs.take 2000 = zs at *
  clear hx hr
  go_enter Try.func7, Try.ntmps7
  go_wp2_with (go_at_call 8; refine Hid.out ?_)
  refine Lib.hid ?_
  refine h8.mono ?_
  rintro e w1 ⟨q, mg, l, b, pw, cw, rfl, hst, hrw, hfw, -⟩
  have HT := Hid.in hst
  have HRW := Hid.in hrw
  have HFW := Hid.in hfw
  clear hst hrw hfw h8
  by_cases hin : pc < zs.length
  · have hge : ¬ (zs.length : Int) ≤ pc := by omega
    have h9 := HT.out.step pc 0 none [] true (by decide) (by omega) hpc (by decide) (fun h => absurd h (Nat.lt_irrefl 0))
    rw [stp_new true hin hzl] at h9
    dsimp only [List.length_nil] at h9
    obtain ⟨fl, ff⟩ := out_first (xs := zs) (pc := pc)
    generalize hF : granF zs (pc / 4) = F at *
    generalize hO : outF [] F (pc % 4) = O at *
    have HF := Hid.in hF
    have HO := Hid.in hO
    clear hF hO
    go_wp2_with (go_at_call 9; refine Hid.out ?_)
    refine Lib.hid ?_
    refine h9.mono ?_
    rintro e w2 ⟨p2, c2, rfl, hr2, hf2, ht2, hk2⟩
    have HT2 := Hid.in ht2
    have HR2 := Hid.in hr2
    have HF2 := Hid.in hf2
    have HRW2 := Hid.in (hk2 _ _ HRW.out)
    clear hr2 hf2 ht2 hk2 HT HRW h9
    have hn3 := new_alloc w2 (.cells #[.int .u8 now] 5)
    have hr3 : Row (w2.alloc (.cells #[.int .u8 now] 5)) (some ⟨w2.heap.size, 0, none⟩) [now] := (Own.lit w2 [now] (by unfold maxLen; simp)).row
    have HT3 := Hid.in (HT2.out.below hn3)
    have HR3 := Hid.in (HR2.out.below hn3)
    have HRW3 := Hid.in (HRW2.out.below hn3)
    have h21 := write_ok q mg _ pc 1 (some ⟨w2.heap.size, 0, none⟩) zs [now] _ HT3.out.mem hr3 (by simp; omega) (by omega)
    have hl4 := putA_len1 (z := now) hin
    have ha4 := putA_at (z := now) hin
    generalize putA zs pc [now] = zs' at *
    clear hr3 hn3 HT2 HR2 HRW2
    go_wp2_with (go_at_call 21; refine Hid.out ?_)
    refine Lib.hid ?_
    refine h21.mono ?_
    rintro e w4 ⟨rfl, hm4, hk4⟩
    have HT4 := Hid.in (HT3.out.written hm4 hk4)
    have HR4 := Hid.in (HR3.out.far HF2.out hk4)
    have HRW4 := Hid.in (HRW3.out.far HFW.out hk4)
    clear hm4 hk4 h21 HT3 HR3 HRW3
    have hin' : pc < zs'.length := by omega
    have hzl' : zs'.length ≤ 2000 := by omega
    have h9 := HT4.out.step pc 0 none [] true (by simp) (by omega) hpc (by decide) (fun h => absurd h (Nat.lt_irrefl 0))
    rw [stp_old hin', HO.out] at h9
    dsimp only [List.length_nil] at h9
    go_wp2_with (go_at_call 9; refine Hid.out ?_)
    refine Lib.hid ?_
    refine h9.mono ?_
    rintro e w5 ⟨p5, c5, rfl, hr5, hf5, ht5, hk5⟩
    have HT5 := Hid.in ht5
    have HR5 := Hid.in hr5
    have HR45 := Hid.in (hk5 _ _ HR4.out)
    have HRW5 := Hid.in (hk5 _ _ HRW4.out)
    clear hr5 hf5 ht5 hk5 HT4 HR4 HRW4 h9
    have h9 := HT5.out.step pc 0 none [] false (by simp) (by omega) hpc (by decide) (fun h => absurd h (Nat.lt_irrefl 0))
    rw [stp_now hin' hzl'] at h9
    dsimp only [List.length_nil] at h9
    obtain ⟨fl', ff'⟩ := out_first (xs := zs') (pc := pc)
    rw [ha4] at ff'
    generalize hF' : granF zs' (pc / 4) = F' at *
    generalize hO' : outF [] F' (pc % 4) = O' at *
    have HO' := Hid.in hO'
    clear hF' hO'
    go_wp2_with (go_at_call 9; refine Hid.out ?_)
    refine Lib.hid ?_
    refine h9.mono ?_
    rintro e w6 ⟨p6, c6, rfl, hr6, hf6, ht6, hk6⟩
    have HT6 := Hid.in ht6
    have HR6 := Hid.in hr6
    have HR56 := Hid.in (hk6 _ _ HR5.out)
    have HR46 := Hid.in (hk6 _ _ HR45.out)
    have HRW6 := Hid.in (hk6 _ _ HRW5.out)
    clear hr6 hf6 ht6 hk6 HT5 HR5 HR45 HRW5 h9
    have h9 := HT6.out.step pc 0 none [] true (by simp) (by omega) hpc (by decide) (fun h => absurd h (Nat.lt_irrefl 0))
    rw [stp_old hin', HO'.out] at h9
    dsimp only [List.length_nil] at h9
    go_wp2_with (go_at_call 9; refine Hid.out ?_)
    refine Lib.hid ?_
    refine h9.mono ?_
    rintro e w7 ⟨p7, c7, rfl, hr7, hf7, ht7, hk7⟩
    have HT7 := Hid.in ht7
    have HR7 := Hid.in hr7
    have HR67 := Hid.in (hk7 _ _ HR6.out)
    have HR57 := Hid.in (hk7 _ _ HR56.out)
    have HR47 := Hid.in (hk7 _ _ HR46.out)
    have HRW7 := Hid.in (hk7 _ _ HRW6.out)
    clear hr7 hf7 ht7 hk7 HT6 HR6 HR56 HR46 HRW6 h9
    go_upto_region 10 with fail
    have hO6 := (outF_more done_nil F (Nat.mod_lt pc (by decide : 4 > 0))).2.2
    have hO6' := (outF_more done_nil F' (Nat.mod_lt pc (by decide : 4 > 0))).2.2
    rw [HO.out] at hO6
    rw [HO'.out] at hO6'
    have hs1 := fun W (h1 : Row W p2 O) (h2 : Row W p5 O) => sameBytes_any p2 p5 O.length c2 O.length c5 O O W rfl rfl (by omega) h1 h2
    have hs2 := fun W (h1 : Row W p6 O') (h2 : Row W p7 O') => sameBytes_any p6 p7 O'.length c6 O'.length c7 O' O' W rfl rfl (by omega) h1 h2
    rw [sameB_self] at hs1 hs2
    obtain ⟨b2, o2, rfl, hc2⟩ := HR47.out fl
    obtain ⟨b6, o6, rfl, hc6⟩ := HR67.out fl'
    obtain ⟨bw, ow, rfl, hcw⟩ := HRW7.out (by omega)
    have d2 := hc2 0 fl
    have d6 := hc6 0 fl'
    have dw := hcw pc hin
    rw [Nat.add_zero] at d2 d6
    rw [ff] at d2
    rw [ff'] at d6
    generalize zs.getD pc 0 = zv at *
    clear hc2 hc6 hcw ff ff'
    have hq1 : ∀ m, Calls Try.prog 11 #[.slice (some ⟨b2, o2, none⟩) O.length c2, .slice p5 O.length c5] (w7.drewN m) fun e w' => e = .returned (.bool true) ∧ ∃ k, w' = (w7.drewN m).drewN k := fun m => hs1 _ (HR47.out.drewN m) (HR57.out.drewN m)
    have hq2 : ∀ m, Calls Try.prog 11 #[.slice (some ⟨b6, o6, none⟩) O'.length c6, .slice p7 O'.length c7] (w7.drewN m) fun e w' => e = .returned (.bool true) ∧ ∃ k, w' = (w7.drewN m).drewN k := fun m => hs2 _ (HR67.out.drewN m) (HR7.out.drewN m)
    clear hs1 hs2
    go_quiet ((go_at_call 11; first | (with_reducible exact Calls.quiet_of (hq1 _)) | (with_reducible exact Calls.quiet_of (hq2 _))))
    have HTQ := Hid.in (HT7.out.drewN nq)
    clear HT7 HR7 HR57 HR47 HR67 HRW7 d2 d6 dw hq1 hq2
    generalize w7.drewN nq = w8 at *
    have h14 := all_any _ l b _ w8 HTQ.out.lin (by simp) (fun x hx => by rw [List.mem_singleton] at hx; subst hx; unfold i64W; dsimp only; omega)
    go_wp2_with (go_at_call 14; refine Hid.out ?_)
    refine Lib.hid ?_
    refine h14.mono ?_
    rintro e w9 ⟨v9, rfl, ho9, hb9⟩
    obtain ⟨p9, c9, rfl, -, -, -⟩ := ho9.row5
    have HB9 := Hid.in (below_step HTQ.out.bel hb9)
    clear ho9 hb9 h14 HTQ
    rw [show [(⟨((pc / 4 : Nat) : Int), F'⟩ : Ln)].length = 1 from rfl]
    go_wp2_with (go_at_call 15; refine Hid.out ?_)
    refine Lib.hid ?_
    refine (awake_any _).mono ?_
    rintro e wa ⟨rfl, hba⟩
    have HBa := Hid.in (below_step HB9.out hba)
    clear hba HB9
    go_wp2_with fail
    go_ret
    exact ⟨rfl, HBa.out⟩
  · have hge : (zs.length : Int) ≤ pc := by omega
    have h9 := HT.out.step pc 0 none [] true (by decide) (by omega) hpc (by decide) (fun h => absurd h (Nat.lt_irrefl 0))
    rw [stp_far true (by omega)] at h9
    dsimp only [List.length_nil] at h9
    go_wp2_with (go_at_call 9; refine Hid.out ?_)
    refine Lib.hid ?_
    refine h9.mono ?_
    rintro e w2 ⟨p2, c2, rfl, -, -, ht2, -⟩
    have HT2 := Hid.in ht2
    clear ht2 HT HRW h9
    have h14 := all_any _ l b _ w2 HT2.out.lin (by decide) (fun x hx => absurd hx List.not_mem_nil)
    go_wp2_with (go_at_call 14; refine Hid.out ?_)
    refine Lib.hid ?_
    refine h14.mono ?_
    rintro e w9 ⟨v9, rfl, ho9, hb9⟩
    obtain ⟨p9, c9, rfl, -, -, -⟩ := ho9.row5
    have HB9 := Hid.in (below_step HT2.out.bel hb9)
    clear ho9 hb9 h14 HT2
    rw [show ([] : List Ln).length = 0 from rfl]
    go_wp2_with (go_at_call 15; refine Hid.out ?_)
    refine Lib.hid ?_
    refine (awake_any _).mono ?_
    rintro e wa ⟨rfl, hba⟩
    have HBa := Hid.in (below_step HB9.out hba)
    clear hba HB9
    go_wp2_with fail
    go_ret
    exact ⟨rfl, HBa.out⟩

end Go.Proofs.Yteeeedphhaphpaa
