/-
  Proved here: the law KeysBusy (switchyardlaw21) answers true for every input, and each argument reads afterwards as it read before. No condition of ours: the row's own reach alone (each slice and text takes at most 2^47 - 4096 bytes).
-/
import Derived.Test.YtkpieeldoielgaaGf

/- Ours: KeysBusy answers true. -/
namespace Go.Proofs.Ytkpieeldoielgaa
open Go.RowKit

theorem i64_nat {k : Nat} (h : k ≤ 1048576) : i64P (k : Int) := by unfold i64P; omega
/-- the calls of KeysBusy, on counts -/
theorem bsy_up (n k : Nat) (hk : k < n) : calL (zerosC n) false k true = ⟨(zerosC n).set k 1, true, true, 0⟩ := by
  unfold calL
  rw [if_neg (by rw [zerosC_len]; omega), if_neg (by decide), if_pos rfl, Int.toNat_natCast, zerosC_at, if_neg (by decide)]
  rfl
theorem bsy_busy (n k : Nat) (cs : List Int) (hl : cs.length = n) (up : Bool) (hk : k < n) : calL cs true k up = ⟨cs, true, false, 310⟩ := by
  unfold calL
  rw [if_neg (by rw [hl]; omega), if_pos rfl]
theorem bsy_none (n : Nat) (cs : List Int) (hl : cs.length = n) (op up : Bool) : calL cs op n up = ⟨cs, op, false, 311⟩ := by
  unfold calL
  rw [if_pos (by rw [hl]; omega)]
theorem bsy_down (n k : Nat) (hk : k < n) : calL ((zerosC n).set k 1) false k false = ⟨((zerosC n).set k 1).set k 0, true, true, 0⟩ := by
  have e : ((zerosC n).set k 1).getD k 0 = 1 := by simp [List.getD, zerosC_len, hk]
  unfold calL
  rw [if_neg (by rw [List.length_set, zerosC_len]; omega), if_neg (by decide), if_neg (by decide), Int.toNat_natCast, e, if_neg (by decide)]
  rfl
set_option maxRecDepth 20000 in
set_option maxHeartbeats 16000000 in
theorem busy_walk (p : Option Addr) (n c : Nat) (L : List Int) (key other : Int) (up : Bool) (w : World) (hL : L.length = n) (hn : n ≤ 140737488355328) (hnc : n ≤ c) (hr : GRow w p (numZ L)) :
    Calls Try.prog 7 #[.slice p n c, .int .i64 key, .int .i64 other, .bool up] w fun e w' => e = .returned (.bool true) ∧ Below w.heap.size w w' := by
  have hIm := image_sl p n c L w hL hn hnc hr
  clear hL hn hnc hr
  go_enter Try.func7, Try.ntmps7
  go_wp2_with (go_at_call 16; refine Hid.out ?_)
  refine Lib.hid ?_
  (with_reducible refine hIm.mono ?_)
  rintro e w1 ⟨l, qb, qk, qs, qu, nb, db, dk, ns, ds, nu, du, hl, rfl, hI, -, hb1⟩
  have h20 : l.length ≤ 20 := by rw [hl, List.length_take]; omega
  clear hl hIm
  have HB1 := Hid.in hb1
  have HV0 := Hid.in (Blk.new w1 31 #[.slice qb nb db, .slice qk (imN l) dk, .slice qs ns ds, .slice qu nu du])
  have HN0 := Hid.in (new_alloc w1 (.cells #[.slice qb nb db, .slice qk (imN l) dk, .slice qs ns ds, .slice qu nu du] 31))
  obtain ⟨z0, z1, z2, z3⟩ := HV0.out.cells4
  have hT1 := tnew_im l h20 _ _ _ _ _ _ (hI.below HN0.out)
  clear hI hb1
  go_wp2_with (go_at_call 9; refine Hid.out ?_)
  refine Lib.hid ?_
  generalize w1.alloc (.cells #[.slice qb nb db, .slice qk (imN l) dk, .slice qs ns ds, .slice qu nu du] 31) = w2 at *
  (with_reducible refine hT1.mono ?_)
  rintro e w3 ⟨h, b, p', c', rfl, hT, hb3, hh, hb, -⟩
  have HB3 := Hid.in (below_step (below_step HB1.out HN0.out) hb3)
  have HV3 := Hid.in (HV0.out.grow hb3)
  have HS := Hid.in imM_some
  have HT3 := Hid.in hT
  have HG : Hid (∀ j, G2 h b j → w.heap.size ≤ j ∧ w2.heap.size ≤ j) := fun j hj => by
    have := HB1.out.size
    have := HN0.out.size
    rcases hj with rfl | rfl <;> omega
  have HLV := Hid.in HV0.out.lt
  have hN20 : imN l ≤ 20 := Nat.le_trans (imN_le l) h20
  have HOF := Hid.in (fun (k : Nat) (hk : k < imN l) => imM_some l h20 k hk)
  clear hT1 hT hb3 z0 z1 z2 z3 HV0 HN0 HB1 hh hb HS
  obtain ⟨z0, z1, z2, z3⟩ := HV3.out.cells4
  generalize (imM l).si = si at *
  generalize imN l = kn at *
  by_cases h0 : kn = 0
  · subst h0
    go_wp2_with (go_at_call 15; refine (awake_any _).mono ?_; rintro e w5 ⟨rfl, hb5⟩; have HB5 := Hid.in (below_step HB3.out hb5); clear hb5)
    go_ret
    exact ⟨rfl, HB5.out⟩
  · have hk0 : ((kn : Int) == 0) = false := by simp; omega
    have hP1 := fun W => pick_any key kn (by omega) (by omega) W
    have hP2 := fun W => pick_any other kn (by omega) (by omega) W
    have hp1 := pickZ_lt key kn (by omega)
    have hp2 := pickZ_lt other kn (by omega)
    generalize pickZ key kn = k1 at *
    generalize pickZ other kn = k2 at *
    go_upto_region 7 with fail
    go_quiet ((go_at_call 28; first | (with_reducible exact Calls.quiet_of_same (hP1 _)) | (with_reducible exact Calls.quiet_of_same (hP2 _))))
    clear hP1 hP2 z0 z1 z2 z3
    have HT4 := Hid.in (HT3.out.drewN nq)
    have HV4 : Hid (Blk (w3.drewN nq) w1.heap.size 31 #[.slice qb nb db, .slice qk kn dk, .slice qs ns ds, .slice qu nu du]) := HV3.out
    have HB4 := Hid.in (below_draws HB3.out nq)
    clear HT3 HV3 HB3
    generalize w3.drewN nq = w4 at *
    have hC4 := call_sl h b kn (zerosC kn) p' c' si w4 false HT4.out k1 (i64_nat (by omega)) true (by omega) _ (bsy_up kn k1 hp1) _ rfl
    have HLn : Hid (((zerosC kn).set k1 1).length = kn) := by show _ = _; rw [List.length_set, zerosC_len]
    have HDn := Hid.in (bsy_down kn k1 hp1)
    generalize (zerosC kn).set k1 1 = cs1 at *
    go_wp2_with (go_at_call 11; refine Hid.out ?_)
    refine Lib.hid ?_
    (with_reducible refine hC4.mono ?_)
    rintro e w5 ⟨q5, cq5, n5, rfl, -, hT5, hn5, hK5⟩
    have HB5 : Hid (Below w.heap.size w w5) := HB4.out.trans (hK5.below HB4.out.size (fun j hj => (HG.out j hj).1))
    have HV5 : Hid (Blk w5 w1.heap.size 31 #[.slice qb nb db, .slice qk kn dk, .slice qs ns ds, .slice qu nu du]) := (hK5.block w1.heap.size HV4.out.lt (fun hj => by have := (HG.out _ hj).2; have := HLV.out; omega)).trans HV4.out
    have HT5 := Hid.in hT5
    clear hT5 hK5 hC4 HT4 HV4 HB4
    have hC5 := count_any h b n5 cs1 true p' c' si w5 HT5.out k2 (i64_nat (by omega))
    obtain ⟨ct, hct⟩ : ∃ ct, cntL cs1 k2 = ct := ⟨_, rfl⟩
    rw [hct] at hC5
    have HCT := Hid.in hct
    clear hct
    go_wp2_with (go_at_call 14; refine Hid.out ?_)
    refine Lib.hid ?_
    (with_reducible refine hC5.mono ?_)
    rintro e w6 ⟨rfl, rfl⟩
    have hC6 := call_sl h b n5 cs1 p' c' si w6 true HT5.out k2 (i64_nat (by omega)) up (by omega) _ (bsy_busy kn k2 cs1 HLn.out up hp2) [] rfl
    go_wp2_with (go_at_call 11; refine Hid.out ?_)
    refine Lib.hid ?_
    (with_reducible refine hC6.mono ?_)
    rintro e w7 ⟨q7, cq7, n7, rfl, -, hT7, hn7, hK7⟩
    have HB7 : Hid (Below w.heap.size w w7) := HB5.out.trans (hK7.below HB5.out.size (fun j hj => (HG.out j hj).1))
    have HV7 : Hid (Blk w7 w1.heap.size 31 #[.slice qb nb db, .slice qk kn dk, .slice qs ns ds, .slice qu nu du]) := (hK7.block w1.heap.size HV5.out.lt (fun hj => by have := (HG.out _ hj).2; have := HLV.out; omega)).trans HV5.out
    have HT7 := Hid.in hT7
    clear hT7 hK7 hC6 hC5 HT5 HV5 HB5
    obtain ⟨z0, z1, z2, z3⟩ := HV7.out.cells4
    have hC7 := count_any h b n7 cs1 true p' c' si w7 HT7.out k2 (i64_nat (by omega))
    rw [HCT.out] at hC7
    go_wp2_with (go_at_call 14; refine Hid.out ?_)
    refine Lib.hid ?_
    (with_reducible refine hC7.mono ?_)
    rintro e w8 ⟨rfl, rfl⟩
    have hC8 := call_sl h b n7 cs1 p' c' si w8 true HT7.out kn (i64_nat (by omega)) up (by omega) _ (bsy_none kn cs1 HLn.out true up) [] rfl
    go_wp2_with (go_at_call 11; refine Hid.out ?_)
    refine Lib.hid ?_
    (with_reducible refine hC8.mono ?_)
    rintro e w9 ⟨q9, cq9, n9, rfl, -, hT9, hn9, hK9⟩
    have HB9 : Hid (Below w.heap.size w w9) := HB7.out.trans (hK9.below HB7.out.size (fun j hj => (HG.out j hj).1))
    have HT9 := Hid.in hT9
    clear hT9 hK9 hC7 hC8 HT7 HV7 HB7 z0 z1 z2 z3
    have hBu := busy_any h b n9 cs1 true p' c' si w9 HT9.out
    go_wp2_with (go_at_call 27; refine hBu.mono ?_; rintro e w10 ⟨rfl, rfl⟩)
    have hR1 := return_any h b n9 cs1 true p' c' si w10 HT9.out
    go_wp2_with (go_at_call 12; refine Hid.out ?_)
    refine Lib.hid ?_
    (with_reducible refine hR1.mono ?_)
    rintro e w11 ⟨rfl, hT11, hK11⟩
    have HB11 : Hid (Below w.heap.size w w11) := HB9.out.trans (hK11.below HB9.out.size (fun j hj => (HG.out j hj).1))
    have HT11 := Hid.in hT11
    clear hT11 hK11 hR1 HT9 HB9 hBu
    have hR2 := return_any h b n9 cs1 false p' c' si w11 HT11.out
    go_wp2_with (go_at_call 12; refine Hid.out ?_)
    refine Lib.hid ?_
    (with_reducible refine hR2.mono ?_)
    rintro e w12 ⟨rfl, hT12, hK12⟩
    have HB12 : Hid (Below w.heap.size w w12) := HB11.out.trans (hK12.below HB11.out.size (fun j hj => (HG.out j hj).1))
    have HT12 := Hid.in hT12
    clear hT12 hK12 hR2 HT11 HB11
    have hC12 := call_sl h b n9 cs1 p' c' si w12 false HT12.out k1 (i64_nat (by omega)) false (by omega) _ HDn.out _ rfl
    have hof : 0 < (toldR si k1 ⟨cs1.set k1 0, true, true, 0⟩).length := HOF.out k1 hp1
    generalize (toldR si k1 ⟨cs1.set k1 0, true, true, 0⟩) = tl at *
    generalize hcs2 : cs1.set k1 0 = cs2 at *
    clear hcs2
    go_wp2_with (go_at_call 11; refine Hid.out ?_)
    refine Lib.hid ?_
    (with_reducible refine hC12.mono ?_)
    rintro e w13 ⟨q13, cq13, n13, rfl, -, -, -, hK13⟩
    have HB13 : Hid (Below w.heap.size w w13) := HB12.out.trans (hK13.below HB12.out.size (fun j hj => (HG.out j hj).1))
    have hd : decide ((0 : Int) < (tl.length : Int)) = true := decide_eq_true (by omega)
    clear hK13 hC12 HT12 HB12
    go_wp2_with (go_at_call 15; refine (awake_any _).mono ?_; rintro e w14 ⟨rfl, hb14⟩; have HB14 := Hid.in (below_step HB13.out hb14); clear hb14)
    go_ret
    exact ⟨rfl, HB14.out⟩
end Go.Proofs.Ytkpieeldoielgaa

namespace Go.Proofs.Ytkpieeldoielgaa
open Go.ChangeShapes Go.WideShapes Go.ChangeAt Go.RowKit
open Go.ChangeMaps (open_string shut_string)

set_option maxRecDepth 100000 in
theorem keysBusy_lifted (os : Os) (started : os.Started) (H : Type) (enc : TypeId × Value → H) :
    ReturnsInHanded {} Try.checked os 7 .any (Rows.keysBusySpec.pre6 enc Try.prog Try.f7 Rows.keysBusyRow.domain false) (Rows.keysBusySpec.post enc Try.prog Try.f7 false true false false) := by
  refine returnsInHanded_of_change_sized (C := Try.checked) Try.own started (by kernel_rfl) Try.func7
    (ChangeSpec.witness6 (enc := enc) (C := Try.checked) false ⟨#[], #[.slice none 0 0, .int .i64 0, .int .i64 0, .bool false], []⟩ 8 (by kernel_rfl) (by kernel_rfl) (by kernel_rfl) (by kernel_rfl)) ?_
  intro W base args ds gs before hval0 hW hcnd hsz0 _
  have hW' := hW
  obtain ⟨p, q, hA0, hV, rfl, hfz, hnd⟩ := hW
  have hA : DataW.TrodAll enc Try.prog W 0 (fun _ => true) true Try.f7.params.toList args.toList ds p := hA0
  have hval : ∀ (j : Nat) t v, Try.f7.params[j]? = some t → args[j]? = some v → Value.okWide Try.prog W .any base t v := hval0
  have hsz : (DataW.weightsEach Try.prog (Try.f7.params.toList ++ Rows.keysBusySpec.plain.varTypes Try.prog) (ds ++ gs)).all (· ≤ reachBytes) = true := hsz0
  rw [Try.params7] at hA hval hsz
  obtain ⟨v0, vs0, d0, ds0, p0, q0_, hargs, rfl, rfl, h0, r0⟩ := trodAll_cons hA
  obtain ⟨v1, vs1, d1, ds1, p1, q1_, rfl, rfl, rfl, h1, r1⟩ := trodAll_cons r0
  obtain ⟨v2, vs2, d2, ds2, p2, q2_, rfl, rfl, rfl, h2, r2⟩ := trodAll_cons r1
  obtain ⟨v3, vs3, d3, ds3, p3, q3_, rfl, rfl, rfl, h3, r3⟩ := trodAll_cons r2
  obtain ⟨rfl, rfl, rfl⟩ := trodAll_nil r3
  obtain rfl : args = #[v0, v1, v2, v3] := by cases args; simp_all
  obtain ⟨rfl, rfl⟩ := trodVars_none hV
  have k0 := h0
  have lt0 : ∀ x ∈ p0, x.block < W.heap.size := by obtain ⟨m, hm⟩ := k0; exact DataW.trod_lt m _ _ _ hm
  obtain ⟨q0, n0, e0, zs0, rfl, hl0, hn0, he0, hr0⟩ := open_ints_val (hval 0 29 v0 rfl rfl) h0 hsz (j := 0) rfl rfl
  obtain ⟨a1, rfl, rfl, rfl, w1⟩ := open_int Try.underlying3 (hval 1 3 v1 rfl rfl) h1
  obtain ⟨a2, rfl, rfl, rfl, w2⟩ := open_int Try.underlying3 (hval 2 3 v2 rfl rfl) h2
  obtain ⟨b3, rfl, rfl, rfl⟩ := open_bool Try.underlying4 (hval 3 4 v3 rfl rfl) h3
  refine (busy_walk q0 n0 e0 zs0 a1 a2 b3 W hl0 hn0 he0 hr0).mono fun e W' ⟨he, bel⟩ => ?_
  subst he
  exact ⟨_, rfl, _, _, _, [], _, [], hW', trodAll_mk1 (shut_bool Try.underlying4 _), (trodAll_cons_mk (Below.trod Try.laidOut (by kernel_rfl) (of_decide_eq_true (by kernel_rfl)) k0 bel lt0) (trodAll_cons_mk (shut_int Try.underlying3 w1) (trodAll_cons_mk (shut_int Try.underlying3 w2) (trodAll_cons_mk (shut_bool Try.underlying4 _) trodAll_mk0)))), rfl, bel.frame _, fun h => by cases h⟩

theorem keysBusy_holds : Rows.KeysBusySaid :=
  OpenClaim.holds_of_wide 7 Try.f7 rfl rfl rfl rfl rfl rfl rfl ⟨rfl, rfl, rfl, rfl, rfl⟩ rfl rfl rfl rfl rfl (by kernel_rfl) Try.func7 (by kernel_rfl)
    (of_decide_eq_true (by kernel_rfl)) (by unfold Func.isWrapper; first | (rw [if_pos (by decide +kernel)]; kernel_rfl) | (rw [if_neg (by decide +kernel)]; exact ⟨rfl, rfl⟩))
    (fun os started H enc _ => keysBusy_lifted os started H enc)
#print axioms keysBusy_holds

end Go.Proofs.Ytkpieeldoielgaa
