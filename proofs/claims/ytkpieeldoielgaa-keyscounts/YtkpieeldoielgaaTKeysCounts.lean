/-
  Proved here: the law KeysCounts (switchyardlaw21) answers true for every input, and each argument reads afterwards as it read before. No condition of ours: the row's own reach alone (each slice and text takes at most 2^47 - 4096 bytes).
-/
import Derived.Test.YtkpieeldoielgaaGf

/- Ours: KeysBusy answers true. -/
namespace Go.Proofs.Ytkpieeldoielgaa
open Go.RowKit

theorem i64_nat {k : Nat} (h : k ≤ 1048576) : i64P (k : Int) := by unfold i64P; omega
/-- the calls of KeysBusy, on counts -/
theorem bsy_up (n k : Nat) (hk : k < n) : calL (zerosC n) false k true = ⟨(zerosC n).set k 1, true, true, 0⟩ := by
  unfold calL
  rw [if_neg (by rw [zerosC_len]; omega), if_neg (by decide), if_pos rfl, Int.toNat_natCast, zerosC_at, if_neg (by decide)]
  rfl
theorem bsy_busy (n k : Nat) (cs : List Int) (hl : cs.length = n) (up : Bool) (hk : k < n) : calL cs true k up = ⟨cs, true, false, 310⟩ := by
  unfold calL
  rw [if_neg (by rw [hl]; omega), if_pos rfl]
theorem bsy_none (n : Nat) (cs : List Int) (hl : cs.length = n) (op up : Bool) : calL cs op n up = ⟨cs, op, false, 311⟩ := by
  unfold calL
  rw [if_pos (by rw [hl]; omega)]
theorem bsy_down (n k : Nat) (hk : k < n) : calL ((zerosC n).set k 1) false k false = ⟨((zerosC n).set k 1).set k 0, true, true, 0⟩ := by
  have e : ((zerosC n).set k 1).getD k 0 = 1 := by simp [List.getD, zerosC_len, hk]
  unfold calL
  rw [if_neg (by rw [List.length_set, zerosC_len]; omega), if_neg (by decide), if_neg (by decide), Int.toNat_natCast, e, if_neg (by decide)]
  rfl
set_option maxRecDepth 20000 in
set_option maxHeartbeats 16000000 in
theorem busy_walk (p : Option Addr) (n c : Nat) (L : List Int) (key other : Int) (up : Bool) (w : World) (hL : L.length = n) (hn : n ≤ 140737488355328) (hnc : n ≤ c) (hr : GRow w p (numZ L)) :
    Calls Try.prog 7 #[.slice p n c, .int .i64 key, .int .i64 other, .bool up] w fun e w' => e = .returned (.bool true) ∧ Below w.heap.size w w' := by
  have hIm := image_sl p n c L w hL hn hnc hr
  clear hL hn hnc hr
  go_enter Try.func7, Try.ntmps7
  go_wp2_with (go_at_call 16; refine Hid.out ?_)
  refine Lib.hid ?_
  (with_reducible refine hIm.mono ?_)
  rintro e w1 ⟨l, qb, qk, qs, qu, nb, db, dk, ns, ds, nu, du, hl, rfl, hI, -, hb1⟩
  have h20 : l.length ≤ 20 := by rw [hl, List.length_take]; omega
  clear hl hIm
  have HB1 := Hid.in hb1
  have HV0 := Hid.in (Blk.new w1 31 #[.slice qb nb db, .slice qk (imN l) dk, .slice qs ns ds, .slice qu nu du])
  have HN0 := Hid.in (new_alloc w1 (.cells #[.slice qb nb db, .slice qk (imN l) dk, .slice qs ns ds, .slice qu nu du] 31))
  obtain ⟨z0, z1, z2, z3⟩ := HV0.out.cells4
  have hT1 := tnew_im l h20 _ _ _ _ _ _ (hI.below HN0.out)
  clear hI hb1
  go_wp2_with (go_at_call 9; refine Hid.out ?_)
  refine Lib.hid ?_
  generalize w1.alloc (.cells #[.slice qb nb db, .slice qk (imN l) dk, .slice qs ns ds, .slice qu nu du] 31) = w2 at *
  (with_reducible refine hT1.mono ?_)
  rintro e w3 ⟨h, b, p', c', rfl, hT, hb3, hh, hb, -⟩
  have HB3 := Hid.in (below_step (below_step HB1.out HN0.out) hb3)
  have HV3 := Hid.in (HV0.out.grow hb3)
  have HS := Hid.in imM_some
  have HT3 := Hid.in hT
  have HG : Hid (∀ j, G2 h b j → w.heap.size ≤ j ∧ w2.heap.size ≤ j) := fun j hj => by
    have := HB1.out.size
    have := HN0.out.size
    rcases hj with rfl | rfl <;> omega
  have HLV := Hid.in HV0.out.lt
  have hN20 : imN l ≤ 20 := Nat.le_trans (imN_le l) h20
  have HOF := Hid.in (fun (k : Nat) (hk : k < imN l) => imM_some l h20 k hk)
  clear hT1 hT hb3 z0 z1 z2 z3 HV0 HN0 HB1 hh hb HS
  obtain ⟨z0, z1, z2, z3⟩ := HV3.out.cells4
  generalize (imM l).si = si at *
  generalize imN l = kn at *
  by_cases h0 : kn = 0
  · subst h0
    go_wp2_with (go_at_call 15; refine (awake_any _).mono ?_; rintro e w5 ⟨rfl, hb5⟩; have HB5 := Hid.in (below_step HB3.out hb5); clear hb5)
    go_ret
    exact ⟨rfl, HB5.out⟩
  · have hk0 : ((kn : Int) == 0) = false := by simp; omega
    have hP1 := fun W => pick_any key kn (by omega) (by omega) W
    have hP2 := fun W => pick_any other kn (by omega) (by omega) W
    have hp1 := pickZ_lt key kn (by omega)
    have hp2 := pickZ_lt other kn (by omega)
    generalize pickZ key kn = k1 at *
    generalize pickZ other kn = k2 at *
    go_upto_region 7 with fail
    go_quiet ((go_at_call 28; first | (with_reducible exact Calls.quiet_of_same (hP1 _)) | (with_reducible exact Calls.quiet_of_same (hP2 _))))
    clear hP1 hP2 z0 z1 z2 z3
    have HT4 := Hid.in (HT3.out.drewN nq)
    have HV4 : Hid (Blk (w3.drewN nq) w1.heap.size 31 #[.slice qb nb db, .slice qk kn dk, .slice qs ns ds, .slice qu nu du]) := HV3.out
    have HB4 := Hid.in (below_draws HB3.out nq)
    clear HT3 HV3 HB3
    generalize w3.drewN nq = w4 at *
    have hC4 := call_sl h b kn (zerosC kn) p' c' si w4 false HT4.out k1 (i64_nat (by omega)) true (by omega) _ (bsy_up kn k1 hp1) _ rfl
    have HLn : Hid (((zerosC kn).set k1 1).length = kn) := by show _ = _; rw [List.length_set, zerosC_len]
    have HDn := Hid.in (bsy_down kn k1 hp1)
    generalize (zerosC kn).set k1 1 = cs1 at *
    go_wp2_with (go_at_call 11; refine Hid.out ?_)
    refine Lib.hid ?_
    (with_reducible refine hC4.mono ?_)
    rintro e w5 ⟨q5, cq5, n5, rfl, -, hT5, hn5, hK5⟩
    have HB5 : Hid (Below w.heap.size w w5) := HB4.out.trans (hK5.below HB4.out.size (fun j hj => (HG.out j hj).1))
    have HV5 : Hid (Blk w5 w1.heap.size 31 #[.slice qb nb db, .slice qk kn dk, .slice qs ns ds, .slice qu nu du]) := (hK5.block w1.heap.size HV4.out.lt (fun hj => by have := (HG.out _ hj).2; have := HLV.out; omega)).trans HV4.out
    have HT5 := Hid.in hT5
    clear hT5 hK5 hC4 HT4 HV4 HB4
    have hC5 := count_any h b n5 cs1 true p' c' si w5 HT5.out k2 (i64_nat (by omega))
    obtain ⟨ct, hct⟩ : ∃ ct, cntL cs1 k2 = ct := ⟨_, rfl⟩
    rw [hct] at hC5
    have HCT := Hid.in hct
    clear hct
    go_wp2_with (go_at_call 14; refine Hid.out ?_)
    refine Lib.hid ?_
    (with_reducible refine hC5.mono ?_)
    rintro e w6 ⟨rfl, rfl⟩
    have hC6 := call_sl h b n5 cs1 p' c' si w6 true HT5.out k2 (i64_nat (by omega)) up (by omega) _ (bsy_busy kn k2 cs1 HLn.out up hp2) [] rfl
    go_wp2_with (go_at_call 11; refine Hid.out ?_)
    refine Lib.hid ?_
    (with_reducible refine hC6.mono ?_)
    rintro e w7 ⟨q7, cq7, n7, rfl, -, hT7, hn7, hK7⟩
    have HB7 : Hid (Below w.heap.size w w7) := HB5.out.trans (hK7.below HB5.out.size (fun j hj => (HG.out j hj).1))
    have HV7 : Hid (Blk w7 w1.heap.size 31 #[.slice qb nb db, .slice qk kn dk, .slice qs ns ds, .slice qu nu du]) := (hK7.block w1.heap.size HV5.out.lt (fun hj => by have := (HG.out _ hj).2; have := HLV.out; omega)).trans HV5.out
    have HT7 := Hid.in hT7
    clear hT7 hK7 hC6 hC5 HT5 HV5 HB5
    obtain ⟨z0, z1, z2, z3⟩ := HV7.out.cells4
    have hC7 := count_any h b n7 cs1 true p' c' si w7 HT7.out k2 (i64_nat (by omega))
    rw [HCT.out] at hC7
    go_wp2_with (go_at_call 14; refine Hid.out ?_)
    refine Lib.hid ?_
    (with_reducible refine hC7.mono ?_)
    rintro e w8 ⟨rfl, rfl⟩
    have hC8 := call_sl h b n7 cs1 p' c' si w8 true HT7.out kn (i64_nat (by omega)) up (by omega) _ (bsy_none kn cs1 HLn.out true up) [] rfl
    go_wp2_with (go_at_call 11; refine Hid.out ?_)
    refine Lib.hid ?_
    (with_reducible refine hC8.mono ?_)
    rintro e w9 ⟨q9, cq9, n9, rfl, -, hT9, hn9, hK9⟩
    have HB9 : Hid (Below w.heap.size w w9) := HB7.out.trans (hK9.below HB7.out.size (fun j hj => (HG.out j hj).1))
    have HT9 := Hid.in hT9
    clear hT9 hK9 hC7 hC8 HT7 HV7 HB7 z0 z1 z2 z3
    have hBu := busy_any h b n9 cs1 true p' c' si w9 HT9.out
    go_wp2_with (go_at_call 27; refine hBu.mono ?_; rintro e w10 ⟨rfl, rfl⟩)
    have hR1 := return_any h b n9 cs1 true p' c' si w10 HT9.out
    go_wp2_with (go_at_call 12; refine Hid.out ?_)
    refine Lib.hid ?_
    (with_reducible refine hR1.mono ?_)
    rintro e w11 ⟨rfl, hT11, hK11⟩
    have HB11 : Hid (Below w.heap.size w w11) := HB9.out.trans (hK11.below HB9.out.size (fun j hj => (HG.out j hj).1))
    have HT11 := Hid.in hT11
    clear hT11 hK11 hR1 HT9 HB9 hBu
    have hR2 := return_any h b n9 cs1 false p' c' si w11 HT11.out
    go_wp2_with (go_at_call 12; refine Hid.out ?_)
    refine Lib.hid ?_
    (with_reducible refine hR2.mono ?_)
    rintro e w12 ⟨rfl, hT12, hK12⟩
    have HB12 : Hid (Below w.heap.size w w12) := HB11.out.trans (hK12.below HB11.out.size (fun j hj => (HG.out j hj).1))
    have HT12 := Hid.in hT12
    clear hT12 hK12 hR2 HT11 HB11
    have hC12 := call_sl h b n9 cs1 p' c' si w12 false HT12.out k1 (i64_nat (by omega)) false (by omega) _ HDn.out _ rfl
    have hof : 0 < (toldR si k1 ⟨cs1.set k1 0, true, true, 0⟩).length := HOF.out k1 hp1
    generalize (toldR si k1 ⟨cs1.set k1 0, true, true, 0⟩) = tl at *
    generalize hcs2 : cs1.set k1 0 = cs2 at *
    clear hcs2
    go_wp2_with (go_at_call 11; refine Hid.out ?_)
    refine Lib.hid ?_
    (with_reducible refine hC12.mono ?_)
    rintro e w13 ⟨q13, cq13, n13, rfl, -, -, -, hK13⟩
    have HB13 : Hid (Below w.heap.size w w13) := HB12.out.trans (hK13.below HB12.out.size (fun j hj => (HG.out j hj).1))
    have hd : decide ((0 : Int) < (tl.length : Int)) = true := decide_eq_true (by omega)
    clear hK13 hC12 HT12 HB12
    go_wp2_with (go_at_call 15; refine (awake_any _).mono ?_; rintro e w14 ⟨rfl, hb14⟩; have HB14 := Hid.in (below_step HB13.out hb14); clear hb14)
    go_ret
    exact ⟨rfl, HB14.out⟩
end Go.Proofs.Ytkpieeldoielgaa

/- Ours: KeysCounts' memory: an image, its table, and the counts beside it. -/
namespace Go.Proofs.Ytkpieeldoielgaa
open Go.RowKit

theorem Try.info3' : (Try.prog.info? 3).map (fun i => (i.zero, i.size, i.bytes)) = some (some (.int .i64 0), 1, 8) := by kernel_rfl
theorem wp_makeI {ops : Array Oper} {rest : List Oper} {o : Oper} {a : Act} {w : World} {Q : Exit → Act → World → Prop} (hg : o.guard = none) (s1 s2 : Operand) (ho : o.op = .makeSlice 29 s1 s2) (n : Nat) (h1 : a.eval s1 = .int .i64 n) (h2 : a.eval s2 = .int .i64 n) (hn : n ≤ 1048576)
    (h : ∀ w1, Hid (Blk w1 w.heap.size 3 (numZ (zerosC n)).toArray) → Hid (Below w.heap.size w w1) → wpList Try.prog ops Q rest (a.put o.dst (.slice (some ⟨w.heap.size, 0, none⟩) n n)) w1) : wpList Try.prog ops Q (o :: rest) a w := by
  obtain ⟨i0, hi, hz0, hz1, hz2⟩ := info_parts Try.info3'
  refine wpList_make_full _ hg s1 s2 29 ho _ 3 i0 (.int .i64 0) 1 Try.underlying29 hi hz0 hz1 _ _ _ _ n h1 h2 rfl rfl (by rw [hz2]; omega) (by unfold maxLen; omega) (Nat.le_refl _) ?_
  intro w1 hown hgrow
  refine h w1 ?_ ((Below.refl w.heap.size w).grown hgrow (Nat.le_refl _) (by simp))
  rw [show (Value.int .i64 0).cells = #[Value.int .i64 0] from rfl, toList_madeCells_one] at hown
  rcases hown.2 with ⟨e1, _⟩ | ⟨g, cap, cur, e1, e2, e3, e4, e5, e6, e7⟩
  · exact absurd e1 (fun e => slice_no e)
  · obtain ⟨e1, e1'⟩ := slice_inj e1
    subst e1 e1'
    show Blk _ _ _ _
    unfold Blk
    rw [e3]
    have e : cur = (numZ (zerosC n)).toArray := by
      apply Array.toList_inj.1
      rw [← List.take_of_length_le (l := cur.toList) (i := n * 1) (by rw [Array.length_toList]; omega), e7]
      simp [numZ, zerosC]
    rw [e]
/-- where KeysCounts stands -/
structure SC (w0 w : World) (M h b gC n : Nat) (cs ds : List Int) (op : Bool) (p' : Option Addr) (c' : Nat) (si : List Si) (qs : Option Addr) (A : Array Value) : Prop where
  mb : Blk w M 31 A
  sr : Row3 w qs (si.map siV)
  tab : TabAt w h b n cs op p' c' si
  cnt : Blk w gC 3 (numZ ds).toArray
  bel : Below w0.heap.size w0 w
  hM : M ≠ h ∧ M ≠ b ∧ M ≠ gC
  hC : gC ≠ h ∧ gC ≠ b
  hq : ∀ a, qs = some a → a.block ≠ h ∧ a.block ≠ b ∧ a.block ≠ gC
  hp : ∀ a, p' = some a → a.block ≠ gC
  lo : w0.heap.size ≤ h ∧ w0.heap.size ≤ b ∧ w0.heap.size ≤ gC
section
variable {w0 w w' : World} {M h b gC n n' : Nat} {cs cs' ds : List Int} {op op' : Bool} {p' : Option Addr} {c' : Nat} {si : List Si} {qs : Option Addr} {A : Array Value}
theorem SC.below (H : SC w0 w M h b gC n cs ds op p' c' si qs A) (hb : Below w.heap.size w w') : SC w0 w' M h b gC n cs ds op p' c' si qs A :=
  { H with mb := H.mb.grow hb, sr := H.sr.below hb, tab := H.tab.below hb, cnt := H.cnt.grow hb, bel := below_step H.bel hb }
theorem SC.call (H : SC w0 w M h b gC n cs ds op p' c' si qs A) (hK : Keeps (G2 h b) w w') (hT : TabAt w' h b n' cs' op' p' c' si) : SC w0 w' M h b gC n' cs' ds op' p' c' si qs A :=
  { H with
    mb := (hK.block M H.mb.lt (fun e => by rcases e with e | e; exact H.hM.1 e; exact H.hM.2.1 e)).trans H.mb
    sr := H.sr.keeps hK (fun a e hj => by rcases hj with hj | hj; exact (H.hq a e).1 hj; exact (H.hq a e).2.1 hj)
    tab := hT
    cnt := (hK.block gC H.cnt.lt (fun e => by rcases e with e | e; exact H.hC.1 e; exact H.hC.2 e)).trans H.cnt
    bel := H.bel.trans (hK.below H.bel.size (fun j hj => by rcases hj with rfl | rfl; exact H.lo.1; exact H.lo.2.1)) }
theorem SC.setc (H : SC w0 w M h b gC n cs ds op p' c' si qs A) (k : Nat) (u : Int) : SC w0 (w.setCell ⟨gC, k, none⟩ (.int .i64 u)) M h b gC n cs (ds.set k u) op p' c' si qs A :=
  have hk : Keeps (fun j => j = gC) w (w.setCell ⟨gC, k, none⟩ (.int .i64 u)) := keeps_set w gC k _ rfl
  { H with
    mb := H.mb.other H.hM.2.2 k _
    sr := H.sr.keeps hk (fun a e => (H.hq a e).2.2)
    tab := H.tab.keeps hk (fun e => H.hC.1 e.symm) (fun e => H.hC.2 e.symm) H.hp
    cnt := by
      have := H.cnt.set k (.int .i64 u)
      have e : (numZ (ds.set k u)).toArray = (numZ ds).toArray.setIfInBounds k (.int .i64 u) := by simp [numZ, List.map_set]
      rw [e]; exact this
    bel := H.bel.trans (hk.below H.bel.size (fun j hj => by have e : j = gC := hj; rw [e]; exact H.lo.2.2)) }
theorem SC.cell (H : SC w0 w M h b gC n cs ds op p' c' si qs A) (k : Nat) (hk : k < ds.length) : w.cell? ⟨gC, k, none⟩ = some (.int .i64 (ds.getD k 0)) := by
  rw [H.cnt.cell, List.getElem?_toArray, numZ_at _ _ hk]
end
/-- of the first k sites those of a key -/
def cntS (si : List Si) (z : Int) (k : Nat) : List Si := (si.take k).filter fun s => decide (s.key = z)
theorem cntS_yes {si : List Si} {z : Int} {k : Nat} (hk : k < si.length) (h : si[k].key = z) : cntS si z (k + 1) = cntS si z k ++ [si[k]] := by
  unfold cntS
  rw [List.take_succ_eq_append_getElem hk, List.filter_append]
  simp [h]
theorem cntS_no {si : List Si} {z : Int} {k : Nat} (hk : k < si.length) (h : ¬ si[k].key = z) : cntS si z (k + 1) = cntS si z k := by
  unfold cntS
  rw [List.take_succ_eq_append_getElem hk, List.filter_append]
  simp [h]
theorem cntS_all {si : List Si} (hs : byKey si) (z : Int) {k : Nat} (hk : si.length ≤ k) : cntS si z k = ofK si z := by
  unfold cntS
  rw [List.take_of_length_le hk, ofK_filter hs]
/-- where the next one stands -/
theorem cntS_at {si : List Si} (hs : byKey si) {z : Int} {k : Nat} (hk : k < si.length) (h : si[k].key = z) : (ofK si z)[(cntS si z k).length]? = some si[k] ∧ (cntS si z k).length < (ofK si z).length := by
  have e : ofK si z = cntS si z (k + 1) ++ (si.drop (k + 1)).filter (fun s => decide (s.key = z)) := by
    rw [ofK_filter hs, cntS, ← List.filter_append, List.take_append_drop]
  rw [e, cntS_yes hk h]
  refine ⟨?_, by simp⟩
  rw [List.append_assoc, List.getElem?_append_right (Nat.le_refl _), Nat.sub_self]
  rfl
theorem cntS_le (si : List Si) (z : Int) (k : Nat) : (cntS si z k).length ≤ si.length := by
  unfold cntS
  exact Nat.le_trans (List.length_filter_le _ _) (by rw [List.length_take]; omega)
end Go.Proofs.Ytkpieeldoielgaa

/- Ours: KeysCounts answers true. -/
namespace Go.Proofs.Ytkpieeldoielgaa
open Go.RowKit

theorem drewN_two3 (w : World) (a b c : Nat) : ((w.drewN a).drewN b).drewN c = w.drewN (a + b + c) := by rw [drewN_two, drewN_two, Nat.add_assoc]
set_option maxRecDepth 20000 in
set_option maxHeartbeats 64000000 in
theorem counts_walk (p : Option Addr) (n c : Nat) (L : List Int) (q : Option Addr) (e : Nat) (O : List OpD) (w : World) (hL : L.length = n) (hn : n ≤ 140737488355328) (hnc : n ≤ c) (hr : GRow w p (numZ L)) (hO : O.length ≤ 9223372036854775807) (hS : Scr w q O) :
    Calls Try.prog 6 #[.slice p n c, .slice q O.length e] w fun e w' => e = .returned (.bool true) ∧ Below w.heap.size w w' := by
  have hIm := image_sl p n c L w hL hn hnc hr
  have HSc := Hid.in hS
  clear hL hn hnc hr hS
  go_enter Try.func6, Try.ntmps6
  go_wp2_with (go_at_call 16; refine Hid.out ?_)
  refine Lib.hid ?_
  (with_reducible refine hIm.mono ?_)
  rintro e w1 ⟨l, qb, qk, qs, qu, nb, db, dk, ns, ds, nu, du, hl, rfl, hI, hns, hb1⟩
  have h20 : l.length ≤ 20 := by rw [hl, List.length_take]; omega
  have HNS := Hid.in hns
  clear hl hIm hns
  have HB1 := Hid.in hb1
  have HV0 := Hid.in (Blk.new w1 31 #[.slice qb nb db, .slice qk (imN l) dk, .slice qs ns ds, .slice qu nu du])
  have HN0 := Hid.in (new_alloc w1 (.cells #[.slice qb nb db, .slice qk (imN l) dk, .slice qs ns ds, .slice qu nu du] 31))
  obtain ⟨z0, z1, z2, z3⟩ := HV0.out.cells4
  have hT1 := tnew_im l h20 _ _ _ _ _ _ (hI.below HN0.out)
  obtain ⟨HRs, HQs⟩ : Hid (Row3 w1 qs ((imM l).si.map siV)) ∧ Hid (∀ a, qs = some a → w.heap.size ≤ a.block ∧ a.block < w1.heap.size) := by
    obtain ⟨q', c', e', -, -, hr'⟩ := hI.s.row3
    injection e' with e1 _ _
    subst e1
    refine ⟨hr', fun a ea => ?_⟩
    rcases hI.s.2 with ⟨e1, _⟩ | ⟨g, cap, cur, e1, e2, e3, _⟩
    · rw [ea] at e1
      exact absurd e1 (fun e => slice_no e)
    · rw [ea] at e1
      injection e1 with e1 _ _
      injection e1 with e1
      subst e1
      exact ⟨e2, (Array.getElem?_eq_some_iff.1 e3).1⟩
  clear hI hb1
  go_wp2_with (go_at_call 9; refine Hid.out ?_)
  refine Lib.hid ?_
  have HS12 : Hid (w1.heap.size + 1 = (w1.alloc (.cells #[.slice qb nb db, .slice qk (imN l) dk, .slice qs ns ds, .slice qu nu du] 31)).heap.size) := (size_one _ _).symm
  generalize w1.alloc (.cells #[.slice qb nb db, .slice qk (imN l) dk, .slice qs ns ds, .slice qu nu du] 31) = w2 at *
  (with_reducible refine hT1.mono ?_)
  rintro e w3 ⟨h, b, p', c', rfl, hT, hb3, hh, hb, hp'⟩
  have HB3 := Hid.in (below_step (below_step HB1.out HN0.out) hb3)
  have HV3 := Hid.in (HV0.out.grow hb3)
  have HR3 := Hid.in ((HRs.out.below HN0.out).below hb3)
  have HT3 := Hid.in hT
  have HBY := Hid.in (imM_by l h20)
  have HSL : Hid ((imM l).si.length = ns) := (imM_sl l).trans HNS.out.symm
  have hN20 : imN l ≤ 20 := Nat.le_trans (imN_le l) h20
  have hns20 : ns ≤ 20 := by rw [HNS.out]; exact h20
  have HW1 : Hid (w.heap.size ≤ w1.heap.size) := HB1.out.size
  have HPp := Hid.in hp'
  have HS23 : Hid (w2.heap.size ≤ w3.heap.size) := hb3.size
  clear hT1 hT hb3 z0 z1 z2 z3 HV0 HN0 HB1 hp' HRs
  obtain ⟨z0, z1, z2, z3⟩ := HV3.out.cells4
  generalize (imM l).si = si at *
  generalize imN l = kn at *
  have hkb : kn ≤ 1048576 := by omega
  go_wp2_with (at_make; refine wp_makeI rfl _ _ rfl kn rfl rfl hkb ?_; intro w4 HC4 HB4; refine Hid.out ?_)
  refine Lib.hid ?_
  have HSC : Hid (SC w w4 w1.heap.size h b w3.heap.size kn (zerosC kn) (zerosC kn) false p' c' si qs #[.slice qb nb db, .slice qk kn dk, .slice qs ns ds, .slice qu nu du]) := by
    have l1 := HT3.out.blk.lt
    have l2 := HT3.out.map.lt
    have s12 := HS12.out
    have s23 := HS23.out
    have sw := HW1.out
    refine ⟨HV3.out.grow HB4.out, HR3.out.below HB4.out, HT3.out.below HB4.out, HC4.out, below_step HB3.out HB4.out, ⟨by omega, by omega, by omega⟩, ⟨by omega, by omega⟩, fun a ea => ?_, fun a ea => ?_, ⟨by omega, by omega, by omega⟩⟩
    · have := HQs.out a ea
      exact ⟨by omega, by omega, by omega⟩
    · have := HT3.out.pl a ea
      omega
  clear HC4 HB4 HT3 HV3 HR3 HB3 z0 z1 z2 z3 HQs hh hb HPp
  generalize w3.heap.size = gC at *
  generalize w1.heap.size = M at *
  clear HS12 HS23 HW1
  go_wp2_with fail
  go_loopw [9] (fun vi wr => ∃ (i n' : Nat) (cs : List Int), i ≤ 300 ∧ i ≤ O.length ∧ vi = .int .i64 i ∧ SC w wr M h b gC n' cs cs false p' c' si qs #[.slice qb nb db, .slice qk kn dk, .slice qs ns ds, .slice qu nu du] ∧ cs.length = kn ∧ n' ≤ kn + i ∧ ∀ k, cs.getD k 0 ≤ i) (fun vi _ => 300 - (intOf vi).toNat)
  case atStart => exact ⟨0, kn, zerosC kn, by omega, Nat.zero_le _, rfl, HSC.out, zerosC_len _, by omega, fun k => by rw [zerosC_at]; omega⟩
  case round =>
    obtain ⟨i, n', cs, hi, hiO, rfl, hSC, hcl, hn', hcb⟩ := hrel
    have HS := Hid.in hSC
    have HCB := Hid.in hcb
    clear hSC HSC hcb
    by_cases hlt : i < O.length ∧ i < 300
    · obtain ⟨hi1, hi2⟩ := hlt
      obtain ⟨b3, o3, rfl, hsc⟩ := HSc.out (by omega)
      obtain ⟨⟨s0, s1, s2, s3⟩, hOp⟩ := hsc i O[i] (List.getElem?_eq_getElem hi1)
      have d0 := (HS.out.bel.cell (p := ⟨b3, o3 + i * 4, none⟩) (cell_lt s0)).trans s0
      have d1 := (HS.out.bel.cell (p := ⟨b3, o3 + i * 4 + 1, none⟩) (cell_lt s1)).trans s1
      have d2 := (HS.out.bel.cell (p := ⟨b3, o3 + i * 4 + 2, none⟩) (cell_lt s2)).trans s2
      have d3 := (HS.out.bel.cell (p := ⟨b3, o3 + i * 4 + 3, none⟩) (cell_lt s3)).trans s3
      clear hsc s0 s1 s2 s3
      generalize O[i] = y at *
      obtain ⟨ky, on_, z, up⟩ := y
      have hz : i64P z := hOp.2.2
      simp only at d0 d1 d2 d3
      have HN5 := Hid.in (new_alloc wr (.cells #[.int .i64 ky, .int .i64 on_, .int .i64 z, .bool up] 53))
      have HO5 := Hid.in (Blk.new wr 53 #[.int .i64 ky, .int .i64 on_, .int .i64 z, .bool up])
      have HS5 := Hid.in (HS.out.below HN5.out)
      have e1 : decide ((i : Int) < (O.length : Int)) = true := decide_eq_true (by omega)
      have e2 : decide ((i : Int) < 300) = true := decide_eq_true (by omega)
      go_upto_region 10 with fail
      generalize wr.alloc (.cells #[.int .i64 ky, .int .i64 on_, .int .i64 z, .bool up] 53) = w5 at *
      have HOL : Hid (∀ W, Keeps (G2 h b) w5 W → Blk W wr.heap.size 53 #[.int .i64 ky, .int .i64 on_, .int .i64 z, .bool up]) := fun W hW => (hW.block wr.heap.size HO5.out.lt (fun hj => by
        have l1 := HS.out.tab.blk.lt
        have l2 := HS.out.tab.map.lt
        rcases hj with hj | hj <;> omega)).trans HO5.out
      have HOC : Hid (wr.heap.size ≠ gC) := by have := HS.out.cnt.lt; show _ ≠ _; omega
      obtain ⟨o0, o1, o2, o3'⟩ := HO5.out.cells4
      clear d0 d1 d2 d3 HS HN5
      obtain ⟨r, hr⟩ : ∃ r, calL cs false z up = r := ⟨_, rfl⟩
      have hC := call_sl h b n' cs p' c' si w5 false HS5.out.tab z hz up (by omega) r hr _ rfl
      have HRq := Hid.in hr
      clear hr
      go_wp2_with (go_at_call 11; refine Hid.out ?_)
      refine Lib.hid ?_
      (with_reducible refine hC.mono ?_)
      rintro e w6 ⟨ql, cq, n6, rfl, hT6, hTab6, hn6, hK6⟩
      have HO6 := Hid.in (HOL.out w6 hK6)
      have HL6 : Hid (Row3 w6 ql ((toldR si z r).map siV)) := by
        obtain ⟨q', c', e', -, -, hr'⟩ := hT6.row3
        injection e' with e1 _ _
        subst e1
        exact hr'
      have HLq : Hid (∀ a, ql = some a → w5.heap.size ≤ a.block) := fun a ea => by
        rcases hT6.2 with ⟨e1, _⟩ | ⟨g, cap, cur, e1, e2, e3, _⟩
        · rw [ea] at e1
          exact absurd e1 (fun e => slice_no e)
        · rw [ea] at e1
          injection e1 with e1 _ _
          injection e1 with e1
          subst e1
          exact e2
      have HCN := Hid.in HS5.out.tab.hc
      have HS6 := Hid.in (HS5.out.call hK6 hTab6)
      have HCL : Hid (gC < w5.heap.size) := HS5.out.cnt.lt
      have HOb : Hid (wr.heap.size < w5.heap.size) := HO5.out.lt
      clear hT6 hTab6 hK6 hC HOL HO5 o0 o1 o2 o3' HS5
      obtain ⟨o0, o1, o2, o3'⟩ := HO6.out.cells4
      generalize wr.heap.size = ob at *
      by_cases hk : 0 ≤ z ∧ z < cs.length
      · obtain ⟨kz, rfl⟩ : ∃ kz : Nat, z = kz := ⟨z.toNat, by omega⟩
        have hkz : kz < cs.length := by omega
        have ccz := HS6.out.cell kz hkz
        have fcz : w6.frozen? ⟨gC, kz, none⟩ = false := HS6.out.cnt.free kz
        have hx0 := (HCN.out kz hkz).1
        have hx1 := HCB.out kz
        obtain ⟨x, hx⟩ : ∃ x, cs.getD kz 0 = x := ⟨_, rfl⟩
        rw [hx] at ccz hx0 hx1
        have HX := Hid.in hx
        clear hx
        have f1 : decide ((kz : Int) < 0) = false := decide_eq_false (by omega)
        have f2 : decide ((kn : Int) ≤ (kz : Int)) = false := decide_eq_false (by omega)
        cases up
        · by_cases hxz : x = 0
          · subst hxz
            have er : r = ⟨cs, false, false, 312⟩ := by
              rw [← HRq.out]; unfold calL
              rw [if_neg (fun hh => hh ⟨by omega, by omega⟩), if_neg (by decide), if_neg (by decide), Int.toNat_natCast, HX.out, if_pos rfl]
            subst er
            have hl0 : (toldR si (kz : Int) ⟨cs, false, false, 312⟩).length = 0 := rfl
            rw [hl0]
            go_wp2_with fail
            go_roundw
            case rel => exact ⟨i + 1, n6, cs, by omega, by omega, by go_num, HS6.out, hcl, by omega, fun k => by have := HCB.out k; omega⟩
            case measure => simp [intOf]; omega
          · have hxzb : (x == (0 : Int)) = false := by simpa using hxz
            have er : r = ⟨cs.set kz (x - 1), decide (x - 1 = 0), decide (x - 1 = 0), 0⟩ := by
              rw [← HRq.out]; unfold calL
              rw [if_neg (fun hh => hh ⟨by omega, by omega⟩), if_neg (by decide), if_neg (by decide), Int.toNat_natCast, HX.out, if_neg (by omega)]
            subst er
            clear HRq
            have HCL2 : Hid ((cs.set kz (x - 1)).length = kn) := by show _ = _; rw [List.length_set, hcl]
            have HCB2 : Hid (∀ j, (cs.set kz (x - 1)).getD j 0 ≤ ((i + 1 : Nat) : Int)) := fun j => by
              by_cases ej : kz = j
              · subst ej; simp only [List.getD, List.getElem?_set_self hkz, Option.getD_some]; omega
              · rw [List.getD, List.getElem?_set_ne ej]
                have := HCB.out j
                simp only [List.getD] at this
                omega
            have HU : Hid ((cs.set kz (x - 1)).getD kz 0 = x - 1) := by show _ = _; simp only [List.getD, List.getElem?_set_self hkz, Option.getD_some]
            have HS7' := Hid.in (HS6.out.setc kz (x - 1))
            have hwr : IntKind.i64.wrap (x - 1) = x - 1 := by rw [IntKind.wrap_i64]; omega
            simp only at HS6 HS7' HL6 ⊢
            generalize hcs2 : cs.set kz (x - 1) = cs2 at *
            clear hcs2
            go_upto_region 21 with fail
            have HL7' : Hid (Row3 (w6.setCell ⟨gC, kz, none⟩ (.int .i64 (x - 1))) ql ((toldR si (kz : Int) ⟨cs2, decide (x - 1 = 0), decide (x - 1 = 0), 0⟩).map siV)) := HL6.out.keeps (keeps_set (G := fun j => j = gC) w6 gC kz _ rfl) (fun a ea => by have := HLq.out a ea; have := HCL.out; omega)
            have HO7 := Hid.in (HO6.out.other HOC.out kz (.int .i64 (x - 1)))
            generalize w6.setCell ⟨gC, kz, none⟩ (.int .i64 (x - 1)) = w7 at *
            clear HL6 HS6 HO6 o0 o1 o2 o3' ccz fcz HLq HCL HOC
            have HC2 : Hid (cntL cs2 (kz : Int) = (x - 1, 0)) := by
              show _ = _
              unfold cntL
              rw [if_pos ⟨by omega, by have := HCL2.out; omega⟩, Int.toNat_natCast, HU.out]
            obtain ⟨o0, o1, o2, o3'⟩ := HO7.out.cells4
            by_cases hT : x - 1 = 0
            · as_aux_lemma =>
                have d1 : decide (x - 1 = 0) = true := decide_eq_true hT
                rw [d1] at HS7' HL7' ⊢
                have HS7 : Hid (SC w w7 M h b gC n6 cs2 cs2 true p' c' si qs #[.slice qb nb db, .slice qk kn dk, .slice qs ns ds, .slice qu nu du]) := HS7'.out
                have HL7 : Hid (Row3 w7 ql ((ofK si kz).map siV)) := HL7'.out
                have htl : (toldR si (kz : Int) ⟨cs2, true, true, 0⟩).length = (ofK si kz).length := rfl
                rw [htl]
                clear HS7' HL7'
                have HR7 := Hid.in HS7.out.sr
                obtain ⟨a0, a1, a2, a3⟩ := HS7.out.mb.cells4
                have ccz := HS7.out.cell kz (by have := HCL2.out; omega)
                rw [HU.out] at ccz
                have hCn := count_any h b n6 cs2 true p' c' si w7 HS7.out.tab kz (i64_nat (by omega))
                rw [HC2.out] at hCn
                have hBu := busy_any h b n6 cs2 true p' c' si w7 HS7.out.tab
                have g1 : (x == (0 : Int)) = false := by simp; omega
                have g2 : (x - 1 == (0 : Int)) = true := by simp; omega
                go_wp2_with (first
                  | (go_at_call 14; refine hCn.mono ?_; rintro e w8 ⟨rfl, rfl⟩)
                  | (go_at_call 27; refine hBu.mono ?_; rintro e w8 ⟨rfl, rfl⟩))
                go_loopw [17, 18] (fun v17 v18 wz => ∃ k : Nat, k ≤ ns ∧ v18 = .int .i64 k ∧ v17 = .int .i64 ((cntS si kz k).length : Nat) ∧ ∃ m, wz = w8.drewN m) (fun _ v18 _ => ns - (intOf v18).toNat)
                case atStart => exact ⟨0, Nat.zero_le _, rfl, rfl, 0, rfl⟩
                case round =>
                  obtain ⟨k, hkn, rfl, rfl, m, rfl⟩ := hrel
                  by_cases hkl : k < ns
                  · have hkS : k < si.length := by rw [HSL.out]; exact hkl
                    obtain ⟨bs, os, rfl, hcs⟩ := HR7.out (by rw [List.length_map]; omega)
                    obtain ⟨c0, c1, c2⟩ := cells3 hcs k (by rw [List.length_map]; exact hkS)
                    simp only [List.getElem_map, siV] at c0 c1 c2
                    clear hcs
                    by_cases hkey : si[k].key = (kz : Int)
                    · obtain ⟨hat1, hat2⟩ := cntS_at HBY.out hkS hkey
                      have hnl := cntS_le si kz k
                      have hsl20 : si.length ≤ 20 := by rw [HSL.out]; exact hns20
                      obtain ⟨bl, ol, rfl, hcl2⟩ := HL7.out (by rw [List.length_map]; omega)
                      obtain ⟨l0, l1, l2⟩ := cells3 hcl2 (cntS si kz k).length (by rw [List.length_map]; exact hat2)
                      have hel : (ofK si kz)[(cntS si kz k).length]'hat2 = si[k] := by
                        have := List.getElem?_eq_getElem hat2
                        rw [this] at hat1
                        injection hat1
                      simp only [List.getElem_map, hel, siV] at l0 l1 l2
                      have HCY := Hid.in (cntS_yes hkS hkey)
                      have HCN2 : Hid ((cntS si kz (k + 1)).length = (cntS si kz k).length + 1) := by show _ = _; rw [HCY.out]; simp
                      have f5 : decide (((ofK si kz).length : Int) ≤ ((cntS si kz k).length : Int)) = false := decide_eq_false (by omega)
                      clear hcl2 hat1 hel HCY
                      generalize (cntS si kz k).length = mn at *
                      generalize (ofK si kz).length = ln at *
                      generalize si[k] = s at *
                      obtain ⟨sk, sa, st⟩ := s
                      simp only at c0 c1 c2 l0 l1 l2 hkey
                      subst hkey
                      go_upto_region 28 with fail
                      go_quiet (fail)
                      go_upto_region 29 with fail
                      go_quiet (fail)
                      go_wp2_with fail
                      go_roundw
                      case rel => exact ⟨k + 1, by omega, by go_num, by rw [HCN2.out]; go_num, by first | (with_reducible exact ⟨_, drewN_two _ _ _⟩) | (with_reducible exact ⟨_, drewN_two3 _ _ _ _⟩) | (with_reducible exact ⟨_, rfl⟩)⟩
                      case measure => simp [intOf]; omega
                    · have HCN2 := Hid.in (congrArg List.length (cntS_no hkS hkey))
                      generalize (cntS si kz k).length = mn at *
                      generalize si[k] = s at *
                      obtain ⟨sk, sa, st⟩ := s
                      simp only at c0 c1 c2 hkey
                      have HKY := Hid.in hkey
                      clear hkey
                      go_upto_region 28 with fail
                      go_quiet (fail)
                      have hkb : (sk == (kz : Int)) = false := by simpa using HKY.out
                      go_wp2_with fail
                      go_roundw
                      case rel => exact ⟨k + 1, by omega, by go_num, by rw [HCN2.out], by first | (with_reducible exact ⟨_, drewN_two _ _ _⟩) | (with_reducible exact ⟨_, drewN_two3 _ _ _ _⟩) | (with_reducible exact ⟨_, rfl⟩)⟩
                      case measure => simp [intOf]; omega
                  · obtain rfl : k = ns := by omega
                    have hall : (cntS si kz k).length = (ofK si kz).length := by rw [cntS_all HBY.out kz (by rw [HSL.out]; exact Nat.le_refl _)]
                    rw [hall]
                    have HS8 := Hid.in (HS7.out.below (below_draws (below_self w8) m))
                    have HO8 := Hid.in (HO7.out.grow (below_draws (below_self w8) m))
                    clear a0 a1 a2 a3 o0 o1 o2 o3' ccz hCn hBu
                    have hRt := return_any h b n6 cs2 true p' c' si _ HS8.out.tab
                    generalize (ofK si kz).length = ln at *
                    generalize w8.drewN m = wE at *
                    obtain ⟨a0, a1, a2, a3⟩ := HS8.out.mb.cells4
                    obtain ⟨o0, o1, o2, o3'⟩ := HO8.out.cells4
                    go_wp2_with (go_at_call 12; refine Hid.out ?_)
                    refine Lib.hid ?_
                    (with_reducible refine hRt.mono ?_)
                    rintro e w9 ⟨rfl, hT9, hK9⟩
                    have HS9 := Hid.in (HS8.out.call hK9 hT9)
                    clear hT9 hK9 hRt HS8
                    go_wp2_with fail
                    go_roundw
                    case rel => exact ⟨i + 1, n6, cs2, by omega, by omega, by go_num, HS9.out, HCL2.out, by omega, HCB2.out⟩
                    case measure => simp [intOf]; omega
            · as_aux_lemma =>
                have d1 : decide (x - 1 = 0) = false := decide_eq_false hT
                rw [d1] at HS7' HL7' ⊢
                have HS7 : Hid (SC w w7 M h b gC n6 cs2 cs2 false p' c' si qs #[.slice qb nb db, .slice qk kn dk, .slice qs ns ds, .slice qu nu du]) := HS7'.out
                have htl : (toldR si (kz : Int) ⟨cs2, false, false, 0⟩).length = 0 := rfl
                rw [htl]
                clear HS7' HL7'
                have HR7 := Hid.in HS7.out.sr
                obtain ⟨a0, a1, a2, a3⟩ := HS7.out.mb.cells4
                have ccz := HS7.out.cell kz (by have := HCL2.out; omega)
                rw [HU.out] at ccz
                have hCn := count_any h b n6 cs2 false p' c' si w7 HS7.out.tab kz (i64_nat (by omega))
                rw [HC2.out] at hCn
                have hBu := busy_any h b n6 cs2 false p' c' si w7 HS7.out.tab
                have g1 : (x == (0 : Int)) = false := by simp; omega
                have g2 : (x - 1 == (0 : Int)) = false := by simp; omega
                go_wp2_with (first
                  | (go_at_call 14; refine hCn.mono ?_; rintro e w8 ⟨rfl, rfl⟩)
                  | (go_at_call 27; refine hBu.mono ?_; rintro e w8 ⟨rfl, rfl⟩))
                go_loopw [17, 18] (fun v17 v18 wz => ∃ k : Nat, k ≤ ns ∧ v18 = .int .i64 k ∧ v17 = .int .i64 ((cntS si kz k).length : Nat) ∧ ∃ m, wz = w8.drewN m) (fun _ v18 _ => ns - (intOf v18).toNat)
                case atStart => exact ⟨0, Nat.zero_le _, rfl, rfl, 0, rfl⟩
                case round =>
                  obtain ⟨k, hkn, rfl, rfl, m, rfl⟩ := hrel
                  by_cases hkl : k < ns
                  · have hkS : k < si.length := by rw [HSL.out]; exact hkl
                    obtain ⟨bs, os, rfl, hcs⟩ := HR7.out (by rw [List.length_map]; omega)
                    obtain ⟨c0, c1, c2⟩ := cells3 hcs k (by rw [List.length_map]; exact hkS)
                    simp only [List.getElem_map, siV] at c0 c1 c2
                    clear hcs
                    by_cases hkey : si[k].key = (kz : Int)
                    · have hnl := cntS_le si kz k
                      have hsl20 : si.length ≤ 20 := by rw [HSL.out]; exact hns20
                      have HCY := Hid.in (cntS_yes hkS hkey)
                      have HCN2 : Hid ((cntS si kz (k + 1)).length = (cntS si kz k).length + 1) := by show _ = _; rw [HCY.out]; simp
                      clear HCY
                      generalize (cntS si kz k).length = mn at *
                      generalize si[k] = s at *
                      obtain ⟨sk, sa, st⟩ := s
                      simp only at c0 c1 c2 hkey
                      subst hkey
                      go_upto_region 28 with fail
                      go_quiet (fail)
                      go_upto_region 29 with fail
                      go_quiet (fail)
                      go_wp2_with fail
                      go_roundw
                      case rel => exact ⟨k + 1, by omega, by go_num, by rw [HCN2.out]; go_num, by first | (with_reducible exact ⟨_, drewN_two _ _ _⟩) | (with_reducible exact ⟨_, drewN_two3 _ _ _ _⟩) | (with_reducible exact ⟨_, rfl⟩)⟩
                      case measure => simp [intOf]; omega
                    · have HCN2 := Hid.in (congrArg List.length (cntS_no hkS hkey))
                      generalize (cntS si kz k).length = mn at *
                      generalize si[k] = s at *
                      obtain ⟨sk, sa, st⟩ := s
                      simp only at c0 c1 c2 hkey
                      have HKY := Hid.in hkey
                      clear hkey
                      go_upto_region 28 with fail
                      go_quiet (fail)
                      have hkb : (sk == (kz : Int)) = false := by simpa using HKY.out
                      go_wp2_with fail
                      go_roundw
                      case rel => exact ⟨k + 1, by omega, by go_num, by rw [HCN2.out], by first | (with_reducible exact ⟨_, drewN_two _ _ _⟩) | (with_reducible exact ⟨_, drewN_two3 _ _ _ _⟩) | (with_reducible exact ⟨_, rfl⟩)⟩
                      case measure => simp [intOf]; omega
                  · obtain rfl : k = ns := by omega
                    have hall : (cntS si kz k).length = (ofK si kz).length := by rw [cntS_all HBY.out kz (by rw [HSL.out]; exact Nat.le_refl _)]
                    rw [hall]
                    have HS8 := Hid.in (HS7.out.below (below_draws (below_self w8) m))
                    have HO8 := Hid.in (HO7.out.grow (below_draws (below_self w8) m))
                    clear a0 a1 a2 a3 o0 o1 o2 o3' ccz hCn hBu
                    generalize (ofK si kz).length = ln at *
                    generalize w8.drewN m = wE at *
                    obtain ⟨a0, a1, a2, a3⟩ := HS8.out.mb.cells4
                    obtain ⟨o0, o1, o2, o3'⟩ := HO8.out.cells4
                    go_wp2_with fail
                    go_roundw
                    case rel => exact ⟨i + 1, n6, cs2, by omega, by omega, by go_num, HS8.out, HCL2.out, by omega, HCB2.out⟩
                    case measure => simp [intOf]; omega
        · have er : r = ⟨cs.set kz (x + 1), decide (x + 1 = 1), decide (x + 1 = 1), 0⟩ := by
            rw [← HRq.out]; unfold calL
            rw [if_neg (fun hh => hh ⟨by omega, by omega⟩), if_neg (by decide), if_pos rfl, Int.toNat_natCast, HX.out, if_neg (by omega)]
          subst er
          clear HRq
          have HCL2 : Hid ((cs.set kz (x + 1)).length = kn) := by show _ = _; rw [List.length_set, hcl]
          have HCB2 : Hid (∀ j, (cs.set kz (x + 1)).getD j 0 ≤ ((i + 1 : Nat) : Int)) := fun j => by
            by_cases ej : kz = j
            · subst ej; simp only [List.getD, List.getElem?_set_self hkz, Option.getD_some]; omega
            · rw [List.getD, List.getElem?_set_ne ej]
              have := HCB.out j
              simp only [List.getD] at this
              omega
          have HU : Hid ((cs.set kz (x + 1)).getD kz 0 = x + 1) := by show _ = _; simp only [List.getD, List.getElem?_set_self hkz, Option.getD_some]
          have HS7' := Hid.in (HS6.out.setc kz (x + 1))
          have hwr : IntKind.i64.wrap (x + 1) = x + 1 := by rw [IntKind.wrap_i64]; omega
          simp only at HS6 HS7' HL6 ⊢
          generalize hcs2 : cs.set kz (x + 1) = cs2 at *
          clear hcs2
          go_upto_region 21 with fail
          have HL7' : Hid (Row3 (w6.setCell ⟨gC, kz, none⟩ (.int .i64 (x + 1))) ql ((toldR si (kz : Int) ⟨cs2, decide (x + 1 = 1), decide (x + 1 = 1), 0⟩).map siV)) := HL6.out.keeps (keeps_set (G := fun j => j = gC) w6 gC kz _ rfl) (fun a ea => by have := HLq.out a ea; have := HCL.out; omega)
          have HO7 := Hid.in (HO6.out.other HOC.out kz (.int .i64 (x + 1)))
          generalize w6.setCell ⟨gC, kz, none⟩ (.int .i64 (x + 1)) = w7 at *
          clear HL6 HS6 HO6 o0 o1 o2 o3' ccz fcz HLq HCL HOC
          have HC2 : Hid (cntL cs2 (kz : Int) = (x + 1, 0)) := by
            show _ = _
            unfold cntL
            rw [if_pos ⟨by omega, by have := HCL2.out; omega⟩, Int.toNat_natCast, HU.out]
          obtain ⟨o0, o1, o2, o3'⟩ := HO7.out.cells4
          by_cases hT : x + 1 = 1
          · as_aux_lemma =>
              have d1 : decide (x + 1 = 1) = true := decide_eq_true hT
              rw [d1] at HS7' HL7' ⊢
              have HS7 : Hid (SC w w7 M h b gC n6 cs2 cs2 true p' c' si qs #[.slice qb nb db, .slice qk kn dk, .slice qs ns ds, .slice qu nu du]) := HS7'.out
              have HL7 : Hid (Row3 w7 ql ((ofK si kz).map siV)) := HL7'.out
              have htl : (toldR si (kz : Int) ⟨cs2, true, true, 0⟩).length = (ofK si kz).length := rfl
              rw [htl]
              clear HS7' HL7'
              have HR7 := Hid.in HS7.out.sr
              obtain ⟨a0, a1, a2, a3⟩ := HS7.out.mb.cells4
              have ccz := HS7.out.cell kz (by have := HCL2.out; omega)
              rw [HU.out] at ccz
              have hCn := count_any h b n6 cs2 true p' c' si w7 HS7.out.tab kz (i64_nat (by omega))
              rw [HC2.out] at hCn
              have hBu := busy_any h b n6 cs2 true p' c' si w7 HS7.out.tab
              have g1 : (x == (0 : Int)) = true := by simp; omega
              go_wp2_with (first
                | (go_at_call 14; refine hCn.mono ?_; rintro e w8 ⟨rfl, rfl⟩)
                | (go_at_call 27; refine hBu.mono ?_; rintro e w8 ⟨rfl, rfl⟩))
              go_loopw [17, 18] (fun v17 v18 wz => ∃ k : Nat, k ≤ ns ∧ v18 = .int .i64 k ∧ v17 = .int .i64 ((cntS si kz k).length : Nat) ∧ ∃ m, wz = w8.drewN m) (fun _ v18 _ => ns - (intOf v18).toNat)
              case atStart => exact ⟨0, Nat.zero_le _, rfl, rfl, 0, rfl⟩
              case round =>
                obtain ⟨k, hkn, rfl, rfl, m, rfl⟩ := hrel
                by_cases hkl : k < ns
                · have hkS : k < si.length := by rw [HSL.out]; exact hkl
                  obtain ⟨bs, os, rfl, hcs⟩ := HR7.out (by rw [List.length_map]; omega)
                  obtain ⟨c0, c1, c2⟩ := cells3 hcs k (by rw [List.length_map]; exact hkS)
                  simp only [List.getElem_map, siV] at c0 c1 c2
                  clear hcs
                  by_cases hkey : si[k].key = (kz : Int)
                  · obtain ⟨hat1, hat2⟩ := cntS_at HBY.out hkS hkey
                    have hnl := cntS_le si kz k
                    have hsl20 : si.length ≤ 20 := by rw [HSL.out]; exact hns20
                    obtain ⟨bl, ol, rfl, hcl2⟩ := HL7.out (by rw [List.length_map]; omega)
                    obtain ⟨l0, l1, l2⟩ := cells3 hcl2 (cntS si kz k).length (by rw [List.length_map]; exact hat2)
                    have hel : (ofK si kz)[(cntS si kz k).length]'hat2 = si[k] := by
                      have := List.getElem?_eq_getElem hat2
                      rw [this] at hat1
                      injection hat1
                    simp only [List.getElem_map, hel, siV] at l0 l1 l2
                    have HCY := Hid.in (cntS_yes hkS hkey)
                    have HCN2 : Hid ((cntS si kz (k + 1)).length = (cntS si kz k).length + 1) := by show _ = _; rw [HCY.out]; simp
                    have f5 : decide (((ofK si kz).length : Int) ≤ ((cntS si kz k).length : Int)) = false := decide_eq_false (by omega)
                    clear hcl2 hat1 hel HCY
                    generalize (cntS si kz k).length = mn at *
                    generalize (ofK si kz).length = ln at *
                    generalize si[k] = s at *
                    obtain ⟨sk, sa, st⟩ := s
                    simp only at c0 c1 c2 l0 l1 l2 hkey
                    subst hkey
                    go_upto_region 28 with fail
                    go_quiet (fail)
                    go_upto_region 29 with fail
                    go_quiet (fail)
                    go_wp2_with fail
                    go_roundw
                    case rel => exact ⟨k + 1, by omega, by go_num, by rw [HCN2.out]; go_num, by first | (with_reducible exact ⟨_, drewN_two _ _ _⟩) | (with_reducible exact ⟨_, drewN_two3 _ _ _ _⟩) | (with_reducible exact ⟨_, rfl⟩)⟩
                    case measure => simp [intOf]; omega
                  · have HCN2 := Hid.in (congrArg List.length (cntS_no hkS hkey))
                    generalize (cntS si kz k).length = mn at *
                    generalize si[k] = s at *
                    obtain ⟨sk, sa, st⟩ := s
                    simp only at c0 c1 c2 hkey
                    have HKY := Hid.in hkey
                    clear hkey
                    go_upto_region 28 with fail
                    go_quiet (fail)
                    have hkb : (sk == (kz : Int)) = false := by simpa using HKY.out
                    go_wp2_with fail
                    go_roundw
                    case rel => exact ⟨k + 1, by omega, by go_num, by rw [HCN2.out], by first | (with_reducible exact ⟨_, drewN_two _ _ _⟩) | (with_reducible exact ⟨_, drewN_two3 _ _ _ _⟩) | (with_reducible exact ⟨_, rfl⟩)⟩
                    case measure => simp [intOf]; omega
                · obtain rfl : k = ns := by omega
                  have hall : (cntS si kz k).length = (ofK si kz).length := by rw [cntS_all HBY.out kz (by rw [HSL.out]; exact Nat.le_refl _)]
                  rw [hall]
                  have HS8 := Hid.in (HS7.out.below (below_draws (below_self w8) m))
                  have HO8 := Hid.in (HO7.out.grow (below_draws (below_self w8) m))
                  clear a0 a1 a2 a3 o0 o1 o2 o3' ccz hCn hBu
                  have hRt := return_any h b n6 cs2 true p' c' si _ HS8.out.tab
                  generalize (ofK si kz).length = ln at *
                  generalize w8.drewN m = wE at *
                  obtain ⟨a0, a1, a2, a3⟩ := HS8.out.mb.cells4
                  obtain ⟨o0, o1, o2, o3'⟩ := HO8.out.cells4
                  go_wp2_with (go_at_call 12; refine Hid.out ?_)
                  refine Lib.hid ?_
                  (with_reducible refine hRt.mono ?_)
                  rintro e w9 ⟨rfl, hT9, hK9⟩
                  have HS9 := Hid.in (HS8.out.call hK9 hT9)
                  clear hT9 hK9 hRt HS8
                  go_wp2_with fail
                  go_roundw
                  case rel => exact ⟨i + 1, n6, cs2, by omega, by omega, by go_num, HS9.out, HCL2.out, by omega, HCB2.out⟩
                  case measure => simp [intOf]; omega
          · as_aux_lemma =>
              have d1 : decide (x + 1 = 1) = false := decide_eq_false hT
              rw [d1] at HS7' HL7' ⊢
              have HS7 : Hid (SC w w7 M h b gC n6 cs2 cs2 false p' c' si qs #[.slice qb nb db, .slice qk kn dk, .slice qs ns ds, .slice qu nu du]) := HS7'.out
              have htl : (toldR si (kz : Int) ⟨cs2, false, false, 0⟩).length = 0 := rfl
              rw [htl]
              clear HS7' HL7'
              have HR7 := Hid.in HS7.out.sr
              obtain ⟨a0, a1, a2, a3⟩ := HS7.out.mb.cells4
              have ccz := HS7.out.cell kz (by have := HCL2.out; omega)
              rw [HU.out] at ccz
              have hCn := count_any h b n6 cs2 false p' c' si w7 HS7.out.tab kz (i64_nat (by omega))
              rw [HC2.out] at hCn
              have hBu := busy_any h b n6 cs2 false p' c' si w7 HS7.out.tab
              have g1 : (x == (0 : Int)) = false := by simp; omega
              have g2 : (x + 1 == (0 : Int)) = false := by simp; omega
              go_wp2_with (first
                | (go_at_call 14; refine hCn.mono ?_; rintro e w8 ⟨rfl, rfl⟩)
                | (go_at_call 27; refine hBu.mono ?_; rintro e w8 ⟨rfl, rfl⟩))
              go_loopw [17, 18] (fun v17 v18 wz => ∃ k : Nat, k ≤ ns ∧ v18 = .int .i64 k ∧ v17 = .int .i64 ((cntS si kz k).length : Nat) ∧ ∃ m, wz = w8.drewN m) (fun _ v18 _ => ns - (intOf v18).toNat)
              case atStart => exact ⟨0, Nat.zero_le _, rfl, rfl, 0, rfl⟩
              case round =>
                obtain ⟨k, hkn, rfl, rfl, m, rfl⟩ := hrel
                by_cases hkl : k < ns
                · have hkS : k < si.length := by rw [HSL.out]; exact hkl
                  obtain ⟨bs, os, rfl, hcs⟩ := HR7.out (by rw [List.length_map]; omega)
                  obtain ⟨c0, c1, c2⟩ := cells3 hcs k (by rw [List.length_map]; exact hkS)
                  simp only [List.getElem_map, siV] at c0 c1 c2
                  clear hcs
                  by_cases hkey : si[k].key = (kz : Int)
                  · have hnl := cntS_le si kz k
                    have hsl20 : si.length ≤ 20 := by rw [HSL.out]; exact hns20
                    have HCY := Hid.in (cntS_yes hkS hkey)
                    have HCN2 : Hid ((cntS si kz (k + 1)).length = (cntS si kz k).length + 1) := by show _ = _; rw [HCY.out]; simp
                    clear HCY
                    generalize (cntS si kz k).length = mn at *
                    generalize si[k] = s at *
                    obtain ⟨sk, sa, st⟩ := s
                    simp only at c0 c1 c2 hkey
                    subst hkey
                    go_upto_region 28 with fail
                    go_quiet (fail)
                    go_upto_region 29 with fail
                    go_quiet (fail)
                    go_wp2_with fail
                    go_roundw
                    case rel => exact ⟨k + 1, by omega, by go_num, by rw [HCN2.out]; go_num, by first | (with_reducible exact ⟨_, drewN_two _ _ _⟩) | (with_reducible exact ⟨_, drewN_two3 _ _ _ _⟩) | (with_reducible exact ⟨_, rfl⟩)⟩
                    case measure => simp [intOf]; omega
                  · have HCN2 := Hid.in (congrArg List.length (cntS_no hkS hkey))
                    generalize (cntS si kz k).length = mn at *
                    generalize si[k] = s at *
                    obtain ⟨sk, sa, st⟩ := s
                    simp only at c0 c1 c2 hkey
                    have HKY := Hid.in hkey
                    clear hkey
                    go_upto_region 28 with fail
                    go_quiet (fail)
                    have hkb : (sk == (kz : Int)) = false := by simpa using HKY.out
                    go_wp2_with fail
                    go_roundw
                    case rel => exact ⟨k + 1, by omega, by go_num, by rw [HCN2.out], by first | (with_reducible exact ⟨_, drewN_two _ _ _⟩) | (with_reducible exact ⟨_, drewN_two3 _ _ _ _⟩) | (with_reducible exact ⟨_, rfl⟩)⟩
                    case measure => simp [intOf]; omega
                · obtain rfl : k = ns := by omega
                  have hall : (cntS si kz k).length = (ofK si kz).length := by rw [cntS_all HBY.out kz (by rw [HSL.out]; exact Nat.le_refl _)]
                  rw [hall]
                  have HS8 := Hid.in (HS7.out.below (below_draws (below_self w8) m))
                  have HO8 := Hid.in (HO7.out.grow (below_draws (below_self w8) m))
                  clear a0 a1 a2 a3 o0 o1 o2 o3' ccz hCn hBu
                  generalize (ofK si kz).length = ln at *
                  generalize w8.drewN m = wE at *
                  obtain ⟨a0, a1, a2, a3⟩ := HS8.out.mb.cells4
                  obtain ⟨o0, o1, o2, o3'⟩ := HO8.out.cells4
                  go_wp2_with fail
                  go_roundw
                  case rel => exact ⟨i + 1, n6, cs2, by omega, by omega, by go_num, HS8.out, HCL2.out, by omega, HCB2.out⟩
                  case measure => simp [intOf]; omega
      · have er : r = ⟨cs, false, false, 311⟩ := by rw [← HRq.out]; unfold calL; rw [if_pos hk]
        subst er
        have hl0 : (toldR si z ⟨cs, false, false, 311⟩).length = 0 := rfl
        rw [hl0]
        have HS7 : Hid (SC w w6 M h b gC n6 cs cs false p' c' si qs #[.slice qb nb db, .slice qk kn dk, .slice qs ns ds, .slice qu nu du]) := HS6.out
        have c8 : ∀ W : World, True := fun _ => trivial
        by_cases hz0 : z < 0
        · have f1 : decide (z < 0) = true := decide_eq_true hz0
          go_wp2_with fail
          go_roundw
          case rel => exact ⟨i + 1, n6, cs, by omega, by omega, by go_num, HS7.out, hcl, by omega, fun k => by have := HCB.out k; omega⟩
          case measure => simp [intOf]; omega
        · have f1 : decide (z < 0) = false := decide_eq_false hz0
          have f2 : decide ((kn : Int) ≤ z) = true := decide_eq_true (by omega)
          go_wp2_with fail
          go_roundw
          case rel => exact ⟨i + 1, n6, cs, by omega, by omega, by go_num, HS7.out, hcl, by omega, fun k => by have := HCB.out k; omega⟩
          case measure => simp [intOf]; omega
    · have hBu := busy_any h b n' cs false p' c' si wr HS.out.tab
      have hd : (decide ((i : Int) < (O.length : Int)) && decide ((i : Int) < 300)) = false := by
        rcases (by omega : ¬ i < O.length ∨ ¬ i < 300) with h1 | h1
        · rw [decide_eq_false (by omega)]; rfl
        · rw [decide_eq_false (show ¬ (i : Int) < 300 by omega), Bool.and_false]
      by_cases h1 : i < O.length
      · have e1 : decide ((i : Int) < (O.length : Int)) = true := decide_eq_true (by omega)
        have e2 : decide ((i : Int) < 300) = false := decide_eq_false (by omega)
        go_wp2_with (first
          | (go_at_call 27; refine hBu.mono ?_; rintro e w6 ⟨rfl, rfl⟩)
          | (go_at_call 15; refine (awake_any _).mono ?_; rintro e w7 ⟨rfl, hb7⟩; have HB7 := Hid.in (below_step HS.out.bel hb7); clear hb7))
        go_ret
        exact ⟨rfl, HB7.out⟩
      · have e1 : decide ((i : Int) < (O.length : Int)) = false := decide_eq_false (by omega)
        go_wp2_with (first
          | (go_at_call 27; refine hBu.mono ?_; rintro e w6 ⟨rfl, rfl⟩)
          | (go_at_call 15; refine (awake_any _).mono ?_; rintro e w7 ⟨rfl, hb7⟩; have HB7 := Hid.in (below_step HS.out.bel hb7); clear hb7))
        go_ret
        exact ⟨rfl, HB7.out⟩
end Go.Proofs.Ytkpieeldoielgaa

namespace Go.Proofs.Ytkpieeldoielgaa
open Go.ChangeShapes Go.WideShapes Go.ChangeAt Go.RowKit
open Go.ChangeMaps (open_string shut_string)

set_option maxRecDepth 100000 in
theorem keysCounts_lifted (os : Os) (started : os.Started) (H : Type) (enc : TypeId × Value → H) :
    ReturnsInHanded {} Try.checked os 6 .any (Rows.keysCountsSpec.pre6 enc Try.prog Try.f6 Rows.keysCountsRow.domain false) (Rows.keysCountsSpec.post enc Try.prog Try.f6 false true false false) := by
  refine returnsInHanded_of_change_sized (C := Try.checked) Try.own started (by kernel_rfl) Try.func6
    (ChangeSpec.witness6 (enc := enc) (C := Try.checked) false ⟨#[], #[.slice none 0 0, .slice none 0 0], []⟩ 8 (by kernel_rfl) (by kernel_rfl) (by kernel_rfl) (by kernel_rfl)) ?_
  intro W base args ds gs before hval0 hW hcnd hsz0 _
  have hW' := hW
  obtain ⟨p, q, hA0, hV, rfl, hfz, hnd⟩ := hW
  have hA : DataW.TrodAll enc Try.prog W 0 (fun _ => true) true Try.f6.params.toList args.toList ds p := hA0
  have hval : ∀ (j : Nat) t v, Try.f6.params[j]? = some t → args[j]? = some v → Value.okWide Try.prog W .any base t v := hval0
  have hsz : (DataW.weightsEach Try.prog (Try.f6.params.toList ++ Rows.keysCountsSpec.plain.varTypes Try.prog) (ds ++ gs)).all (· ≤ reachBytes) = true := hsz0
  rw [Try.params6] at hA hval hsz
  obtain ⟨v0, vs0, d0, ds0, p0, q0_, hargs, rfl, rfl, h0, r0⟩ := trodAll_cons hA
  obtain ⟨v1, vs1, d1, ds1, p1, q1_, rfl, rfl, rfl, h1, r1⟩ := trodAll_cons r0
  obtain ⟨rfl, rfl, rfl⟩ := trodAll_nil r1
  obtain rfl : args = #[v0, v1] := by cases args; simp_all
  obtain ⟨rfl, rfl⟩ := trodVars_none hV
  have k0 := h0
  have lt0 : ∀ x ∈ p0, x.block < W.heap.size := by obtain ⟨m, hm⟩ := k0; exact DataW.trod_lt m _ _ _ hm
  obtain ⟨q0, n0, e0, zs0, rfl, hl0, hn0, he0, hr0⟩ := open_ints_val (hval 0 29 v0 rfl rfl) h0 hsz (j := 0) rfl rfl
  have k1 := h1
  have lt1 : ∀ x ∈ p1, x.block < W.heap.size := by obtain ⟨m, hm⟩ := k1; exact DataW.trod_lt m _ _ _ hm
  obtain ⟨q1, e1, L1, rfl, hL1, hs1⟩ := open_script_val (hval 1 43 v1 rfl rfl) h1 hsz (j := 1) rfl rfl
  refine (counts_walk q0 n0 e0 zs0 q1 e1 L1 W hl0 hn0 he0 hr0 hL1 hs1).mono fun e W' ⟨he, bel⟩ => ?_
  subst he
  exact ⟨_, rfl, _, _, _, [], _, [], hW', trodAll_mk1 (shut_bool Try.underlying4 _), (trodAll_cons_mk (Below.trod Try.laidOut (by kernel_rfl) (of_decide_eq_true (by kernel_rfl)) k0 bel lt0) (trodAll_cons_mk (Below.trod Try.laidOut (by kernel_rfl) (of_decide_eq_true (by kernel_rfl)) k1 bel lt1) trodAll_mk0)), rfl, bel.frame _, fun h => by cases h⟩

theorem keysCounts_holds : Rows.KeysCountsSaid :=
  OpenClaim.holds_of_wide 6 Try.f6 rfl rfl rfl rfl rfl rfl rfl ⟨rfl, rfl, rfl, rfl, rfl⟩ rfl rfl rfl rfl rfl (by kernel_rfl) Try.func6 (by kernel_rfl)
    (of_decide_eq_true (by kernel_rfl)) (by unfold Func.isWrapper; first | (rw [if_pos (by decide +kernel)]; kernel_rfl) | (rw [if_neg (by decide +kernel)]; exact ⟨rfl, rfl⟩))
    (fun os started H enc _ => keysCounts_lifted os started H enc)
#print axioms keysCounts_holds

end Go.Proofs.Ytkpieeldoielgaa
