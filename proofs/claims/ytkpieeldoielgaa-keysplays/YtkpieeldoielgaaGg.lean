/- Texts put together: BsyW, CntL, RfK, RfL, RfM, LokK. -/
import Derived.Test.YtkpieeldoielgaaGf

/- Ours: KeysBusy answers true. -/
namespace Go.Proofs.Ytkpieeldoielgaa
open Go.RowKit

theorem i64_nat {k : Nat} (h : k ≤ 1048576) : i64P (k : Int) := by unfold i64P; omega
/-- the calls of KeysBusy, on counts -/
theorem bsy_up (n k : Nat) (hk : k < n) : calL (zerosC n) false k true = ⟨(zerosC n).set k 1, true, true, 0⟩ := by
  unfold calL
  rw [if_neg (by rw [zerosC_len]; omega), if_neg (by decide), if_pos rfl, Int.toNat_natCast, zerosC_at, if_neg (by decide)]
  rfl
theorem bsy_busy (n k : Nat) (cs : List Int) (hl : cs.length = n) (up : Bool) (hk : k < n) : calL cs true k up = ⟨cs, true, false, 310⟩ := by
  unfold calL
  rw [if_neg (by rw [hl]; omega), if_pos rfl]
theorem bsy_none (n : Nat) (cs : List Int) (hl : cs.length = n) (op up : Bool) : calL cs op n up = ⟨cs, op, false, 311⟩ := by
  unfold calL
  rw [if_pos (by rw [hl]; omega)]
theorem bsy_down (n k : Nat) (hk : k < n) : calL ((zerosC n).set k 1) false k false = ⟨((zerosC n).set k 1).set k 0, true, true, 0⟩ := by
  have e : ((zerosC n).set k 1).getD k 0 = 1 := by simp [List.getD, zerosC_len, hk]
  unfold calL
  rw [if_neg (by rw [List.length_set, zerosC_len]; omega), if_neg (by decide), if_neg (by decide), Int.toNat_natCast, e, if_neg (by decide)]
  rfl
set_option maxRecDepth 20000 in
set_option maxHeartbeats 16000000 in
theorem busy_walk (p : Option Addr) (n c : Nat) (L : List Int) (key other : Int) (up : Bool) (w : World) (hL : L.length = n) (hn : n ≤ 140737488355328) (hnc : n ≤ c) (hr : GRow w p (numZ L)) :
    Calls Try.prog 7 #[.slice p n c, .int .i64 key, .int .i64 other, .bool up] w fun e w' => e = .returned (.bool true) ∧ Below w.heap.size w w' := by
  have hIm := image_sl p n c L w hL hn hnc hr
  clear hL hn hnc hr
  go_enter Try.func7, Try.ntmps7
  go_wp2_with (go_at_call 16; refine Hid.out ?_)
  refine Lib.hid ?_
  (with_reducible refine hIm.mono ?_)
  rintro e w1 ⟨l, qb, qk, qs, qu, nb, db, dk, ns, ds, nu, du, hl, rfl, hI, -, hb1⟩
  have h20 : l.length ≤ 20 := by rw [hl, List.length_take]; omega
  clear hl hIm
  have HB1 := Hid.in hb1
  have HV0 := Hid.in (Blk.new w1 31 #[.slice qb nb db, .slice qk (imN l) dk, .slice qs ns ds, .slice qu nu du])
  have HN0 := Hid.in (new_alloc w1 (.cells #[.slice qb nb db, .slice qk (imN l) dk, .slice qs ns ds, .slice qu nu du] 31))
  obtain ⟨z0, z1, z2, z3⟩ := HV0.out.cells4
  have hT1 := tnew_im l h20 _ _ _ _ _ _ (hI.below HN0.out)
  clear hI hb1
  go_wp2_with (go_at_call 9; refine Hid.out ?_)
  refine Lib.hid ?_
  generalize w1.alloc (.cells #[.slice qb nb db, .slice qk (imN l) dk, .slice qs ns ds, .slice qu nu du] 31) = w2 at *
  (with_reducible refine hT1.mono ?_)
  rintro e w3 ⟨h, b, p', c', rfl, hT, hb3, hh, hb, -⟩
  have HB3 := Hid.in (below_step (below_step HB1.out HN0.out) hb3)
  have HV3 := Hid.in (HV0.out.grow hb3)
  have HS := Hid.in imM_some
  have HT3 := Hid.in hT
  have HG : Hid (∀ j, G2 h b j → w.heap.size ≤ j ∧ w2.heap.size ≤ j) := fun j hj => by
    have := HB1.out.size
    have := HN0.out.size
    rcases hj with rfl | rfl <;> omega
  have HLV := Hid.in HV0.out.lt
  have hN20 : imN l ≤ 20 := Nat.le_trans (imN_le l) h20
  have HOF := Hid.in (fun (k : Nat) (hk : k < imN l) => imM_some l h20 k hk)
  clear hT1 hT hb3 z0 z1 z2 z3 HV0 HN0 HB1 hh hb HS
  obtain ⟨z0, z1, z2, z3⟩ := HV3.out.cells4
  generalize (imM l).si = si at *
  generalize imN l = kn at *
  by_cases h0 : kn = 0
  · subst h0
    go_wp2_with (go_at_call 15; refine (awake_any _).mono ?_; rintro e w5 ⟨rfl, hb5⟩; have HB5 := Hid.in (below_step HB3.out hb5); clear hb5)
    go_ret
    exact ⟨rfl, HB5.out⟩
  · have hk0 : ((kn : Int) == 0) = false := by simp; omega
    have hP1 := fun W => pick_any key kn (by omega) (by omega) W
    have hP2 := fun W => pick_any other kn (by omega) (by omega) W
    have hp1 := pickZ_lt key kn (by omega)
    have hp2 := pickZ_lt other kn (by omega)
    generalize pickZ key kn = k1 at *
    generalize pickZ other kn = k2 at *
    go_upto_region 7 with fail
    go_quiet ((go_at_call 28; first | (with_reducible exact Calls.quiet_of_same (hP1 _)) | (with_reducible exact Calls.quiet_of_same (hP2 _))))
    clear hP1 hP2 z0 z1 z2 z3
    have HT4 := Hid.in (HT3.out.drewN nq)
    have HV4 : Hid (Blk (w3.drewN nq) w1.heap.size 31 #[.slice qb nb db, .slice qk kn dk, .slice qs ns ds, .slice qu nu du]) := HV3.out
    have HB4 := Hid.in (below_draws HB3.out nq)
    clear HT3 HV3 HB3
    generalize w3.drewN nq = w4 at *
    have hC4 := call_sl h b kn (zerosC kn) p' c' si w4 false HT4.out k1 (i64_nat (by omega)) true (by omega) _ (bsy_up kn k1 hp1) _ rfl
    have HLn : Hid (((zerosC kn).set k1 1).length = kn) := by show _ = _; rw [List.length_set, zerosC_len]
    have HDn := Hid.in (bsy_down kn k1 hp1)
    generalize (zerosC kn).set k1 1 = cs1 at *
    go_wp2_with (go_at_call 11; refine Hid.out ?_)
    refine Lib.hid ?_
    (with_reducible refine hC4.mono ?_)
    rintro e w5 ⟨q5, cq5, n5, rfl, -, hT5, hn5, hK5⟩
    have HB5 : Hid (Below w.heap.size w w5) := HB4.out.trans (hK5.below HB4.out.size (fun j hj => (HG.out j hj).1))
    have HV5 : Hid (Blk w5 w1.heap.size 31 #[.slice qb nb db, .slice qk kn dk, .slice qs ns ds, .slice qu nu du]) := (hK5.block w1.heap.size HV4.out.lt (fun hj => by have := (HG.out _ hj).2; have := HLV.out; omega)).trans HV4.out
    have HT5 := Hid.in hT5
    clear hT5 hK5 hC4 HT4 HV4 HB4
    have hC5 := count_any h b n5 cs1 true p' c' si w5 HT5.out k2 (i64_nat (by omega))
    obtain ⟨ct, hct⟩ : ∃ ct, cntL cs1 k2 = ct := ⟨_, rfl⟩
    rw [hct] at hC5
    have HCT := Hid.in hct
    clear hct
    go_wp2_with (go_at_call 14; refine Hid.out ?_)
    refine Lib.hid ?_
    (with_reducible refine hC5.mono ?_)
    rintro e w6 ⟨rfl, rfl⟩
    have hC6 := call_sl h b n5 cs1 p' c' si w6 true HT5.out k2 (i64_nat (by omega)) up (by omega) _ (bsy_busy kn k2 cs1 HLn.out up hp2) [] rfl
    go_wp2_with (go_at_call 11; refine Hid.out ?_)
    refine Lib.hid ?_
    (with_reducible refine hC6.mono ?_)
    rintro e w7 ⟨q7, cq7, n7, rfl, -, hT7, hn7, hK7⟩
    have HB7 : Hid (Below w.heap.size w w7) := HB5.out.trans (hK7.below HB5.out.size (fun j hj => (HG.out j hj).1))
    have HV7 : Hid (Blk w7 w1.heap.size 31 #[.slice qb nb db, .slice qk kn dk, .slice qs ns ds, .slice qu nu du]) := (hK7.block w1.heap.size HV5.out.lt (fun hj => by have := (HG.out _ hj).2; have := HLV.out; omega)).trans HV5.out
    have HT7 := Hid.in hT7
    clear hT7 hK7 hC6 hC5 HT5 HV5 HB5
    obtain ⟨z0, z1, z2, z3⟩ := HV7.out.cells4
    have hC7 := count_any h b n7 cs1 true p' c' si w7 HT7.out k2 (i64_nat (by omega))
    rw [HCT.out] at hC7
    go_wp2_with (go_at_call 14; refine Hid.out ?_)
    refine Lib.hid ?_
    (with_reducible refine hC7.mono ?_)
    rintro e w8 ⟨rfl, rfl⟩
    have hC8 := call_sl h b n7 cs1 p' c' si w8 true HT7.out kn (i64_nat (by omega)) up (by omega) _ (bsy_none kn cs1 HLn.out true up) [] rfl
    go_wp2_with (go_at_call 11; refine Hid.out ?_)
    refine Lib.hid ?_
    (with_reducible refine hC8.mono ?_)
    rintro e w9 ⟨q9, cq9, n9, rfl, -, hT9, hn9, hK9⟩
    have HB9 : Hid (Below w.heap.size w w9) := HB7.out.trans (hK9.below HB7.out.size (fun j hj => (HG.out j hj).1))
    have HT9 := Hid.in hT9
    clear hT9 hK9 hC7 hC8 HT7 HV7 HB7 z0 z1 z2 z3
    have hBu := busy_any h b n9 cs1 true p' c' si w9 HT9.out
    go_wp2_with (go_at_call 27; refine hBu.mono ?_; rintro e w10 ⟨rfl, rfl⟩)
    have hR1 := return_any h b n9 cs1 true p' c' si w10 HT9.out
    go_wp2_with (go_at_call 12; refine Hid.out ?_)
    refine Lib.hid ?_
    (with_reducible refine hR1.mono ?_)
    rintro e w11 ⟨rfl, hT11, hK11⟩
    have HB11 : Hid (Below w.heap.size w w11) := HB9.out.trans (hK11.below HB9.out.size (fun j hj => (HG.out j hj).1))
    have HT11 := Hid.in hT11
    clear hT11 hK11 hR1 HT9 HB9 hBu
    have hR2 := return_any h b n9 cs1 false p' c' si w11 HT11.out
    go_wp2_with (go_at_call 12; refine Hid.out ?_)
    refine Lib.hid ?_
    (with_reducible refine hR2.mono ?_)
    rintro e w12 ⟨rfl, hT12, hK12⟩
    have HB12 : Hid (Below w.heap.size w w12) := HB11.out.trans (hK12.below HB11.out.size (fun j hj => (HG.out j hj).1))
    have HT12 := Hid.in hT12
    clear hT12 hK12 hR2 HT11 HB11
    have hC12 := call_sl h b n9 cs1 p' c' si w12 false HT12.out k1 (i64_nat (by omega)) false (by omega) _ HDn.out _ rfl
    have hof : 0 < (toldR si k1 ⟨cs1.set k1 0, true, true, 0⟩).length := HOF.out k1 hp1
    generalize (toldR si k1 ⟨cs1.set k1 0, true, true, 0⟩) = tl at *
    generalize hcs2 : cs1.set k1 0 = cs2 at *
    clear hcs2
    go_wp2_with (go_at_call 11; refine Hid.out ?_)
    refine Lib.hid ?_
    (with_reducible refine hC12.mono ?_)
    rintro e w13 ⟨q13, cq13, n13, rfl, -, -, -, hK13⟩
    have HB13 : Hid (Below w.heap.size w w13) := HB12.out.trans (hK13.below HB12.out.size (fun j hj => (HG.out j hj).1))
    have hd : decide ((0 : Int) < (tl.length : Int)) = true := decide_eq_true (by omega)
    clear hK13 hC12 HT12 HB12
    go_wp2_with (go_at_call 15; refine (awake_any _).mono ?_; rintro e w14 ⟨rfl, hb14⟩; have HB14 := Hid.in (below_step HB13.out hb14); clear hb14)
    go_ret
    exact ⟨rfl, HB14.out⟩
end Go.Proofs.Ytkpieeldoielgaa

/- Ours: KeysCounts' memory: an image, its table, and the counts beside it. -/
namespace Go.Proofs.Ytkpieeldoielgaa
open Go.RowKit

theorem Try.info3' : (Try.prog.info? 3).map (fun i => (i.zero, i.size, i.bytes)) = some (some (.int .i64 0), 1, 8) := by kernel_rfl
theorem wp_makeI {ops : Array Oper} {rest : List Oper} {o : Oper} {a : Act} {w : World} {Q : Exit → Act → World → Prop} (hg : o.guard = none) (s1 s2 : Operand) (ho : o.op = .makeSlice 29 s1 s2) (n : Nat) (h1 : a.eval s1 = .int .i64 n) (h2 : a.eval s2 = .int .i64 n) (hn : n ≤ 1048576)
    (h : ∀ w1, Hid (Blk w1 w.heap.size 3 (numZ (zerosC n)).toArray) → Hid (Below w.heap.size w w1) → wpList Try.prog ops Q rest (a.put o.dst (.slice (some ⟨w.heap.size, 0, none⟩) n n)) w1) : wpList Try.prog ops Q (o :: rest) a w := by
  obtain ⟨i0, hi, hz0, hz1, hz2⟩ := info_parts Try.info3'
  refine wpList_make_full _ hg s1 s2 29 ho _ 3 i0 (.int .i64 0) 1 Try.underlying29 hi hz0 hz1 _ _ _ _ n h1 h2 rfl rfl (by rw [hz2]; omega) (by unfold maxLen; omega) (Nat.le_refl _) ?_
  intro w1 hown hgrow
  refine h w1 ?_ ((Below.refl w.heap.size w).grown hgrow (Nat.le_refl _) (by simp))
  rw [show (Value.int .i64 0).cells = #[Value.int .i64 0] from rfl, toList_madeCells_one] at hown
  rcases hown.2 with ⟨e1, _⟩ | ⟨g, cap, cur, e1, e2, e3, e4, e5, e6, e7⟩
  · exact absurd e1 (fun e => slice_no e)
  · obtain ⟨e1, e1'⟩ := slice_inj e1
    subst e1 e1'
    show Blk _ _ _ _
    unfold Blk
    rw [e3]
    have e : cur = (numZ (zerosC n)).toArray := by
      apply Array.toList_inj.1
      rw [← List.take_of_length_le (l := cur.toList) (i := n * 1) (by rw [Array.length_toList]; omega), e7]
      simp [numZ, zerosC]
    rw [e]
/-- where KeysCounts stands -/
structure SC (w0 w : World) (M h b gC n : Nat) (cs ds : List Int) (op : Bool) (p' : Option Addr) (c' : Nat) (si : List Si) (qs : Option Addr) (A : Array Value) : Prop where
  mb : Blk w M 31 A
  sr : Row3 w qs (si.map siV)
  tab : TabAt w h b n cs op p' c' si
  cnt : Blk w gC 3 (numZ ds).toArray
  bel : Below w0.heap.size w0 w
  hM : M ≠ h ∧ M ≠ b ∧ M ≠ gC
  hC : gC ≠ h ∧ gC ≠ b
  hq : ∀ a, qs = some a → a.block ≠ h ∧ a.block ≠ b ∧ a.block ≠ gC
  hp : ∀ a, p' = some a → a.block ≠ gC
  lo : w0.heap.size ≤ h ∧ w0.heap.size ≤ b ∧ w0.heap.size ≤ gC
section
variable {w0 w w' : World} {M h b gC n n' : Nat} {cs cs' ds : List Int} {op op' : Bool} {p' : Option Addr} {c' : Nat} {si : List Si} {qs : Option Addr} {A : Array Value}
theorem SC.below (H : SC w0 w M h b gC n cs ds op p' c' si qs A) (hb : Below w.heap.size w w') : SC w0 w' M h b gC n cs ds op p' c' si qs A :=
  { H with mb := H.mb.grow hb, sr := H.sr.below hb, tab := H.tab.below hb, cnt := H.cnt.grow hb, bel := below_step H.bel hb }
theorem SC.call (H : SC w0 w M h b gC n cs ds op p' c' si qs A) (hK : Keeps (G2 h b) w w') (hT : TabAt w' h b n' cs' op' p' c' si) : SC w0 w' M h b gC n' cs' ds op' p' c' si qs A :=
  { H with
    mb := (hK.block M H.mb.lt (fun e => by rcases e with e | e; exact H.hM.1 e; exact H.hM.2.1 e)).trans H.mb
    sr := H.sr.keeps hK (fun a e hj => by rcases hj with hj | hj; exact (H.hq a e).1 hj; exact (H.hq a e).2.1 hj)
    tab := hT
    cnt := (hK.block gC H.cnt.lt (fun e => by rcases e with e | e; exact H.hC.1 e; exact H.hC.2 e)).trans H.cnt
    bel := H.bel.trans (hK.below H.bel.size (fun j hj => by rcases hj with rfl | rfl; exact H.lo.1; exact H.lo.2.1)) }
theorem SC.setc (H : SC w0 w M h b gC n cs ds op p' c' si qs A) (k : Nat) (u : Int) : SC w0 (w.setCell ⟨gC, k, none⟩ (.int .i64 u)) M h b gC n cs (ds.set k u) op p' c' si qs A :=
  have hk : Keeps (fun j => j = gC) w (w.setCell ⟨gC, k, none⟩ (.int .i64 u)) := keeps_set w gC k _ rfl
  { H with
    mb := H.mb.other H.hM.2.2 k _
    sr := H.sr.keeps hk (fun a e => (H.hq a e).2.2)
    tab := H.tab.keeps hk (fun e => H.hC.1 e.symm) (fun e => H.hC.2 e.symm) H.hp
    cnt := by
      have := H.cnt.set k (.int .i64 u)
      have e : (numZ (ds.set k u)).toArray = (numZ ds).toArray.setIfInBounds k (.int .i64 u) := by simp [numZ, List.map_set]
      rw [e]; exact this
    bel := H.bel.trans (hk.below H.bel.size (fun j hj => by have e : j = gC := hj; rw [e]; exact H.lo.2.2)) }
theorem SC.cell (H : SC w0 w M h b gC n cs ds op p' c' si qs A) (k : Nat) (hk : k < ds.length) : w.cell? ⟨gC, k, none⟩ = some (.int .i64 (ds.getD k 0)) := by
  rw [H.cnt.cell, List.getElem?_toArray, numZ_at _ _ hk]
end
/-- of the first k sites those of a key -/
def cntS (si : List Si) (z : Int) (k : Nat) : List Si := (si.take k).filter fun s => decide (s.key = z)
theorem cntS_yes {si : List Si} {z : Int} {k : Nat} (hk : k < si.length) (h : si[k].key = z) : cntS si z (k + 1) = cntS si z k ++ [si[k]] := by
  unfold cntS
  rw [List.take_succ_eq_append_getElem hk, List.filter_append]
  simp [h]
theorem cntS_no {si : List Si} {z : Int} {k : Nat} (hk : k < si.length) (h : ¬ si[k].key = z) : cntS si z (k + 1) = cntS si z k := by
  unfold cntS
  rw [List.take_succ_eq_append_getElem hk, List.filter_append]
  simp [h]
theorem cntS_all {si : List Si} (hs : byKey si) (z : Int) {k : Nat} (hk : si.length ≤ k) : cntS si z k = ofK si z := by
  unfold cntS
  rw [List.take_of_length_le hk, ofK_filter hs]
/-- where the next one stands -/
theorem cntS_at {si : List Si} (hs : byKey si) {z : Int} {k : Nat} (hk : k < si.length) (h : si[k].key = z) : (ofK si z)[(cntS si z k).length]? = some si[k] ∧ (cntS si z k).length < (ofK si z).length := by
  have e : ofK si z = cntS si z (k + 1) ++ (si.drop (k + 1)).filter (fun s => decide (s.key = z)) := by
    rw [ofK_filter hs, cntS, ← List.filter_append, List.take_append_drop]
  rw [e, cntS_yes hk h]
  refine ⟨?_, by simp⟩
  rw [List.append_assoc, List.getElem?_append_right (Nat.le_refl _), Nat.sub_self]
  rfl
theorem cntS_le (si : List Si) (z : Int) (k : Nat) : (cntS si z k).length ≤ si.length := by
  unfold cntS
  exact Nat.le_trans (List.length_filter_le _ _) (by rw [List.length_take]; omega)
end Go.Proofs.Ytkpieeldoielgaa

/- Ours: the reference's tables (switchyardref21): Count, Return, Sites. -/
namespace Go.Proofs.Ytkpieeldoielgaa
open Go.RowKit

/-- the reference's table as a value: its counts in a list, whoever made it -/
abbrev rtA (q : Option Addr) (n c : Nat) (op : Bool) : Array Value := #[.slice q n c, .bool op]
theorem Blk.cells2 {W : World} {b : Nat} {T : TypeId} {x0 x1 : Value} (h : Blk W b T #[x0, x1]) : W.cell? ⟨b, 0, none⟩ = some x0 ∧ W.cell? ⟨b, 1, none⟩ = some x1 := ⟨h.cell 0, h.cell 1⟩
set_option maxHeartbeats 1600000 in
theorem rcount_any (q : Option Addr) (c : Nat) (cs : List Int) (op : Bool) (z : Int) (w : World) (hl : cs.length ≤ 1048576) (hr : GRow w q (numZ cs)) :
    Calls Try.prog 45 #[.agg (rtA q cs.length c op), .int .i64 z] w fun e w' => e = .returned (.tuple #[.int .i64 (cntL cs z).1, .int .i64 (cntL cs z).2]) ∧ Below w.heap.size w w' := by
  have HA := Hid.in (Blk.new w 49 (rtA q cs.length c op))
  have HN := Hid.in (new_alloc w (.cells (rtA q cs.length c op) 49))
  obtain ⟨a0, a1⟩ := HA.out.cells2
  have HR := Hid.in (hr.below HN.out)
  clear hr
  by_cases hk : 0 ≤ z ∧ z < cs.length
  · obtain ⟨k, rfl⟩ : ∃ k : Nat, z = k := ⟨z.toNat, by omega⟩
    have e2 : cntL cs (k : Int) = (cs.getD k 0, 0) := by unfold cntL; rw [if_pos hk, Int.toNat_natCast]
    rw [e2]
    obtain ⟨b, o, rfl, hc⟩ := HR.out.num (by omega)
    have c1 := hc k (by omega)
    have f1 : decide ((k : Int) < 0) = false := decide_eq_false (by omega)
    have f2 : decide ((cs.length : Int) ≤ (k : Int)) = false := decide_eq_false (by omega)
    have h1 : (k : Int) < (cs.length : Int) := by omega
    clear hc e2
    generalize cs.getD k 0 = y at *
    go_enter Try.func45, Try.ntmps45
    go_wp2_with fail
    go_ret2
    exact ⟨rfl, HN.out⟩
  · have e2 : cntL cs z = (0, 311) := if_neg hk
    rw [e2]
    by_cases h0 : z < 0
    · have f1 : decide (z < 0) = true := decide_eq_true h0
      go_enter Try.func45, Try.ntmps45
      go_wp2_with fail
      go_ret2
      exact ⟨rfl, HN.out⟩
    · have f1 : decide (z < 0) = false := decide_eq_false h0
      have f2 : decide ((cs.length : Int) ≤ z) = true := decide_eq_true (by omega)
      go_enter Try.func45, Try.ntmps45
      go_wp2_with fail
      go_ret2
      exact ⟨rfl, HN.out⟩
set_option maxHeartbeats 3200000 in
theorem rsites_any (p : Option Addr) (n c : Nat) (z : Int) (si : List Si) (w : World) (hn : si.length = n) (hn6 : n ≤ 1048576) (hr : Row3 w p (si.map siV)) :
    Calls Try.prog 21 #[.slice p n c, .int .i64 z] w fun e w' => ∃ v, e = .returned v ∧ TOwn 41 w' w.heap.size v ((cntS si z n).map siV) ∧ Below w.heap.size w w' := by
  have HL := Hid.in hn
  have H1 := Hid.in hr
  clear hn hr
  go_enter Try.func21, Try.ntmps21
  go_wp2_with fail
  go_loopw [5, 6] (fun v vi wr => ∃ k : Nat, vi = .int .i64 k ∧ k ≤ n ∧ TOwn 41 wr w.heap.size v ((cntS si z k).map siV) ∧ Below w.heap.size w wr) (fun _ vi _ => n - (intOf vi).toNat)
  case atStart => exact ⟨0, rfl, Nat.zero_le _, TOwn.nil _ _ _, below_self _⟩
  case round =>
    obtain ⟨k, rfl, hk, hT, hb⟩ := hrel
    have HT := Hid.in hT
    have HB := Hid.in hb
    obtain ⟨pv, cv, hv, -, -, -⟩ := hT.shape
    rw [List.length_map] at hv
    subst hv
    have hcl := cntS_le si z k
    clear hT hb
    by_cases hlt : k < n
    · have hk1 : k < si.length := by rw [HL.out]; exact hlt
      obtain ⟨b, o, rfl, hc⟩ := (H1.out.below HB.out) (by rw [List.length_map]; omega)
      obtain ⟨c0, c1, c2⟩ := cells3 hc k (by rw [List.length_map]; exact hk1)
      simp only [List.getElem_map, siV] at c0 c1 c2
      have HY := Hid.in (fun h => cntS_yes (z := z) hk1 h)
      have HN := Hid.in (fun h => cntS_no (z := z) hk1 h)
      have hl1 : ((cntS si z k).map siV).length ≤ 1048576 := by rw [List.length_map]; have := HL.out; omega
      have HLq : Hid ((cntS si z k).length = ((cntS si z k).map siV).length) := by show _ = _; rw [List.length_map]
      clear hc
      generalize si[k] = s at *
      obtain ⟨sk, sa, st⟩ := s
      simp only at c0 c1 c2
      by_cases hkey : sk = z
      · subst hkey
        have HE : Hid ((cntS si sk (k + 1)).map siV = (cntS si sk k).map siV ++ [siV ⟨sk, sa, st⟩]) := by show _ = _; rw [HY.out rfl, List.map_append]; rfl
        have HN0 := Hid.in (HT.out.alloc (.cells #[.int .i64 sk, .int .i64 sa, .int .i64 st] 41))
        have HNB := Hid.in (below_alloc HB.out (.cells #[.int .i64 sk, .int .i64 sa, .int .i64 st] 41))
        have hsz : w.heap.size ≤ (wr.alloc (.cells #[.int .i64 sk, .int .i64 sa, .int .i64 st] 41)).heap.size := HNB.out.size
        rw [HLq.out]
        rw [HLq.out] at HN0
        clear HY HN hcl HLq
        generalize (cntS si sk k).map siV = LQ at *
        go_wp2_with (at_builtin; refine tpush Try.elemSite _ rfl _ _ rfl w.heap.size _ LQ rfl HN0.out ⟨wr.heap.size, 0, none⟩ 1 (siV ⟨sk, sa, st⟩) ⟨rfl, rfl, rfl⟩ rfl (news3 wr (siV ⟨sk, sa, st⟩) 41) hl1 (by decide) hsz ?_; intro v9 w9 ho9 hg9 hb9; have HO9 := Hid.in ho9; have HB9 := Hid.in (hb9 w HNB.out); clear ho9 hg9 hb9; refine Hid.out ?_)
        refine Lib.hid ?_
        go_wp2_with fail
        go_roundw
        case rel => exact ⟨k + 1, by go_num, by omega, by rw [HE.out]; exact HO9.out, HB9.out⟩
        case measure => simp [intOf]; omega
      · have hkb : (sk == z) = false := by simpa using hkey
        go_wp2_with fail
        go_roundw
        case rel => exact ⟨k + 1, by go_num, by omega, by rw [HN.out hkey]; exact HT.out, HB.out⟩
        case measure => simp [intOf]; omega
    · obtain rfl : k = n := by omega
      go_wp2_with fail
      go_ret
      exact ⟨_, rfl, HT.out, HB.out⟩
end Go.Proofs.Ytkpieeldoielgaa

/- Ours: the reference's tables (switchyardref21): New, Return. -/
namespace Go.Proofs.Ytkpieeldoielgaa
open Go.RowKit

theorem Try.sz49 : (Try.prog.info? 49).map (·.size) = some 2 := by kernel_rfl
theorem load_rt {W : World} {R : Nat} {v0 v1 : Value} (h : Blk W R 49 #[v0, v1]) : (loadVar 49 ⟨R, 0, none⟩).run Try.prog W = .ok (.agg #[v0, v1]) W :=
  run_loadVar_mid W R 0 49 [v0, v1] _ h.range Try.underlying49 rfl Try.sz49
theorem st2_blk {W : World} {g : Nat} {x0 x1 : Value} (h : Blk W g 49 #[x0, x1]) (v0 v1 : Value) : Blk ((W.setCell ⟨g, 0, none⟩ v0).setCell ⟨g, 1, none⟩ v1) g 49 #[v0, v1] := by
  have := (h.set 0 v0).set 1 v1
  simpa using this
theorem below2 {w W : World} {B R : Nat} (h : Below B w W) (hR : B ≤ R) (v0 v1 : Value) : Below B w ((W.setCell ⟨R, 0, none⟩ v0).setCell ⟨R, 1, none⟩ v1) := (h.setCell hR v0).setCell hR v1
set_option maxHeartbeats 1600000 in
theorem rret_any (q : Option Addr) (n c : Nat) (op : Bool) (w : World) :
    Calls Try.prog 23 #[.agg (rtA q n c op)] w fun e w' => e = .returned (.tuple #[.agg (rtA q n c false), .int .i64 (if op = true then 0 else 2)]) ∧ Below w.heap.size w w' := by
  have b1 := (Blk.new w 49 (rtA q n c op)).grow (new_alloc _ (.cells #[.slice none 0 0, .bool false] 49))
  have b2 := Blk.new (w.alloc (.cells (rtA q n c op) 49)) 49 #[.slice none 0 0, .bool false]
  rw [size_one] at b2
  have HA := Hid.in b1
  have HB := Hid.in b2
  have HN := Hid.in (below_alloc (new_alloc w (.cells (rtA q n c op) 49)) (.cells #[.slice none 0 0, .bool false] 49))
  obtain ⟨a0, a1⟩ := HA.out.cells2
  obtain ⟨z0, z1⟩ := HB.out.cells2
  have f0 := HB.out.free 0
  have f1 := HB.out.free 1
  have HE := Hid.in (st2_blk HB.out (.slice q n c) (.bool false))
  have HL := Hid.in (below2 (B := w.heap.size) (R := w.heap.size + 1) HN.out (by omega) (.slice q n c) (.bool false))
  clear b1 b2
  cases op
  · go_enter Try.func23, Try.ntmps23
    go_upto_region 1 with fail
    generalize (w.alloc (.cells (rtA q n c false) 49)).alloc (.cells #[.slice none 0 0, .bool false] 49) = w2 at *
    go_wp2_with fail
    have hld := load_rt HE.out
    exact bodyPost_ret (v := .tuple #[.agg (rtA q n c false), .int .i64 2]) (by simp [results, asAddr, hld]) rfl ⟨rfl, HL.out⟩
  · go_enter Try.func23, Try.ntmps23
    go_upto_region 1 with fail
    generalize (w.alloc (.cells (rtA q n c true) 49)).alloc (.cells #[.slice none 0 0, .bool false] 49) = w2 at *
    go_wp2_with fail
    have hld := load_rt HE.out
    exact bodyPost_ret (v := .tuple #[.agg (rtA q n c false), .int .i64 0]) (by simp [results, asAddr, hld]) rfl ⟨rfl, HL.out⟩
set_option maxHeartbeats 1600000 in
theorem rnew_any (n : Nat) (w : World) (hn : n ≤ 1048576) :
    Calls Try.prog 19 #[.int .i64 n] w fun e w' => ∃ g, e = .returned (.agg (rtA (some ⟨g, 0, none⟩) n n false)) ∧ Blk w' g 3 (numZ (zerosC n)).toArray ∧ w.heap.size ≤ g ∧ Below w.heap.size w w' := by
  have HB := Hid.in (Blk.new w 49 #[.slice none 0 0, .bool false])
  have HN := Hid.in (new_alloc w (.cells #[.slice none 0 0, .bool false] 49))
  go_enter Try.func19, Try.ntmps19
  go_upto_region 1 with fail
  generalize w.alloc (.cells #[.slice none 0 0, .bool false] 49) = w1 at *
  go_wp2_with (at_make; refine wp_makeI rfl _ _ rfl n rfl rfl hn ?_; intro w4 HC4 HB4; refine Hid.out ?_)
  refine Lib.hid ?_
  have HR4 := Hid.in (HB.out.grow HB4.out)
  have HL4 := Hid.in (below_step HN.out HB4.out)
  have hlt := HB.out.lt
  obtain ⟨z0, z1⟩ := HR4.out.cells2
  have f0 := HR4.out.free 0
  have f1 := HR4.out.free 1
  have HE := Hid.in (st2_blk HR4.out (.slice (some ⟨w1.heap.size, 0, none⟩) n n) (.bool false))
  have HL := Hid.in (below2 (B := w.heap.size) (R := w.heap.size) HL4.out (Nat.le_refl _) (.slice (some ⟨w1.heap.size, 0, none⟩) n n) (.bool false))
  have HC := Hid.in ((HC4.out.other (show w1.heap.size ≠ w.heap.size by omega) 0 (.slice (some ⟨w1.heap.size, 0, none⟩) n n)).other (show w1.heap.size ≠ w.heap.size by omega) 1 (.bool false))
  go_wp2_with fail
  have hld := load_rt HE.out
  exact bodyPost_ret (v := .agg (rtA (some ⟨w1.heap.size, 0, none⟩) n n false)) (by simp [results, asAddr, hld]) rfl ⟨_, rfl, HC.out, by omega, HL.out⟩
end Go.Proofs.Ytkpieeldoielgaa

/- Ours: the reference's tables (switchyardref21): Call. -/
namespace Go.Proofs.Ytkpieeldoielgaa
open Go.RowKit

/-- what the reference's Call answers -/
def RcIs (w : World) (q : Option Addr) (r : CalR) : Ending → World → Prop := fun e w' =>
  ∃ q' c', e = .returned (.tuple #[.agg (rtA q' r.cs.length c' r.op), .bool r.turns, .int .i64 r.e]) ∧ GRow w' q' (numZ r.cs) ∧ (q' = q ∨ ∀ a, q' = some a → w.heap.size ≤ a.block) ∧ Below w.heap.size w w'
set_option maxHeartbeats 3200000 in
theorem rcall_low (q : Option Addr) (c : Nat) (cs : List Int) (op : Bool) (z : Int) (up : Bool) (w : World) (_hl : cs.length ≤ 64) (hr : GRow w q (numZ cs)) (h0 : z < 0) :
    Calls Try.prog 20 #[.agg (rtA q cs.length c op), .int .i64 z, .bool up] w (RcIs w q ⟨cs, op, false, 311⟩) := by
  have HRk := Hid.in hr
  have b1 := (Blk.new w 49 (rtA q cs.length c op)).grow (new_alloc _ (.cells #[.slice none 0 0, .bool false] 49))
  have b2 := Blk.new (w.alloc (.cells (rtA q cs.length c op) 49)) 49 #[.slice none 0 0, .bool false]
  rw [size_one] at b2
  have HA := Hid.in b1
  have HB := Hid.in b2
  have HN := Hid.in (below_alloc (new_alloc w (.cells (rtA q cs.length c op) 49)) (.cells #[.slice none 0 0, .bool false] 49))
  have HR := Hid.in (hr.below HN.out)
  clear b1 b2 hr
  go_enter Try.func20, Try.ntmps20
  go_upto_region 1 with fail
  generalize (w.alloc (.cells (rtA q cs.length c op) 49)).alloc (.cells #[.slice none 0 0, .bool false] 49) = w2 at *
  obtain ⟨a0, a1⟩ := HA.out.cells2
  obtain ⟨z0, z1⟩ := HB.out.cells2
  have f0 := HB.out.free 0
  have f1 := HB.out.free 1
  have HE := Hid.in (st2_blk HB.out (.slice q cs.length c) (.bool op))
  have HL := Hid.in (below2 (B := w.heap.size) (R := w.heap.size + 1) HN.out (by omega) (.slice q cs.length c) (.bool op))
  have g1 : decide (z < 0) = true := decide_eq_true h0
  go_wp2_with fail
  have hld := load_rt HE.out
  have hrw : GRow ((w2.setCell ⟨w.heap.size + 1, 0, none⟩ (.slice q cs.length c)).setCell ⟨w.heap.size + 1, 1, none⟩ (.bool op)) q (numZ cs) := HRk.out.below HL.out
  exact bodyPost_ret (v := .tuple #[.agg (rtA q cs.length c op), .bool false, .int .i64 311]) (by simp [results, asAddr, hld]) rfl ⟨q, c, rfl, hrw, .inl rfl, HL.out⟩
set_option maxHeartbeats 3200000 in
theorem rcall_high (q : Option Addr) (c : Nat) (cs : List Int) (op : Bool) (z : Int) (up : Bool) (w : World) (_hl : cs.length ≤ 64) (hr : GRow w q (numZ cs)) (h0 : ¬ z < 0) (h1 : cs.length ≤ z) :
    Calls Try.prog 20 #[.agg (rtA q cs.length c op), .int .i64 z, .bool up] w (RcIs w q ⟨cs, op, false, 311⟩) := by
  have HRk := Hid.in hr
  have b1 := (Blk.new w 49 (rtA q cs.length c op)).grow (new_alloc _ (.cells #[.slice none 0 0, .bool false] 49))
  have b2 := Blk.new (w.alloc (.cells (rtA q cs.length c op) 49)) 49 #[.slice none 0 0, .bool false]
  rw [size_one] at b2
  have HA := Hid.in b1
  have HB := Hid.in b2
  have HN := Hid.in (below_alloc (new_alloc w (.cells (rtA q cs.length c op) 49)) (.cells #[.slice none 0 0, .bool false] 49))
  have HR := Hid.in (hr.below HN.out)
  clear b1 b2 hr
  go_enter Try.func20, Try.ntmps20
  go_upto_region 1 with fail
  generalize (w.alloc (.cells (rtA q cs.length c op) 49)).alloc (.cells #[.slice none 0 0, .bool false] 49) = w2 at *
  obtain ⟨a0, a1⟩ := HA.out.cells2
  obtain ⟨z0, z1⟩ := HB.out.cells2
  have f0 := HB.out.free 0
  have f1 := HB.out.free 1
  have HE := Hid.in (st2_blk HB.out (.slice q cs.length c) (.bool op))
  have HL := Hid.in (below2 (B := w.heap.size) (R := w.heap.size + 1) HN.out (by omega) (.slice q cs.length c) (.bool op))
  have g1 : decide (z < 0) = false := decide_eq_false h0
  have g2 : decide ((cs.length : Int) ≤ z) = true := decide_eq_true h1
  go_wp2_with fail
  have hld := load_rt HE.out
  have hrw : GRow ((w2.setCell ⟨w.heap.size + 1, 0, none⟩ (.slice q cs.length c)).setCell ⟨w.heap.size + 1, 1, none⟩ (.bool op)) q (numZ cs) := HRk.out.below HL.out
  exact bodyPost_ret (v := .tuple #[.agg (rtA q cs.length c op), .bool false, .int .i64 311]) (by simp [results, asAddr, hld]) rfl ⟨q, c, rfl, hrw, .inl rfl, HL.out⟩
set_option maxHeartbeats 3200000 in
theorem rcall_busy (q : Option Addr) (c : Nat) (cs : List Int) (z : Int) (up : Bool) (w : World) (_hl : cs.length ≤ 64) (hr : GRow w q (numZ cs)) (h0 : 0 ≤ z ∧ z < cs.length) :
    Calls Try.prog 20 #[.agg (rtA q cs.length c true), .int .i64 z, .bool up] w (RcIs w q ⟨cs, true, false, 310⟩) := by
  have HRk := Hid.in hr
  have b1 := (Blk.new w 49 (rtA q cs.length c true)).grow (new_alloc _ (.cells #[.slice none 0 0, .bool false] 49))
  have b2 := Blk.new (w.alloc (.cells (rtA q cs.length c true) 49)) 49 #[.slice none 0 0, .bool false]
  rw [size_one] at b2
  have HA := Hid.in b1
  have HB := Hid.in b2
  have HN := Hid.in (below_alloc (new_alloc w (.cells (rtA q cs.length c true) 49)) (.cells #[.slice none 0 0, .bool false] 49))
  have HR := Hid.in (hr.below HN.out)
  clear b1 b2 hr
  go_enter Try.func20, Try.ntmps20
  go_upto_region 1 with fail
  generalize (w.alloc (.cells (rtA q cs.length c true) 49)).alloc (.cells #[.slice none 0 0, .bool false] 49) = w2 at *
  obtain ⟨a0, a1⟩ := HA.out.cells2
  obtain ⟨z0, z1⟩ := HB.out.cells2
  have f0 := HB.out.free 0
  have f1 := HB.out.free 1
  have HE := Hid.in (st2_blk HB.out (.slice q cs.length c) (.bool true))
  have HL := Hid.in (below2 (B := w.heap.size) (R := w.heap.size + 1) HN.out (by omega) (.slice q cs.length c) (.bool true))
  have g1 : decide (z < 0) = false := decide_eq_false (by omega)
  have g2 : decide ((cs.length : Int) ≤ z) = false := decide_eq_false (by omega)
  go_wp2_with fail
  have hld := load_rt HE.out
  have hrw : GRow ((w2.setCell ⟨w.heap.size + 1, 0, none⟩ (.slice q cs.length c)).setCell ⟨w.heap.size + 1, 1, none⟩ (.bool true)) q (numZ cs) := HRk.out.below HL.out
  exact bodyPost_ret (v := .tuple #[.agg (rtA q cs.length c true), .bool false, .int .i64 310]) (by simp [results, asAddr, hld]) rfl ⟨q, c, rfl, hrw, .inl rfl, HL.out⟩
set_option maxHeartbeats 3200000 in
theorem rcall_down_no (q : Option Addr) (c : Nat) (cs : List Int) (k : Nat) (w : World) (_hl : cs.length ≤ 64) (hr : GRow w q (numZ cs)) (h0 : k < cs.length) (hx : cs.getD k 0 = 0) :
    Calls Try.prog 20 #[.agg (rtA q cs.length c false), .int .i64 k, .bool false] w (RcIs w q ⟨cs, false, false, 312⟩) := by
  have HRk := Hid.in hr
  have b1 := (Blk.new w 49 (rtA q cs.length c false)).grow (new_alloc _ (.cells #[.slice none 0 0, .bool false] 49))
  have b2 := Blk.new (w.alloc (.cells (rtA q cs.length c false) 49)) 49 #[.slice none 0 0, .bool false]
  rw [size_one] at b2
  have HA := Hid.in b1
  have HB := Hid.in b2
  have HN := Hid.in (below_alloc (new_alloc w (.cells (rtA q cs.length c false) 49)) (.cells #[.slice none 0 0, .bool false] 49))
  have HR := Hid.in (hr.below HN.out)
  clear b1 b2 hr
  go_enter Try.func20, Try.ntmps20
  go_upto_region 1 with fail
  generalize (w.alloc (.cells (rtA q cs.length c false) 49)).alloc (.cells #[.slice none 0 0, .bool false] 49) = w2 at *
  obtain ⟨a0, a1⟩ := HA.out.cells2
  obtain ⟨z0, z1⟩ := HB.out.cells2
  have f0 := HB.out.free 0
  have f1 := HB.out.free 1
  have HE := Hid.in (st2_blk HB.out (.slice q cs.length c) (.bool false))
  have HL := Hid.in (below2 (B := w.heap.size) (R := w.heap.size + 1) HN.out (by omega) (.slice q cs.length c) (.bool false))
  have g1 : decide ((k : Int) < 0) = false := decide_eq_false (by omega)
  have g2 : decide ((cs.length : Int) ≤ (k : Int)) = false := decide_eq_false (by omega)
  have h1 : (k : Int) < (cs.length : Int) := by omega
  obtain ⟨b, o, rfl, hc⟩ := HR.out.num (by omega)
  have c1 := hc k h0
  rw [hx] at c1
  clear hc hx
  go_wp2_with fail
  have hld := load_rt HE.out
  have hrw : GRow ((w2.setCell ⟨w.heap.size + 1, 0, none⟩ (.slice (some ⟨b, o, none⟩) cs.length c)).setCell ⟨w.heap.size + 1, 1, none⟩ (.bool false)) (some ⟨b, o, none⟩) (numZ cs) := HRk.out.below HL.out
  exact bodyPost_ret (v := .tuple #[.agg (rtA (some ⟨b, o, none⟩) cs.length c false), .bool false, .int .i64 312]) (by simp [results, asAddr, hld]) rfl ⟨_, c, rfl, hrw, .inl rfl, HL.out⟩
set_option maxHeartbeats 3200000 in
theorem rcall_up_no (q : Option Addr) (c : Nat) (cs : List Int) (k : Nat) (w : World) (_hl : cs.length ≤ 64) (hr : GRow w q (numZ cs)) (h0 : k < cs.length) (hx : cs.getD k 0 = 2147483647) :
    Calls Try.prog 20 #[.agg (rtA q cs.length c false), .int .i64 k, .bool true] w (RcIs w q ⟨cs, false, false, 3⟩) := by
  have HRk := Hid.in hr
  have b1 := (Blk.new w 49 (rtA q cs.length c false)).grow (new_alloc _ (.cells #[.slice none 0 0, .bool false] 49))
  have b2 := Blk.new (w.alloc (.cells (rtA q cs.length c false) 49)) 49 #[.slice none 0 0, .bool false]
  rw [size_one] at b2
  have HA := Hid.in b1
  have HB := Hid.in b2
  have HN := Hid.in (below_alloc (new_alloc w (.cells (rtA q cs.length c false) 49)) (.cells #[.slice none 0 0, .bool false] 49))
  have HR := Hid.in (hr.below HN.out)
  clear b1 b2 hr
  go_enter Try.func20, Try.ntmps20
  go_upto_region 1 with fail
  generalize (w.alloc (.cells (rtA q cs.length c false) 49)).alloc (.cells #[.slice none 0 0, .bool false] 49) = w2 at *
  obtain ⟨a0, a1⟩ := HA.out.cells2
  obtain ⟨z0, z1⟩ := HB.out.cells2
  have f0 := HB.out.free 0
  have f1 := HB.out.free 1
  have HE := Hid.in (st2_blk HB.out (.slice q cs.length c) (.bool false))
  have HL := Hid.in (below2 (B := w.heap.size) (R := w.heap.size + 1) HN.out (by omega) (.slice q cs.length c) (.bool false))
  have g1 : decide ((k : Int) < 0) = false := decide_eq_false (by omega)
  have g2 : decide ((cs.length : Int) ≤ (k : Int)) = false := decide_eq_false (by omega)
  have h1 : (k : Int) < (cs.length : Int) := by omega
  obtain ⟨b, o, rfl, hc⟩ := HR.out.num (by omega)
  have c1 := hc k h0
  rw [hx] at c1
  clear hc hx
  go_wp2_with fail
  have hld := load_rt HE.out
  have hrw : GRow ((w2.setCell ⟨w.heap.size + 1, 0, none⟩ (.slice (some ⟨b, o, none⟩) cs.length c)).setCell ⟨w.heap.size + 1, 1, none⟩ (.bool false)) (some ⟨b, o, none⟩) (numZ cs) := HRk.out.below HL.out
  exact bodyPost_ret (v := .tuple #[.agg (rtA (some ⟨b, o, none⟩) cs.length c false), .bool false, .int .i64 3]) (by simp [results, asAddr, hld]) rfl ⟨_, c, rfl, hrw, .inl rfl, HL.out⟩
/-- a list of numbers that a call has made: its block, a number of it -/
theorem gowned {w : World} {B n c : Nat} {q : Option Addr} {cs : List Int} {k : Nat} (h : GOwnV 3 w B (.slice q n c) (numZ cs)) (hk : k < cs.length) : ∃ g, q = some ⟨g, 0, none⟩ ∧ B ≤ g ∧ g < w.heap.size ∧ w.cell? ⟨g, k, none⟩ = some (.int .i64 (cs.getD k 0)) ∧ w.frozen? ⟨g, k, none⟩ = false := by
  obtain ⟨p, cap, e, hr, -⟩ := h.slice
  injection e with e _ _
  subst e
  rcases h.2 with ⟨e1, e2⟩ | ⟨g, cap', cur, e1, e2, e3, _⟩
  · simp [numZ] at e2; subst e2; simp at hk
  · injection e1 with e1 _ _
    obtain ⟨b, o, e', hc⟩ := hr.num (by omega)
    rw [e1] at e'
    injection e' with e'
    injection e' with e4 e5
    subst e4 e5
    refine ⟨g, e1, e2, (Array.getElem?_eq_some_iff.1 e3).1, by have := hc k hk; rwa [Nat.zero_add] at this, frozen_of_row w g k _ 3 e3⟩
theorem gset {w : World} {B g n c : Nat} {cs : List Int} {k : Nat} (h : GOwnV 3 w B (.slice (some ⟨g, 0, none⟩) n c) (numZ cs)) (u : Int) : GOwnV 3 (w.setCell ⟨g, k, none⟩ (.int .i64 u)) B (.slice (some ⟨g, 0, none⟩) n c) (numZ (cs.set k u)) := by
  have hn : n = (numZ cs).length := by
    obtain ⟨p, cap, e, -⟩ := h.slice
    injection e
  subst hn
  have h0 : w.ownsRow B 3 1 (.slice (some ⟨g, 0, none⟩) (numZ cs).length c) (numZ cs).length (numZ cs) := h
  have h1 := (World.ownsRow.stored h0 k (.int .i64 u)).1
  unfold GOwnV
  have e : numZ (cs.set k u) = (numZ cs).set k (.int .i64 u) := by simp [numZ, List.map_set]
  rw [e, List.length_set]
  exact h1
set_option maxHeartbeats 6400000 in
theorem rcall_up_yes (q : Option Addr) (c : Nat) (cs : List Int) (k : Nat) (w : World) (hl : cs.length ≤ 64) (hr : GRow w q (numZ cs)) (h0 : k < cs.length) (hb : 0 ≤ cs.getD k 0 ∧ cs.getD k 0 ≤ 2147483647) (hx : cs.getD k 0 ≠ 2147483647) :
    Calls Try.prog 20 #[.agg (rtA q cs.length c false), .int .i64 k, .bool true] w (RcIs w q ⟨cs.set k (cs.getD k 0 + 1), decide (cs.getD k 0 + 1 = 1), decide (cs.getD k 0 + 1 = 1), 0⟩) := by
  obtain ⟨x, hxx⟩ : ∃ x, cs.getD k 0 = x := ⟨_, rfl⟩
  have HX := Hid.in hxx
  rw [hxx] at hx hb ⊢
  clear hxx
  have b1 := (Blk.new w 49 (rtA q cs.length c false)).grow (new_alloc _ (.cells #[.slice none 0 0, .bool false] 49))
  have b2 := Blk.new (w.alloc (.cells (rtA q cs.length c false) 49)) 49 #[.slice none 0 0, .bool false]
  rw [size_one] at b2
  have HA := Hid.in b1
  have HB := Hid.in b2
  have HN := Hid.in (below_alloc (new_alloc w (.cells (rtA q cs.length c false) 49)) (.cells #[.slice none 0 0, .bool false] 49))
  have HR := Hid.in (hr.below HN.out)
  clear b1 b2 hr
  go_enter Try.func20, Try.ntmps20
  go_upto_region 1 with fail
  generalize (w.alloc (.cells (rtA q cs.length c false) 49)).alloc (.cells #[.slice none 0 0, .bool false] 49) = w2 at *
  obtain ⟨a0, a1⟩ := HA.out.cells2
  have g1 : decide ((k : Int) < 0) = false := decide_eq_false (by omega)
  have g2 : decide ((cs.length : Int) ≤ (k : Int)) = false := decide_eq_false (by omega)
  have h1 : (k : Int) < (cs.length : Int) := by omega
  obtain ⟨b, o, rfl, hc⟩ := HR.out.num (by omega)
  have c1 := hc k h0
  have hnews : ∀ j u, (numZ cs)[j]? = some u → w2.cell? ((⟨b, o, none⟩ : Addr).add j) = some u := fun j u hj => by
    have hjl : j < cs.length := by simpa [numZ] using (List.getElem?_eq_some_iff.1 hj).1
    rw [Go.WideShapes.add_plain, hc j hjl, ← hj, numZ_at _ _ hjl]
  have hone : ∀ u ∈ numZ cs, u.oneCell' = true := fun u hu => by
    simp only [numZ, List.mem_map] at hu
    obtain ⟨y, -, rfl⟩ := hu
    rfl
  have hsz : w.heap.size ≤ w2.heap.size := HN.out.size
  have hlz : (numZ cs).length = cs.length := by simp [numZ]
  rw [HX.out] at c1
  have hxb : (x == (2147483647 : Int)) = false := by simpa using hx
  clear hc
  go_wp2_with (at_builtin; refine gpush Try.elemI _ rfl _ _ rfl w2.heap.size _ [] rfl (GOwnV.nil _ _ _) ⟨b, o, none⟩ cs.length c (numZ cs) rfl hlz hnews hone (by simp; omega) (by simp; omega) (Nat.le_refl _) ?_; intro v9 w9 ho9 hg9 hb9 hn9; have HO9 := Hid.in ho9; have HB9 := Hid.in (hb9 w2 (below_self w2)); clear ho9 hg9 hb9 hn9; refine Hid.out ?_)
  refine Lib.hid ?_
  obtain ⟨p9, c9, e9, hr9, -, -⟩ := HO9.out.slice
  rw [List.nil_append, hlz] at e9
  subst e9
  have ho : GOwnV 3 w9 w2.heap.size (.slice p9 cs.length c9) (numZ cs) := HO9.out
  obtain ⟨g9, rfl, gg1, gg2, hc9, hf9⟩ := gowned ho h0
  rw [HX.out] at hc9
  have hwr : IntKind.i64.wrap (x + 1) = x + 1 := by rw [IntKind.wrap_i64]; omega
  have HS9 := Hid.in (gset ho (k := k) (x + 1))
  have HBr := Hid.in ((HB.out.grow HB9.out).other (show w.heap.size + 1 ≠ g9 by have := HB.out.lt; omega) k (.int .i64 (x + 1)))
  have HL9 : Hid (Below w.heap.size w (w9.setCell ⟨g9, k, none⟩ (.int .i64 (x + 1)))) := (below_step HN.out HB9.out).setCell (show w.heap.size ≤ g9 by omega) _
  obtain ⟨g9', eg9, -, -, cn, -⟩ := gowned (k := k) HS9.out (by rw [List.length_set]; exact h0)
  have eg : g9 = g9' := by injection eg9 with eg9; injection eg9 with eg9
  rw [← eg] at cn
  have e5 : (cs.set k (x + 1)).getD k 0 = x + 1 := by simp only [List.getD, List.getElem?_set_self h0, Option.getD_some]
  rw [e5] at cn
  clear eg9 e5 eg
  clear HO9 ho hr9 hnews hone a0 a1 c1
  go_upto_region 14 with fail
  generalize w9.setCell ⟨g9, k, none⟩ (.int .i64 (x + 1)) = w10 at *
  obtain ⟨z0, z1⟩ := HBr.out.cells2
  have f0 := HBr.out.free 0
  have f1 := HBr.out.free 1
  obtain ⟨t, ht⟩ : ∃ t, decide (x + 1 = 1) = t := ⟨_, rfl⟩
  have g5 : (x + 1 == (1 : Int)) = t := by rw [← ht]; rfl
  have HTt := Hid.in ht
  clear ht
  have HE := Hid.in (st2_blk HBr.out (.slice (some ⟨g9, 0, none⟩) cs.length c9) (.bool t))
  have HLe := Hid.in (below2 (B := w.heap.size) (R := w.heap.size + 1) HL9.out (by omega) (.slice (some ⟨g9, 0, none⟩) cs.length c9) (.bool t))
  have HRe : Hid (GRow ((w10.setCell ⟨w.heap.size + 1, 0, none⟩ (.slice (some ⟨g9, 0, none⟩) cs.length c9)).setCell ⟨w.heap.size + 1, 1, none⟩ (.bool t)) (some ⟨g9, 0, none⟩) (numZ (cs.set k (x + 1)))) := by
    have h1 := own_set (M := w.heap.size + 1) (i := 0) (u := .slice (some ⟨g9, 0, none⟩) cs.length c9) HS9.out (by have := HB.out.lt; omega)
    have h2 := own_set (M := w.heap.size + 1) (i := 1) (u := .bool t) h1 (by have := HB.out.lt; omega)
    have h3 : GOwnV 3 _ w2.heap.size (.slice (some ⟨g9, 0, none⟩) cs.length c9) (numZ (cs.set k (x + 1))) := h2
    obtain ⟨p', c', e', hr', -, -⟩ := h3.slice
    injection e' with e1 _ _
    subst e1
    exact hr'
  have hls : (cs.set k (x + 1)).length = cs.length := List.length_set
  cases t
  · go_wp2_with fail
    have hld := load_rt HE.out
    refine bodyPost_ret (v := .tuple #[.agg (rtA (some ⟨g9, 0, none⟩) cs.length c9 false),  .bool false, .int .i64 0]) (by simp [results, asAddr, hld]) rfl ⟨some ⟨g9, 0, none⟩, c9, ?_, HRe.out, .inr (fun a ea => ?_), HLe.out⟩
    · show _ = Ending.returned (.tuple #[.agg (rtA (some ⟨g9, 0, none⟩) (cs.set k (x + 1)).length c9 (decide (x + 1 = 1))), .bool (decide (x + 1 = 1)), .int .i64 0])
      rw [hls, HTt.out]
    · injection ea with ea
      subst ea
      show w.heap.size ≤ g9
      omega
  · go_wp2_with fail
    have hld := load_rt HE.out
    refine bodyPost_ret (v := .tuple #[.agg (rtA (some ⟨g9, 0, none⟩) cs.length c9 true),  .bool true, .int .i64 0]) (by simp [results, asAddr, hld]) rfl ⟨some ⟨g9, 0, none⟩, c9, ?_, HRe.out, .inr (fun a ea => ?_), HLe.out⟩
    · show _ = Ending.returned (.tuple #[.agg (rtA (some ⟨g9, 0, none⟩) (cs.set k (x + 1)).length c9 (decide (x + 1 = 1))), .bool (decide (x + 1 = 1)), .int .i64 0])
      rw [hls, HTt.out]
    · injection ea with ea
      subst ea
      show w.heap.size ≤ g9
      omega
set_option maxHeartbeats 6400000 in
theorem rcall_down_yes (q : Option Addr) (c : Nat) (cs : List Int) (k : Nat) (w : World) (hl : cs.length ≤ 64) (hr : GRow w q (numZ cs)) (h0 : k < cs.length) (hb : 0 ≤ cs.getD k 0 ∧ cs.getD k 0 ≤ 2147483647) (hx : cs.getD k 0 ≠ 0) :
    Calls Try.prog 20 #[.agg (rtA q cs.length c false), .int .i64 k, .bool false] w (RcIs w q ⟨cs.set k (cs.getD k 0 - 1), decide (cs.getD k 0 - 1 = 0), decide (cs.getD k 0 - 1 = 0), 0⟩) := by
  obtain ⟨x, hxx⟩ : ∃ x, cs.getD k 0 = x := ⟨_, rfl⟩
  have HX := Hid.in hxx
  rw [hxx] at hx hb ⊢
  clear hxx
  have b1 := (Blk.new w 49 (rtA q cs.length c false)).grow (new_alloc _ (.cells #[.slice none 0 0, .bool false] 49))
  have b2 := Blk.new (w.alloc (.cells (rtA q cs.length c false) 49)) 49 #[.slice none 0 0, .bool false]
  rw [size_one] at b2
  have HA := Hid.in b1
  have HB := Hid.in b2
  have HN := Hid.in (below_alloc (new_alloc w (.cells (rtA q cs.length c false) 49)) (.cells #[.slice none 0 0, .bool false] 49))
  have HR := Hid.in (hr.below HN.out)
  clear b1 b2 hr
  go_enter Try.func20, Try.ntmps20
  go_upto_region 1 with fail
  generalize (w.alloc (.cells (rtA q cs.length c false) 49)).alloc (.cells #[.slice none 0 0, .bool false] 49) = w2 at *
  obtain ⟨a0, a1⟩ := HA.out.cells2
  have g1 : decide ((k : Int) < 0) = false := decide_eq_false (by omega)
  have g2 : decide ((cs.length : Int) ≤ (k : Int)) = false := decide_eq_false (by omega)
  have h1 : (k : Int) < (cs.length : Int) := by omega
  obtain ⟨b, o, rfl, hc⟩ := HR.out.num (by omega)
  have c1 := hc k h0
  have hnews : ∀ j u, (numZ cs)[j]? = some u → w2.cell? ((⟨b, o, none⟩ : Addr).add j) = some u := fun j u hj => by
    have hjl : j < cs.length := by simpa [numZ] using (List.getElem?_eq_some_iff.1 hj).1
    rw [Go.WideShapes.add_plain, hc j hjl, ← hj, numZ_at _ _ hjl]
  have hone : ∀ u ∈ numZ cs, u.oneCell' = true := fun u hu => by
    simp only [numZ, List.mem_map] at hu
    obtain ⟨y, -, rfl⟩ := hu
    rfl
  have hsz : w.heap.size ≤ w2.heap.size := HN.out.size
  have hlz : (numZ cs).length = cs.length := by simp [numZ]
  rw [HX.out] at c1
  have hxb : (x == (0 : Int)) = false := by simpa using hx
  clear hc
  go_wp2_with (at_builtin; refine gpush Try.elemI _ rfl _ _ rfl w2.heap.size _ [] rfl (GOwnV.nil _ _ _) ⟨b, o, none⟩ cs.length c (numZ cs) rfl hlz hnews hone (by simp; omega) (by simp; omega) (Nat.le_refl _) ?_; intro v9 w9 ho9 hg9 hb9 hn9; have HO9 := Hid.in ho9; have HB9 := Hid.in (hb9 w2 (below_self w2)); clear ho9 hg9 hb9 hn9; refine Hid.out ?_)
  refine Lib.hid ?_
  obtain ⟨p9, c9, e9, hr9, -, -⟩ := HO9.out.slice
  rw [List.nil_append, hlz] at e9
  subst e9
  have ho : GOwnV 3 w9 w2.heap.size (.slice p9 cs.length c9) (numZ cs) := HO9.out
  obtain ⟨g9, rfl, gg1, gg2, hc9, hf9⟩ := gowned ho h0
  rw [HX.out] at hc9
  have hwr : IntKind.i64.wrap (x - 1) = x - 1 := by rw [IntKind.wrap_i64]; omega
  have HS9 := Hid.in (gset ho (k := k) (x - 1))
  have HBr := Hid.in ((HB.out.grow HB9.out).other (show w.heap.size + 1 ≠ g9 by have := HB.out.lt; omega) k (.int .i64 (x - 1)))
  have HL9 : Hid (Below w.heap.size w (w9.setCell ⟨g9, k, none⟩ (.int .i64 (x - 1)))) := (below_step HN.out HB9.out).setCell (show w.heap.size ≤ g9 by omega) _
  obtain ⟨g9', eg9, -, -, cn, -⟩ := gowned (k := k) HS9.out (by rw [List.length_set]; exact h0)
  have eg : g9 = g9' := by injection eg9 with eg9; injection eg9 with eg9
  rw [← eg] at cn
  have e5 : (cs.set k (x - 1)).getD k 0 = x - 1 := by simp only [List.getD, List.getElem?_set_self h0, Option.getD_some]
  rw [e5] at cn
  clear eg9 e5 eg
  clear HO9 ho hr9 hnews hone a0 a1 c1
  go_upto_region 14 with fail
  generalize w9.setCell ⟨g9, k, none⟩ (.int .i64 (x - 1)) = w10 at *
  obtain ⟨z0, z1⟩ := HBr.out.cells2
  have f0 := HBr.out.free 0
  have f1 := HBr.out.free 1
  obtain ⟨t, ht⟩ : ∃ t, decide (x - 1 = 0) = t := ⟨_, rfl⟩
  have g5 : (x - 1 == (0 : Int)) = t := by rw [← ht]; rfl
  have HTt := Hid.in ht
  clear ht
  have HE := Hid.in (st2_blk HBr.out (.slice (some ⟨g9, 0, none⟩) cs.length c9) (.bool t))
  have HLe := Hid.in (below2 (B := w.heap.size) (R := w.heap.size + 1) HL9.out (by omega) (.slice (some ⟨g9, 0, none⟩) cs.length c9) (.bool t))
  have HRe : Hid (GRow ((w10.setCell ⟨w.heap.size + 1, 0, none⟩ (.slice (some ⟨g9, 0, none⟩) cs.length c9)).setCell ⟨w.heap.size + 1, 1, none⟩ (.bool t)) (some ⟨g9, 0, none⟩) (numZ (cs.set k (x - 1)))) := by
    have h1 := own_set (M := w.heap.size + 1) (i := 0) (u := .slice (some ⟨g9, 0, none⟩) cs.length c9) HS9.out (by have := HB.out.lt; omega)
    have h2 := own_set (M := w.heap.size + 1) (i := 1) (u := .bool t) h1 (by have := HB.out.lt; omega)
    have h3 : GOwnV 3 _ w2.heap.size (.slice (some ⟨g9, 0, none⟩) cs.length c9) (numZ (cs.set k (x - 1))) := h2
    obtain ⟨p', c', e', hr', -, -⟩ := h3.slice
    injection e' with e1 _ _
    subst e1
    exact hr'
  have hls : (cs.set k (x - 1)).length = cs.length := List.length_set
  cases t
  · go_wp2_with fail
    have hld := load_rt HE.out
    refine bodyPost_ret (v := .tuple #[.agg (rtA (some ⟨g9, 0, none⟩) cs.length c9 false),  .bool false, .int .i64 0]) (by simp [results, asAddr, hld]) rfl ⟨some ⟨g9, 0, none⟩, c9, ?_, HRe.out, .inr (fun a ea => ?_), HLe.out⟩
    · show _ = Ending.returned (.tuple #[.agg (rtA (some ⟨g9, 0, none⟩) (cs.set k (x - 1)).length c9 (decide (x - 1 = 0))), .bool (decide (x - 1 = 0)), .int .i64 0])
      rw [hls, HTt.out]
    · injection ea with ea
      subst ea
      show w.heap.size ≤ g9
      omega
  · go_wp2_with fail
    have hld := load_rt HE.out
    refine bodyPost_ret (v := .tuple #[.agg (rtA (some ⟨g9, 0, none⟩) cs.length c9 true),  .bool true, .int .i64 0]) (by simp [results, asAddr, hld]) rfl ⟨some ⟨g9, 0, none⟩, c9, ?_, HRe.out, .inr (fun a ea => ?_), HLe.out⟩
    · show _ = Ending.returned (.tuple #[.agg (rtA (some ⟨g9, 0, none⟩) (cs.set k (x - 1)).length c9 (decide (x - 1 = 0))), .bool (decide (x - 1 = 0)), .int .i64 0])
      rw [hls, HTt.out]
    · injection ea with ea
      subst ea
      show w.heap.size ≤ g9
      omega
/-- the reference's Call answers calL -/
theorem rcall_any (q : Option Addr) (c : Nat) (cs : List Int) (op : Bool) (z : Int) (up : Bool) (w : World) (hl : cs.length ≤ 64) (hr : GRow w q (numZ cs)) (hb : ∀ i, i < cs.length → 0 ≤ cs.getD i 0 ∧ cs.getD i 0 ≤ 2147483647) :
    Calls Try.prog 20 #[.agg (rtA q cs.length c op), .int .i64 z, .bool up] w (RcIs w q (calL cs op z up)) := by
  by_cases hk : 0 ≤ z ∧ z < cs.length
  · cases op
    · obtain ⟨k, rfl⟩ : ∃ k : Nat, z = k := ⟨z.toNat, by omega⟩
      have h0 : k < cs.length := by omega
      have e0 : calL cs false k up = if up = true then (if cs.getD k 0 = 2147483647 then ⟨cs, false, false, 3⟩ else ⟨cs.set k (cs.getD k 0 + 1), decide (cs.getD k 0 + 1 = 1), decide (cs.getD k 0 + 1 = 1), 0⟩) else (if cs.getD k 0 = 0 then ⟨cs, false, false, 312⟩ else ⟨cs.set k (cs.getD k 0 - 1), decide (cs.getD k 0 - 1 = 0), decide (cs.getD k 0 - 1 = 0), 0⟩) := by
        unfold calL
        rw [if_neg (fun hh => hh hk), if_neg (by decide), Int.toNat_natCast]
      rw [e0]
      cases up
      · rw [if_neg (by decide)]
        by_cases hx : cs.getD k 0 = 0
        · rw [if_pos hx]; exact rcall_down_no q c cs k w hl hr h0 hx
        · rw [if_neg hx]; exact rcall_down_yes q c cs k w hl hr h0 (hb k h0) hx
      · rw [if_pos rfl]
        by_cases hx : cs.getD k 0 = 2147483647
        · rw [if_pos hx]; exact rcall_up_no q c cs k w hl hr h0 hx
        · rw [if_neg hx]; exact rcall_up_yes q c cs k w hl hr h0 (hb k h0) hx
    · have e0 : calL cs true z up = ⟨cs, true, false, 310⟩ := by unfold calL; rw [if_neg (fun hh => hh hk), if_pos rfl]
      rw [e0]
      exact rcall_busy q c cs z up w hl hr hk
  · have e0 : calL cs op z up = ⟨cs, op, false, 311⟩ := by unfold calL; rw [if_pos hk]
    rw [e0]
    by_cases h0 : z < 0
    · exact rcall_low q c cs op z up w hl hr h0
    · exact rcall_high q c cs op z up w hl hr h0 (by omega)
end Go.Proofs.Ytkpieeldoielgaa

/- Ours: switchyardlaw21.looks: a table and the reference's at the same state. -/
namespace Go.Proofs.Ytkpieeldoielgaa
open Go.RowKit

set_option maxRecDepth 20000 in
set_option maxHeartbeats 6400000 in
theorem looks_any (h b n : Nat) (cs : List Int) (op : Bool) (p : Option Addr) (c : Nat) (si : List Si) (q : Option Addr) (cq : Nat) (w : World) (H : TabAt w h b n cs op p c si) (hr : GRow w q (numZ cs)) :
    Calls Try.prog 25 #[.pointer (some ⟨h, 0, none⟩), .agg (rtA q cs.length cq op)] w fun e w' => e = .returned (.bool true) ∧ Below w.heap.size w w' := by
  have HA := Hid.in (Blk.new w 49 (rtA q cs.length cq op))
  have HN := Hid.in (new_alloc w (.cells (rtA q cs.length cq op) 49))
  have HT := Hid.in H
  have HR := Hid.in hr
  have hl64 := H.hl
  clear H hr
  go_enter Try.func25, Try.ntmps25
  go_upto_region 1 with fail
  generalize w.alloc (.cells (rtA q cs.length cq op) 49) = w1 at *
  have HLt : Hid (w.heap.size < w1.heap.size) := HA.out.lt
  go_wp2_with fail
  go_loopw [5] (fun vi wr => ∃ k : Nat, k ≤ cs.length + 2 ∧ vi = .int .i64 ((k : Int) - 1) ∧ Below w1.heap.size w1 wr) (fun vi _ => cs.length + 2 - (intOf vi + 1).toNat)
  case atStart => exact ⟨0, Nat.zero_le _, rfl, below_self _⟩
  case round =>
    obtain ⟨k, hk, rfl, hB⟩ := hrel
    have HB := Hid.in hB
    clear hB
    obtain ⟨a0, a1⟩ := (HA.out.grow HB.out).cells2
    have HTr := Hid.in (HT.out.below (below_step HN.out HB.out))
    have HRr := Hid.in (HR.out.below (below_step HN.out HB.out))
    have HBw := Hid.in (below_step HN.out HB.out)
    by_cases hlt : k ≤ cs.length + 1
    · have g1 : decide ((k : Int) - 1 ≤ (cs.length : Int)) = true := decide_eq_true (by omega)
      have g2 : decide ((k : Int) - 1 < 70) = true := decide_eq_true (by omega)
      have n1 := count_any h b n cs op p c si wr HTr.out ((k : Int) - 1) (by unfold i64P; omega)
      have n2 := rcount_any q cq cs op ((k : Int) - 1) wr (by omega) HRr.out
      have HO := Hid.in (fun W (hW : Below wr.heap.size wr W) => on_any h b n cs op p c si W (HTr.out.below hW) ((k : Int) - 1) (by unfold i64P; omega))
      obtain ⟨ct, hct⟩ : ∃ ct, cntL cs ((k : Int) - 1) = ct := ⟨_, rfl⟩
      rw [hct] at n1 n2 HO
      clear hct
      go_wp2_with (first
        | (go_at_call 14; refine n1.mono ?_; rintro e w4 ⟨rfl, rfl⟩)
        | (go_at_call 45; refine Hid.out ?_))
      refine Lib.hid ?_
      (with_reducible refine n2.mono ?_)
      rintro e w5 ⟨rfl, hb5⟩
      have n3 := HO.out w5 hb5
      have HB5 := Hid.in (below_step HB.out hb5)
      clear n1 n2 HO hb5 a0 a1 HTr HRr HBw
      obtain ⟨x, y⟩ := ct
      simp only at n3 ⊢
      go_wp2_with (go_at_call 13; refine n3.mono ?_; rintro e w6 ⟨rfl, rfl⟩)
      go_roundw
      case rel => exact ⟨k + 1, by omega, by go_num, HB5.out⟩
      case measure => simp [intOf]; omega
    · have g1 : decide ((k : Int) - 1 ≤ (cs.length : Int)) = false := decide_eq_false (by omega)
      have hBu := fun m => busy_any h b n cs op p c si (wr.drewN m) (HTr.out.drewN m)
      go_upto_region 9 with fail
      go_quiet ((go_at_call 27; first | (with_reducible exact Calls.quiet_of_same (hBu 0)) | (exact Calls.quiet_of_same (hBu _))))
      have HB4 := Hid.in (below_draws HBw.out nq)
      generalize wr.drewN nq = w4 at *
      go_wp2_with fail
      go_ret
      exact ⟨by simp, HB4.out⟩
end Go.Proofs.Ytkpieeldoielgaa
