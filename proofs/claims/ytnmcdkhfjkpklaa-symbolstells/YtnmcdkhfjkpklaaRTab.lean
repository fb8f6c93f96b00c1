/- switchyardref07.Table. -/
import Derived.Test.YtnmcdkhfjkpklaaRFnd
import Derived.Test.YtnmcdkhfjkpklaaRRefB
import Derived.Laws.AppendOwnNone
namespace Go.Proofs.Ytnmcdkhfjkpklaa
open Go.RowKit

/-- 'append(l, own...)', both of the call's own -/
theorem tpushOwn {ops : Array Oper} {rest : List Oper} {o : Oper} {a : Act} {Q : Exit → Act → World → Prop} {t T : TypeId} {by_ : Nat} (he : Elem3 t T by_) (w : World) (hgd : o.guard = none) (s x : Operand)
    (ho : o.op = .call { callee := .builtin .append, args := #[s, x], argTypes := #[t, t] }) (B : Nat) (v : Value) (L : List V3) (hs : a.eval s = v) (hown : TOwn T w B v L)
    (B' : Nat) (u : Value) (M : List V3) (hx : a.eval x = u) (hM : TOwn T w B' u M) (hone : ∀ q ∈ M, one3 q) (hlen : L.length + M.length ≤ 1048576) (hby : by_ ≤ 100) (hB : B ≤ w.heap.size)
    (h : ∀ v' w', TOwn T w' B v' (L ++ M) → w.grownBy w' v.ownBlock → (∀ w0, Below B w0 w → Below B w0 w') → wpList Try.prog ops Q rest (a.put o.dst v') w') :
    wpList Try.prog ops Q (o :: rest) a w := by
  obtain ⟨hu, z, hzc, hinfo⟩ := he
  obtain ⟨i0, hi, hz0, hz1, hz2⟩ := info_parts hinfo
  rcases hM.2 with ⟨e1, e2⟩ | ⟨g, cap, cur, e1, _⟩
  · obtain rfl : M = [] := List.eq_nil_of_length_eq_zero e2
    rw [e1] at hx
    exact wpList_append_own_none hgd s x t ho B T i0 3 hu hi v L.length (c3 L) hs hown hx (h v w (by rw [List.append_nil]; exact hown) (World.grownBy.refl w _) fun _ hb => hb)
  · obtain ⟨p', cap', e3, _, _, hcells⟩ := hM.shape
    rw [e1] at hx e3
    injection e3 with e4 e5 e6
    have hnews : ∀ j q, (c3 M)[j]? = some q → w.cell? ((⟨g, 0, none⟩ : Addr).add j) = some q := fun j q hj => by
      have hjl : j < M.length * 3 := by
        rw [← c3_len]
        exact (List.getElem?_eq_some_iff.1 hj).1
      have hpos : 0 < M.length := by omega
      obtain ⟨g', e7, _, _, hc⟩ := hcells hpos
      rw [← e4] at e7
      have e8 : g = g' := by simpa using e7
      subst e8
      have h1 := c3_at M (j / 3) (by omega) (j % 3) (by omega)
      have h2 := hc (j / 3) (by omega) (j % 3) (by omega)
      rw [show j / 3 * 3 + j % 3 = j by omega] at h1 h2
      rw [Go.WideShapes.add_plain, Nat.zero_add, h2, ← h1, hj]
    refine wpList_append_own w hgd s x t ho B T i0 z 3 by_ hu hi hz0 hz1 hz2 hzc (by decide) v L.length (c3 L) hs hown ⟨g, 0, none⟩ M.length cap (c3 M) hx (c3_len M) hnews (fun q hq => ?_) (by unfold maxLen; omega) (Nat.le_trans (Nat.mul_le_mul hlen hby) (by decide)) hB ?_
    · unfold c3 at hq
      rw [List.mem_flatMap] at hq
      obtain ⟨y, hy, hq⟩ := hq
      exact one3_mem (hone y hy) q hq
    · intro v' w' h2 h3 _
      refine h v' w' ?_ h3 (fun w0 hb => hb.grown h3 hB fun k hk => (World.ownsRow.lt hown k hk).1)
      unfold TOwn
      rw [List.length_append, c3_two]
      exact h2
theorem inB_some (ts : List Sy) (s : ByteArray) : (findG ts s).isSome = inB s (gloS ts) := by
  rw [fgo_eq]
  induction ts with
  | nil => rfl
  | cons x L ih =>
    unfold fgoG
    have hg : gloS (x :: L) = (if x.g = true then [x.name] else []) ++ gloS L := by
      unfold gloS
      rw [List.filter_cons]
      split <;> rfl
    rw [hg, inB_app]
    by_cases hx : meantG s x = true
    · rw [if_pos hx]
      unfold meantG at hx
      rw [Bool.and_eq_true, decide_eq_true_eq] at hx
      rw [if_pos hx.1, hx.2]
      simp [inB]
    · rw [if_neg hx, ih]
      unfold meantG at hx
      by_cases hgx : x.g = true
      · rw [if_pos hgx]
        have hne : ¬ x.name = s := fun e => hx (by rw [hgx, e]; simp)
        simp [inB, hne]
      · rw [if_neg hgx]
        simp [inB]

set_option maxRecDepth 20000 in
set_option maxHeartbeats 8000000 in
theorem refTable_any (p : Option Addr) (n c : Nat) (xs : List Ob) (w : World) (hn : xs.length = n) (hn63 : n ≤ 9223372036854775807) (hx : Units w p xs) : Calls Try.prog 18 #[.slice p n c] w (TabIs xs w) := by
  by_cases hbig : 16 < n
  · have HT : Hid (tabL xs = noTab 3 0) := by
      have h : tabL xs = noTab 3 0 := by unfold tabL; rw [if_pos (by omega)]
      exact h
    clear hx hn
    go_enter Try.func18, Try.ntmps18
    go_wp2_with fail
    exact bodyPost_ret (v := .tuple #[.slice none 0 0, .slice none 0 0, .int .i64 3, .int .i64 0]) (by simp [results, Try.results18, go_sem]) rfl (tabIs_err (u := 0) HT.out (below_self _))
  · have HT : Hid (tabL xs = tabGo 0 0 [] [] xs) := by
      have h : tabL xs = tabGo 0 0 [] [] xs := by unfold tabL; rw [if_neg (by omega)]
      exact h
    have HN := Hid.in hn
    have HX := Hid.in hx
    clear hn hx
    go_enter Try.func18, Try.ntmps18
    go_wp2_with fail
    go_loopw [6, 7, 8, 9] (fun v6 v7 v8 vi wr => ∃ (k e : Nat) (ss : List Nat) (ts : List Sy), vi = .int .i64 k ∧ v8 = .int .i64 e ∧ k ≤ n ∧ e ≤ 65536 ∧ ss.length ≤ k ∧ ts.length ≤ k * 4096 ∧ tabGo 0 0 [] [] xs = tabGo k e ss ts (xs.drop k) ∧ GOwnV 3 wr w.heap.size v6 (startsV ss) ∧ TOwn 34 wr w.heap.size v7 (ts.map syV) ∧ Below w.heap.size w wr) (fun _ _ _ vi _ => n - (intOf vi).toNat)
    case atStart => exact ⟨0, 0, [], [], rfl, rfl, Nat.zero_le _, Nat.zero_le _, Nat.le_refl _, Nat.zero_le _, rfl, GOwnV.nil _ _ _, TOwn.nil _ _ _, below_self w⟩
    case round =>
      obtain ⟨k, e, ss, ts, rfl, rfl, hk, he, hss, hts, hgo, hV6, hV7, hBr⟩ := hrel
      have HGO := Hid.in hgo
      have HV6 := Hid.in hV6
      have HV7 := Hid.in hV7
      have HB := Hid.in hBr
      obtain ⟨p6, c6, hv6, -, -, -⟩ := hV6.slice
      obtain ⟨p7, c7, hv7, hc71, hc72, hr7⟩ := hV7.row3
      rw [List.length_map] at hv7
      have HR7 := Hid.in hr7
      subst hv6 hv7
      clear hgo hV6 hV7 hBr hc71 hc72 hr7
      by_cases hlt : k < n
      · have hkl : k < xs.length := by rw [HN.out]; exact hlt
        obtain ⟨b, o, hp, hc⟩ := HX.out (by omega)
        obtain ⟨pb, ps, pf, pm, cb, cs, cf, cm, ⟨c0', c1', c2', c3'⟩, hI'⟩ := hc k hkl
        subst hp
        have HC0 := Hid.in c0'
        have HC1 := Hid.in c1'
        have HC2 := Hid.in c2'
        have HC3 := Hid.in c3'
        have HI := Hid.in hI'
        have HST := Hid.in (tab_step k e ss ts xs k hkl)
        clear c0' c1' c2' c3' hI' hc
        generalize xs[k] = x at *
        obtain ⟨hn1, hn2, hn3⟩ := nextS_le e
        generalize hNE : nextS e = st at *
        clear hNE
        go_wp2_with fail
        go_loop [8] (fun va => ∃ a : Nat, va = .int .i64 a ∧ e ≤ a ∧ a ≤ st) (fun va => st - (intOf va).toNat)
        case atStart => exact ⟨e, rfl, Nat.le_refl _, hn1⟩
        case round =>
          obtain ⟨a, rfl, ha1, ha2⟩ := hrel
          by_cases hm : a % 4 = 0
          · obtain rfl : a = st := by omega
            have hr1 : (a : Int) % 4 = 0 := by omega
            have hr2 : (a : Int).tmod 4 = 0 := by rw [Int.tmod_eq_emod_of_nonneg (by omega)]; exact hr1
            clear hm
            go_upto_region 11 with fail
            clear hr1 hr2
            have c0 := (HB.out.cell (cell_lt HC0.out)).trans HC0.out
            have c1 := (HB.out.cell (cell_lt HC1.out)).trans HC1.out
            have c2 := (HB.out.cell (cell_lt HC2.out)).trans HC2.out
            have c3 := (HB.out.cell (cell_lt HC3.out)).trans HC3.out
            have hR := refORight_any x pb ps pf pm _ cb _ cs _ cf _ cm wr (HI.out.below HB.out)
            cases hok : okO x with
            | false =>
              have HV : Hid (tabL xs = noTab 2 k) := by
                have h : tabL xs = noTab 2 k := by rw [HT.out, HGO.out, HST.out, if_pos hok]
                exact h
              rw [hok] at hR
              go_wp2_with (go_at_call 36; refine hR.mono ?_; rintro E w3 ⟨rfl, hb3⟩)
              exact bodyPost_ret (v := .tuple #[.slice none 0 0, .slice none 0 0, .int .i64 2, .int .i64 k]) (by simp [results, Try.results18, go_sem]) rfl (tabIs_err HV.out (below_step HB.out hb3))
            | true =>
              obtain ⟨q1, q2, q3, q4, q5⟩ := ok_parts hok
              have HQ4 := Hid.in q4
              clear q3 q4 q5
              have HOK : Hid (okO x = true) := hok
              rw [hok] at hR
              clear hok
              go_upto_region 13 with (go_at_call 36; refine hR.mono ?_; rintro E w3 ⟨rfl, hb3⟩; have HD3 := Hid.in hb3; clear hb3)
              clear hR c0 c1 c2 c3
              have HB3 := Hid.in (below_step HB.out HD3.out)
              have H63 := Hid.in (HV6.out.belowG HD3.out)
              have H73 := Hid.in (HV7.out.below HD3.out)
              have HR73 := Hid.in (HR7.out.below HD3.out)
              have c0 := (HB3.out.cell (cell_lt HC0.out)).trans HC0.out
              have c1 := (HB3.out.cell (cell_lt HC1.out)).trans HC1.out
              clear HV6 HV7 HR7 HB HD3
              by_cases hend : 65536 < a + x.bs.length
              · have HV : Hid (tabL xs = noTab 3 k) := by
                  have h : tabL xs = noTab 3 k := by rw [HT.out, HGO.out, HST.out, if_neg (by rw [HOK.out]; decide), if_pos (by omega)]
                  exact h
                go_wp2_with fail
                exact bodyPost_ret (v := .tuple #[.slice none 0 0, .slice none 0 0, .int .i64 3, .int .i64 k]) (by simp [results, Try.results18, go_sem]) rfl (tabIs_err HV.out HB3.out)
              · go_upto_region 16 with fail
                clear c0 c1
                go_wp2_with fail
                go_loopw [10, 11] (fun v10 vj wq => ∃ j : Nat, vj = .int .i64 j ∧ j ≤ x.sy.length ∧ dupS (gloS ts) (x.sy.take j) = false ∧ TOwn 34 wq w3.heap.size v10 (((x.sy.take j).map (movS a)).map syV) ∧ Below w3.heap.size w3 wq) (fun _ vj _ => x.sy.length - (intOf vj).toNat)
                case atStart => exact ⟨0, rfl, Nat.zero_le _, rfl, TOwn.nil _ _ _, below_self _⟩
                case round =>
                  obtain ⟨j, rfl, hj, hd, hT, hb⟩ := hrel
                  have HD := Hid.in hd
                  have HTq := Hid.in hT
                  have HBq := Hid.in hb
                  obtain ⟨p10, c10, hv10, -, -, -⟩ := hT.shape
                  simp only [List.length_map, List.length_take, Nat.min_eq_left hj] at hv10
                  subst hv10
                  clear hd hT hb
                  have HBw := Hid.in (below_step HB3.out HBq.out)
                  have c1 := (HBw.out.cell (cell_lt HC1.out)).trans HC1.out
                  by_cases hjl : j < x.sy.length
                  · as_aux_lemma =>
                      obtain ⟨bs, os, hps, hcs⟩ := (HI.out.rs.below HBw.out) (by rw [List.length_map]; omega)
                      subst hps
                      obtain ⟨d0, d1, d2⟩ := cells3 hcs j (by rw [List.length_map]; exact hjl)
                      simp only [List.getElem_map, syV] at d0 d1 d2
                      have hsa := HQ4.out x.sy[j] (List.getElem_mem hjl)
                      have HDT := Hid.in (dup_take (gloS ts) x.sy j hjl)
                      have HDP := Hid.in (dup_part (gloS ts) x.sy (j + 1))
                      have HMT : Hid (((x.sy.take (j + 1)).map (movS a)).map syV = ((x.sy.take j).map (movS a)).map syV ++ [(.string x.sy[j].name, .int .i64 ((a : Int) + x.sy[j].at_), .bool x.sy[j].g)]) := by
                        have h := mov_take [] x.sy a j hjl
                        rw [List.nil_append, List.nil_append] at h
                        exact h
                      have HLN : Hid ((((x.sy.take j).map (movS a)).map syV).length ≤ 1048576) := by
                        have h : (((x.sy.take j).map (movS a)).map syV).length ≤ 1048576 := by
                          rw [List.length_map, List.length_map, List.length_take]
                          omega
                        exact h
                      have hLL : (((x.sy.take j).map (movS a)).map syV).length = j := by rw [List.length_map, List.length_map, List.length_take, Nat.min_eq_left hj]
                      clear hcs
                      generalize x.sy[j] = y at *
                      obtain ⟨sn, sa, sg⟩ := y
                      simp only at d0 d1 d2 hsa
                      generalize ((x.sy.take j).map (movS a)).map syV = LQ at *
                      have hw1 : IntKind.i64.wrap ((a : Int) + sa) = (a : Int) + sa := by rw [IntKind.wrap_i64]; omega
                      go_upto_region 20 with fail
                      have HC4 : Hid (Below wr.heap.size wr (wr.alloc (.cells #[.string sn, .int .i64 sa, .bool sg] 34))) := new_alloc wr _
                      have HB4 : Hid (Below w3.heap.size w3 (wr.alloc (.cells #[.string sn, .int .i64 sa, .bool sg] 34))) := below_alloc HBq.out _
                      have HS4 : Hid (Blk (wr.alloc (.cells #[.string sn, .int .i64 sa, .bool sg] 34)) wr.heap.size 34 #[.string sn, .int .i64 sa, .bool sg]) := Blk.new wr 34 _
                      have HT4 := Hid.in (HTq.out.below HC4.out)
                      generalize wr.alloc (.cells #[.string sn, .int .i64 sa, .bool sg] 34) = w4 at *
                      have s0 : w4.cell? ⟨wr.heap.size, 0, none⟩ = some (.string sn) := HS4.out.cell 0
                      have s1 : w4.cell? ⟨wr.heap.size, 1, none⟩ = some (.int .i64 sa) := HS4.out.cell 1
                      have s2 : w4.cell? ⟨wr.heap.size, 2, none⟩ = some (.bool sg) := HS4.out.cell 2
                      have hF := refFind_any p7 ts.length c7 ts sn w4 rfl (by omega) (HR73.out.below HB4.out)
                      rw [inB_some] at hF
                      generalize (findG ts sn).getD 0 = fr at *
                      clear d0 d1 d2 c1 HC4
                      cases sg with
                      | false =>
                        have HDN : Hid (dupS (gloS ts) (x.sy.take (j + 1)) = false) := by
                          have h : dupS (gloS ts) (x.sy.take (j + 1)) = false := by rw [HDT.out, HD.out]; rfl
                          exact h
                        generalize inB sn (gloS ts) = bi at *
                        go_wp2_with (first
                          | (go_at_call 21; refine hF.mono ?_; rintro E W ⟨rfl, hW⟩; have hW2 := hW.symm; clear hW; subst hW2)
                          | (at_builtin; refine tpush Try.elemSym _ rfl _ _ rfl w3.heap.size _ LQ rfl (HT4.out.alloc _) ⟨w4.heap.size, 0, none⟩ 1 (.string sn, .int .i64 ((a : Int) + sa), .bool false) ⟨rfl, rfl, rfl⟩ rfl (news3 w4 (.string sn, .int .i64 ((a : Int) + sa), .bool false) 34) HLN.out (by decide) (by have := HB4.out.size; simp; omega) ?_; intro v5 w5 hT5 hg5 hb5; have HT5 := Hid.in hT5; have HB5 := Hid.in (hb5 w3 (below_alloc HB4.out _)); clear hT5 hg5 hb5))
                        go_roundw
                        case rel => exact ⟨j + 1, by go_num, by omega, HDN.out, by rw [HMT.out]; exact HT5.out, HB5.out⟩
                        case measure => simp [intOf]; omega
                      | true =>
                        cases hi : inB sn (gloS ts) with
                        | true =>
                          have HV : Hid (tabL xs = noTab 170 k) := by
                            have hd : dupS (gloS ts) x.sy = true := HDP.out (by rw [HDT.out, HD.out]; show (false || (true && inB sn (gloS ts))) = true; rw [hi]; rfl)
                            have h : tabL xs = noTab 170 k := by rw [HT.out, HGO.out, HST.out, if_neg (by rw [HOK.out]; decide), if_neg (by omega), if_pos hd]
                            exact h
                          rw [hi] at hF
                          go_wp2_with (go_at_call 21; refine hF.mono ?_; rintro E W ⟨rfl, hW⟩; have hW2 := hW.symm; clear hW; subst hW2)
                          exact bodyPost_ret (v := .tuple #[.slice none 0 0, .slice none 0 0, .int .i64 170, .int .i64 k]) (by simp [results, Try.results18, go_sem]) rfl (tabIs_err HV.out (below_step HB3.out HB4.out))
                        | false =>
                          have HDN : Hid (dupS (gloS ts) (x.sy.take (j + 1)) = false) := by
                            have h : dupS (gloS ts) (x.sy.take (j + 1)) = false := by rw [HDT.out, HD.out]; show (false || (true && inB sn (gloS ts))) = false; rw [hi]; rfl
                            exact h
                          rw [hi] at hF
                          go_wp2_with (first
                            | (go_at_call 21; refine hF.mono ?_; rintro E W ⟨rfl, hW⟩; have hW2 := hW.symm; clear hW; subst hW2)
                            | (at_builtin; refine tpush Try.elemSym _ rfl _ _ rfl w3.heap.size _ LQ rfl (HT4.out.alloc _) ⟨w4.heap.size, 0, none⟩ 1 (.string sn, .int .i64 ((a : Int) + sa), .bool true) ⟨rfl, rfl, rfl⟩ rfl (news3 w4 (.string sn, .int .i64 ((a : Int) + sa), .bool true) 34) HLN.out (by decide) (by have := HB4.out.size; simp; omega) ?_; intro v5 w5 hT5 hg5 hb5; have HT5 := Hid.in hT5; have HB5 := Hid.in (hb5 w3 (below_alloc HB4.out _)); clear hT5 hg5 hb5))
                          go_roundw
                          case rel => exact ⟨j + 1, by go_num, by omega, HDN.out, by rw [HMT.out]; exact HT5.out, HB5.out⟩
                          case measure => simp [intOf]; omega
                  · obtain rfl : j = x.sy.length := by omega
                    have hd2 := HD.out
                    rw [List.take_length] at hd2
                    have HV : Hid (tabGo 0 0 [] [] xs = tabGo (k + 1) (a + x.bs.length) (ss ++ [a]) (ts ++ x.sy.map (movS a)) (xs.drop (k + 1))) := by
                      have h : tabGo 0 0 [] [] xs = tabGo (k + 1) (a + x.bs.length) (ss ++ [a]) (ts ++ x.sy.map (movS a)) (xs.drop (k + 1)) := by rw [HGO.out, HST.out, if_neg (by rw [HOK.out]; decide), if_neg (by omega), if_neg (by rw [hd2]; decide)]
                      exact h
                    have hTq := HTq.out
                    rw [List.take_length] at hTq
                    have HTT := Hid.in hTq
                    clear hTq hd2 HD HTq
                    have H6q := Hid.in (GOwnV.belowG H63.out HBq.out)
                    have H7q := Hid.in (H73.out.below HBq.out)
                    have HSSL : Hid ((startsV ss).length = ss.length) := by
                      have h : (startsV ss).length = ss.length := by unfold startsV; rw [List.length_map]
                      exact h
                    have HSV : Hid (startsV (ss ++ [a]) = startsV ss ++ [.int .i64 (a : Int)]) := by
                      have h : startsV (ss ++ [a]) = startsV ss ++ [.int .i64 (a : Int)] := by unfold startsV; rw [List.map_append]; rfl
                      exact h
                    have hszw := HBw.out.size
                    go_upto_region 25 with (at_builtin; refine gpush Try.elemI _ rfl _ _ rfl w.heap.size _ (startsV ss) rfl (GOwnV.belowG H6q.out (new_alloc wr _)) ⟨wr.heap.size, 0, none⟩ 1 1 [.int .i64 (a : Int)] rfl rfl (cell_one_new _ _ _) (by simp [Value.oneCell']) (by rw [HSSL.out]; omega) (by rw [HSSL.out]; omega) (by simp; omega) ?_; intro v5 w5 hT5 hg5 hb5 _hnil; obtain ⟨p5, c5, hv5, -, -, -⟩ := hT5.slice; simp only [List.length_append, List.length_cons, List.length_nil, Nat.zero_add] at hv5; subst hv5; have H65 := Hid.in hT5; have HG5 := Hid.in hg5; have HB5 := Hid.in (hb5 w (below_alloc HBw.out _)); clear hT5 hg5 hb5 _hnil)
                    have hAl := new_alloc wr (.cells #[.int .i64 (a : Int)] 3)
                    have h6a := GOwnV.belowG H6q.out hAl
                    have h7a := (show TOwn 34 wr w.heap.size _ _ from H7q.out).below hAl
                    have hTa := (show TOwn 34 wr w3.heap.size _ _ from HTT.out).below hAl
                    have H75 := Hid.in (kept_row h7a HG5.out (rows_apart h7a h6a (by decide)))
                    have HT5 := Hid.in (kept_row hTa HG5.out (rows_apart hTa h6a (by decide)))
                    have hsz5 : w.heap.size ≤ w5.heap.size := HB5.out.size
                    clear hAl h6a h7a hTa H63 H73 H6q H7q HTT HG5
                    have HONE : Hid (∀ q ∈ (x.sy.map (movS a)).map syV, one3 q) := fun q hq => by
                      obtain ⟨y, _, rfl⟩ := List.mem_map.1 hq
                      exact ⟨rfl, rfl, rfl⟩
                    have HLL : Hid ((ts.map syV).length + ((x.sy.map (movS a)).map syV).length ≤ 1048576) := by
                      have h : (ts.map syV).length + ((x.sy.map (movS a)).map syV).length ≤ 1048576 := by
                        rw [List.length_map, List.length_map, List.length_map]
                        omega
                      exact h
                    have HTL : Hid ((ts ++ x.sy.map (movS a)).length ≤ (k + 1) * 4096) := by
                      have h : (ts ++ x.sy.map (movS a)).length ≤ (k + 1) * 4096 := by rw [List.length_append, List.length_map]; omega
                      exact h
                    have HSL : Hid ((ss ++ [a]).length ≤ k + 1) := by
                      have h : (ss ++ [a]).length ≤ k + 1 := by rw [List.length_append]; simp; omega
                      exact h
                    have HMM : Hid ((ts ++ x.sy.map (movS a)).map syV = ts.map syV ++ (x.sy.map (movS a)).map syV) := by
                      have h : (ts ++ x.sy.map (movS a)).map syV = ts.map syV ++ (x.sy.map (movS a)).map syV := List.map_append
                      exact h
                    go_upto_region 26 with (at_builtin; refine tpushOwn Try.elemSym _ rfl _ _ rfl w.heap.size _ (ts.map syV) rfl H75.out w3.heap.size _ _ rfl HT5.out HONE.out HLL.out (by decide) hsz5 ?_; intro v6 w6 hT6 hg6 hb6; obtain ⟨p6', c6', hv6', -, -, -⟩ := hT6.shape; simp only [List.length_map, List.length_append] at hv6'; subst hv6'; have HT6 := Hid.in hT6; have H66 := Hid.in (kept_row H65.out hg6 (rows_apart H65.out H75.out (by decide))); have HB6 := Hid.in (hb6 w HB5.out); clear hT6 hg6 hb6)
                    have c0 := (HB6.out.cell (cell_lt HC0.out)).trans HC0.out
                    go_wp2_with fail
                    go_roundw
                    case rel => exact ⟨k + 1, a + x.bs.length, ss ++ [a], ts ++ x.sy.map (movS a), by go_num, by go_num, by omega, by omega, HSL.out, HTL.out, HV.out, by rw [HSV.out]; exact H66.out, by rw [HMM.out]; exact HT6.out, HB6.out⟩
                    case measure => simp [intOf]; omega
          · have hr1 : ¬ (a : Int) % 4 = 0 := by omega
            have hr2 : ¬ (a : Int).tmod 4 = 0 := by rw [Int.tmod_eq_emod_of_nonneg (by omega)]; exact hr1
            have hb1 : ((a : Int) % 4 != 0) = true := by simpa using hr1
            have hb2 : ((a : Int).tmod 4 != 0) = true := by simpa using hr2
            go_wp2_with fail
            go_round
            case rel => exact ⟨a + 1, by go_num, by omega, by omega⟩
            case measure => simp [intOf]; omega
      · have HE : Hid (tabL xs = ⟨ss, ts, 0, 0⟩) := by
          have h : tabL xs = ⟨ss, ts, 0, 0⟩ := by rw [HT.out, HGO.out, List.drop_eq_nil_of_le (by rw [HN.out]; omega)]; rfl
          exact h
        go_wp2_with fail
        exact bodyPost_ret (v := .tuple #[.slice p6 (startsV ss).length c6, .slice p7 ts.length c7, .int .i64 0, .int .i64 0]) (by simp [results, Try.results18, go_sem]) rfl ⟨_, _, by rw [HE.out]; rfl, by rw [HE.out]; exact HV6.out, by rw [HE.out]; exact HV7.out, HB.out⟩

end Go.Proofs.Ytnmcdkhfjkpklaa
