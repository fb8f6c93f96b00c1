/- symbols.Table, for every list of units. -/
import Derived.Test.YtckpgpgmaccepaaGreatAppM
import Derived.Test.YtckpgpgmaccepaaGreatRObj
namespace Go.Proofs.YtckpgpgmaccepaaGreat
open Go.RowKit

/-- a unit in a list of units -/
def UnitIn (w : World) (b o i : Nat) (x : Ob) : Prop :=
  ∃ (pb ps pf pm : Option Addr) (cb cs cf cm : Nat), (w.cell? ⟨b, o + i * 4, none⟩ = some (.slice pb x.bs.length cb) ∧ w.cell? ⟨b, o + i * 4 + 1, none⟩ = some (.slice ps x.sy.length cs) ∧ w.cell? ⟨b, o + i * 4 + 2, none⟩ = some (.slice pf x.fx.length cf) ∧ w.cell? ⟨b, o + i * 4 + 3, none⟩ = some (.slice pm x.mk_.length cm)) ∧ ObIn w x pb ps pf pm x.bs.length cb x.sy.length cs x.fx.length cf x.mk_.length cm
def Units (w : World) (p : Option Addr) (xs : List Ob) : Prop := 0 < xs.length → ∃ b o, p = some ⟨b, o, none⟩ ∧ ∀ i (h : i < xs.length), UnitIn w b o i xs[i]
theorem Units.below {w w' : World} {p : Option Addr} {xs : List Ob} (h : Units w p xs) (hb : Below w.heap.size w w') : Units w' p xs := fun h0 => by
  obtain ⟨b, o, e, hc⟩ := h h0
  refine ⟨b, o, e, fun i hi => ?_⟩
  obtain ⟨pb, ps, pf, pm, cb, cs, cf, cm, ⟨c0, c1, c2, c3⟩, hI⟩ := hc i hi
  exact ⟨pb, ps, pf, pm, cb, cs, cf, cm, ⟨(hb.cell (cell_lt c0)).trans c0, (hb.cell (cell_lt c1)).trans c1, (hb.cell (cell_lt c2)).trans c2, (hb.cell (cell_lt c3)).trans c3⟩, hI.below hb⟩
def startsV (ss : List Nat) : List Value := ss.map fun (n : Nat) => .int .i64 (n : Int)
def TabIs (xs : List Ob) (w : World) (E : Ending) (w' : World) : Prop :=
  ∃ v2 v3, E = .returned (.tuple #[v2, v3, .int .i64 (tabL xs).e, .int .i64 ((tabL xs).u : Nat)]) ∧ GOwnV 3 w' w.heap.size v2 (startsV (tabL xs).ss) ∧ TOwn 67 w' w.heap.size v3 ((tabL xs).ts.map syV) ∧ Below w.heap.size w w'
theorem tabIs_err {xs : List Ob} {w w' : World} {e : Int} {u : Nat} (h : tabL xs = noTab e u) (hb : Below w.heap.size w w') : TabIs xs w (.returned (.tuple #[.slice none 0 0, .slice none 0 0, .int .i64 e, .int .i64 (u : Nat)])) w' := by
  refine ⟨_, _, by rw [h]; rfl, ?_, ?_, hb⟩
  · rw [h]; exact GOwnV.nil _ _ _
  · rw [h]; exact TOwn.nil _ _ _
theorem rs_good (n : Nat) : ∀ (L : List Sy) (least : Int) (seen : List ByteArray), rsL n least seen L = true → ∀ s ∈ L, least ≤ s.at_ ∧ s.at_ ≤ n ∧ NameP s.name
  | [], _, _, _, s, hs => by cases hs
  | x :: L, least, seen, h, s, hs => by
    unfold rsL at h
    rw [Bool.and_eq_true] at h
    obtain ⟨h1, h2⟩ := h
    have hx : least ≤ x.at_ ∧ x.at_ ≤ n ∧ NameP x.name := by
      unfold symB at h1
      simp only [Bool.and_eq_true, decide_eq_true_eq] at h1
      obtain ⟨⟨⟨_, ha⟩, hb⟩, hc⟩ := h1
      exact ⟨hb, hc, (nmB_iff _).1 ha⟩
    rcases List.mem_cons.1 hs with rfl | hs
    · exact hx
    · obtain ⟨i1, i2, i3⟩ := rs_good n L _ _ h2 s hs
      exact ⟨by omega, i2, i3⟩
theorem ok_parts {o : Ob} (h : okO o = true) : o.bs.length ≤ 65536 ∧ o.sy.length ≤ 4096 ∧ (names o.sy).Nodup ∧ (∀ s ∈ o.sy, 0 ≤ s.at_ ∧ s.at_ ≤ 65536) ∧ ∀ s ∈ o.sy, s.name.size ≤ 16 := by
  unfold okO at h
  simp only [Bool.and_eq_true, decide_eq_true_eq] at h
  obtain ⟨⟨⟨⟨h1, h2, -, -⟩, h3⟩, -⟩, -⟩ := h
  refine ⟨h1, h2, (rs_nodup _ _ _ _ h3).2, fun s hs => ?_, fun s hs => (rs_good _ _ _ _ h3 s hs).2.2.2.2⟩
  obtain ⟨i1, i2, -⟩ := rs_good _ _ _ _ h3 s hs
  exact ⟨i1, by omega⟩

theorem row_lower {w : World} {B B' : Nat} {T : TypeId} {z : Nat} {v : Value} {n : Nat} {xs : List Value} (h : w.ownsRow B T z v n xs) (hB : B' ≤ B) : w.ownsRow B' T z v n xs := by
  obtain ⟨h0, h1⟩ := h
  refine ⟨h0, h1.imp id ?_⟩
  rintro ⟨g, cap, cur, e1, e2, e3⟩
  exact ⟨g, cap, cur, e1, Nat.le_trans hB e2, e3⟩
theorem row_far {w : World} {B b : Nat} {T : TypeId} {z : Nat} {v : Value} {n : Nat} {xs : List Value} (h : w.ownsRow B T z v n xs) (hb : b < B) : v.ownBlock ≠ some b := fun e => absurd (World.ownsRow.lt h _ e).1 (by omega)
theorem gloS_len (L : List Sy) : (gloS L).length ≤ L.length := by unfold gloS; rw [List.length_map]; exact List.length_filter_le _ _

set_option maxRecDepth 20000 in
set_option maxHeartbeats 8000000 in
theorem table_any (p : Option Addr) (n c : Nat) (xs : List Ob) (w : World) (hn : xs.length = n) (hn63 : n ≤ 9223372036854775807) (hx : Units w p xs) : Calls Tryz.prog 23 #[.slice p n c] w (TabIs xs w) := by
  by_cases hbig : 16 < n
  · have HT : Hid (tabL xs = noTab 3 0) := by
      have h : tabL xs = noTab 3 0 := by unfold tabL; rw [if_pos (by omega)]
      exact h
    clear hx hn
    go_enter Tryz.func23, Tryz.ntmps23
    go_wp2_with fail
    exact bodyPost_ret (v := .tuple #[.slice none 0 0, .slice none 0 0, .int .i64 3, .int .i64 0]) (by simp [results, Tryz.results23, go_sem]) rfl (tabIs_err (u := 0) HT.out (below_self _))
  · have HT : Hid (tabL xs = tabGo 0 0 [] [] xs) := by
      have h : tabL xs = tabGo 0 0 [] [] xs := by unfold tabL; rw [if_neg (by omega)]
      exact h
    have HN := Hid.in hn
    have HX := Hid.in hx
    clear hn hx
    have hmm := @run_makeMap Tryz.prog
    go_enter Tryz.func23, Tryz.ntmps23
    go_upto_region 6 with fail
    clear hmm
    have HK0 : Hid (KeyAt (w.alloc (.map #[] 0)) w.heap.size []) := KeyAt.made w
    have HB0 : Hid (Below w.heap.size w (w.alloc (.map #[] 0))) := new_alloc w _
    have hB1 : w.heap.size < (w.alloc (.map #[] 0)).heap.size := by simp
    generalize w.alloc (.map #[] 0) = w1 at *
    go_wp2_with fail
    go_loopw [6, 7, 9, 19] (fun v6 v7 v9 vi wr => ∃ (k e : Nat) (ss : List Nat) (ts : List Sy), vi = .int .i64 k ∧ v9 = .int .i64 e ∧ k ≤ n ∧ e ≤ 65536 ∧ ss.length ≤ k ∧ ts.length ≤ k * 4096 ∧ tabGo 0 0 [] [] xs = tabGo k e ss ts (xs.drop k) ∧ GOwnV 3 wr w1.heap.size v6 (startsV ss) ∧ TOwn 67 wr w1.heap.size v7 (ts.map syV) ∧ KeyAt wr w.heap.size (gloS ts) ∧ Below w.heap.size w wr ∧ w1.heap.size ≤ wr.heap.size) (fun _ _ _ vi _ => n - (intOf vi).toNat)
    case atStart => exact ⟨0, 0, [], [], rfl, rfl, Nat.zero_le _, Nat.zero_le _, Nat.le_refl _, Nat.zero_le _, rfl, GOwnV.nil _ _ _, TOwn.nil _ _ _, HK0.out, HB0.out, Nat.le_refl _⟩
    case round =>
      clear HK0 HB0
      obtain ⟨k, e, ss, ts, rfl, rfl, hk, he, hss, hts, hgo, hV6, hV7, hKr, hBr, hsz⟩ := hrel
      have HGO := Hid.in hgo
      have HV6 := Hid.in hV6
      have HV7 := Hid.in hV7
      have HK := Hid.in hKr
      have HB := Hid.in hBr
      obtain ⟨p6, c6, hv6, -, -, -⟩ := hV6.slice
      obtain ⟨p7, c7, hv7, -, -, -⟩ := hV7.shape
      rw [List.length_map] at hv7
      subst hv6 hv7
      clear hgo hV6 hV7 hKr hBr
      by_cases hlt : k < n
      · have hkl : k < xs.length := by rw [HN.out]; exact hlt
        obtain ⟨b, o, hp, hc⟩ := HX.out (by omega)
        obtain ⟨pb, ps, pf, pm, cb, cs, cf, cm, ⟨c0', c1', c2', c3'⟩, hI'⟩ := hc k hkl
        subst hp
        have c0 := (HB.out.cell (cell_lt c0')).trans c0'
        have c1 := (HB.out.cell (cell_lt c1')).trans c1'
        have c2 := (HB.out.cell (cell_lt c2')).trans c2'
        have c3 := (HB.out.cell (cell_lt c3')).trans c3'
        have HI := Hid.in (hI'.below HB.out)
        have HRW := Hid.in hI'.rs
        have HST := Hid.in (tab_step k e ss ts xs k hkl)
        clear c0' c1' c2' c3' hI' hc
        generalize xs[k] = x at *
        go_upto_region 10 with fail
        have HC2 : Hid (Below wr.heap.size wr (wr.alloc (.cells #[.slice pb x.bs.length cb, .slice ps x.sy.length cs, .slice pf x.fx.length cf, .slice pm x.mk_.length cm] 56))) := new_alloc wr _
        have HS2 : Hid (Blk (wr.alloc (.cells #[.slice pb x.bs.length cb, .slice ps x.sy.length cs, .slice pf x.fx.length cf, .slice pm x.mk_.length cm] 56)) wr.heap.size 56 #[.slice pb x.bs.length cb, .slice ps x.sy.length cs, .slice pf x.fx.length cf, .slice pm x.mk_.length cm]) := Blk.new wr 56 _
        generalize wr.alloc (.cells #[.slice pb x.bs.length cb, .slice ps x.sy.length cs, .slice pf x.fx.length cf, .slice pm x.mk_.length cm] 56) = w2 at *
        have s0 : w2.cell? ⟨wr.heap.size, 0, none⟩ = some (.slice pb x.bs.length cb) := HS2.out.cell 0
        have s1 : w2.cell? ⟨wr.heap.size, 1, none⟩ = some (.slice ps x.sy.length cs) := HS2.out.cell 1
        have s2 : w2.cell? ⟨wr.heap.size, 2, none⟩ = some (.slice pf x.fx.length cf) := HS2.out.cell 2
        have s3 : w2.cell? ⟨wr.heap.size, 3, none⟩ = some (.slice pm x.mk_.length cm) := HS2.out.cell 3
        have HI2 := Hid.in (HI.out.below HC2.out)
        have HB2 := Hid.in (below_step HB.out HC2.out)
        have hR := oright_any x pb ps pf pm _ cb _ cs _ cf _ cm w2 HI2.out
        clear c0 c1 c2 c3
        cases hok : okO x with
        | false =>
          have HV : Hid (tabL xs = noTab 2 k) := by
            have h : tabL xs = noTab 2 k := by rw [HT.out, HGO.out, HST.out, if_pos hok]
            exact h
          rw [hok] at hR
          go_wp2_with (go_at_call 50; refine hR.mono ?_; rintro E w3 ⟨rfl, hb3⟩)
          exact bodyPost_ret (v := .tuple #[.slice none 0 0, .slice none 0 0, .int .i64 2, .int .i64 k]) (by simp [results, Tryz.results23, go_sem]) rfl (tabIs_err HV.out (below_step HB2.out hb3))
        | true =>
          obtain ⟨q1, q2, q3, q4, q5⟩ := ok_parts hok
          have HQ3 := Hid.in q3
          have HQ4 := Hid.in q4
          have HQ5 := Hid.in q5
          clear q3 q4 q5
          have HOK : Hid (okO x = true) := hok
          rw [hok] at hR
          clear hok
          go_upto_region 12 with (go_at_call 50; refine hR.mono ?_; rintro E w3 ⟨rfl, hb3⟩; have HD3 := Hid.in hb3; clear hb3)
          clear hR s0 s1 s2 s3
          have HC3 := Hid.in (below_step HC2.out HD3.out)
          have HB3 := Hid.in (below_step HB.out HC3.out)
          have HS3 := Hid.in (HS2.out.grow HD3.out)
          have HI3 := Hid.in (HI2.out.below HD3.out)
          have HK3 := Hid.in (HK.out.below HC3.out)
          have H63 := Hid.in (HV6.out.belowG HC3.out)
          have H73 := Hid.in (HV7.out.below HC3.out)
          have hsz3 : w1.heap.size ≤ w3.heap.size := Nat.le_trans hsz HC3.out.size
          have s0 : w3.cell? ⟨wr.heap.size, 0, none⟩ = some (.slice pb x.bs.length cb) := HS3.out.cell 0
          have s1 : w3.cell? ⟨wr.heap.size, 1, none⟩ = some (.slice ps x.sy.length cs) := HS3.out.cell 1
          have hNs := fun W => nextStart_any e W (by omega)
          obtain ⟨hn1, hn2, -⟩ := nextS_le e
          have HQB : Hid (0 < x.sy.length → ∀ bb oo, ps = some ⟨bb, oo, none⟩ → bb < w.heap.size) := fun h0 bb oo hbb => by
            obtain ⟨b', o', e', hc'⟩ := HRW.out (by rw [List.length_map]; exact h0)
            rw [hbb] at e'
            injection e' with e'
            injection e' with e1 e2
            subst e1
            obtain ⟨d0, _, _⟩ := cells3 hc' 0 (by rw [List.length_map]; exact h0)
            exact cell_lt d0
          have hgl : (gloS ts).length ≤ 1000000 := Nat.le_trans (gloS_len ts) (by omega)
          have hAG := addGlobals_any w.heap.size (gloS ts) ps _ cs x.sy k w3 HK3.out rfl q2 hgl HI3.out.rs HQ3.out HI3.out.fit.sy (by omega) (fun h0 bb oo hbb => by have := HQB.out h0 bb oo hbb; omega)
          clear HC2 HD3 HS2 HI2 HB2 HI HV6 HV7 HK
          generalize hNE : nextS e = st at *
          have HNE := Hid.in hNE
          clear hNE
          go_upto_region 14 with (go_at_call 51; refine (hNs _).mono ?_; rintro E W ⟨rfl, rfl⟩)
          clear hNs s0
          by_cases hend : 65536 < st + x.bs.length
          · have HV : Hid (tabL xs = noTab 3 k) := by
              have h : tabL xs = noTab 3 k := by rw [HT.out, HGO.out, HST.out, if_neg (by rw [HOK.out]; decide), if_pos (by omega)]
              exact h
            go_wp2_with fail
            exact bodyPost_ret (v := .tuple #[.slice none 0 0, .slice none 0 0, .int .i64 3, .int .i64 k]) (by simp [results, Tryz.results23, go_sem]) rfl (tabIs_err HV.out HB3.out)
          · cases hd : dupS (gloS ts) x.sy with
            | true =>
              have HV : Hid (tabL xs = noTab 170 k) := by
                have h : tabL xs = noTab 170 k := by rw [HT.out, HGO.out, HST.out, if_neg (by rw [HOK.out]; decide), if_neg (by omega), if_pos hd]
                exact h
              rw [hd] at hAG
              go_wp2_with (go_at_call 52; refine hAG.mono ?_; rintro E w4 ⟨rfl, -, hg4⟩)
              exact bodyPost_ret (v := .tuple #[.slice none 0 0, .slice none 0 0, .int .i64 170, .int .i64 k]) (by simp [results, Tryz.results23, go_sem]) rfl (tabIs_err HV.out (HB3.out.grown hg4 HB3.out.size (fun k hk => by cases hk; exact Nat.le_refl _)))
            | false =>
              have HV : Hid (tabGo 0 0 [] [] xs = tabGo (k + 1) (st + x.bs.length) (ss ++ [st]) (ts ++ x.sy.map (movS st)) (xs.drop (k + 1))) := by
                have h : tabGo 0 0 [] [] xs = tabGo (k + 1) (st + x.bs.length) (ss ++ [st]) (ts ++ x.sy.map (movS st)) (xs.drop (k + 1)) := by rw [HGO.out, HST.out, if_neg (by rw [HOK.out]; decide), if_neg (by omega), if_neg (by rw [hd]; decide)]
                exact h
              have HGL : Hid (gloS (ts ++ x.sy.map (movS st)) = gloS ts ++ gloS x.sy) := by
                have h : gloS (ts ++ x.sy.map (movS st)) = gloS ts ++ gloS x.sy := by rw [gloS_app, gloS_mov]
                exact h
              rw [hd] at hAG
              go_upto_region 18 with (go_at_call 52; refine hAG.mono ?_; rintro E w4 ⟨rfl, hK4, hg4⟩; have HK4 := Hid.in (hK4 rfl); have HG4 := Hid.in hg4; clear hK4 hg4)
              clear hAG s1
              have H64 := Hid.in (kept_row H63.out HG4.out (.inr (row_far H63.out hB1)))
              have H74 := Hid.in (kept_row H73.out HG4.out (.inr (row_far H73.out hB1)))
              have HB4 := Hid.in (HB3.out.grown HG4.out HB3.out.size (fun k hk => by cases hk; exact Nat.le_refl _))
              have hsz4 : w1.heap.size ≤ w4.heap.size := Nat.le_trans hsz3 HG4.out.size
              have HS4 := Hid.in (HS3.out.kept HG4.out (fun e => by injection e with e; omega))
              have hssl : (startsV ss).length = ss.length := by unfold startsV; rw [List.length_map]
              have HSSL := Hid.in hssl
              clear hssl
              have HSV : Hid (startsV (ss ++ [st]) = startsV ss ++ [.int .i64 (st : Int)]) := by
                have h : startsV (ss ++ [st]) = startsV ss ++ [.int .i64 (st : Int)] := by unfold startsV; rw [List.map_append]; rfl
                exact h
              go_upto_region 19 with (at_builtin; refine gpush Tryz.elemI _ rfl _ _ rfl w1.heap.size _ (startsV ss) rfl (GOwnV.belowG H64.out (new_alloc w4 _)) ⟨w4.heap.size, 0, none⟩ 1 1 [.int .i64 (st : Int)] rfl rfl (cell_one_new _ _ _) (by simp [Value.oneCell']) (by rw [HSSL.out]; omega) (by rw [HSSL.out]; omega) (by simp; omega) ?_; intro v5 w5 hT5 hg5 hb5 _hnil; obtain ⟨p5, c5, hv5, -, -, -⟩ := hT5.slice; simp only [List.length_append, List.length_cons, List.length_nil, Nat.zero_add] at hv5; subst hv5; have H65 := Hid.in hT5; have HG5 := Hid.in hg5; have HB5 := Hid.in ((below_alloc HB4.out (.cells #[.int .i64 (st : Int)] 3)).grown hg5 (below_alloc HB4.out (.cells #[.int .i64 (st : Int)] 3)).size (fun k hk => Nat.le_trans (Nat.le_of_lt hB1) (World.ownsRow.lt H64.out k hk).1)); clear hT5 hg5 hb5 _hnil)
              have hAl := new_alloc w4 (.cells #[.int .i64 (st : Int)] 3)
              have h6a := GOwnV.belowG H64.out hAl
              have H75 := Hid.in (kept_row ((show TOwn 67 w4 w1.heap.size _ _ from H74.out).below hAl) HG5.out (rows_apart ((show TOwn 67 w4 w1.heap.size _ _ from H74.out).below hAl) h6a (by decide)))
              have HK5 := Hid.in ((HK4.out.below hAl).kept HG5.out (fun e => row_far h6a hB1 e.symm))
              have HS5 := Hid.in ((HS4.out.grow hAl).kept HG5.out (blk_not_row h6a (HS4.out.grow hAl) (by decide)))
              have hsz5 : w1.heap.size ≤ w5.heap.size := Nat.le_trans hsz4 (Nat.le_trans hAl.size HG5.out.size)
              clear hAl h6a
              have s1 : w5.cell? ⟨wr.heap.size, 1, none⟩ = some (.slice ps x.sy.length cs) := HS5.out.cell 1
              have hAM := appendMoved_any w1.heap.size _ ts ps _ cs x.sy st w5 _ _ H65.out hsz5 H75.out (by omega) rfl q2 (by omega) (HRW.out.below HB5.out) (fun y hy => Nat.le_trans (HQ5.out y hy) (by decide)) HQ4.out (fun h0 bb oo hbb => Nat.lt_trans (HQB.out h0 bb oo hbb) hB1)
              have HTL : Hid ((ts ++ x.sy.map (movS st)).length ≤ (k + 1) * 4096) := by
                have h : (ts ++ x.sy.map (movS st)).length ≤ (k + 1) * 4096 := by rw [List.length_append, List.length_map]; omega
                exact h
              have HSL : Hid ((ss ++ [st]).length ≤ k + 1) := by
                have h : (ss ++ [st]).length ≤ k + 1 := by rw [List.length_append]; simp; omega
                exact h
              clear H63 H73 H64 H74 HS3 HS4 HI3 HK3 HK4 HG4 HG5 HS5 HRW HQ3 HQ4 HQ5 HQB HST HGO
              go_wp2_with (go_at_call 53; refine hAM.mono ?_; rintro E w6 ⟨v6', rfl, hT6, h26, hb6⟩; obtain ⟨p6', c6', hv6', -, -, -⟩ := hT6.shape; simp only [List.length_map, List.length_append] at hv6'; subst hv6'; have HT6 := Hid.in hT6; have H26 := Hid.in h26; have HD6 := Hid.in hb6; clear hT6 h26 hb6)
              go_roundw
              case rel => exact ⟨k + 1, st + x.bs.length, ss ++ [st], ts ++ x.sy.map (movS st), by go_num, by go_num, by omega, by omega, HSL.out, HTL.out, HV.out, by rw [HSV.out]; exact H26.out, HT6.out, by rw [HGL.out]; exact HK5.out.at HD6.out hB1, HB5.out.trans (HD6.out.mono (Nat.le_of_lt hB1)), Nat.le_trans hsz5 HD6.out.size⟩
              case measure => simp [intOf]; omega
      · have HE : Hid (tabL xs = ⟨ss, ts, 0, 0⟩) := by
          have h : tabL xs = ⟨ss, ts, 0, 0⟩ := by rw [HT.out, HGO.out, List.drop_eq_nil_of_le (by rw [HN.out]; omega)]; rfl
          exact h
        go_wp2_with fail
        exact bodyPost_ret (v := .tuple #[.slice p6 (startsV ss).length c6, .slice p7 ts.length c7, .int .i64 0, .int .i64 0]) (by simp [results, Tryz.results23, go_sem]) rfl ⟨_, _, by rw [HE.out]; rfl, by rw [HE.out]; exact row_lower HV6.out (Nat.le_of_lt hB1), by rw [HE.out]; exact row_lower HV7.out (Nat.le_of_lt hB1), HB.out⟩

end Go.Proofs.YtckpgpgmaccepaaGreat
