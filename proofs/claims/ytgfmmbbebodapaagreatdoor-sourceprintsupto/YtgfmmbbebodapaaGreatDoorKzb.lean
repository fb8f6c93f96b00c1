/- Texts put together: RefQ, RefR. -/
import Derived.Test.YtgfmmbbebodapaaGreatDoorKza
import Derived.Test.YtgfmmbbebodapaaGreatDoorKo
import Derived.Test.YtgfmmbbebodapaaGreatDoorKq

/- switchyardref04.Check answers what source.Check does. -/
namespace Go.Proofs.YtgfmmbbebodapaaGreatDoor
open Go.RowKit

set_option maxRecDepth 20000 in
set_option maxHeartbeats 1000000 in
theorem refCheck_any (p : Option Addr) (n c : Nat) (xs : List Src) (w : World) (hn : xs.length = n) (hn63 : n ≤ 9223372036854775807) (hx : Items w p xs) :
    Calls Tryz.prog 17 #[.slice p n c] w fun E w' => E = .returned (.tuple #[.int .i64 (checkL xs).1, .int .i64 (checkL xs).2]) ∧ Below w.heap.size w w' := by
  by_cases hbig : 4096 < n
  · have HC : Hid (checkL xs = (3, 0)) := by
      have : checkL xs = (3, 0) := by unfold checkL; rw [if_pos (by omega)]
      exact this
    generalize checkL xs = r at *
    obtain rfl := HC.out
    go_enter Tryz.func17, Tryz.ntmps17
    go_wp2
    go_ret2
    exact ⟨rfl, below_self _⟩
  · obtain ⟨r, hr⟩ : ∃ r, r = checkL xs := ⟨_, rfl⟩
    have HC : Hid (r = chkAt 0 xs) := by
      have : r = chkAt 0 xs := by rw [hr]; unfold checkL; rw [if_neg (by omega)]
      exact this
    rw [← hr]
    clear hr
    have HX := Hid.in hx
    have HN := Hid.in hn
    clear hx hn
    go_enter Tryz.func17, Tryz.ntmps17
    go_wp2
    go_loopw [4] (fun i wr => ∃ k : Nat, k ≤ n ∧ i = .int .i64 k ∧ chkAt 0 xs = chkAt k (xs.drop k) ∧ Below w.heap.size w wr) (fun i _ => n - (intOf i).toNat)
    case atStart => exact ⟨0, Nat.zero_le _, rfl, rfl, below_self _⟩
    case round =>
      obtain ⟨k, hk, rfl, hch, hb⟩ := hrel
      have HCH := Hid.in hch
      have HB := Hid.in hb
      clear hch hb
      by_cases hlt : k < n
      · have hlt' : k < xs.length := by rw [HN.out]; exact hlt
        obtain ⟨b, o, hp, hc⟩ := HX.out.below HB.out (by omega)
        subst hp
        obtain ⟨q, e, hR, hrow, hfit⟩ := hc k hlt'
        have HST := Hid.in (chk_step xs k hlt')
        have hM := fun (mb : Bool) (hmb : mb = true ↔ MayP (xs[k]'hlt')) => refMay_any (xs[k]'hlt') hfit q (xs[k]'hlt').d.length e wr rfl hrow mb hmb
        have HIT := Hid.in hc
        have HR := Hid.in hR
        clear hc hR hrow hfit
        generalize xs[k] = x at *
        cases hmb : mayB x with
        | false =>
          have hM1 := hM false (by rw [← hmb]; exact mayB_iff x)
          have HRR : Hid (r = (2, k)) := by
            have : r = _ := HC.out
            rw [this, HCH.out, HST.out, if_pos hmb]; exact rfl
          clear hM hmb
          go_wp2_with (first
            | (refine step_load_at HR.out rfl 28 (.tmp 16) rfl rfl _ Tryz.underlying28 rfl Tryz.sz28 ?_)
            | (go_at_call 40; refine hM1.mono ?_; rintro E w5 ⟨rfl, hb5⟩))
          obtain rfl := HRR.out
          go_ret2
          exact ⟨rfl, below_step HB.out hb5⟩
        | true =>
          have hM1 := hM true ⟨fun _ => (mayB_iff x).1 hmb, fun _ => rfl⟩
          have HCK : Hid (wr.cell? ⟨b, o + k * 9, none⟩ = some (.int .u8 x.k)) := HR.out 0 _ rfl
          clear hM
          have hmb' : ¬ mayB x = false := by rw [hmb]; simp
          by_cases hk3 : x.k = 3
          · have hwr := wrapK k (by omega)
            have htn : ((k : Int) + 1).toNat = k + 1 := by omega
            have hk0 : (0 : Int) ≤ (k : Int) + 1 := by omega
            rw [hk3] at HCK
            by_cases hk1 : k + 1 < n
            · have hlt1 : k + 1 < xs.length := by rw [HN.out]; exact hk1
              obtain ⟨q1, e1, hR1, -, -⟩ := HIT.out (k + 1) hlt1
              have htk : takesB (xs.drop (k + 1)) = (decide ((xs[k + 1]'hlt1).k = 3) || (decide ((xs[k + 1]'hlt1).k = 2) && decide ((xs[k + 1]'hlt1).o = 3))) := by
                rw [List.drop_eq_getElem_cons hlt1]; rfl
              have HC1 : Hid (wr.cell? ⟨b, o + (k + 1) * 9, none⟩ = some (.int .u8 (xs[k + 1]'hlt1).k)) := hR1 0 _ rfl
              have HC4 : Hid (wr.cell? ⟨b, o + (k + 1) * 9 + 3, none⟩ = some (.int .u8 (xs[k + 1]'hlt1).o)) := hR1 3 _ rfl
              clear hR1
              have hkn1 : (k : Int) + 1 < (n : Int) := by omega
              generalize (xs[k + 1]'hlt1).k = k1 at *
              generalize (xs[k + 1]'hlt1).o = o1 at *
              by_cases j3 : k1 = 3
              · have htb : takesB (xs.drop (k + 1)) = true := by rw [htk]; simp [j3]
                subst j3
                clear htk
                have HNX : Hid (chkAt 0 xs = chkAt (k + 1) (xs.drop (k + 1))) := by
                  have : chkAt 0 xs = _ := HCH.out
                  rw [this, HST.out, if_neg hmb', if_neg (by rw [htb]; simp)]; exact rfl
                clear hmb htb hmb'
                go_wp2_with (first
                  | (refine step_load_at HR.out rfl 28 (.tmp 16) rfl rfl _ Tryz.underlying28 rfl Tryz.sz28 ?_)
                  | (go_at_call 40; refine hM1.mono ?_; rintro E w5 ⟨rfl, hb5⟩; have hck := (hb5.cell (p := ⟨b, o + k * 9, none⟩) (cell_lt HCK.out)).trans HCK.out; have hc1 := (hb5.cell (p := ⟨b, o + (k + 1) * 9, none⟩) (cell_lt HC1.out)).trans HC1.out; have hc4 := (hb5.cell (p := ⟨b, o + (k + 1) * 9 + 3, none⟩) (cell_lt HC4.out)).trans HC4.out; have HB5 := Hid.in hb5; clear hb5))
                go_roundw
                case rel => exact ⟨k + 1, by omega, by go_num, HNX.out, below_step HB.out HB5.out⟩
                case measure => simp [intOf]; omega
              · by_cases j2 : k1 = 2
                · subst j2
                  by_cases p3 : o1 = 3
                  · subst p3
                    have htb : takesB (xs.drop (k + 1)) = true := by rw [htk]; rfl
                    clear htk
                    have HNX : Hid (chkAt 0 xs = chkAt (k + 1) (xs.drop (k + 1))) := by
                      have : chkAt 0 xs = _ := HCH.out
                      rw [this, HST.out, if_neg hmb', if_neg (by rw [htb]; simp)]; exact rfl
                    clear hmb htb hmb'
                    go_wp2_with (first
                      | (refine step_load_at HR.out rfl 28 (.tmp 16) rfl rfl _ Tryz.underlying28 rfl Tryz.sz28 ?_)
                      | (go_at_call 40; refine hM1.mono ?_; rintro E w5 ⟨rfl, hb5⟩; have hck := (hb5.cell (p := ⟨b, o + k * 9, none⟩) (cell_lt HCK.out)).trans HCK.out; have hc1 := (hb5.cell (p := ⟨b, o + (k + 1) * 9, none⟩) (cell_lt HC1.out)).trans HC1.out; have hc4 := (hb5.cell (p := ⟨b, o + (k + 1) * 9 + 3, none⟩) (cell_lt HC4.out)).trans HC4.out; have HB5 := Hid.in hb5; clear hb5))
                    go_roundw
                    case rel => exact ⟨k + 1, by omega, by go_num, HNX.out, below_step HB.out HB5.out⟩
                    case measure => simp [intOf]; omega
                  · have htb : takesB (xs.drop (k + 1)) = false := by rw [htk]; simp [p3]
                    have p3b : (o1 != 3) = true := by simp [p3]
                    clear htk p3
                    have HRR : Hid (r = (182, k)) := by
                      have : r = _ := HC.out
                      rw [this, HCH.out, HST.out, if_neg hmb', if_pos ⟨hk3, htb⟩]; exact rfl
                    clear hmb htb hmb'
                    go_wp2_with (first
                      | (refine step_load_at HR.out rfl 28 (.tmp 16) rfl rfl _ Tryz.underlying28 rfl Tryz.sz28 ?_)
                      | (go_at_call 40; refine hM1.mono ?_; rintro E w5 ⟨rfl, hb5⟩; have hck := (hb5.cell (p := ⟨b, o + k * 9, none⟩) (cell_lt HCK.out)).trans HCK.out; have hc1 := (hb5.cell (p := ⟨b, o + (k + 1) * 9, none⟩) (cell_lt HC1.out)).trans HC1.out; have hc4 := (hb5.cell (p := ⟨b, o + (k + 1) * 9 + 3, none⟩) (cell_lt HC4.out)).trans HC4.out; have HB5 := Hid.in hb5; clear hb5))
                    obtain rfl := HRR.out
                    go_ret2
                    exact ⟨rfl, below_step HB.out HB5.out⟩
                · have htb : takesB (xs.drop (k + 1)) = false := by rw [htk]; simp [j2, j3]
                  have j2b : (k1 != 2) = true := by simp [j2]
                  have j3b : (k1 != 3) = true := by simp [j3]
                  clear htk j2 j3
                  have HRR : Hid (r = (182, k)) := by
                    have : r = _ := HC.out
                    rw [this, HCH.out, HST.out, if_neg hmb', if_pos ⟨hk3, htb⟩]; exact rfl
                  clear hmb htb hmb'
                  go_wp2_with (first
                    | (refine step_load_at HR.out rfl 28 (.tmp 16) rfl rfl _ Tryz.underlying28 rfl Tryz.sz28 ?_)
                    | (go_at_call 40; refine hM1.mono ?_; rintro E w5 ⟨rfl, hb5⟩; have hck := (hb5.cell (p := ⟨b, o + k * 9, none⟩) (cell_lt HCK.out)).trans HCK.out; have hc1 := (hb5.cell (p := ⟨b, o + (k + 1) * 9, none⟩) (cell_lt HC1.out)).trans HC1.out; have hc4 := (hb5.cell (p := ⟨b, o + (k + 1) * 9 + 3, none⟩) (cell_lt HC4.out)).trans HC4.out; have HB5 := Hid.in hb5; clear hb5))
                  obtain rfl := HRR.out
                  go_ret2
                  exact ⟨rfl, below_step HB.out HB5.out⟩
            · have htb : takesB (xs.drop (k + 1)) = false := by
                rw [List.drop_eq_nil_of_le (by rw [HN.out]; omega)]; rfl
              have hkn1 : ¬ (k : Int) + 1 < (n : Int) := by omega
              have HRR : Hid (r = (182, k)) := by
                have : r = _ := HC.out
                rw [this, HCH.out, HST.out, if_neg hmb', if_pos ⟨hk3, htb⟩]; exact rfl
              clear hmb htb hmb'
              go_wp2_with (first
                | (refine step_load_at HR.out rfl 28 (.tmp 16) rfl rfl _ Tryz.underlying28 rfl Tryz.sz28 ?_)
                | (go_at_call 40; refine hM1.mono ?_; rintro E w5 ⟨rfl, hb5⟩; have hck := (hb5.cell (p := ⟨b, o + k * 9, none⟩) (cell_lt HCK.out)).trans HCK.out;  have HB5 := Hid.in hb5; clear hb5))
              obtain rfl := HRR.out
              go_ret2
              exact ⟨rfl, below_step HB.out HB5.out⟩
          · have HNX : Hid (chkAt 0 xs = chkAt (k + 1) (xs.drop (k + 1))) := by
              have : chkAt 0 xs = _ := HCH.out
              rw [this, HST.out, if_neg hmb', if_neg (fun h => hk3 h.1)]; exact rfl
            clear hmb hmb'
            go_wp2_with (first
              | (refine step_load_at HR.out rfl 28 (.tmp 16) rfl rfl _ Tryz.underlying28 rfl Tryz.sz28 ?_)
              | (go_at_call 40; refine hM1.mono ?_; rintro E w5 ⟨rfl, hb5⟩; have hck := (hb5.cell (p := ⟨b, o + k * 9, none⟩) (cell_lt HCK.out)).trans HCK.out; have HB5 := Hid.in hb5; clear hb5))
            go_roundw
            case rel => exact ⟨k + 1, by omega, by go_num, HNX.out, below_step HB.out HB5.out⟩
            case measure => simp [intOf]; omega
      · have HRR : Hid (r = (0, 0)) := by
          have : r = _ := HC.out
          rw [this, HCH.out, show xs.drop k = [] from List.drop_eq_nil_of_le (by rw [HN.out]; omega)]; exact rfl
        go_wp2
        obtain rfl := HRR.out
        go_ret2
        exact ⟨rfl, HB.out⟩

end Go.Proofs.YtgfmmbbebodapaaGreatDoor

/- switchyardref04.Parse answers what source.Parse does, for every text. -/
namespace Go.Proofs.YtgfmmbbebodapaaGreatDoor
open Go.RowKit

set_option maxRecDepth 20000 in
set_option maxHeartbeats 1000000 in
theorem refParse_long (s : ByteArray) (w : World) (hs : 65536 < s.size) (hm : s.size ≤ 9223372036854775807) : Calls Tryz.prog 13 #[.string s] w (ParseIs ([], (3, 0, 0)) w) := by
  have HB := Hid.in (Blk.new w 37 (faultC (3, 0, 0)))
  have HW := Hid.in (new_alloc w (.cells (faultC (3, 0, 0)) 37))
  go_enter Tryz.func13, Tryz.ntmps13
  go_wp2_with (refine step_store_new rfl 37 (.tmp 3) (.tmp 17) rfl rfl rfl (faultC (3, 0, 0)) rfl Tryz.sz37 rfl (fault_one _) ?_)
  have hld := load37 HB.out rfl
  exact bodyPost_ret (v := .tuple #[nilV, .agg (faultC (3, 0, 0))]) (by simp [results, Tryz.results13, asAddr, hld]) rfl (ParseIs.none HW.out)

set_option maxRecDepth 100000 in
set_option maxHeartbeats 1000000 in
theorem refParse_short (s : ByteArray) (w : World) (he : Env w) (hs : ¬ 65536 < s.size) : Calls Tryz.prog 13 #[.string s] w (ParseIs (parseL s.data.toList) w) := by
  have hsz := Lib.size_eq s
  have hL := fun W => refLines_any s W (by omega)
  have hfitL := linesL_fit s.data.toList
  have hcnt := linesL_length s.data.toList
  have HPL : Hid (parseL s.data.toList = match goP 0 [] [] (linesL s.data.toList) with
    | .inl f => ([], f)
    | .inr (xs, ln) => if (checkL xs).1 = 0 then (xs, (0, 0, 0)) else ([], ((checkL xs).1, ln.getD (checkL xs).2 0, 1))) := by
    have : parseL s.data.toList = _ := if_neg (by rw [← hsz]; exact hs)
    exact this
  rw [← hsz] at hfitL hcnt
  clear hsz
  generalize parseL s.data.toList = R at *
  generalize linesL s.data.toList = ts at *
  have hE1 := Hid.in (he.below (new_alloc w (.cells fault0 37)))
  have h5 := he.lt
  go_enter Tryz.func13, Tryz.ntmps13
  go_wp2_with (go_at_call 36; refine (hL _).mono ?_; rintro E w1 ⟨vt, rfl, hvt, hb1⟩; have HQ : Hid (QSt w w1 w.heap.size vt nilV nilV ts [] []) := ⟨(Blk.new w 37 fault0).grow hb1, by rw [size_one] at hvt; exact hvt, IOwn.nil _ _, GOwnV.nil _ _ _, hE1.out.below hb1, below_step (new_alloc w (.cells fault0 37)) hb1, h5⟩; obtain ⟨pt, ct, hpt0, -, -, -⟩ := hvt.slice; rw [texts_l] at hpt0; subst hpt0; clear hvt hb1)
  have hsm : s.size ≤ 65536 := by omega
  clear hs
  generalize decide ((65536 : Int) < (s.size : Int)) = bb
  clear hL hE1 he h5
  go_loopw [4, 5, 7] (fun v vl i wr => ∃ (k : Nat) (L : List (Src × Value)) (ln : List Nat), k ≤ ts.length ∧ i = .int .i64 k ∧ QSt w wr w.heap.size (.slice pt ts.length ct) v vl ts L ln ∧ goP 0 [] [] ts = goP k (L.map Prod.fst) ln (ts.drop k) ∧ L.length = ln.length ∧ L.length ≤ 4096 ∧ ∀ q ∈ L, Fit q.1) (fun _ _ i _ => ts.length - (intOf i).toNat)
  case atStart => exact ⟨0, [], [], Nat.zero_le _, rfl, HQ.out, rfl, rfl, by simp, fun q hq => by simp at hq⟩
  case round =>
    obtain ⟨k, L, ln, hk, rfl, hQ, hgo, hll, hl4, hfq⟩ := hrel
    have HGO := Hid.in hgo
    have HQK := Hid.in hQ
    have HFQ := Hid.in hfq
    have HLL := Hid.in hll
    obtain ⟨pv, cv, hv, hcv1, hcv2, -⟩ := hQ.itm.shape
    subst hv
    clear hgo hQ hfq hll
    by_cases hlt : k < ts.length
    · obtain ⟨pt', ct', ept, hrow, -, -⟩ := HQK.out.txt.slice
      injection ept with ept e2 e3
      clear e2 e3
      obtain ⟨tb, to', hpt, hcc⟩ := hrow (by rw [texts_l]; omega)
      have hpt2 := ept.trans hpt
      clear ept hpt hrow
      subst hpt2
      have hck : wr.cell? ⟨tb, to' + k, none⟩ = some (.string (bytesOf ts[k])) := by
        rw [hcc k (by rw [texts_l]; omega)]; simp [texts, hlt]
      clear hcc
      have hlk := hfitL ts[k] (List.getElem_mem hlt)
      have hLn := refLine_any (bytesOf ts[k]) wr (by rw [bytesOf_size]; omega)
      rw [bytesOf_list] at hLn
      have hfy := lineL_fit ts[k] (by omega)
      have HST := Hid.in (goP_step (L.map Prod.fst) ln ts k hlt)
      generalize lineL ts[k] = r0 at *
      obtain ⟨y, ok, er, col⟩ := r0
      simp only at hfy
      have hrs := HQK.out.res.lt
      generalize bytesOf ts[k] = tk at *
      go_wp2_with (first
        | (go_at_call 9; refine hLn.mono ?_; rintro E w5 ⟨d, rfl, hd, hb5⟩; obtain ⟨qd, cd, rfl, -⟩ := hd.rowB; have HQ5 := Hid.in (HQK.out.grow hb5); have HD5 := Hid.in (hd.lowerV (B' := w.heap.size + 1) hrs); clear hd hb5; unfold LineV; dsimp only)
        | (refine step_store_new rfl 28 (.tmp 8) (.tmp 32) rfl rfl rfl (cellsOf y (.slice qd y.d.length cd)) rfl Tryz.sz28 rfl (cells_one _ _ _ _) ?_; have HQ6 := Hid.in (HQ5.out.grow (new_alloc w5 (.cells (cellsOf y (.slice qd y.d.length cd)) 28))); have HX6 := Hid.in (Blk.new w5 28 (cellsOf y (.slice qd y.d.length cd))); have HD6 := Hid.in (HD5.out.alloc (.cells (cellsOf y (.slice qd y.d.length cd)) 28)); generalize w5.alloc (.cells (cellsOf y (.slice qd y.d.length cd)) 28) = w6 at *; refine Hid.out ?_))
      refine Lib.hid ?_
      clear hLn HQ5 HD5 HQK
      by_cases her : er = 0
      · subst her
        cases ok with
        | false =>
          go_wp2
          go_roundw
          case rel => exact ⟨k + 1, L, ln, by omega, by go_num, HQ6.out, by rw [HGO.out, HST.out, if_pos rfl, if_neg (by simp)], HLL.out, hl4, HFQ.out⟩
          case measure => simp [intOf]; omega
        | true =>
          by_cases h4096 : L.length = 4096
          · have HRR : Hid (R = ([], (3, k + 1, 1))) := by
              have : R = _ := HPL.out
              rw [this, HGO.out, HST.out, if_pos rfl, if_pos rfl, if_pos (by rw [List.length_map]; exact h4096)]; exact rfl
            go_wp2_with (refine step_store_blk HQ6.out.res rfl 37 (.tmp 3) (.tmp 50) rfl rfl rfl (faultC (3, k + 1, 1)) rfl Tryz.sz37 rfl (fault_one _) ?_; intro w7 hB7 hg7; refine Hid.out ?_)
            refine Lib.hid ?_
            have hld := load37 hB7 rfl
            go_wp2
            rw [HRR.out]
            exact bodyPost_ret (v := .tuple #[nilV, .agg (faultC (3, k + 1, 1))]) (by simp [results, Tryz.results13, asAddr, hld]) rfl (ParseIs.none (HQ6.out.low.trans (below_grown hg7 (Nat.le_refl _) (Nat.le_of_lt HQ6.out.res.lt))))
          · obtain ⟨pl, cl, hvl, -, -, -⟩ := HQ6.out.lns.slice
            have hll2 : (lnV ln).length = ln.length := List.length_map _
            rw [hll2] at hvl
            subst hvl
            have HL2 := Hid.in hll2
            clear hll2
            have hln4 : ln.length ≤ 4096 := by rw [← HLL.out]; exact hl4
            have hrs6 := HQ6.out.res.lt
            have HNX : Hid (goP 0 [] [] ts = goP (k + 1) ((L ++ [(y, Value.slice qd y.d.length cd)]).map Prod.fst) (ln ++ [k + 1]) (ts.drop (k + 1))) := by
              have : goP 0 [] [] ts = _ := HGO.out
              rw [this, HST.out, if_pos rfl, if_pos rfl, if_neg (by rw [List.length_map]; exact h4096), List.map_append]; exact rfl
            have hc9 : (cellsOf y (.slice qd y.d.length cd)).size = 9 := rfl
            go_wp2_with (first
              | (refine step_load_blk HX6.out rfl 28 (.tmp 8) rfl rfl (cellsOf y (.slice qd y.d.length cd)) (List.prefix_refl _) _ Tryz.underlying28 rfl Tryz.sz28 ?_)
              | (at_builtin; refine Hid.out ?_))
            all_goals refine Lib.hid ?_
            all_goals first | rw [build9] | rw [build9b]
            all_goals refine gpush9 _ rfl _ _ rfl (w.heap.size + 1) _ L rfl (HQ6.out.grow (new_alloc w6 _)).itm w6.heap.size y qd y.d.length cd rfl (Blk.new w6 28 _) (HD6.out.alloc _) (by omega) (by simp; omega) ?_
            all_goals intro v' w7 hI7 hg7 hb7
            all_goals obtain ⟨p7, c7, hv7, -, -, -⟩ := hI7.shape
            all_goals have HQ7 := Hid.in ((HQ6.out.grow (new_alloc w6 (.cells (cellsOf y (.slice qd y.d.length cd)) 28))).push hI7 hg7 (hb7 _ (Below.refl _ _)))
            all_goals have hr7 := HQ7.out.res.lt
            all_goals rw [List.length_append, List.length_singleton] at hv7
            all_goals subst hv7
            all_goals clear hI7 hg7 hb7
            all_goals go_wp2_with (at_builtin; refine gpush Tryz.elemI _ rfl _ _ rfl (w.heap.size + 1) _ (lnV ln) rfl (HQ7.out.lns.alloc _) ⟨w7.heap.size, 0, none⟩ 1 1 [.int .i64 ((k : Int) + 1)] rfl rfl (cell_one_new _ _ _) (by simp [Value.oneCell']) (by rw [HL2.out]; omega) (by rw [HL2.out]; omega) (by simp; omega) ?_; intro vl' w8 hown8 hg8 hbel8 _hnil8; refine Hid.out ?_)
            all_goals refine Lib.hid ?_
            all_goals have HQ8 : Hid (QSt w w8 w.heap.size (.slice (some ⟨tb, to', none⟩) ts.length ct) (.slice p7 (L.length + 1) c7) vl' ts (L ++ [(y, .slice qd y.d.length cd)]) (ln ++ [k + 1])) := (HQ7.out.grow (new_alloc w7 _)).pushLn (by rw [lnV_snoc]; exact hown8) hg8 (hbel8 _ (Below.refl _ _))
            all_goals clear hown8 hg8 hbel8
            all_goals go_wp2
            all_goals go_roundw
            all_goals first
              | (simp [intOf]; omega)
              | exact ⟨k + 1, L ++ [(y, .slice qd y.d.length cd)], ln ++ [k + 1], by omega, by go_num, HQ8.out, HNX.out, by rw [List.length_append, List.length_append, HLL.out]; rfl, by rw [List.length_append, List.length_singleton]; omega, fun q hq => by
                  rcases List.mem_append.1 hq with hq | hq
                  · exact HFQ.out q hq
                  · rw [List.mem_singleton] at hq; subst hq; exact hfy⟩
      · have HRR : Hid (R = ([], (er, k + 1, col))) := by
          have : R = _ := HPL.out
          rw [this, HGO.out, HST.out, if_neg her]; exact rfl
        go_wp2_with (refine step_store_blk HQ6.out.res rfl 37 (.tmp 3) (.tmp 42) rfl rfl rfl (faultC (er, k + 1, col)) rfl Tryz.sz37 rfl (fault_one _) ?_; intro w7 hB7 hg7; refine Hid.out ?_)
        refine Lib.hid ?_
        have hld := load37 hB7 rfl
        go_wp2
        rw [HRR.out]
        exact bodyPost_ret (v := .tuple #[nilV, .agg (faultC (er, k + 1, col))]) (by simp [results, Tryz.results13, asAddr, hld]) rfl (ParseIs.none (HQ6.out.low.trans (below_grown hg7 (Nat.le_refl _) (Nat.le_of_lt HQ6.out.res.lt))))
    · have hkn : ts.drop k = [] := List.drop_eq_nil_of_le (by omega)
      have HRE : Hid (R = if (checkL (L.map Prod.fst)).1 = 0 then (L.map Prod.fst, (0, 0, 0)) else ([], ((checkL (L.map Prod.fst)).1, ln.getD (checkL (L.map Prod.fst)).2 0, 1))) := by
        have : R = _ := HPL.out
        rw [this, HGO.out, hkn]; exact rfl
      have hml : (L.map Prod.fst).length = L.length := List.length_map _
      have hC := refCheck_any pv L.length cv (L.map Prod.fst) wr hml (by omega) (HQK.out.itm.items HFQ.out rfl)
      have HIX : Hid ((checkL (L.map Prod.fst)).1 ≠ 0 → (checkL (L.map Prod.fst)).2 < ln.length) := fun h => by
        have h2 : ¬ 4096 < (L.map Prod.fst).length := by rw [hml]; omega
        unfold checkL at h ⊢
        rw [if_neg h2] at h ⊢
        have := chk_idx (L.map Prod.fst) 0 h
        rw [hml, HLL.out] at this
        omega
      generalize checkL (L.map Prod.fst) = ck at *
      obtain ⟨ce, ci⟩ := ck
      simp only at hC
      clear hml hkn
      by_cases hce : ce = 0
      · subst hce
        have HRR : Hid (R = (L.map Prod.fst, (0, 0, 0))) := by
          have : R = _ := HRE.out
          rw [this]; exact rfl
        go_wp2_with (first
          | (go_at_call 17; refine hC.mono ?_; rintro E w5 ⟨rfl, hb5⟩; have HQ5 := Hid.in (HQK.out.grow hb5); clear hb5)
          | (refine step_store_blk HQ5.out.res rfl 37 (.tmp 3) (.tmp 74) rfl rfl rfl (faultC (0, 0, 0)) rfl Tryz.sz37 rfl (fault_one _) ?_; intro w7 hB7 hg7; refine Hid.out ?_))
        refine Lib.hid ?_
        have hld := load37 hB7 rfl
        have HI7 : Hid (IOwn w7 w.heap.size (.slice pv L.length cv) L) := by
          have h5 := HQ5.out.itm
          have : IOwn w7 (w.heap.size + 1) (.slice pv L.length cv) L := ⟨by
            refine World.ownsRow.kept h5.row hg7 ?_
            rcases h5.row.2 with ⟨e, _⟩ | ⟨g, c', cur, e, e2, _⟩
            · rw [e]; exact .inl rfl
            · rw [e]; refine .inr ?_; simp only [Value.ownBlock]; intro ee; injection ee with ee; omega, fun q hq => (h5.dat q hq).grownOther hg7 (.inr ((h5.dat q hq).not_low (Nat.lt_succ_self _)).symm)⟩
          exact this.lower (Nat.le_succ _)
        go_wp2
        rw [HRR.out]
        exact bodyPost_ret (v := .tuple #[.slice pv L.length cv, .agg (faultC (0, 0, 0))]) (by simp [results, Tryz.results13, asAddr, hld]) rfl ⟨_, L, rfl, rfl, HI7.out, HFQ.out, HQ5.out.low.trans (below_grown hg7 (Nat.le_refl _) (Nat.le_of_lt HQ5.out.res.lt))⟩
      · have hix := HIX.out hce
        have HRR : Hid (R = ([], (ce, ln.getD ci 0, 1))) := by
          have : R = _ := HRE.out
          rw [this, if_neg hce]; exact rfl
        rcases HQK.out.lns.shape with ⟨_, en⟩ | ⟨g, cap, hvl, ho⟩
        · have := congrArg List.length en
          rw [show (lnV ln).length = ln.length from List.length_map _] at this
          rw [List.length_nil] at this; omega
        rw [show (lnV ln).length = ln.length from List.length_map _] at hvl
        subst hvl
        have hgr := ho.base
        have HOC := Hid.in ((ho.cell ci (by rw [show (lnV ln).length = ln.length from List.length_map _]; exact hix)).trans (lnV_at ln ci hix))
        have hgl := ho.lt
        have hlnv := HLL.out
        generalize ln.getD ci 0 = lv at *
        clear ho HRE HIX
        have HLL2 := Hid.in hlnv
        have hl0 : ln.length ≤ 4096 := by omega
        clear hlnv
        go_wp2_with (go_at_call 17; refine hC.mono ?_; rintro E w5 ⟨rfl, hb5⟩; have HQ5 := Hid.in (HQK.out.grow hb5); have hcl := (hb5.cell (p := ⟨g, ci, none⟩) hgl).trans HOC.out; clear hb5)
        have c0 : w5.cell? ⟨w.heap.size, 0, none⟩ = some (.int .i64 0) := HQ5.out.res.cell 0
        have c1 : w5.cell? ⟨w.heap.size, 1, none⟩ = some (.int .i64 0) := HQ5.out.res.cell 1
        have c2 : w5.cell? ⟨w.heap.size, 2, none⟩ = some (.int .i64 0) := HQ5.out.res.cell 2
        have z0 := HQ5.out.res.free 0
        have z1 := HQ5.out.res.free 1
        have z2 := HQ5.out.res.free 2
        have hne : ¬ g = w.heap.size := by omega
        have hne' : ¬ w.heap.size = g := by omega
        go_region
        all_goals
          go_wp2
          obtain ⟨w6, he6, hB6, hg6⟩ := set3 rfl HQ5.out.res (ce, lv, 1)
          have he7 : (((w5.setCell ⟨w.heap.size, 0, none⟩ (.int .i64 ce)).setCell ⟨w.heap.size, 1, none⟩ (.int .i64 (lv : Int))).setCell ⟨w.heap.size, 2, none⟩ (.int .i64 1)) = w6 := he6
          rw [he7]
          have hld := load37 (w := w6.drew) hB6 rfl
          rw [HRR.out]
          exact bodyPost_ret (v := .tuple #[nilV, .agg (faultC (ce, lv, 1))]) (by simp [results, Tryz.results13, asAddr, hld]) rfl (ParseIs.none (below_draws (HQ5.out.low.trans (below_grown hg6 (Nat.le_refl _) (Nat.le_of_lt HQ5.out.res.lt))) 1))

theorem refParse_any (s : ByteArray) (w : World) (he : Env w) (hm : s.size ≤ 9223372036854775807) : Calls Tryz.prog 13 #[.string s] w (ParseIs (parseL s.data.toList) w) := by
  by_cases h : 65536 < s.size
  · have hp : parseL s.data.toList = ([], (3, 0, 0)) := if_pos (by rw [← Lib.size_eq]; exact h)
    rw [hp]
    exact refParse_long s w h hm
  · exact refParse_short s w he h

end Go.Proofs.YtgfmmbbebodapaaGreatDoor
