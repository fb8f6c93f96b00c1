/- switchyardlaw07.SymbolsStand: true, for every list of units. -/
import Derived.Test.YtnmcdkhfjkpklaaAwkW
import Derived.Test.YtnmcdkhfjkpklaaFouW
import Derived.Test.YtnmcdkhfjkpklaaHvyW
namespace Go.Proofs.Ytnmcdkhfjkpklaa
open Go.RowKit

theorem ok_within {o : Ob} (h : okO o = true) (s : Sy) (hs : s ∈ o.sy) : 0 ≤ s.at_ ∧ s.at_ ≤ o.bs.length := by
  unfold okO at h
  simp only [Bool.and_eq_true, decide_eq_true_eq] at h
  obtain ⟨⟨⟨⟨-, -, -, -⟩, h3⟩, -⟩, -⟩ := h
  obtain ⟨i1, i2, -⟩ := rs_good _ _ _ _ h3 s hs
  exact ⟨i1, i2⟩
/-- the table's label at k, where it lies -/
theorem labs_cells {W : World} {p3 : Option Addr} {xs : List Ob} (h : Row3 W p3 ((labs 0 xs).map syV)) {i j : Nat} (hi : i < xs.length) (hj : j < xs[i].sy.length) (hl : cntAt xs i + j < (labs 0 xs).length) :
    ∃ b3 o3, p3 = some ⟨b3, o3, none⟩ ∧ W.cell? ⟨b3, o3 + (cntAt xs i + j) * 3, none⟩ = some (.string xs[i].sy[j].name) ∧ W.cell? ⟨b3, o3 + (cntAt xs i + j) * 3 + 1, none⟩ = some (.int .i64 (((nextS (endAt 0 xs i) : Nat) : Int) + xs[i].sy[j].at_)) ∧ W.cell? ⟨b3, o3 + (cntAt xs i + j) * 3 + 2, none⟩ = some (.bool xs[i].sy[j].g) := by
  obtain ⟨b3, o3, hp, hc⟩ := h (by rw [List.length_map]; omega)
  obtain ⟨d0, d1, d2⟩ := cells3 hc (cntAt xs i + j) (by rw [List.length_map]; exact hl)
  have he : (labs 0 xs)[cntAt xs i + j] = movS (nextS (endAt 0 xs i)) xs[i].sy[j] := by
    have := labs_at xs 0 i j hi hj
    rw [List.getElem?_eq_getElem hl] at this
    exact Option.some.inj this
  simp only [List.getElem_map, he, syV, movS] at d0 d1 d2
  exact ⟨b3, o3, hp, d0, d1, d2⟩
theorem cnt_lt {xs : List Ob} {i j : Nat} (hi : i < xs.length) (hj : j < xs[i].sy.length) : cntAt xs i + j < (labs 0 xs).length := by
  rw [labs_len]
  have h1 := cntAt_succ xs i hi
  have h2 := cntAt_le xs (i + 1) hi
  omega

set_option maxRecDepth 20000 in
set_option maxHeartbeats 8000000 in
theorem stand_walk (p : Option Addr) (n c : Nat) (xs : List Ob) (w : World) (hn : xs.length = n) (hn63 : n ≤ 9223372036854775807) (hx : Units w p xs) (hW : ∀ x ∈ xs, ObW x) :
    Calls Try.prog 6 #[.slice p n c] w fun E w' => E = .returned (.bool true) ∧ Below w.heap.size w w' := by
  have hH := heavy_any p n c xs w hn hn63 hx hW
  go_enter Try.func6, Try.ntmps6
  go_wp2_with (go_at_call 16; refine Hid.out ?_)
  refine Lib.hid ?_
  refine hH.mono ?_
  rintro E W ⟨b, z0, rfl, rfl⟩
  clear hH hW
  have HB0 : Hid (Below w.heap.size w (w.drewN z0)) := below_draws (below_self w) z0
  generalize w.drewN z0 = w0 at *
  cases b with
  | true =>
    go_wp2_with (go_at_call 15; refine (awake_any w0).mono ?_; rintro E w1 ⟨rfl, hb1⟩)
    go_ret
    exact ⟨rfl, below_step HB0.out hb1⟩
  | false =>
    have HX := Hid.in hx
    have HN := Hid.in hn
    have hT := table_any p n c xs w0 hn hn63 (hx.below HB0.out)
    clear hx hn
    by_cases he : (tabL xs).e = 0
    · have HE := Hid.in he
      obtain ⟨h16, hTL, hok, hend, -⟩ := tab_good he
      unfold TabIs at hT
      rw [hTL] at hT
      have HOK := Hid.in hok
      have HEND := Hid.in hend
      clear he hTL hok hend
      go_upto_region 4 with (go_at_call 9; refine hT.mono ?_; rintro E w1 ⟨v2, v3, rfl, h2, h3, hb1⟩; have HB1 := Hid.in (below_step HB0.out hb1); obtain ⟨p2, c2, hv2, hr2, -, -⟩ := h2.slice; obtain ⟨p3, c3, hv3, hcap1, hcap2, hr3⟩ := h3.row3; rw [List.length_map] at hv3 hcap1; rw [show (startsV (begs 0 xs)).length = n from by unfold startsV; rw [List.length_map, begs_len, HN.out]] at hv2; subst hv2 hv3; have HR2 := Hid.in hr2; have HR3 := Hid.in hr3; clear h2 h3 hr2 hr3 hb1)
      clear hT
      have hlab : (labs 0 xs).length ≤ 9223372036854775807 := by have := Nat.le_trans hcap1 hcap2; unfold maxLen at this; omega
      clear hcap1 hcap2
      have hnn : ((n : Int) != (n : Int)) = false := by simp
      go_wp2_with fail
      go_loopw [7, 8, 9] (fun v7 v8 v9 wr => ∃ i : Nat, v9 = .int .i64 i ∧ i ≤ n ∧ v7 = .int .i64 (endAt 0 xs i : Nat) ∧ v8 = .int .i64 (cntAt xs i : Nat) ∧ Below w.heap.size w wr ∧ Below w1.heap.size w1 wr) (fun _ _ v9 _ => n - (intOf v9).toNat)
      case atStart => exact ⟨0, rfl, Nat.zero_le _, by rw [endAt_zero]; rfl, by rw [cntAt_zero]; rfl, HB1.out, below_self _⟩
      case round =>
        obtain ⟨i, rfl, hi, rfl, rfl, hb, hb1⟩ := hrel
        have HB := Hid.in hb
        have HD := Hid.in hb1
        clear hb hb1
        by_cases hlt : i < n
        · as_aux_lemma =>
            have hil : i < xs.length := by rw [HN.out]; exact hlt
            obtain ⟨b2, o2, hp2, k0⟩ := starts_cell (HR2.out.below HD.out) i hil
            subst hp2
            obtain ⟨b, o, hp, hc⟩ := HX.out.below HB.out (by omega)
            obtain ⟨pb, ps, pf, pm, cb, cs, cf, cm, ⟨c0, c1, c2', c3'⟩, hI⟩ := hc i hil
            subst hp
            have hoki := HOK.out xs[i] (List.getElem_mem hil)
            have hR := oright_any xs[i] pb ps pf pm _ cb _ cs _ cf _ cm wr hI
            rw [hoki] at hR
            have hen := HEND.out i (Nat.le_of_lt hil)
            have hen1 := HEND.out (i + 1) hil
            have HES := Hid.in (endAt_succ xs 0 i hil)
            have HCS := Hid.in (cntAt_succ xs i hil)
            have HCL := Hid.in (fun j (hj : j < xs[i].sy.length) => cnt_lt hil hj)
            have HLC := Hid.in (fun (W : World) (h : Row3 W p3 ((labs 0 xs).map syV)) j (hj : j < xs[i].sy.length) => labs_cells h hil hj (cnt_lt hil hj))
            have HIN := Hid.in (fun s hs => ok_within hoki s hs)
            have HI := Hid.in hI
            have hyl := syl_le HE.out i hil
            have HK0 := Hid.in k0
            have HC0 := Hid.in c0
            have HC1 := Hid.in c1
            clear hc hI hoki
            rw [HES.out] at hen1
            obtain ⟨hs1, hs2, hs3⟩ := nextS_le (endAt 0 xs i)
            generalize nextS (endAt 0 xs i) = st at *
            generalize endAt 0 xs i = en at *
            generalize cntAt xs i = ct at *
            generalize xs[i] = x at *
            have hw1 : IntKind.i64.wrap ((st : Int) - (en : Int)) = (st : Int) - (en : Int) := by rw [IntKind.wrap_i64]; omega
            have hq1 : (st : Int) - (en : Int) ≤ 3 := by omega
            have hq2 : (st : Int) % 4 = 0 := by omega
            have hq3 : (st : Int).tmod 4 = 0 := by rw [Int.tmod_eq_emod_of_nonneg (by omega)]; exact hq2
            have hw2 : IntKind.i64.wrap ((st : Int) + (x.bs.length : Int)) = (st : Int) + (x.bs.length : Int) := by rw [IntKind.wrap_i64]; omega
            go_upto_region 14 with (go_at_call 23; refine hR.mono ?_; rintro E w3 ⟨rfl, hb3⟩; have HD3 := Hid.in hb3; clear hb3)
            clear hR k0 c0 c1 c2' c3' hw1 hq1 hq2 hq3
            have k0 := (HD3.out.cell (cell_lt HK0.out)).trans HK0.out
            have c0 := (HD3.out.cell (cell_lt HC0.out)).trans HC0.out
            go_quiet (fail)
            have HB4 : Hid (Below w.heap.size w (w3.drewN nq)) := below_draws (below_step HB.out HD3.out) nq
            have HD4 : Hid (Below w1.heap.size w1 (w3.drewN nq)) := below_draws (below_step HD.out HD3.out) nq
            have HG4 : Hid (Below wr.heap.size wr (w3.drewN nq)) := below_draws HD3.out nq
            generalize w3.drewN nq = w4 at *
            have HK4 := Hid.in ((HG4.out.cell (cell_lt HK0.out)).trans HK0.out)
            have HC4 := Hid.in ((HG4.out.cell (cell_lt HC1.out)).trans HC1.out)
            have HI4 := Hid.in (HI.out.rs.below HG4.out)
            clear k0 c0 HB HD HD3 HG4 HK0 HC0 HC1 HI
            go_wp2_with fail
            go_loopw [8, 10] (fun v8 v10 wq => ∃ j m : Nat, v10 = .int .i64 j ∧ j ≤ x.sy.length ∧ v8 = .int .i64 (m : Int) ∧ m = ct + j ∧ Below w.heap.size w wq ∧ Below w1.heap.size w1 wq ∧ Below w4.heap.size w4 wq) (fun _ v10 _ => x.sy.length - (intOf v10).toNat)
            case atStart => exact ⟨0, ct, rfl, Nat.zero_le _, rfl, rfl, HB4.out, HD4.out, below_self _⟩
            case round =>
              obtain ⟨j, m, rfl, hj, rfl, hm, hbq, hdq, hgq⟩ := hrel
              have HM := Hid.in hm
              clear hm
              have HBq := Hid.in hbq
              have HDq := Hid.in hdq
              have HGq := Hid.in hgq
              clear hbq hdq hgq HB4 HD4
              have c1 := (HGq.out.cell (cell_lt HC4.out)).trans HC4.out
              by_cases hjl : j < x.sy.length
              · as_aux_lemma =>
                  obtain ⟨bs, os, hps, hcs⟩ := (HI4.out.below HGq.out) (by rw [List.length_map]; omega)
                  subst hps
                  obtain ⟨d0, d1, d2⟩ := cells3 hcs j (by rw [List.length_map]; exact hjl)
                  simp only [List.getElem_map, syV] at d0 d1 d2
                  have hat := HIN.out x.sy[j] (List.getElem_mem hjl)
                  have hcl := HCL.out j hjl
                  have HLQ := Hid.in (fun (W : World) (h : Row3 W p3 ((labs 0 xs).map syV)) => HLC.out W h j hjl)
                  clear hcs HLC HCL HIN
                  generalize x.sy[j] = y at *
                  obtain ⟨sn, sa, sg⟩ := y
                  simp only at d0 d1 d2 hat HLQ
                  have hw3 : IntKind.i64.wrap ((st : Int) + sa) = (st : Int) + sa := by rw [IntKind.wrap_i64]; omega
                  rw [← HM.out] at hcl HLQ
                  have hw4 : IntKind.i64.wrap ((m : Int) + 1) = (m : Int) + 1 := by rw [IntKind.wrap_i64]; omega
                  have hgt : decide ((st : Int) + (x.bs.length : Int) < (st : Int) + sa) = false := decide_eq_false (by omega)
                  have hcl2 : (m : Int) < ((labs 0 xs).length : Int) := by omega
                  have hcl4 : decide ((labs 0 xs).length ≤ m) = false := decide_eq_false (by omega)
                  have hgt2 : decide ((x.bs.length : Int) < sa) = false := decide_eq_false (by omega)
                  go_upto_region 19 with fail
                  have HS5 : Hid (Blk (wr.alloc (.cells #[.string sn, .int .i64 sa, .bool sg] 34)) wr.heap.size 34 #[.string sn, .int .i64 sa, .bool sg]) := Blk.new wr 34 _
                  have HB5 : Hid (Below w.heap.size w (wr.alloc (.cells #[.string sn, .int .i64 sa, .bool sg] 34))) := below_alloc HBq.out _
                  have HD5 : Hid (Below w1.heap.size w1 (wr.alloc (.cells #[.string sn, .int .i64 sa, .bool sg] 34))) := below_alloc HDq.out _
                  have HG5 : Hid (Below w4.heap.size w4 (wr.alloc (.cells #[.string sn, .int .i64 sa, .bool sg] 34))) := below_alloc HGq.out _
                  generalize wr.alloc (.cells #[.string sn, .int .i64 sa, .bool sg] 34) = w5 at *
                  generalize wr.heap.size = g5 at *
                  clear d0 d1 d2 c1
                  have s0 : w5.cell? ⟨g5, 0, none⟩ = some (.string sn) := HS5.out.cell 0
                  have s1 : w5.cell? ⟨g5, 1, none⟩ = some (.int .i64 sa) := HS5.out.cell 1
                  have s2 : w5.cell? ⟨g5, 2, none⟩ = some (.bool sg) := HS5.out.cell 2
                  obtain ⟨b3, o3, hp3, t0, t1, t2⟩ := HLQ.out w5 (HR3.out.below HD5.out)
                  subst hp3
                  have k0 := (HG5.out.cell (cell_lt HK4.out)).trans HK4.out
                  go_quiet (fail)
                  go_wp2_with fail
                  go_roundw
                  case rel => exact ⟨j + 1, m + 1, by go_num, by omega, by push_cast; rfl, by have := HM.out; omega, below_draws HB5.out _, below_draws HD5.out _, below_draws HG5.out _⟩
                  case measure => simp [intOf]; omega
              · go_wp2_with fail
                go_roundw
                case rel => exact ⟨i + 1, by go_num, by omega, by rw [HES.out]; push_cast; rfl, by rw [HCS.out, show m = ct + x.sy.length by have := HM.out; omega], HBq.out, HDq.out⟩
                case measure => simp [intOf]; omega
        · obtain rfl : i = n := by omega
          have HCN : Hid (cntAt xs i = (labs 0 xs).length) := by
            have h : cntAt xs i = (labs 0 xs).length := by rw [labs_len, HN.out]
            exact h
          have hen := HEND.out i (by rw [HN.out]; exact Nat.le_refl _)
          rw [HCN.out]
          generalize endAt 0 xs i = en at *
          have hF := found_any p i c xs p2 c2 wr HN.out (HX.out.below HB.out) HE.out (HR2.out.below HD.out)
          go_wp2_with (first
            | (go_at_call 24; refine hF.mono ?_; rintro E w4 ⟨rfl, hb4⟩; have HB4 := Hid.in (below_step HB.out hb4); clear hb4)
            | (go_at_call 15; refine (awake_any w4).mono ?_; rintro E w5 ⟨rfl, hb5⟩))
          go_ret
          exact ⟨rfl, below_step HB4.out hb5⟩
    · obtain ⟨e1, e2, e3⟩ := tab_bad he
      unfold TabIs at hT
      rw [HN.out] at e3
      generalize tabL xs = T at *
      obtain ⟨ss, ts, te, tu⟩ := T
      simp only at *
      subst e1 e2
      go_upto_region 4 with (go_at_call 9; refine hT.mono ?_; rintro E w1 ⟨v2, v3, rfl, h2, h3, hb1⟩; have HB1 := Hid.in (below_step HB0.out hb1); obtain ⟨p2, c2, hv2, -, -, -⟩ := h2.slice; obtain ⟨p3, c3, hv3, -, -, -⟩ := h3.row3; rw [List.length_map] at hv3; rw [show (startsV []).length = 0 from rfl] at hv2; subst hv2 hv3; clear h2 h3 hb1)
      clear hT
      have hnb : (te != 0) = true := by simpa using he
      rcases e3 with e3 | e3
      · go_wp2_with (go_at_call 15; refine (awake_any w1).mono ?_; rintro E w2 ⟨rfl, hb2⟩)
        go_ret
        exact ⟨rfl, below_step HB1.out hb2⟩
      · subst e3
        go_wp2_with (go_at_call 15; refine (awake_any w1).mono ?_; rintro E w2 ⟨rfl, hb2⟩)
        go_ret
        exact ⟨rfl, below_step HB1.out hb2⟩

end Go.Proofs.Ytnmcdkhfjkpklaa
