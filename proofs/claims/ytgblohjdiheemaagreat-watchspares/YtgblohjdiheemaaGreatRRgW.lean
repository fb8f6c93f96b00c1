/- switchyardref09.Right answers P9.3. -/
import Derived.Test.YtgblohjdiheemaaGreatRRgL
import Derived.Test.YtgblohjdiheemaaGreatRfrW
import Derived.Test.YtgblohjdiheemaaGreatKao
namespace Go.Proofs.YtgblohjdiheemaaGreat
open Go.RowKit

set_option maxRecDepth 20000 in
set_option maxHeartbeats 40000000 in
theorem rightR_any (m : IM) (pb pk ps pu : Option Addr) (nb cb nk ck ns cs nu cu : Nat) (w : World) (h : ImIn w m pb pk ps pu nb cb nk ck ns cs nu cu) :
    Calls Tryz.prog 44 #[.agg (imA pb pk ps pu nb cb nk ck ns cs nu cu)] w fun E w' => E = .returned (.bool (okI m)) ∧ Below w.heap.size w w' := by
  have H := Hid.in h
  have hkb := h.kb
  have hcb := h.mb
  have hnk := h.mc
  have hns := h.ms
  have hnu := h.mu
  clear h
  have HE : Hid (okI m = (decide (nb ≤ 65536) && rightS m.si nk && keysB m.ks && quietB m.bs m.si && unitsB nb m.un)) := by
    have : okI m = (decide (nb ≤ 65536) && rightS m.si nk && keysB m.ks && quietB m.bs m.si && unitsB nb m.un) := by
      unfold okI; rw [H.out.lk, H.out.lb]
    exact this
  obtain ⟨r, hrr⟩ : ∃ r, okI m = r := ⟨_, rfl⟩
  rw [hrr]
  rw [hrr] at HE
  clear hrr
  have HK0 : Hid (Blk (w.alloc (.cells (imA pb pk ps pu nb cb nk ck ns cs nu cu) 27)) w.heap.size 27 (imA pb pk ps pu nb cb nk ck ns cs nu cu)) := Blk.new _ _ _
  have HB0 : Hid (Below w.heap.size w (w.alloc (.cells (imA pb pk ps pu nb cb nk ck ns cs nu cu) 27))) := new_alloc _ _
  have k0 : (w.alloc (.cells (imA pb pk ps pu nb cb nk ck ns cs nu cu) 27)).cell? ⟨w.heap.size, 0, none⟩ = some (.slice pb nb cb) := HK0.out.cell 0
  have k1 : (w.alloc (.cells (imA pb pk ps pu nb cb nk ck ns cs nu cu) 27)).cell? ⟨w.heap.size, 1, none⟩ = some (.slice pk nk ck) := HK0.out.cell 1
  have k2 : (w.alloc (.cells (imA pb pk ps pu nb cb nk ck ns cs nu cu) 27)).cell? ⟨w.heap.size, 2, none⟩ = some (.slice ps ns cs) := HK0.out.cell 2
  have k3 : (w.alloc (.cells (imA pb pk ps pu nb cb nk ck ns cs nu cu) 27)).cell? ⟨w.heap.size, 3, none⟩ = some (.slice pu nu cu) := HK0.out.cell 3
  have hS := fun W (hW : Below w.heap.size w W) => refRight_any ps ns cs m.si (nk : Int) W H.out.ls H.out.ms (H.out.below hW).rs
  by_cases h6 : nb ≤ 65536
  case neg =>
    have q1 : decide ((65536 : Int) < (nb : Int)) = true := decide_eq_true (by omega)
    rw [decide_eq_false h6, Bool.false_and, Bool.false_and, Bool.false_and, Bool.false_and] at HE
    go_enter Tryz.func44, Tryz.ntmps44
    go_wp2_with fail
    go_ret
    exact ⟨by rw [HE.out]; rfl, HB0.out⟩
  have q1 : decide ((65536 : Int) < (nb : Int)) = false := decide_eq_false (by omega)
  rw [decide_eq_true h6, Bool.true_and] at HE
  by_cases h16 : nu ≤ 16
  case neg =>
    have q2 : decide ((16 : Int) < (nu : Int)) = true := decide_eq_true (by omega)
    have hf : unitsB nb m.un = false := by
      unfold unitsB
      rw [decide_eq_false (by rw [H.out.lu]; exact fun h => h16 h.1), Bool.false_and]
    rw [hf, Bool.and_false] at HE
    clear hf
    go_enter Tryz.func44, Tryz.ntmps44
    go_wp2_with fail
    go_ret
    exact ⟨by rw [HE.out]; rfl, HB0.out⟩
  have q2 : decide ((16 : Int) < (nu : Int)) = false := decide_eq_false (by omega)
  cases hs : rightS m.si nk with
  | false =>
    rw [hs] at hS
    rw [hs, Bool.false_and, Bool.false_and, Bool.false_and] at HE
    go_enter Tryz.func44, Tryz.ntmps44
    go_wp2_with (go_at_call 62; refine (hS _ HB0.out).mono ?_; rintro e w1 ⟨rfl, hb1⟩)
    go_ret
    exact ⟨by rw [HE.out]; rfl, below_step HB0.out hb1⟩
  | true =>
    obtain ⟨h64, h256, hat⟩ := right_sites hs
    rw [hs] at hS
    rw [hs, Bool.true_and] at HE
    have HAT := Hid.in hat
    have HUR := Hid.in (@units_ref nb m.un h6 (by rw [H.out.lu]; exact h16))
    have HUN := Hid.in (fun i => @units_no nb m.un i h6 (by rw [H.out.lu]; exact h16))
    have HKF : Hid (keysB m.ks = false → r = false) := fun h => by have e : r = false := by rw [HE.out, h, Bool.false_and, Bool.false_and]
                                                                   exact e
    have HQF : Hid (quietB m.bs m.si = false → r = false) := fun h => by have e : r = false := by rw [HE.out, h, Bool.and_false, Bool.false_and]
                                                                         exact e
    have HUF : Hid (unitsB nb m.un = false → r = false) := fun h => by have e : r = false := by rw [HE.out, h, Bool.and_false]
                                                                       exact e
    have HYES : Hid (keysB m.ks = true → quietB m.bs m.si = true → unitsB nb m.un = true → r = true) := fun h1 h2 h3 => by
      have e : r = true := by rw [HE.out, h1, h2, h3]; rfl
      exact e
    clear hs hat HE
    go_enter Tryz.func44, Tryz.ntmps44
    go_wp2_with (go_at_call 62; refine (hS _ HB0.out).mono ?_; rintro e w1 ⟨rfl, hb1⟩; have HK1 := Hid.in (HK0.out.grow hb1); have HB1 := Hid.in (below_step HB0.out hb1); clear hb1)
    have HI := Hid.in (H.out.below HB1.out)
    clear k0 k1 k2 k3 hS HK0 HB0 H
    go_loopw [3] (fun vi wr => ∃ j : Nat, vi = .int .i64 j ∧ j ≤ nk ∧ (∀ i, i < j → keyP m.ks i = true) ∧ Below w1.heap.size w1 wr) (fun vi _ => nk - (intOf vi).toNat)
    case atStart => exact ⟨0, rfl, Nat.zero_le _, fun i h => absurd h (Nat.not_lt_zero _), below_self w1⟩
    case round =>
      obtain ⟨j, rfl, hj, hgo, hb⟩ := hrel
      have HGO := Hid.in hgo
      have HB := Hid.in hb
      clear hgo hb
      have k1 : wr.cell? ⟨w.heap.size, 1, none⟩ = some (.slice pk nk ck) := (HK1.out.grow HB.out).cell 1
      by_cases hlt : j < nk
      · have hjT : j < m.ks.length := by rw [HI.out.lk]; exact hlt
        obtain ⟨b, o, rfl, -⟩ := strV_cell (HI.out.below HB.out).rk (by omega)
        go_wp2_with fail
        go_loopw [4] (fun vi ws => ∃ k : Nat, vi = .int .i64 k ∧ k ≤ j ∧ (∀ i (hi : i < k) (hj : i < m.ks.length), m.ks[i] ≠ m.ks[j]) ∧ Below w1.heap.size w1 ws) (fun vi _ => j - (intOf vi).toNat)
        case atStart => exact ⟨0, rfl, Nat.zero_le _, fun i h => absurd h (Nat.not_lt_zero _), HB.out⟩
        case round =>
          obtain ⟨k, rfl, hk, hno, hb2⟩ := hrel
          have HNO := Hid.in hno
          have HB2 := Hid.in hb2
          obtain ⟨b', o', e', hc⟩ := strV_cell (HI.out.below HB2.out).rk (by omega)
          obtain ⟨rfl, rfl⟩ : b = b' ∧ o = o' := by cases e'; exact ⟨rfl, rfl⟩
          have k1 : wr.cell? ⟨w.heap.size, 1, none⟩ = some (.slice (some ⟨b, o, none⟩) nk ck) := (HK1.out.grow HB2.out).cell 1
          have cj := hc j hjT
          by_cases hkj : k < j
          · have hkT : k < m.ks.length := by omega
            have ck := hc k hkT
            have hkn : k < nk := by omega
            by_cases he : m.ks[k] = m.ks[j]
            · have HF : Hid (r = false) := HKF.out (key_twice hjT hkj he)
              rw [he] at ck
              clear hno hb2 hc e' he
              generalize m.ks[j] = x at *
              go_wp2_with fail
              go_quiet (fail)
              go_wp2
              go_ret
              exact ⟨by rw [HF.out]; rfl, below_draws (below_step HB1.out HB2.out) _⟩
            · have HN2 : Hid (∀ i (hi : i < k + 1) (hj : i < m.ks.length), m.ks[i] ≠ m.ks[j]) := fun i hi hl => by
                by_cases e : i = k
                · subst e; exact he
                · exact HNO.out i (by omega) hl
              have hsl := text_ne3 he
              clear hno hb2 hc e' he HNO
              generalize m.ks[k] = y at *
              generalize m.ks[j] = x at *
              have hsb : (y.toList == x.toList) = false := by simpa using hsl
              have hsd : decide (y.toList = x.toList) = false := decide_eq_false hsl
              go_wp2_with fail
              go_quiet (fail)
              go_wp2
              go_roundw
              case rel => exact ⟨k + 1, by go_num, by omega, HN2.out, below_draws HB2.out _⟩
              case measure => simp [intOf]; omega
          · obtain rfl : k = j := by omega
            have hnm := refName_any m.ks[k] wr (HI.out.ksz _ (List.getElem_mem hjT))
            cases hn : nmB m.ks[k] with
            | false =>
              have HF : Hid (r = false) := HKF.out (key_noname hjT hn)
              rw [hn] at hnm
              clear hno hb2 hc e' HNO hn
              generalize m.ks[k] = x at *
              go_wp2_with (go_at_call 63; refine hnm.mono ?_; rintro e w4 ⟨rfl, rfl⟩)
              go_ret
              exact ⟨by rw [HF.out]; rfl, below_step HB1.out HB2.out⟩
            | true =>
              have HG2 : Hid (∀ i, i < k + 1 → keyP m.ks i = true) := fun i hi => by
                by_cases e : i = k
                · subst e; exact key_ok hjT (fun q hq => HNO.out q hq (by omega)) hn
                · exact HGO.out i (by omega)
              rw [hn] at hnm
              clear hno hb2 hc e' HNO hn
              generalize m.ks[k] = x at *
              go_wp2_with (go_at_call 63; refine hnm.mono ?_; rintro e w4 ⟨rfl, rfl⟩)
              go_roundw
              case rel => exact ⟨k + 1, by go_num, by omega, HG2.out, HB2.out⟩
              case measure => simp [intOf]; omega
      · have HKY : Hid (keysB m.ks = true) := range_yes fun i hi => HGO.out i (by rw [HI.out.lk] at hi; omega)
        go_wp2_with fail
        clear HGO HKF k1
        go_loopw [5] (fun vi wr => ∃ j : Nat, vi = .int .i64 j ∧ j ≤ ns ∧ (∀ i (hi : i < m.si.length), i < j → stB m.bs m.si[i].at_ quiet = true) ∧ Below w1.heap.size w1 wr) (fun vi _ => ns - (intOf vi).toNat)
        case atStart => exact ⟨0, rfl, Nat.zero_le _, fun i _ h => absurd h (Nat.not_lt_zero _), HB.out⟩
        case round =>
          clear HB
          obtain ⟨j, rfl, hj, hgo, hb⟩ := hrel
          have HGO := Hid.in hgo
          have HB := Hid.in hb
          have k0 : wr.cell? ⟨w.heap.size, 0, none⟩ = some (.slice pb nb cb) := (HK1.out.grow HB.out).cell 0
          have k2 : wr.cell? ⟨w.heap.size, 2, none⟩ = some (.slice ps ns cs) := (HK1.out.grow HB.out).cell 2
          clear hgo hb
          by_cases hlt : j < ns
          · have hjT : j < m.si.length := by rw [HI.out.ls]; exact hlt
            obtain ⟨b, o, rfl, hcc⟩ := ((HI.out.below HB.out).rs).at3 (by omega)
            have c1 := (hcc j hjT).2.1
            have hA := HAT.out _ (List.getElem_mem hjT)
            obtain ⟨a, ha⟩ : ∃ a : Nat, m.si[j].at_ = a := ⟨m.si[j].at_.toNat, by omega⟩
            have HS : Hid (stB m.bs m.si[j].at_ quiet = stB m.bs (a : Int) quiet) := by
              have : stB m.bs m.si[j].at_ quiet = stB m.bs (a : Int) quiet := by rw [ha]
              exact this
            rw [ha] at hA c1
            clear hcc ha
            have hw5 : IntKind.i64.wrap ((a : Int) + 5) = (a : Int) + 5 := by rw [IntKind.wrap_i64]; omega
            by_cases hle : a + 5 ≤ nb
            · have HRB := Hid.in (HI.out.below HB.out).rb
              obtain ⟨p', e1, e2, hrow⟩ := slice_five HRB.out HI.out.lb hkb hle
              have hl5 : ((m.bs.drop a).take 5).length = 5 := by rw [List.length_take, List.length_drop, HI.out.lb]; omega
              have hcv := fun d os => (hrow.below (below_regrown wr d os)).convert hl5 (cb - a)
              have HST : Hid (((strOfNums ((m.bs.drop a).take 5)).toList == (strOfNums quiet).toList) = stB m.bs m.si[j].at_ quiet) := by
                have : ((strOfNums ((m.bs.drop a).take 5)).toList == (strOfNums quiet).toList) = stB m.bs m.si[j].at_ quiet := by
                  rw [HS.out, st_five (by rw [HI.out.lb]; exact hle), str_same ((HI.out.byt.drop a).take 5) byt_quiet]
                exact this
              have HNX : Hid (stB m.bs m.si[j].at_ quiet = true → ∀ i (hi : i < m.si.length), i < j + 1 → stB m.bs m.si[i].at_ quiet = true) := fun h i hi hl => by
                by_cases e : i = j
                · subst e; exact h
                · exact HGO.out i hi (by omega)
              have HNF : Hid (stB m.bs m.si[j].at_ quiet = false → r = false) := fun h => HQF.out (all_no hjT h)
              have hd : decide ((nb : Int) < (a : Int) + 5) = false := decide_eq_false (by omega)
              have k0r := fun d os => cell_regrown k0 d os
              clear hrow HS HGO
              generalize strOfNums ((m.bs.drop a).take 5) = S at *
              generalize stB m.bs m.si[j].at_ quiet = rs at *
              go_upto_region 17 with fail
              refine wp_region_noPanic ?_
              refine wp_region_first_below 14 4 (by kernel_rfl) (by kernel_rfl) (by kernel_rfl) (by kernel_rfl) (by kernel_rfl) (fun _ _ _ _ _ h => h) ?_
              simp only [List.take_succ_cons, List.take_zero]
              iterate 14 (go_big_quiet_step (fail))
              refine wpQuiet_nil ?_
              rintro _ ⟨⟨dq, osq⟩, rfl⟩
              have hb17 : Below wr.heap.size wr (Go.Sort.grow (redrawn wr dq) osq) := below_regrown wr dq osq
              clear k0r hcv
              generalize Go.Sort.grow (redrawn wr dq) osq = w17 at hb17 ⊢
              refine wpAnyH_one (i := 14) (by kernel_rfl) rfl (fun K hK => ?_)
              go_simp
              go_at_call 64
              refine (rquiet_any _).mono ?_
              rintro E w20 ⟨g20, d20, rfl, ho20, hb20'⟩
              have hb20 := below_step hb17 hb20'
              have hcv := ho20.row.convert (n := 5) rfl d20
              refine hK.out _ _ (regrown_of_below hb20) (fun _ => ?_)
              clear hK K
              refine wpAnyH_one (i := 15) (by kernel_rfl) rfl (fun K hK => ?_)
              go_simp
              refine hK.out _ _ (regrown_of_below hb20) (fun _ => ?_)
              clear hK K
              refine wpAnyH_one (i := 16) (by kernel_rfl) rfl (fun K hK => ?_)
              have hst := HST.out
              cases rs with
              | true =>
                have hbn : (S.toList != (strOfNums quiet).toList) = false := by rw [bne, hst]; rfl
                go_simp
                refine hK.out _ _ (regrown_of_below hb20) (fun _ => ?_)
                clear hK K
                refine wpAnyH_one (i := 17) (by kernel_rfl) rfl (fun K hK => ?_)
                go_simp
                refine hK.out _ _ (regrown_of_below hb20) (fun _ => ?_)
                clear hK K
                refine wpAnyH_done (by kernel_rfl) ?_ _
                refine NoPanic.normal ?_
                have HB21 := Hid.in (below_step HB.out hb20)
                have HG2 := Hid.in (HNX.out rfl)
                clear hb20 hb20' hb17 ho20 hcv hst hbn HST HNX HNF k0 c1 k2
                go_wp2_with fail
                go_roundw
                case rel => exact ⟨j + 1, by go_num, by omega, HG2.out, HB21.out⟩
                case measure => simp [intOf]; omega
              | false =>
                have hbn : (S.toList != (strOfNums quiet).toList) = true := by rw [bne, hst]; rfl
                go_simp
                refine hK.out _ _ (regrown_of_below hb20) (fun _ => ?_)
                clear hK K
                refine wpAnyH_one (i := 17) (by kernel_rfl) rfl (fun K hK => ?_)
                go_simp
                refine hK.out _ _ (regrown_of_below hb20) (fun _ => ?_)
                clear hK K
                refine wpAnyH_done (by kernel_rfl) ?_ _
                refine NoPanic.normal ?_
                have HB21 := Hid.in (below_step HB.out hb20)
                have HF := Hid.in (HNF.out rfl)
                clear hb20 hb20' hb17 ho20 hcv hst hbn HST HNX HNF k0 c1 k2
                go_wp2_with fail
                go_ret
                exact ⟨by rw [HF.out]; rfl, below_step HB1.out HB21.out⟩
            · have HF : Hid (r = false) := HQF.out (all_no hjT (HS.out.trans (by
                unfold stB
                simp only [decide_eq_false_iff_not]
                rintro ⟨h1, h2, -⟩
                have e : quiet.length = 5 := rfl
                rw [e] at h2
                have := HI.out.lb
                omega)))
              have hd : decide ((nb : Int) < (a : Int) + 5) = true := decide_eq_true (by omega)
              go_wp2_with fail
              go_quiet (fail)
              go_wp2
              go_ret
              exact ⟨by rw [HF.out]; rfl, below_draws (below_step HB1.out HB.out) _⟩
          · have HQY : Hid (quietB m.bs m.si = true) := all_yes fun i hi => HGO.out i hi (by rw [HI.out.ls] at hi; omega)
            go_wp2_with fail
            clear HGO HQF k0 k2
            go_loopw [7] (fun vi wr => ∃ j : Nat, vi = .int .i64 j ∧ j ≤ nu ∧ (∀ i, i < j → unR nb m.un i) ∧ Below w1.heap.size w1 wr) (fun vi _ => nu - (intOf vi).toNat)
            case atStart => exact ⟨0, rfl, Nat.zero_le _, fun i h => absurd h (Nat.not_lt_zero _), HB.out⟩
            case round =>
              clear HB
              obtain ⟨j, rfl, hj, hgo, hb⟩ := hrel
              have HGO := Hid.in hgo
              have HB := Hid.in hb
              have k0 : wr.cell? ⟨w.heap.size, 0, none⟩ = some (.slice pb nb cb) := (HK1.out.grow HB.out).cell 0
              have k3 : wr.cell? ⟨w.heap.size, 3, none⟩ = some (.slice pu nu cu) := (HK1.out.grow HB.out).cell 3
              clear hgo hb
              by_cases hlt : j < nu
              · have hjT : j < m.un.length := by rw [HI.out.lu]; exact hlt
                obtain ⟨b, o, rfl, hcc⟩ := intV_cell (HI.out.below HB.out).ru (by omega)
                have cj := hcc j hjT
                have hu := HI.out.uns _ (List.getElem_mem hjT)
                unfold i64P at hu
                have HG1 := Hid.in (getD_un hjT)
                have HNO : Hid (¬ unR nb m.un j → r = false) := fun h => HUF.out (HUN.out j hjT h)
                have HNX : Hid (unR nb m.un j → ∀ i, i < j + 1 → unR nb m.un i) := fun h i hi => by
                  by_cases e : i = j
                  · subst e; exact h
                  · exact HGO.out i (by omega)
                have ht : 0 ≤ m.un[j] → m.un[j].tmod 4 = m.un[j] % 4 := fun h => Int.tmod_eq_emod_of_nonneg h
                by_cases hj0 : j = 0
                · have hjz : decide ((j : Int) = 0) = true := decide_eq_true (by omega)
                  have HU : Hid (unR nb m.un j ↔ m.un[j] = 0) := by
                    have : unR nb m.un j ↔ m.un[j] = 0 := by
                      unfold unR
                      rw [HG1.out]
                      exact ⟨fun h => h.2.2.2.1 hj0, fun h => ⟨by omega, by omega, by omega, fun _ => h, fun h => absurd h (by omega)⟩⟩
                    exact this
                  clear hcc HG1
                  generalize m.un[j] = x at *
                  have HJ0 := Hid.in hj0
                  have hjz' : decide (j = 0) = true := decide_eq_true hj0
                  have hjq : decide (0 < j) = false := decide_eq_false (by omega)
                  have hjb : (j == 0) = true := by simp [hj0]
                  have hjb' : ((j : Int) == 0) = true := by simp [hj0]
                  clear hj0
                  by_cases hx : x = 0
                  · have HG2 := Hid.in (HNX.out (HU.out.2 hx))
                    have q4 : decide (x < 0) = false := decide_eq_false (by omega)
                    have q5 : x.tmod 4 = 0 := by rw [hx]; rfl
                    have q6 : decide ((nb : Int) < x) = false := decide_eq_false (by omega)
                    have q7 : decide (x = 0) = true := decide_eq_true hx
                    have q8 : (x != 0) = false := by rw [hx]; rfl
                    clear HU HNO HNX ht hx
                    go_wp2_with fail
                    go_quiet (fail)
                    go_wp2
                    go_roundw
                    case rel => exact ⟨j + 1, by go_num, by omega, HG2.out, below_draws HB.out _⟩
                    case measure => simp [intOf]; omega
                  · have HF := Hid.in (HNO.out (fun h => hx (HU.out.1 h)))
                    have hxd : decide (x = 0) = false := decide_eq_false hx
                    have hxb : (x != 0) = true := bne_iff_ne.2 hx
                    have hxc : (x == 0) = false := beq_eq_false_iff_ne.2 hx
                    rcases (by omega : x < 0 ∨ (0 ≤ x ∧ x % 4 ≠ 0) ∨ (0 ≤ x ∧ x % 4 = 0 ∧ (nb : Int) < x) ∨ (0 ≤ x ∧ x % 4 = 0 ∧ x ≤ (nb : Int))) with g1 | ⟨g1, g2⟩ | ⟨g1, g2, g3⟩ | ⟨g1, g2, g3⟩
                    · have q4 : decide (x < 0) = true := decide_eq_true g1
                      clear HU HNO HNX ht hx
                      go_wp2_with fail
                      go_quiet (fail)
                      go_wp2
                      go_ret
                      exact ⟨by rw [HF.out]; rfl, below_draws (below_step HB1.out HB.out) _⟩
                    · have q4 : decide (x < 0) = false := decide_eq_false (by omega)
                      obtain ⟨t, hT⟩ : ∃ t, x % 4 = t := ⟨_, rfl⟩
                      have q5 : x.tmod 4 = t := (ht g1).trans hT
                      have t0 : ¬ t = 0 := fun h => g2 (hT.trans h)
                      have t1 : 0 ≤ t := by omega
                      have t2 : t ≤ 3 := by omega
                      have q5b : (t != 0) = true := bne_iff_ne.2 t0
                      have q5c : decide (t = 0) = false := decide_eq_false t0
                      have q5d : (t == 0) = false := beq_eq_false_iff_ne.2 t0
                      clear HU HNO HNX ht g2 t0 hT hx
                      go_wp2_with fail
                      go_quiet (fail)
                      go_wp2
                      go_ret
                      exact ⟨by rw [HF.out]; rfl, below_draws (below_step HB1.out HB.out) _⟩
                    · have q4 : decide (x < 0) = false := decide_eq_false (by omega)
                      have q5 : x.tmod 4 = 0 := (ht g1).trans g2
                      have q6 : decide ((nb : Int) < x) = true := decide_eq_true g3
                      clear HU HNO HNX ht hx
                      go_wp2_with fail
                      go_quiet (fail)
                      go_wp2
                      go_ret
                      exact ⟨by rw [HF.out]; rfl, below_draws (below_step HB1.out HB.out) _⟩
                    · have q4 : decide (x < 0) = false := decide_eq_false (by omega)
                      have q5 : x.tmod 4 = 0 := (ht g1).trans g2
                      have q6 : decide ((nb : Int) < x) = false := decide_eq_false (by omega)
                      clear HU HNO HNX ht hx
                      go_wp2_with fail
                      go_quiet (fail)
                      go_wp2
                      go_ret
                      exact ⟨by rw [HF.out]; rfl, below_draws (below_step HB1.out HB.out) _⟩
                · have hjz : decide ((j : Int) = 0) = false := decide_eq_false (by omega)
                  have hjb : (j == 0) = false := beq_eq_false_iff_ne.2 hj0
                  have hjd : decide (j = 0) = false := decide_eq_false hj0
                  have hjb' : ((j : Int) == 0) = false := beq_eq_false_iff_ne.2 (by omega)
                  have hjp : decide (0 < j) = true := decide_eq_true (by omega)
                  have hjp1 : j - 1 < m.un.length := by omega
                  have hjp2 : j - 1 < nu := by omega
                  have cp := hcc (j - 1) hjp1
                  have hwj : IntKind.i64.wrap ((j : Int) - 1) = ((j - 1 : Nat) : Int) := by rw [IntKind.wrap_i64]; omega
                  have HU : Hid (unR nb m.un j ↔ (0 ≤ m.un[j] ∧ m.un[j] % 4 = 0 ∧ m.un[j] ≤ nb ∧ m.un[j - 1] ≤ m.un[j])) := by
                    have : unR nb m.un j ↔ (0 ≤ m.un[j] ∧ m.un[j] % 4 = 0 ∧ m.un[j] ≤ nb ∧ m.un[j - 1] ≤ m.un[j]) := by
                      unfold unR
                      rw [HG1.out, getD_un hjp1]
                      exact ⟨fun h => ⟨h.1, h.2.1, h.2.2.1, h.2.2.2.2 (by omega)⟩, fun h => ⟨h.1, h.2.1, h.2.2.1, fun h => absurd h hj0, fun _ => h.2.2.2⟩⟩
                    exact this
                  clear hcc HG1
                  generalize m.un[j] = x at *
                  generalize m.un[j - 1] = y at *
                  rcases (by omega : x < 0 ∨ (0 ≤ x ∧ x % 4 ≠ 0) ∨ (0 ≤ x ∧ x % 4 = 0 ∧ (nb : Int) < x) ∨ (0 ≤ x ∧ x % 4 = 0 ∧ x ≤ (nb : Int) ∧ x < y) ∨ (0 ≤ x ∧ x % 4 = 0 ∧ x ≤ (nb : Int) ∧ y ≤ x)) with g1 | ⟨g1, g2⟩ | ⟨g1, g2, g3⟩ | ⟨g1, g2, g3, g4⟩ | ⟨g1, g2, g3, g4⟩
                  · have HF := Hid.in (HNO.out (fun h => by have := HU.out.1 h; omega))
                    have q4 : decide (x < 0) = true := decide_eq_true g1
                    clear HU HNO HNX ht
                    go_wp2_with fail
                    go_quiet (fail)
                    go_wp2
                    go_ret
                    exact ⟨by rw [HF.out]; rfl, below_draws (below_step HB1.out HB.out) _⟩
                  · have HF := Hid.in (HNO.out (fun h => by have := HU.out.1 h; omega))
                    have q4 : decide (x < 0) = false := decide_eq_false (by omega)
                    obtain ⟨t, hT⟩ : ∃ t, x % 4 = t := ⟨_, rfl⟩
                    have q5 : x.tmod 4 = t := (ht g1).trans hT
                    have t0 : ¬ t = 0 := fun h => g2 (hT.trans h)
                    have t1 : 0 ≤ t := by omega
                    have t2 : t ≤ 3 := by omega
                    have q5b : (t != 0) = true := bne_iff_ne.2 t0
                    have q5c : decide (t = 0) = false := decide_eq_false t0
                    have q5d : (t == 0) = false := beq_eq_false_iff_ne.2 t0
                    clear HU HNO HNX ht g2 t0 hT
                    go_wp2_with fail
                    go_quiet (fail)
                    go_wp2
                    go_ret
                    exact ⟨by rw [HF.out]; rfl, below_draws (below_step HB1.out HB.out) _⟩
                  · have HF := Hid.in (HNO.out (fun h => by have := HU.out.1 h; omega))
                    have q4 : decide (x < 0) = false := decide_eq_false (by omega)
                    have q5 : x.tmod 4 = 0 := (ht g1).trans g2
                    have q6 : decide ((nb : Int) < x) = true := decide_eq_true g3
                    clear HU HNO HNX ht
                    go_wp2_with fail
                    go_quiet (fail)
                    go_wp2
                    go_ret
                    exact ⟨by rw [HF.out]; rfl, below_draws (below_step HB1.out HB.out) _⟩
                  · have HF := Hid.in (HNO.out (fun h => by have := HU.out.1 h; omega))
                    have q4 : decide (x < 0) = false := decide_eq_false (by omega)
                    have q5 : x.tmod 4 = 0 := (ht g1).trans g2
                    have q6 : decide ((nb : Int) < x) = false := decide_eq_false (by omega)
                    have q7 : decide (x < y) = true := decide_eq_true g4
                    clear HU HNO HNX ht
                    have k0' := fun d os => cell_regrown k0 d os
                    have k3' := fun d os => cell_regrown k3 d os
                    have cj' := fun d os => cell_regrown cj d os
                    have cp' := fun d os => cell_regrown cp d os
                    go_wp2_with fail
                    refine wp_region_quiet_below (by kernel_rfl) (by kernel_rfl) ?_
                    iterate 56 (go_big_quiet_step (fail))
                    refine wpQuiet_nil ?_
                    intro _ hw'
                    obtain ⟨⟨dq, osq⟩, hw''⟩ := hw'
                    subst hw''
                    have HB3 := Hid.in (below_regrown wr dq osq)
                    clear k0' k3' cj' cp'
                    generalize Go.Sort.grow (redrawn wr dq) osq = w3 at *
                    go_wp2
                    go_ret
                    exact ⟨by rw [HF.out]; rfl, below_step (below_step HB1.out HB.out) HB3.out⟩
                  · have HG2 := Hid.in (HNX.out (HU.out.2 ⟨g1, g2, g3, g4⟩))
                    have q4 : decide (x < 0) = false := decide_eq_false (by omega)
                    have q5 : x.tmod 4 = 0 := (ht g1).trans g2
                    have q6 : decide ((nb : Int) < x) = false := decide_eq_false (by omega)
                    have q7 : decide (x < y) = false := decide_eq_false (by omega)
                    clear HU HNO HNX ht
                    have k0' := fun d os => cell_regrown k0 d os
                    have k3' := fun d os => cell_regrown k3 d os
                    have cj' := fun d os => cell_regrown cj d os
                    have cp' := fun d os => cell_regrown cp d os
                    go_wp2_with fail
                    refine wp_region_quiet_below (by kernel_rfl) (by kernel_rfl) ?_
                    iterate 56 (go_big_quiet_step (fail))
                    refine wpQuiet_nil ?_
                    intro _ hw'
                    obtain ⟨⟨dq, osq⟩, hw''⟩ := hw'
                    subst hw''
                    have HB3 := Hid.in (below_regrown wr dq osq)
                    clear k0' k3' cj' cp'
                    generalize Go.Sort.grow (redrawn wr dq) osq = w3 at *
                    go_wp2
                    go_roundw
                    case rel => exact ⟨j + 1, by go_num, by omega, HG2.out, below_step HB.out HB3.out⟩
                    case measure => simp [intOf]; omega
              · have HF : Hid (r = true) := HYES.out HKY.out HQY.out (HUR.out.2 fun i hi => HGO.out i (by rw [HI.out.lu] at hi; omega))
                go_wp2_with fail
                go_ret
                exact ⟨by rw [HF.out]; rfl, below_step HB1.out HB.out⟩
end Go.Proofs.YtgblohjdiheemaaGreat
