/- The reference's Right. -/
import Derived.Test.YtgblohjdiheemaaGreatCmpR
import Derived.Test.YtgblohjdiheemaaGreatRfsW
import Derived.Deep.RegionHeld3
import Derived.Lib.QuietBelow
namespace Go.Proofs.YtgblohjdiheemaaGreat
open Go.RowKit

/-- what the reference asks of site i -/
def okSt (T : List Si) (n : Int) (i : Nat) : Prop :=
  siteB n (T.getD i ⟨0, 0, 0⟩) = true ∧ (0 < i → ltS (T.getD (i - 1) ⟨0, 0, 0⟩) (T.getD i ⟨0, 0, 0⟩) = true) ∧ ∀ k, k < i → ¬ ((T.getD i ⟨0, 0, 0⟩).at_ - (T.getD k ⟨0, 0, 0⟩).at_ < 5 ∧ (T.getD k ⟨0, 0, 0⟩).at_ - (T.getD i ⟨0, 0, 0⟩).at_ < 5)

theorem right_ok {T : List Si} {n : Int} (h0 : 0 ≤ n ∧ n ≤ 64 ∧ T.length ≤ 256) : rightS T n = true ↔ ∀ i, i < T.length → okSt T n i := by
  unfold rightS
  rw [decide_eq_true h0, Bool.true_and, Bool.and_eq_true, Bool.and_eq_true, List.all_eq_true, decide_eq_true_eq, decide_eq_true_eq]
  constructor
  · rintro ⟨⟨h1, h2⟩, h3⟩ i hi
    refine ⟨?_, fun hp => ?_, fun k hk => ?_⟩
    · rw [getD_si hi]; exact h1 _ (List.getElem_mem hi)
    · rw [getD_si hi, getD_si (by omega)]
      exact List.pairwise_iff_getElem.1 h2 (i - 1) i (by omega) hi (by omega)
    · rw [getD_si hi, getD_si (by omega)]
      exact List.pairwise_iff_getElem.1 h3 k i (by omega) hi hk
  · intro h
    refine ⟨⟨fun s hs => ?_, ?_⟩, ?_⟩
    · obtain ⟨i, hi, rfl⟩ := List.getElem_of_mem hs
      have := (h i hi).1
      rw [getD_si hi] at this
      exact this
    · have hc : ∀ i (hi : i + 1 < T.length), ltS T[i] T[i + 1] = true := by
        intro i hi
        have := (h (i + 1) hi).2.1 (by omega)
        rw [getD_si hi, Nat.add_sub_cancel, getD_si (by omega)] at this
        exact this
      have hg : ∀ d i (hi : i + (d + 1) < T.length), ltS T[i] T[i + (d + 1)] = true := by
        intro d
        induction d with
        | zero => exact fun i hi => hc i hi
        | succ d ih => exact fun i hi => ltS_trans (ih i (by omega)) (hc (i + (d + 1)) hi)
      refine List.pairwise_iff_getElem.2 fun i j hi hj hij => ?_
      obtain ⟨d, rfl⟩ : ∃ d, j = i + (d + 1) := ⟨j - i - 1, by omega⟩
      exact hg d i hj
    · refine List.pairwise_iff_getElem.2 fun i j hi hj hij => ?_
      have := (h j hj).2.2 i hij
      rw [getD_si hj, getD_si hi] at this
      exact this

theorem right_no {T : List Si} {n : Int} {i : Nat} (h0 : 0 ≤ n ∧ n ≤ 64 ∧ T.length ≤ 256) (hi : i < T.length) (h : ¬ okSt T n i) : rightS T n = false := by
  cases hr : rightS T n with
  | false => rfl
  | true => exact absurd ((right_ok h0).1 hr i hi) h

set_option maxRecDepth 4000 in
set_option maxHeartbeats 4000000 in
theorem refRight_any (p : Option Addr) (n c : Nat) (T : List Si) (k : Int) (w : World) (hn : T.length = n) (hn6 : n ≤ 140737488355328) (hr : Row3 w p (T.map siV)) :
    Calls Tryz.prog 62 #[.slice p n c, .int .i64 k] w fun E w' => E = .returned (.bool (rightS T k)) ∧ Below w.heap.size w w' := by
  by_cases h0 : 0 ≤ k ∧ k ≤ 64 ∧ T.length ≤ 256
  · obtain ⟨r, hrr⟩ : ∃ r, rightS T k = r := ⟨_, rfl⟩
    rw [hrr]
    have HNO : Hid (∀ i, i < T.length → ¬ okSt T k i → r = false) := fun i hi h => by rw [← hrr]; exact right_no h0 hi h
    have HYES : Hid ((∀ i, i < T.length → okSt T k i) → r = true) := fun h => by rw [← hrr]; exact (right_ok h0).2 h
    have HN := Hid.in hn
    have HR := Hid.in hr
    obtain ⟨h1, h2, h3⟩ := h0
    rw [hn] at h3
    clear hrr hn hr
    have q1 : decide (k < 0) = false := decide_eq_false (by omega)
    have q2 : decide (64 < k) = false := decide_eq_false (by omega)
    have q3 : decide (256 < n) = false := decide_eq_false (by omega)
    go_enter Tryz.func62, Tryz.ntmps62
    go_wp2_with fail
    go_loopw [5] (fun vi wr => ∃ j : Nat, vi = .int .i64 j ∧ j ≤ n ∧ (∀ i, i < T.length → i < j → okSt T k i) ∧ Below w.heap.size w wr) (fun vi _ => n - (intOf vi).toNat)
    case atStart => exact ⟨0, rfl, Nat.zero_le _, fun i _ h => absurd h (Nat.not_lt_zero _), below_self w⟩
    case round =>
      obtain ⟨j, rfl, hj, hgo, hb⟩ := hrel
      have HGO := Hid.in hgo
      have HB := Hid.in hb
      clear hgo hb
      by_cases hlt : j < n
      · have hjT : j < T.length := by rw [HN.out]; exact hlt
        obtain ⟨b, o, rfl, hcc⟩ := (HR.out.below HB.out).at3 (by omega)
        have c0 := (hcc j hjT).1
        have c1 := (hcc j hjT).2.1
        have c2 := (hcc j hjT).2.2
        by_cases hall : 0 ≤ T[j].key ∧ T[j].key < k ∧ 0 ≤ T[j].at_ ∧ T[j].at_ ≤ 65531 ∧ 0 ≤ T[j].to_ ∧ T[j].to_ ≤ 65536
        · have hE : ∀ f, farS T[j] = f → ∀ W, Calls Tryz.prog 77 #[.agg #[.int .i64 T[j].key, .int .i64 T[j].at_, .int .i64 T[j].to_]] W fun e w' => e = .returned (.bool f) ∧ Below W.heap.size W w' := fun f hf W => by
            have h := far_any T[j] W ⟨by omega, by omega, by omega, by omega⟩
            rw [hf] at h
            exact h
          have HSI : Hid (farS T[j] = false → siteB k T[j] = true) := fun h => by
            have h2 : siteB k T[j] = true := by unfold siteB; rw [decide_eq_true hall, h]; rfl
            exact h2
          have HPC0 : Hid (∀ i (hi : i < T.length), wr.cell? ⟨b, o + i * 3 + 1, none⟩ = some (.int .i64 T[i].at_)) := fun i hi => (hcc i hi).2.1
          have HRG : Hid (∀ i (hi : i < T.length), i < j → 0 ≤ T[i].at_ ∧ T[i].at_ ≤ 65531) := fun i hi h => by
            have h1 := (HGO.out i hi h).1
            rw [getD_si hi] at h1
            unfold siteB at h1
            simp only [Bool.and_eq_true, decide_eq_true_eq] at h1
            omega
          have HB2 := Hid.in (below_alloc HB.out (.cells #[.int .i64 T[j].key, .int .i64 T[j].at_, .int .i64 T[j].to_] 68))
          have HV2 := Hid.in (Blk.new wr 68 #[.int .i64 T[j].key, .int .i64 T[j].at_, .int .i64 T[j].to_])
          have HC2 := Hid.in (new_alloc wr (.cells #[.int .i64 T[j].key, .int .i64 T[j].at_, .int .i64 T[j].to_] 68))
          cases hf : farS T[j] with
          | true =>
            have HE : Hid (r = false) := HNO.out j hjT (fun h => by
              have h1 := h.1
              rw [getD_si hjT] at h1
              unfold siteB at h1
              rw [hf] at h1
              simp at h1)
            have hfar := hE true hf
            clear hE hcc HSI hf
            obtain ⟨g1, g2, g3, g4, g5, g6⟩ := hall
            generalize T[j].key = x0 at *
            generalize T[j].at_ = x1 at *
            generalize T[j].to_ = x2 at *
            have e1 : decide (x0 < 0) = false := decide_eq_false (by omega)
            have e2 : decide (k ≤ x0) = false := decide_eq_false (by omega)
            have e3 : decide (x1 < 0) = false := decide_eq_false (by omega)
            have e4 : decide (65531 < x1) = false := decide_eq_false (by omega)
            have e5 : decide (x2 < 0) = false := decide_eq_false (by omega)
            have e6 : decide (65536 < x2) = false := decide_eq_false (by omega)
            go_wp2_with fail
            generalize wr.alloc (.cells #[.int .i64 x0, .int .i64 x1, .int .i64 x2] 68) = w2 at *
            have HKP : Hid (∀ W, Below w2.heap.size w2 W → W.cell? ⟨wr.heap.size, 0, none⟩ = some (.int .i64 x0) ∧ W.cell? ⟨wr.heap.size, 1, none⟩ = some (.int .i64 x1) ∧ W.cell? ⟨wr.heap.size, 2, none⟩ = some (.int .i64 x2)) := fun W hW => ⟨(HV2.out.grow hW).cell 0, (HV2.out.grow hW).cell 1, (HV2.out.grow hW).cell 2⟩
            have v0 : w2.cell? ⟨wr.heap.size, 0, none⟩ = some (.int .i64 x0) := HV2.out.cell 0
            have v1 : w2.cell? ⟨wr.heap.size, 1, none⟩ = some (.int .i64 x1) := HV2.out.cell 1
            have v2 : w2.cell? ⟨wr.heap.size, 2, none⟩ = some (.int .i64 x2) := HV2.out.cell 2
            have v0' := fun d os => cell_regrown v0 d os
            have v1' := fun d os => cell_regrown v1 d os
            have v2' := fun d os => cell_regrown v2 d os
            refine wp_region_quiet_below (by kernel_rfl) (by kernel_rfl) ?_
            iterate 47 (go_big_quiet_step ((exact Calls.regrown_of (hfar _))))
            refine wpQuiet_nil ?_
            intro _ hw'
            obtain ⟨⟨dq, osq⟩, hw''⟩ := hw'
            subst hw''
            have HB3 := Hid.in (below_regrown w2 dq osq)
            clear v0' v1' v2'
            generalize Go.Sort.grow (redrawn w2 dq) osq = w3 at *
            go_wp2
            go_ret
            exact ⟨by rw [HE.out]; rfl, below_step HB2.out HB3.out⟩
          | false =>
            have hfar := hE false hf
            have HSB := Hid.in (HSI.out hf)
            have HBAD : Hid (∀ m, m < j → (T[j].at_ - (T.getD m ⟨0, 0, 0⟩).at_ < 5 ∧ (T.getD m ⟨0, 0, 0⟩).at_ - T[j].at_ < 5) → r = false) := fun m hm hd => HNO.out j hjT (fun h => by
              have h3 := h.2.2 m hm
              rw [getD_si hjT] at h3
              exact h3 hd)
            by_cases hj0 : j = 0
            · have hjz : decide (0 < j) = false := decide_eq_false (by omega)
              have HNX : Hid ((∀ i, i < j → ¬ (T[j].at_ - (T.getD i ⟨0, 0, 0⟩).at_ < 5 ∧ (T.getD i ⟨0, 0, 0⟩).at_ - T[j].at_ < 5)) → ∀ i, i < T.length → i < j + 1 → okSt T k i) := fun _ i hi h => by
                have e : i = j := by omega
                subst e
                exact ⟨by rw [getD_si hjT]; exact HSB.out, fun h => absurd h (by omega), fun q hq => absurd hq (by omega)⟩
              have hjz2 : ¬ 0 < j := by omega
              clear hE hcc HSI hf HSB hj0
              obtain ⟨g1, g2, g3, g4, g5, g6⟩ := hall
              generalize T[j].key = x0 at *
              generalize T[j].at_ = x1 at *
              generalize T[j].to_ = x2 at *
              have e1 : decide (x0 < 0) = false := decide_eq_false (by omega)
              have e2 : decide (k ≤ x0) = false := decide_eq_false (by omega)
              have e3 : decide (x1 < 0) = false := decide_eq_false (by omega)
              have e4 : decide (65531 < x1) = false := decide_eq_false (by omega)
              have e5 : decide (x2 < 0) = false := decide_eq_false (by omega)
              have e6 : decide (65536 < x2) = false := decide_eq_false (by omega)
              go_wp2_with fail
              generalize wr.alloc (.cells #[.int .i64 x0, .int .i64 x1, .int .i64 x2] 68) = w2 at *
              have HKP : Hid (∀ W, Below w2.heap.size w2 W → W.cell? ⟨wr.heap.size, 0, none⟩ = some (.int .i64 x0) ∧ W.cell? ⟨wr.heap.size, 1, none⟩ = some (.int .i64 x1) ∧ W.cell? ⟨wr.heap.size, 2, none⟩ = some (.int .i64 x2)) := fun W hW => ⟨(HV2.out.grow hW).cell 0, (HV2.out.grow hW).cell 1, (HV2.out.grow hW).cell 2⟩
              have v0 : w2.cell? ⟨wr.heap.size, 0, none⟩ = some (.int .i64 x0) := HV2.out.cell 0
              have v1 : w2.cell? ⟨wr.heap.size, 1, none⟩ = some (.int .i64 x1) := HV2.out.cell 1
              have v2 : w2.cell? ⟨wr.heap.size, 2, none⟩ = some (.int .i64 x2) := HV2.out.cell 2
              have v0' := fun d os => cell_regrown v0 d os
              have v1' := fun d os => cell_regrown v1 d os
              have v2' := fun d os => cell_regrown v2 d os
              refine wp_region_quiet_below (by kernel_rfl) (by kernel_rfl) ?_
              iterate 47 (go_big_quiet_step ((exact Calls.regrown_of (hfar _))))
              refine wpQuiet_nil ?_
              intro _ hw'
              obtain ⟨⟨dq, osq⟩, hw''⟩ := hw'
              subst hw''
              have HB3 := Hid.in (below_regrown w2 dq osq)
              clear v0' v1' v2'
              generalize Go.Sort.grow (redrawn w2 dq) osq = w3 at *
              have HBX := Hid.in (below_step HB2.out HB3.out)
              have HG3 := Hid.in (HNX.out (fun i h => absurd h (by omega)))
              all_goals
                go_wp2_with fail
                refine wp_loop_rounds 1 ?_
                rw [rounds_succ]; go_wp2_with fail
                go_roundw
                case rel => exact ⟨j + 1, by go_num, by omega, HG3.out, HBX.out⟩
                case measure => simp [intOf]; omega
            · have hjp : j - 1 < T.length := by omega
              have p0 := (hcc (j - 1) hjp).1
              have p1 := (hcc (j - 1) hjp).2.1
              have p2 := (hcc (j - 1) hjp).2.2
              have hah := fun W => ahead_any T[j - 1] T[j] W
              dsimp only [sV] at hah
              have hwj : IntKind.i64.wrap ((j : Int) - 1) = ((j - 1 : Nat) : Int) := by rw [IntKind.wrap_i64]; omega
              have hjpos : decide (0 < j) = true := decide_eq_true (by omega)
              have hjp2 : j - 1 < n := by omega
              cases hlt2 : ltS T[j - 1] T[j] with
              | true =>
                have HNX : Hid ((∀ i, i < j → ¬ (T[j].at_ - (T.getD i ⟨0, 0, 0⟩).at_ < 5 ∧ (T.getD i ⟨0, 0, 0⟩).at_ - T[j].at_ < 5)) → ∀ i, i < T.length → i < j + 1 → okSt T k i) := fun hh i hi h => by
                  by_cases e : i = j
                  · subst e
                    exact ⟨by rw [getD_si hjT]; exact HSB.out, fun _ => by rw [getD_si hjT, getD_si hjp]; exact hlt2, fun q hq => by rw [getD_si hjT]; exact hh q hq⟩
                  · exact HGO.out i hi (by omega)
                rw [hlt2] at hah
                clear hE hcc HSI hf HSB hlt2
                obtain ⟨g1, g2, g3, g4, g5, g6⟩ := hall
                generalize T[j].key = x0 at *
                generalize T[j].at_ = x1 at *
                generalize T[j].to_ = x2 at *
                have e1 : decide (x0 < 0) = false := decide_eq_false (by omega)
                have e2 : decide (k ≤ x0) = false := decide_eq_false (by omega)
                have e3 : decide (x1 < 0) = false := decide_eq_false (by omega)
                have e4 : decide (65531 < x1) = false := decide_eq_false (by omega)
                have e5 : decide (x2 < 0) = false := decide_eq_false (by omega)
                have e6 : decide (65536 < x2) = false := decide_eq_false (by omega)
                generalize T[j - 1].key = y0 at *
                generalize T[j - 1].at_ = z1 at *
                generalize T[j - 1].to_ = y2 at *
                go_wp2_with fail
                generalize wr.alloc (.cells #[.int .i64 x0, .int .i64 x1, .int .i64 x2] 68) = w2 at *
                have HKP : Hid (∀ W, Below w2.heap.size w2 W → W.cell? ⟨wr.heap.size, 0, none⟩ = some (.int .i64 x0) ∧ W.cell? ⟨wr.heap.size, 1, none⟩ = some (.int .i64 x1) ∧ W.cell? ⟨wr.heap.size, 2, none⟩ = some (.int .i64 x2) ∧ W.cell? ⟨b, o + (j - 1) * 3, none⟩ = some (.int .i64 y0) ∧ W.cell? ⟨b, o + (j - 1) * 3 + 1, none⟩ = some (.int .i64 z1) ∧ W.cell? ⟨b, o + (j - 1) * 3 + 2, none⟩ = some (.int .i64 y2)) := fun W hW => ⟨(HV2.out.grow hW).cell 0, (HV2.out.grow hW).cell 1, (HV2.out.grow hW).cell 2, ((below_step HC2.out hW).cell (p := ⟨b, o + (j - 1) * 3, none⟩) (cell_lt p0)).trans p0, ((below_step HC2.out hW).cell (p := ⟨b, o + (j - 1) * 3 + 1, none⟩) (cell_lt p1)).trans p1, ((below_step HC2.out hW).cell (p := ⟨b, o + (j - 1) * 3 + 2, none⟩) (cell_lt p2)).trans p2⟩
                obtain ⟨v0, v1, v2, v3, v4, v5⟩ := HKP.out w2 (below_self w2)
                have v0' := fun d os => cell_regrown v0 d os
                have v1' := fun d os => cell_regrown v1 d os
                have v2' := fun d os => cell_regrown v2 d os
                have v3' := fun d os => cell_regrown v3 d os
                have v4' := fun d os => cell_regrown v4 d os
                have v5' := fun d os => cell_regrown v5 d os
                refine wp_region_quiet_below (by kernel_rfl) (by kernel_rfl) ?_
                iterate 47 (go_big_quiet_step ((first | exact Calls.regrown_of (hfar _) | exact Calls.regrown_of (hah _))))
                refine wpQuiet_nil ?_
                intro _ hw'
                obtain ⟨⟨dq, osq⟩, hw''⟩ := hw'
                subst hw''
                have HB4 := Hid.in (below_regrown w2 dq osq)
                have hk2 := HKP.out _ HB4.out
                clear v0' v1' v2' v3' v4' v5'
                generalize Go.Sort.grow (redrawn w2 dq) osq = w4 at *
                have HBX := Hid.in (below_step HB2.out HB4.out)
                have HPC : Hid (∀ i (hi : i < T.length), w4.cell? ⟨b, o + i * 3 + 1, none⟩ = some (.int .i64 T[i].at_)) := fun i hi => (((below_step HC2.out HB4.out)).cell (p := ⟨b, o + i * 3 + 1, none⟩) (cell_lt (HPC0.out i hi))).trans (HPC0.out i hi)
                have u1 := hk2.2.1
                clear hk2 v0 v1 v2 v3 v4 v5 p0 p1 p2 HKP hfar hah c0 c1 c2
                go_wp2_with fail
                go_loopw [7] (fun vi ws => ∃ m q : Nat, vi = .int .i64 m ∧ m ≤ j ∧ (∀ i, i < m → ¬ (x1 - (T.getD i ⟨0, 0, 0⟩).at_ < 5 ∧ (T.getD i ⟨0, 0, 0⟩).at_ - x1 < 5)) ∧ ws = w4.drewN q) (fun vi _ => j - (intOf vi).toNat)
                case atStart => exact ⟨0, 0, rfl, Nat.zero_le _, fun i h => absurd h (Nat.not_lt_zero _), rfl⟩
                case round =>
                  obtain ⟨m, q, rfl, hm, hgo2, rfl⟩ := hrel
                  have HGP := Hid.in hgo2
                  clear hgo2
                  by_cases hmj : m < j
                  · have hmT : m < T.length := by omega
                    have d1 := HPC.out m hmT
                    have hgm : (T.getD m ⟨0, 0, 0⟩).at_ = T[m].at_ := by rw [getD_si hmT]
                    have hrg := HRG.out m hmT hmj
                    have hw3 : IntKind.i64.wrap (x1 - T[m].at_) = x1 - T[m].at_ := by rw [IntKind.wrap_i64]; omega
                    have hmn : m < n := by omega
                    by_cases hd : x1 - T[m].at_ < 5 ∧ T[m].at_ - x1 < 5
                    · have HE : Hid (r = false) := HBAD.out m hmj (by rw [hgm]; exact hd)
                      obtain ⟨hd1, hd2⟩ := hd
                      clear hgm
                      generalize T[m].at_ = y1 at *
                      have hd3 : -5 < x1 - y1 := by omega
                      go_wp2_with fail
                      go_quiet (fail)
                      go_wp2
                      go_ret
                      exact ⟨by rw [HE.out]; rfl, below_draws HBX.out _⟩
                    · have HG2 : Hid (∀ i, i < m + 1 → ¬ (x1 - (T.getD i ⟨0, 0, 0⟩).at_ < 5 ∧ (T.getD i ⟨0, 0, 0⟩).at_ - x1 < 5)) := fun i h => by
                        by_cases e : i = m
                        · subst e; rw [hgm]; exact hd
                        · exact HGP.out i (by omega)
                      clear hgm
                      generalize T[m].at_ = y1 at *
                      rcases (by omega : x1 - y1 ≤ -5 ∨ (-5 < x1 - y1 ∧ 5 ≤ x1 - y1)) with hd3 | ⟨hd3, hd4⟩
                      all_goals
                        clear hd
                        go_wp2_with fail
                        go_quiet (fail)
                        go_wp2
                        go_roundw
                        case rel => exact ⟨m + 1, _, by go_num, by omega, fun i h1 => (by have := HG2.out i h1; omega), rfl⟩
                        case measure => simp [intOf]; omega
                  · have HG3 : Hid (∀ i, i < T.length → i < j + 1 → okSt T k i) := HNX.out (fun i hi => HGP.out i (by omega))
                    go_wp2_with fail
                    go_roundw
                    case rel => exact ⟨j + 1, by go_num, by omega, HG3.out, below_draws HBX.out _⟩
                    case measure => simp [intOf]; omega
              | false =>
                have HE : Hid (r = false) := HNO.out j hjT (fun h => by
                  have h2 := h.2.1 (by omega)
                  rw [getD_si hjT, getD_si hjp, hlt2] at h2
                  cases h2)
                rw [hlt2] at hah
                clear hE hcc HSI hf HSB hlt2
                obtain ⟨g1, g2, g3, g4, g5, g6⟩ := hall
                generalize T[j].key = x0 at *
                generalize T[j].at_ = x1 at *
                generalize T[j].to_ = x2 at *
                have e1 : decide (x0 < 0) = false := decide_eq_false (by omega)
                have e2 : decide (k ≤ x0) = false := decide_eq_false (by omega)
                have e3 : decide (x1 < 0) = false := decide_eq_false (by omega)
                have e4 : decide (65531 < x1) = false := decide_eq_false (by omega)
                have e5 : decide (x2 < 0) = false := decide_eq_false (by omega)
                have e6 : decide (65536 < x2) = false := decide_eq_false (by omega)
                generalize T[j - 1].key = y0 at *
                generalize T[j - 1].at_ = z1 at *
                generalize T[j - 1].to_ = y2 at *
                go_wp2_with fail
                generalize wr.alloc (.cells #[.int .i64 x0, .int .i64 x1, .int .i64 x2] 68) = w2 at *
                have HKP : Hid (∀ W, Below w2.heap.size w2 W → W.cell? ⟨wr.heap.size, 0, none⟩ = some (.int .i64 x0) ∧ W.cell? ⟨wr.heap.size, 1, none⟩ = some (.int .i64 x1) ∧ W.cell? ⟨wr.heap.size, 2, none⟩ = some (.int .i64 x2) ∧ W.cell? ⟨b, o + (j - 1) * 3, none⟩ = some (.int .i64 y0) ∧ W.cell? ⟨b, o + (j - 1) * 3 + 1, none⟩ = some (.int .i64 z1) ∧ W.cell? ⟨b, o + (j - 1) * 3 + 2, none⟩ = some (.int .i64 y2)) := fun W hW => ⟨(HV2.out.grow hW).cell 0, (HV2.out.grow hW).cell 1, (HV2.out.grow hW).cell 2, ((below_step HC2.out hW).cell (p := ⟨b, o + (j - 1) * 3, none⟩) (cell_lt p0)).trans p0, ((below_step HC2.out hW).cell (p := ⟨b, o + (j - 1) * 3 + 1, none⟩) (cell_lt p1)).trans p1, ((below_step HC2.out hW).cell (p := ⟨b, o + (j - 1) * 3 + 2, none⟩) (cell_lt p2)).trans p2⟩
                obtain ⟨v0, v1, v2, v3, v4, v5⟩ := HKP.out w2 (below_self w2)
                have v0' := fun d os => cell_regrown v0 d os
                have v1' := fun d os => cell_regrown v1 d os
                have v2' := fun d os => cell_regrown v2 d os
                have v3' := fun d os => cell_regrown v3 d os
                have v4' := fun d os => cell_regrown v4 d os
                have v5' := fun d os => cell_regrown v5 d os
                refine wp_region_quiet_below (by kernel_rfl) (by kernel_rfl) ?_
                iterate 47 (go_big_quiet_step ((first | exact Calls.regrown_of (hfar _) | exact Calls.regrown_of (hah _))))
                refine wpQuiet_nil ?_
                intro _ hw'
                obtain ⟨⟨dq, osq⟩, hw''⟩ := hw'
                subst hw''
                have HB4 := Hid.in (below_regrown w2 dq osq)
                have hk2 := HKP.out _ HB4.out
                clear v0' v1' v2' v3' v4' v5'
                generalize Go.Sort.grow (redrawn w2 dq) osq = w4 at *
                go_wp2
                go_ret
                exact ⟨by rw [HE.out]; rfl, below_step HB2.out HB4.out⟩
        · have HE : Hid (r = false) := HNO.out j hjT (fun h => by
            have h1 := h.1
            rw [getD_si hjT] at h1
            unfold siteB at h1
            rw [decide_eq_false hall, Bool.false_and] at h1
            cases h1)
          clear hcc
          generalize T[j].key = x0 at *
          generalize T[j].at_ = x1 at *
          generalize T[j].to_ = x2 at *
          rcases (by omega : x0 < 0 ∨ (0 ≤ x0 ∧ k ≤ x0) ∨ (0 ≤ x0 ∧ x0 < k ∧ x1 < 0) ∨ (0 ≤ x0 ∧ x0 < k ∧ 0 ≤ x1 ∧ 65531 < x1) ∨ (0 ≤ x0 ∧ x0 < k ∧ 0 ≤ x1 ∧ x1 ≤ 65531 ∧ x2 < 0) ∨ (0 ≤ x0 ∧ x0 < k ∧ 0 ≤ x1 ∧ x1 ≤ 65531 ∧ 0 ≤ x2 ∧ 65536 < x2)) with g1 | ⟨g1, g2⟩ | ⟨g1, g2, g3⟩ | ⟨g1, g2, g3, g4⟩ | ⟨g1, g2, g3, g4, g5⟩ | ⟨g1, g2, g3, g4, g5, g6⟩
          · have e1 : decide (x0 < 0) = true := decide_eq_true g1
            clear hall
            go_wp2_with fail
            go_quiet (fail)
            go_wp2
            go_ret
            exact ⟨by rw [HE.out]; rfl, below_draws (below_alloc HB.out _) _⟩
          · have e1 : decide (x0 < 0) = false := decide_eq_false (by omega)
            have e2 : decide (k ≤ x0) = true := decide_eq_true g2
            clear hall
            go_wp2_with fail
            go_quiet (fail)
            go_wp2
            go_ret
            exact ⟨by rw [HE.out]; rfl, below_draws (below_alloc HB.out _) _⟩
          · have e1 : decide (x0 < 0) = false := decide_eq_false (by omega)
            have e2 : decide (k ≤ x0) = false := decide_eq_false (by omega)
            have e3 : decide (x1 < 0) = true := decide_eq_true g3
            clear hall
            go_wp2_with fail
            go_quiet (fail)
            go_wp2
            go_ret
            exact ⟨by rw [HE.out]; rfl, below_draws (below_alloc HB.out _) _⟩
          · have e1 : decide (x0 < 0) = false := decide_eq_false (by omega)
            have e2 : decide (k ≤ x0) = false := decide_eq_false (by omega)
            have e3 : decide (x1 < 0) = false := decide_eq_false (by omega)
            have e4 : decide (65531 < x1) = true := decide_eq_true g4
            clear hall
            go_wp2_with fail
            go_quiet (fail)
            go_wp2
            go_ret
            exact ⟨by rw [HE.out]; rfl, below_draws (below_alloc HB.out _) _⟩
          · have e1 : decide (x0 < 0) = false := decide_eq_false (by omega)
            have e2 : decide (k ≤ x0) = false := decide_eq_false (by omega)
            have e3 : decide (x1 < 0) = false := decide_eq_false (by omega)
            have e4 : decide (65531 < x1) = false := decide_eq_false (by omega)
            have e5 : decide (x2 < 0) = true := decide_eq_true g5
            clear hall
            go_wp2_with fail
            go_quiet (fail)
            go_wp2
            go_ret
            exact ⟨by rw [HE.out]; rfl, below_draws (below_alloc HB.out _) _⟩
          · have e1 : decide (x0 < 0) = false := decide_eq_false (by omega)
            have e2 : decide (k ≤ x0) = false := decide_eq_false (by omega)
            have e3 : decide (x1 < 0) = false := decide_eq_false (by omega)
            have e4 : decide (65531 < x1) = false := decide_eq_false (by omega)
            have e5 : decide (x2 < 0) = false := decide_eq_false (by omega)
            have e6 : decide (65536 < x2) = true := decide_eq_true g6
            clear hall
            go_wp2_with fail
            go_quiet (fail)
            go_wp2
            go_ret
            exact ⟨by rw [HE.out]; rfl, below_draws (below_alloc HB.out _) _⟩
      · have HE : Hid (r = true) := HYES.out (fun i hi => HGO.out i hi (by rw [HN.out] at hi; omega))
        go_wp2_with fail
        go_ret
        exact ⟨by rw [HE.out]; rfl, HB.out⟩
  · have HF : Hid (rightS T k = false) := by
      have h : rightS T k = false := by rw [right_eq, decide_eq_false h0, Bool.false_and, Bool.false_and]
      exact h
    rw [HF.out]
    rw [hn] at h0
    clear HF hr
    rcases (by omega : k < 0 ∨ (0 ≤ k ∧ 64 < k) ∨ (0 ≤ k ∧ k ≤ 64 ∧ 256 < n)) with h1 | ⟨h1, h2⟩ | ⟨h1, h2, h3⟩
    all_goals
      clear h0
      go_enter Tryz.func62, Tryz.ntmps62
      go_wp2_with fail
      go_ret
      exact ⟨rfl, below_self w⟩

end Go.Proofs.YtgblohjdiheemaaGreat
