/- Texts put together: RfsW, RfrW, ApaW, AwkS. -/
import Derived.Test.YtckpgpgmaccepaaGreatTp
import Derived.Deep.RegionHeld3
import Derived.Lib.QuietBelow
import Derived.Test.YtckpgpgmaccepaaGreatShelfB
import Derived.Test.YtckpgpgmaccepaaGreatTm
import Derived.Test.YtckpgpgmaccepaaGreatTexts
import Derived.Great.BuildSlice

/- The reference's Of, Sorted and Right. -/
namespace Go.Proofs.YtckpgpgmaccepaaGreat
open Go.RowKit

set_option maxRecDepth 4000 in
set_option maxHeartbeats 2000000 in
theorem refOf_any (p : Option Addr) (n c : Nat) (T : List Si) (k : Int) (w : World) (hn : T.length = n) (hn6 : n ≤ 140737488355328) (hr : Row3 w p (T.map siV)) :
    Calls Tryz.prog 17 #[.slice p n c, .int .i64 k] w fun E w' => (∃ a b : Nat, E = .returned (.tuple #[.int .i64 a, .int .i64 b]) ∧ (∀ i (hi : i < T.length), i < a → T[i].key < k) ∧ (∀ h : a < T.length, ¬ T[a].key < k) ∧ a ≤ b ∧ b ≤ n ∧ (∀ i (hi : i < T.length), a ≤ i → i < b → T[i].key ≤ k) ∧ ∀ h : b < T.length, ¬ T[b].key ≤ k) ∧ w' = w := by
  have HN := Hid.in hn
  have HR := Hid.in hr
  clear hn hr
  go_enter Tryz.func17, Tryz.ntmps17
  go_wp2_with fail
  go_loopw [6] (fun vi wr => ∃ j : Nat, vi = .int .i64 j ∧ j ≤ n ∧ (∀ i (hi : i < T.length), i < j → T[i].key < k) ∧ wr = w) (fun vi _ => n - (intOf vi).toNat)
  case atStart => exact ⟨0, rfl, Nat.zero_le _, fun i _ h => absurd h (Nat.not_lt_zero _), rfl⟩
  case round =>
    obtain ⟨j, rfl, hj, hgo, rfl⟩ := hrel
    have HGO := Hid.in hgo
    clear hgo
    by_cases hmore : ∃ h : j < T.length, T[j].key < k
    · obtain ⟨hjT, hkey⟩ := hmore
      have hlt : j < n := by rw [← HN.out]; exact hjT
      obtain ⟨b, o, rfl, hcc⟩ := HR.out.at3 (by omega)
      have c0 := (hcc j hjT).1
      have HG2 : Hid (∀ i (hi : i < T.length), i < j + 1 → T[i].key < k) := fun i hi h => by
        by_cases e : i = j
        · subst e; exact hkey
        · exact HGO.out i hi (by omega)
      clear hcc
      generalize T[j].key = x0 at *
      go_wp2_with fail
      go_roundw
      case rel => exact ⟨j + 1, by go_num, by omega, HG2.out, trivial⟩
      case measure => simp [intOf]; omega
    · have HNJ : Hid (∀ h : j < T.length, ¬ T[j].key < k) := fun h h2 => hmore ⟨h, h2⟩
      by_cases hlt : j < n
      · have hjT : j < T.length := by rw [HN.out]; exact hlt
        have hkey := HNJ.out hjT
        obtain ⟨b, o, rfl, hcc⟩ := HR.out.at3 (by omega)
        have c0 := (hcc j hjT).1
        have HCC := Hid.in (fun i hi => (hcc i hi).1)
        clear hcc hmore
        generalize T[j].key = x0 at *
        go_wp2_with fail
        go_loopw [7] (fun vi ws => ∃ m : Nat, vi = .int .i64 m ∧ j ≤ m ∧ m ≤ n ∧ (∀ i (hi : i < T.length), j ≤ i → i < m → T[i].key ≤ k) ∧ ws = wr) (fun vi _ => n - (intOf vi).toNat)
        case atStart => exact ⟨j, rfl, Nat.le_refl _, hj, fun i _ h1 h2 => absurd h2 (by omega), rfl⟩
        case round =>
          obtain ⟨m, rfl, hjm, hm, hgo2, rfl⟩ := hrel
          have HGP := Hid.in hgo2
          clear hgo2
          by_cases hmr : ∃ h : m < T.length, T[m].key ≤ k
          · obtain ⟨hmT, hmk⟩ := hmr
            have hlm : m < n := by rw [← HN.out]; exact hmT
            have c1 := HCC.out m hmT
            have HG3 : Hid (∀ i (hi : i < T.length), j ≤ i → i < m + 1 → T[i].key ≤ k) := fun i hi h1 h2 => by
              by_cases e : i = m
              · subst e; exact hmk
              · exact HGP.out i hi h1 (by omega)
            generalize T[m].key = y0 at *
            go_wp2_with fail
            go_roundw
            case rel => exact ⟨m + 1, by go_num, by omega, by omega, HG3.out, trivial⟩
            case measure => simp [intOf]; omega
          · have HNM : Hid (∀ h : m < T.length, ¬ T[m].key ≤ k) := fun h h2 => hmr ⟨h, h2⟩
            by_cases hlm : m < n
            · have hmT : m < T.length := by rw [HN.out]; exact hlm
              have hmk := HNM.out hmT
              have c1 := HCC.out m hmT
              clear hmr
              generalize T[m].key = y0 at *
              go_wp2_with fail
              go_ret2
              exact ⟨⟨j, m, rfl, HGO.out, HNJ.out, hjm, hm, HGP.out, HNM.out⟩, rfl⟩
            · clear hmr
              go_wp2_with fail
              go_ret2
              exact ⟨⟨j, m, rfl, HGO.out, HNJ.out, hjm, hm, HGP.out, HNM.out⟩, rfl⟩
      · clear hmore
        go_wp2_with fail
        refine wp_loop_rounds 1 ?_
        rw [rounds_succ]; go_wp2_with fail
        go_ret2
        exact ⟨⟨j, j, rfl, HGO.out, HNJ.out, Nat.le_refl _, hj, fun i _ h1 h2 => absurd h2 (by omega), fun h => absurd h (by rw [HN.out]; exact hlt)⟩, rfl⟩

/-- sorted by keys -/
def kyB (T : List Si) : Bool := decide (∀ i, i < T.length - 1 → ¬ (T.getD (i + 1) ⟨0, 0, 0⟩).key < (T.getD i ⟨0, 0, 0⟩).key)
theorem ky_byKey {T : List Si} (h : kyB T = true) : byKey T := by
  unfold kyB at h
  rw [decide_eq_true_eq] at h
  have hc : ∀ i (hi : i + 1 < T.length), T[i].key ≤ T[i + 1].key := by
    intro i hi
    have := h i (by omega)
    rw [getD_si hi, getD_si (by omega)] at this
    omega
  have hg : ∀ d i (hi : i + d < T.length), T[i].key ≤ T[i + d].key := by
    intro d
    induction d with
    | zero => exact fun i hi => Int.le_refl _
    | succ d ih => exact fun i hi => Int.le_trans (ih i (by omega)) (hc (i + d) (by omega))
  refine List.pairwise_iff_getElem.2 fun i j hi hj hij => ?_
  obtain ⟨d, rfl⟩ : ∃ d, j = i + d := ⟨j - i, by omega⟩
  exact hg d i hj

set_option maxRecDepth 4000 in
set_option maxHeartbeats 2000000 in
theorem refSorted_any (p : Option Addr) (n c : Nat) (T : List Si) (w : World) (hn : T.length = n) (hn6 : n ≤ 140737488355328) (hr : Row3 w p (T.map siV)) :
    Calls Tryz.prog 20 #[.slice p n c] w fun E w' => E = .returned (.bool (kyB T)) ∧ ∃ m, w' = w.drewN m := by
  have HN := Hid.in hn
  have HR := Hid.in hr
  clear hn hr
  obtain ⟨r, hrr⟩ : ∃ r, kyB T = r := ⟨_, rfl⟩
  rw [hrr]
  have HRR := Hid.in hrr
  clear hrr
  go_enter Tryz.func20, Tryz.ntmps20
  go_wp2_with fail
  go_loopw [3] (fun vi wr => ∃ j m : Nat, vi = .int .i64 ((j : Int) + 1) ∧ j ≤ n ∧ (∀ i, i < j → i < T.length - 1 → ¬ (T.getD (i + 1) ⟨0, 0, 0⟩).key < (T.getD i ⟨0, 0, 0⟩).key) ∧ wr = w.drewN m) (fun vi _ => n + 1 - (intOf vi).toNat)
  case atStart => exact ⟨0, 0, rfl, Nat.zero_le _, fun i h => absurd h (Nat.not_lt_zero _), rfl⟩
  case round =>
    obtain ⟨j, m, rfl, hj, hgo, rfl⟩ := hrel
    have HGO := Hid.in hgo
    clear hgo
    by_cases hl2 : j + 1 < n
    · have hP1 : j + 1 < T.length := by rw [HN.out]; exact hl2
      have hP0 : j < T.length := by omega
      obtain ⟨b, o, rfl, hcc⟩ := HR.out.at3 (by omega)
      have d1 := (hcc (j + 1) hP1).1
      have d0 := (hcc j hP0).1
      have hg1 : (T.getD (j + 1) ⟨0, 0, 0⟩).key = T[j + 1].key := by rw [getD_si hP1]
      have hg0 : (T.getD j ⟨0, 0, 0⟩).key = T[j].key := by rw [getD_si hP0]
      clear hcc
      have hw1 : IntKind.i64.wrap ((j : Int) + 1 - 1) = (j : Int) := by rw [IntKind.wrap_i64]; omega
      have hw2 : IntKind.i64.wrap (j : Int) = (j : Int) := by rw [IntKind.wrap_i64]; omega
      have hb0 : (0 : Int) ≤ (j : Int) + 1 := by omega
      have hb1 : (j : Int) + 1 < (n : Int) := by omega
      have hb2 : j < n := by omega
      have hb3 : ((j : Int) + 1).toNat = j + 1 := by omega
      by_cases hd : T[j + 1].key < T[j].key
      · have HE : Hid (r = false) := by
          have : kyB T = false := by
            unfold kyB
            refine decide_eq_false fun h => ?_
            exact h j (by omega) (by rw [hg1, hg0]; exact hd)
          rw [← HRR.out, this]; exact rfl
        clear hg1 hg0
        generalize T[j + 1].key = y1 at *
        generalize T[j].key = y0 at *
        have hdd : decide (y1 < y0) = true := decide_eq_true hd
        go_wp2_with fail
        go_quiet (fail)
        go_wp2
        go_ret
        exact ⟨by rw [HE.out]; rfl, m + nq, World.drewN_drewN ..⟩
      · have HG2 : Hid (∀ i, i < j + 1 → i < T.length - 1 → ¬ (T.getD (i + 1) ⟨0, 0, 0⟩).key < (T.getD i ⟨0, 0, 0⟩).key) := fun i h1 h2 => by
          by_cases e : i = j
          · subst e; rw [hg1, hg0]; exact hd
          · exact HGO.out i (by omega) h2
        clear hg1 hg0
        generalize T[j + 1].key = y1 at *
        generalize T[j].key = y0 at *
        have hdd : decide (y1 < y0) = false := decide_eq_false hd
        go_wp2_with fail
        go_quiet (fail)
        go_wp2
        go_roundw
        case rel => exact ⟨j + 1, _, by go_num, by omega, fun i h1 h2 => (by have := HG2.out i h1 h2; omega), rfl⟩
        case measure => simp [intOf]; omega
    · have HE : Hid (r = true) := by
        have : kyB T = true := by
          unfold kyB
          exact decide_eq_true fun i hi => HGO.out i (by have := HN.out; omega) hi
        rw [← HRR.out, this]; exact rfl
      go_wp2_with fail
      go_ret
      exact ⟨by rw [HE.out]; rfl, _, rfl⟩

end Go.Proofs.YtckpgpgmaccepaaGreat

/- The reference's Right. -/
namespace Go.Proofs.YtckpgpgmaccepaaGreat
open Go.RowKit

/-- what the reference asks of site i -/
def okI (T : List Si) (n : Int) (i : Nat) : Prop :=
  siteB n (T.getD i ⟨0, 0, 0⟩) = true ∧ (0 < i → ltS (T.getD (i - 1) ⟨0, 0, 0⟩) (T.getD i ⟨0, 0, 0⟩) = true) ∧ ∀ k, k < i → ¬ ((T.getD i ⟨0, 0, 0⟩).at_ - (T.getD k ⟨0, 0, 0⟩).at_ < 5 ∧ (T.getD k ⟨0, 0, 0⟩).at_ - (T.getD i ⟨0, 0, 0⟩).at_ < 5)

theorem right_ok {T : List Si} {n : Int} (h0 : 0 ≤ n ∧ n ≤ 64 ∧ T.length ≤ 256) : rightS T n = true ↔ ∀ i, i < T.length → okI T n i := by
  unfold rightS
  rw [decide_eq_true h0, Bool.true_and, Bool.and_eq_true, Bool.and_eq_true, List.all_eq_true, decide_eq_true_eq, decide_eq_true_eq]
  constructor
  · rintro ⟨⟨h1, h2⟩, h3⟩ i hi
    refine ⟨?_, fun hp => ?_, fun k hk => ?_⟩
    · rw [getD_si hi]; exact h1 _ (List.getElem_mem hi)
    · rw [getD_si hi, getD_si (by omega)]
      exact List.pairwise_iff_getElem.1 h2 (i - 1) i (by omega) hi (by omega)
    · rw [getD_si hi, getD_si (by omega)]
      exact List.pairwise_iff_getElem.1 h3 k i (by omega) hi hk
  · intro h
    refine ⟨⟨fun s hs => ?_, ?_⟩, ?_⟩
    · obtain ⟨i, hi, rfl⟩ := List.getElem_of_mem hs
      have := (h i hi).1
      rw [getD_si hi] at this
      exact this
    · have hc : ∀ i (hi : i + 1 < T.length), ltS T[i] T[i + 1] = true := by
        intro i hi
        have := (h (i + 1) hi).2.1 (by omega)
        rw [getD_si hi, Nat.add_sub_cancel, getD_si (by omega)] at this
        exact this
      have hg : ∀ d i (hi : i + (d + 1) < T.length), ltS T[i] T[i + (d + 1)] = true := by
        intro d
        induction d with
        | zero => exact fun i hi => hc i hi
        | succ d ih => exact fun i hi => ltS_trans (ih i (by omega)) (hc (i + (d + 1)) hi)
      refine List.pairwise_iff_getElem.2 fun i j hi hj hij => ?_
      obtain ⟨d, rfl⟩ : ∃ d, j = i + (d + 1) := ⟨j - i - 1, by omega⟩
      exact hg d i hj
    · refine List.pairwise_iff_getElem.2 fun i j hi hj hij => ?_
      have := (h j hj).2.2 i hij
      rw [getD_si hj, getD_si hi] at this
      exact this

theorem right_no {T : List Si} {n : Int} {i : Nat} (h0 : 0 ≤ n ∧ n ≤ 64 ∧ T.length ≤ 256) (hi : i < T.length) (h : ¬ okI T n i) : rightS T n = false := by
  cases hr : rightS T n with
  | false => rfl
  | true => exact absurd ((right_ok h0).1 hr i hi) h

set_option maxRecDepth 4000 in
set_option maxHeartbeats 4000000 in
theorem refRight_any (p : Option Addr) (n c : Nat) (T : List Si) (k : Int) (w : World) (hn : T.length = n) (hn6 : n ≤ 140737488355328) (hr : Row3 w p (T.map siV)) :
    Calls Tryz.prog 22 #[.slice p n c, .int .i64 k] w fun E w' => E = .returned (.bool (rightS T k)) ∧ Below w.heap.size w w' := by
  by_cases h0 : 0 ≤ k ∧ k ≤ 64 ∧ T.length ≤ 256
  · obtain ⟨r, hrr⟩ : ∃ r, rightS T k = r := ⟨_, rfl⟩
    rw [hrr]
    have HNO : Hid (∀ i, i < T.length → ¬ okI T k i → r = false) := fun i hi h => by rw [← hrr]; exact right_no h0 hi h
    have HYES : Hid ((∀ i, i < T.length → okI T k i) → r = true) := fun h => by rw [← hrr]; exact (right_ok h0).2 h
    have HN := Hid.in hn
    have HR := Hid.in hr
    obtain ⟨h1, h2, h3⟩ := h0
    rw [hn] at h3
    clear hrr hn hr
    have q1 : decide (k < 0) = false := decide_eq_false (by omega)
    have q2 : decide (64 < k) = false := decide_eq_false (by omega)
    have q3 : decide (256 < n) = false := decide_eq_false (by omega)
    go_enter Tryz.func22, Tryz.ntmps22
    go_wp2_with fail
    go_loopw [5] (fun vi wr => ∃ j : Nat, vi = .int .i64 j ∧ j ≤ n ∧ (∀ i, i < T.length → i < j → okI T k i) ∧ Below w.heap.size w wr) (fun vi _ => n - (intOf vi).toNat)
    case atStart => exact ⟨0, rfl, Nat.zero_le _, fun i _ h => absurd h (Nat.not_lt_zero _), below_self w⟩
    case round =>
      obtain ⟨j, rfl, hj, hgo, hb⟩ := hrel
      have HGO := Hid.in hgo
      have HB := Hid.in hb
      clear hgo hb
      by_cases hlt : j < n
      · have hjT : j < T.length := by rw [HN.out]; exact hlt
        obtain ⟨b, o, rfl, hcc⟩ := (HR.out.below HB.out).at3 (by omega)
        have c0 := (hcc j hjT).1
        have c1 := (hcc j hjT).2.1
        have c2 := (hcc j hjT).2.2
        by_cases hall : 0 ≤ T[j].key ∧ T[j].key < k ∧ 0 ≤ T[j].at_ ∧ T[j].at_ ≤ 65531 ∧ 0 ≤ T[j].to_ ∧ T[j].to_ ≤ 65536
        · have hE : ∀ f, farS T[j] = f → ∀ W, Calls Tryz.prog 37 #[.agg #[.int .i64 T[j].key, .int .i64 T[j].at_, .int .i64 T[j].to_]] W fun e w' => e = .returned (.bool f) ∧ Below W.heap.size W w' := fun f hf W => by
            have h := far_any T[j] W ⟨by omega, by omega, by omega, by omega⟩
            rw [hf] at h
            exact h
          have HSI : Hid (farS T[j] = false → siteB k T[j] = true) := fun h => by
            have h2 : siteB k T[j] = true := by unfold siteB; rw [decide_eq_true hall, h]; rfl
            exact h2
          have HPC0 : Hid (∀ i (hi : i < T.length), wr.cell? ⟨b, o + i * 3 + 1, none⟩ = some (.int .i64 T[i].at_)) := fun i hi => (hcc i hi).2.1
          have HRG : Hid (∀ i (hi : i < T.length), i < j → 0 ≤ T[i].at_ ∧ T[i].at_ ≤ 65531) := fun i hi h => by
            have h1 := (HGO.out i hi h).1
            rw [getD_si hi] at h1
            unfold siteB at h1
            simp only [Bool.and_eq_true, decide_eq_true_eq] at h1
            omega
          have HB2 := Hid.in (below_alloc HB.out (.cells #[.int .i64 T[j].key, .int .i64 T[j].at_, .int .i64 T[j].to_] 34))
          have HV2 := Hid.in (Blk.new wr 34 #[.int .i64 T[j].key, .int .i64 T[j].at_, .int .i64 T[j].to_])
          have HC2 := Hid.in (new_alloc wr (.cells #[.int .i64 T[j].key, .int .i64 T[j].at_, .int .i64 T[j].to_] 34))
          cases hf : farS T[j] with
          | true =>
            have HE : Hid (r = false) := HNO.out j hjT (fun h => by
              have h1 := h.1
              rw [getD_si hjT] at h1
              unfold siteB at h1
              rw [hf] at h1
              simp at h1)
            have hfar := hE true hf
            clear hE hcc HSI hf
            obtain ⟨g1, g2, g3, g4, g5, g6⟩ := hall
            generalize T[j].key = x0 at *
            generalize T[j].at_ = x1 at *
            generalize T[j].to_ = x2 at *
            have e1 : decide (x0 < 0) = false := decide_eq_false (by omega)
            have e2 : decide (k ≤ x0) = false := decide_eq_false (by omega)
            have e3 : decide (x1 < 0) = false := decide_eq_false (by omega)
            have e4 : decide (65531 < x1) = false := decide_eq_false (by omega)
            have e5 : decide (x2 < 0) = false := decide_eq_false (by omega)
            have e6 : decide (65536 < x2) = false := decide_eq_false (by omega)
            go_wp2_with fail
            generalize wr.alloc (.cells #[.int .i64 x0, .int .i64 x1, .int .i64 x2] 34) = w2 at *
            have HKP : Hid (∀ W, Below w2.heap.size w2 W → W.cell? ⟨wr.heap.size, 0, none⟩ = some (.int .i64 x0) ∧ W.cell? ⟨wr.heap.size, 1, none⟩ = some (.int .i64 x1) ∧ W.cell? ⟨wr.heap.size, 2, none⟩ = some (.int .i64 x2)) := fun W hW => ⟨(HV2.out.grow hW).cell 0, (HV2.out.grow hW).cell 1, (HV2.out.grow hW).cell 2⟩
            have v0 : w2.cell? ⟨wr.heap.size, 0, none⟩ = some (.int .i64 x0) := HV2.out.cell 0
            have v1 : w2.cell? ⟨wr.heap.size, 1, none⟩ = some (.int .i64 x1) := HV2.out.cell 1
            have v2 : w2.cell? ⟨wr.heap.size, 2, none⟩ = some (.int .i64 x2) := HV2.out.cell 2
            have v0' := fun d os => cell_regrown v0 d os
            have v1' := fun d os => cell_regrown v1 d os
            have v2' := fun d os => cell_regrown v2 d os
            refine wp_region_quiet_below (by kernel_rfl) (by kernel_rfl) ?_
            iterate 47 (go_big_quiet_step ((exact Calls.regrown_of (hfar _))))
            refine wpQuiet_nil ?_
            intro _ hw'
            obtain ⟨⟨dq, osq⟩, hw''⟩ := hw'
            subst hw''
            have HB3 := Hid.in (below_regrown w2 dq osq)
            clear v0' v1' v2'
            generalize Go.Sort.grow (redrawn w2 dq) osq = w3 at *
            go_wp2
            go_ret
            exact ⟨by rw [HE.out]; rfl, below_step HB2.out HB3.out⟩
          | false =>
            have hfar := hE false hf
            have HSB := Hid.in (HSI.out hf)
            have HBAD : Hid (∀ m, m < j → (T[j].at_ - (T.getD m ⟨0, 0, 0⟩).at_ < 5 ∧ (T.getD m ⟨0, 0, 0⟩).at_ - T[j].at_ < 5) → r = false) := fun m hm hd => HNO.out j hjT (fun h => by
              have h3 := h.2.2 m hm
              rw [getD_si hjT] at h3
              exact h3 hd)
            by_cases hj0 : j = 0
            · have hjz : decide (0 < j) = false := decide_eq_false (by omega)
              have HNX : Hid ((∀ i, i < j → ¬ (T[j].at_ - (T.getD i ⟨0, 0, 0⟩).at_ < 5 ∧ (T.getD i ⟨0, 0, 0⟩).at_ - T[j].at_ < 5)) → ∀ i, i < T.length → i < j + 1 → okI T k i) := fun _ i hi h => by
                have e : i = j := by omega
                subst e
                exact ⟨by rw [getD_si hjT]; exact HSB.out, fun h => absurd h (by omega), fun q hq => absurd hq (by omega)⟩
              have hjz2 : ¬ 0 < j := by omega
              clear hE hcc HSI hf HSB hj0
              obtain ⟨g1, g2, g3, g4, g5, g6⟩ := hall
              generalize T[j].key = x0 at *
              generalize T[j].at_ = x1 at *
              generalize T[j].to_ = x2 at *
              have e1 : decide (x0 < 0) = false := decide_eq_false (by omega)
              have e2 : decide (k ≤ x0) = false := decide_eq_false (by omega)
              have e3 : decide (x1 < 0) = false := decide_eq_false (by omega)
              have e4 : decide (65531 < x1) = false := decide_eq_false (by omega)
              have e5 : decide (x2 < 0) = false := decide_eq_false (by omega)
              have e6 : decide (65536 < x2) = false := decide_eq_false (by omega)
              go_wp2_with fail
              generalize wr.alloc (.cells #[.int .i64 x0, .int .i64 x1, .int .i64 x2] 34) = w2 at *
              have HKP : Hid (∀ W, Below w2.heap.size w2 W → W.cell? ⟨wr.heap.size, 0, none⟩ = some (.int .i64 x0) ∧ W.cell? ⟨wr.heap.size, 1, none⟩ = some (.int .i64 x1) ∧ W.cell? ⟨wr.heap.size, 2, none⟩ = some (.int .i64 x2)) := fun W hW => ⟨(HV2.out.grow hW).cell 0, (HV2.out.grow hW).cell 1, (HV2.out.grow hW).cell 2⟩
              have v0 : w2.cell? ⟨wr.heap.size, 0, none⟩ = some (.int .i64 x0) := HV2.out.cell 0
              have v1 : w2.cell? ⟨wr.heap.size, 1, none⟩ = some (.int .i64 x1) := HV2.out.cell 1
              have v2 : w2.cell? ⟨wr.heap.size, 2, none⟩ = some (.int .i64 x2) := HV2.out.cell 2
              have v0' := fun d os => cell_regrown v0 d os
              have v1' := fun d os => cell_regrown v1 d os
              have v2' := fun d os => cell_regrown v2 d os
              refine wp_region_quiet_below (by kernel_rfl) (by kernel_rfl) ?_
              iterate 47 (go_big_quiet_step ((exact Calls.regrown_of (hfar _))))
              refine wpQuiet_nil ?_
              intro _ hw'
              obtain ⟨⟨dq, osq⟩, hw''⟩ := hw'
              subst hw''
              have HB3 := Hid.in (below_regrown w2 dq osq)
              clear v0' v1' v2'
              generalize Go.Sort.grow (redrawn w2 dq) osq = w3 at *
              have HBX := Hid.in (below_step HB2.out HB3.out)
              have HG3 := Hid.in (HNX.out (fun i h => absurd h (by omega)))
              all_goals
                go_wp2_with fail
                refine wp_loop_rounds 1 ?_
                rw [rounds_succ]; go_wp2_with fail
                go_roundw
                case rel => exact ⟨j + 1, by go_num, by omega, HG3.out, HBX.out⟩
                case measure => simp [intOf]; omega
            · have hjp : j - 1 < T.length := by omega
              have p0 := (hcc (j - 1) hjp).1
              have p1 := (hcc (j - 1) hjp).2.1
              have p2 := (hcc (j - 1) hjp).2.2
              have hah := fun W => ahead_any T[j - 1] T[j] W
              dsimp only [sV] at hah
              have hwj : IntKind.i64.wrap ((j : Int) - 1) = ((j - 1 : Nat) : Int) := by rw [IntKind.wrap_i64]; omega
              have hjpos : decide (0 < j) = true := decide_eq_true (by omega)
              have hjp2 : j - 1 < n := by omega
              cases hlt2 : ltS T[j - 1] T[j] with
              | true =>
                have HNX : Hid ((∀ i, i < j → ¬ (T[j].at_ - (T.getD i ⟨0, 0, 0⟩).at_ < 5 ∧ (T.getD i ⟨0, 0, 0⟩).at_ - T[j].at_ < 5)) → ∀ i, i < T.length → i < j + 1 → okI T k i) := fun hh i hi h => by
                  by_cases e : i = j
                  · subst e
                    exact ⟨by rw [getD_si hjT]; exact HSB.out, fun _ => by rw [getD_si hjT, getD_si hjp]; exact hlt2, fun q hq => by rw [getD_si hjT]; exact hh q hq⟩
                  · exact HGO.out i hi (by omega)
                rw [hlt2] at hah
                clear hE hcc HSI hf HSB hlt2
                obtain ⟨g1, g2, g3, g4, g5, g6⟩ := hall
                generalize T[j].key = x0 at *
                generalize T[j].at_ = x1 at *
                generalize T[j].to_ = x2 at *
                have e1 : decide (x0 < 0) = false := decide_eq_false (by omega)
                have e2 : decide (k ≤ x0) = false := decide_eq_false (by omega)
                have e3 : decide (x1 < 0) = false := decide_eq_false (by omega)
                have e4 : decide (65531 < x1) = false := decide_eq_false (by omega)
                have e5 : decide (x2 < 0) = false := decide_eq_false (by omega)
                have e6 : decide (65536 < x2) = false := decide_eq_false (by omega)
                generalize T[j - 1].key = y0 at *
                generalize T[j - 1].at_ = z1 at *
                generalize T[j - 1].to_ = y2 at *
                go_wp2_with fail
                generalize wr.alloc (.cells #[.int .i64 x0, .int .i64 x1, .int .i64 x2] 34) = w2 at *
                have HKP : Hid (∀ W, Below w2.heap.size w2 W → W.cell? ⟨wr.heap.size, 0, none⟩ = some (.int .i64 x0) ∧ W.cell? ⟨wr.heap.size, 1, none⟩ = some (.int .i64 x1) ∧ W.cell? ⟨wr.heap.size, 2, none⟩ = some (.int .i64 x2) ∧ W.cell? ⟨b, o + (j - 1) * 3, none⟩ = some (.int .i64 y0) ∧ W.cell? ⟨b, o + (j - 1) * 3 + 1, none⟩ = some (.int .i64 z1) ∧ W.cell? ⟨b, o + (j - 1) * 3 + 2, none⟩ = some (.int .i64 y2)) := fun W hW => ⟨(HV2.out.grow hW).cell 0, (HV2.out.grow hW).cell 1, (HV2.out.grow hW).cell 2, ((below_step HC2.out hW).cell (p := ⟨b, o + (j - 1) * 3, none⟩) (cell_lt p0)).trans p0, ((below_step HC2.out hW).cell (p := ⟨b, o + (j - 1) * 3 + 1, none⟩) (cell_lt p1)).trans p1, ((below_step HC2.out hW).cell (p := ⟨b, o + (j - 1) * 3 + 2, none⟩) (cell_lt p2)).trans p2⟩
                obtain ⟨v0, v1, v2, v3, v4, v5⟩ := HKP.out w2 (below_self w2)
                have v0' := fun d os => cell_regrown v0 d os
                have v1' := fun d os => cell_regrown v1 d os
                have v2' := fun d os => cell_regrown v2 d os
                have v3' := fun d os => cell_regrown v3 d os
                have v4' := fun d os => cell_regrown v4 d os
                have v5' := fun d os => cell_regrown v5 d os
                refine wp_region_quiet_below (by kernel_rfl) (by kernel_rfl) ?_
                iterate 47 (go_big_quiet_step ((first | exact Calls.regrown_of (hfar _) | exact Calls.regrown_of (hah _))))
                refine wpQuiet_nil ?_
                intro _ hw'
                obtain ⟨⟨dq, osq⟩, hw''⟩ := hw'
                subst hw''
                have HB4 := Hid.in (below_regrown w2 dq osq)
                have hk2 := HKP.out _ HB4.out
                clear v0' v1' v2' v3' v4' v5'
                generalize Go.Sort.grow (redrawn w2 dq) osq = w4 at *
                have HBX := Hid.in (below_step HB2.out HB4.out)
                have HPC : Hid (∀ i (hi : i < T.length), w4.cell? ⟨b, o + i * 3 + 1, none⟩ = some (.int .i64 T[i].at_)) := fun i hi => (((below_step HC2.out HB4.out)).cell (p := ⟨b, o + i * 3 + 1, none⟩) (cell_lt (HPC0.out i hi))).trans (HPC0.out i hi)
                have u1 := hk2.2.1
                clear hk2 v0 v1 v2 v3 v4 v5 p0 p1 p2 HKP hfar hah c0 c1 c2
                go_wp2_with fail
                go_loopw [7] (fun vi ws => ∃ m q : Nat, vi = .int .i64 m ∧ m ≤ j ∧ (∀ i, i < m → ¬ (x1 - (T.getD i ⟨0, 0, 0⟩).at_ < 5 ∧ (T.getD i ⟨0, 0, 0⟩).at_ - x1 < 5)) ∧ ws = w4.drewN q) (fun vi _ => j - (intOf vi).toNat)
                case atStart => exact ⟨0, 0, rfl, Nat.zero_le _, fun i h => absurd h (Nat.not_lt_zero _), rfl⟩
                case round =>
                  obtain ⟨m, q, rfl, hm, hgo2, rfl⟩ := hrel
                  have HGP := Hid.in hgo2
                  clear hgo2
                  by_cases hmj : m < j
                  · have hmT : m < T.length := by omega
                    have d1 := HPC.out m hmT
                    have hgm : (T.getD m ⟨0, 0, 0⟩).at_ = T[m].at_ := by rw [getD_si hmT]
                    have hrg := HRG.out m hmT hmj
                    have hw3 : IntKind.i64.wrap (x1 - T[m].at_) = x1 - T[m].at_ := by rw [IntKind.wrap_i64]; omega
                    have hmn : m < n := by omega
                    by_cases hd : x1 - T[m].at_ < 5 ∧ T[m].at_ - x1 < 5
                    · have HE : Hid (r = false) := HBAD.out m hmj (by rw [hgm]; exact hd)
                      obtain ⟨hd1, hd2⟩ := hd
                      clear hgm
                      generalize T[m].at_ = y1 at *
                      have hd3 : -5 < x1 - y1 := by omega
                      go_wp2_with fail
                      go_quiet (fail)
                      go_wp2
                      go_ret
                      exact ⟨by rw [HE.out]; rfl, below_draws HBX.out _⟩
                    · have HG2 : Hid (∀ i, i < m + 1 → ¬ (x1 - (T.getD i ⟨0, 0, 0⟩).at_ < 5 ∧ (T.getD i ⟨0, 0, 0⟩).at_ - x1 < 5)) := fun i h => by
                        by_cases e : i = m
                        · subst e; rw [hgm]; exact hd
                        · exact HGP.out i (by omega)
                      clear hgm
                      generalize T[m].at_ = y1 at *
                      rcases (by omega : x1 - y1 ≤ -5 ∨ (-5 < x1 - y1 ∧ 5 ≤ x1 - y1)) with hd3 | ⟨hd3, hd4⟩
                      all_goals
                        clear hd
                        go_wp2_with fail
                        go_quiet (fail)
                        go_wp2
                        go_roundw
                        case rel => exact ⟨m + 1, _, by go_num, by omega, fun i h1 => (by have := HG2.out i h1; omega), rfl⟩
                        case measure => simp [intOf]; omega
                  · have HG3 : Hid (∀ i, i < T.length → i < j + 1 → okI T k i) := HNX.out (fun i hi => HGP.out i (by omega))
                    go_wp2_with fail
                    go_roundw
                    case rel => exact ⟨j + 1, by go_num, by omega, HG3.out, below_draws HBX.out _⟩
                    case measure => simp [intOf]; omega
              | false =>
                have HE : Hid (r = false) := HNO.out j hjT (fun h => by
                  have h2 := h.2.1 (by omega)
                  rw [getD_si hjT, getD_si hjp, hlt2] at h2
                  cases h2)
                rw [hlt2] at hah
                clear hE hcc HSI hf HSB hlt2
                obtain ⟨g1, g2, g3, g4, g5, g6⟩ := hall
                generalize T[j].key = x0 at *
                generalize T[j].at_ = x1 at *
                generalize T[j].to_ = x2 at *
                have e1 : decide (x0 < 0) = false := decide_eq_false (by omega)
                have e2 : decide (k ≤ x0) = false := decide_eq_false (by omega)
                have e3 : decide (x1 < 0) = false := decide_eq_false (by omega)
                have e4 : decide (65531 < x1) = false := decide_eq_false (by omega)
                have e5 : decide (x2 < 0) = false := decide_eq_false (by omega)
                have e6 : decide (65536 < x2) = false := decide_eq_false (by omega)
                generalize T[j - 1].key = y0 at *
                generalize T[j - 1].at_ = z1 at *
                generalize T[j - 1].to_ = y2 at *
                go_wp2_with fail
                generalize wr.alloc (.cells #[.int .i64 x0, .int .i64 x1, .int .i64 x2] 34) = w2 at *
                have HKP : Hid (∀ W, Below w2.heap.size w2 W → W.cell? ⟨wr.heap.size, 0, none⟩ = some (.int .i64 x0) ∧ W.cell? ⟨wr.heap.size, 1, none⟩ = some (.int .i64 x1) ∧ W.cell? ⟨wr.heap.size, 2, none⟩ = some (.int .i64 x2) ∧ W.cell? ⟨b, o + (j - 1) * 3, none⟩ = some (.int .i64 y0) ∧ W.cell? ⟨b, o + (j - 1) * 3 + 1, none⟩ = some (.int .i64 z1) ∧ W.cell? ⟨b, o + (j - 1) * 3 + 2, none⟩ = some (.int .i64 y2)) := fun W hW => ⟨(HV2.out.grow hW).cell 0, (HV2.out.grow hW).cell 1, (HV2.out.grow hW).cell 2, ((below_step HC2.out hW).cell (p := ⟨b, o + (j - 1) * 3, none⟩) (cell_lt p0)).trans p0, ((below_step HC2.out hW).cell (p := ⟨b, o + (j - 1) * 3 + 1, none⟩) (cell_lt p1)).trans p1, ((below_step HC2.out hW).cell (p := ⟨b, o + (j - 1) * 3 + 2, none⟩) (cell_lt p2)).trans p2⟩
                obtain ⟨v0, v1, v2, v3, v4, v5⟩ := HKP.out w2 (below_self w2)
                have v0' := fun d os => cell_regrown v0 d os
                have v1' := fun d os => cell_regrown v1 d os
                have v2' := fun d os => cell_regrown v2 d os
                have v3' := fun d os => cell_regrown v3 d os
                have v4' := fun d os => cell_regrown v4 d os
                have v5' := fun d os => cell_regrown v5 d os
                refine wp_region_quiet_below (by kernel_rfl) (by kernel_rfl) ?_
                iterate 47 (go_big_quiet_step ((first | exact Calls.regrown_of (hfar _) | exact Calls.regrown_of (hah _))))
                refine wpQuiet_nil ?_
                intro _ hw'
                obtain ⟨⟨dq, osq⟩, hw''⟩ := hw'
                subst hw''
                have HB4 := Hid.in (below_regrown w2 dq osq)
                have hk2 := HKP.out _ HB4.out
                clear v0' v1' v2' v3' v4' v5'
                generalize Go.Sort.grow (redrawn w2 dq) osq = w4 at *
                go_wp2
                go_ret
                exact ⟨by rw [HE.out]; rfl, below_step HB2.out HB4.out⟩
        · have HE : Hid (r = false) := HNO.out j hjT (fun h => by
            have h1 := h.1
            rw [getD_si hjT] at h1
            unfold siteB at h1
            rw [decide_eq_false hall, Bool.false_and] at h1
            cases h1)
          clear hcc
          generalize T[j].key = x0 at *
          generalize T[j].at_ = x1 at *
          generalize T[j].to_ = x2 at *
          rcases (by omega : x0 < 0 ∨ (0 ≤ x0 ∧ k ≤ x0) ∨ (0 ≤ x0 ∧ x0 < k ∧ x1 < 0) ∨ (0 ≤ x0 ∧ x0 < k ∧ 0 ≤ x1 ∧ 65531 < x1) ∨ (0 ≤ x0 ∧ x0 < k ∧ 0 ≤ x1 ∧ x1 ≤ 65531 ∧ x2 < 0) ∨ (0 ≤ x0 ∧ x0 < k ∧ 0 ≤ x1 ∧ x1 ≤ 65531 ∧ 0 ≤ x2 ∧ 65536 < x2)) with g1 | ⟨g1, g2⟩ | ⟨g1, g2, g3⟩ | ⟨g1, g2, g3, g4⟩ | ⟨g1, g2, g3, g4, g5⟩ | ⟨g1, g2, g3, g4, g5, g6⟩
          · have e1 : decide (x0 < 0) = true := decide_eq_true g1
            clear hall
            go_wp2_with fail
            go_quiet (fail)
            go_wp2
            go_ret
            exact ⟨by rw [HE.out]; rfl, below_draws (below_alloc HB.out _) _⟩
          · have e1 : decide (x0 < 0) = false := decide_eq_false (by omega)
            have e2 : decide (k ≤ x0) = true := decide_eq_true g2
            clear hall
            go_wp2_with fail
            go_quiet (fail)
            go_wp2
            go_ret
            exact ⟨by rw [HE.out]; rfl, below_draws (below_alloc HB.out _) _⟩
          · have e1 : decide (x0 < 0) = false := decide_eq_false (by omega)
            have e2 : decide (k ≤ x0) = false := decide_eq_false (by omega)
            have e3 : decide (x1 < 0) = true := decide_eq_true g3
            clear hall
            go_wp2_with fail
            go_quiet (fail)
            go_wp2
            go_ret
            exact ⟨by rw [HE.out]; rfl, below_draws (below_alloc HB.out _) _⟩
          · have e1 : decide (x0 < 0) = false := decide_eq_false (by omega)
            have e2 : decide (k ≤ x0) = false := decide_eq_false (by omega)
            have e3 : decide (x1 < 0) = false := decide_eq_false (by omega)
            have e4 : decide (65531 < x1) = true := decide_eq_true g4
            clear hall
            go_wp2_with fail
            go_quiet (fail)
            go_wp2
            go_ret
            exact ⟨by rw [HE.out]; rfl, below_draws (below_alloc HB.out _) _⟩
          · have e1 : decide (x0 < 0) = false := decide_eq_false (by omega)
            have e2 : decide (k ≤ x0) = false := decide_eq_false (by omega)
            have e3 : decide (x1 < 0) = false := decide_eq_false (by omega)
            have e4 : decide (65531 < x1) = false := decide_eq_false (by omega)
            have e5 : decide (x2 < 0) = true := decide_eq_true g5
            clear hall
            go_wp2_with fail
            go_quiet (fail)
            go_wp2
            go_ret
            exact ⟨by rw [HE.out]; rfl, below_draws (below_alloc HB.out _) _⟩
          · have e1 : decide (x0 < 0) = false := decide_eq_false (by omega)
            have e2 : decide (k ≤ x0) = false := decide_eq_false (by omega)
            have e3 : decide (x1 < 0) = false := decide_eq_false (by omega)
            have e4 : decide (65531 < x1) = false := decide_eq_false (by omega)
            have e5 : decide (x2 < 0) = false := decide_eq_false (by omega)
            have e6 : decide (65536 < x2) = true := decide_eq_true g6
            clear hall
            go_wp2_with fail
            go_quiet (fail)
            go_wp2
            go_ret
            exact ⟨by rw [HE.out]; rfl, below_draws (below_alloc HB.out _) _⟩
      · have HE : Hid (r = true) := HYES.out (fun i hi => HGO.out i hi (by rw [HN.out] at hi; omega))
        go_wp2_with fail
        go_ret
        exact ⟨by rw [HE.out]; rfl, HB.out⟩
  · have HF : Hid (rightS T k = false) := by
      have h : rightS T k = false := by rw [right_eq, decide_eq_false h0, Bool.false_and, Bool.false_and]
      exact h
    rw [HF.out]
    rw [hn] at h0
    clear HF hr
    rcases (by omega : k < 0 ∨ (0 ≤ k ∧ 64 < k) ∨ (0 ≤ k ∧ k ≤ 64 ∧ 256 < n)) with h1 | ⟨h1, h2⟩ | ⟨h1, h2, h3⟩
    all_goals
      clear h0
      go_enter Tryz.func22, Tryz.ntmps22
      go_wp2_with fail
      go_ret
      exact ⟨rfl, below_self w⟩

end Go.Proofs.YtckpgpgmaccepaaGreat

/- sites.apart: no two sites share a byte. -/
namespace Go.Proofs.YtckpgpgmaccepaaGreat
open Go.RowKit

abbrev intsV (zs : List Int) : List Value := zs.map (Value.int .i64)

/-- numbers, sorted -/
def srt (zs : List Int) : List Int := zs.mergeSort fun x y => decide (x ≤ y)
theorem srt_perm (zs : List Int) : (srt zs).Perm zs := List.mergeSort_perm _ _
theorem srt_sorted (zs : List Int) : (srt zs).Pairwise fun a b => a ≤ b := by
  have := List.pairwise_mergeSort (le := fun x y : Int => decide (x ≤ y)) (fun a b c h1 h2 => by simp at *; omega) (fun a b => by simp; omega) zs
  exact this.imp fun h => by simpa using h
theorem srt_len (zs : List Int) : (srt zs).length = zs.length := (srt_perm zs).length_eq

theorem sortI_own (B g cap : Nat) (zs : List Int) (w : World) (ho : GOwn 3 w B g cap (intsV zs)) (hl : zs.length ≤ 140737488355328) :
    Calls Tryz.prog 75 #[.slice (some ⟨g, 0, none⟩) zs.length cap] w fun e w' => e = .returned (.tuple #[]) ∧ (∀ j (hj : j < (srt zs).length), w'.cell? ⟨g, j, none⟩ = some (.int .i64 (srt zs)[j])) ∧ ∀ w0, Below B w0 w → Below B w0 w' := by
  have hH : Go.Sort.Holds (Value.int .i64) w g 0 zs.toArray := by
    intro j hj
    have hj' : j < zs.length := by simpa using hj
    rw [Nat.zero_add]
    refine ⟨?_, ho.free j⟩
    rw [ho.cell j (by simpa using hj')]
    simp [hj']
  have hs : (srt zs).toArray.size = zs.toArray.size := by simp [srt_len]
  refine (Tryz.slices_Sort_int g 0 cap zs w hH ho.lt (by omega)).mono fun e w' ⟨he, n, os, hw⟩ => ⟨he, fun j hj => ?_, fun w0 hb => ?_⟩
  · rw [hw, Go.Sort.cell?_grow _ _ _ (by simpa using ho.lt)]
    have := Go.Sort.cell?_putRow (Value.int .i64) (Go.Sort.ahead w n) g 0 zs.toArray (srt zs).toArray hH hs j (by simpa using hj)
    rw [Nat.zero_add] at this
    refine this.trans ?_
    simp [hj]
  · refine hb.trans ?_
    rw [hw]
    refine ⟨rfl, rfl, rfl, by simp, fun k hk => ?_⟩
    have hkg : k ≠ g := by have := ho.base; omega
    have hks : k < (Go.Sort.putRow (Value.int .i64) (Go.Sort.ahead w n) g 0 (srt zs).toArray).heap.size := by
      have := hb.size
      simp
      have := ho.lt
      have := ho.base
      omega
    refine (Go.Sort.heap_grow_old _ os hks).trans ?_
    simp [Go.Sort.putRow, Go.Sort.mapBlock, Array.getElem?_modify, Ne.symm hkg]

theorem sortI_any (B : Nat) (p : Option Addr) (c : Nat) (zs : List Int) (w : World) (hl : zs.length ≤ 140737488355328) (ho : GOwnV 3 w B (.slice p zs.length c) (intsV zs)) :
    Calls Tryz.prog 75 #[.slice p zs.length c] w fun e w' => e = .returned (.tuple #[]) ∧ GRow w' p (intsV (srt zs)) ∧ ∀ w0, Below B w0 w → Below B w0 w' := by
  rcases ho.shape with ⟨h1, h2⟩ | ⟨g, cap, h1, h2⟩
  · have hz : zs = [] := by simpa using h2
    subst hz
    simp only [List.length_nil, Value.slice.injEq] at h1
    refine (Tryz.slices_Sort_int_none p c w).mono fun e w' ⟨he, hw⟩ => ⟨he, fun h => ?_, fun w0 hb => by rw [hw]; exact hb⟩
    simp [srt] at h
  · simp only [List.length_map, Value.slice.injEq] at h1
    obtain ⟨rfl, -, rfl⟩ := h1
    refine (sortI_own B g c zs w h2 hl).mono fun e w' ⟨he, hc, hb⟩ => ⟨he, fun _ => ⟨g, 0, rfl, fun i hi => ?_⟩, hb⟩
    have hi' : i < (srt zs).length := by simpa using hi
    rw [Nat.zero_add, hc i hi']
    simp [hi']

set_option maxRecDepth 4000 in
set_option maxHeartbeats 4000000 in
theorem apart_any (p : Option Addr) (n c : Nat) (T : List Si) (w : World) (hn : T.length = n) (hn6 : n ≤ 1000) (hr : Row3 w p (T.map siV)) (hT : ∀ s ∈ T, 0 ≤ s.at_ ∧ s.at_ ≤ 65536) :
    Calls Tryz.prog 49 #[.slice p n c] w fun E w' => E = .returned (.bool (decide (apP (T.map (·.at_))))) ∧ Below w.heap.size w w' := by
  have HN := Hid.in hn
  have HR := Hid.in hr
  have HT := Hid.in hT
  clear hn hr hT
  obtain ⟨r, hrr⟩ : ∃ r, decide (apP (T.map (·.at_))) = r := ⟨_, rfl⟩
  rw [hrr]
  have HRR := Hid.in hrr
  clear hrr
  go_enter Tryz.func49, Tryz.ntmps49
  go_wp2_with fail
  go_loopw [3, 9] (fun v vi wr => ∃ k : Nat, vi = .int .i64 k ∧ k ≤ n ∧ GOwnV 3 wr w.heap.size v (intsV ((T.map (·.at_)).take k)) ∧ Below w.heap.size w wr) (fun _ vi _ => n - (intOf vi).toNat)
  case atStart => exact ⟨0, rfl, Nat.zero_le _, GOwnV.nil _ _ _, below_self w⟩
  case round =>
    obtain ⟨k, rfl, hk, hown, hb⟩ := hrel
    have HB := Hid.in hb
    have hsz := hb.size
    clear hb
    by_cases hlt : k < n
    · have hkT : k < T.length := by rw [HN.out]; exact hlt
      obtain ⟨b, o, rfl, hcc⟩ := (HR.out.below HB.out).at3 (by omega)
      have c0 := (hcc k hkT).1
      have c1 := (hcc k hkT).2.1
      have c2 := (hcc k hkT).2.2
      have HTK : Hid (intsV ((T.map (·.at_)).take (k + 1)) = intsV ((T.map (·.at_)).take k) ++ [.int .i64 T[k].at_]) := by
        have h : intsV ((T.map (·.at_)).take (k + 1)) = intsV ((T.map (·.at_)).take k) ++ [.int .i64 T[k].at_] := by
          rw [List.take_succ_eq_append_getElem (by simpa using hkT)]
          simp
        exact h
      have hl2 : (intsV ((T.map (·.at_)).take k)).length ≤ 1000 := by rw [List.length_map, List.length_take]; omega
      clear hcc
      generalize T[k].key = x0 at *
      generalize T[k].at_ = x1 at *
      generalize T[k].to_ = x2 at *
      generalize intsV ((T.map (·.at_)).take k) = us at *
      go_wp2_with (at_builtin; refine gpush Tryz.elemI _ rfl _ _ rfl w.heap.size _ us rfl ((hown.alloc _).alloc _) ⟨wr.heap.size + 1, 0, none⟩ 1 1 [.int .i64 x1] rfl rfl (by have h := cell_one_new (wr.alloc (.cells #[.int .i64 x0, .int .i64 x1, .int .i64 x2] 34)) (.int .i64 x1) 3; rw [size_one] at h; exact h) (by simp [Value.oneCell']) (by omega) (by omega) (by simp; omega) ?_; intro v' w1 hown' _hgrow hbel _hnil)
      go_roundw
      case rel => exact ⟨k + 1, by go_num, by omega, by rw [HTK.out]; exact hown', hbel _ (below_alloc (below_alloc HB.out _) _)⟩
      case measure => simp [intOf]; omega
    · obtain ⟨zs, hzs⟩ : ∃ zs, zs = T.map (·.at_) := ⟨_, rfl⟩
      have hzl : zs.length = n := by rw [hzs, List.length_map, HN.out]
      rw [← hzs, List.take_of_length_le (by omega)] at hown
      have HAP : Hid (adjB (srt zs) = r) := by rw [adj_ap (srt_sorted zs), ← HRR.out, ← hzs]; exact decide_eq_decide.2 (ap_perm (srt_perm zs))
      have HRG : Hid (∀ i (hi : i < (srt zs).length), 0 ≤ (srt zs)[i] ∧ (srt zs)[i] ≤ 65536) := by
        intro i hi
        have hm : (srt zs)[i] ∈ T.map (·.at_) := by
          have h := (srt_perm zs).mem_iff.1 (List.getElem_mem hi)
          have e : zs = T.map (·.at_) := hzs
          exact e ▸ h
        obtain ⟨s, hs, e⟩ := List.mem_map.1 hm
        rw [← e]; exact HT.out s hs
      have hsl : (srt zs).length = n := by rw [srt_len]; exact hzl
      have HSL := Hid.in hsl
      obtain ⟨pv, cv, hv, -, -, -⟩ := hown.slice
      rw [List.length_map] at hv
      subst hv
      have hS := sortI_any w.heap.size pv cv zs wr (by omega) hown
      clear hown hzs HRR HR HT hsl
      subst hzl
      generalize srt zs = P at *
      go_wp2_with (go_at_call 75; refine hS.mono ?_; rintro e w1 ⟨rfl, hg, hb1⟩; have HG := Hid.in hg; have HB1 := Hid.in (hb1 w HB.out); clear hS hg hb1)
      go_loopw [6] (fun vi wr => ∃ k m : Nat, vi = .int .i64 ((k : Int) + 1) ∧ k ≤ zs.length ∧ (∀ i, i < k → i + 1 < P.length → ¬ P.getD (i + 1) 0 - P.getD i 0 < 5) ∧ wr = w1.drewN m) (fun vi _ => zs.length + 1 - (intOf vi).toNat)
      case atStart => exact ⟨0, 0, rfl, Nat.zero_le _, fun i h => absurd h (Nat.not_lt_zero _), rfl⟩
      case round =>
        obtain ⟨j, m, rfl, hj, hgo, rfl⟩ := hrel
        have HGO := Hid.in hgo
        clear hgo
        by_cases hl2 : j + 1 < zs.length
        · have hP1 : j + 1 < P.length := by rw [HSL.out]; exact hl2
          have hP0 : j < P.length := by omega
          obtain ⟨gb, go_, rfl, hcc⟩ := HG.out (by simp; omega)
          have d1 := hcc (j + 1) (by simpa using hP1)
          have d0 := hcc j (by simpa using hP0)
          rw [List.getElem?_map, List.getElem?_eq_getElem hP1, Option.map_some] at d1
          rw [List.getElem?_map, List.getElem?_eq_getElem hP0, Option.map_some] at d0
          have r1 := HRG.out (j + 1) hP1
          have r0 := HRG.out j hP0
          have hg1 : P.getD (j + 1) 0 = P[j + 1] := by simp [List.getD, hP1]
          have hg0 : P.getD j 0 = P[j] := by simp [List.getD, hP0]
          clear hcc
          by_cases hd : P[j + 1] - P[j] < 5
          · have HE : Hid (r = false) := by
              have : adjB P = false := by
                unfold adjB
                refine decide_eq_false fun h => ?_
                exact h j (by omega) (by rw [hg1, hg0]; exact hd)
              rw [← HAP.out, this]; exact rfl
            clear hg1 hg0
            generalize P[j + 1] = y1 at *
            generalize P[j] = y0 at *
            have hw1 : IntKind.i64.wrap ((j : Int) + 1 - 1) = (j : Int) := by rw [IntKind.wrap_i64]; omega
            have hw2 : IntKind.i64.wrap (j : Int) = (j : Int) := by rw [IntKind.wrap_i64]; omega
            have hw3 : IntKind.i64.wrap (y1 - y0) = y1 - y0 := by rw [IntKind.wrap_i64]; omega
            have hb0 : (0 : Int) ≤ (j : Int) + 1 := by omega
            have hb1 : (j : Int) + 1 < (zs.length : Int) := by omega
            have hb2 : j < zs.length := by omega
            have hb3 : ((j : Int) + 1).toNat = j + 1 := by omega
            have hdd : decide (y1 - y0 < 5) = true := decide_eq_true hd
            go_wp2_with fail
            go_quiet (fail)
            go_wp2
            go_ret
            exact ⟨by rw [HE.out]; rfl, below_draws (below_draws HB1.out _) _⟩
          · have HG2 : Hid (∀ i, i < j + 1 → i + 1 < P.length → ¬ P.getD (i + 1) 0 - P.getD i 0 < 5) := fun i h1 h2 => by
              by_cases e : i = j
              · subst e; rw [hg1, hg0]; exact hd
              · exact HGO.out i (by omega) h2
            clear hg1 hg0
            generalize P[j + 1] = y1 at *
            generalize P[j] = y0 at *
            have hw1 : IntKind.i64.wrap ((j : Int) + 1 - 1) = (j : Int) := by rw [IntKind.wrap_i64]; omega
            have hw2 : IntKind.i64.wrap (j : Int) = (j : Int) := by rw [IntKind.wrap_i64]; omega
            have hw3 : IntKind.i64.wrap (y1 - y0) = y1 - y0 := by rw [IntKind.wrap_i64]; omega
            have hb0 : (0 : Int) ≤ (j : Int) + 1 := by omega
            have hb1 : (j : Int) + 1 < (zs.length : Int) := by omega
            have hb2 : j < zs.length := by omega
            have hb3 : ((j : Int) + 1).toNat = j + 1 := by omega
            have hdd : decide (y1 - y0 < 5) = false := decide_eq_false hd
            go_wp2_with fail
            go_quiet (fail)
            go_wp2
            go_roundw
            case rel => exact ⟨j + 1, _, by go_num, by omega, fun i h1 h2 => (by have := HG2.out i h1 h2; omega), rfl⟩
            case measure => simp [intOf]; omega
        · have HE : Hid (r = true) := by
            have : adjB P = true := by
              unfold adjB
              exact decide_eq_true fun i hi => HGO.out i (by have := HSL.out; omega) (by omega)
            rw [← HAP.out, this]; exact rfl
          go_wp2_with fail
          go_ret
          exact ⟨by rw [HE.out]; rfl, below_draws HB1.out _⟩

set_option maxRecDepth 4000 in
set_option maxHeartbeats 2000000 in
theorem sright_any (p : Option Addr) (n c : Nat) (T : List Si) (k : Int) (w : World) (hn : T.length = n) (hn6 : n ≤ 140737488355328) (hr : Row3 w p (T.map siV)) :
    Calls Tryz.prog 21 #[.slice p n c, .int .i64 k] w fun E w' => E = .returned (.bool (rightS T k)) ∧ Below w.heap.size w w' := by
  by_cases h0 : 0 ≤ k ∧ k ≤ 64 ∧ T.length ≤ 256
  · have HF : Hid (rightS T k = (T.all (siteB k) && (nsB T && decide (apP (T.map (·.at_)))))) := by
      have h : rightS T k = (T.all (siteB k) && (nsB T && decide (apP (T.map (·.at_))))) := by rw [right_eq, decide_eq_true h0, Bool.true_and]
      exact h
    rw [HF.out]
    clear HF
    obtain ⟨r, hrr⟩ : ∃ r, (T.all (siteB k) && (nsB T && decide (apP (T.map (·.at_))))) = r := ⟨_, rfl⟩
    rw [hrr]
    have HRR := Hid.in hrr
    have HN := Hid.in hn
    have HR := Hid.in hr
    obtain ⟨h1, h2, h3⟩ := h0
    rw [hn] at h3
    clear hrr hn hr
    go_enter Tryz.func21, Tryz.ntmps21
    go_wp2_with fail
    go_loopw [20] (fun vi wr => ∃ j : Nat, vi = .int .i64 j ∧ j ≤ n ∧ (∀ i (hi : i < T.length), i < j → siteB k T[i] = true) ∧ Below w.heap.size w wr) (fun vi _ => n - (intOf vi).toNat)
    case atStart => exact ⟨0, rfl, Nat.zero_le _, fun i _ h => absurd h (Nat.not_lt_zero _), below_self w⟩
    case round =>
      obtain ⟨j, rfl, hj, hgo, hb⟩ := hrel
      have HGO := Hid.in hgo
      have HB := Hid.in hb
      clear hgo hb
      by_cases hlt : j < n
      · have hjT : j < T.length := by rw [HN.out]; exact hlt
        obtain ⟨b, o, rfl, hcc⟩ := (HR.out.below HB.out).at3 (by omega)
        have c0 := (hcc j hjT).1
        have c1 := (hcc j hjT).2.1
        have c2 := (hcc j hjT).2.2
        have hcl := fun W => rightSite_any T[j] k W
        dsimp only [sV] at hcl
        clear hcc
        cases hs : siteB k T[j] with
        | true =>
          have HG2 : Hid (∀ i (hi : i < T.length), i < j + 1 → siteB k T[i] = true) := fun i hi h => by
            by_cases e : i = j
            · subst e; exact hs
            · exact HGO.out i hi (by omega)
          rw [hs] at hcl
          clear hs
          generalize T[j].key = x0 at *
          generalize T[j].at_ = x1 at *
          generalize T[j].to_ = x2 at *
          go_wp2_with (go_at_call 47; refine (hcl _).mono ?_; rintro e w1 ⟨rfl, hb1⟩; have HB1 := Hid.in (below_step (below_alloc HB.out _) hb1); clear hb1)
          go_roundw
          case rel => exact ⟨j + 1, by go_num, by omega, HG2.out, HB1.out⟩
          case measure => simp [intOf]; omega
        | false =>
          have HE : Hid (r = false) := by
            have : T.all (siteB k) = false := by
              rw [List.all_eq_false]
              exact ⟨T[j], List.getElem_mem hjT, by rw [hs]; decide⟩
            rw [← HRR.out, this, Bool.false_and]; exact rfl
          rw [hs] at hcl
          clear hs
          generalize T[j].key = x0 at *
          generalize T[j].at_ = x1 at *
          generalize T[j].to_ = x2 at *
          go_wp2_with (go_at_call 47; refine (hcl _).mono ?_; rintro e w1 ⟨rfl, hb1⟩; have HB1 := Hid.in (below_step (below_alloc HB.out _) hb1); clear hb1)
          go_ret
          exact ⟨by rw [HE.out]; rfl, HB1.out⟩
      · have hall : ∀ s ∈ T, siteB k s = true := fun s hs => by
          obtain ⟨i, hi, rfl⟩ := List.getElem_of_mem hs
          exact HGO.out i hi (by rw [HN.out] at hi; omega)
        have HE : Hid (r = (nsB T && decide (apP (T.map (·.at_))))) := by
          have : T.all (siteB k) = true := List.all_eq_true.2 hall
          rw [← HRR.out, this, Bool.true_and]; exact rfl
        have hI := isSorted_any p n c T wr HN.out (by omega) (HR.out.below HB.out)
        have hA := fun W (hW : Below wr.heap.size wr W) => apart_any p n c T W HN.out (by omega) ((HR.out.below HB.out).below hW) (fun s hs => by
          have := hall s hs
          unfold siteB at this
          simp only [Bool.and_eq_true, decide_eq_true_eq] at this
          omega)
        clear hall
        cases hns : nsB T with
        | true =>
          rw [hns] at hI HE
          rw [Bool.true_and] at HE
          clear hns
          go_wp2_with (first
            | (go_at_call 48; refine hI.mono ?_; rintro e w1 ⟨rfl, hb1⟩; have HB1 := Hid.in hb1; clear hb1 hI)
            | (go_at_call 49; refine (hA _ HB1.out).mono ?_; rintro e w2 ⟨rfl, hb2⟩; have HB2 := Hid.in (below_step (below_step HB.out HB1.out) hb2); clear hb2 hA))
          go_ret
          exact ⟨by rw [HE.out]; simp, HB2.out⟩
        | false =>
          rw [hns] at hI HE
          rw [Bool.false_and] at HE
          clear hns
          go_wp2_with (first
            | (go_at_call 48; refine hI.mono ?_; rintro e w1 ⟨rfl, hb1⟩; have HB1 := Hid.in (below_step HB.out hb1); clear hb1 hI))
          go_ret
          exact ⟨by rw [HE.out]; rfl, HB1.out⟩
  · have HF : Hid (rightS T k = false) := by
      have h : rightS T k = false := by rw [right_eq, decide_eq_false h0, Bool.false_and, Bool.false_and]
      exact h
    rw [HF.out]
    rw [hn] at h0
    clear HF hr
    rcases (by omega : k < 0 ∨ (0 ≤ k ∧ 64 < k) ∨ (0 ≤ k ∧ k ≤ 64 ∧ 256 < n)) with h1 | ⟨h1, h2⟩ | ⟨h1, h2, h3⟩
    all_goals
      clear h0
      go_enter Tryz.func21, Tryz.ntmps21
      go_wp2_with fail
      go_ret
      exact ⟨rfl, below_self w⟩

end Go.Proofs.YtckpgpgmaccepaaGreat

/- switchyardlaw08.awake: true. -/
namespace Go.Proofs.YtckpgpgmaccepaaGreat
open Go.RowKit Go.Maps Go.WideMaps

/-- a literal slice of bytes: a block of its own -/
theorem wp_lit {ops : Array Oper} {rest : List Oper} {o : Oper} {a : Act} {w : World} {Q : Exit → Act → World → Prop} (hg : o.guard = none) (len : Nat) (parts : Array (Nat × Operand)) (ho : o.op = .buildSlice 52 len parts)
    (zs : List Int) (hlen : len = zs.length) (hpos : 0 < len) (hsmall : len ≤ 2 ^ 24) (hparts : parts.toList = (zs.zipIdx 0).map fun x => (x.2, Operand.const (Value.int .u8 x.1)))
    (h : ∀ w1 g, Hid (Own w1 w.heap.size g len zs) → Hid (Below w.heap.size w w1) → wpList Tryz.prog ops Q rest (a.put o.dst (.slice (some ⟨g, 0, none⟩) len len)) w1) : wpList Tryz.prog ops Q (o :: rest) a w := by
  refine wpList_buildFlat hg 52 5 len parts ho .u8 zs Tryz.underlying52 (by kernel_rfl) (by kernel_rfl) hlen hpos hsmall hparts ?_
  exact h _ _ (by subst hlen; exact Own.lit w zs (by unfold maxLen; omega)) (new_alloc _ _)

def awT : List Si := [⟨0, 0, 5⟩, ⟨1, 13, 5⟩]
def awS : Sy := ⟨⟨#[111, 117, 116]⟩, 5, false⟩
def awM : Mk := ⟨0, ⟨#[107]⟩, ⟨#[111, 117, 116]⟩⟩
def awO : Ob := ⟨[15, 31, 68, 0, 0], [awS], [], [awM, awM]⟩
theorem aw_merge : mergeL [awO] = ⟨[⟨0, 0, 5⟩], [⟨#[107]⟩], 0, 0⟩ := by kernel_rfl
theorem aw_cut1 : cutK awT 1 = 1 := by kernel_rfl
theorem aw_cut2 : cutK awT 2 = 2 := by kernel_rfl
theorem aw_cut7 : cutK awT 7 = 2 := by kernel_rfl
theorem aw_cut8 : cutK awT 8 = 2 := by kernel_rfl
theorem aw_at : atS awT 13 = some 1 := by kernel_rfl
theorem aw_right2 : rightS awT 2 = true := by kernel_rfl
theorem aw_right1 : rightS awT 1 = false := by kernel_rfl
theorem row3_sites2 {w : World} {g : Nat} {T : TypeId} {a b : Si} (h : Blk w g T #[.int .i64 a.key, .int .i64 a.at_, .int .i64 a.to_, .int .i64 b.key, .int .i64 b.at_, .int .i64 b.to_]) : Row3 w (some ⟨g, 0, none⟩) ([a, b].map siV) := fun _ => ⟨g, 0, rfl, fun i hi j hj => by
  rw [Nat.zero_add]
  refine (h.cell (i * 3 + j)).trans ?_
  match i, hi with
  | 0, _ =>
    match j, hj with
    | 0, _ => rfl
    | 1, _ => rfl
    | 2, _ => rfl
  | 1, _ =>
    match j, hj with
    | 0, _ => rfl
    | 1, _ => rfl
    | 2, _ => rfl⟩
theorem row3_site1 {w : World} {g : Nat} {T : TypeId} {a : Si} (h : Blk w g T #[.int .i64 a.key, .int .i64 a.at_, .int .i64 a.to_]) : Row3 w (some ⟨g, 0, none⟩) ([a].map siV) := fun _ => ⟨g, 0, rfl, fun i hi j hj => by
  rw [Nat.zero_add]
  refine (h.cell (i * 3 + j)).trans ?_
  match i, hi with
  | 0, _ =>
    match j, hj with
    | 0, _ => rfl
    | 1, _ => rfl
    | 2, _ => rfl⟩
theorem row3_sym1 {w : World} {g : Nat} {T : TypeId} {a : Sy} (h : Blk w g T #[.string a.name, .int .i64 a.at_, .bool a.g]) : Row3 w (some ⟨g, 0, none⟩) ([a].map syV) := fun _ => ⟨g, 0, rfl, fun i hi j hj => by
  rw [Nat.zero_add]
  refine (h.cell (i * 3 + j)).trans ?_
  match i, hi with
  | 0, _ =>
    match j, hj with
    | 0, _ => rfl
    | 1, _ => rfl
    | 2, _ => rfl⟩
theorem row3_marks2 {w : World} {g : Nat} {T : TypeId} {a b : Mk} (h : Blk w g T #[.int .i64 a.at_, .string a.key, .string a.to_, .int .i64 b.at_, .string b.key, .string b.to_]) : Row3 w (some ⟨g, 0, none⟩) ([a, b].map mkV) := fun _ => ⟨g, 0, rfl, fun i hi j hj => by
  rw [Nat.zero_add]
  refine (h.cell (i * 3 + j)).trans ?_
  match i, hi with
  | 0, _ =>
    match j, hj with
    | 0, _ => rfl
    | 1, _ => rfl
    | 2, _ => rfl
  | 1, _ =>
    match j, hj with
    | 0, _ => rfl
    | 1, _ => rfl
    | 2, _ => rfl⟩
theorem awO_fit : ObF awO := ⟨fun i => by
    match i with
    | 0 => show (0 : Int) ≤ 15 ∧ (15 : Int) ≤ 255; omega
    | 1 => show (0 : Int) ≤ 31 ∧ (31 : Int) ≤ 255; omega
    | 2 => show (0 : Int) ≤ 68 ∧ (68 : Int) ≤ 255; omega
    | 3 => show (0 : Int) ≤ 0 ∧ (0 : Int) ≤ 255; omega
    | 4 => show (0 : Int) ≤ 0 ∧ (0 : Int) ≤ 255; omega
    | _ + 5 => show (0 : Int) ≤ 0 ∧ (0 : Int) ≤ 255; omega, fun s hs => by
    rw [List.mem_singleton.1 hs]
    exact ⟨by unfold maxLen; decide, by unfold i64P; decide⟩, fun _ h => (nomatch h), fun s hs => by
    have e : s = awM := by
      rcases List.mem_cons.1 hs with h | h
      · exact h
      · exact List.mem_singleton.1 h
    rw [e]
    exact ⟨by unfold maxLen; decide, by unfold maxLen; decide, by unfold i64P; decide⟩⟩
theorem len_le (n : Nat) (h : n ≤ 1000) : n ≤ maxLen := by unfold maxLen; omega
theorem aw_units {w : World} {g1 g2 g3 g4 : Nat} (h4 : Blk w g4 56 #[.slice (some ⟨g1, 0, none⟩) 5 5, .slice (some ⟨g2, 0, none⟩) 1 1, .slice none 0 0, .slice (some ⟨g3, 0, none⟩) 2 2])
    (h1 : Row w (some ⟨g1, 0, none⟩) [15, 31, 68, 0, 0]) (h2 : Blk w g2 67 #[.string ⟨#[111, 117, 116]⟩, .int .i64 5, .bool false]) (h3 : Blk w g3 58 #[.int .i64 0, .string ⟨#[107]⟩, .string ⟨#[111, 117, 116]⟩, .int .i64 0, .string ⟨#[107]⟩, .string ⟨#[111, 117, 116]⟩]) : Units w (some ⟨g4, 0, none⟩) [awO] := fun _ => ⟨g4, 0, rfl, fun i hi => by
  match i, hi with
  | 0, _ => exact ⟨some ⟨g1, 0, none⟩, some ⟨g2, 0, none⟩, none, some ⟨g3, 0, none⟩, 5, 1, 0, 2, ⟨h4.cell 0, h4.cell 1, h4.cell 2, h4.cell 3⟩, ⟨rfl, rfl, rfl, rfl, Nat.le_refl 5, len_le 5 (by omega), len_le 1 (by omega), Nat.zero_le _, len_le 2 (by omega), h1, row3_sym1 (a := awS) h2, Row3.nil _ _, row3_marks2 (a := awM) (b := awM) h3, awO_fit⟩⟩⟩
theorem text_lit (w : World) (s : ByteArray) : GRow (w.alloc (.cells #[.string s] 9)) (some ⟨w.heap.size, 0, none⟩) (strs [s]) := fun _ => ⟨w.heap.size, 0, rfl, fun i hi => by
  match i, hi with
  | 0, _ => exact (Blk.new w 9 #[.string s]).cell 0⟩

set_option maxRecDepth 20000 in
set_option maxHeartbeats 1000000 in
theorem awake_any (w : World) : Calls Tryz.prog 14 #[] w fun E w' => E = .returned (.bool true) ∧ Below w.heap.size w w' := by
  go_enter Tryz.func14, Tryz.ntmps14
  go_upto_region 2 with fail
  have HT1 : Hid (Row3 (w.alloc (.cells #[.int .i64 0, .int .i64 0, .int .i64 5, .int .i64 1, .int .i64 13, .int .i64 5] 34)) (some ⟨w.heap.size, 0, none⟩) (awT.map siV)) := row3_sites2 (a := ⟨0, 0, 5⟩) (b := ⟨1, 13, 5⟩) (Blk.new w 34 _)
  have HB1 := Hid.in (new_alloc w (.cells #[.int .i64 0, .int .i64 0, .int .i64 5, .int .i64 1, .int .i64 13, .int .i64 5] 34))
  generalize w.alloc (.cells #[.int .i64 0, .int .i64 0, .int .i64 5, .int .i64 1, .int .i64 13, .int .i64 5] 34) = w1 at *
  have h2 := of_any _ 2 2 1 awT w1 rfl (by decide) HT1.out
  rw [aw_cut1, show (1 : Int) + 1 = 2 from rfl, aw_cut2] at h2
  go_upto_region 3 with (go_at_call 16; refine h2.mono ?_; rintro e w2 ⟨rfl, hb⟩; have HT2 := Hid.in (HT1.out.below hb); have HB2 := Hid.in (below_step HB1.out hb); clear hb h2 HT1 HB1)
  have h3 := of_any _ 2 2 7 awT w2 rfl (by decide) HT2.out
  rw [aw_cut7, show (7 : Int) + 1 = 8 from rfl, aw_cut8] at h3
  go_upto_region 4 with (go_at_call 16; refine h3.mono ?_; rintro e w3 ⟨rfl, hb⟩; have HT3 := Hid.in (HT2.out.below hb); have HB3 := Hid.in (below_step HB2.out hb); clear hb h3 HT2 HB2)
  have h4 := at_any _ 2 2 awT 13 w3 rfl (by decide) HT3.out
  rw [aw_at, show atR (some 1) = .tuple #[.int .i64 1, .bool true] from rfl] at h4
  go_upto_region 6 with (first
    | (go_at_call 18; refine h4.mono ?_; rintro e w4 ⟨rfl, hb⟩; have HT4 := Hid.in (HT3.out.below hb); have HB4 := Hid.in (below_step HB3.out hb); clear hb h4 HT3 HB3)
    | (refine wp_lit rfl 5 _ rfl [15, 31, 68, 0, 0] rfl (by decide) (by decide) rfl ?_; intro w5 g5 HO5 hb5; have HT5 := Hid.in (HT4.out.below hb5.out); have HB5 := Hid.in (below_step HB4.out hb5.out); clear hb5 HT4 HB4))
  have HS6 : Hid (Blk (((w5.alloc (.cells #[.string ⟨#[111, 117, 116]⟩, .int .i64 5, .bool false] 67)).alloc (.cells #[.int .i64 0, .string ⟨#[107]⟩, .string ⟨#[111, 117, 116]⟩, .int .i64 0, .string ⟨#[107]⟩, .string ⟨#[111, 117, 116]⟩] 58)).alloc (.cells #[.slice (some ⟨g5, 0, none⟩) 5 5, .slice (some ⟨w5.heap.size, 0, none⟩) 1 1, .slice none 0 0, .slice (some ⟨w5.heap.size + 1, 0, none⟩) 2 2] 56)) w5.heap.size 67 #[.string ⟨#[111, 117, 116]⟩, .int .i64 5, .bool false]) := ((Blk.new w5 67 _).grow (new_alloc _ _)).grow (new_alloc _ _)
  have HM6 : Hid (Blk (((w5.alloc (.cells #[.string ⟨#[111, 117, 116]⟩, .int .i64 5, .bool false] 67)).alloc (.cells #[.int .i64 0, .string ⟨#[107]⟩, .string ⟨#[111, 117, 116]⟩, .int .i64 0, .string ⟨#[107]⟩, .string ⟨#[111, 117, 116]⟩] 58)).alloc (.cells #[.slice (some ⟨g5, 0, none⟩) 5 5, .slice (some ⟨w5.heap.size, 0, none⟩) 1 1, .slice none 0 0, .slice (some ⟨w5.heap.size + 1, 0, none⟩) 2 2] 56)) (w5.heap.size + 1) 58 #[.int .i64 0, .string ⟨#[107]⟩, .string ⟨#[111, 117, 116]⟩, .int .i64 0, .string ⟨#[107]⟩, .string ⟨#[111, 117, 116]⟩]) := by
    have h := (Blk.new (w5.alloc (.cells #[.string ⟨#[111, 117, 116]⟩, .int .i64 5, .bool false] 67)) 58 #[.int .i64 0, .string ⟨#[107]⟩, .string ⟨#[111, 117, 116]⟩, .int .i64 0, .string ⟨#[107]⟩, .string ⟨#[111, 117, 116]⟩])
    rw [size_one] at h
    exact h.grow (new_alloc _ _)
  have HU6 : Hid (Blk (((w5.alloc (.cells #[.string ⟨#[111, 117, 116]⟩, .int .i64 5, .bool false] 67)).alloc (.cells #[.int .i64 0, .string ⟨#[107]⟩, .string ⟨#[111, 117, 116]⟩, .int .i64 0, .string ⟨#[107]⟩, .string ⟨#[111, 117, 116]⟩] 58)).alloc (.cells #[.slice (some ⟨g5, 0, none⟩) 5 5, .slice (some ⟨w5.heap.size, 0, none⟩) 1 1, .slice none 0 0, .slice (some ⟨w5.heap.size + 1, 0, none⟩) 2 2] 56)) (w5.heap.size + 1 + 1) 56 #[.slice (some ⟨g5, 0, none⟩) 5 5, .slice (some ⟨w5.heap.size, 0, none⟩) 1 1, .slice none 0 0, .slice (some ⟨w5.heap.size + 1, 0, none⟩) 2 2]) := by
    have h := (Blk.new ((w5.alloc (.cells #[.string ⟨#[111, 117, 116]⟩, .int .i64 5, .bool false] 67)).alloc (.cells #[.int .i64 0, .string ⟨#[107]⟩, .string ⟨#[111, 117, 116]⟩, .int .i64 0, .string ⟨#[107]⟩, .string ⟨#[111, 117, 116]⟩] 58)) 56 #[.slice (some ⟨g5, 0, none⟩) 5 5, .slice (some ⟨w5.heap.size, 0, none⟩) 1 1, .slice none 0 0, .slice (some ⟨w5.heap.size + 1, 0, none⟩) 2 2])
    rw [size_one, size_one] at h
    exact h
  have HW6 : Hid (Below w5.heap.size w5 (((w5.alloc (.cells #[.string ⟨#[111, 117, 116]⟩, .int .i64 5, .bool false] 67)).alloc (.cells #[.int .i64 0, .string ⟨#[107]⟩, .string ⟨#[111, 117, 116]⟩, .int .i64 0, .string ⟨#[107]⟩, .string ⟨#[111, 117, 116]⟩] 58)).alloc (.cells #[.slice (some ⟨g5, 0, none⟩) 5 5, .slice (some ⟨w5.heap.size, 0, none⟩) 1 1, .slice none 0 0, .slice (some ⟨w5.heap.size + 1, 0, none⟩) 2 2] 56))) := below_alloc (below_alloc (new_alloc _ _) _) _
  go_wp2_with (go_at_call 7; refine Hid.out ?_)
  refine Lib.hid ?_
  generalize ((w5.alloc (.cells #[.string ⟨#[111, 117, 116]⟩, .int .i64 5, .bool false] 67)).alloc (.cells #[.int .i64 0, .string ⟨#[107]⟩, .string ⟨#[111, 117, 116]⟩, .int .i64 0, .string ⟨#[107]⟩, .string ⟨#[111, 117, 116]⟩] 58)).alloc (.cells #[.slice (some ⟨g5, 0, none⟩) 5 5, .slice (some ⟨w5.heap.size, 0, none⟩) 1 1, .slice none 0 0, .slice (some ⟨w5.heap.size + 1, 0, none⟩) 2 2] 56) = w6 at *
  have hmg := merge_any _ 1 1 [awO] w6 rfl (by decide) (aw_units HU6.out (HO5.out.below HW6.out).row HS6.out HM6.out)
  unfold MrgIs at hmg
  rw [aw_merge] at hmg
  have HT6 := Hid.in (HT5.out.below HW6.out)
  have HB6 := Hid.in (below_step HB5.out HW6.out)
  clear HS6 HM6 HU6 HW6 HO5 HT5 HB5
  refine hmg.mono ?_
  rintro e w7 ⟨v1, v2, rfl, ho1, ho2, hb⟩
  obtain ⟨p1, c1, rfl, -, -, hr1⟩ := ho1.row3
  obtain ⟨p2, c2, rfl, hr2, -, -⟩ := ho2.slice
  have HR1 := Hid.in hr1
  have HR2 := Hid.in hr2
  have HT7 := Hid.in (HT6.out.below hb)
  have HB7 := Hid.in (below_step HB6.out hb)
  clear hmg ho1 ho2 hr1 hr2 hb HT6 HB6
  have hs2 := sright_any _ 2 2 awT 2 w7 rfl (by decide) HT7.out
  rw [aw_right2] at hs2
  go_wp2_with (go_at_call 21; refine Hid.out ?_)
  refine Lib.hid ?_
  refine hs2.mono ?_
  rintro e w8 ⟨rfl, hb⟩
  have hs1 := sright_any _ 2 2 awT 1 w8 rfl (by decide) (HT7.out.below hb)
  rw [aw_right1] at hs1
  have HR18 := Hid.in (HR1.out.below hb)
  have HR28 := Hid.in (HR2.out.below hb)
  have HB8 := Hid.in (below_step HB7.out hb)
  clear hb hs2 HR1 HR2 HB7 HT7
  go_wp2_with (go_at_call 21; refine Hid.out ?_)
  refine Lib.hid ?_
  refine hs1.mono ?_
  rintro e w9 ⟨rfl, hb⟩
  have HR19 := Hid.in ((HR18.out.below hb).below (new_alloc w9 (.cells #[.int .i64 0, .int .i64 0, .int .i64 5] 34)))
  have HR29 := Hid.in ((HR28.out.below hb).below (new_alloc w9 (.cells #[.int .i64 0, .int .i64 0, .int .i64 5] 34)))
  have HB9 := Hid.in (below_alloc (below_step HB8.out hb) (.cells #[.int .i64 0, .int .i64 0, .int .i64 5] 34))
  have HL9 : Hid (Row3 (w9.alloc (.cells #[.int .i64 0, .int .i64 0, .int .i64 5] 34)) (some ⟨w9.heap.size, 0, none⟩) ([⟨0, 0, 5⟩].map siV)) := row3_site1 (a := ⟨0, 0, 5⟩) (Blk.new w9 34 _)
  clear hb hs1 HR18 HR28 HB8
  go_wp2_with (go_at_call 10; refine Hid.out ?_)
  refine Lib.hid ?_
  generalize w9.alloc (.cells #[.int .i64 0, .int .i64 0, .int .i64 5] 34) = wx at *
  have hss := sameSites_any p1 (some ⟨w9.heap.size, 0, none⟩) 1 c1 1 1 [⟨0, 0, 5⟩] [⟨0, 0, 5⟩] wx rfl rfl (by decide) (by decide) HR19.out HL9.out
  refine hss.mono ?_
  rintro e wa ⟨⟨bb, rfl, hbb⟩, z, hwa⟩
  have hbt : bb = true := hbb.2 rfl
  have HRa : Hid (GRow wa p2 (strs [⟨#[107]⟩])) := by rw [hwa]; exact HR29.out.drewN z
  have HBa : Hid (Below w.heap.size w wa) := by rw [hwa]; exact below_draws HB9.out z
  subst hbt
  clear hbb hss hwa HR19 HR29 HL9 HB9
  have HRb := Hid.in (HRa.out.below (new_alloc wa (.cells #[.string ⟨#[107]⟩] 9)))
  have HTb := Hid.in (text_lit wa ⟨#[107]⟩)
  have HBb := Hid.in (below_alloc HBa.out (.cells #[.string ⟨#[107]⟩] 9))
  clear HRa HBa
  go_wp2_with (go_at_call 11; refine Hid.out ?_)
  refine Lib.hid ?_
  generalize wa.alloc (.cells #[.string ⟨#[107]⟩] 9) = wb at *
  have hst := sameTexts_self p2 (some ⟨wa.heap.size, 0, none⟩) 1 c2 1 [⟨#[107]⟩] wb (by decide) rfl HRb.out HTb.out
  refine hst.mono ?_
  rintro e wc ⟨rfl, m, hwc⟩
  have HBc : Hid (Below w.heap.size w wc) := by rw [hwc]; exact below_draws HBb.out m
  clear hst hwc HRb HTb HBb
  go_wp2_with fail
  go_ret
  exact ⟨rfl, HBc.out⟩

end Go.Proofs.YtckpgpgmaccepaaGreat
