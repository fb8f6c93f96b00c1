/- Texts put together: RRgL, RfsW, RfrW, QThen, RRgW. -/
import Derived.Test.YtfhjaabbfaamjaaGc
import Derived.Test.YtfhjaabbfaamjaaRefName
import Derived.Test.YtfhjaabbfaamjaaGb
import Derived.Deep.RegionHeld3
import Derived.Lib.QuietBelow
import Derived.Test.YtfhjaabbfaamjaaNums
import Derived.BigQuiet

/- What switchyardref09.Right asks, as lists; its Quiet. -/
namespace Go.Proofs.Ytfhjaabbfaamjaa
open Go.RowKit

/-- what the reference asks of a unit -/
def unR (n : Nat) (un : List Int) (i : Nat) : Prop :=
  0 ≤ un.getD i 0 ∧ un.getD i 0 % 4 = 0 ∧ un.getD i 0 ≤ n ∧ (i = 0 → un.getD i 0 = 0) ∧ (0 < i → un.getD (i - 1) 0 ≤ un.getD i 0)
theorem getD_un {un : List Int} {i : Nat} (hi : i < un.length) : un.getD i 0 = un[i] := by
  rw [List.getD_eq_getElem?_getD, List.getElem?_eq_getElem hi]; rfl
theorem units_ref {n : Nat} {un : List Int} (hn : n ≤ 65536) (h16 : un.length ≤ 16) : unitsB n un = true ↔ ∀ i, i < un.length → unR n un i := by
  unfold unitsB
  rw [Bool.and_eq_true, decide_eq_true_eq]
  constructor
  · rintro ⟨⟨_, h0⟩, ha⟩ i hi
    have hnum := units_num hn ha i hi
    rw [List.all_eq_true] at ha
    have hp := ha i (List.mem_range.2 hi)
    unfold unP at hp
    rw [decide_eq_true_eq] at hp
    rw [getD_un hi] at hp
    unfold unR
    rw [getD_un hi]
    refine ⟨hnum.1, hp.2.1, hp.2.2, fun e => ?_, fun e => ?_⟩
    · subst e; rw [← getD_un hi]; exact h0
    · have := hp.1
      unfold lastU at this
      rw [if_neg (by omega)] at this
      exact this
  · intro h
    refine ⟨⟨h16, ?_⟩, ?_⟩
    · by_cases h0 : 0 < un.length
      · exact (h 0 h0).2.2.2.1 rfl
      · have e : un = [] := List.eq_nil_of_length_eq_zero (by omega)
        rw [e]; rfl
    · rw [List.all_eq_true]
      intro i hi
      have hi := List.mem_range.1 hi
      obtain ⟨a, b, c, d, e⟩ := h i hi
      unfold unP
      rw [decide_eq_true_eq]
      refine ⟨?_, b, c⟩
      unfold lastU
      by_cases hz : i = 0
      · rw [if_pos hz]; exact a
      · rw [if_neg hz]; exact e (by omega)
theorem units_no {n : Nat} {un : List Int} {i : Nat} (hn : n ≤ 65536) (h16 : un.length ≤ 16) (hi : i < un.length) (h : ¬ unR n un i) : unitsB n un = false := by
  cases hr : unitsB n un with
  | false => rfl
  | true => exact absurd ((units_ref hn h16).1 hr i hi) h
theorem getD_ks {ks : List ByteArray} {i : Nat} (hi : i < ks.length) : ks.getD i default = ks[i] := by
  rw [List.getD_eq_getElem?_getD, List.getElem?_eq_getElem hi]; rfl
theorem inB_take {ks : List ByteArray} {i : Nat} (hi : i < ks.length) : inB ks[i] (ks.take i) = true ↔ ∃ k, ∃ h : k < i, ks[k] = ks[i] := by
  rw [inB_iff]
  constructor
  · intro h
    obtain ⟨k, hk, e⟩ := List.getElem_of_mem h
    rw [List.length_take] at hk
    exact ⟨k, by omega, by rw [List.getElem_take] at e; exact e⟩
  · rintro ⟨k, hk, e⟩
    rw [← e]
    exact List.mem_take_iff_getElem.2 ⟨k, by omega, rfl⟩
theorem key_twice {ks : List ByteArray} {i k : Nat} (hi : i < ks.length) (hk : k < i) (h : ks[k] = ks[i]) : keysB ks = false := by
  refine range_no hi ?_
  unfold keyP
  rw [getD_ks hi, (inB_take hi).2 ⟨k, hk, h⟩]
  rfl
theorem key_noname {ks : List ByteArray} {i : Nat} (hi : i < ks.length) (h : nmB ks[i] = false) : keysB ks = false := by
  refine range_no hi ?_
  unfold keyP
  rw [getD_ks hi, h, Bool.and_false]
theorem key_ok {ks : List ByteArray} {i : Nat} (hi : i < ks.length) (h1 : ∀ k (hk : k < i), ks[k] ≠ ks[i]) (h2 : nmB ks[i] = true) : keyP ks i = true := by
  unfold keyP
  rw [getD_ks hi, h2, Bool.and_true]
  cases h : inB ks[i] (ks.take i) with
  | false => rfl
  | true =>
    obtain ⟨k, hk, e⟩ := (inB_take hi).1 h
    exact absurd e (h1 k hk)
theorem refName_any (s : ByteArray) (w : World) (hs : s.size ≤ maxLen) : Calls Try.prog 46 #[.string s] w fun e w' => e = .returned (.bool (nmB s)) ∧ w' = w := by
  have hs' : s.size ≤ 9223372036854775807 := by unfold maxLen at hs; omega
  cases h : nmB s with
  | true => exact refName_yes s w hs' ((nmB_iff s).1 h)
  | false => exact refName_no s w hs' (fun hn => by rw [(nmB_iff s).2 hn] at h; cases h)
theorem rquiet_any (w : World) : Calls Try.prog 47 #[] w fun e w' => ∃ g cap, e = .returned (.slice (some ⟨g, 0, none⟩) 5 cap) ∧ Own w' w.heap.size g cap quiet ∧ Below w.heap.size w w' := by
  have h : Own (w.alloc (.cells #[.int .u8 15, .int .u8 31, .int .u8 68, .int .u8 0, .int .u8 0] 5)) w.heap.size w.heap.size 5 quiet := Own.lit w quiet (by unfold maxLen; decide)
  have HO := Hid.in h
  have HB := Hid.in (new_alloc w (.cells #[.int .u8 15, .int .u8 31, .int .u8 68, .int .u8 0, .int .u8 0] 5))
  clear h
  go_enter Try.func47, Try.ntmps47
  go_wp2
  go_ret
  exact ⟨_, _, rfl, HO.out, HB.out⟩
/-- b[a:a+5] -/
theorem slice_five {w : World} {p : Option Addr} {n c a : Nat} {xs : List Int} (h : Row w p xs) (hn : xs.length = n) (hc : n ≤ c) (ha : a + 5 ≤ n) :
    ∃ p', (∀ W, (Instr.sliceAt 22 (.slice p n c) (some (.int .i64 a)) (some (.int .i64 ((a : Int) + 5))) none).run Try.prog W = .ok (.slice p' 5 (c - a)) W) ∧ (∀ W, (Instr.slice 22 (.slice p n c) (some (.int .i64 a)) (some (.int .i64 ((a : Int) + 5))) none).run Try.prog W = .ok (.slice p' 5 (c - a)) W) ∧ Row w p' ((xs.drop a).take 5) := by
  have h0 : (0 : Int) ≤ (a : Int) := by omega
  have h2 : (a : Int) + 5 ≤ (c : Int) := by omega
  have h3 : (0 : Int) ≤ (a : Int) + 5 := by omega
  have h5 : ((a : Int) + 5).toNat = a + 5 := by omega
  have e1 : ∀ W, (Instr.slice 22 (.slice p n c) (some (.int .i64 a)) (some (.int .i64 ((a : Int) + 5))) none).run Try.prog W = .ok (.slice (if c = a then p else p.map (·.add (a * 1))) 5 (c - a)) W := fun W => by
    simp [Instr.slice, Instr.sliceBounds, go_sem, h0, h2, h3, h5]
  have e2 : ∀ W, (Instr.sliceAt 22 (.slice p n c) (some (.int .i64 a)) (some (.int .i64 ((a : Int) + 5))) none).run Try.prog W = .ok (.slice (if c = a then p else p.map (·.add (a * 1))) 5 (c - a)) W := fun W => by
    rw [← e1 W]; simp [Instr.sliceAt, go_sem]
  refine ⟨_, e2, e1, ?_⟩
  rw [if_neg (by omega)]
  obtain ⟨b, o, rfl, _⟩ := h (by omega)
  rw [Nat.mul_one, Option.map_some, show (⟨b, o, none⟩ : Addr).add a = ⟨b, o + a, none⟩ from Go.WideShapes.add_plain _ _ _]
  exact (h.dropAt a).take 5
theorem st_five {xs : List Int} {a : Nat} (h : a + 5 ≤ xs.length) : stB xs (a : Int) quiet = sameB ((xs.drop a).take 5) quiet := by
  rw [st_pre (by omega)]
  unfold pfxB sameB
  have e : quiet.length = 5 := rfl
  rw [e, List.length_drop]
  by_cases hq : (xs.drop a).take 5 = quiet
  · rw [decide_eq_true hq, decide_eq_true ⟨by omega, hq⟩]
  · rw [decide_eq_false hq, decide_eq_false (fun h => hq h.2)]
end Go.Proofs.Ytfhjaabbfaamjaa

/- The reference's Of, Sorted and Right. -/
namespace Go.Proofs.Ytfhjaabbfaamjaa
open Go.RowKit

/-- sorted by keys -/
def kyB (T : List Si) : Bool := decide (∀ i, i < T.length - 1 → ¬ (T.getD (i + 1) ⟨0, 0, 0⟩).key < (T.getD i ⟨0, 0, 0⟩).key)
theorem ky_byKey {T : List Si} (h : kyB T = true) : byKey T := by
  unfold kyB at h
  rw [decide_eq_true_eq] at h
  have hc : ∀ i (hi : i + 1 < T.length), T[i].key ≤ T[i + 1].key := by
    intro i hi
    have := h i (by omega)
    rw [getD_si hi, getD_si (by omega)] at this
    omega
  have hg : ∀ d i (hi : i + d < T.length), T[i].key ≤ T[i + d].key := by
    intro d
    induction d with
    | zero => exact fun i hi => Int.le_refl _
    | succ d ih => exact fun i hi => Int.le_trans (ih i (by omega)) (hc (i + d) (by omega))
  refine List.pairwise_iff_getElem.2 fun i j hi hj hij => ?_
  obtain ⟨d, rfl⟩ : ∃ d, j = i + d := ⟨j - i, by omega⟩
  exact hg d i hj

end Go.Proofs.Ytfhjaabbfaamjaa

/- The reference's Right. -/
namespace Go.Proofs.Ytfhjaabbfaamjaa
open Go.RowKit

/-- what the reference asks of site i -/
def okSt (T : List Si) (n : Int) (i : Nat) : Prop :=
  siteB n (T.getD i ⟨0, 0, 0⟩) = true ∧ (0 < i → ltS (T.getD (i - 1) ⟨0, 0, 0⟩) (T.getD i ⟨0, 0, 0⟩) = true) ∧ ∀ k, k < i → ¬ ((T.getD i ⟨0, 0, 0⟩).at_ - (T.getD k ⟨0, 0, 0⟩).at_ < 5 ∧ (T.getD k ⟨0, 0, 0⟩).at_ - (T.getD i ⟨0, 0, 0⟩).at_ < 5)

theorem right_ok {T : List Si} {n : Int} (h0 : 0 ≤ n ∧ n ≤ 64 ∧ T.length ≤ 256) : rightS T n = true ↔ ∀ i, i < T.length → okSt T n i := by
  unfold rightS
  rw [decide_eq_true h0, Bool.true_and, Bool.and_eq_true, Bool.and_eq_true, List.all_eq_true, decide_eq_true_eq, decide_eq_true_eq]
  constructor
  · rintro ⟨⟨h1, h2⟩, h3⟩ i hi
    refine ⟨?_, fun hp => ?_, fun k hk => ?_⟩
    · rw [getD_si hi]; exact h1 _ (List.getElem_mem hi)
    · rw [getD_si hi, getD_si (by omega)]
      exact List.pairwise_iff_getElem.1 h2 (i - 1) i (by omega) hi (by omega)
    · rw [getD_si hi, getD_si (by omega)]
      exact List.pairwise_iff_getElem.1 h3 k i (by omega) hi hk
  · intro h
    refine ⟨⟨fun s hs => ?_, ?_⟩, ?_⟩
    · obtain ⟨i, hi, rfl⟩ := List.getElem_of_mem hs
      have := (h i hi).1
      rw [getD_si hi] at this
      exact this
    · have hc : ∀ i (hi : i + 1 < T.length), ltS T[i] T[i + 1] = true := by
        intro i hi
        have := (h (i + 1) hi).2.1 (by omega)
        rw [getD_si hi, Nat.add_sub_cancel, getD_si (by omega)] at this
        exact this
      have hg : ∀ d i (hi : i + (d + 1) < T.length), ltS T[i] T[i + (d + 1)] = true := by
        intro d
        induction d with
        | zero => exact fun i hi => hc i hi
        | succ d ih => exact fun i hi => ltS_trans (ih i (by omega)) (hc (i + (d + 1)) hi)
      refine List.pairwise_iff_getElem.2 fun i j hi hj hij => ?_
      obtain ⟨d, rfl⟩ : ∃ d, j = i + (d + 1) := ⟨j - i - 1, by omega⟩
      exact hg d i hj
    · refine List.pairwise_iff_getElem.2 fun i j hi hj hij => ?_
      have := (h j hj).2.2 i hij
      rw [getD_si hj, getD_si hi] at this
      exact this

theorem right_no {T : List Si} {n : Int} {i : Nat} (h0 : 0 ≤ n ∧ n ≤ 64 ∧ T.length ≤ 256) (hi : i < T.length) (h : ¬ okSt T n i) : rightS T n = false := by
  cases hr : rightS T n with
  | false => rfl
  | true => exact absurd ((right_ok h0).1 hr i hi) h

set_option maxRecDepth 4000 in
set_option maxHeartbeats 4000000 in
theorem refRight_any (p : Option Addr) (n c : Nat) (T : List Si) (k : Int) (w : World) (hn : T.length = n) (hn6 : n ≤ 140737488355328) (hr : Row3 w p (T.map siV)) :
    Calls Try.prog 45 #[.slice p n c, .int .i64 k] w fun E w' => E = .returned (.bool (rightS T k)) ∧ Below w.heap.size w w' := by
  by_cases h0 : 0 ≤ k ∧ k ≤ 64 ∧ T.length ≤ 256
  · obtain ⟨r, hrr⟩ : ∃ r, rightS T k = r := ⟨_, rfl⟩
    rw [hrr]
    have HNO : Hid (∀ i, i < T.length → ¬ okSt T k i → r = false) := fun i hi h => by rw [← hrr]; exact right_no h0 hi h
    have HYES : Hid ((∀ i, i < T.length → okSt T k i) → r = true) := fun h => by rw [← hrr]; exact (right_ok h0).2 h
    have HN := Hid.in hn
    have HR := Hid.in hr
    obtain ⟨h1, h2, h3⟩ := h0
    rw [hn] at h3
    clear hrr hn hr
    have q1 : decide (k < 0) = false := decide_eq_false (by omega)
    have q2 : decide (64 < k) = false := decide_eq_false (by omega)
    have q3 : decide (256 < n) = false := decide_eq_false (by omega)
    go_enter Try.func45, Try.ntmps45
    go_wp2_with fail
    go_loopw [5] (fun vi wr => ∃ j : Nat, vi = .int .i64 j ∧ j ≤ n ∧ (∀ i, i < T.length → i < j → okSt T k i) ∧ Below w.heap.size w wr) (fun vi _ => n - (intOf vi).toNat)
    case atStart => exact ⟨0, rfl, Nat.zero_le _, fun i _ h => absurd h (Nat.not_lt_zero _), below_self w⟩
    case round =>
      obtain ⟨j, rfl, hj, hgo, hb⟩ := hrel
      have HGO := Hid.in hgo
      have HB := Hid.in hb
      clear hgo hb
      by_cases hlt : j < n
      · have hjT : j < T.length := by rw [HN.out]; exact hlt
        obtain ⟨b, o, rfl, hcc⟩ := (HR.out.below HB.out).at3 (by omega)
        have c0 := (hcc j hjT).1
        have c1 := (hcc j hjT).2.1
        have c2 := (hcc j hjT).2.2
        by_cases hall : 0 ≤ T[j].key ∧ T[j].key < k ∧ 0 ≤ T[j].at_ ∧ T[j].at_ ≤ 65531 ∧ 0 ≤ T[j].to_ ∧ T[j].to_ ≤ 65536
        · have hE : ∀ f, farS T[j] = f → ∀ W, Calls Try.prog 59 #[.agg #[.int .i64 T[j].key, .int .i64 T[j].at_, .int .i64 T[j].to_]] W fun e w' => e = .returned (.bool f) ∧ Below W.heap.size W w' := fun f hf W => by
            have h := far_any T[j] W ⟨by omega, by omega, by omega, by omega⟩
            rw [hf] at h
            exact h
          have HSI : Hid (farS T[j] = false → siteB k T[j] = true) := fun h => by
            have h2 : siteB k T[j] = true := by unfold siteB; rw [decide_eq_true hall, h]; rfl
            exact h2
          have HPC0 : Hid (∀ i (hi : i < T.length), wr.cell? ⟨b, o + i * 3 + 1, none⟩ = some (.int .i64 T[i].at_)) := fun i hi => (hcc i hi).2.1
          have HRG : Hid (∀ i (hi : i < T.length), i < j → 0 ≤ T[i].at_ ∧ T[i].at_ ≤ 65531) := fun i hi h => by
            have h1 := (HGO.out i hi h).1
            rw [getD_si hi] at h1
            unfold siteB at h1
            simp only [Bool.and_eq_true, decide_eq_true_eq] at h1
            omega
          have HB2 := Hid.in (below_alloc HB.out (.cells #[.int .i64 T[j].key, .int .i64 T[j].at_, .int .i64 T[j].to_] 52))
          have HV2 := Hid.in (Blk.new wr 52 #[.int .i64 T[j].key, .int .i64 T[j].at_, .int .i64 T[j].to_])
          have HC2 := Hid.in (new_alloc wr (.cells #[.int .i64 T[j].key, .int .i64 T[j].at_, .int .i64 T[j].to_] 52))
          cases hf : farS T[j] with
          | true =>
            have HE : Hid (r = false) := HNO.out j hjT (fun h => by
              have h1 := h.1
              rw [getD_si hjT] at h1
              unfold siteB at h1
              rw [hf] at h1
              simp at h1)
            have hfar := hE true hf
            clear hE hcc HSI hf
            obtain ⟨g1, g2, g3, g4, g5, g6⟩ := hall
            generalize T[j].key = x0 at *
            generalize T[j].at_ = x1 at *
            generalize T[j].to_ = x2 at *
            have e1 : decide (x0 < 0) = false := decide_eq_false (by omega)
            have e2 : decide (k ≤ x0) = false := decide_eq_false (by omega)
            have e3 : decide (x1 < 0) = false := decide_eq_false (by omega)
            have e4 : decide (65531 < x1) = false := decide_eq_false (by omega)
            have e5 : decide (x2 < 0) = false := decide_eq_false (by omega)
            have e6 : decide (65536 < x2) = false := decide_eq_false (by omega)
            go_wp2_with fail
            generalize wr.alloc (.cells #[.int .i64 x0, .int .i64 x1, .int .i64 x2] 52) = w2 at *
            have HKP : Hid (∀ W, Below w2.heap.size w2 W → W.cell? ⟨wr.heap.size, 0, none⟩ = some (.int .i64 x0) ∧ W.cell? ⟨wr.heap.size, 1, none⟩ = some (.int .i64 x1) ∧ W.cell? ⟨wr.heap.size, 2, none⟩ = some (.int .i64 x2)) := fun W hW => ⟨(HV2.out.grow hW).cell 0, (HV2.out.grow hW).cell 1, (HV2.out.grow hW).cell 2⟩
            have v0 : w2.cell? ⟨wr.heap.size, 0, none⟩ = some (.int .i64 x0) := HV2.out.cell 0
            have v1 : w2.cell? ⟨wr.heap.size, 1, none⟩ = some (.int .i64 x1) := HV2.out.cell 1
            have v2 : w2.cell? ⟨wr.heap.size, 2, none⟩ = some (.int .i64 x2) := HV2.out.cell 2
            have v0' := fun d os => cell_regrown v0 d os
            have v1' := fun d os => cell_regrown v1 d os
            have v2' := fun d os => cell_regrown v2 d os
            refine wp_region_quiet_below (by kernel_rfl) (by kernel_rfl) ?_
            iterate 47 (go_big_quiet_step ((exact Calls.regrown_of (hfar _))))
            refine wpQuiet_nil ?_
            intro _ hw'
            obtain ⟨⟨dq, osq⟩, hw''⟩ := hw'
            subst hw''
            have HB3 := Hid.in (below_regrown w2 dq osq)
            clear v0' v1' v2'
            generalize Go.Sort.grow (redrawn w2 dq) osq = w3 at *
            go_wp2
            go_ret
            exact ⟨by rw [HE.out]; rfl, below_step HB2.out HB3.out⟩
          | false =>
            have hfar := hE false hf
            have HSB := Hid.in (HSI.out hf)
            have HBAD : Hid (∀ m, m < j → (T[j].at_ - (T.getD m ⟨0, 0, 0⟩).at_ < 5 ∧ (T.getD m ⟨0, 0, 0⟩).at_ - T[j].at_ < 5) → r = false) := fun m hm hd => HNO.out j hjT (fun h => by
              have h3 := h.2.2 m hm
              rw [getD_si hjT] at h3
              exact h3 hd)
            by_cases hj0 : j = 0
            · have hjz : decide (0 < j) = false := decide_eq_false (by omega)
              have HNX : Hid ((∀ i, i < j → ¬ (T[j].at_ - (T.getD i ⟨0, 0, 0⟩).at_ < 5 ∧ (T.getD i ⟨0, 0, 0⟩).at_ - T[j].at_ < 5)) → ∀ i, i < T.length → i < j + 1 → okSt T k i) := fun _ i hi h => by
                have e : i = j := by omega
                subst e
                exact ⟨by rw [getD_si hjT]; exact HSB.out, fun h => absurd h (by omega), fun q hq => absurd hq (by omega)⟩
              have hjz2 : ¬ 0 < j := by omega
              clear hE hcc HSI hf HSB hj0
              obtain ⟨g1, g2, g3, g4, g5, g6⟩ := hall
              generalize T[j].key = x0 at *
              generalize T[j].at_ = x1 at *
              generalize T[j].to_ = x2 at *
              have e1 : decide (x0 < 0) = false := decide_eq_false (by omega)
              have e2 : decide (k ≤ x0) = false := decide_eq_false (by omega)
              have e3 : decide (x1 < 0) = false := decide_eq_false (by omega)
              have e4 : decide (65531 < x1) = false := decide_eq_false (by omega)
              have e5 : decide (x2 < 0) = false := decide_eq_false (by omega)
              have e6 : decide (65536 < x2) = false := decide_eq_false (by omega)
              go_wp2_with fail
              generalize wr.alloc (.cells #[.int .i64 x0, .int .i64 x1, .int .i64 x2] 52) = w2 at *
              have HKP : Hid (∀ W, Below w2.heap.size w2 W → W.cell? ⟨wr.heap.size, 0, none⟩ = some (.int .i64 x0) ∧ W.cell? ⟨wr.heap.size, 1, none⟩ = some (.int .i64 x1) ∧ W.cell? ⟨wr.heap.size, 2, none⟩ = some (.int .i64 x2)) := fun W hW => ⟨(HV2.out.grow hW).cell 0, (HV2.out.grow hW).cell 1, (HV2.out.grow hW).cell 2⟩
              have v0 : w2.cell? ⟨wr.heap.size, 0, none⟩ = some (.int .i64 x0) := HV2.out.cell 0
              have v1 : w2.cell? ⟨wr.heap.size, 1, none⟩ = some (.int .i64 x1) := HV2.out.cell 1
              have v2 : w2.cell? ⟨wr.heap.size, 2, none⟩ = some (.int .i64 x2) := HV2.out.cell 2
              have v0' := fun d os => cell_regrown v0 d os
              have v1' := fun d os => cell_regrown v1 d os
              have v2' := fun d os => cell_regrown v2 d os
              refine wp_region_quiet_below (by kernel_rfl) (by kernel_rfl) ?_
              iterate 47 (go_big_quiet_step ((exact Calls.regrown_of (hfar _))))
              refine wpQuiet_nil ?_
              intro _ hw'
              obtain ⟨⟨dq, osq⟩, hw''⟩ := hw'
              subst hw''
              have HB3 := Hid.in (below_regrown w2 dq osq)
              clear v0' v1' v2'
              generalize Go.Sort.grow (redrawn w2 dq) osq = w3 at *
              have HBX := Hid.in (below_step HB2.out HB3.out)
              have HG3 := Hid.in (HNX.out (fun i h => absurd h (by omega)))
              all_goals
                go_wp2_with fail
                refine wp_loop_rounds 1 ?_
                rw [rounds_succ]; go_wp2_with fail
                go_roundw
                case rel => exact ⟨j + 1, by go_num, by omega, HG3.out, HBX.out⟩
                case measure => simp [intOf]; omega
            · have hjp : j - 1 < T.length := by omega
              have p0 := (hcc (j - 1) hjp).1
              have p1 := (hcc (j - 1) hjp).2.1
              have p2 := (hcc (j - 1) hjp).2.2
              have hah := fun W => ahead_any T[j - 1] T[j] W
              dsimp only [sV] at hah
              have hwj : IntKind.i64.wrap ((j : Int) - 1) = ((j - 1 : Nat) : Int) := by rw [IntKind.wrap_i64]; omega
              have hjpos : decide (0 < j) = true := decide_eq_true (by omega)
              have hjp2 : j - 1 < n := by omega
              cases hlt2 : ltS T[j - 1] T[j] with
              | true =>
                have HNX : Hid ((∀ i, i < j → ¬ (T[j].at_ - (T.getD i ⟨0, 0, 0⟩).at_ < 5 ∧ (T.getD i ⟨0, 0, 0⟩).at_ - T[j].at_ < 5)) → ∀ i, i < T.length → i < j + 1 → okSt T k i) := fun hh i hi h => by
                  by_cases e : i = j
                  · subst e
                    exact ⟨by rw [getD_si hjT]; exact HSB.out, fun _ => by rw [getD_si hjT, getD_si hjp]; exact hlt2, fun q hq => by rw [getD_si hjT]; exact hh q hq⟩
                  · exact HGO.out i hi (by omega)
                rw [hlt2] at hah
                clear hE hcc HSI hf HSB hlt2
                obtain ⟨g1, g2, g3, g4, g5, g6⟩ := hall
                generalize T[j].key = x0 at *
                generalize T[j].at_ = x1 at *
                generalize T[j].to_ = x2 at *
                have e1 : decide (x0 < 0) = false := decide_eq_false (by omega)
                have e2 : decide (k ≤ x0) = false := decide_eq_false (by omega)
                have e3 : decide (x1 < 0) = false := decide_eq_false (by omega)
                have e4 : decide (65531 < x1) = false := decide_eq_false (by omega)
                have e5 : decide (x2 < 0) = false := decide_eq_false (by omega)
                have e6 : decide (65536 < x2) = false := decide_eq_false (by omega)
                generalize T[j - 1].key = y0 at *
                generalize T[j - 1].at_ = z1 at *
                generalize T[j - 1].to_ = y2 at *
                go_wp2_with fail
                generalize wr.alloc (.cells #[.int .i64 x0, .int .i64 x1, .int .i64 x2] 52) = w2 at *
                have HKP : Hid (∀ W, Below w2.heap.size w2 W → W.cell? ⟨wr.heap.size, 0, none⟩ = some (.int .i64 x0) ∧ W.cell? ⟨wr.heap.size, 1, none⟩ = some (.int .i64 x1) ∧ W.cell? ⟨wr.heap.size, 2, none⟩ = some (.int .i64 x2) ∧ W.cell? ⟨b, o + (j - 1) * 3, none⟩ = some (.int .i64 y0) ∧ W.cell? ⟨b, o + (j - 1) * 3 + 1, none⟩ = some (.int .i64 z1) ∧ W.cell? ⟨b, o + (j - 1) * 3 + 2, none⟩ = some (.int .i64 y2)) := fun W hW => ⟨(HV2.out.grow hW).cell 0, (HV2.out.grow hW).cell 1, (HV2.out.grow hW).cell 2, ((below_step HC2.out hW).cell (p := ⟨b, o + (j - 1) * 3, none⟩) (cell_lt p0)).trans p0, ((below_step HC2.out hW).cell (p := ⟨b, o + (j - 1) * 3 + 1, none⟩) (cell_lt p1)).trans p1, ((below_step HC2.out hW).cell (p := ⟨b, o + (j - 1) * 3 + 2, none⟩) (cell_lt p2)).trans p2⟩
                obtain ⟨v0, v1, v2, v3, v4, v5⟩ := HKP.out w2 (below_self w2)
                have v0' := fun d os => cell_regrown v0 d os
                have v1' := fun d os => cell_regrown v1 d os
                have v2' := fun d os => cell_regrown v2 d os
                have v3' := fun d os => cell_regrown v3 d os
                have v4' := fun d os => cell_regrown v4 d os
                have v5' := fun d os => cell_regrown v5 d os
                refine wp_region_quiet_below (by kernel_rfl) (by kernel_rfl) ?_
                iterate 47 (go_big_quiet_step ((first | exact Calls.regrown_of (hfar _) | exact Calls.regrown_of (hah _))))
                refine wpQuiet_nil ?_
                intro _ hw'
                obtain ⟨⟨dq, osq⟩, hw''⟩ := hw'
                subst hw''
                have HB4 := Hid.in (below_regrown w2 dq osq)
                have hk2 := HKP.out _ HB4.out
                clear v0' v1' v2' v3' v4' v5'
                generalize Go.Sort.grow (redrawn w2 dq) osq = w4 at *
                have HBX := Hid.in (below_step HB2.out HB4.out)
                have HPC : Hid (∀ i (hi : i < T.length), w4.cell? ⟨b, o + i * 3 + 1, none⟩ = some (.int .i64 T[i].at_)) := fun i hi => (((below_step HC2.out HB4.out)).cell (p := ⟨b, o + i * 3 + 1, none⟩) (cell_lt (HPC0.out i hi))).trans (HPC0.out i hi)
                have u1 := hk2.2.1
                clear hk2 v0 v1 v2 v3 v4 v5 p0 p1 p2 HKP hfar hah c0 c1 c2
                go_wp2_with fail
                go_loopw [7] (fun vi ws => ∃ m q : Nat, vi = .int .i64 m ∧ m ≤ j ∧ (∀ i, i < m → ¬ (x1 - (T.getD i ⟨0, 0, 0⟩).at_ < 5 ∧ (T.getD i ⟨0, 0, 0⟩).at_ - x1 < 5)) ∧ ws = w4.drewN q) (fun vi _ => j - (intOf vi).toNat)
                case atStart => exact ⟨0, 0, rfl, Nat.zero_le _, fun i h => absurd h (Nat.not_lt_zero _), rfl⟩
                case round =>
                  obtain ⟨m, q, rfl, hm, hgo2, rfl⟩ := hrel
                  have HGP := Hid.in hgo2
                  clear hgo2
                  by_cases hmj : m < j
                  · have hmT : m < T.length := by omega
                    have d1 := HPC.out m hmT
                    have hgm : (T.getD m ⟨0, 0, 0⟩).at_ = T[m].at_ := by rw [getD_si hmT]
                    have hrg := HRG.out m hmT hmj
                    have hw3 : IntKind.i64.wrap (x1 - T[m].at_) = x1 - T[m].at_ := by rw [IntKind.wrap_i64]; omega
                    have hmn : m < n := by omega
                    by_cases hd : x1 - T[m].at_ < 5 ∧ T[m].at_ - x1 < 5
                    · have HE : Hid (r = false) := HBAD.out m hmj (by rw [hgm]; exact hd)
                      obtain ⟨hd1, hd2⟩ := hd
                      clear hgm
                      generalize T[m].at_ = y1 at *
                      have hd3 : -5 < x1 - y1 := by omega
                      go_wp2_with fail
                      go_quiet (fail)
                      go_wp2
                      go_ret
                      exact ⟨by rw [HE.out]; rfl, below_draws HBX.out _⟩
                    · have HG2 : Hid (∀ i, i < m + 1 → ¬ (x1 - (T.getD i ⟨0, 0, 0⟩).at_ < 5 ∧ (T.getD i ⟨0, 0, 0⟩).at_ - x1 < 5)) := fun i h => by
                        by_cases e : i = m
                        · subst e; rw [hgm]; exact hd
                        · exact HGP.out i (by omega)
                      clear hgm
                      generalize T[m].at_ = y1 at *
                      rcases (by omega : x1 - y1 ≤ -5 ∨ (-5 < x1 - y1 ∧ 5 ≤ x1 - y1)) with hd3 | ⟨hd3, hd4⟩
                      all_goals
                        clear hd
                        go_wp2_with fail
                        go_quiet (fail)
                        go_wp2
                        go_roundw
                        case rel => exact ⟨m + 1, _, by go_num, by omega, fun i h1 => (by have := HG2.out i h1; omega), rfl⟩
                        case measure => simp [intOf]; omega
                  · have HG3 : Hid (∀ i, i < T.length → i < j + 1 → okSt T k i) := HNX.out (fun i hi => HGP.out i (by omega))
                    go_wp2_with fail
                    go_roundw
                    case rel => exact ⟨j + 1, by go_num, by omega, HG3.out, below_draws HBX.out _⟩
                    case measure => simp [intOf]; omega
              | false =>
                have HE : Hid (r = false) := HNO.out j hjT (fun h => by
                  have h2 := h.2.1 (by omega)
                  rw [getD_si hjT, getD_si hjp, hlt2] at h2
                  cases h2)
                rw [hlt2] at hah
                clear hE hcc HSI hf HSB hlt2
                obtain ⟨g1, g2, g3, g4, g5, g6⟩ := hall
                generalize T[j].key = x0 at *
                generalize T[j].at_ = x1 at *
                generalize T[j].to_ = x2 at *
                have e1 : decide (x0 < 0) = false := decide_eq_false (by omega)
                have e2 : decide (k ≤ x0) = false := decide_eq_false (by omega)
                have e3 : decide (x1 < 0) = false := decide_eq_false (by omega)
                have e4 : decide (65531 < x1) = false := decide_eq_false (by omega)
                have e5 : decide (x2 < 0) = false := decide_eq_false (by omega)
                have e6 : decide (65536 < x2) = false := decide_eq_false (by omega)
                generalize T[j - 1].key = y0 at *
                generalize T[j - 1].at_ = z1 at *
                generalize T[j - 1].to_ = y2 at *
                go_wp2_with fail
                generalize wr.alloc (.cells #[.int .i64 x0, .int .i64 x1, .int .i64 x2] 52) = w2 at *
                have HKP : Hid (∀ W, Below w2.heap.size w2 W → W.cell? ⟨wr.heap.size, 0, none⟩ = some (.int .i64 x0) ∧ W.cell? ⟨wr.heap.size, 1, none⟩ = some (.int .i64 x1) ∧ W.cell? ⟨wr.heap.size, 2, none⟩ = some (.int .i64 x2) ∧ W.cell? ⟨b, o + (j - 1) * 3, none⟩ = some (.int .i64 y0) ∧ W.cell? ⟨b, o + (j - 1) * 3 + 1, none⟩ = some (.int .i64 z1) ∧ W.cell? ⟨b, o + (j - 1) * 3 + 2, none⟩ = some (.int .i64 y2)) := fun W hW => ⟨(HV2.out.grow hW).cell 0, (HV2.out.grow hW).cell 1, (HV2.out.grow hW).cell 2, ((below_step HC2.out hW).cell (p := ⟨b, o + (j - 1) * 3, none⟩) (cell_lt p0)).trans p0, ((below_step HC2.out hW).cell (p := ⟨b, o + (j - 1) * 3 + 1, none⟩) (cell_lt p1)).trans p1, ((below_step HC2.out hW).cell (p := ⟨b, o + (j - 1) * 3 + 2, none⟩) (cell_lt p2)).trans p2⟩
                obtain ⟨v0, v1, v2, v3, v4, v5⟩ := HKP.out w2 (below_self w2)
                have v0' := fun d os => cell_regrown v0 d os
                have v1' := fun d os => cell_regrown v1 d os
                have v2' := fun d os => cell_regrown v2 d os
                have v3' := fun d os => cell_regrown v3 d os
                have v4' := fun d os => cell_regrown v4 d os
                have v5' := fun d os => cell_regrown v5 d os
                refine wp_region_quiet_below (by kernel_rfl) (by kernel_rfl) ?_
                iterate 47 (go_big_quiet_step ((first | exact Calls.regrown_of (hfar _) | exact Calls.regrown_of (hah _))))
                refine wpQuiet_nil ?_
                intro _ hw'
                obtain ⟨⟨dq, osq⟩, hw''⟩ := hw'
                subst hw''
                have HB4 := Hid.in (below_regrown w2 dq osq)
                have hk2 := HKP.out _ HB4.out
                clear v0' v1' v2' v3' v4' v5'
                generalize Go.Sort.grow (redrawn w2 dq) osq = w4 at *
                go_wp2
                go_ret
                exact ⟨by rw [HE.out]; rfl, below_step HB2.out HB4.out⟩
        · have HE : Hid (r = false) := HNO.out j hjT (fun h => by
            have h1 := h.1
            rw [getD_si hjT] at h1
            unfold siteB at h1
            rw [decide_eq_false hall, Bool.false_and] at h1
            cases h1)
          clear hcc
          generalize T[j].key = x0 at *
          generalize T[j].at_ = x1 at *
          generalize T[j].to_ = x2 at *
          rcases (by omega : x0 < 0 ∨ (0 ≤ x0 ∧ k ≤ x0) ∨ (0 ≤ x0 ∧ x0 < k ∧ x1 < 0) ∨ (0 ≤ x0 ∧ x0 < k ∧ 0 ≤ x1 ∧ 65531 < x1) ∨ (0 ≤ x0 ∧ x0 < k ∧ 0 ≤ x1 ∧ x1 ≤ 65531 ∧ x2 < 0) ∨ (0 ≤ x0 ∧ x0 < k ∧ 0 ≤ x1 ∧ x1 ≤ 65531 ∧ 0 ≤ x2 ∧ 65536 < x2)) with g1 | ⟨g1, g2⟩ | ⟨g1, g2, g3⟩ | ⟨g1, g2, g3, g4⟩ | ⟨g1, g2, g3, g4, g5⟩ | ⟨g1, g2, g3, g4, g5, g6⟩
          · have e1 : decide (x0 < 0) = true := decide_eq_true g1
            clear hall
            go_wp2_with fail
            go_quiet (fail)
            go_wp2
            go_ret
            exact ⟨by rw [HE.out]; rfl, below_draws (below_alloc HB.out _) _⟩
          · have e1 : decide (x0 < 0) = false := decide_eq_false (by omega)
            have e2 : decide (k ≤ x0) = true := decide_eq_true g2
            clear hall
            go_wp2_with fail
            go_quiet (fail)
            go_wp2
            go_ret
            exact ⟨by rw [HE.out]; rfl, below_draws (below_alloc HB.out _) _⟩
          · have e1 : decide (x0 < 0) = false := decide_eq_false (by omega)
            have e2 : decide (k ≤ x0) = false := decide_eq_false (by omega)
            have e3 : decide (x1 < 0) = true := decide_eq_true g3
            clear hall
            go_wp2_with fail
            go_quiet (fail)
            go_wp2
            go_ret
            exact ⟨by rw [HE.out]; rfl, below_draws (below_alloc HB.out _) _⟩
          · have e1 : decide (x0 < 0) = false := decide_eq_false (by omega)
            have e2 : decide (k ≤ x0) = false := decide_eq_false (by omega)
            have e3 : decide (x1 < 0) = false := decide_eq_false (by omega)
            have e4 : decide (65531 < x1) = true := decide_eq_true g4
            clear hall
            go_wp2_with fail
            go_quiet (fail)
            go_wp2
            go_ret
            exact ⟨by rw [HE.out]; rfl, below_draws (below_alloc HB.out _) _⟩
          · have e1 : decide (x0 < 0) = false := decide_eq_false (by omega)
            have e2 : decide (k ≤ x0) = false := decide_eq_false (by omega)
            have e3 : decide (x1 < 0) = false := decide_eq_false (by omega)
            have e4 : decide (65531 < x1) = false := decide_eq_false (by omega)
            have e5 : decide (x2 < 0) = true := decide_eq_true g5
            clear hall
            go_wp2_with fail
            go_quiet (fail)
            go_wp2
            go_ret
            exact ⟨by rw [HE.out]; rfl, below_draws (below_alloc HB.out _) _⟩
          · have e1 : decide (x0 < 0) = false := decide_eq_false (by omega)
            have e2 : decide (k ≤ x0) = false := decide_eq_false (by omega)
            have e3 : decide (x1 < 0) = false := decide_eq_false (by omega)
            have e4 : decide (65531 < x1) = false := decide_eq_false (by omega)
            have e5 : decide (x2 < 0) = false := decide_eq_false (by omega)
            have e6 : decide (65536 < x2) = true := decide_eq_true g6
            clear hall
            go_wp2_with fail
            go_quiet (fail)
            go_wp2
            go_ret
            exact ⟨by rw [HE.out]; rfl, below_draws (below_alloc HB.out _) _⟩
      · have HE : Hid (r = true) := HYES.out (fun i hi => HGO.out i hi (by rw [HN.out] at hi; omega))
        go_wp2_with fail
        go_ret
        exact ⟨by rw [HE.out]; rfl, HB.out⟩
  · have HF : Hid (rightS T k = false) := by
      have h : rightS T k = false := by rw [right_eq, decide_eq_false h0, Bool.false_and, Bool.false_and]
      exact h
    rw [HF.out]
    rw [hn] at h0
    clear HF hr
    rcases (by omega : k < 0 ∨ (0 ≤ k ∧ 64 < k) ∨ (0 ≤ k ∧ k ≤ 64 ∧ 256 < n)) with h1 | ⟨h1, h2⟩ | ⟨h1, h2, h3⟩
    all_goals
      clear h0
      go_enter Try.func45, Try.ntmps45
      go_wp2_with fail
      go_ret
      exact ⟨rfl, below_self w⟩

end Go.Proofs.Ytfhjaabbfaamjaa

/- A region that draws its order: its first operations only read; what stands behind them may make memory. -/
namespace Go.Proofs.Ytfhjaabbfaamjaa
open Go.RowKit Go.Sort

/-- an operation whose answer is a value -/
def plainOp (o : Oper) : Bool := match o.op with
  | .move _ | .assign _ | .pick _ _ _ | .load _ _ | .binOp _ _ _ _ _ | .unOp _ _ _ | .slice _ _ _ _ _ | .fieldAddr _ _ _ | .field _ _ _ | .indexAddr _ _ _ | .index _ _ _ | .extract _ _ | .convert _ _ _ => true
  | .call c => match c.callee with
    | .builtin .len => true
    | _ => false
  | _ => false
theorem value_only {P : Program} (s : Sem Value) (w w' : World) (n : Next) (h : (do pure (.value (← s)) : Sem Next).run P w = .ok n w') : ∃ v, n = .value v := by
  rw [Sem.run_bind] at h
  cases hs : s.run P w with
  | ok x w1 =>
    rw [hs] at h
    simp only [Result.andThen_ok, Sem.run_pure] at h
    injection h with h1 h2
    exact ⟨x, h1.symm⟩
  | halt x w1 =>
    rw [hs] at h
    simp [Result.andThen] at h
theorem plain_value {P : Program} {o : Oper} (hp : plainOp o = true) {ρ : Operand → Value} {w w' : World} {n : Next} (h : (execOp ρ o).run P w = .ok n w') : ∃ v, n = .value v := by
  unfold plainOp at hp
  unfold execOp at h
  obtain ⟨dst, op, ty, pos, aft, gd⟩ := o
  cases op <;> simp only at hp h
  case move => injection h with h1 _; exact ⟨_, h1.symm⟩
  case assign => injection h with h1 _; exact ⟨_, h1.symm⟩
  case pick c x y =>
    rw [Sem.run_bind] at h
    cases hs : (asBool (ρ c)).run P w with
    | ok b w1 =>
      rw [hs] at h
      simp only [Result.andThen_ok, Sem.run_pure] at h
      injection h with h1 _
      exact ⟨_, h1.symm⟩
    | halt x w1 =>
      rw [hs] at h
      simp [Result.andThen] at h
  case call c =>
    cases hc : c.callee with
    | builtin b =>
      rw [hc] at hp
      cases b <;> simp at hp
      simp only [resolve, hc, pure_bind, invoke, builtin] at h
      exact value_only _ _ _ _ h
    | _ => rw [hc] at hp; simp at hp
  all_goals first
    | exact value_only _ _ _ _ h
    | (cases hp; done)

section
variable {P : Program} {ops : Array Oper} {md : Region.Mode} {C : World → Prop} {Q : Exit → Act → World → Prop}
theorem yieldsIf_of_plain {o : Oper} {v : Value} {a : Act} (hp : plainOp o = true) (h : YieldsIn P ops C o v a) : YieldsIf P ops C o v a := by
  rcases h with ⟨hw, hv⟩ | h
  · refine .inl ⟨hw, fun w hC => ?_⟩
    have h1 := hv w hC
    unfold Oper.quietAt at h1
    cases hr : (execOp a.eval o).run P w with
    | ok n w' =>
      obtain ⟨u, rfl⟩ := plain_value hp hr
      rw [hr] at h1
      obtain ⟨rfl, rfl⟩ := h1
      rfl
    | halt x w' =>
      rw [hr] at h1
      exact h1.elim
  · exact .inr h
/-- the first n operations come up in the order of the text -/
def lexUp (md : Region.Mode) (ops : Array Oper) : Nat → Nat → Array Bool → Bool
  | 0, _, _ => true
  | n + 1, k, listed => (Region.ready md ops listed).contains k && Region.free md ops listed k && lexUp md ops n (k + 1) (listed.setIfInBounds k true)
def listedUp : Nat → Nat → Array Bool → Array Bool
  | 0, _, listed => listed
  | n + 1, k, listed => listedUp n (k + 1) (listed.setIfInBounds k true)
theorem wpAnyH_lex (hs : Region.noSelect ops = true) (hQ : ∀ c a d v w, Q (.panic c) (Act.put a d v) w → Q (.panic c) a w) (m : Nat) :
    ∀ (l : List Oper) (k : Nat) (listed : Array Bool) (a : Act) (w : World), (∀ j, j < l.length → l[j]? = ops[k + j]?) → l.all plainOp = true → lexUp md ops l.length k listed = true → C w →
      wpQuiet P ops C (fun a' => ∀ w', C w' → wpAnyH P md ops Q C m (listedUp l.length k listed) a' w') l a → wpAnyH P md ops Q C (l.length + m) listed a w
  | [], _, _, _, w, _, _, _, hC, h => by
    have := h w hC
    rw [List.length_nil, Nat.zero_add]
    exact this
  | o :: l, k, listed, a, w, hl, hp, hB, hC, h => by
    have h0 : ops[k]? = some o := by simpa using (hl 0 (by simp)).symm
    simp only [List.length_cons, lexUp, Bool.and_eq_true] at hB
    obtain ⟨⟨hr, hf⟩, hB'⟩ := hB
    rw [List.all_cons, Bool.and_eq_true] at hp
    have hst : qOp P ops C k (wpQuiet P ops C (fun a' => ∀ w', C w' → wpAnyH P md ops Q C m (listedUp (o :: l).length k listed) a' w') l) a := by unfold qOp; simp only [h0]; exact h
    obtain ⟨v, hy, hK⟩ := yieldsIn_of_qOp h0 hst
    rw [List.length_cons, show l.length + 1 + m = l.length + m + 1 by omega]
    exact wpAnyH_take h0 hs hf hr (fun c a w => hQ c a _ _ w) (yieldsIf_of_plain hp.1 hy) hC
      (wpAnyH_lex hs hQ m l (k + 1) _ _ w (fun j hj => by have := hl (j + 1) (by simpa using hj); simpa [Nat.add_assoc, Nat.add_comm 1 j] using this) hp.2 hB' hC hK)
/-- **the first n operations only read; the rest in whatever order** -/
theorem wp_region_first (n m : Nat) {id : Nat} {a : Act} {w : World} {l : List Oper} (hm : P.follows .mixedOrders = true) (hs : Region.noSelect l.toArray = true) (hn : (l.length == n + m) = true) (hp : (l.take n).all plainOp = true)
    (hB : lexUp .any l.toArray n 0 (Array.replicate l.length false) = true) (hQ : ∀ c a d v w, Q (.panic c) (Act.put a d v) w → Q (.panic c) a w) (hC : C { w with drawn := w.drawn + 1 })
    (h : wpQuiet P l.toArray C (fun a' => ∀ w', C w' → wpAnyH P .any l.toArray Q C m (listedUp n 0 (Array.replicate l.length false)) a' w') (l.take n) a) :
    (Code.region id l.toArray true).wp P Q a w := by
  refine wp_region_held (S := C) hm ?_
  have hn' : l.length = n + m := by simpa using hn
  have hl : (l.take n).length = n := by rw [List.length_take]; omega
  have := wpAnyH_lex (P := P) (md := .any) (C := C) (Q := Q) hs hQ m (l.take n) 0 (Array.replicate l.length false) a _ (fun j hj => by rw [hl] at hj; simp [hj]) hp (by rw [hl]; exact hB) hC (by rw [hl]; exact h)
  rw [hl, ← hn'] at this
  simpa using this
/-- .. at the worlds in which of what was there nothing has turned -/
theorem wp_region_first_below (n m : Nat) {id : Nat} {a : Act} {w : World} {l : List Oper} (hm : P.follows .mixedOrders = true) (hs : Region.noSelect l.toArray = true) (hn : (l.length == n + m) = true) (hp : (l.take n).all plainOp = true)
    (hB : lexUp .any l.toArray n 0 (Array.replicate l.length false) = true) (hQ : ∀ c a d v w, Q (.panic c) (Act.put a d v) w → Q (.panic c) a w)
    (h : wpQuiet P l.toArray (fun w' => ∃ p : Regrown, w' = grow (redrawn w p.d) p.os) (fun a' => ∀ w', (∃ p : Regrown, w' = grow (redrawn w p.d) p.os) → wpAnyH P .any l.toArray Q (fun w' => ∃ p : Regrown, w' = grow (redrawn w p.d) p.os) m (listedUp n 0 (Array.replicate l.length false)) a' w') (l.take n) a) :
    (Code.region id l.toArray true).wp P Q a w :=
  wp_region_first n m hm hs hn hp hB hQ ⟨⟨w.drawn + 1, #[]⟩, by rw [grow_empty]; rfl⟩ h
/-- one operation alone may come up -/
theorem wpAnyH_one {S : World → Prop} {i : Nat} {o : Oper} {fuel : Nat} {listed : Array Bool} {a : Act} {w : World} (hr : Region.ready md ops listed = [i]) (ho : ops[i]? = some o)
    (h : ∀ K' : Act → World → Prop, Shut (∀ a w, S w → (S w → wpAnyH P md ops Q S fuel (listed.setIfInBounds i true) a w) → K' a w) → if Region.wanted o (yielded ops a.tmps) = true then Oper.wp P o a w K' Q else K' (a.put o.dst undef) w) :
    wpAnyH P md ops Q S (fuel + 1) listed a w :=
  wpAnyH_ready hr (by simp) (AllReadyH.cons ho h AllReadyH.nil)
end

end Go.Proofs.Ytfhjaabbfaamjaa

/- switchyardref09.Right answers P9.3. -/
namespace Go.Proofs.Ytfhjaabbfaamjaa
open Go.RowKit

set_option maxRecDepth 20000 in
set_option maxHeartbeats 40000000 in
theorem rightR_any (m : IM) (pb pk ps pu : Option Addr) (nb cb nk ck ns cs nu cu : Nat) (w : World) (h : ImIn w m pb pk ps pu nb cb nk ck ns cs nu cu) :
    Calls Try.prog 26 #[.agg (imA pb pk ps pu nb cb nk ck ns cs nu cu)] w fun E w' => E = .returned (.bool (okI m)) ∧ Below w.heap.size w w' := by
  have H := Hid.in h
  have hkb := h.kb
  have hcb := h.mb
  have hnk := h.mc
  have hns := h.ms
  have hnu := h.mu
  clear h
  have HE : Hid (okI m = (decide (nb ≤ 65536) && rightS m.si nk && keysB m.ks && quietB m.bs m.si && unitsB nb m.un)) := by
    have : okI m = (decide (nb ≤ 65536) && rightS m.si nk && keysB m.ks && quietB m.bs m.si && unitsB nb m.un) := by
      unfold okI; rw [H.out.lk, H.out.lb]
    exact this
  obtain ⟨r, hrr⟩ : ∃ r, okI m = r := ⟨_, rfl⟩
  rw [hrr]
  rw [hrr] at HE
  clear hrr
  have HK0 : Hid (Blk (w.alloc (.cells (imA pb pk ps pu nb cb nk ck ns cs nu cu) 27)) w.heap.size 27 (imA pb pk ps pu nb cb nk ck ns cs nu cu)) := Blk.new _ _ _
  have HB0 : Hid (Below w.heap.size w (w.alloc (.cells (imA pb pk ps pu nb cb nk ck ns cs nu cu) 27))) := new_alloc _ _
  have k0 : (w.alloc (.cells (imA pb pk ps pu nb cb nk ck ns cs nu cu) 27)).cell? ⟨w.heap.size, 0, none⟩ = some (.slice pb nb cb) := HK0.out.cell 0
  have k1 : (w.alloc (.cells (imA pb pk ps pu nb cb nk ck ns cs nu cu) 27)).cell? ⟨w.heap.size, 1, none⟩ = some (.slice pk nk ck) := HK0.out.cell 1
  have k2 : (w.alloc (.cells (imA pb pk ps pu nb cb nk ck ns cs nu cu) 27)).cell? ⟨w.heap.size, 2, none⟩ = some (.slice ps ns cs) := HK0.out.cell 2
  have k3 : (w.alloc (.cells (imA pb pk ps pu nb cb nk ck ns cs nu cu) 27)).cell? ⟨w.heap.size, 3, none⟩ = some (.slice pu nu cu) := HK0.out.cell 3
  have hS := fun W (hW : Below w.heap.size w W) => refRight_any ps ns cs m.si (nk : Int) W H.out.ls H.out.ms (H.out.below hW).rs
  by_cases h6 : nb ≤ 65536
  case neg =>
    have q1 : decide ((65536 : Int) < (nb : Int)) = true := decide_eq_true (by omega)
    rw [decide_eq_false h6, Bool.false_and, Bool.false_and, Bool.false_and, Bool.false_and] at HE
    go_enter Try.func26, Try.ntmps26
    go_wp2_with fail
    go_ret
    exact ⟨by rw [HE.out]; rfl, HB0.out⟩
  have q1 : decide ((65536 : Int) < (nb : Int)) = false := decide_eq_false (by omega)
  rw [decide_eq_true h6, Bool.true_and] at HE
  by_cases h16 : nu ≤ 16
  case neg =>
    have q2 : decide ((16 : Int) < (nu : Int)) = true := decide_eq_true (by omega)
    have hf : unitsB nb m.un = false := by
      unfold unitsB
      rw [decide_eq_false (by rw [H.out.lu]; exact fun h => h16 h.1), Bool.false_and]
    rw [hf, Bool.and_false] at HE
    clear hf
    go_enter Try.func26, Try.ntmps26
    go_wp2_with fail
    go_ret
    exact ⟨by rw [HE.out]; rfl, HB0.out⟩
  have q2 : decide ((16 : Int) < (nu : Int)) = false := decide_eq_false (by omega)
  cases hs : rightS m.si nk with
  | false =>
    rw [hs] at hS
    rw [hs, Bool.false_and, Bool.false_and, Bool.false_and] at HE
    go_enter Try.func26, Try.ntmps26
    go_wp2_with (go_at_call 45; refine (hS _ HB0.out).mono ?_; rintro e w1 ⟨rfl, hb1⟩)
    go_ret
    exact ⟨by rw [HE.out]; rfl, below_step HB0.out hb1⟩
  | true =>
    obtain ⟨h64, h256, hat⟩ := right_sites hs
    rw [hs] at hS
    rw [hs, Bool.true_and] at HE
    have HAT := Hid.in hat
    have HUR := Hid.in (@units_ref nb m.un h6 (by rw [H.out.lu]; exact h16))
    have HUN := Hid.in (fun i => @units_no nb m.un i h6 (by rw [H.out.lu]; exact h16))
    have HKF : Hid (keysB m.ks = false → r = false) := fun h => by have e : r = false := by rw [HE.out, h, Bool.false_and, Bool.false_and]
                                                                   exact e
    have HQF : Hid (quietB m.bs m.si = false → r = false) := fun h => by have e : r = false := by rw [HE.out, h, Bool.and_false, Bool.false_and]
                                                                         exact e
    have HUF : Hid (unitsB nb m.un = false → r = false) := fun h => by have e : r = false := by rw [HE.out, h, Bool.and_false]
                                                                       exact e
    have HYES : Hid (keysB m.ks = true → quietB m.bs m.si = true → unitsB nb m.un = true → r = true) := fun h1 h2 h3 => by
      have e : r = true := by rw [HE.out, h1, h2, h3]; rfl
      exact e
    clear hs hat HE
    go_enter Try.func26, Try.ntmps26
    go_wp2_with (go_at_call 45; refine (hS _ HB0.out).mono ?_; rintro e w1 ⟨rfl, hb1⟩; have HK1 := Hid.in (HK0.out.grow hb1); have HB1 := Hid.in (below_step HB0.out hb1); clear hb1)
    have HI := Hid.in (H.out.below HB1.out)
    clear k0 k1 k2 k3 hS HK0 HB0 H
    go_loopw [3] (fun vi wr => ∃ j : Nat, vi = .int .i64 j ∧ j ≤ nk ∧ (∀ i, i < j → keyP m.ks i = true) ∧ Below w1.heap.size w1 wr) (fun vi _ => nk - (intOf vi).toNat)
    case atStart => exact ⟨0, rfl, Nat.zero_le _, fun i h => absurd h (Nat.not_lt_zero _), below_self w1⟩
    case round =>
      obtain ⟨j, rfl, hj, hgo, hb⟩ := hrel
      have HGO := Hid.in hgo
      have HB := Hid.in hb
      clear hgo hb
      have k1 : wr.cell? ⟨w.heap.size, 1, none⟩ = some (.slice pk nk ck) := (HK1.out.grow HB.out).cell 1
      by_cases hlt : j < nk
      · have hjT : j < m.ks.length := by rw [HI.out.lk]; exact hlt
        obtain ⟨b, o, rfl, -⟩ := strV_cell (HI.out.below HB.out).rk (by omega)
        go_wp2_with fail
        go_loopw [4] (fun vi ws => ∃ k : Nat, vi = .int .i64 k ∧ k ≤ j ∧ (∀ i (hi : i < k) (hj : i < m.ks.length), m.ks[i] ≠ m.ks[j]) ∧ Below w1.heap.size w1 ws) (fun vi _ => j - (intOf vi).toNat)
        case atStart => exact ⟨0, rfl, Nat.zero_le _, fun i h => absurd h (Nat.not_lt_zero _), HB.out⟩
        case round =>
          obtain ⟨k, rfl, hk, hno, hb2⟩ := hrel
          have HNO := Hid.in hno
          have HB2 := Hid.in hb2
          obtain ⟨b', o', e', hc⟩ := strV_cell (HI.out.below HB2.out).rk (by omega)
          obtain ⟨rfl, rfl⟩ : b = b' ∧ o = o' := by cases e'; exact ⟨rfl, rfl⟩
          have k1 : wr.cell? ⟨w.heap.size, 1, none⟩ = some (.slice (some ⟨b, o, none⟩) nk ck) := (HK1.out.grow HB2.out).cell 1
          have cj := hc j hjT
          by_cases hkj : k < j
          · have hkT : k < m.ks.length := by omega
            have ck := hc k hkT
            have hkn : k < nk := by omega
            by_cases he : m.ks[k] = m.ks[j]
            · have HF : Hid (r = false) := HKF.out (key_twice hjT hkj he)
              rw [he] at ck
              clear hno hb2 hc e' he
              generalize m.ks[j] = x at *
              go_wp2_with fail
              go_quiet (fail)
              go_wp2
              go_ret
              exact ⟨by rw [HF.out]; rfl, below_draws (below_step HB1.out HB2.out) _⟩
            · have HN2 : Hid (∀ i (hi : i < k + 1) (hj : i < m.ks.length), m.ks[i] ≠ m.ks[j]) := fun i hi hl => by
                by_cases e : i = k
                · subst e; exact he
                · exact HNO.out i (by omega) hl
              have hsl := text_ne3 he
              clear hno hb2 hc e' he HNO
              generalize m.ks[k] = y at *
              generalize m.ks[j] = x at *
              have hsb : (y.toList == x.toList) = false := by simpa using hsl
              have hsd : decide (y.toList = x.toList) = false := decide_eq_false hsl
              go_wp2_with fail
              go_quiet (fail)
              go_wp2
              go_roundw
              case rel => exact ⟨k + 1, by go_num, by omega, HN2.out, below_draws HB2.out _⟩
              case measure => simp [intOf]; omega
          · obtain rfl : k = j := by omega
            have hnm := refName_any m.ks[k] wr (HI.out.ksz _ (List.getElem_mem hjT))
            cases hn : nmB m.ks[k] with
            | false =>
              have HF : Hid (r = false) := HKF.out (key_noname hjT hn)
              rw [hn] at hnm
              clear hno hb2 hc e' HNO hn
              generalize m.ks[k] = x at *
              go_wp2_with (go_at_call 46; refine hnm.mono ?_; rintro e w4 ⟨rfl, rfl⟩)
              go_ret
              exact ⟨by rw [HF.out]; rfl, below_step HB1.out HB2.out⟩
            | true =>
              have HG2 : Hid (∀ i, i < k + 1 → keyP m.ks i = true) := fun i hi => by
                by_cases e : i = k
                · subst e; exact key_ok hjT (fun q hq => HNO.out q hq (by omega)) hn
                · exact HGO.out i (by omega)
              rw [hn] at hnm
              clear hno hb2 hc e' HNO hn
              generalize m.ks[k] = x at *
              go_wp2_with (go_at_call 46; refine hnm.mono ?_; rintro e w4 ⟨rfl, rfl⟩)
              go_roundw
              case rel => exact ⟨k + 1, by go_num, by omega, HG2.out, HB2.out⟩
              case measure => simp [intOf]; omega
      · have HKY : Hid (keysB m.ks = true) := range_yes fun i hi => HGO.out i (by rw [HI.out.lk] at hi; omega)
        go_wp2_with fail
        clear HGO HKF k1
        go_loopw [5] (fun vi wr => ∃ j : Nat, vi = .int .i64 j ∧ j ≤ ns ∧ (∀ i (hi : i < m.si.length), i < j → stB m.bs m.si[i].at_ quiet = true) ∧ Below w1.heap.size w1 wr) (fun vi _ => ns - (intOf vi).toNat)
        case atStart => exact ⟨0, rfl, Nat.zero_le _, fun i _ h => absurd h (Nat.not_lt_zero _), HB.out⟩
        case round =>
          clear HB
          obtain ⟨j, rfl, hj, hgo, hb⟩ := hrel
          have HGO := Hid.in hgo
          have HB := Hid.in hb
          have k0 : wr.cell? ⟨w.heap.size, 0, none⟩ = some (.slice pb nb cb) := (HK1.out.grow HB.out).cell 0
          have k2 : wr.cell? ⟨w.heap.size, 2, none⟩ = some (.slice ps ns cs) := (HK1.out.grow HB.out).cell 2
          clear hgo hb
          by_cases hlt : j < ns
          · have hjT : j < m.si.length := by rw [HI.out.ls]; exact hlt
            obtain ⟨b, o, rfl, hcc⟩ := ((HI.out.below HB.out).rs).at3 (by omega)
            have c1 := (hcc j hjT).2.1
            have hA := HAT.out _ (List.getElem_mem hjT)
            obtain ⟨a, ha⟩ : ∃ a : Nat, m.si[j].at_ = a := ⟨m.si[j].at_.toNat, by omega⟩
            have HS : Hid (stB m.bs m.si[j].at_ quiet = stB m.bs (a : Int) quiet) := by
              have : stB m.bs m.si[j].at_ quiet = stB m.bs (a : Int) quiet := by rw [ha]
              exact this
            rw [ha] at hA c1
            clear hcc ha
            have hw5 : IntKind.i64.wrap ((a : Int) + 5) = (a : Int) + 5 := by rw [IntKind.wrap_i64]; omega
            by_cases hle : a + 5 ≤ nb
            · have HRB := Hid.in (HI.out.below HB.out).rb
              obtain ⟨p', e1, e2, hrow⟩ := slice_five HRB.out HI.out.lb hkb hle
              have hl5 : ((m.bs.drop a).take 5).length = 5 := by rw [List.length_take, List.length_drop, HI.out.lb]; omega
              have hcv := fun d os => (hrow.below (below_regrown wr d os)).convert hl5 (cb - a)
              have HST : Hid (((strOfNums ((m.bs.drop a).take 5)).toList == (strOfNums quiet).toList) = stB m.bs m.si[j].at_ quiet) := by
                have : ((strOfNums ((m.bs.drop a).take 5)).toList == (strOfNums quiet).toList) = stB m.bs m.si[j].at_ quiet := by
                  rw [HS.out, st_five (by rw [HI.out.lb]; exact hle), str_same ((HI.out.byt.drop a).take 5) byt_quiet]
                exact this
              have HNX : Hid (stB m.bs m.si[j].at_ quiet = true → ∀ i (hi : i < m.si.length), i < j + 1 → stB m.bs m.si[i].at_ quiet = true) := fun h i hi hl => by
                by_cases e : i = j
                · subst e; exact h
                · exact HGO.out i hi (by omega)
              have HNF : Hid (stB m.bs m.si[j].at_ quiet = false → r = false) := fun h => HQF.out (all_no hjT h)
              have hd : decide ((nb : Int) < (a : Int) + 5) = false := decide_eq_false (by omega)
              have k0r := fun d os => cell_regrown k0 d os
              clear hrow HS HGO
              generalize strOfNums ((m.bs.drop a).take 5) = S at *
              generalize stB m.bs m.si[j].at_ quiet = rs at *
              go_upto_region 17 with fail
              refine wp_region_noPanic ?_
              refine wp_region_first_below 14 4 (by kernel_rfl) (by kernel_rfl) (by kernel_rfl) (by kernel_rfl) (by kernel_rfl) (fun _ _ _ _ _ h => h) ?_
              simp only [List.take_succ_cons, List.take_zero]
              iterate 14 (go_big_quiet_step (fail))
              refine wpQuiet_nil ?_
              rintro _ ⟨⟨dq, osq⟩, rfl⟩
              have hb17 : Below wr.heap.size wr (Go.Sort.grow (redrawn wr dq) osq) := below_regrown wr dq osq
              clear k0r hcv
              generalize Go.Sort.grow (redrawn wr dq) osq = w17 at hb17 ⊢
              refine wpAnyH_one (i := 14) (by kernel_rfl) rfl (fun K hK => ?_)
              go_simp
              go_at_call 47
              refine (rquiet_any _).mono ?_
              rintro E w20 ⟨g20, d20, rfl, ho20, hb20'⟩
              have hb20 := below_step hb17 hb20'
              have hcv := ho20.row.convert (n := 5) rfl d20
              refine hK.out _ _ (regrown_of_below hb20) (fun _ => ?_)
              clear hK K
              refine wpAnyH_one (i := 15) (by kernel_rfl) rfl (fun K hK => ?_)
              go_simp
              refine hK.out _ _ (regrown_of_below hb20) (fun _ => ?_)
              clear hK K
              refine wpAnyH_one (i := 16) (by kernel_rfl) rfl (fun K hK => ?_)
              have hst := HST.out
              cases rs with
              | true =>
                have hbn : (S.toList != (strOfNums quiet).toList) = false := by rw [bne, hst]; rfl
                go_simp
                refine hK.out _ _ (regrown_of_below hb20) (fun _ => ?_)
                clear hK K
                refine wpAnyH_one (i := 17) (by kernel_rfl) rfl (fun K hK => ?_)
                go_simp
                refine hK.out _ _ (regrown_of_below hb20) (fun _ => ?_)
                clear hK K
                refine wpAnyH_done (by kernel_rfl) ?_ _
                refine NoPanic.normal ?_
                have HB21 := Hid.in (below_step HB.out hb20)
                have HG2 := Hid.in (HNX.out rfl)
                clear hb20 hb20' hb17 ho20 hcv hst hbn HST HNX HNF k0 c1 k2
                go_wp2_with fail
                go_roundw
                case rel => exact ⟨j + 1, by go_num, by omega, HG2.out, HB21.out⟩
                case measure => simp [intOf]; omega
              | false =>
                have hbn : (S.toList != (strOfNums quiet).toList) = true := by rw [bne, hst]; rfl
                go_simp
                refine hK.out _ _ (regrown_of_below hb20) (fun _ => ?_)
                clear hK K
                refine wpAnyH_one (i := 17) (by kernel_rfl) rfl (fun K hK => ?_)
                go_simp
                refine hK.out _ _ (regrown_of_below hb20) (fun _ => ?_)
                clear hK K
                refine wpAnyH_done (by kernel_rfl) ?_ _
                refine NoPanic.normal ?_
                have HB21 := Hid.in (below_step HB.out hb20)
                have HF := Hid.in (HNF.out rfl)
                clear hb20 hb20' hb17 ho20 hcv hst hbn HST HNX HNF k0 c1 k2
                go_wp2_with fail
                go_ret
                exact ⟨by rw [HF.out]; rfl, below_step HB1.out HB21.out⟩
            · have HF : Hid (r = false) := HQF.out (all_no hjT (HS.out.trans (by
                unfold stB
                simp only [decide_eq_false_iff_not]
                rintro ⟨h1, h2, -⟩
                have e : quiet.length = 5 := rfl
                rw [e] at h2
                have := HI.out.lb
                omega)))
              have hd : decide ((nb : Int) < (a : Int) + 5) = true := decide_eq_true (by omega)
              go_wp2_with fail
              go_quiet (fail)
              go_wp2
              go_ret
              exact ⟨by rw [HF.out]; rfl, below_draws (below_step HB1.out HB.out) _⟩
          · have HQY : Hid (quietB m.bs m.si = true) := all_yes fun i hi => HGO.out i hi (by rw [HI.out.ls] at hi; omega)
            go_wp2_with fail
            clear HGO HQF k0 k2
            go_loopw [7] (fun vi wr => ∃ j : Nat, vi = .int .i64 j ∧ j ≤ nu ∧ (∀ i, i < j → unR nb m.un i) ∧ Below w1.heap.size w1 wr) (fun vi _ => nu - (intOf vi).toNat)
            case atStart => exact ⟨0, rfl, Nat.zero_le _, fun i h => absurd h (Nat.not_lt_zero _), HB.out⟩
            case round =>
              clear HB
              obtain ⟨j, rfl, hj, hgo, hb⟩ := hrel
              have HGO := Hid.in hgo
              have HB := Hid.in hb
              have k0 : wr.cell? ⟨w.heap.size, 0, none⟩ = some (.slice pb nb cb) := (HK1.out.grow HB.out).cell 0
              have k3 : wr.cell? ⟨w.heap.size, 3, none⟩ = some (.slice pu nu cu) := (HK1.out.grow HB.out).cell 3
              clear hgo hb
              by_cases hlt : j < nu
              · have hjT : j < m.un.length := by rw [HI.out.lu]; exact hlt
                obtain ⟨b, o, rfl, hcc⟩ := intV_cell (HI.out.below HB.out).ru (by omega)
                have cj := hcc j hjT
                have hu := HI.out.uns _ (List.getElem_mem hjT)
                unfold i64P at hu
                have HG1 := Hid.in (getD_un hjT)
                have HNO : Hid (¬ unR nb m.un j → r = false) := fun h => HUF.out (HUN.out j hjT h)
                have HNX : Hid (unR nb m.un j → ∀ i, i < j + 1 → unR nb m.un i) := fun h i hi => by
                  by_cases e : i = j
                  · subst e; exact h
                  · exact HGO.out i (by omega)
                have ht : 0 ≤ m.un[j] → m.un[j].tmod 4 = m.un[j] % 4 := fun h => Int.tmod_eq_emod_of_nonneg h
                by_cases hj0 : j = 0
                · have hjz : decide ((j : Int) = 0) = true := decide_eq_true (by omega)
                  have HU : Hid (unR nb m.un j ↔ m.un[j] = 0) := by
                    have : unR nb m.un j ↔ m.un[j] = 0 := by
                      unfold unR
                      rw [HG1.out]
                      exact ⟨fun h => h.2.2.2.1 hj0, fun h => ⟨by omega, by omega, by omega, fun _ => h, fun h => absurd h (by omega)⟩⟩
                    exact this
                  clear hcc HG1
                  generalize m.un[j] = x at *
                  have HJ0 := Hid.in hj0
                  have hjz' : decide (j = 0) = true := decide_eq_true hj0
                  have hjq : decide (0 < j) = false := decide_eq_false (by omega)
                  have hjb : (j == 0) = true := by simp [hj0]
                  have hjb' : ((j : Int) == 0) = true := by simp [hj0]
                  clear hj0
                  by_cases hx : x = 0
                  · have HG2 := Hid.in (HNX.out (HU.out.2 hx))
                    have q4 : decide (x < 0) = false := decide_eq_false (by omega)
                    have q5 : x.tmod 4 = 0 := by rw [hx]; rfl
                    have q6 : decide ((nb : Int) < x) = false := decide_eq_false (by omega)
                    have q7 : decide (x = 0) = true := decide_eq_true hx
                    have q8 : (x != 0) = false := by rw [hx]; rfl
                    clear HU HNO HNX ht hx
                    go_wp2_with fail
                    go_quiet (fail)
                    go_wp2
                    go_roundw
                    case rel => exact ⟨j + 1, by go_num, by omega, HG2.out, below_draws HB.out _⟩
                    case measure => simp [intOf]; omega
                  · have HF := Hid.in (HNO.out (fun h => hx (HU.out.1 h)))
                    have hxd : decide (x = 0) = false := decide_eq_false hx
                    have hxb : (x != 0) = true := bne_iff_ne.2 hx
                    have hxc : (x == 0) = false := beq_eq_false_iff_ne.2 hx
                    rcases (by omega : x < 0 ∨ (0 ≤ x ∧ x % 4 ≠ 0) ∨ (0 ≤ x ∧ x % 4 = 0 ∧ (nb : Int) < x) ∨ (0 ≤ x ∧ x % 4 = 0 ∧ x ≤ (nb : Int))) with g1 | ⟨g1, g2⟩ | ⟨g1, g2, g3⟩ | ⟨g1, g2, g3⟩
                    · have q4 : decide (x < 0) = true := decide_eq_true g1
                      clear HU HNO HNX ht hx
                      go_wp2_with fail
                      go_quiet (fail)
                      go_wp2
                      go_ret
                      exact ⟨by rw [HF.out]; rfl, below_draws (below_step HB1.out HB.out) _⟩
                    · have q4 : decide (x < 0) = false := decide_eq_false (by omega)
                      obtain ⟨t, hT⟩ : ∃ t, x % 4 = t := ⟨_, rfl⟩
                      have q5 : x.tmod 4 = t := (ht g1).trans hT
                      have t0 : ¬ t = 0 := fun h => g2 (hT.trans h)
                      have t1 : 0 ≤ t := by omega
                      have t2 : t ≤ 3 := by omega
                      have q5b : (t != 0) = true := bne_iff_ne.2 t0
                      have q5c : decide (t = 0) = false := decide_eq_false t0
                      have q5d : (t == 0) = false := beq_eq_false_iff_ne.2 t0
                      clear HU HNO HNX ht g2 t0 hT hx
                      go_wp2_with fail
                      go_quiet (fail)
                      go_wp2
                      go_ret
                      exact ⟨by rw [HF.out]; rfl, below_draws (below_step HB1.out HB.out) _⟩
                    · have q4 : decide (x < 0) = false := decide_eq_false (by omega)
                      have q5 : x.tmod 4 = 0 := (ht g1).trans g2
                      have q6 : decide ((nb : Int) < x) = true := decide_eq_true g3
                      clear HU HNO HNX ht hx
                      go_wp2_with fail
                      go_quiet (fail)
                      go_wp2
                      go_ret
                      exact ⟨by rw [HF.out]; rfl, below_draws (below_step HB1.out HB.out) _⟩
                    · have q4 : decide (x < 0) = false := decide_eq_false (by omega)
                      have q5 : x.tmod 4 = 0 := (ht g1).trans g2
                      have q6 : decide ((nb : Int) < x) = false := decide_eq_false (by omega)
                      clear HU HNO HNX ht hx
                      go_wp2_with fail
                      go_quiet (fail)
                      go_wp2
                      go_ret
                      exact ⟨by rw [HF.out]; rfl, below_draws (below_step HB1.out HB.out) _⟩
                · have hjz : decide ((j : Int) = 0) = false := decide_eq_false (by omega)
                  have hjb : (j == 0) = false := beq_eq_false_iff_ne.2 hj0
                  have hjd : decide (j = 0) = false := decide_eq_false hj0
                  have hjb' : ((j : Int) == 0) = false := beq_eq_false_iff_ne.2 (by omega)
                  have hjp : decide (0 < j) = true := decide_eq_true (by omega)
                  have hjp1 : j - 1 < m.un.length := by omega
                  have hjp2 : j - 1 < nu := by omega
                  have cp := hcc (j - 1) hjp1
                  have hwj : IntKind.i64.wrap ((j : Int) - 1) = ((j - 1 : Nat) : Int) := by rw [IntKind.wrap_i64]; omega
                  have HU : Hid (unR nb m.un j ↔ (0 ≤ m.un[j] ∧ m.un[j] % 4 = 0 ∧ m.un[j] ≤ nb ∧ m.un[j - 1] ≤ m.un[j])) := by
                    have : unR nb m.un j ↔ (0 ≤ m.un[j] ∧ m.un[j] % 4 = 0 ∧ m.un[j] ≤ nb ∧ m.un[j - 1] ≤ m.un[j]) := by
                      unfold unR
                      rw [HG1.out, getD_un hjp1]
                      exact ⟨fun h => ⟨h.1, h.2.1, h.2.2.1, h.2.2.2.2 (by omega)⟩, fun h => ⟨h.1, h.2.1, h.2.2.1, fun h => absurd h hj0, fun _ => h.2.2.2⟩⟩
                    exact this
                  clear hcc HG1
                  generalize m.un[j] = x at *
                  generalize m.un[j - 1] = y at *
                  rcases (by omega : x < 0 ∨ (0 ≤ x ∧ x % 4 ≠ 0) ∨ (0 ≤ x ∧ x % 4 = 0 ∧ (nb : Int) < x) ∨ (0 ≤ x ∧ x % 4 = 0 ∧ x ≤ (nb : Int) ∧ x < y) ∨ (0 ≤ x ∧ x % 4 = 0 ∧ x ≤ (nb : Int) ∧ y ≤ x)) with g1 | ⟨g1, g2⟩ | ⟨g1, g2, g3⟩ | ⟨g1, g2, g3, g4⟩ | ⟨g1, g2, g3, g4⟩
                  · have HF := Hid.in (HNO.out (fun h => by have := HU.out.1 h; omega))
                    have q4 : decide (x < 0) = true := decide_eq_true g1
                    clear HU HNO HNX ht
                    go_wp2_with fail
                    go_quiet (fail)
                    go_wp2
                    go_ret
                    exact ⟨by rw [HF.out]; rfl, below_draws (below_step HB1.out HB.out) _⟩
                  · have HF := Hid.in (HNO.out (fun h => by have := HU.out.1 h; omega))
                    have q4 : decide (x < 0) = false := decide_eq_false (by omega)
                    obtain ⟨t, hT⟩ : ∃ t, x % 4 = t := ⟨_, rfl⟩
                    have q5 : x.tmod 4 = t := (ht g1).trans hT
                    have t0 : ¬ t = 0 := fun h => g2 (hT.trans h)
                    have t1 : 0 ≤ t := by omega
                    have t2 : t ≤ 3 := by omega
                    have q5b : (t != 0) = true := bne_iff_ne.2 t0
                    have q5c : decide (t = 0) = false := decide_eq_false t0
                    have q5d : (t == 0) = false := beq_eq_false_iff_ne.2 t0
                    clear HU HNO HNX ht g2 t0 hT
                    go_wp2_with fail
                    go_quiet (fail)
                    go_wp2
                    go_ret
                    exact ⟨by rw [HF.out]; rfl, below_draws (below_step HB1.out HB.out) _⟩
                  · have HF := Hid.in (HNO.out (fun h => by have := HU.out.1 h; omega))
                    have q4 : decide (x < 0) = false := decide_eq_false (by omega)
                    have q5 : x.tmod 4 = 0 := (ht g1).trans g2
                    have q6 : decide ((nb : Int) < x) = true := decide_eq_true g3
                    clear HU HNO HNX ht
                    go_wp2_with fail
                    go_quiet (fail)
                    go_wp2
                    go_ret
                    exact ⟨by rw [HF.out]; rfl, below_draws (below_step HB1.out HB.out) _⟩
                  · have HF := Hid.in (HNO.out (fun h => by have := HU.out.1 h; omega))
                    have q4 : decide (x < 0) = false := decide_eq_false (by omega)
                    have q5 : x.tmod 4 = 0 := (ht g1).trans g2
                    have q6 : decide ((nb : Int) < x) = false := decide_eq_false (by omega)
                    have q7 : decide (x < y) = true := decide_eq_true g4
                    clear HU HNO HNX ht
                    have k0' := fun d os => cell_regrown k0 d os
                    have k3' := fun d os => cell_regrown k3 d os
                    have cj' := fun d os => cell_regrown cj d os
                    have cp' := fun d os => cell_regrown cp d os
                    go_wp2_with fail
                    refine wp_region_quiet_below (by kernel_rfl) (by kernel_rfl) ?_
                    iterate 56 (go_big_quiet_step (fail))
                    refine wpQuiet_nil ?_
                    intro _ hw'
                    obtain ⟨⟨dq, osq⟩, hw''⟩ := hw'
                    subst hw''
                    have HB3 := Hid.in (below_regrown wr dq osq)
                    clear k0' k3' cj' cp'
                    generalize Go.Sort.grow (redrawn wr dq) osq = w3 at *
                    go_wp2
                    go_ret
                    exact ⟨by rw [HF.out]; rfl, below_step (below_step HB1.out HB.out) HB3.out⟩
                  · have HG2 := Hid.in (HNX.out (HU.out.2 ⟨g1, g2, g3, g4⟩))
                    have q4 : decide (x < 0) = false := decide_eq_false (by omega)
                    have q5 : x.tmod 4 = 0 := (ht g1).trans g2
                    have q6 : decide ((nb : Int) < x) = false := decide_eq_false (by omega)
                    have q7 : decide (x < y) = false := decide_eq_false (by omega)
                    clear HU HNO HNX ht
                    have k0' := fun d os => cell_regrown k0 d os
                    have k3' := fun d os => cell_regrown k3 d os
                    have cj' := fun d os => cell_regrown cj d os
                    have cp' := fun d os => cell_regrown cp d os
                    go_wp2_with fail
                    refine wp_region_quiet_below (by kernel_rfl) (by kernel_rfl) ?_
                    iterate 56 (go_big_quiet_step (fail))
                    refine wpQuiet_nil ?_
                    intro _ hw'
                    obtain ⟨⟨dq, osq⟩, hw''⟩ := hw'
                    subst hw''
                    have HB3 := Hid.in (below_regrown wr dq osq)
                    clear k0' k3' cj' cp'
                    generalize Go.Sort.grow (redrawn wr dq) osq = w3 at *
                    go_wp2
                    go_roundw
                    case rel => exact ⟨j + 1, by go_num, by omega, HG2.out, below_step HB.out HB3.out⟩
                    case measure => simp [intOf]; omega
              · have HF : Hid (r = true) := HYES.out HKY.out HQY.out (HUR.out.2 fun i hi => HGO.out i (by rw [HI.out.lu] at hi; omega))
                go_wp2_with fail
                go_ret
                exact ⟨by rw [HF.out]; rfl, below_step HB1.out HB.out⟩
end Go.Proofs.Ytfhjaabbfaamjaa
