/- SyncsApart. -/
import Derived.Test.YtibbcenfkmgbcaaAwk
import Derived.Test.YtibbcenfkmgbcaaPick
import Derived.Deep.CutBlock
import Derived.Deep.DeepCutAuto
import Derived.BigQuiet
namespace Go.Proofs.Ytibbcenfkmgbcaa
open Go.RowKit

theorem pnd_at (fs : List Bool) (k : Nat) : pnd fs k = fs.getD k false := by unfold pnd; simp
theorem pnd_drp (fs : List Bool) (k a : Nat) (hk : k < fs.length) : pnd (drp fs a) k = (fs.getD k false && !decide (k = a)) := by
  unfold drp
  rw [if_pos (by omega), pnd_at]
  simp only [Int.toNat_natCast, List.getD, List.getElem?_set]
  by_cases e : a = k
  · subst e; simp [hk]
  · have e' : ¬ k = a := fun h => e h.symm
    simp [e, e']
theorem repl_ovr (n : Nat) : ovr (List.replicate n false) = true := by unfold ovr; simp

/-- the first eight: what the law's cut leaves -/
theorem BRow.eight {w : World} {p : Option Addr} {hs : List Bool} (h : BRow w p hs) : BRow w p (hs.take 8) := h.take 8

set_option maxRecDepth 8000 in
set_option maxHeartbeats 2000000 in
theorem apart_walk (p : Option Addr) (c : Nat) (rs0 : List Bool) (a b : Int) (w : World) (hc : rs0.length ≤ c) (hcm : c ≤ 9223372036854775807) (hr : BRow w p rs0) :
    Calls Try.prog 7 #[.slice p rs0.length c, .int .i64 a, .int .i64 b] w fun e w' => e = .returned (.bool true) ∧ Below w.heap.size w w' := by
  have HR : Hid (∀ W, Below w.heap.size w W → BRow W p (rs0.take 8)) := fun W hW => (hr.below hW).take 8
  have hl8 : (rs0.take 8).length ≤ 8 := by rw [List.length_take]; omega
  have HV1 : Hid (8 < rs0.length → (rs0.take 8).length = 8) := fun h => by rw [List.length_take]; omega
  have HV2 : Hid (¬ 8 < rs0.length → (rs0.take 8).length = rs0.length) := fun h => by rw [List.length_take]; omega
  have HP8 : Hid (8 < rs0.length → ∃ b0 o0, p = some ⟨b0, o0, none⟩) := fun h => by
    obtain ⟨b0, o0, e, _⟩ := hr (by omega)
    exact ⟨b0, o0, e⟩
  generalize rs0.take 8 = rs at *
  clear hr
  go_enter Try.func7, Try.ntmps7
  go_upto_if 16 with fail
  go_cut [0] (fun v wx => (∃ c', v = .slice p rs.length c') ∧ wx = w)
  case first =>
    by_cases h8 : 8 < rs0.length
    · have e := HV1.out h8
      obtain ⟨b0, o0, rfl⟩ := HP8.out h8
      have g2 : decide (8 < rs0.length) = true := decide_eq_true h8
      clear HV1 HV2 HP8 HR
      go_wp2_with fail
      go_meet
      case rel => exact ⟨⟨_, by rw [e]⟩, rfl⟩
    · have HE := Hid.in (HV2.out h8)
      have g2 : decide (8 < rs0.length) = false := decide_eq_false h8
      go_wp2_with fail
      go_meet
      case rel => exact ⟨⟨_, by rw [HE.out]⟩, rfl⟩
  case rest =>
    obtain ⟨⟨c', rfl⟩, rfl⟩ := hcut
    clear HV1 HV2 HP8
    rename World => w
    go_wp2_with (go_at_call 8; refine Hid.out ?_)
    refine Lib.hid ?_
    refine (RW.new rs.length w w hl8 (below_self w)).mono ?_
    rintro e w1 ⟨q, rfl, hq, hb1, -⟩
    have HQ := Hid.in hq
    have HL := Hid.in (HR.out w1 hb1)
    clear hq hb1
    go_wp2_with (go_at_call 9; refine Hid.out ?_)
    refine Lib.hid ?_
    refine (HQ.out.send c' p rs HL.out (by decide) (by decide) (by simp) (repl_ovr _)).mono ?_
    rintro e w2 ⟨rfl, hq⟩
    have HQ2 : Hid (RW w w2 q rs 1) := Hid.in hq
    clear hq HQ HL
    go_wp2_with (go_at_call 21; refine Hid.out ?_)
    refine Lib.hid ?_
    refine (copy_any q rs 1 w2 HQ2.out.rnd).mono ?_
    rintro e w3 ⟨rfl, hs, hb3⟩
    have HQ3 := Hid.in (HQ2.out.below hb3)
    have hqs : q ≠ w2.heap.size := by have := HQ2.out.rnd.lt; omega
    have HS3 : Hid (RW w w3 w2.heap.size rs 1) := ⟨below_step HQ2.out.bel hb3, HQ2.out.bel.size, hs⟩
    clear hs hb3 HQ2
    generalize w2.heap.size = s at *
    have h11 := number_any s _ _ _ HS3.out.rnd
    have h10 := over_any s _ _ _ HS3.out.rnd
    have h10' := over_any q _ _ _ HQ3.out.rnd
    generalize ovr rs = t at *
    go_wp2_with (go_at_call 11; refine Hid.out ?_)
    refine Lib.hid ?_
    refine h11.mono ?_
    rintro e w4 ⟨rfl, hw⟩
    rw [hw]
    clear hw
    go_wp2_with (go_at_call 10; refine Hid.out ?_)
    refine Lib.hid ?_
    refine h10.mono ?_
    rintro e w4 ⟨rfl, hw⟩
    rw [hw]
    clear hw
    go_wp2_with (go_at_call 10; refine Hid.out ?_)
    refine Lib.hid ?_
    refine h10'.mono ?_
    rintro e w4 ⟨rfl, hw⟩
    rw [hw]
    clear hw h10 h10' h11
    go_wp2_with fail
    go_loopw [12] (fun vk wr => ∃ k : Nat, vk = .int .i64 k ∧ k ≤ rs.length ∧ RW w wr q rs 1 ∧ RW w wr s rs 1) (fun vk _ => rs.length - (intOf vk).toNat)
    case atStart => exact ⟨0, rfl, Nat.zero_le _, HQ3.out, HS3.out⟩
    case round =>
      obtain ⟨k, rfl, hk, hq, hs⟩ := hrel
      clear HQ3 HS3
      have HQ := Hid.in hq
      have HS := Hid.in hs
      clear hq hs
      by_cases hkl : k < rs.length
      · have hdk : decide ((k : Int) < (rs.length : Int)) = true := decide_eq_true (by omega)
        obtain ⟨b0, o0, rfl, hcell⟩ := HR.out wr HQ.out.bel (by omega)
        have ck := hcell k hkl
        have hs12 := fun d : Nat => pending_any s _ _ k (wr.drewN d) (HS.out.rnd.drewN d)
        have hq12 := fun d : Nat => pending_any q _ _ k (wr.drewN d) (HQ.out.rnd.drewN d)
        simp only [pnd_at] at hs12 hq12
        generalize rs.getD k false = t at *
        clear hcell
        have h12 : ∀ (z : Nat) (u : Bool) (d : Nat), (z = s ∧ u = t) ∨ (z = q ∧ u = t) → Calls Try.prog 12 #[.pointer (some ⟨z, 0, none⟩), .int .i64 k] (wr.drewN d) fun e w' => e = .returned (.bool u) ∧ w' = wr.drewN d := by
          rintro z u d (⟨rfl, rfl⟩ | ⟨rfl, rfl⟩)
          · exact hs12 d
          · exact hq12 d
        clear hs12 hq12
        cases t
        all_goals
          go_upto_region 11 with fail
          go_quiet ((go_at_call 12; exact Calls.quiet_of_same (h12 _ _ _ (by first | exact .inl ⟨rfl, rfl⟩ | exact .inr ⟨rfl, rfl⟩))))
          go_wp2_with fail
          go_roundw
          case rel => exact ⟨k + 1, by go_num, by omega, ⟨below_draws HQ.out.bel _, HQ.out.ge, HQ.out.rnd.drewN _⟩, ⟨below_draws HS.out.bel _, HS.out.ge, HS.out.rnd.drewN _⟩⟩
          case measure => simp [intOf]; omega
      · have hdk : decide ((k : Int) < (rs.length : Int)) = false := decide_eq_false (by omega)
        go_wp2_with (go_at_call 23; refine Hid.out ?_)
        refine Lib.hid ?_
        refine (pick_any a 8 (by decide) (by decide) wr).mono ?_
        rintro e w4 ⟨⟨a', ha', rfl⟩, hw⟩
        rw [hw]
        clear hw
        go_wp2_with (go_at_call 23; refine Hid.out ?_)
        refine Lib.hid ?_
        refine (pick_any b 8 (by decide) (by decide) wr).mono ?_
        rintro e w4 ⟨⟨b', hb', rfl⟩, hw⟩
        rw [hw]
        clear hw
        go_wp2_with (go_at_call 20; refine Hid.out ?_)
        refine Lib.hid ?_
        refine (drop_any q rs 1 a' wr HQ.out.rnd).mono ?_
        rintro e w5 ⟨rfl, hq5, hg5⟩
        have HQ5 := Hid.in hq5
        have HS5 : Hid (RW w w5 s rs 1) := ⟨below_kept HQ.out.bel hg5 HQ.out.ge, HS.out.ge, HS.out.rnd.kept hg5 (Ne.symm hqs)⟩
        have HGE := Hid.in HQ.out.ge
        clear hq5 hg5 HQ HS
        go_wp2_with (go_at_call 13; refine Hid.out ?_)
        refine Lib.hid ?_
        refine (take_any s rs 1 b' w5 HS5.out.rnd).mono ?_
        rintro e w6 ⟨rfl, hs6, hg6⟩
        have HS6 : Hid (RW w w6 s (drp rs b') 1) := ⟨below_kept HS5.out.bel hg6 HS5.out.ge, HS5.out.ge, hs6⟩
        have HQ6 : Hid (RW w w6 q (drp rs a') 1) := ⟨below_kept HS5.out.bel hg6 HS5.out.ge, HGE.out, HQ5.out.kept hg6 hqs⟩
        clear hs6 hg6 HS5 HQ5 HGE
        generalize pnd rs a' = t1 at *
        generalize pnd rs b' = t2 at *
        generalize tkN rs 1 b' = t3 at *
        go_wp2_with fail
        go_loopw [13] (fun vk wr => ∃ k : Nat, vk = .int .i64 k ∧ k ≤ rs.length ∧ RW w wr q (drp rs a') 1 ∧ RW w wr s (drp rs b') 1) (fun vk _ => rs.length - (intOf vk).toNat)
        case atStart => exact ⟨0, rfl, Nat.zero_le _, HQ6.out, HS6.out⟩
        case round =>
          obtain ⟨k, rfl, hk, hq, hs⟩ := hrel
          clear HQ6 HS6
          have HQ := Hid.in hq
          have HS := Hid.in hs
          clear hq hs
          by_cases hkl : k < rs.length
          · have hdk : decide ((k : Int) < (rs.length : Int)) = true := decide_eq_true (by omega)
            obtain ⟨b0, o0, rfl, hcell⟩ := HR.out wr HQ.out.bel (by omega)
            have ck := hcell k hkl
            have hs12 := fun d : Nat => pending_any s _ _ k (wr.drewN d) (HS.out.rnd.drewN d)
            have hq12 := fun d : Nat => pending_any q _ _ k (wr.drewN d) (HQ.out.rnd.drewN d)
            simp only [pnd_drp _ _ _ hkl] at hs12 hq12
            generalize rs.getD k false = t at *
            clear hcell
            have haa : ((k : Int) != (a' : Int)) = !decide (k = a') := by
              by_cases e : k = a'
              · subst e; simp
              · have : ¬ (k : Int) = a' := by omega
                simp [e, this]
            have hbb : ((k : Int) != (b' : Int)) = !decide (k = b') := by
              by_cases e : k = b'
              · subst e; simp
              · have : ¬ (k : Int) = b' := by omega
                simp [e, this]
            generalize decide (k = a') = ta at *
            generalize decide (k = b') = tb at *
            have h12 : ∀ (z : Nat) (u : Bool) (d : Nat), (z = s ∧ u = (t && !tb)) ∨ (z = q ∧ u = (t && !ta)) → Calls Try.prog 12 #[.pointer (some ⟨z, 0, none⟩), .int .i64 k] (wr.drewN d) fun e w' => e = .returned (.bool u) ∧ w' = wr.drewN d := by
              rintro z u d (⟨rfl, rfl⟩ | ⟨rfl, rfl⟩)
              · exact hs12 d
              · exact hq12 d
            clear hs12 hq12
            cases t <;> cases ta <;> cases tb
            all_goals
              go_upto_region 19 with fail
              go_quiet ((go_at_call 12; exact Calls.quiet_of_same (h12 _ _ _ (by first | exact .inl ⟨rfl, rfl⟩ | exact .inr ⟨rfl, rfl⟩))))
              go_wp2_with fail
              go_roundw
              case rel => exact ⟨k + 1, by go_num, by omega, ⟨below_draws HQ.out.bel _, HQ.out.ge, HQ.out.rnd.drewN _⟩, ⟨below_draws HS.out.bel _, HS.out.ge, HS.out.rnd.drewN _⟩⟩
              case measure => simp [intOf]; omega
          · have hdk : decide ((k : Int) < (rs.length : Int)) = false := decide_eq_false (by omega)
            go_wp2_with (go_at_call 14; refine Hid.out ?_)
            refine Lib.hid ?_
            refine (awake_any _).mono ?_
            rintro e wa ⟨rfl, hba⟩
            have HBa := Hid.in (below_step HS.out.bel hba)
            clear hba
            go_wp2_with fail
            go_ret
            exact ⟨rfl, HBa.out⟩

end Go.Proofs.Ytibbcenfkmgbcaa
