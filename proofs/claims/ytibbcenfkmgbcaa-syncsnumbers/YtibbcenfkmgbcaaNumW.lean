/- SyncsNumbers. -/
import Derived.Test.YtibbcenfkmgbcaaAwk
import Derived.Test.YtibbcenfkmgbcaaMkB
namespace Go.Proofs.Ytibbcenfkmgbcaa
open Go.RowKit

/-- eight harts, the first k of which have taken it -/
def frs (k : Nat) : List Bool := List.replicate k false ++ List.replicate (8 - k) true
theorem frs_all : ∀ k < 8, pnd (frs k) k = true ∧ drp (frs k) k = frs (k + 1) ∧ pnd (frs (k + 1)) k = false ∧ drp (frs (k + 1)) k = frs (k + 1) ∧ ovr (frs (k + 1)) = decide (k = 7) := by decide

theorem BRow.made (w : World) (hs : List Bool) (c : Array Value) (h : c = (flgs hs).toArray) : BRow (w.alloc (.cells c 4)) (some ⟨w.heap.size, 0, none⟩) hs := by subst h; exact flags_new w hs

set_option maxRecDepth 100000 in
set_option maxHeartbeats 2000000 in
theorem numbers_walk (w : World) : Calls Try.prog 3 #[] w fun e w' => e = .returned (.bool true) ∧ Below w.heap.size w w' := by
  go_enter Try.func3, Try.ntmps3
  go_wp2_with fail
  have HB := Hid.in (new_alloc w (.cells #[.int .i64 (-1), .int .i64 9, .int .i64 9223372036854775807, .int .i64 (-9223372036854775808)] 3))
  have d0 := (Blk.new w 3 #[.int .i64 (-1), .int .i64 9, .int .i64 9223372036854775807, .int .i64 (-9223372036854775808)]).cell 0
  have d1 := (Blk.new w 3 #[.int .i64 (-1), .int .i64 9, .int .i64 9223372036854775807, .int .i64 (-9223372036854775808)]).cell 1
  have d2 := (Blk.new w 3 #[.int .i64 (-1), .int .i64 9, .int .i64 9223372036854775807, .int .i64 (-9223372036854775808)]).cell 2
  have d3 := (Blk.new w 3 #[.int .i64 (-1), .int .i64 9, .int .i64 9223372036854775807, .int .i64 (-9223372036854775808)]).cell 3
  generalize w.alloc (.cells #[.int .i64 (-1), .int .i64 9, .int .i64 9223372036854775807, .int .i64 (-9223372036854775808)] 3) = W at *
  go_loop [27] (fun vi => vi = .int .i64 0 ∨ vi = .int .i64 1 ∨ vi = .int .i64 2 ∨ vi = .int .i64 3 ∨ vi = .int .i64 4) (fun vi => 4 - (intOf vi).toNat)
  case atStart => exact .inl rfl
  case round =>
    rcases hrel with rfl | rfl | rfl | rfl | rfl
    · go_wp2_with (go_at_call 8; refine Hid.out ?_)
      refine Lib.hid ?_
      refine (new_bad (-1) _ (by decide)).mono ?_
      rintro e w4 ⟨rfl, hw⟩
      rw [hw]
      clear hw
      go_wp2_with fail
      go_round
      case rel => exact .inr (.inl rfl)
      case measure => simp [intOf]
    · go_wp2_with (go_at_call 8; refine Hid.out ?_)
      refine Lib.hid ?_
      refine (new_bad (9) _ (by decide)).mono ?_
      rintro e w4 ⟨rfl, hw⟩
      rw [hw]
      clear hw
      go_wp2_with fail
      go_round
      case rel => exact .inr (.inr (.inl rfl))
      case measure => simp [intOf]
    · go_wp2_with (go_at_call 8; refine Hid.out ?_)
      refine Lib.hid ?_
      refine (new_bad (9223372036854775807) _ (by decide)).mono ?_
      rintro e w4 ⟨rfl, hw⟩
      rw [hw]
      clear hw
      go_wp2_with fail
      go_round
      case rel => exact .inr (.inr (.inr (.inl rfl)))
      case measure => simp [intOf]
    · go_wp2_with (go_at_call 8; refine Hid.out ?_)
      refine Lib.hid ?_
      refine (new_bad (-9223372036854775808) _ (by decide)).mono ?_
      rintro e w4 ⟨rfl, hw⟩
      rw [hw]
      clear hw
      go_wp2_with fail
      go_round
      case rel => exact .inr (.inr (.inr (.inr rfl)))
      case measure => simp [intOf]
    · clear d0 d1 d2 d3
      go_wp2_with (go_at_call 8; refine Hid.out ?_)
      refine Lib.hid ?_
      refine (RW.new 0 w W (by decide) HB.out).mono ?_
      rintro e w4 ⟨r, rfl, hr, -, -⟩
      have HR := Hid.in hr
      clear hr HB
      go_wp2_with (go_at_call 9; refine Hid.out ?_)
      refine Lib.hid ?_
      refine (HR.out.send 0 none [] (BRow.nil _ _) (by decide) (by decide) rfl rfl).mono ?_
      rintro e w4 ⟨rfl, hr⟩
      have HR1 : Hid (RW w w4 r [] 1) := Hid.in hr
      clear hr HR
      generalize w4 = w1 at *
      go_wp2_with (go_at_call 8; refine Hid.out ?_)
      refine Lib.hid ?_
      refine (RW.new 8 w _ (by decide) HR1.out.bel).mono ?_
      rintro e w4 ⟨s, rfl, hs, hb, hge⟩
      have HS := Hid.in hs
      have HR := Hid.in (HR1.out.below hb)
      have hrs : r ≠ s := by have := HR1.out.rnd.lt; omega
      clear hs HR1 hge hb
      generalize w4 = w2 at *
      go_wp2_with (go_at_call 9; refine Hid.out ?_)
      refine Lib.hid ?_
      have HS3 := Hid.in (HS.out.below (new_alloc w2 (.cells #[.bool true, .bool true, .bool true, .bool true, .bool true, .bool true, .bool true, .bool true] 4)))
      have HR3 := Hid.in (HR.out.below (new_alloc w2 (.cells #[.bool true, .bool true, .bool true, .bool true, .bool true, .bool true, .bool true, .bool true] 4)))
      have HL3 := Hid.in (BRow.made w2 (frs 0) #[.bool true, .bool true, .bool true, .bool true, .bool true, .bool true, .bool true, .bool true] rfl)
      generalize w2.alloc (.cells #[.bool true, .bool true, .bool true, .bool true, .bool true, .bool true, .bool true, .bool true] 4) = w3 at *
      generalize w2.heap.size = la at *
      clear HS HR
      refine (send_ok s 8 _ _ (frs 0) 0 w3 HS3.out.rnd HL3.out (by decide) (by decide) rfl rfl).mono ?_
      rintro e w4 ⟨rfl, hs4, hg4⟩
      have HB4 := Hid.in (below_kept HS3.out.bel hg4 HS3.out.ge)
      have HR4 := Hid.in (HR3.out.rnd.kept hg4 hrs)
      have HS4 : Hid (RW w w4 s (frs 0) 1) := ⟨HB4.out, HS3.out.ge, hs4⟩
      clear hs4 hg4 HS3 HR3 HL3 HB4
      generalize w4 = w5 at *
      go_wp2_with (go_at_call 9; refine Hid.out ?_)
      refine Lib.hid ?_
      refine (send_bad s 8 _ _ (frs 0) 1 _ HS4.out.rnd (.inr rfl)).mono ?_
      rintro e w4 ⟨rfl, hw⟩
      rw [hw]
      clear hw
      have ho := over_any r _ _ _ HR4.out
      rw [show ovr [] = true from rfl] at ho
      have hp7 := pending_any s _ _ 7 _ HS4.out.rnd
      rw [show pnd (frs 0) 7 = true from rfl] at hp7
      have hp8 := pending_any s _ _ 8 _ HS4.out.rnd
      rw [show pnd (frs 0) 8 = false from rfl] at hp8
      have hp9 := pending_any s _ _ (-1) _ HS4.out.rnd
      rw [show pnd (frs 0) (-1) = false from rfl] at hp9
      go_wp2_with (go_at_call 10; refine Hid.out ?_)
      refine Lib.hid ?_
      refine (ho).mono ?_
      rintro e w4 ⟨rfl, hw⟩
      rw [hw]
      clear hw
      go_wp2_with (go_at_call 11; refine Hid.out ?_)
      refine Lib.hid ?_
      refine (number_any s _ _ _ HS4.out.rnd).mono ?_
      rintro e w4 ⟨rfl, hw⟩
      rw [hw]
      clear hw
      go_wp2_with (go_at_call 12; refine Hid.out ?_)
      refine Lib.hid ?_
      refine (hp7).mono ?_
      rintro e w4 ⟨rfl, hw⟩
      rw [hw]
      clear hw
      go_wp2_with (go_at_call 12; refine Hid.out ?_)
      refine Lib.hid ?_
      refine (hp8).mono ?_
      rintro e w4 ⟨rfl, hw⟩
      rw [hw]
      clear hw
      go_wp2_with (go_at_call 12; refine Hid.out ?_)
      refine Lib.hid ?_
      refine (hp9).mono ?_
      rintro e w4 ⟨rfl, hw⟩
      rw [hw]
      clear hw
      clear ho hp7 hp8 hp9 HR4
      go_wp2_with fail
      go_loopw [16] (fun vk wr => ∃ k : Nat, vk = .int .i64 k ∧ k ≤ 8 ∧ RW w wr s (frs k) 1) (fun vk _ => 8 - (intOf vk).toNat)
      case atStart => exact ⟨0, rfl, by decide, HS4.out⟩
      case round =>
        obtain ⟨k, rfl, hk, hs⟩ := hrel
        clear HS4
        have HS := Hid.in hs
        clear hs
        by_cases hk8 : k < 8
        · have hdk : decide ((k : Int) < 8) = true := decide_eq_true (by omega)
          obtain ⟨f1, f2, f3, f4, f5⟩ := frs_all k hk8
          have hd7 : decide (k = 7) = decide ((k : Int) = 7) := by
            rw [decide_eq_decide]; omega
          rw [hd7] at f5
          clear hd7
          have h13 := HS.out.take k
          unfold tkN at h13
          rw [f1, f2] at h13
          go_wp2_with (go_at_call 13; refine Hid.out ?_)
          refine Lib.hid ?_
          refine h13.mono ?_
          rintro e w6 ⟨rfl, hs6⟩
          have HS6 := Hid.in hs6
          clear hs6 HS h13
          have h13 := HS6.out.take k
          unfold tkN at h13
          rw [f3, f4] at h13
          go_wp2_with (go_at_call 13; refine Hid.out ?_)
          refine Lib.hid ?_
          refine h13.mono ?_
          rintro e w7 ⟨rfl, hs7⟩
          have HS7 := Hid.in hs7
          clear hs7 HS6 h13
          have h10 := over_any s _ _ _ HS7.out.rnd
          rw [f5] at h10
          clear f1 f2 f3 f4 f5
          by_cases hk7 : k = 7
          · subst hk7
            go_wp2_with (go_at_call 10; refine Hid.out ?_)
            refine Lib.hid ?_
            refine h10.mono ?_
            rintro e w8 ⟨rfl, hw⟩
            rw [hw]
            clear hw
            go_wp2_with fail
            go_roundw
            case rel => exact ⟨8, rfl, by decide, HS7.out⟩
            case measure => simp [intOf]
          · have h7 : decide ((k : Int) = 7) = false := decide_eq_false (by omega)
            have h7' : ¬ (k : Int) = 7 := by omega
            rw [h7] at h10
            go_wp2_with (go_at_call 10; refine Hid.out ?_)
            refine Lib.hid ?_
            refine h10.mono ?_
            rintro e w8 ⟨rfl, hw⟩
            rw [hw]
            clear hw
            go_wp2_with fail
            go_roundw
            case rel => exact ⟨k + 1, by go_num, by omega, HS7.out⟩
            case measure => simp [intOf]; omega
        · obtain rfl : k = 8 := by omega
          go_wp2_with (at_make; refine Hid.out ?_)
          refine Lib.hid ?_
          refine wp_makeB rfl _ _ rfl 8 8 8 rfl rfl rfl rfl (by decide) ?_
          intro w5 HO5 HB5
          have HS5 := Hid.in (HS.out.below HB5.out)
          have HL5 := Hid.in HO5.out.browB
          clear HS HB5 HO5
          generalize wr.heap.size = ga at *
          go_wp2_with (go_at_call 9; refine Hid.out ?_)
          refine Lib.hid ?_
          refine (HS5.out.send 8 _ (List.replicate 8 false) HL5.out (by decide) (by decide) rfl rfl).mono ?_
          rintro e w6 ⟨rfl, hs6⟩
          have HS6 : Hid (RW w w6 s (List.replicate 8 false) 2) := Hid.in hs6
          clear hs6 HS5 HL5
          go_wp2_with (at_make; refine Hid.out ?_)
          refine Lib.hid ?_
          refine wp_makeB rfl _ _ rfl 7 7 7 rfl rfl rfl rfl (by decide) ?_
          intro w7 HO7 HB7
          have HS7 := Hid.in (HS6.out.below HB7.out)
          clear HS6 HB7 HO7
          generalize w6.heap.size = gb at *
          go_wp2_with (go_at_call 9; refine Hid.out ?_)
          refine Lib.hid ?_
          refine (send_bad s 7 _ _ (List.replicate 7 false) 2 _ HS7.out.rnd (.inl (by decide))).mono ?_
          rintro e w8 ⟨rfl, hw⟩
          rw [hw]
          clear hw
          have h10 := over_any s _ _ _ HS7.out.rnd
          rw [show ovr (List.replicate 8 false) = true from rfl] at h10
          go_wp2_with (go_at_call 10; refine Hid.out ?_)
          refine Lib.hid ?_
          refine h10.mono ?_
          rintro e w9 ⟨rfl, hw⟩
          rw [hw]
          clear hw
          go_wp2_with (go_at_call 14; refine Hid.out ?_)
          refine Lib.hid ?_
          refine (awake_any _).mono ?_
          rintro e wa ⟨rfl, hba⟩
          have HBa := Hid.in (below_step HS7.out.bel hba)
          clear hba
          go_wp2_with fail
          go_ret
          exact ⟨rfl, HBa.out⟩

end Go.Proofs.Ytibbcenfkmgbcaa
