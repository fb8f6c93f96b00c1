/- The three walks. -/
import Derived.Test.YtddoakipndkhiaaTrpC
namespace Go.Proofs.Ytddoakipndkhiaa
open Go.RowKit

set_option maxRecDepth 20000 in
set_option maxHeartbeats 2000000 in
theorem effects_walk (k a t : Int) (up : Bool) (w : World) : Calls Try.prog 4 #[.agg #[.int .i64 k, .int .i64 a, .int .i64 t], .bool up] w fun e w' => e = .returned (.bool true) ∧ Below w.heap.size w w' := by
  go_enter Try.func4, Try.ntmps4
  go_upto_region 1 with fail
  have HW0 : Hid (Below w.heap.size w (w.alloc (.cells #[.int .i64 k, .int .i64 a, .int .i64 t] 35))) := new_alloc w _
  have HA0 : Hid (Blk (w.alloc (.cells #[.int .i64 k, .int .i64 a, .int .i64 t] 35)) w.heap.size 35 #[.int .i64 k, .int .i64 a, .int .i64 t]) := Blk.new w 35 _
  generalize w.alloc (.cells #[.int .i64 k, .int .i64 a, .int .i64 t] 35) = w0 at *
  have a0 : w0.cell? ⟨w.heap.size, 0, none⟩ = some (.int .i64 k) := HA0.out.cell 0
  have a1 : w0.cell? ⟨w.heap.size, 1, none⟩ = some (.int .i64 a) := HA0.out.cell 1
  have a2 : w0.cell? ⟨w.heap.size, 2, none⟩ = some (.int .i64 t) := HA0.out.cell 2
  have HK : Hid (∀ W W', Below w.heap.size w W → Blk W w.heap.size 35 #[.int .i64 k, .int .i64 a, .int .i64 t] → Below W.heap.size W W' → Below w.heap.size w W' ∧ Blk W' w.heap.size 35 #[.int .i64 k, .int .i64 a, .int .i64 t] ∧ W'.cell? ⟨w.heap.size, 0, none⟩ = some (.int .i64 k) ∧ W'.cell? ⟨w.heap.size, 1, none⟩ = some (.int .i64 a) ∧ W'.cell? ⟨w.heap.size, 2, none⟩ = some (.int .i64 t)) := fun W W' h1 h2 h3 => ⟨below_step h1 h3, h2.grow h3, (h2.grow h3).cell 0, (h2.grow h3).cell 1, (h2.grow h3).cell 2⟩
  obtain ⟨E1, hE1⟩ : ∃ E1, effT ⟨k, a, t⟩ up = E1 := ⟨_, rfl⟩
  obtain ⟨E2, hE2⟩ : ∃ E2, effT ⟨k, a, t⟩ (!up) = E2 := ⟨_, rfl⟩
  have H12 := Hid.in (fun W => hE1 ▸ effect_any ⟨k, a, t⟩ up W)
  have H13 := Hid.in (fun W => hE1 ▸ refEffect_any ⟨k, a, t⟩ up W)
  have H14 := Hid.in (fun W => hE2 ▸ old_any ⟨k, a, t⟩ up W)
  have H15 := Hid.in (fun W => hE2 ▸ refEffect_any ⟨k, a, t⟩ (!up) W)
  clear hE1 hE2
  go_region_held3 (fun W => W.cell? ⟨w.heap.size, 0, none⟩ = some (.int .i64 k) ∧ W.cell? ⟨w.heap.size, 1, none⟩ = some (.int .i64 a) ∧ W.cell? ⟨w.heap.size, 2, none⟩ = some (.int .i64 t)) (first | go_keep | exact hk1 | exact hk2 | exact hk3 | exact hk4 | exact hk5)
    (first
      | (go_at_call 12; (with_reducible refine (H12.out _).mono ?_); rintro E w1 ⟨rfl, hb1⟩; obtain ⟨hw1, ha1, hk1⟩ := HK.out _ _ (below_draws HW0.out 1) (HA0.out.grow (below_draws (below_self w0) 1)) hb1; have HW1 := Hid.in hw1; have HA1 := Hid.in ha1; clear hb1 hw1 ha1)
      | (go_at_call 14; (with_reducible refine (H14.out _).mono ?_); rintro E w3 ⟨rfl, hb3⟩; obtain ⟨hw3, ha3, hk3⟩ := HK.out _ _ HW2.out HA2.out hb3; have HW3 := Hid.in hw3; have HA3 := Hid.in ha3; clear hb3 hw3 ha3)
      | (go_at_call 11; (with_reducible refine (awake_any _).mono ?_); rintro E w5 ⟨rfl, hb5⟩; obtain ⟨hw5, ha5, hk5⟩ := HK.out _ _ HW4.out HA4.out hb5; have HW5 := Hid.in hw5; clear hb5 hw5 ha5)
      | (go_at_call 13; (with_reducible refine (H15.out _).mono ?_); rintro E w4 ⟨rfl, hb4⟩; obtain ⟨hw4, ha4, hk4⟩ := HK.out _ _ HW3.out HA3.out hb4; have HW4 := Hid.in hw4; have HA4 := Hid.in ha4; clear hb4 hw4 ha4)
      | (go_at_call 13; (with_reducible refine (H13.out _).mono ?_); rintro E w2 ⟨rfl, hb2⟩; obtain ⟨hw2, ha2, hk2⟩ := HK.out _ _ HW1.out HA1.out hb2; have HW2 := Hid.in hw2; have HA2 := Hid.in ha2; clear hb2 hw2 ha2))
  go_wp2_with fail
  go_ret
  exact ⟨rfl, HW5.out⟩

set_option maxRecDepth 20000 in
set_option maxHeartbeats 2000000 in
theorem next_walk (p : Option Addr) (n e : Nat) (X : List PtD) (a : Int) (w : World) (hX : X.length = n) (hm : n ≤ 9223372036854775807) (hs : Pts w p X) (ha : 0 ≤ a) (ha2 : a < 4294967296) :
    Calls Try.prog 3 #[.slice p n e, .int .u32 a] w fun E w' => E = .returned (.bool true) ∧ Below w.heap.size w w' := by
  have HM := Hid.in (made_any p n e X w hX hm hs)
  have HA := Hid.in (And.intro ha ha2)
  clear hX hs hm ha ha2
  go_enter Try.func3, Try.ntmps3
  go_wp2_with (go_at_call 6; refine Hid.out ?_)
  refine Lib.hid ?_
  refine HM.out.mono ?_
  rintro E w1 ⟨L, rfl, hb1, hl1, -⟩
  have HB1 := Hid.in hb1
  have HL1 := Hid.in hl1
  clear hb1 hl1 HM
  go_wp2_with (go_at_call 7; refine Hid.out ?_)
  refine Lib.hid ?_
  refine (all_any _ _ w1 HB1.out).mono ?_
  rintro E w2 ⟨v, rfl, ht, hb⟩
  have HB2 := Hid.in (HB1.out.below hb)
  have HL2 := Hid.in (below_step HL1.out hb)
  obtain ⟨p7, c7, hv, -, -, hr⟩ := ht.row3
  rw [List.length_map] at hv
  subst hv
  have HR2 := Hid.in hr
  have HLe := Hid.in hb
  clear hr ht hb HB1 HL1 HLe
  obtain ⟨m, hm⟩ : ∃ m, L.length = m := ⟨_, rfl⟩
  rw [hm]
  have HMm := Hid.in hm
  clear hm
  go_wp2_with (go_at_call 8; refine Hid.out ?_)
  refine Lib.hid ?_
  refine (next_any _ _ a w2 HA.out.1 HA.out.2 HB2.out).mono ?_
  rintro E w3 ⟨rfl, hb⟩
  have HB3 := Hid.in (HB2.out.below hb)
  have HL3 := Hid.in (below_step HL2.out hb)
  have HR3 := Hid.in (HR2.out.below hb)
  clear hb HB2 HL2 HR2
  have HN := Hid.in (refNext_any p7 m c7 L a w3 HMm.out (by have := HB3.out.le; have := HMm.out; omega) HA.out.1 HA.out.2 (fun j h => ⟨HB3.out.srt.lo j h, HB3.out.srt.hi j h⟩) HR3.out)
  generalize nxtV L a = NV at *
  generalize nxtB L a = NB at *
  go_wp2_with (go_at_call 9; refine Hid.out ?_)
  refine Lib.hid ?_
  refine HN.out.mono ?_
  rintro E w4 ⟨rfl, hb⟩
  have HB4 := Hid.in (HB3.out.below hb)
  have HL4 := Hid.in (below_step HL3.out hb)
  have HR4 := Hid.in (HR3.out.below hb)
  clear hb HB3 HL3 HR3 HN
  go_wp2_with (go_at_call 7; refine Hid.out ?_)
  refine Lib.hid ?_
  refine (all_any _ _ w4 HB4.out).mono ?_
  rintro E w5 ⟨v, rfl, ht, hb⟩
  have HB5 := Hid.in (HB4.out.below hb)
  have HL5 := Hid.in (below_step HL4.out hb)
  have HR5 := Hid.in (HR4.out.below hb)
  obtain ⟨p8, c8, hv, -, -, hr⟩ := ht.row3
  rw [List.length_map, HMm.out] at hv
  subst hv
  have HS := Hid.in (sameSites_any p8 p7 m c8 m c7 L L w5 HMm.out HMm.out (by have := HB5.out.le; have := HMm.out; omega) (by have := HB5.out.le; have := HMm.out; omega) hr HR5.out)
  clear hr ht hb HB4 HL4 HR4
  go_wp2_with (go_at_call 10; refine Hid.out ?_)
  refine Lib.hid ?_
  refine HS.out.mono ?_
  rintro E w6 ⟨⟨b, rfl, hb⟩, z, hw⟩
  obtain rfl : b = true := hb.2 trivial
  have HL6 : Hid (Below w.heap.size w w6) := by rw [hw]; exact below_draws HL5.out _
  clear hw hb HS HB5 HL5 HR5
  go_wp2_with (go_at_call 11; refine Hid.out ?_)
  refine Lib.hid ?_
  refine (awake_any _).mono ?_
  rintro E w7 ⟨rfl, hb⟩
  have HL7 := Hid.in (below_step HL6.out hb)
  clear hb
  go_wp2_with fail
  go_ret
  exact ⟨rfl, HL7.out⟩
end Go.Proofs.Ytddoakipndkhiaa
