/- What the law OctetsTells answers: true, for every slice of at most 2^46 bytes, every place, every number. -/
import Derived.Test.YtmhdiicljnjmcaaRefHex
namespace Go.Proofs.Ytmhdiicljnjmcaa
open Go.RowKit

def fit (xs : List Int) (a : Int) (k : Nat) : Bool := decide (0 ≤ a ∧ a + k ≤ xs.length)
def v2 (xs : List Int) (a : Int) : Int := if fit xs a 2 = true then n2 xs a.toNat else 0
def v4 (xs : List Int) (a : Int) : Int := if fit xs a 4 = true then n4 xs a.toNat else 0
def putW (xs : List Int) (a v : Int) : List Int := if fit xs a 4 = true then putL xs a.toNat v else []
def putE (xs : List Int) (a : Int) : Int := if fit xs a 4 = true then 0 else 2
theorem fit_iff {xs : List Int} {a : Int} {k : Nat} : fit xs a k = true ↔ 0 ≤ a ∧ a + k ≤ xs.length := by simp [fit]
theorem v2_bd {xs : List Int} (h : Byt xs) (a : Int) : 0 ≤ v2 xs a ∧ v2 xs a ≤ 65535 := by
  unfold v2; split
  · exact n2_bd h _
  · omega
theorem v4_bd {xs : List Int} (h : Byt xs) (a : Int) : 0 ≤ v4 xs a ∧ v4 xs a ≤ 4294967295 := by
  unfold v4; split
  · exact n4_bd h _
  · omega

theorem u16_all (p : Option Addr) (n c : Nat) (a : Int) (xs : List Int) (w : World) (hx : xs.length = n) (hn : n ≤ 140737488355328) (hr : Row w p xs) (hb : Byt xs) : Calls Try.prog 9 #[.slice p n c, .int .i64 a] w fun e w' => e = .returned (.tuple #[.int .u16 (v2 xs a), .bool (fit xs a 2)]) ∧ w' = w := by
  by_cases h : fit xs a 2 = true
  · rw [v2, if_pos h, h]
    rw [fit_iff] at h
    exact u16_yes p n c a xs w hx (by omega) hr hb h.1 (by omega)
  · rw [v2, if_neg h, eq_false_of_ne_true h]
    rw [fit_iff] at h
    exact u16_no p n c a w (by omega) (by omega)
theorem u32_all (p : Option Addr) (n c : Nat) (a : Int) (xs : List Int) (w : World) (hx : xs.length = n) (hn : n ≤ 140737488355328) (hr : Row w p xs) (hb : Byt xs) : Calls Try.prog 11 #[.slice p n c, .int .i64 a] w fun e w' => e = .returned (.tuple #[.int .u32 (v4 xs a), .bool (fit xs a 4)]) ∧ w' = w := by
  by_cases h : fit xs a 4 = true
  · rw [v4, if_pos h, h]
    rw [fit_iff] at h
    exact u32_yes p n c a xs w hx (by omega) hr hb h.1 (by omega)
  · rw [v4, if_neg h, eq_false_of_ne_true h]
    rw [fit_iff] at h
    exact u32_no p n c a w (by omega) (by omega)
theorem i32_all (p : Option Addr) (n c : Nat) (a : Int) (xs : List Int) (w : World) (hx : xs.length = n) (hn : n ≤ 140737488355328) (hr : Row w p xs) (hb : Byt xs) : Calls Try.prog 10 #[.slice p n c, .int .i64 a] w fun e w' => e = .returned (.tuple #[.int .i32 (wrap32 (v4 xs a)), .bool (fit xs a 4)]) ∧ w' = w := by
  by_cases h : fit xs a 4 = true
  · rw [v4, if_pos h, h]
    rw [fit_iff] at h
    exact i32_yes p n c a xs w hx (by omega) hr hb h.1 (by omega)
  · rw [v4, if_neg h, eq_false_of_ne_true h, show wrap32 0 = 0 from by unfold wrap32; decide]
    rw [fit_iff] at h
    exact i32_no p n c a w (by omega) (by omega)
theorem refNumber2_all (p : Option Addr) (n c : Nat) (a : Int) (xs : List Int) (w : World) (hx : xs.length = n) (hn : n ≤ 140737488355328) (hr : Row w p xs) (hb : Byt xs) : Calls Try.prog 17 #[.slice p n c, .int .i64 a, .int .i64 2] w fun e w' => e = .returned (.tuple #[.int .u32 (v2 xs a), .bool (fit xs a 2)]) ∧ w' = w := by
  by_cases h : fit xs a 2 = true
  · rw [v2, if_pos h, h]
    rw [fit_iff] at h
    exact refNumber2_yes p n c a xs w hx (by omega) hr hb h.1 (by omega)
  · rw [v2, if_neg h, eq_false_of_ne_true h]
    rw [fit_iff] at h
    exact refNumber_no p n c a 2 w (by omega) (by decide) (by decide) (by omega)
theorem refNumber4_all (p : Option Addr) (n c : Nat) (a : Int) (xs : List Int) (w : World) (hx : xs.length = n) (hn : n ≤ 140737488355328) (hr : Row w p xs) (hb : Byt xs) : Calls Try.prog 17 #[.slice p n c, .int .i64 a, .int .i64 4] w fun e w' => e = .returned (.tuple #[.int .u32 (v4 xs a), .bool (fit xs a 4)]) ∧ w' = w := by
  by_cases h : fit xs a 4 = true
  · rw [v4, if_pos h, h]
    rw [fit_iff] at h
    exact refNumber4_yes p n c a xs w hx (by omega) hr hb h.1 (by omega)
  · rw [v4, if_neg h, eq_false_of_ne_true h]
    rw [fit_iff] at h
    exact refNumber_no p n c a 4 w (by omega) (by decide) (by decide) (by omega)
theorem put32_all (p : Option Addr) (n c : Nat) (a : Int) (xs : List Int) (w : World) (hx : xs.length = n) (hn : n ≤ 140737488355328) (hr : Row w p xs) (v : Int) (hv : 0 ≤ v ∧ v ≤ 4294967295) : Calls Try.prog 12 #[.slice p n c, .int .i64 a, .int .u32 v] w fun e w' => ∃ q cap, e = .returned (.tuple #[.slice q (putW xs a v).length cap, .int .i64 (putE xs a)]) ∧ Row w' q (putW xs a v) ∧ Below w.heap.size w w' := by
  by_cases h : fit xs a 4 = true
  · rw [putW, if_pos h, putE, if_pos h, putL_length, hx]
    rw [fit_iff] at h
    exact (put32_ex p n c a v xs w hx hn hr hv h.1 (by omega)).mono fun e w' ⟨g, h1, h2, h3⟩ => ⟨_, _, h1, h2.row, h3⟩
  · rw [putW, if_neg h, putE, if_neg h]
    rw [fit_iff] at h
    exact (put32_no p n c a v w (by omega) (by omega)).mono fun e w' ⟨h1, h2⟩ => ⟨_, _, h1, fun h => absurd h (Nat.lt_irrefl 0), by rw [h2]; exact below_self w⟩
theorem refPut_all (p : Option Addr) (n c : Nat) (a : Int) (xs : List Int) (w : World) (hx : xs.length = n) (hn : n ≤ 140737488355328) (hr : Row w p xs) (hb : Byt xs) (v : Int) (hv : 0 ≤ v ∧ v ≤ 4294967295) : Calls Try.prog 18 #[.slice p n c, .int .i64 a, .int .u32 v] w fun e w' => ∃ q cap, e = .returned (.tuple #[.slice q (putW xs a v).length cap, .int .i64 (putE xs a)]) ∧ Row w' q (putW xs a v) ∧ Below w.heap.size w w' := by
  by_cases h : fit xs a 4 = true
  · rw [putW, if_pos h, putE, if_pos h]
    rw [fit_iff] at h
    refine (refPut_yes p n c a v xs w hx hn hr hb hv h.1 (by omega)).mono fun e w' ⟨u, h1, h2, h3⟩ => ?_
    obtain ⟨q, cap, hu, hrow, _⟩ := h2.slice
    exact ⟨q, cap, by rw [h1, hu], hrow, h3⟩
  · rw [putW, if_neg h, putE, if_neg h]
    rw [fit_iff] at h
    exact (refPut_no p n c a v w (by omega) (by omega)).mono fun e w' ⟨h1, h2⟩ => ⟨_, _, h1, fun h => absurd h (Nat.lt_irrefl 0), by rw [h2]; exact below_self w⟩
theorem putW_len (n : Nat) (a : Int) (xs : List Int) (hx : xs.length = n) (v : Int) : (putW xs a v).length ≤ n := by
  unfold putW
  split
  · rw [putL_length]; omega
  · exact Nat.zero_le _

set_option maxHeartbeats 2000000 in
theorem lawTells_any (p : Option Addr) (n c : Nat) (a v : Int) (xs : List Int) (w : World) (hx : xs.length = n) (hn : n ≤ 70368744177664) (hr : Row w p xs) (hb : Byt xs) (hv : 0 ≤ v ∧ v ≤ 4294967295) :
    Calls Try.prog 4 #[.slice p n c, .int .i64 a, .int .u32 v] w fun e w' => e = .returned (.bool true) ∧ Below w.heap.size w w' := by
  have HX : Hid (xs.length = n) := hx
  clear hx
  have hv2 := v2_bd hb a
  have hv4 := v4_bd hb a
  have hpl := putW_len n a xs HX.out v
  go_enter Try.func4, Try.ntmps4
  go_wp2_with fail
  refine (lent_any p n c xs _ HX.out (by omega) hr).mono ?_
  rintro e w1 ⟨g, cap, rfl, ho1, hb1⟩
  have hr1 := hr.below hb1
  have hf1 := ho1.front
  go_wp2_with fail
  refine (u16_all _ n cap a xs _ HX.out (by omega) hf1.row hb).mono ?_
  rintro e w2 ⟨rfl, rfl⟩
  go_wp2_with fail
  refine (u32_all _ n cap a xs _ HX.out (by omega) hf1.row hb).mono ?_
  rintro e w2 ⟨rfl, rfl⟩
  go_wp2_with fail
  refine (i32_all _ n cap a xs _ HX.out (by omega) hf1.row hb).mono ?_
  rintro e w2 ⟨rfl, rfl⟩
  go_wp2_with fail
  refine (refNumber2_all _ n c a xs _ HX.out (by omega) hr1 hb).mono ?_
  rintro e w2 ⟨rfl, rfl⟩
  go_wp2_with fail
  refine (refNumber4_all _ n c a xs _ HX.out (by omega) hr1 hb).mono ?_
  rintro e w2 ⟨rfl, rfl⟩
  generalize v2 xs a = x2 at *
  generalize v4 xs a = x4 at *
  generalize fit xs a 2 = f2 at *
  generalize fit xs a 4 = f4 at *
  go_wp2_with fail
  refine (put32_all _ n cap a xs _ HX.out (by omega) hf1.row v hv).mono ?_
  rintro e w3 ⟨q, qc, rfl, hq3, hb3⟩
  have hr3 := hr1.below hb3
  have ho3 := ho1.below hb3
  have hb13 := below_step hb1 hb3
  clear hb1 hb3 ho1 hf1 hr1 hr
  go_wp2_with fail
  refine (refPut_all _ n c a xs _ HX.out (by omega) hr3 hb v hv).mono ?_
  rintro e w4 ⟨q', qc', rfl, hq4, hb4⟩
  have hr4 := hr3.below hb4
  have ho4 := ho3.below hb4
  have hq34 := hq3.below hb4
  have hb14 := below_step hb13 hb4
  clear hb13 hb4 ho3 hr3 hq3
  generalize putE xs a = pe at *
  generalize putW xs a v = ys at *
  go_wp2_with fail
  refine (sameBytes_any _ _ _ _ _ _ ys ys _ rfl rfl (by omega) hq34 hq4).mono ?_
  rw [sameB_self]
  rintro e w5 ⟨rfl, m5, hw5⟩
  have hr5 : Row w5 p xs := by rw [hw5]; exact hr4.drewN m5
  have ho5 : Own w5 w.heap.size g cap (xs ++ [77, 78]) := by rw [hw5]; exact ho4.drewN m5
  have hb15 : Below w.heap.size w w5 := by rw [hw5]; exact below_draws hb14 m5
  clear hw5 hq4 hq34 hb14 ho4 hr4
  go_wp2_with fail
  refine (hex_any _ n cap xs _ HX.out (by omega) ho5.front.row hb).mono ?_
  rintro e w6 ⟨rfl, hb6⟩
  have hr6 := hr5.below hb6
  have ho6 := ho5.below hb6
  have hb16 := below_step hb15 hb6
  clear hb15 hb6 ho5 hr5
  go_wp2_with fail
  refine (refHex_any _ n c xs _ HX.out (by omega) hr6 hb).mono ?_
  rintro e w7 ⟨rfl, hb7⟩
  have hr7 := hr6.below hb7
  have ho7 := ho6.below hb7
  have hb17 := below_step hb16 hb7
  clear hb16 hb7 ho6 hr6
  generalize strOfNums (hexL xs) = st
  have hst : (st.toList == st.toList) = true := by simp
  go_wp2_with fail
  refine (kept_any p g n cap c w.heap.size xs _ HX.out (by omega) ho7 hr7).mono ?_
  rintro e w8 ⟨rfl, m8, hw8⟩
  have hb18 : Below w.heap.size w w8 := by rw [hw8]; exact below_draws hb17 m8
  clear hw8 hb17 ho7 hr7
  go_wp2_with fail
  refine (awake_any _).mono ?_
  rintro e w9 ⟨rfl, hb9⟩
  go_wp2
  go_ret
  exact ⟨rfl, below_step hb18 hb9⟩

end Go.Proofs.Ytmhdiicljnjmcaa
