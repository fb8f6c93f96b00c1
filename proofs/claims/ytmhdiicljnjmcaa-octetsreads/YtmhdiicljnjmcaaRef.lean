/- What switchyardref01.Number, Four and Put32 answer, for every slice of bytes, every place, every number: the same as the program's. -/
import Derived.Test.YtmhdiicljnjmcaaLent
namespace Go.Proofs.Ytmhdiicljnjmcaa
open Go.RowKit

set_option maxHeartbeats 400000 in
theorem refNumber4_at (b o n c a : Nat) (z0 z1 z2 z3 : Int) (w : World) (hn : n ≤ 9223372036854775807) (h : a + 4 ≤ n)
    (c0 : w.cell? ⟨b, o + a, none⟩ = some (.int .u8 z0)) (c1 : w.cell? ⟨b, o + (a + 1), none⟩ = some (.int .u8 z1))
    (c2 : w.cell? ⟨b, o + (a + 2), none⟩ = some (.int .u8 z2)) (c3 : w.cell? ⟨b, o + (a + 3), none⟩ = some (.int .u8 z3))
    (r0 : 0 ≤ z0 ∧ z0 ≤ 255) (r1 : 0 ≤ z1 ∧ z1 ≤ 255) (r2 : 0 ≤ z2 ∧ z2 ≤ 255) (r3 : 0 ≤ z3 ∧ z3 ≤ 255) :
    Calls Try.prog 17 #[.slice (some ⟨b, o, none⟩) n c, .int .i64 a, .int .i64 4] w fun e w' => e = .returned (.tuple #[.int .u32 (num4 z0 z1 z2 z3), .bool true]) ∧ w' = w := by
  have g0 : ¬ (a : Int) < 0 := by omega
  have g1 : ¬ (n : Int) < 4 := by omega
  have g2 : ¬ ((n : Int) - 4 < a) := by omega
  go_enter Try.func17, Try.ntmps17
  go_wp2
  refine wp_loop_rounds 5 ?_
  rw [rounds_succ]; go_wp2
  rw [rounds_succ]; go_wp2
  rw [rounds_succ]; go_wp2
  rw [rounds_succ]; go_wp2
  rw [rounds_succ]; go_wp2
  go_ret2
  exact ⟨ret_int2 (by unfold num4; omega), rfl⟩

set_option maxHeartbeats 400000 in
theorem refNumber2_at (b o n c a : Nat) (z0 z1 : Int) (w : World) (hn : n ≤ 9223372036854775807) (h : a + 2 ≤ n)
    (c0 : w.cell? ⟨b, o + a, none⟩ = some (.int .u8 z0)) (c1 : w.cell? ⟨b, o + (a + 1), none⟩ = some (.int .u8 z1))
    (r0 : 0 ≤ z0 ∧ z0 ≤ 255) (r1 : 0 ≤ z1 ∧ z1 ≤ 255) :
    Calls Try.prog 17 #[.slice (some ⟨b, o, none⟩) n c, .int .i64 a, .int .i64 2] w fun e w' => e = .returned (.tuple #[.int .u32 (num2 z0 z1), .bool true]) ∧ w' = w := by
  have g0 : ¬ (a : Int) < 0 := by omega
  have g1 : ¬ (n : Int) < 2 := by omega
  have g2 : ¬ ((n : Int) - 2 < a) := by omega
  go_enter Try.func17, Try.ntmps17
  go_wp2
  refine wp_loop_rounds 3 ?_
  rw [rounds_succ]; go_wp2
  rw [rounds_succ]; go_wp2
  rw [rounds_succ]; go_wp2
  go_ret2
  exact ⟨ret_int2 (by unfold num2; omega), rfl⟩

set_option maxHeartbeats 400000 in
theorem refNumber_no (p : Option Addr) (n c : Nat) (a k : Int) (w : World) (hn : n ≤ 9223372036854775807) (h0 : 0 ≤ k) (h1 : k ≤ 8) (h : a < 0 ∨ n - k < a) :
    Calls Try.prog 17 #[.slice p n c, .int .i64 a, .int .i64 k] w fun e w' => e = .returned (.tuple #[.int .u32 0, .bool false]) ∧ w' = w := by
  by_cases g0 : a < 0
  · go_enter Try.func17, Try.ntmps17
    go_wp2
    go_ret2
    exact ⟨rfl, rfl⟩
  · have d0 : decide (a < 0) = false := by simpa using g0
    by_cases g1 : (n : Int) < k
    · go_enter Try.func17, Try.ntmps17
      go_wp2
      go_ret2
      exact ⟨rfl, rfl⟩
    · have d1 : decide ((n : Int) < k) = false := by simpa using g1
      have g2 : (n : Int) - k < a := by omega
      go_enter Try.func17, Try.ntmps17
      go_wp2
      go_ret2
      exact ⟨rfl, rfl⟩

theorem refNumber4_yes (p : Option Addr) (n c : Nat) (a : Int) (xs : List Int) (w : World) (hx : xs.length = n) (hn : n ≤ 9223372036854775807) (hr : Row w p xs) (hb : Byt xs) (h0 : 0 ≤ a) (h1 : a + 4 ≤ n) :
    Calls Try.prog 17 #[.slice p n c, .int .i64 a, .int .i64 4] w fun e w' => e = .returned (.tuple #[.int .u32 (n4 xs a.toNat), .bool true]) ∧ w' = w := by
  obtain ⟨k, rfl⟩ := Int.eq_ofNat_of_zero_le h0
  obtain ⟨b, o, rfl, hc⟩ := hr (by omega)
  rw [Int.toNat_natCast]
  exact refNumber4_at b o n c k _ _ _ _ w hn (by omega) (hc k (by omega)) (hc (k + 1) (by omega)) (hc (k + 2) (by omega)) (hc (k + 3) (by omega)) (hb _) (hb _) (hb _) (hb _)

theorem refNumber2_yes (p : Option Addr) (n c : Nat) (a : Int) (xs : List Int) (w : World) (hx : xs.length = n) (hn : n ≤ 9223372036854775807) (hr : Row w p xs) (hb : Byt xs) (h0 : 0 ≤ a) (h1 : a + 2 ≤ n) :
    Calls Try.prog 17 #[.slice p n c, .int .i64 a, .int .i64 2] w fun e w' => e = .returned (.tuple #[.int .u32 (n2 xs a.toNat), .bool true]) ∧ w' = w := by
  obtain ⟨k, rfl⟩ := Int.eq_ofNat_of_zero_le h0
  obtain ⟨b, o, rfl, hc⟩ := hr (by omega)
  rw [Int.toNat_natCast]
  exact refNumber2_at b o n c k _ _ w hn (by omega) (hc k (by omega)) (hc (k + 1) (by omega)) (hb _) (hb _)

/-! ### Four, Put32 -/
def four (v : Int) : List Int := [v % 256, v / 256 % 256, v / 65536 % 256, v / 16777216]

theorem four_any (v : Int) (w : World) (hv : 0 ≤ v ∧ v ≤ 4294967295) :
    Calls Try.prog 30 #[.int .u32 v] w fun e w' => ∃ g, e = .returned (.slice (some ⟨g, 0, none⟩) 4 4) ∧ Own w' w.heap.size g 4 (four v) ∧ Below w.heap.size w w' := by
  go_enter Try.func30, Try.ntmps30
  go_wp2
  go_ret
  exact ⟨_, rfl, Own.lit w (four v) (by simp [four, maxLen]), new_alloc _ _⟩

theorem putL_four (xs : List Int) (a k : Nat) (v : Int) (h : a + 4 ≤ xs.length) (h0 : a ≤ k) (h1 : k < a + 4) : (putL xs a v).getD k 0 = (four v).getD (k - a) 0 := by
  rw [putL_getD xs a v h k]
  rcases (show k = a ∨ k = a + 1 ∨ k = a + 2 ∨ k = a + 3 by omega) with e | e | e | e <;> subst e <;> simp [four]

set_option maxHeartbeats 1000000 in
theorem refPut_at (b o n c a : Nat) (v : Int) (xs : List Int) (w : World) (hx : xs.length = n) (hn : n ≤ 140737488355328) (h : a + 4 ≤ n) (hv : 0 ≤ v ∧ v ≤ 4294967295) (hbt : Byt xs)
    (hc : ∀ i, i < n → w.cell? ⟨b, o + i, none⟩ = some (.int .u8 (xs.getD i 0))) :
    Calls Try.prog 18 #[.slice (some ⟨b, o, none⟩) n c, .int .i64 a, .int .u32 v] w fun e w' => ∃ u, e = .returned (.tuple #[u, .int .i64 0]) ∧ OwnV w' w.heap.size u (putL xs a v) ∧ Below w.heap.size w w' := by
  have HN : Hid (Calls Try.prog 17 #[.slice (some ⟨b, o, none⟩) n c, .int .i64 a, .int .i64 4] w fun e w' => e = .returned (.tuple #[.int .u32 (n4 xs a), .bool true]) ∧ w' = w) := by
    have := refNumber4_yes (some ⟨b, o, none⟩) n c a xs w hx (by omega) (fun _ => ⟨b, o, rfl, fun i hi => hc i (by omega)⟩) hbt (by omega) (by omega)
    rwa [Int.toNat_natCast] at this
  have HX : Hid (xs.length = n) := hx
  have HC : Hid (∀ i, i < n → w.cell? ⟨b, o + i, none⟩ = some (.int .u8 (xs.getD i 0))) := hc
  have HL : Hid ((putL xs a v).length = n) := by have := HX.out; rw [← this]; exact putL_length ..
  clear hx hc
  go_enter Try.func18, Try.ntmps18
  go_wp2_with (go_at_call 17; refine HN.out.mono ?_; rintro e w' ⟨rfl, rfl⟩)
  go_loopw [10, 11] (fun u i wr => ∃ k : Nat, k ≤ n ∧ i = .int .i64 k ∧ OwnV wr w'.heap.size u ((putL xs a v).take k) ∧ Below w'.heap.size w' wr) (fun _ i _ => n - (intOf i).toNat)
  case atStart => exact ⟨0, Nat.zero_le _, rfl, OwnV.nil _ _, Below.refl _ _⟩
  case round =>
    obtain ⟨k, hk, rfl, hown, hbk⟩ := hrel
    clear HN
    by_cases hlt : k < n
    · have hcd := HC.out k hlt
      have hcl := cell_lt hcd
      have c1 : wr.cell? ⟨b, o + k, none⟩ = some (.int .u8 (xs.getD k 0)) := by rw [hbk.cell (p := ⟨b, o + k, none⟩) hcl]; exact hcd
      have hsz := hbk.size
      have hl : ((putL xs a v).take k).length + 1 ≤ 140737488355328 := by rw [List.length_take]; omega
      have hT := take_getD (putL xs a v) k (by rw [HL.out]; exact hlt)
      clear hcd hcl
      by_cases hin : a ≤ k ∧ k < a + 4
      · rw [putL_four xs a k v (by have := HX.out; omega) hin.1 hin.2] at hT
        have HT : Hid ((putL xs a v).take (k + 1) = (putL xs a v).take k ++ [(four v).getD (k - a) 0]) := hT
        clear hT
        have hi1 : (a : Int) ≤ (k : Int) := by omega
        have hi2 : (k : Int) < (a : Int) + 4 := by omega
        generalize (putL xs a v).take k = ys at *
        generalize xs.getD k 0 = z at *
        go_wp2_with fail
        refine (four_any v _ hv).mono ?_
        rintro e w1 ⟨g, rfl, hf, hb1⟩
        have cf := hf.cell (k - a) (by simp [four]; omega)
        have hown1 := hown.below hb1
        have hbk1 := hbk.trans (hb1.mono hsz)
        have hsz1 := hbk1.size
        clear hf hb1 hown hbk
        generalize (four v).getD (k - a) 0 = y at *
        go_wp2_with (at_builtin; refine wp_push _ rfl _ _ rfl w'.heap.size _ ys rfl (hown1.alloc _) ⟨w1.heap.size, 0, none⟩ 1 1 [y] rfl rfl (cell_one_new _ _ _) hl (by simp; omega) ?_; intro v' w2 hown' _hgrow hbel _hnil)
        go_roundw
        case rel => exact ⟨k + 1, by omega, by go_num, by rw [HT.out]; exact hown', hbel _ (hbk1.alloc hsz1 _)⟩
        case measure => simp [intOf]; omega
      · rw [putL_other (by have := HX.out; omega) k (by omega)] at hT
        have HT : Hid ((putL xs a v).take (k + 1) = (putL xs a v).take k ++ [xs.getD k 0]) := hT
        clear hT
        generalize (putL xs a v).take k = ys at *
        generalize xs.getD k 0 = z at *
        by_cases hi1 : (a : Int) ≤ (k : Int)
        · have hd : decide ((k : Int) < (a : Int) + 4) = false := by simp; omega
          go_wp2_with (at_builtin; refine wp_push _ rfl _ _ rfl w'.heap.size _ ys rfl (hown.alloc _) ⟨wr.heap.size, 0, none⟩ 1 1 [z] rfl rfl (cell_one_new _ _ _) hl (by simp; omega) ?_; intro v' w2 hown' _hgrow hbel _hnil)
          go_roundw
          case rel => exact ⟨k + 1, by omega, by go_num, by rw [HT.out]; exact hown', hbel _ (hbk.alloc hsz _)⟩
          case measure => simp [intOf]; omega
        · have hd : decide ((a : Int) ≤ (k : Int)) = false := by simpa using hi1
          go_wp2_with (at_builtin; refine wp_push _ rfl _ _ rfl w'.heap.size _ ys rfl (hown.alloc _) ⟨wr.heap.size, 0, none⟩ 1 1 [z] rfl rfl (cell_one_new _ _ _) hl (by simp; omega) ?_; intro v' w2 hown' _hgrow hbel _hnil)
          go_roundw
          case rel => exact ⟨k + 1, by omega, by go_num, by rw [HT.out]; exact hown', hbel _ (hbk.alloc hsz _)⟩
          case measure => simp [intOf]; omega
    · have HT : Hid ((putL xs a v).take k = putL xs a v) := List.take_of_length_le (by rw [HL.out]; omega)
      go_wp2
      go_ret2
      exact ⟨_, rfl, by rw [HT.out] at hown; exact hown, hbk⟩

theorem refPut_yes (p : Option Addr) (n c : Nat) (a v : Int) (xs : List Int) (w : World) (hx : xs.length = n) (hn : n ≤ 140737488355328) (hr : Row w p xs) (hb : Byt xs) (hv : 0 ≤ v ∧ v ≤ 4294967295) (h0 : 0 ≤ a) (h1 : a + 4 ≤ n) :
    Calls Try.prog 18 #[.slice p n c, .int .i64 a, .int .u32 v] w fun e w' => ∃ u, e = .returned (.tuple #[u, .int .i64 0]) ∧ OwnV w' w.heap.size u (putL xs a.toNat v) ∧ Below w.heap.size w w' := by
  obtain ⟨k, rfl⟩ := Int.eq_ofNat_of_zero_le h0
  obtain ⟨b, o, rfl, hc⟩ := hr (by omega)
  rw [Int.toNat_natCast]
  exact refPut_at b o n c k v xs w hx hn (by omega) hv hb (fun i hi => hc i (by omega))

theorem refPut_no (p : Option Addr) (n c : Nat) (a v : Int) (w : World) (hn : n ≤ 9223372036854775807) (h : a < 0 ∨ n - 4 < a) :
    Calls Try.prog 18 #[.slice p n c, .int .i64 a, .int .u32 v] w fun e w' => e = .returned (.tuple #[.slice none 0 0, .int .i64 2]) ∧ w' = w := by
  go_enter Try.func18, Try.ntmps18
  go_wp2_with (go_at_call 17; refine (refNumber_no _ _ _ _ _ _ hn (by decide) (by decide) h).mono ?_; rintro e w' ⟨rfl, rfl⟩)
  go_ret2
  exact ⟨rfl, rfl⟩

end Go.Proofs.Ytmhdiicljnjmcaa
