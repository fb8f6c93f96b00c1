/- What octets.inside, number, U16, U32, I32 answer, for every slice of bytes, every place. -/
import Derived.Test.YtfhjaabbfaamjaaProg
import Derived.Test.YtfhjaabbfaamjaaNums
namespace Go.Proofs.Ytfhjaabbfaamjaa
open Go.RowKit

theorem inside_yes (p : Option Addr) (n c : Nat) (a k : Int) (w : World) (hn : n ≤ 9223372036854775807) (h0 : 0 ≤ k) (h1 : k ≤ 8) (ha : 0 ≤ a) (hb : a ≤ n - k) :
    Calls Try.prog 58 #[.slice p n c, .int .i64 a, .int .i64 k] w fun e w' => e = .returned (.bool true) ∧ w' = w := by
  go_enter Try.func58, Try.ntmps58
  go_wp2
  go_ret
  exact ⟨by simp, rfl⟩

theorem inside_no (p : Option Addr) (n c : Nat) (a k : Int) (w : World) (hn : n ≤ 9223372036854775807) (h0 : 0 ≤ k) (h1 : k ≤ 8) (h : a < 0 ∨ n - k < a) :
    Calls Try.prog 58 #[.slice p n c, .int .i64 a, .int .i64 k] w fun e w' => e = .returned (.bool false) ∧ w' = w := by
  by_cases ha : 0 ≤ a
  · have hb : ¬ a ≤ n - k := by omega
    go_enter Try.func58, Try.ntmps58
    go_wp2
    go_ret
    exact ⟨by simp, rfl⟩
  · have hd : decide (0 ≤ a) = false := by simpa using ha
    go_enter Try.func58, Try.ntmps58
    go_wp2
    go_ret
    exact ⟨rfl, rfl⟩

theorem ret_int2 {k : IntKind} {a b : Int} {x : Value} (h : a = b) : Ending.returned (.tuple #[.int k a, x]) = .returned (.tuple #[.int k b, x]) := by rw [h]

set_option maxHeartbeats 400000 in
theorem number4_at (b o n c a : Nat) (z0 z1 z2 z3 : Int) (w : World) (hn : n ≤ 9223372036854775807) (h : a + 4 ≤ n)
    (c0 : w.cell? ⟨b, o + a, none⟩ = some (.int .u8 z0)) (c1 : w.cell? ⟨b, o + (a + 1), none⟩ = some (.int .u8 z1))
    (c2 : w.cell? ⟨b, o + (a + 2), none⟩ = some (.int .u8 z2)) (c3 : w.cell? ⟨b, o + (a + 3), none⟩ = some (.int .u8 z3))
    (r0 : 0 ≤ z0 ∧ z0 ≤ 255) (r1 : 0 ≤ z1 ∧ z1 ≤ 255) (r2 : 0 ≤ z2 ∧ z2 ≤ 255) (r3 : 0 ≤ z3 ∧ z3 ≤ 255) :
    Calls Try.prog 71 #[.slice (some ⟨b, o, none⟩) n c, .int .i64 a, .int .i64 4] w fun e w' => e = .returned (.tuple #[.int .u32 (num4 z0 z1 z2 z3), .bool true]) ∧ w' = w := by
  go_enter Try.func71, Try.ntmps71
  go_wp2_with (go_at_call 58; refine (inside_yes _ _ _ _ _ _ hn (by decide) (by decide) (by omega) (by omega)).mono ?_; rintro e w' ⟨rfl, rfl⟩)
  refine wp_loop_rounds 5 ?_
  rw [rounds_succ]; go_wp2
  rw [rounds_succ]; go_wp2
  rw [rounds_succ]; go_wp2
  rw [rounds_succ]; go_wp2
  rw [rounds_succ]; go_wp2
  go_ret2
  exact ⟨ret_int2 (or4 z0 z1 z2 z3 r0 r1 r2 r3), rfl⟩

set_option maxHeartbeats 400000 in
theorem number2_at (b o n c a : Nat) (z0 z1 : Int) (w : World) (hn : n ≤ 9223372036854775807) (h : a + 2 ≤ n)
    (c0 : w.cell? ⟨b, o + a, none⟩ = some (.int .u8 z0)) (c1 : w.cell? ⟨b, o + (a + 1), none⟩ = some (.int .u8 z1))
    (r0 : 0 ≤ z0 ∧ z0 ≤ 255) (r1 : 0 ≤ z1 ∧ z1 ≤ 255) :
    Calls Try.prog 71 #[.slice (some ⟨b, o, none⟩) n c, .int .i64 a, .int .i64 2] w fun e w' => e = .returned (.tuple #[.int .u32 (num2 z0 z1), .bool true]) ∧ w' = w := by
  go_enter Try.func71, Try.ntmps71
  go_wp2_with (go_at_call 58; refine (inside_yes _ _ _ _ _ _ hn (by decide) (by decide) (by omega) (by omega)).mono ?_; rintro e w' ⟨rfl, rfl⟩)
  refine wp_loop_rounds 3 ?_
  rw [rounds_succ]; go_wp2
  rw [rounds_succ]; go_wp2
  rw [rounds_succ]; go_wp2
  go_ret2
  exact ⟨ret_int2 (or2 z0 z1 r0 r1), rfl⟩

theorem number_no (p : Option Addr) (n c : Nat) (a k : Int) (w : World) (hn : n ≤ 9223372036854775807) (h0 : 0 ≤ k) (h1 : k ≤ 8) (h : a < 0 ∨ n - k < a) :
    Calls Try.prog 71 #[.slice p n c, .int .i64 a, .int .i64 k] w fun e w' => e = .returned (.tuple #[.int .u32 0, .bool false]) ∧ w' = w := by
  go_enter Try.func71, Try.ntmps71
  go_wp2_with (go_at_call 58; refine (inside_no _ _ _ _ _ _ hn h0 h1 h).mono ?_; rintro e w' ⟨rfl, rfl⟩)
  go_ret2
  exact ⟨rfl, rfl⟩

theorem number4_yes (p : Option Addr) (n c : Nat) (a : Int) (xs : List Int) (w : World) (hx : xs.length = n) (hn : n ≤ 9223372036854775807) (hr : Row w p xs) (hb : Byt xs) (h0 : 0 ≤ a) (h1 : a + 4 ≤ n) :
    Calls Try.prog 71 #[.slice p n c, .int .i64 a, .int .i64 4] w fun e w' => e = .returned (.tuple #[.int .u32 (n4 xs a.toNat), .bool true]) ∧ w' = w := by
  obtain ⟨k, rfl⟩ := Int.eq_ofNat_of_zero_le h0
  obtain ⟨b, o, rfl, hc⟩ := hr (by omega)
  rw [Int.toNat_natCast]
  exact number4_at b o n c k _ _ _ _ w hn (by omega) (hc k (by omega)) (hc (k + 1) (by omega)) (hc (k + 2) (by omega)) (hc (k + 3) (by omega)) (hb _) (hb _) (hb _) (hb _)

theorem number2_yes (p : Option Addr) (n c : Nat) (a : Int) (xs : List Int) (w : World) (hx : xs.length = n) (hn : n ≤ 9223372036854775807) (hr : Row w p xs) (hb : Byt xs) (h0 : 0 ≤ a) (h1 : a + 2 ≤ n) :
    Calls Try.prog 71 #[.slice p n c, .int .i64 a, .int .i64 2] w fun e w' => e = .returned (.tuple #[.int .u32 (n2 xs a.toNat), .bool true]) ∧ w' = w := by
  obtain ⟨k, rfl⟩ := Int.eq_ofNat_of_zero_le h0
  obtain ⟨b, o, rfl, hc⟩ := hr (by omega)
  rw [Int.toNat_natCast]
  exact number2_at b o n c k _ _ w hn (by omega) (hc k (by omega)) (hc (k + 1) (by omega)) (hb _) (hb _)

/-! ### octets.U16, U32, I32 -/
theorem u32_yes (p : Option Addr) (n c : Nat) (a : Int) (xs : List Int) (w : World) (hx : xs.length = n) (hn : n ≤ 9223372036854775807) (hr : Row w p xs) (hb : Byt xs) (h0 : 0 ≤ a) (h1 : a + 4 ≤ n) :
    Calls Try.prog 61 #[.slice p n c, .int .i64 a] w fun e w' => e = .returned (.tuple #[.int .u32 (n4 xs a.toNat), .bool true]) ∧ w' = w := by
  have hcon := number4_yes p n c a xs w hx hn hr hb h0 h1
  generalize n4 xs a.toNat = v at *
  clear hr hb
  go_enter Try.func61, Try.ntmps61
  go_wp2_with (go_at_call 71; refine hcon.mono ?_; rintro e w' ⟨rfl, rfl⟩)
  go_ret2
  exact ⟨rfl, rfl⟩

theorem u32_no (p : Option Addr) (n c : Nat) (a : Int) (w : World) (hn : n ≤ 9223372036854775807) (h : a < 0 ∨ n - 4 < a) :
    Calls Try.prog 61 #[.slice p n c, .int .i64 a] w fun e w' => e = .returned (.tuple #[.int .u32 0, .bool false]) ∧ w' = w := by
  go_enter Try.func61, Try.ntmps61
  go_wp2_with (go_at_call 71; refine (number_no _ _ _ _ _ _ hn (by decide) (by decide) h).mono ?_; rintro e w' ⟨rfl, rfl⟩)
  go_ret2
  exact ⟨rfl, rfl⟩

end Go.Proofs.Ytfhjaabbfaamjaa
