/- What octets.inside, number, U16, U32, I32 answer, for every slice of bytes, every place. -/
import Derived.Test.YtekggimgobeggaaProg
import Derived.Test.YtekggimgobeggaaNums
namespace Go.Proofs.Ytekggimgobeggaa
open Go.RowKit

theorem inside_yes (p : Option Addr) (n c : Nat) (a k : Int) (w : World) (hn : n ≤ 9223372036854775807) (h0 : 0 ≤ k) (h1 : k ≤ 8) (ha : 0 ≤ a) (hb : a ≤ n - k) :
    Calls Try.prog 107 #[.slice p n c, .int .i64 a, .int .i64 k] w fun e w' => e = .returned (.bool true) ∧ w' = w := by
  go_enter Try.func107, Try.ntmps107
  go_wp2
  go_ret
  exact ⟨by simp, rfl⟩

theorem inside_no (p : Option Addr) (n c : Nat) (a k : Int) (w : World) (hn : n ≤ 9223372036854775807) (h0 : 0 ≤ k) (h1 : k ≤ 8) (h : a < 0 ∨ n - k < a) :
    Calls Try.prog 107 #[.slice p n c, .int .i64 a, .int .i64 k] w fun e w' => e = .returned (.bool false) ∧ w' = w := by
  by_cases ha : 0 ≤ a
  · have hb : ¬ a ≤ n - k := by omega
    go_enter Try.func107, Try.ntmps107
    go_wp2
    go_ret
    exact ⟨by simp, rfl⟩
  · have hd : decide (0 ≤ a) = false := by simpa using ha
    go_enter Try.func107, Try.ntmps107
    go_wp2
    go_ret
    exact ⟨rfl, rfl⟩

theorem ret_int2 {k : IntKind} {a b : Int} {x : Value} (h : a = b) : Ending.returned (.tuple #[.int k a, x]) = .returned (.tuple #[.int k b, x]) := by rw [h]

/-! ### octets.U16, U32, I32 -/
end Go.Proofs.Ytekggimgobeggaa
