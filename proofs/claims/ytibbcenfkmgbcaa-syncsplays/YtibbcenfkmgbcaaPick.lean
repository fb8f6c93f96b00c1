/- switchyardkit.Pick: a number below n. -/
import Derived.Test.YtibbcenfkmgbcaaOwn
namespace Go.Proofs.Ytibbcenfkmgbcaa
open Go.RowKit

set_option maxRecDepth 20000 in
theorem pick_any (a : Int) (n : Nat) (h0 : 0 < n) (hn : n ≤ 9223372036854775807) (w : World) : Calls Try.prog 23 #[.int .i64 a, .int .i64 n] w fun E w' => (∃ k : Nat, k < n ∧ E = .returned (.int .i64 k)) ∧ w' = w := by
  have h1 := Int.lt_tmod_of_pos a (show (0 : Int) < (n : Int) by omega)
  have h2 := Int.tmod_lt_of_pos a (show (0 : Int) < (n : Int) by omega)
  have hm1 : ¬ (n : Int) = 0 := by omega
  have hw : IntKind.i64.wrap (a.tmod n) = a.tmod n := by rw [IntKind.wrap_i64]; omega
  go_enter Try.func23, Try.ntmps23
  by_cases hneg : a.tmod n < 0
  · have hw2 : IntKind.i64.wrap (a.tmod n + (n : Int)) = a.tmod n + (n : Int) := by rw [IntKind.wrap_i64]; omega
    go_wp2_with fail
    go_ret
    refine ⟨⟨(a.tmod n + n).toNat, by omega, ?_⟩, rfl⟩
    rw [Int.toNat_of_nonneg (by omega)]; rfl
  · go_wp2_with fail
    go_ret
    refine ⟨⟨(a.tmod n).toNat, by omega, ?_⟩, rfl⟩
    rw [Int.toNat_of_nonneg (by omega)]; rfl

end Go.Proofs.Ytibbcenfkmgbcaa
