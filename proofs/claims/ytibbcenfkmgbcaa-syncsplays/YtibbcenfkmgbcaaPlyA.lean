/- SyncsPlays: for every number of harts. -/
import Derived.Test.YtibbcenfkmgbcaaPlyW
namespace Go.Proofs.Ytibbcenfkmgbcaa
open Go.RowKit

theorem plays_all (a : Int) (s : Option Addr) (e : Nat) (Z : List OpD) (w : World) (hsc : Scr w s Z) :
    Calls Try.prog 4 #[.int .i64 a, .slice s Z.length e] w fun e w' => e = .returned (.bool true) ∧ Below w.heap.size w w' := by
  by_cases h : a < 0 ∨ 8 < a
  · exact plays_bad a _ w h
  · obtain ⟨k, rfl⟩ := Int.eq_ofNat_of_zero_le (show 0 ≤ a by omega)
    exact plays_walk k s e Z w (by omega) hsc

end Go.Proofs.Ytibbcenfkmgbcaa
