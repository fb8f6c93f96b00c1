/- The laws' walks, at arguments as they come in. -/
import Derived.Test.YteeeedphhaphpaaOpenS
import Derived.Test.YteeeedphhaphpaaTelW
namespace Go.Proofs.Yteeeedphhaphpaa
open Go.RowKit Go.Maps

theorem tells_all (a : Int) (p : Option Addr) (c : Nat) (xs : List Int) (w : World) (ha : (Lit.int .u32 a).wf = true) (hn : xs.length ≤ 140737488351232) (hr : Row w p xs) :
    Calls Try.prog 4 #[.int .u32 a, .slice p xs.length c] w fun e w' => e = .returned (.bool true) ∧ Below w.heap.size w w' := by
  have hu := wf_u32 ha
  obtain ⟨pc, rfl⟩ := Int.eq_ofNat_of_zero_le hu.1
  exact tells_walk pc p _ c xs w (by omega) rfl hn hr

end Go.Proofs.Yteeeedphhaphpaa
