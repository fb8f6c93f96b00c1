/- FetchHolds, at arguments as they come in. -/
import Derived.Test.YteeeedphhaphpaaOpenS
import Derived.Test.YteeeedphhaphpaaHldW
namespace Go.Proofs.Yteeeedphhaphpaa
open Go.RowKit Go.Maps

theorem holds_all (p : Option Addr) (c : Nat) (a now : Int) (xs : List Int) (w : World) (hs : Sl w p c xs) (hn : xs.length ≤ 140737488351232) (ha : (Lit.int .u32 a).wf = true) :
    Calls Try.prog 7 #[.slice p xs.length c, .int .u32 a, .int .u8 now] w fun e w' => e = .returned (.bool true) ∧ Below w.heap.size w w' := by
  have hu := wf_u32 ha
  obtain ⟨pc, rfl⟩ := Int.eq_ofNat_of_zero_le hu.1
  exact holds_walk p _ c pc now xs w rfl hn hs.le hs.row (by omega)

end Go.Proofs.Yteeeedphhaphpaa
