/- FetchWhole, at arguments as they come in. -/
import Derived.Test.YteeeedphhaphpaaOpenS
import Derived.Test.YteeeedphhaphpaaWhoW
namespace Go.Proofs.Yteeeedphhaphpaa
open Go.RowKit Go.Maps

theorem whole_all (p ph : Option Addr) (c ch : Nat) (a : Int) (xs : List Int) (hs : List Bool) (w : World) (hl : Sl w p c xs) (hn : xs.length ≤ 140737488351232) (ha : (Lit.int .u32 a).wf = true) (hh : hs.length ≤ 140737488351232) (hb : BRow w ph hs) :
    Calls Try.prog 6 #[.slice p xs.length c, .int .u32 a, .slice ph hs.length ch] w fun e w' => e = .returned (.bool true) ∧ Below w.heap.size w w' := by
  have hu := wf_u32 ha
  obtain ⟨pc, rfl⟩ := Int.eq_ofNat_of_zero_le hu.1
  exact whole_walk p ph _ c pc ch xs hs w rfl hn hl.le hl.row (by omega) hh hb

end Go.Proofs.Yteeeedphhaphpaa
