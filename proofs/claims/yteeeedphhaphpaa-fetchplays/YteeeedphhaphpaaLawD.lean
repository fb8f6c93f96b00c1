/- FetchPlays, at arguments as they come in. -/
import Derived.Test.YteeeedphhaphpaaPlyW
namespace Go.Proofs.Yteeeedphhaphpaa
open Go.RowKit Go.Maps

theorem plays_all (p s : Option Addr) (c d : Nat) (xs : List Int) (S : List OpD) (w : World) (hl : Sl w p c xs) (hb : Byt xs) (hn : xs.length ≤ 140737488351232) (hm : S.length ≤ 9223372036854775807) (hs : Scr w s S) :
    Calls Try.prog 5 #[.slice p xs.length c, .slice s S.length d] w fun e w' => e = .returned (.bool true) ∧ Below w.heap.size w w' :=
  plays_walk p s _ c _ d xs S w rfl hn hl.le rfl hm hl.row hb hs

end Go.Proofs.Yteeeedphhaphpaa
