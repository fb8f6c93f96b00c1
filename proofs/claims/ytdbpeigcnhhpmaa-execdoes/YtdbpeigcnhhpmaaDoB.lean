/- exec.Do and switchyardref14.Do answer doL; awake. -/
import Derived.Test.YtdbpeigcnhhpmaaDoA
import Derived.Test.YtdbpeigcnhhpmaaAwk
namespace Go.Proofs.Ytdbpeigcnhhpmaa
open Go.RowKit

theorem do9 : DoIs 9 := fun o a b n pc R S D p q s c d dc w ho ha hb hpc hn lR hS hs hD hd hr hrd hbd => do_any o a b n pc R S D p q s c d dc w ho ha hb hpc hn lR hS hs hD hd hr hrd hbd
theorem do10 : DoIs 10 := fun o a b n pc R S D p q s c d dc w _ ha hb hpc hn lR hS hs hD hd hr hrd hbd => rdo_any o a b n pc R S D p q s c d dc w ha hb hpc hn lR hS hs hD hd hr hrd hbd
theorem awake_yes (w : World) : Calls Try.prog 16 #[] w fun e w' => e = .returned (.bool true) ∧ Below w.heap.size w w' := awake_any do9 w

end Go.Proofs.Ytdbpeigcnhhpmaa
