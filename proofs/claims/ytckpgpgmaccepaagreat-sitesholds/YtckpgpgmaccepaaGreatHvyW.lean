/- switchyardlaw07.heavy. -/
import Derived.Test.YtckpgpgmaccepaaGreatTabW
import Derived.BigQuiet
namespace Go.Proofs.YtckpgpgmaccepaaGreat
open Go.RowKit

/-- how much a unit that came in may hold -/
def ObW (o : Ob) : Prop := o.bs.length ≤ 140737488351232 ∧ o.sy.length ≤ 4398046510976 ∧ o.fx.length ≤ 4398046510976 ∧ o.mk_.length ≤ 3518437208780


end Go.Proofs.YtckpgpgmaccepaaGreat
