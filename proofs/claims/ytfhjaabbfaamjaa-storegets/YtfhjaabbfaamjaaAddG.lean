/- symbols.addGlobals. -/
import Derived.Test.YtfhjaabbfaamjaaKeyL
namespace Go.Proofs.Ytfhjaabbfaamjaa
open Go.RowKit Go.Maps Go.WideMaps

end Go.Proofs.Ytfhjaabbfaamjaa
