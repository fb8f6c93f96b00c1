/- symbols.addGlobals. -/
import Derived.Test.YtkpieeldoielgaaKeyL
namespace Go.Proofs.Ytkpieeldoielgaa
open Go.RowKit Go.Maps Go.WideMaps

end Go.Proofs.Ytkpieeldoielgaa
