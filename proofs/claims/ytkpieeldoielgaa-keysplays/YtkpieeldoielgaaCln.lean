/- strings.Clone. -/
import Derived.Test.YtkpieeldoielgaaRight
namespace Go.Proofs.Ytkpieeldoielgaa
open Go.RowKit

end Go.Proofs.Ytkpieeldoielgaa
