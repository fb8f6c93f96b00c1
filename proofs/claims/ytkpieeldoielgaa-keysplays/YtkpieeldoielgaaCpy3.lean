/- switchyardkit.CopySymbols, CopyFixes, CopyMarks. -/
import Derived.Test.YtkpieeldoielgaaKit3
namespace Go.Proofs.Ytkpieeldoielgaa
open Go.RowKit

end Go.Proofs.Ytkpieeldoielgaa
