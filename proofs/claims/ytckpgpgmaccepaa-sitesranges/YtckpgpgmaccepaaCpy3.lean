/- switchyardkit.CopySymbols, CopyFixes, CopyMarks. -/
import Derived.Test.YtckpgpgmaccepaaKit3
namespace Go.Proofs.Ytckpgpgmaccepaa
open Go.RowKit

end Go.Proofs.Ytckpgpgmaccepaa
