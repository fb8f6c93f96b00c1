/- switchyardkit.CopySymbols, CopyFixes, CopyMarks. -/
import Derived.Test.YtfhjaabbfaamjaaKit3
namespace Go.Proofs.Ytfhjaabbfaamjaa
open Go.RowKit

end Go.Proofs.Ytfhjaabbfaamjaa
