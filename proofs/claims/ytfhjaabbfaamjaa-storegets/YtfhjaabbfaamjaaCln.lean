/- strings.Clone. -/
import Derived.Test.YtfhjaabbfaamjaaRight
namespace Go.Proofs.Ytfhjaabbfaamjaa
open Go.RowKit

end Go.Proofs.Ytfhjaabbfaamjaa
