/- What switchyardref02.ofByte, Op and Length answer. -/
import Derived.Test.YtdbpeigcnhhpmaaRefForm
namespace Go.Proofs.Ytdbpeigcnhhpmaa
open Go.RowKit

end Go.Proofs.Ytdbpeigcnhhpmaa
