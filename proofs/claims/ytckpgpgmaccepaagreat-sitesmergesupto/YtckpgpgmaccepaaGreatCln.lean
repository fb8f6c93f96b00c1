/- strings.Clone. -/
import Derived.Test.YtckpgpgmaccepaaGreatShelfA
import Derived.Test.YtckpgpgmaccepaaGreatRight
namespace Go.Proofs.YtckpgpgmaccepaaGreat
open Go.RowKit

set_option maxHeartbeats 1000000 in
theorem clone_any (s : ByteArray) (w : World) (hs : s.size ≤ 281474976710656) :
    Calls Tryz.prog 69 #[.string s] w fun e w' => e = .returned (.string s) ∧ Below w.heap.size w w' := by
  go_enter Tryz.func69, Tryz.ntmps69
  go_wp2_with fail
  refine (Tryz.stringslite_Clone _ _ hs).mono ?_
  rintro e w1 ⟨rfl, hb⟩
  go_wp2_with fail
  go_ret
  exact ⟨rfl, hb⟩

end Go.Proofs.YtckpgpgmaccepaaGreat
