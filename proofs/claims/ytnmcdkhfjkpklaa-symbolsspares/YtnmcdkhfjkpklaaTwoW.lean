/- switchyardlaw07.two. -/
import Derived.Test.YtnmcdkhfjkpklaaTwoL
import Derived.Deep.RegionHeld3
namespace Go.Proofs.Ytnmcdkhfjkpklaa
open Go.RowKit

set_option maxRecDepth 20000 in
set_option maxHeartbeats 8000000 in
theorem two_any (w : World) : Calls Try.prog 10 #[] w fun E w' => ∃ p, E = .returned (.slice p 2 2) ∧ Units w' p [twoA, twoB] ∧ Below w.heap.size w w' := by
  have h5 := run_make5
  have h3 := run_make3
  go_enter Try.func10, Try.ntmps10
  go_upto_region 1 with fail
  go_region_held3 (fun W => True) (trivial) (fail)
  all_goals clear h5 h3
  all_goals go_wp2_with fail
  all_goals go_ret
  all_goals refine ⟨_, rfl, two_units at5 ?_ ?_ ?_ ?_, five_below⟩
  all_goals first
    | exact at1
    | exact at2
    | exact at3
    | exact at4

end Go.Proofs.Ytnmcdkhfjkpklaa
