/- exec.back. -/
import Derived.Test.YtdbpeigcnhhpmaaExS
namespace Go.Proofs.Ytdbpeigcnhhpmaa
open Go.RowKit

/-- an effect that goes on at nx, and no more -/
abbrev efA (nx : Int) : Array Value := #[.int .u32 nx, .bool false, .int .i64 0, .bool false, .bool false, .int .u32 0, .int .u32 0]
abbrev efH (nx : Int) : Array Value := #[.int .u32 nx, .bool true, .int .i64 0, .bool false, .bool false, .int .u32 0, .int .u32 0]
theorem Try.sz37 : (Try.prog.info? 37).map (·.size) = some 7 := by kernel_rfl

set_option maxHeartbeats 2000000 in
theorem back_zero (p : Option Addr) (c : Nat) (nx : Int) (w : World) :
    Calls Try.prog 21 #[.slice p 0 c, .agg (efA nx)] w fun e w' => e = .returned (.tuple #[.slice p 0 c, .agg (efH nx)]) ∧ Below w.heap.size w w' := by
  go_enter Try.func21, Try.ntmps21
  go_wp2
  go_region
  all_goals (go_wp2; exact bodyPost_ret (v := .tuple #[.slice p 0 c, .agg (efH nx)]) (by simp [results, Try.results21, go_sem]) rfl ⟨rfl, (below_alloc (new_alloc _ _) _).drew⟩)

set_option maxHeartbeats 2000000 in
theorem back_last (g k cap : Nat) (nx z : Int) (w : World) (hk : k < cap) (hc : cap ≤ 140737488355328) (hz : w.cell? ⟨g, k, none⟩ = some (.int .u32 z)) :
    Calls Try.prog 21 #[.slice (some ⟨g, 0, none⟩) (k + 1 : Nat) cap, .agg (efA nx)] w fun e w' => e = .returned (.tuple #[.slice (some ⟨g, 0, none⟩) k cap, .agg (efA z)]) ∧ Below w.heap.size w w' := by
  have hl := cell_lt hz
  go_enter Try.func21, Try.ntmps21
  go_wp2
  go_region
  all_goals (go_wp2; exact bodyPost_ret (v := .tuple #[.slice (some ⟨g, 0, none⟩) k cap, .agg (efA z)]) (by simp [results, Try.results21, go_sem]) rfl ⟨rfl, (below_alloc (new_alloc _ _) _).drew⟩)

end Go.Proofs.Ytdbpeigcnhhpmaa
