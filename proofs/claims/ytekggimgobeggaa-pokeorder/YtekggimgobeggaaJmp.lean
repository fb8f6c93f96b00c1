/- What switchyardlaw02.awake answers: true; isa.Jump, isa.Quiet. -/
import Derived.Test.YtekggimgobeggaaLit
import Derived.Test.YtekggimgobeggaaEnc
namespace Go.Proofs.Ytekggimgobeggaa
open Go.RowKit

theorem encode_jump (n : Int) (w : World) : Calls Try.prog 91 #[ins 11 0 0 n] w fun e w' => ∃ g cap, e = .returned (.tuple #[.slice (some ⟨g, 0, none⟩) 5 cap, .int .i64 0]) ∧ Own w' w.heap.size g cap (encL 11 0 0 n) ∧ Below w.heap.size w w' :=
  encode_yes 11 0 0 n w (by decide) (by decide) (by simp [rightB, regB, numB, rg, kd])
theorem encode_quiet (w : World) : Calls Try.prog 91 #[ins 3 0 0 0] w fun e w' => ∃ g cap, e = .returned (.tuple #[.slice (some ⟨g, 0, none⟩) 5 cap, .int .i64 0]) ∧ Own w' w.heap.size g cap (encL 3 0 0 0) ∧ Below w.heap.size w w' :=
  encode_yes 3 0 0 0 w (by decide) (by decide) (by decide)
theorem encode_out (w : World) : Calls Try.prog 91 #[ins 16 7 0 0] w fun e w' => ∃ g cap, e = .returned (.tuple #[.slice (some ⟨g, 0, none⟩) 2 cap, .int .i64 0]) ∧ Own w' w.heap.size g cap [230, 7] ∧ Below w.heap.size w w' :=
  encode_yes 16 7 0 0 w (by decide) (by decide) (by decide)

set_option maxHeartbeats 400000 in
theorem jump_any (n : Int) (w : World) : Calls Try.prog 75 #[.int .i32 n] w fun e w' => ∃ g cap, e = .returned (.slice (some ⟨g, 0, none⟩) 5 cap) ∧ Own w' w.heap.size g cap (encL 11 0 0 n) ∧ Below w.heap.size w w' := by
  go_enter Try.func75, Try.ntmps75
  go_wp2_with fail
  refine (encode_jump n _).mono ?_
  rintro e w1 ⟨g, cap, rfl, ho, hb⟩
  go_wp2
  go_ret
  exact ⟨g, cap, rfl, ho, hb⟩

set_option maxHeartbeats 400000 in
theorem quiet_any (w : World) : Calls Try.prog 76 #[] w fun e w' => ∃ g cap, e = .returned (.slice (some ⟨g, 0, none⟩) 5 cap) ∧ Own w' w.heap.size g cap (encL 3 0 0 0) ∧ Below w.heap.size w w' := by
  go_enter Try.func76, Try.ntmps76
  go_wp2_with fail
  refine (encode_quiet _).mono ?_
  rintro e w1 ⟨g, cap, rfl, ho, hb⟩
  go_wp2
  go_ret
  exact ⟨g, cap, rfl, ho, hb⟩

end Go.Proofs.Ytekggimgobeggaa
