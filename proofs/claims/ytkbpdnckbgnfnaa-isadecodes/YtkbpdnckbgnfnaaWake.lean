/- What switchyardlaw02.awake answers: true; isa.Jump, isa.Quiet. -/
import Derived.Test.YtkbpdnckbgnfnaaSpec
import Derived.Test.YtkbpdnckbgnfnaaLit
namespace Go.Proofs.Ytkbpdnckbgnfnaa
open Go.RowKit

theorem encode_jump (n : Int) (w : World) : Calls Try.prog 16 #[ins 11 0 0 n] w fun e w' => ∃ g cap, e = .returned (.tuple #[.slice (some ⟨g, 0, none⟩) 5 cap, .int .i64 0]) ∧ Own w' w.heap.size g cap (encL 11 0 0 n) ∧ Below w.heap.size w w' :=
  encode_yes 11 0 0 n w (by decide) (by decide) (by simp [rightB, regB, numB, rg, kd])
theorem encode_quiet (w : World) : Calls Try.prog 16 #[ins 3 0 0 0] w fun e w' => ∃ g cap, e = .returned (.tuple #[.slice (some ⟨g, 0, none⟩) 5 cap, .int .i64 0]) ∧ Own w' w.heap.size g cap (encL 3 0 0 0) ∧ Below w.heap.size w w' :=
  encode_yes 3 0 0 0 w (by decide) (by decide) (by decide)
theorem encode_out (w : World) : Calls Try.prog 16 #[ins 16 7 0 0] w fun e w' => ∃ g cap, e = .returned (.tuple #[.slice (some ⟨g, 0, none⟩) 2 cap, .int .i64 0]) ∧ Own w' w.heap.size g cap [230, 7] ∧ Below w.heap.size w w' :=
  encode_yes 16 7 0 0 w (by decide) (by decide) (by decide)

set_option maxHeartbeats 400000 in
theorem jump_any (n : Int) (w : World) : Calls Try.prog 26 #[.int .i32 n] w fun e w' => ∃ g cap, e = .returned (.slice (some ⟨g, 0, none⟩) 5 cap) ∧ Own w' w.heap.size g cap (encL 11 0 0 n) ∧ Below w.heap.size w w' := by
  go_enter Try.func26, Try.ntmps26
  go_wp2_with fail
  refine (encode_jump n _).mono ?_
  rintro e w1 ⟨g, cap, rfl, ho, hb⟩
  go_wp2
  go_ret
  exact ⟨g, cap, rfl, ho, hb⟩

set_option maxHeartbeats 400000 in
theorem quiet_any (w : World) : Calls Try.prog 27 #[] w fun e w' => ∃ g cap, e = .returned (.slice (some ⟨g, 0, none⟩) 5 cap) ∧ Own w' w.heap.size g cap (encL 3 0 0 0) ∧ Below w.heap.size w w' := by
  go_enter Try.func27, Try.ntmps27
  go_wp2_with fail
  refine (encode_quiet _).mono ?_
  rintro e w1 ⟨g, cap, rfl, ho, hb⟩
  go_wp2
  go_ret
  exact ⟨g, cap, rfl, ho, hb⟩

theorem dec_lit1 : dec [184, 3, 5, 0, 0, 0, 144] = ⟨5, 3, 0, 5, 6, 0⟩ := by kernel_rfl
theorem dec_lit2 : dec [255] = ⟨0, 0, 0, 0, 0, 120⟩ := by kernel_rfl

set_option maxHeartbeats 1000000 in
theorem awake_any (w : World) :
    Calls Try.prog 15 #[] w fun e w' => e = .returned (.bool true) ∧ Below w.heap.size w w' := by
  go_enter Try.func15, Try.ntmps15
  go_wp2_with fail
  refine (decode_any _ 7 7 [184, 3, 5, 0, 0, 0, 144] _ rfl (by decide) (Own.lit w [184, 3, 5, 0, 0, 0, 144] (by decide)).row (byt_of _ (by decide))).mono ?_
  rw [dec_lit1]
  rintro e w1 ⟨rfl, hb1⟩
  have hb2 := below_step (new_alloc w _) hb1
  clear hb1
  go_wp2_with fail
  refine (encode_out _).mono ?_
  rintro e w2 ⟨g, cap, rfl, ho, hb3⟩
  have hI := (At4.new w1 (.int .u8 5) (.int .u8 3) (.int .u8 0) (.int .i32 5) 26).below hb3
  have ho := ho.lower (below_alloc hb2 (.cells #[.int .u8 5, .int .u8 3, .int .u8 0, .int .i32 5] 26)).size
  have hb4 := below_step (below_alloc hb2 _) hb3
  clear hb2 hb3
  generalize w1.heap.size = gI at *
  go_wp2_with fail
  refine (decode_any _ 1 1 [255] _ rfl (by decide) (Own.lit w2 [255] (by decide)).row (byt_of _ (by decide))).mono ?_
  rw [dec_lit2]
  rintro e w3 ⟨rfl, hb5⟩
  have hI3 := (hI.below (new_alloc _ _)).below hb5
  have ho3 := (ho.below (new_alloc _ _)).below hb5
  have hb6 := below_step (below_alloc hb4 _) hb5
  clear hI ho hb4 hb5
  go_wp2_with fail
  refine (opName_yes 10 _ (by decide) (by decide)).mono ?_
  rintro e w4 ⟨rfl, hb7⟩
  have hI4 := (hI3.below (new_alloc _ _)).below hb7
  have ho4 := (ho3.below (new_alloc _ _)).below hb7
  have hb8 := below_step (below_alloc hb6 _) hb7
  clear hI3 ho3 hb6 hb7
  obtain ⟨i0, i1, i2, i3⟩ := hI4
  go_wp2_with fail
  refine (sameBytes_any _ _ 2 cap 2 2 [230, 7] [230, 7] _ rfl rfl (by decide) (ho4.below (new_alloc _ _)).row (Own.lit w4 [230, 7] (by decide)).row).mono ?_
  rw [sameB_self]
  rintro e w5 ⟨rfl, m, hw5⟩
  have hb9 : Below w.heap.size w w5 := by rw [hw5]; exact below_draws (below_alloc hb8 _) _
  clear hw5 ho4 hb8 i0 i1 i2 i3
  go_wp2_with fail
  refine (len_yes 9 _ (by decide) (by decide)).mono ?_
  rw [show lenN 9 = 6 from rfl]
  rintro e w6 ⟨rfl, hb10⟩
  have hb11 := below_step hb9 hb10
  clear hb9 hb10
  go_wp2_with fail
  refine (name_yes 10 _ (by decide)).mono ?_
  rw [show nm 10 = ⟨#[98, 110, 122]⟩ from rfl]
  rintro e w7 ⟨rfl, hb12⟩
  go_wp2
  go_ret
  exact ⟨rfl, below_step hb11 hb12⟩
end Go.Proofs.Ytkbpdnckbgnfnaa
