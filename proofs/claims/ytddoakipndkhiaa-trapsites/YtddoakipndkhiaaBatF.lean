/- awake; batches that are none. -/
import Derived.Test.YtddoakipndkhiaaBatK
import Derived.Great.BuildSlice
namespace Go.Proofs.Ytddoakipndkhiaa
open Go.RowKit

set_option maxHeartbeats 400000 in
theorem find_none (v : Value) (a : Int) (w : World) (h : Calls Try.prog 17 #[v] w fun e w' => e = .returned (.bool true) ∧ w' = w) :
    Calls Try.prog 18 #[v, .int .i64 a] w fun e w' => e = .returned (.tuple #[.int .i64 0, .bool false]) ∧ w' = w := by
  go_enter Try.func18, Try.ntmps18
  go_wp2_with (go_at_call 17; refine Hid.out ?_)
  refine Lib.hid ?_
  refine h.mono ?_
  rintro e w1 ⟨rfl, hw⟩
  rw [hw]
  clear hw
  go_wp2_with fail
  go_ret2
  exact ⟨rfl, rfl⟩
set_option maxHeartbeats 400000 in
theorem add_none (v : Value) (a : Int) (t : Int) (up : Bool) (w : World) (h : Calls Try.prog 17 #[v] w fun e w' => e = .returned (.bool true) ∧ w' = w) :
    Calls Try.prog 16 #[v, .int .i64 a, .int .i64 t, .bool up] w fun e w' => e = .returned (.int .i64 1) ∧ w' = w := by
  go_enter Try.func16, Try.ntmps16
  go_wp2_with (go_at_call 17; refine Hid.out ?_)
  refine Lib.hid ?_
  refine h.mono ?_
  rintro e w1 ⟨rfl, hw⟩
  rw [hw]
  clear hw
  go_wp2_with fail
  go_ret
  exact ⟨rfl, rfl⟩
set_option maxHeartbeats 400000 in
theorem all_none (v : Value) (w : World) (h : Calls Try.prog 17 #[v] w fun e w' => e = .returned (.bool true) ∧ w' = w) :
    Calls Try.prog 7 #[v] w fun e w' => e = .returned (.slice none 0 0) ∧ w' = w := by
  go_enter Try.func7, Try.ntmps7
  go_wp2_with (go_at_call 17; refine Hid.out ?_)
  refine Lib.hid ?_
  refine h.mono ?_
  rintro e w1 ⟨rfl, hw⟩
  rw [hw]
  clear hw
  go_wp2_with fail
  go_ret
  exact ⟨rfl, rfl⟩
def L1 : List Si := [⟨1, 20, 5⟩]
def L2 : List Si := [⟨0, 0, 9⟩, ⟨1, 20, 5⟩]
theorem ex1 : addE [] 20 5 = 0 ∧ addR [] 20 5 true = L1 := ⟨by decide, by decide⟩
theorem ex2 : addE L1 0 9 = 0 ∧ addR L1 0 9 false = L2 := ⟨by decide, by decide⟩
theorem ex3 : addE L2 24 0 = 2 ∧ addR L2 24 0 true = L2 := ⟨by decide, by decide⟩
theorem ex4 : fndI L2 20 = 1 ∧ fndB L2 20 = true ∧ fndI L2 1 = 0 ∧ fndB L2 1 = false := ⟨by decide, by decide, by decide, by decide⟩
theorem two_row (w : World) : Row3 (w.alloc (.cells #[.int .i64 0, .int .i64 0, .int .i64 9, .int .i64 1, .int .i64 20, .int .i64 5] 35)) (some ⟨w.heap.size, 0, none⟩) (L2.map siV) := fun _ => by
  refine ⟨w.heap.size, 0, rfl, fun i hi j hj => ?_⟩
  have hb := Blk.new w 35 #[.int .i64 0, .int .i64 0, .int .i64 9, .int .i64 1, .int .i64 20, .int .i64 5]
  rw [hb.cell]
  have hi' : i < 2 := hi
  rcases (by omega : i = 0 ∨ i = 1) with rfl | rfl <;> rcases (by omega : j = 0 ∨ j = 1 ∨ j = 2) with rfl | rfl | rfl <;> rfl
end Go.Proofs.Ytddoakipndkhiaa
