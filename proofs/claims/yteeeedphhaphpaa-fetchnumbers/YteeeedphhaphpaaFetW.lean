/- What fetch's Next, Done, place, there, behind answer. -/
import Derived.Test.YteeeedphhaphpaaFetL
import Derived.Deep.RegionHeld3
import Derived.BigQuiet
namespace Go.Proofs.Yteeeedphhaphpaa
open Go.RowKit Go.Maps

set_option maxHeartbeats 400000 in
theorem place_any (a : Int) (p : Option Addr) (n c : Nat) (w : World) (h0 : 0 ≤ a) (h1 : a ≤ 4294967295) (hn : n ≤ 140737488355328) :
    Calls Try.prog 29 #[.int .u32 a, .slice p n c] w fun e w' => e = .returned (.int .i64 (a + n)) ∧ w' = w := by
  go_enter Try.func29, Try.ntmps29
  go_wp2
  go_ret
  exact ⟨rfl, rfl⟩

set_option maxHeartbeats 400000 in
theorem next_any (a : Nat) (p : Option Addr) (n c : Nat) (w : World) (h1 : a ≤ 4294967295) (hn : n ≤ 140737488355328) :
    Calls Try.prog 12 #[.int .u32 a, .slice p n c] w fun e w' => e = .returned (.int .i64 ((a + n) / 4 : Nat)) ∧ w' = w := by
  have h := place_any a p n c w (by omega) (by omega) hn
  go_enter Try.func12, Try.ntmps12
  go_wp2_with (go_at_call 29; refine h.mono ?_; rintro e w1 ⟨rfl, rfl⟩)
  go_ret
  exact ⟨ret_i64 (by omega), rfl⟩

set_option maxHeartbeats 400000 in
theorem done_any (p : Option Addr) (n c : Nat) (xs : List Int) (w : World) (hx : xs.length = n) (hn : n ≤ 140737488355328) (hr : Row w p xs) :
    Calls Try.prog 13 #[.slice p n c] w fun e w' => e = .returned (.bool (doneB xs)) ∧ Below w.heap.size w w' := by
  by_cases h0 : n = 0
  · subst h0
    obtain rfl := List.eq_nil_of_length_eq_zero hx
    go_enter Try.func13, Try.ntmps13
    go_wp2
    go_ret
    exact ⟨rfl, below_self _⟩
  · obtain ⟨b, o, rfl, hc⟩ := hr (by omega)
    have c0 := hc 0 (by omega)
    rw [Nat.add_zero] at c0
    have hpos : 0 < n := by omega
    have hl := length_any (xs.getD 0 0) w
    have hi := lenB_in (xs.getD 0 0)
    have hb : doneB xs = decide (lenB (xs.getD 0 0) ≤ n) := by unfold doneB; rw [hx, decide_eq_true hpos, Bool.true_and]
    rw [hb]
    generalize xs.getD 0 0 = y at *
    generalize lenB y = K at *
    clear hc hr hb hx
    go_enter Try.func13, Try.ntmps13
    go_wp2_with (go_at_call 25; refine hl.mono ?_; rintro e w1 ⟨rfl, hb1⟩)
    go_ret
    exact ⟨ret_bool (by simp), hb1⟩

set_option maxHeartbeats 400000 in
theorem there_of (mp lp : Option Addr) (f : F4) (is : Bool) (e : Int) (w : World) (ht : Calls Try.prog 31 #[.pointer lp, .pointer mp, .int .i64 (-1), .bool false] w fun E w' => E = .returned (.tuple #[fV f, .bool is, .int .i64 e]) ∧ Below w.heap.size w w') :
    Calls Try.prog 28 #[.pointer mp, .pointer lp] w fun E w' => E = .returned (.bool (e != 1)) ∧ Below w.heap.size w w' := by
  obtain ⟨f0, f1, f2, f3⟩ := f
  simp only [fV] at ht
  go_enter Try.func28, Try.ntmps28
  go_wp2_with (go_at_call 31; refine ht.mono ?_; rintro e w1 ⟨rfl, hb1⟩)
  go_ret
  exact ⟨rfl, below_alloc hb1 _⟩

end Go.Proofs.Yteeeedphhaphpaa
