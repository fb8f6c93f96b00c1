/- What switchyardref13's Place and Done answer. -/
import Derived.Test.YteeeedphhaphpaaFetM
import Derived.Test.YteeeedphhaphpaaRefOps
namespace Go.Proofs.Yteeeedphhaphpaa
open Go.RowKit Go.Maps

theorem rlen_any (y : Int) (w : World) : Calls Try.prog 37 #[.int .u8 y] w fun e w' => e = .returned (.int .i64 (lenB y)) ∧ Below w.heap.size w w' := by
  rcases opB_cases y with ⟨o, h1, h2, rfl⟩ | h
  · rw [lenB_fb o h1 h2]; exact rlen_yes o w h1 h2
  · rw [lenB_no y h]; exact rlen_no y w h

set_option maxHeartbeats 400000 in
theorem rplace_any (a : Int) (p : Option Addr) (n c : Nat) (w : World) (h0 : 0 ≤ a) (h1 : a ≤ 4294967295) (hn : n ≤ 140737488355328) :
    Calls Try.prog 17 #[.int .u32 a, .slice p n c] w fun e w' => e = .returned (.int .i64 (a + n)) ∧ w' = w := by
  go_enter Try.func17, Try.ntmps17
  go_wp2
  go_ret
  exact ⟨rfl, rfl⟩

set_option maxHeartbeats 400000 in
theorem rdone_any (p : Option Addr) (n c : Nat) (xs : List Int) (w : World) (hx : xs.length = n) (hn : n ≤ 140737488355328) (hr : Row w p xs) :
    Calls Try.prog 18 #[.slice p n c] w fun e w' => e = .returned (.bool (doneB xs)) ∧ Below w.heap.size w w' := by
  by_cases h0 : n = 0
  · subst h0
    obtain rfl := List.eq_nil_of_length_eq_zero hx
    go_enter Try.func18, Try.ntmps18
    go_wp2
    go_ret
    exact ⟨rfl, below_self _⟩
  · obtain ⟨b, o, rfl, hc⟩ := hr (by omega)
    have c0 := hc 0 (by omega)
    rw [Nat.add_zero] at c0
    have hpos : 0 < n := by omega
    have hl := rlen_any (xs.getD 0 0) w
    have hi := lenB_in (xs.getD 0 0)
    have hb : doneB xs = decide (lenB (xs.getD 0 0) ≤ n) := by unfold doneB; rw [hx, decide_eq_true hpos, Bool.true_and]
    rw [hb]
    generalize xs.getD 0 0 = y at *
    generalize lenB y = K at *
    clear hc hr hb hx
    go_enter Try.func18, Try.ntmps18
    go_wp2_with (go_at_call 37; refine hl.mono ?_; rintro e w1 ⟨rfl, hb1⟩)
    go_ret
    exact ⟨ret_bool (by simp), hb1⟩

end Go.Proofs.Yteeeedphhaphpaa
