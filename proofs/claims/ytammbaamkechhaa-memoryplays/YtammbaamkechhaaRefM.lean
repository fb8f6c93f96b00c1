/- What switchyardref11's functions answer, for every slice of bytes. -/
import Derived.Test.YtammbaamkechhaaAwk
import Derived.Test.YtammbaamkechhaaPushRow
namespace Go.Proofs.Ytammbaamkechhaa
open Go.RowKit

theorem refNew_ok (p : Option Addr) (n c : Nat) (w : World) (h : n ≤ 65536) : Calls Try.prog 16 #[.slice p n c] w fun e w' => e = .returned (.int .i64 0) ∧ w' = w := by
  go_enter Try.func16, Try.ntmps16
  go_wp2
  go_ret
  exact ⟨rfl, rfl⟩
theorem refNew_long (p : Option Addr) (n c : Nat) (w : World) (hn : n ≤ 9223372036854775807) (h : 65536 < n) : Calls Try.prog 16 #[.slice p n c] w fun e w' => e = .returned (.int .i64 3) ∧ w' = w := by
  go_enter Try.func16, Try.ntmps16
  go_wp2
  go_ret
  exact ⟨rfl, rfl⟩

set_option maxHeartbeats 400000 in
theorem refRead_neg (p : Option Addr) (c l : Nat) (a n : Int) (w : World) (h : n < 0) :
    Calls Try.prog 26 #[.slice p l c, .int .i64 a, .int .i64 n] w fun e w' => e = .returned (.tuple #[.slice none 0 0, .int .i64 2]) ∧ w' = w := by
  go_enter Try.func26, Try.ntmps26
  go_wp2
  go_ret2
  exact ⟨rfl, rfl⟩

set_option maxHeartbeats 400000 in
theorem refRead_out (p : Option Addr) (c l : Nat) (a n : Int) (w : World) (hl : l ≤ 9223372036854775807) (h : 0 ≤ n) (hn : n ≤ 9223372036854775807) (ho : ¬ (0 ≤ a ∧ a ≤ (l : Int) - n)) :
    Calls Try.prog 26 #[.slice p l c, .int .i64 a, .int .i64 n] w fun e w' => e = .returned (.tuple #[.slice none 0 0, .int .i64 210]) ∧ w' = w := by
  rcases (by omega : a < 0 ∨ (0 ≤ a ∧ (l : Int) < n) ∨ (0 ≤ a ∧ n ≤ (l : Int) ∧ (l : Int) - n < a)) with h1 | ⟨h1, h2⟩ | ⟨h1, h2, h3⟩
  all_goals
    go_enter Try.func26, Try.ntmps26
    go_wp2
    go_ret2
    exact ⟨rfl, rfl⟩

theorem take_nil0 (n a : Nat) : ((([] : List Int)).drop a).take n = [] := by simp

set_option maxHeartbeats 800000 in
theorem refRead_ok (p : Option Addr) (c a n : Nat) (xs : List Int) (w : World) (hr : Row w p xs) (hc : xs.length ≤ c) (hcm : c ≤ 9223372036854775807) (hxl : xs.length ≤ 140737488355328) (hq : p = none → c = 0) (h : a + n ≤ xs.length) :
    Calls Try.prog 26 #[.slice p xs.length c, .int .i64 a, .int .i64 n] w fun e w' => ∃ v, e = .returned (.tuple #[v, .int .i64 0]) ∧ OwnV w' w.heap.size v ((xs.drop a).take n) ∧ Below w.heap.size w w' := by
  have hlen : ((xs.drop a).take n).length = n := by rw [List.length_take, List.length_drop]; omega
  rcases p with _ | ⟨b, o, s⟩
  · have hc0 := hq rfl
    subst hc0
    have h0 : xs.length = 0 := by omega
    obtain rfl : xs = [] := List.eq_nil_of_length_eq_zero h0
    obtain rfl : a = 0 := by simp at h; omega
    obtain rfl : n = 0 := by simp at h; omega
    go_enter Try.func26, Try.ntmps26
    go_wp2_with (at_builtin; refine wp_push_row w rfl _ _ rfl w.heap.size _ [] rfl (OwnV.nil _ _) none 0 0 [] rfl rfl (fun h => absurd h (Nat.lt_irrefl 0)) (fun _ => ⟨rfl, rfl⟩) (by decide) (Nat.le_refl _) ?_; intro v' w' ho hb; have HO := Hid.in ho; have HB := Hid.in (hb w (below_self w)); clear ho hb)
    go_ret2
    exact ⟨_, rfl, HO.out, HB.out⟩
  · by_cases h0 : xs.length = 0
    · obtain rfl : xs = [] := List.eq_nil_of_length_eq_zero h0
      obtain rfl : a = 0 := by simp at h; omega
      obtain rfl : n = 0 := by simp at h; omega
      go_enter Try.func26, Try.ntmps26
      go_wp2_with (at_builtin; refine wp_push_row w rfl _ _ rfl w.heap.size _ [] rfl (OwnV.nil _ _) _ 0 _ [] rfl rfl (fun h => absurd h (Nat.lt_irrefl 0)) (fun h => by first | cases h | (split at h <;> cases h)) (by decide) (Nat.le_refl _) ?_; intro v' w' ho hb; have HO := Hid.in ho; have HB := Hid.in (hb w (below_self w)); clear ho hb)
      all_goals
        go_ret2
        exact ⟨_, rfl, HO.out, HB.out⟩
    · obtain ⟨b', o', e, hcell⟩ := hr (by omega)
      cases e
      have hrI : Row w (if c = a then some ⟨b, o, none⟩ else some ⟨b, o + a, none⟩) ((xs.drop a).take n) := by
        split
        · intro h0; rw [hlen] at h0; omega
        · exact hr.cut a n h
      have HL := Hid.in hlen
      clear hr hcell hlen
      go_enter Try.func26, Try.ntmps26
      go_wp2_with (at_builtin; refine wp_push_row w rfl _ _ rfl w.heap.size _ [] rfl (OwnV.nil _ _) _ (a + n - a) _ _ rfl (by rw [HL.out]; omega) hrI (fun h => by split at h <;> cases h) (by simp; omega) (Nat.le_refl _) ?_; intro v' w' ho hb; have HO := Hid.in ho; have HB := Hid.in (hb w (below_self w)); clear ho hb)
      all_goals
        go_ret2
        exact ⟨_, rfl, HO.out, HB.out⟩

end Go.Proofs.Ytammbaamkechhaa
