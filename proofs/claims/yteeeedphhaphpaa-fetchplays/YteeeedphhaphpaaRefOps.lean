/- What switchyardref02.ofByte, Op and Length answer. -/
import Derived.Test.YteeeedphhaphpaaRefForm
namespace Go.Proofs.Yteeeedphhaphpaa
open Go.RowKit

set_option maxHeartbeats 1000000 in
theorem ofByte_yes (p : Nat) (w : World) (hp : 1 ≤ p) (hp' : p < 17) :
    Calls Try.prog 48 #[.int .u8 (fb p)] w fun e w' => e = .returned (.tuple #[.int .u8 p, .bool true]) ∧ Below w.heap.size w w' := by
  obtain ⟨y, hy⟩ : ∃ y, y = fb p := ⟨_, rfl⟩
  rw [← hy]
  have HY : Hid (y = fb p) := hy
  clear hy
  go_enter Try.func48, Try.ntmps48
  go_wp2
  go_loopw [4] (fun i wr => ∃ k : Nat, 1 ≤ k ∧ k ≤ p ∧ i = .int .u8 k ∧ Below w.heap.size w wr) (fun i _ => 17 - (intOf i).toNat)
  case atStart => exact ⟨1, by omega, hp, rfl, below_self _⟩
  case round =>
    obtain ⟨k, hk0, hk, rfl, hbr⟩ := hrel
    have hlt : k < 17 := by omega
    have hcon := fun w => form_yes k w hk0 hlt
    by_cases he : k = p
    · subst he
      rw [← HY.out] at hcon
      generalize lenN k = L at *
      generalize hA k = A at *
      generalize hB k = B at *
      generalize hM k = M at *
      generalize hD k = D at *
      go_wp2_with (go_at_call 49; refine (hcon _).mono ?_; rintro e w1 ⟨rfl, hb1⟩; have hb2 := below_alloc (below_step hbr hb1) (.cells #[.int .u8 y, .int .i64 L, .bool A, .bool B, .bool M, .bool D] 90); clear hb1 hbr)
      go_ret2
      exact ⟨rfl, hb2⟩
    · have hne : (fb k == y) = false := by
        rw [HY.out]
        exact beq_eq_false_iff_ne.2 fun h => he (fb_inj k hk0 hlt p hp hp' h)
      generalize fb k = x at *
      generalize lenN k = L at *
      generalize hA k = A at *
      generalize hB k = B at *
      generalize hM k = M at *
      generalize hD k = D at *
      go_wp2_with (go_at_call 49; refine (hcon _).mono ?_; rintro e w1 ⟨rfl, hb1⟩; have hb2 := below_alloc (below_step hbr hb1) (.cells #[.int .u8 x, .int .i64 L, .bool A, .bool B, .bool M, .bool D] 90); clear hb1 hbr)
      go_roundw
      case rel => exact ⟨k + 1, by omega, by omega, by go_num, hb2⟩
      case measure => simp [intOf]; omega

set_option maxHeartbeats 1000000 in
theorem ofByte_no (y : Int) (w : World) (hno : ∀ o, 1 ≤ o → o < 17 → fb o ≠ y) :
    Calls Try.prog 48 #[.int .u8 y] w fun e w' => e = .returned (.tuple #[.int .u8 0, .bool false]) ∧ Below w.heap.size w w' := by
  have HN : Hid (∀ o, 1 ≤ o → o < 17 → fb o ≠ y) := hno
  clear hno
  go_enter Try.func48, Try.ntmps48
  go_wp2
  go_loopw [4] (fun i wr => ∃ k : Nat, 1 ≤ k ∧ k ≤ 17 ∧ i = .int .u8 k ∧ Below w.heap.size w wr) (fun i _ => 17 - (intOf i).toNat)
  case atStart => exact ⟨1, by omega, by omega, rfl, below_self _⟩
  case round =>
    obtain ⟨k, hk0, hk, rfl, hbr⟩ := hrel
    by_cases hlt : k < 17
    · have hcon := fun w => form_yes k w hk0 hlt
      have hne : (fb k == y) = false := beq_eq_false_iff_ne.2 (HN.out k hk0 hlt)
      generalize fb k = x at *
      generalize lenN k = L at *
      generalize hA k = A at *
      generalize hB k = B at *
      generalize hM k = M at *
      generalize hD k = D at *
      go_wp2_with (go_at_call 49; refine (hcon _).mono ?_; rintro e w1 ⟨rfl, hb1⟩; have hb2 := below_alloc (below_step hbr hb1) (.cells #[.int .u8 x, .int .i64 L, .bool A, .bool B, .bool M, .bool D] 90); clear hb1 hbr)
      go_roundw
      case rel => exact ⟨k + 1, by omega, by omega, by go_num, hb2⟩
      case measure => simp [intOf]; omega
    · go_wp2
      go_ret2
      exact ⟨rfl, hbr⟩

set_option maxHeartbeats 1000000 in
theorem rlen_yes (p : Nat) (w : World) (hp : 1 ≤ p) (hp' : p < 17) :
    Calls Try.prog 37 #[.int .u8 (fb p)] w fun e w' => e = .returned (.int .i64 (lenN p)) ∧ Below w.heap.size w w' := by
  have hcon := fun w => ofByte_yes p w hp hp'
  have hfrm := fun w => form_yes p w hp hp'
  generalize fb p = y at *
  generalize lenN p = L at *
  generalize hA p = A at *
  generalize hB p = B at *
  generalize hM p = M at *
  generalize hD p = D at *
  go_enter Try.func37, Try.ntmps37
  go_wp2_with fail
  refine (hcon _).mono ?_
  rintro e w1 ⟨rfl, hb1⟩
  go_wp2_with fail
  refine (hfrm _).mono ?_
  rintro e w2 ⟨rfl, hb2⟩
  go_wp2
  go_ret
  exact ⟨rfl, below_alloc (below_step hb1 hb2) _⟩

set_option maxHeartbeats 1000000 in
theorem rlen_no (y : Int) (w : World) (hno : ∀ o, 1 ≤ o → o < 17 → fb o ≠ y) :
    Calls Try.prog 37 #[.int .u8 y] w fun e w' => e = .returned (.int .i64 1) ∧ Below w.heap.size w w' := by
  have hcon := fun w => ofByte_no y w hno
  clear hno
  go_enter Try.func37, Try.ntmps37
  go_wp2_with fail
  refine (hcon _).mono ?_
  rintro e w1 ⟨rfl, hb1⟩
  go_wp2
  go_ret
  exact ⟨rfl, hb1⟩
end Go.Proofs.Yteeeedphhaphpaa
