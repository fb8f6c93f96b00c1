/- What isa.opOf, Length, Name and Op answer. -/
import Derived.Test.YtnpaijbkhmnfpaaGreatMet
namespace Go.Proofs.YtnpaijbkhmnfpaaGreat
open Go.RowKit

theorem str_ne {a b : ByteArray} (h : a ≠ b) : (a.toList == b.toList) = false := by
  rw [Lib.toList_data, Lib.toList_data]
  refine beq_eq_false_iff_ne.2 fun e => h ?_
  cases a; cases b
  simp at e
  rw [e]
theorem tab_cell_code (w : World) (o : Nat) (h : o < 17) : (w.alloc (.cells tab 175)).cell? ⟨w.heap.size, o * 4 + 1, none⟩ = some (.string (cd o)) := by
  rw [cell_of_row _ _ _ tab 175 (0, 0) (heap_alloc_last w _), Nat.mul_comm]
  exact tab_code o h
theorem tab_cell_name (w : World) (o : Nat) (h : o < 17) : (w.alloc (.cells tab 175)).cell? ⟨w.heap.size, o * 4, none⟩ = some (.string (nm o)) := by
  rw [cell_of_row _ _ _ tab 175 (0, 0) (heap_alloc_last w _), Nat.mul_comm]
  exact tab_name o h

set_option maxRecDepth 20000 in
set_option maxHeartbeats 1000000 in
theorem opOf_yes (p : Nat) (w : World) (hp : 1 ≤ p) (hp' : p < 17) :
    Calls Tryz.prog 95 #[.int .u8 (fb p)] w fun e w' => e = .returned (.tuple #[.int .u8 p, .bool true]) ∧ Below w.heap.size w w' := by
  obtain ⟨z, hzs, hz⟩ := zero_tab
  have HZ : Hid (z.size = tab.size) := hzs
  clear hzs
  obtain ⟨y, hy⟩ : ∃ y, y = fb p := ⟨_, rfl⟩
  rw [← hy]
  have HY : Hid (y = fb p) := hy
  clear hy
  go_enter Tryz.func95, Tryz.ntmps95
  go_wp2_with (first | (go_at_call 96; refine (shapes_any _).mono ?_; rintro e w1 ⟨rfl, hb1⟩) | (refine step_store_new rfl 175 _ _ rfl rfl rfl tab rfl Tryz.sizeTab HZ.out tab_one ?_))
  have HC : Hid (∀ o, o < 17 → (w1.alloc (.cells tab 175)).cell? ⟨w1.heap.size, o * 4 + 1, none⟩ = some (.string (cd o))) := fun o h => tab_cell_code w1 o h
  have hb2 := below_alloc hb1 (.cells tab 175)
  clear hb1 hz HZ
  generalize w1.alloc (.cells tab 175) = w2 at *
  go_loop [7] (fun i => ∃ k : Nat, k ≤ p ∧ i = .int .i64 k) (fun i => 17 - (intOf i).toNat)
  case atStart => exact ⟨0, Nat.zero_le _, rfl⟩
  case round =>
    obtain ⟨k, hk, rfl⟩ := hrel
    have hlt : k < 17 := by omega
    by_cases h0 : k = 0
    · subst h0
      go_wp2
      go_round
      case rel => exact ⟨1, by omega, rfl⟩
      case measure => simp [intOf]
    · have hpos : 0 < k := by omega
      have c1 := HC.out k hlt
      have i1 := code_at k hpos hlt
      by_cases he : k = p
      · subst he
        have hy2 : fb k = y := HY.out.symm
        rw [hy2] at i1
        clear hy2
        generalize cd k = s at *
        go_wp2
        go_ret2
        exact ⟨rfl, hb2⟩
      · have hne : (fb k == y) = false := by
          rw [HY.out]
          exact beq_eq_false_iff_ne.2 fun h => he (fb_inj k hpos hlt p hp hp' h)
        generalize cd k = s at *
        generalize fb k = x at *
        go_wp2
        go_round
        case rel => exact ⟨k + 1, by omega, by go_num⟩
        case measure => simp [intOf]; omega

set_option maxRecDepth 20000 in
set_option maxHeartbeats 1000000 in
theorem opOf_no (y : Int) (w : World) (hno : ∀ o, 1 ≤ o → o < 17 → fb o ≠ y) :
    Calls Tryz.prog 95 #[.int .u8 y] w fun e w' => e = .returned (.tuple #[.int .u8 0, .bool false]) ∧ Below w.heap.size w w' := by
  obtain ⟨z, hzs, hz⟩ := zero_tab
  have HZ : Hid (z.size = tab.size) := hzs
  have HN : Hid (∀ o, 1 ≤ o → o < 17 → fb o ≠ y) := hno
  clear hzs hno
  go_enter Tryz.func95, Tryz.ntmps95
  go_wp2_with (first | (go_at_call 96; refine (shapes_any _).mono ?_; rintro e w1 ⟨rfl, hb1⟩) | (refine step_store_new rfl 175 _ _ rfl rfl rfl tab rfl Tryz.sizeTab HZ.out tab_one ?_))
  have HC : Hid (∀ o, o < 17 → (w1.alloc (.cells tab 175)).cell? ⟨w1.heap.size, o * 4 + 1, none⟩ = some (.string (cd o))) := fun o h => tab_cell_code w1 o h
  have hb2 := below_alloc hb1 (.cells tab 175)
  clear hb1 hz HZ
  generalize w1.alloc (.cells tab 175) = w2 at *
  go_loop [7] (fun i => ∃ k : Nat, k ≤ 17 ∧ i = .int .i64 k) (fun i => 17 - (intOf i).toNat)
  case atStart => exact ⟨0, Nat.zero_le _, rfl⟩
  case round =>
    obtain ⟨k, hk, rfl⟩ := hrel
    by_cases hlt : k < 17
    · by_cases h0 : k = 0
      · subst h0
        go_wp2
        go_round
        case rel => exact ⟨1, by omega, rfl⟩
        case measure => simp [intOf]
      · have hpos : 0 < k := by omega
        have c1 := HC.out k hlt
        have i1 := code_at k hpos hlt
        have hne : (fb k == y) = false := beq_eq_false_iff_ne.2 (HN.out k hpos hlt)
        generalize cd k = s at *
        generalize fb k = x at *
        go_wp2
        go_round
        case rel => exact ⟨k + 1, by omega, by go_num⟩
        case measure => simp [intOf]; omega
    · go_wp2
      go_ret2
      exact ⟨rfl, hb2⟩

set_option maxRecDepth 20000 in
set_option maxHeartbeats 1000000 in
theorem len_yes (p : Nat) (w : World) (hp : 1 ≤ p) (hp' : p < 17) :
    Calls Tryz.prog 77 #[.int .u8 (fb p)] w fun e w' => e = .returned (.int .i64 (lenN p)) ∧ Below w.heap.size w w' := by
  have hcon := opOf_yes p w hp hp'
  have hidx := idx_any p hp'
  generalize fb p = y at *
  go_enter Tryz.func77, Tryz.ntmps77
  go_wp2_with fail
  refine hcon.mono ?_
  rintro e w1 ⟨rfl, hb1⟩
  clear hcon
  go_wp2_with fail
  refine (shapes_any _).mono ?_
  rintro e w2 ⟨rfl, hb2⟩
  go_wp2_with fail
  refine (length_op p hp' _).mono ?_
  rintro e w3 ⟨rfl, hb3⟩
  go_wp2
  go_ret
  exact ⟨rfl, below_step (below_step hb1 hb2) hb3⟩

set_option maxRecDepth 20000 in
set_option maxHeartbeats 1000000 in
theorem len_no (y : Int) (w : World) (hno : ∀ o, 1 ≤ o → o < 17 → fb o ≠ y) :
    Calls Tryz.prog 77 #[.int .u8 y] w fun e w' => e = .returned (.int .i64 1) ∧ Below w.heap.size w w' := by
  have hcon := opOf_no y w hno
  clear hno
  go_enter Tryz.func77, Tryz.ntmps77
  go_wp2_with fail
  refine hcon.mono ?_
  rintro e w1 ⟨rfl, hb1⟩
  clear hcon
  go_wp2
  go_ret
  exact ⟨rfl, hb1⟩

set_option maxRecDepth 20000 in
set_option maxHeartbeats 1000000 in
theorem isaName_yes (p : Nat) (w : World) (hp' : p < 17) :
    Calls Tryz.prog 124 #[.int .u8 p] w fun e w' => e = .returned (.string (nm p)) ∧ Below w.heap.size w w' := by
  have hidx := idx_any p hp'
  have hfld : ∀ w, (Instr.field 174 (.agg #[.string (nm p), .string (cd p), .int .i64 (rg p), .int .u8 (kd p)]) 0).run Tryz.prog w = .ok (.string (nm p)) w := fun _ => by kernel_rfl
  go_enter Tryz.func124, Tryz.ntmps124
  go_wp2_with (go_at_call 96; refine (shapes_any _).mono ?_; rintro e w1 ⟨rfl, hb1⟩)
  go_ret
  exact ⟨rfl, hb1⟩

set_option maxRecDepth 20000 in
set_option maxHeartbeats 1000000 in
theorem isaName_no (p : Int) (w : World) (hp : 17 ≤ p) (hp' : p ≤ 255) :
    Calls Tryz.prog 124 #[.int .u8 p] w fun e w' => e = .returned (.string ⟨#[]⟩) ∧ Below w.heap.size w w' := by
  go_enter Tryz.func124, Tryz.ntmps124
  go_wp2
  go_ret
  exact ⟨rfl, below_self _⟩
end Go.Proofs.YtnpaijbkhmnfpaaGreat
