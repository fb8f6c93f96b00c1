/- What isa.opOf, Length, Name and Op answer. -/
import Derived.Test.YtekggimgobeggaaMet
namespace Go.Proofs.Ytekggimgobeggaa
open Go.RowKit

theorem str_ne {a b : ByteArray} (h : a ≠ b) : (a.toList == b.toList) = false := by
  rw [Lib.toList_data, Lib.toList_data]
  refine beq_eq_false_iff_ne.2 fun e => h ?_
  cases a; cases b
  simp at e
  rw [e]
theorem tab_cell_code (w : World) (o : Nat) (h : o < 17) : (w.alloc (.cells tab 155)).cell? ⟨w.heap.size, o * 4 + 1, none⟩ = some (.string (cd o)) := by
  rw [cell_of_row _ _ _ tab 155 (0, 0) (heap_alloc_last w _), Nat.mul_comm]
  exact tab_code o h
theorem tab_cell_name (w : World) (o : Nat) (h : o < 17) : (w.alloc (.cells tab 155)).cell? ⟨w.heap.size, o * 4, none⟩ = some (.string (nm o)) := by
  rw [cell_of_row _ _ _ tab 155 (0, 0) (heap_alloc_last w _), Nat.mul_comm]
  exact tab_name o h

set_option maxRecDepth 20000 in
set_option maxHeartbeats 1000000 in
theorem isaName_yes (p : Nat) (w : World) (hp' : p < 17) :
    Calls Try.prog 104 #[.int .u8 p] w fun e w' => e = .returned (.string (nm p)) ∧ Below w.heap.size w w' := by
  have hidx := idx_any p hp'
  have hfld : ∀ w, (Instr.field 154 (.agg #[.string (nm p), .string (cd p), .int .i64 (rg p), .int .u8 (kd p)]) 0).run Try.prog w = .ok (.string (nm p)) w := fun _ => by kernel_rfl
  go_enter Try.func104, Try.ntmps104
  go_wp2_with (go_at_call 100; refine (shapes_any _).mono ?_; rintro e w1 ⟨rfl, hb1⟩)
  go_ret
  exact ⟨rfl, hb1⟩

set_option maxRecDepth 20000 in
set_option maxHeartbeats 1000000 in
theorem isaName_no (p : Int) (w : World) (hp : 17 ≤ p) (hp' : p ≤ 255) :
    Calls Try.prog 104 #[.int .u8 p] w fun e w' => e = .returned (.string ⟨#[]⟩) ∧ Below w.heap.size w w' := by
  go_enter Try.func104, Try.ntmps104
  go_wp2
  go_ret
  exact ⟨rfl, below_self _⟩
end Go.Proofs.Ytekggimgobeggaa
