/- What the methods of isa.shape answer: length, holdsRegs, holdsNumber, begins. -/
import Derived.Test.YteeeedphhaphpaaShp
import Derived.Test.YteeeedphhaphpaaSame
namespace Go.Proofs.Yteeeedphhaphpaa
open Go.RowKit

abbrev shp (s c : ByteArray) (r : Nat) (q : Int) : Value := .agg #[.string s, .string c, .int .i64 r, .int .u8 q]

set_option maxHeartbeats 400000 in
theorem length_zero (s c : ByteArray) (r : Nat) (w : World) (hr : r ≤ 2) (hc : c.size ≤ 5) :
    Calls Try.prog 43 #[shp s c r 0] w fun e w' => e = .returned (.int .i64 (c.size + r)) ∧ Below w.heap.size w w' := by
  go_enter Try.func43, Try.ntmps43
  go_wp2
  go_ret
  exact ⟨rfl, new_alloc _ _⟩

set_option maxHeartbeats 400000 in
theorem length_num (s c : ByteArray) (r : Nat) (q : Int) (w : World) (hr : r ≤ 2) (hc : c.size ≤ 5) (hq : q = 1 ∨ q = 2) :
    Calls Try.prog 43 #[shp s c r q] w fun e w' => e = .returned (.int .i64 (c.size + r + 4)) ∧ Below w.heap.size w w' := by
  rcases hq with rfl | rfl
  all_goals
    go_enter Try.func43, Try.ntmps43
    go_wp2
    go_ret
    exact ⟨rfl, new_alloc _ _⟩

theorem ret_i64 {a b : Int} (h : a = b) : Ending.returned (.int .i64 a) = .returned (.int .i64 b) := by rw [h]

theorem length_op (o : Nat) (h : o < 17) (w : World) :
    Calls Try.prog 43 #[shp (nm o) (cd o) (rg o) (kd o)] w fun e w' => e = .returned (.int .i64 (lenN o)) ∧ Below w.heap.size w w' := by
  have hc := cd_size o h
  have hl := cdL_len o h
  by_cases h0 : kd o = 0
  · rw [h0]
    exact (length_zero (nm o) (cd o) (rg o) w (rg_le o h) (by omega)).mono fun e w' ⟨he, hb⟩ => ⟨by rw [he]; exact ret_i64 (by simp [lenN, h0]; omega), hb⟩
  · exact (length_num (nm o) (cd o) (rg o) (kd o) w (rg_le o h) (by omega) (by have := kd_in o h; omega)).mono fun e w' ⟨he, hb⟩ => ⟨by rw [he]; exact ret_i64 (by simp [lenN, h0]; omega), hb⟩

/-- whether a number is one that the op allows -/
def numB (q n : Int) : Bool := if q = 1 then true else if q = 2 then decide (0 ≤ n ∧ n < 65536) else decide (n = 0)

/-- whether a byte is one that a register's place allows -/
def regB (has : Bool) (a : Int) : Bool := if has then decide (a < 8) else decide (a = 0)
theorem two_new (w : World) (o p : Obj) : Below w.heap.size w ((w.alloc o).alloc p) := below_alloc (new_alloc w o) p

/-- whether the bytes begin as the op's do -/
def preB (c : ByteArray) (xs : List Int) : Bool := decide (∀ i (h : i < c.size), xs.getD i 0 = ((c[i]).toNat : Int))

end Go.Proofs.Yteeeedphhaphpaa
