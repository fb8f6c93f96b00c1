/- What the methods of isa.shape answer: length, holdsRegs, holdsNumber, begins. -/
import Derived.Test.YtekggimgobeggaaShp
import Derived.Test.YtekggimgobeggaaSame
namespace Go.Proofs.Ytekggimgobeggaa
open Go.RowKit

abbrev shp (s c : ByteArray) (r : Nat) (q : Int) : Value := .agg #[.string s, .string c, .int .i64 r, .int .u8 q]

set_option maxHeartbeats 400000 in
theorem length_zero (s c : ByteArray) (r : Nat) (w : World) (hr : r ≤ 2) (hc : c.size ≤ 5) :
    Calls Try.prog 101 #[shp s c r 0] w fun e w' => e = .returned (.int .i64 (c.size + r)) ∧ Below w.heap.size w w' := by
  go_enter Try.func101, Try.ntmps101
  go_wp2
  go_ret
  exact ⟨rfl, new_alloc _ _⟩

set_option maxHeartbeats 400000 in
theorem length_num (s c : ByteArray) (r : Nat) (q : Int) (w : World) (hr : r ≤ 2) (hc : c.size ≤ 5) (hq : q = 1 ∨ q = 2) :
    Calls Try.prog 101 #[shp s c r q] w fun e w' => e = .returned (.int .i64 (c.size + r + 4)) ∧ Below w.heap.size w w' := by
  rcases hq with rfl | rfl
  all_goals
    go_enter Try.func101, Try.ntmps101
    go_wp2
    go_ret
    exact ⟨rfl, new_alloc _ _⟩

theorem ret_i64 {a b : Int} (h : a = b) : Ending.returned (.int .i64 a) = .returned (.int .i64 b) := by rw [h]

theorem length_op (o : Nat) (h : o < 17) (w : World) :
    Calls Try.prog 101 #[shp (nm o) (cd o) (rg o) (kd o)] w fun e w' => e = .returned (.int .i64 (lenN o)) ∧ Below w.heap.size w w' := by
  have hc := cd_size o h
  have hl := cdL_len o h
  by_cases h0 : kd o = 0
  · rw [h0]
    exact (length_zero (nm o) (cd o) (rg o) w (rg_le o h) (by omega)).mono fun e w' ⟨he, hb⟩ => ⟨by rw [he]; exact ret_i64 (by simp [lenN, h0]; omega), hb⟩
  · exact (length_num (nm o) (cd o) (rg o) (kd o) w (rg_le o h) (by omega) (by have := kd_in o h; omega)).mono fun e w' ⟨he, hb⟩ => ⟨by rw [he]; exact ret_i64 (by simp [lenN, h0]; omega), hb⟩

/-- whether a number is one that the op allows -/
def numB (q n : Int) : Bool := if q = 1 then true else if q = 2 then decide (0 ≤ n ∧ n < 65536) else decide (n = 0)

set_option maxHeartbeats 400000 in
theorem holdsNum_any (s c : ByteArray) (r : Nat) (q n : Int) (w : World) (hq : q = 0 ∨ q = 1 ∨ q = 2) :
    Calls Try.prog 106 #[shp s c r q, .int .i32 n] w fun e w' => e = .returned (.bool (numB q n)) ∧ Below w.heap.size w w' := by
  rcases hq with rfl | rfl | rfl
  · by_cases h : n = 0
    · subst h
      go_enter Try.func106, Try.ntmps106
      go_wp2
      go_ret
      exact ⟨rfl, new_alloc _ _⟩
    · have hd : (n == 0) = false := by simpa using h
      go_enter Try.func106, Try.ntmps106
      go_wp2
      go_ret
      exact ⟨ret_bool (by simp [numB, h]), new_alloc _ _⟩
  · go_enter Try.func106, Try.ntmps106
    go_wp2
    go_ret
    exact ⟨rfl, new_alloc _ _⟩
  · by_cases h0 : 0 ≤ n
    · by_cases h1 : n < 65536
      · go_enter Try.func106, Try.ntmps106
        go_wp2
        go_ret
        exact ⟨ret_bool (by simp [numB, h0, h1]), new_alloc _ _⟩
      · go_enter Try.func106, Try.ntmps106
        go_wp2
        go_ret
        exact ⟨ret_bool (by simp [numB, h1]), new_alloc _ _⟩
    · have hd : decide (0 ≤ n) = false := by simpa using h0
      go_enter Try.func106, Try.ntmps106
      go_wp2
      go_ret
      exact ⟨ret_bool (by simp [numB]; omega), new_alloc _ _⟩

/-- whether a byte is one that a register's place allows -/
def regB (has : Bool) (a : Int) : Bool := if has then decide (a < 8) else decide (a = 0)
theorem two_new (w : World) (o p : Obj) : Below w.heap.size w ((w.alloc o).alloc p) := below_alloc (new_alloc w o) p

set_option maxHeartbeats 1000000 in
theorem holdsRegs_any (s c : ByteArray) (r : Nat) (q a b : Int) (w : World) (hr : r ≤ 2) (ha : 0 ≤ a ∧ a ≤ 255) (hb : 0 ≤ b ∧ b ≤ 255) :
    Calls Try.prog 105 #[shp s c r q, .agg #[.int .u8 a, .int .u8 b]] w fun e w' => e = .returned (.bool (regB (decide (1 ≤ r)) a && regB (decide (2 ≤ r)) b)) ∧ Below w.heap.size w w' := by
  obtain rfl | rfl | rfl : r = 0 ∨ r = 1 ∨ r = 2 := by omega
  · by_cases h1 : a = 0
    · subst h1
      by_cases h2 : b = 0
      · subst h2
        go_enter Try.func105, Try.ntmps105
        go_wp2
        refine wp_loop_rounds 3 ?_
        rw [rounds_succ]; go_wp2
        rw [rounds_succ]; go_wp2
        rw [rounds_succ]; go_wp2
        go_ret
        exact ⟨rfl, two_new _ _ _⟩
      · have hd : (b != 0) = true := by simpa using h2
        go_enter Try.func105, Try.ntmps105
        go_wp2
        refine wp_loop_rounds 3 ?_
        rw [rounds_succ]; go_wp2
        rw [rounds_succ]; go_wp2
        go_ret
        exact ⟨ret_bool (by simp [regB, h2]), two_new _ _ _⟩
    · have hd : (a != 0) = true := by simpa using h1
      go_enter Try.func105, Try.ntmps105
      go_wp2
      refine wp_loop_rounds 3 ?_
      rw [rounds_succ]; go_wp2
      go_ret
      exact ⟨ret_bool (by simp [regB, h1]), two_new _ _ _⟩
  · by_cases h1 : a < 8
    · by_cases h2 : b = 0
      · subst h2
        go_enter Try.func105, Try.ntmps105
        go_wp2
        refine wp_loop_rounds 3 ?_
        rw [rounds_succ]; go_wp2
        rw [rounds_succ]; go_wp2
        rw [rounds_succ]; go_wp2
        go_ret
        exact ⟨ret_bool (by simp [regB, h1]), two_new _ _ _⟩
      · have hd : (b != 0) = true := by simpa using h2
        go_enter Try.func105, Try.ntmps105
        go_wp2
        refine wp_loop_rounds 3 ?_
        rw [rounds_succ]; go_wp2
        rw [rounds_succ]; go_wp2
        go_ret
        exact ⟨ret_bool (by simp [regB, h2]), two_new _ _ _⟩
    · go_enter Try.func105, Try.ntmps105
      go_wp2
      refine wp_loop_rounds 3 ?_
      rw [rounds_succ]; go_wp2
      go_ret
      exact ⟨ret_bool (by simp [regB]; omega), two_new _ _ _⟩
  · by_cases h1 : a < 8
    · by_cases h2 : b < 8
      · go_enter Try.func105, Try.ntmps105
        go_wp2
        refine wp_loop_rounds 3 ?_
        rw [rounds_succ]; go_wp2
        rw [rounds_succ]; go_wp2
        rw [rounds_succ]; go_wp2
        go_ret
        exact ⟨ret_bool (by simp [regB, h1, h2]), two_new _ _ _⟩
      · go_enter Try.func105, Try.ntmps105
        go_wp2
        refine wp_loop_rounds 3 ?_
        rw [rounds_succ]; go_wp2
        rw [rounds_succ]; go_wp2
        go_ret
        exact ⟨ret_bool (by simp [regB]; omega), two_new _ _ _⟩
    · go_enter Try.func105, Try.ntmps105
      go_wp2
      refine wp_loop_rounds 3 ?_
      rw [rounds_succ]; go_wp2
      go_ret
      exact ⟨ret_bool (by simp [regB]; omega), two_new _ _ _⟩

/-- whether the bytes begin as the op's do -/
def preB (c : ByteArray) (xs : List Int) : Bool := decide (∀ i (h : i < c.size), xs.getD i 0 = ((c[i]).toNat : Int))

end Go.Proofs.Ytekggimgobeggaa
