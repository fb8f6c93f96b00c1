/- What the methods of isa.shape answer: length, holdsRegs, holdsNumber, begins. -/
import Derived.Test.YtnpaijbkhmnfpaaGreatShp
import Derived.Test.YtnpaijbkhmnfpaaGreatSame
namespace Go.Proofs.YtnpaijbkhmnfpaaGreat
open Go.RowKit

abbrev shp (s c : ByteArray) (r : Nat) (q : Int) : Value := .agg #[.string s, .string c, .int .i64 r, .int .u8 q]

set_option maxHeartbeats 400000 in
theorem length_zero (s c : ByteArray) (r : Nat) (w : World) (hr : r ≤ 2) (hc : c.size ≤ 5) :
    Calls Tryz.prog 100 #[shp s c r 0] w fun e w' => e = .returned (.int .i64 (c.size + r)) ∧ Below w.heap.size w w' := by
  go_enter Tryz.func100, Tryz.ntmps100
  go_wp2
  go_ret
  exact ⟨rfl, new_alloc _ _⟩

set_option maxHeartbeats 400000 in
theorem length_num (s c : ByteArray) (r : Nat) (q : Int) (w : World) (hr : r ≤ 2) (hc : c.size ≤ 5) (hq : q = 1 ∨ q = 2) :
    Calls Tryz.prog 100 #[shp s c r q] w fun e w' => e = .returned (.int .i64 (c.size + r + 4)) ∧ Below w.heap.size w w' := by
  rcases hq with rfl | rfl
  all_goals
    go_enter Tryz.func100, Tryz.ntmps100
    go_wp2
    go_ret
    exact ⟨rfl, new_alloc _ _⟩

theorem ret_i64 {a b : Int} (h : a = b) : Ending.returned (.int .i64 a) = .returned (.int .i64 b) := by rw [h]

theorem length_op (o : Nat) (h : o < 17) (w : World) :
    Calls Tryz.prog 100 #[shp (nm o) (cd o) (rg o) (kd o)] w fun e w' => e = .returned (.int .i64 (lenN o)) ∧ Below w.heap.size w w' := by
  have hc := cd_size o h
  have hl := cdL_len o h
  by_cases h0 : kd o = 0
  · rw [h0]
    exact (length_zero (nm o) (cd o) (rg o) w (rg_le o h) (by omega)).mono fun e w' ⟨he, hb⟩ => ⟨by rw [he]; exact ret_i64 (by simp [lenN, h0]; omega), hb⟩
  · exact (length_num (nm o) (cd o) (rg o) (kd o) w (rg_le o h) (by omega) (by have := kd_in o h; omega)).mono fun e w' ⟨he, hb⟩ => ⟨by rw [he]; exact ret_i64 (by simp [lenN, h0]; omega), hb⟩

/-- whether a number is one that the op allows -/
def numB (q n : Int) : Bool := if q = 1 then true else if q = 2 then decide (0 ≤ n ∧ n < 65536) else decide (n = 0)

set_option maxHeartbeats 400000 in
theorem holdsNum_any (s c : ByteArray) (r : Nat) (q n : Int) (w : World) (hq : q = 0 ∨ q = 1 ∨ q = 2) :
    Calls Tryz.prog 126 #[shp s c r q, .int .i32 n] w fun e w' => e = .returned (.bool (numB q n)) ∧ Below w.heap.size w w' := by
  rcases hq with rfl | rfl | rfl
  · by_cases h : n = 0
    · subst h
      go_enter Tryz.func126, Tryz.ntmps126
      go_wp2
      go_ret
      exact ⟨rfl, new_alloc _ _⟩
    · have hd : (n == 0) = false := by simpa using h
      go_enter Tryz.func126, Tryz.ntmps126
      go_wp2
      go_ret
      exact ⟨ret_bool (by simp [numB, h]), new_alloc _ _⟩
  · go_enter Tryz.func126, Tryz.ntmps126
    go_wp2
    go_ret
    exact ⟨rfl, new_alloc _ _⟩
  · by_cases h0 : 0 ≤ n
    · by_cases h1 : n < 65536
      · go_enter Tryz.func126, Tryz.ntmps126
        go_wp2
        go_ret
        exact ⟨ret_bool (by simp [numB, h0, h1]), new_alloc _ _⟩
      · go_enter Tryz.func126, Tryz.ntmps126
        go_wp2
        go_ret
        exact ⟨ret_bool (by simp [numB, h1]), new_alloc _ _⟩
    · have hd : decide (0 ≤ n) = false := by simpa using h0
      go_enter Tryz.func126, Tryz.ntmps126
      go_wp2
      go_ret
      exact ⟨ret_bool (by simp [numB]; omega), new_alloc _ _⟩

/-- whether a byte is one that a register's place allows -/
def regB (has : Bool) (a : Int) : Bool := if has then decide (a < 8) else decide (a = 0)
theorem two_new (w : World) (o p : Obj) : Below w.heap.size w ((w.alloc o).alloc p) := below_alloc (new_alloc w o) p

set_option maxHeartbeats 1000000 in
theorem holdsRegs_any (s c : ByteArray) (r : Nat) (q a b : Int) (w : World) (hr : r ≤ 2) (ha : 0 ≤ a ∧ a ≤ 255) (hb : 0 ≤ b ∧ b ≤ 255) :
    Calls Tryz.prog 125 #[shp s c r q, .agg #[.int .u8 a, .int .u8 b]] w fun e w' => e = .returned (.bool (regB (decide (1 ≤ r)) a && regB (decide (2 ≤ r)) b)) ∧ Below w.heap.size w w' := by
  obtain rfl | rfl | rfl : r = 0 ∨ r = 1 ∨ r = 2 := by omega
  · by_cases h1 : a = 0
    · subst h1
      by_cases h2 : b = 0
      · subst h2
        go_enter Tryz.func125, Tryz.ntmps125
        go_wp2
        refine wp_loop_rounds 3 ?_
        rw [rounds_succ]; go_wp2
        rw [rounds_succ]; go_wp2
        rw [rounds_succ]; go_wp2
        go_ret
        exact ⟨rfl, two_new _ _ _⟩
      · have hd : (b != 0) = true := by simpa using h2
        go_enter Tryz.func125, Tryz.ntmps125
        go_wp2
        refine wp_loop_rounds 3 ?_
        rw [rounds_succ]; go_wp2
        rw [rounds_succ]; go_wp2
        go_ret
        exact ⟨ret_bool (by simp [regB, h2]), two_new _ _ _⟩
    · have hd : (a != 0) = true := by simpa using h1
      go_enter Tryz.func125, Tryz.ntmps125
      go_wp2
      refine wp_loop_rounds 3 ?_
      rw [rounds_succ]; go_wp2
      go_ret
      exact ⟨ret_bool (by simp [regB, h1]), two_new _ _ _⟩
  · by_cases h1 : a < 8
    · by_cases h2 : b = 0
      · subst h2
        go_enter Tryz.func125, Tryz.ntmps125
        go_wp2
        refine wp_loop_rounds 3 ?_
        rw [rounds_succ]; go_wp2
        rw [rounds_succ]; go_wp2
        rw [rounds_succ]; go_wp2
        go_ret
        exact ⟨ret_bool (by simp [regB, h1]), two_new _ _ _⟩
      · have hd : (b != 0) = true := by simpa using h2
        go_enter Tryz.func125, Tryz.ntmps125
        go_wp2
        refine wp_loop_rounds 3 ?_
        rw [rounds_succ]; go_wp2
        rw [rounds_succ]; go_wp2
        go_ret
        exact ⟨ret_bool (by simp [regB, h2]), two_new _ _ _⟩
    · go_enter Tryz.func125, Tryz.ntmps125
      go_wp2
      refine wp_loop_rounds 3 ?_
      rw [rounds_succ]; go_wp2
      go_ret
      exact ⟨ret_bool (by simp [regB]; omega), two_new _ _ _⟩
  · by_cases h1 : a < 8
    · by_cases h2 : b < 8
      · go_enter Tryz.func125, Tryz.ntmps125
        go_wp2
        refine wp_loop_rounds 3 ?_
        rw [rounds_succ]; go_wp2
        rw [rounds_succ]; go_wp2
        rw [rounds_succ]; go_wp2
        go_ret
        exact ⟨ret_bool (by simp [regB, h1, h2]), two_new _ _ _⟩
      · go_enter Tryz.func125, Tryz.ntmps125
        go_wp2
        refine wp_loop_rounds 3 ?_
        rw [rounds_succ]; go_wp2
        rw [rounds_succ]; go_wp2
        go_ret
        exact ⟨ret_bool (by simp [regB]; omega), two_new _ _ _⟩
    · go_enter Tryz.func125, Tryz.ntmps125
      go_wp2
      refine wp_loop_rounds 3 ?_
      rw [rounds_succ]; go_wp2
      go_ret
      exact ⟨ret_bool (by simp [regB]; omega), two_new _ _ _⟩

/-- whether the bytes begin as the op's do -/
def preB (c : ByteArray) (xs : List Int) : Bool := decide (∀ i (h : i < c.size), xs.getD i 0 = ((c[i]).toNat : Int))

set_option maxHeartbeats 1000000 in
theorem begins_at (s c : ByteArray) (r : Nat) (q : Int) (b o n cp : Nat) (xs : List Int) (w : World) (hn : n ≤ 9223372036854775807) (hl : c.size ≤ n) (hcell : ∀ i, i < n → w.cell? ⟨b, o + i, none⟩ = some (.int .u8 (xs.getD i 0))) :
    Calls Tryz.prog 97 #[shp s c r q, .slice (some ⟨b, o, none⟩) n cp] w fun e w' => e = .returned (.bool (preB c xs)) ∧ Below w.heap.size w w' := by
  have HC : Hid (∀ i, i < n → w.cell? ⟨b, o + i, none⟩ = some (.int .u8 (xs.getD i 0))) := hcell
  clear hcell
  go_enter Tryz.func97, Tryz.ntmps97
  go_wp2
  go_loopw [9] (fun i wr => ∃ k m : Nat, k ≤ c.size ∧ i = .int .i64 k ∧ wr = (w.alloc (.cells #[.string s, .string c, .int .i64 r, .int .u8 q] 174)).drewN m ∧ ∀ j (h : j < c.size), j < k → xs.getD j 0 = ((c[j]).toNat : Int)) (fun i _ => c.size - (intOf i).toNat)
  case atStart => exact ⟨0, 0, Nat.zero_le _, rfl, rfl, fun j _ hj => absurd hj (Nat.not_lt_zero _)⟩
  case round =>
    obtain ⟨k, m, hk, rfl, rfl, hs⟩ := hrel
    have HS : Hid (∀ j (h : j < c.size), j < k → xs.getD j 0 = ((c[j]).toNat : Int)) := hs
    clear hs
    by_cases hlt : k < c.size
    · have hcd := HC.out k (by omega)
      have hlb := cell_lt hcd
      have c1 : (w.alloc (.cells #[.string s, .string c, .int .i64 r, .int .u8 q] 174)).cell? ⟨b, o + k, none⟩ = some (.int .u8 (xs.getD k 0)) := by
        rw [(new_alloc w _).cell (p := ⟨b, o + k, none⟩) hlb]; exact hcd
      clear hcd
      obtain ⟨x, hx⟩ : ∃ x, x = xs.getD k 0 := ⟨_, rfl⟩
      rw [← hx] at c1
      have E1 : Hid (x = xs.getD k 0) := hx
      clear hx
      cases hb : (x != ((c[k]).toNat : Int))
      · go_wp2
        go_quiet (fail)
        go_wp2
        go_roundw
        case rel =>
          refine ⟨k + 1, _, by omega, by go_num, rfl, fun j hj hjk => ?_⟩
          by_cases e : j = k
          · subst e; rw [← E1.out]; simpa using hb
          · exact HS.out j hj (by omega)
        case measure => simp [intOf]; omega
      · go_wp2
        go_quiet (fail)
        go_wp2
        go_ret
        refine ⟨ret_bool ?_, below_draws (below_draws (new_alloc _ _) _) _⟩
        refine (decide_eq_false fun h => ?_).symm
        have := h k hlt
        rw [← E1.out] at this
        simp [this] at hb
    · go_wp2
      go_ret
      refine ⟨ret_bool ?_, below_draws (new_alloc _ _) _⟩
      exact (decide_eq_true fun i h => HS.out i h (by omega)).symm
end Go.Proofs.YtnpaijbkhmnfpaaGreat
