/- What switchyardref02.Right answers, for every instruction: the same as the program's. -/
import Derived.Test.YtdbpeigcnhhpmaaRefOps
namespace Go.Proofs.Ytdbpeigcnhhpmaa
open Go.RowKit

def rightF (A B M D : Bool) (a b n : Int) : Bool := regB A a && regB B b && if M then (if D then decide (0 ≤ n ∧ n < 65536) else true) else decide (n = 0)
/-- the six kinds of ops -/
def Kind (A B M D : Bool) : Prop := (A, B, M, D) = (false, false, false, false) ∨ (A, B, M, D) = (true, false, true, false) ∨ (A, B, M, D) = (true, true, false, false) ∨ (A, B, M, D) = (false, false, true, false) ∨ (A, B, M, D) = (true, false, true, true) ∨ (A, B, M, D) = (true, false, false, false)
theorem kind_of (o : Nat) (h1 : 1 ≤ o) (h2 : o < 17) : Kind (hA o) (hB o) (hM o) (hD o) := by
  have : ∀ k : Fin 17, 1 ≤ k.1 → Kind (hA k.1) (hB k.1) (hM k.1) (hD k.1) := by unfold Kind; decide +kernel
  exact this ⟨o, h2⟩ h1

set_option maxHeartbeats 2000000 in
theorem rright_gen (f L o a b n : Int) (A B M D : Bool) (w : World) (ha : 0 ≤ a ∧ a ≤ 255) (hb : 0 ≤ b ∧ b ≤ 255)
    (hfrm : ∀ w, Calls Try.prog 33 #[.int .u8 o] w fun e w' => e = .returned (.tuple #[frm f L A B M D, .bool true]) ∧ Below w.heap.size w w')
    (hc : Kind A B M D) :
    Calls Try.prog 32 #[ins o a b n] w fun e w' => e = .returned (.bool (rightF A B M D a b n)) ∧ Below w.heap.size w w' := by
  simp only [Kind, Prod.mk.injEq] at hc
  obtain ⟨rfl, rfl, rfl, rfl⟩ | ⟨rfl, rfl, rfl, rfl⟩ | ⟨rfl, rfl, rfl, rfl⟩ | ⟨rfl, rfl, rfl, rfl⟩ | ⟨rfl, rfl, rfl, rfl⟩ | ⟨rfl, rfl, rfl, rfl⟩ := hc
  · go_enter Try.func32, Try.ntmps32
    go_wp2_with fail
    refine (hfrm _).mono ?_
    rintro e w1 ⟨rfl, hb1⟩
    obtain ⟨p0, p1, p2, p3⟩ := ((At4.new w (.int .u8 o) (.int .u8 a) (.int .u8 b) (.int .i32 n) 24).below hb1).below (new_alloc w1 (.cells #[.int .u8 f, .int .i64 L, .bool false, .bool false, .bool false, .bool false] 70))
    have hbw := below_alloc (below_step (new_alloc w _) hb1) (.cells #[.int .u8 f, .int .i64 L, .bool false, .bool false, .bool false, .bool false] 70)
    clear hb1 hfrm
    go_wp2
    all_goals
      go_ret
      refine ⟨ret_bool ?_, hbw⟩
      clear p0 p1 p2 p3 hbw
      try simp only [bne_iff_ne, ne_eq, bne_eq_false_iff_eq] at *
      first
        | (symm; simp [rightF, regB]; omega)
        | (symm; simp [rightF, regB, *]; done)
        | (symm; rw [Bool.eq_iff_iff]; simp [rightF, regB]; omega)
        | (symm; rw [Bool.eq_false_iff]; intro hq; simp [rightF, regB] at hq; omega)
  · go_enter Try.func32, Try.ntmps32
    go_wp2_with fail
    refine (hfrm _).mono ?_
    rintro e w1 ⟨rfl, hb1⟩
    obtain ⟨p0, p1, p2, p3⟩ := ((At4.new w (.int .u8 o) (.int .u8 a) (.int .u8 b) (.int .i32 n) 24).below hb1).below (new_alloc w1 (.cells #[.int .u8 f, .int .i64 L, .bool true, .bool false, .bool true, .bool false] 70))
    have hbw := below_alloc (below_step (new_alloc w _) hb1) (.cells #[.int .u8 f, .int .i64 L, .bool true, .bool false, .bool true, .bool false] 70)
    clear hb1 hfrm
    go_wp2
    all_goals
      go_ret
      refine ⟨ret_bool ?_, hbw⟩
      clear p0 p1 p2 p3 hbw
      try simp only [bne_iff_ne, ne_eq, bne_eq_false_iff_eq] at *
      first
        | (symm; simp [rightF, regB]; omega)
        | (symm; simp [rightF, regB, *]; done)
        | (symm; rw [Bool.eq_iff_iff]; simp [rightF, regB]; omega)
        | (symm; rw [Bool.eq_false_iff]; intro hq; simp [rightF, regB] at hq; omega)
  · go_enter Try.func32, Try.ntmps32
    go_wp2_with fail
    refine (hfrm _).mono ?_
    rintro e w1 ⟨rfl, hb1⟩
    obtain ⟨p0, p1, p2, p3⟩ := ((At4.new w (.int .u8 o) (.int .u8 a) (.int .u8 b) (.int .i32 n) 24).below hb1).below (new_alloc w1 (.cells #[.int .u8 f, .int .i64 L, .bool true, .bool true, .bool false, .bool false] 70))
    have hbw := below_alloc (below_step (new_alloc w _) hb1) (.cells #[.int .u8 f, .int .i64 L, .bool true, .bool true, .bool false, .bool false] 70)
    clear hb1 hfrm
    go_wp2
    all_goals
      go_ret
      refine ⟨ret_bool ?_, hbw⟩
      clear p0 p1 p2 p3 hbw
      try simp only [bne_iff_ne, ne_eq, bne_eq_false_iff_eq] at *
      first
        | (symm; simp [rightF, regB]; omega)
        | (symm; simp [rightF, regB, *]; done)
        | (symm; rw [Bool.eq_iff_iff]; simp [rightF, regB]; omega)
        | (symm; rw [Bool.eq_false_iff]; intro hq; simp [rightF, regB] at hq; omega)
  · go_enter Try.func32, Try.ntmps32
    go_wp2_with fail
    refine (hfrm _).mono ?_
    rintro e w1 ⟨rfl, hb1⟩
    obtain ⟨p0, p1, p2, p3⟩ := ((At4.new w (.int .u8 o) (.int .u8 a) (.int .u8 b) (.int .i32 n) 24).below hb1).below (new_alloc w1 (.cells #[.int .u8 f, .int .i64 L, .bool false, .bool false, .bool true, .bool false] 70))
    have hbw := below_alloc (below_step (new_alloc w _) hb1) (.cells #[.int .u8 f, .int .i64 L, .bool false, .bool false, .bool true, .bool false] 70)
    clear hb1 hfrm
    go_wp2
    all_goals
      go_ret
      refine ⟨ret_bool ?_, hbw⟩
      clear p0 p1 p2 p3 hbw
      try simp only [bne_iff_ne, ne_eq, bne_eq_false_iff_eq] at *
      first
        | (symm; simp [rightF, regB]; omega)
        | (symm; simp [rightF, regB, *]; done)
        | (symm; rw [Bool.eq_iff_iff]; simp [rightF, regB]; omega)
        | (symm; rw [Bool.eq_false_iff]; intro hq; simp [rightF, regB] at hq; omega)
  · go_enter Try.func32, Try.ntmps32
    go_wp2_with fail
    refine (hfrm _).mono ?_
    rintro e w1 ⟨rfl, hb1⟩
    obtain ⟨p0, p1, p2, p3⟩ := ((At4.new w (.int .u8 o) (.int .u8 a) (.int .u8 b) (.int .i32 n) 24).below hb1).below (new_alloc w1 (.cells #[.int .u8 f, .int .i64 L, .bool true, .bool false, .bool true, .bool true] 70))
    have hbw := below_alloc (below_step (new_alloc w _) hb1) (.cells #[.int .u8 f, .int .i64 L, .bool true, .bool false, .bool true, .bool true] 70)
    clear hb1 hfrm
    go_wp2
    all_goals
      go_ret
      refine ⟨ret_bool ?_, hbw⟩
      clear p0 p1 p2 p3 hbw
      try simp only [bne_iff_ne, ne_eq, bne_eq_false_iff_eq] at *
      first
        | (symm; simp [rightF, regB]; omega)
        | (symm; simp [rightF, regB, *]; done)
        | (symm; rw [Bool.eq_iff_iff]; simp [rightF, regB]; omega)
        | (symm; rw [Bool.eq_false_iff]; intro hq; simp [rightF, regB] at hq; omega)
  · go_enter Try.func32, Try.ntmps32
    go_wp2_with fail
    refine (hfrm _).mono ?_
    rintro e w1 ⟨rfl, hb1⟩
    obtain ⟨p0, p1, p2, p3⟩ := ((At4.new w (.int .u8 o) (.int .u8 a) (.int .u8 b) (.int .i32 n) 24).below hb1).below (new_alloc w1 (.cells #[.int .u8 f, .int .i64 L, .bool true, .bool false, .bool false, .bool false] 70))
    have hbw := below_alloc (below_step (new_alloc w _) hb1) (.cells #[.int .u8 f, .int .i64 L, .bool true, .bool false, .bool false, .bool false] 70)
    clear hb1 hfrm
    go_wp2
    all_goals
      go_ret
      refine ⟨ret_bool ?_, hbw⟩
      clear p0 p1 p2 p3 hbw
      try simp only [bne_iff_ne, ne_eq, bne_eq_false_iff_eq] at *
      first
        | (symm; simp [rightF, regB]; omega)
        | (symm; simp [rightF, regB, *]; done)
        | (symm; rw [Bool.eq_iff_iff]; simp [rightF, regB]; omega)
        | (symm; rw [Bool.eq_false_iff]; intro hq; simp [rightF, regB] at hq; omega)

theorem rightF_eq (o : Nat) (a b n : Int) (h1 : 1 ≤ o) (h2 : o < 17) : rightF (hA o) (hB o) (hM o) (hD o) a b n = rightB o a b n := by
  have hk := kd_in o h2
  unfold rightF rightB hA hB hM hD numB
  rw [decide_eq_true (show 1 ≤ o ∧ o < 17 from ⟨h1, h2⟩), Bool.true_and]
  congr 1
  rcases hk with h | h | h <;> rw [h] <;> simp

theorem rright_op (o : Nat) (a b n : Int) (w : World) (h1 : 1 ≤ o) (h2 : o < 17) (ha : 0 ≤ a ∧ a ≤ 255) (hb : 0 ≤ b ∧ b ≤ 255) :
    Calls Try.prog 32 #[ins o a b n] w fun e w' => e = .returned (.bool (rightB o a b n)) ∧ Below w.heap.size w w' := by
  rw [← rightF_eq o a b n h1 h2]
  exact rright_gen (fb o) (lenN o) o a b n _ _ _ _ w ha hb (fun w => form_yes o w h1 h2) (kind_of o h1 h2)

set_option maxHeartbeats 1000000 in
theorem rright_no (o a b n : Int) (w : World) (h : o = 0 ∨ 17 ≤ o) :
    Calls Try.prog 32 #[ins o a b n] w fun e w' => e = .returned (.bool false) ∧ Below w.heap.size w w' := by
  have hfrm := fun w => form_no o w h
  go_enter Try.func32, Try.ntmps32
  go_wp2_with fail
  refine (hfrm _).mono ?_
  rintro e w1 ⟨rfl, hb1⟩
  have hbw := below_alloc (below_step (new_alloc w _) hb1) (.cells #[.int .u8 0, .int .i64 0, .bool false, .bool false, .bool false, .bool false] 70)
  clear hb1 hfrm
  go_wp2
  go_ret
  exact ⟨rfl, hbw⟩

theorem rright_any (o : Nat) (a b n : Int) (w : World) (ha : 0 ≤ a ∧ a ≤ 255) (hb : 0 ≤ b ∧ b ≤ 255) :
    Calls Try.prog 32 #[ins o a b n] w fun e w' => e = .returned (.bool (rightB o a b n)) ∧ Below w.heap.size w w' := by
  by_cases h : 1 ≤ o ∧ o < 17
  · exact rright_op o a b n w h.1 h.2 ha hb
  · rw [show rightB o a b n = false by simp only [rightB, decide_eq_false h, Bool.false_and]]
    exact rright_no o a b n w (by omega)
end Go.Proofs.Ytdbpeigcnhhpmaa
