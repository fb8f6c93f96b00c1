/- Lines put together again; strings.Contains at a text of one byte. -/
import Derived.Test.YtaabdffplfifkaaDoorWLines
import Derived.Test.YtaabdffplfifkaaDoorAwake3
import Derived.Test.YtaabdffplfifkaaDoorDigitsC
namespace Go.Proofs.YtaabdffplfifkaaDoor
open Go.RowKit

/-- lines, each with a byte 10 behind it -/
def joinL : List (List UInt8) → List UInt8
  | [] => []
  | l :: ls => l ++ 10 :: joinL ls

theorem joinL_append (a b : List (List UInt8)) : joinL (a ++ b) = joinL a ++ joinL b := by
  induction a with
  | nil => rfl
  | cons l a ih => simp [joinL, ih]
theorem joinL_snoc (a : List (List UInt8)) (l : List UInt8) : joinL (a ++ [l]) = joinL a ++ l ++ [10] := by
  rw [joinL_append]; simp [joinL]
theorem lines_no (l : List UInt8) : ∀ x ∈ linesL l, ∀ c ∈ x, c ≠ 10 := by
  induction l with
  | nil => intro x hx; cases hx
  | cons c cs ih =>
    intro x hx
    rw [linesL] at hx
    split at hx
    · rcases List.mem_cons.1 hx with rfl | hx
      · intro d hd; cases hd
      · exact ih x hx
    · rename_i hc
      split at hx
      · rw [List.mem_singleton] at hx
        subst hx
        intro d hd
        rw [List.mem_singleton] at hd; subst hd; exact hc
      · rename_i l0 ls e
        rw [e] at ih
        rcases List.mem_cons.1 hx with rfl | hx
        · intro d hd
          rcases List.mem_cons.1 hd with rfl | hd
          · exact hc
          · exact ih l0 (by simp) d hd
        · exact ih x (by simp [hx])
theorem lines_join (ls : List (List UInt8)) (b : List UInt8) (h : ∀ x ∈ ls, ∀ c ∈ x, c ≠ 10) : linesL (joinL ls ++ b) = ls ++ linesL b := by
  induction ls with
  | nil => rfl
  | cons l ls ih =>
    rw [joinL, List.append_assoc, List.cons_append, linesL_cut l _ (h l (by simp)), ih fun x hx => h x (by simp [hx])]
    rfl
theorem join_lines (l : List UInt8) : joinL (linesL l) = l ∨ (l ≠ [] ∧ joinL (linesL l) = l ++ [10]) := by
  suffices H : ∀ n : Nat, ∀ l : List UInt8, l.length = n → joinL (linesL l) = l ∨ (l ≠ [] ∧ joinL (linesL l) = l ++ [10]) from H l.length l rfl
  intro n
  induction n using Nat.strongRecOn with
  | ind n ih =>
    intro l hl
    by_cases hne : l = []
    · subst hne; exact .inl rfl
    · rcases ten_split l with hno | ⟨a, b, rfl, hno⟩
      · rw [linesL_last l hno hne]
        exact .inr ⟨hne, by simp [joinL]⟩
      · rw [linesL_cut a b hno, joinL]
        rcases ih b.length (by rw [← hl]; simp; omega) b rfl with h | ⟨_, h⟩
        · exact .inl (by rw [h])
        · exact .inr ⟨by simp, by rw [h]; simp⟩
theorem join_len (l : List UInt8) (k : Nat) : (joinL ((linesL l).take k)).length ≤ l.length + 1 := by
  have h1 : joinL (linesL l) = joinL ((linesL l).take k) ++ joinL ((linesL l).drop k) := by
    rw [← joinL_append, List.take_append_drop]
  have h2 := congrArg List.length h1
  rw [List.length_append] at h2
  rcases join_lines l with h | ⟨_, h⟩
  · rw [h] at h2; omega
  · rw [h, List.length_append, List.length_singleton] at h2; omega
theorem join_take (ls : List (List UInt8)) (k : Nat) (h : k < ls.length) : joinL (ls.take (k + 1)) = joinL (ls.take k) ++ ls[k] ++ [10] := by
  rw [List.take_succ_eq_append_getElem h, joinL_snoc]

set_option maxHeartbeats 1000000 in
theorem index44 (s : ByteArray) (c : UInt8) (w : World) :
    Calls Tryd.prog 44 #[.string s, .string (one c)] w fun e w' => e = .returned (.int .i64 (Lib.indexByte s.data.toList c)) ∧ w' = w := by
  have hI := fun w => index_one s c w
  generalize one c = p at *
  go_enter Tryd.func44, Tryd.ntmps44
  go_wp2_with fail
  refine (hI _).mono ?_
  rintro e w1 ⟨rfl, rfl⟩
  go_wp2_with fail
  go_ret
  exact ⟨rfl, rfl⟩
set_option maxHeartbeats 1000000 in
theorem contains_no (s : ByteArray) (c : UInt8) (h : ∀ x ∈ s.data.toList, x ≠ c) (w : World) :
    Calls Tryd.prog 21 #[.string s, .string (one c)] w fun e w' => e = .returned (.bool false) ∧ w' = w := by
  have hI := fun w => index44 s c w
  rw [indexByte_not c _ h] at hI
  clear h
  generalize one c = p at *
  go_enter Tryd.func21, Tryd.ntmps21
  go_wp2_with fail
  refine (hI _).mono ?_
  rintro e w1 ⟨rfl, rfl⟩
  go_wp2_with fail
  go_ret
  exact ⟨rfl, rfl⟩

end Go.Proofs.YtaabdffplfifkaaDoor
