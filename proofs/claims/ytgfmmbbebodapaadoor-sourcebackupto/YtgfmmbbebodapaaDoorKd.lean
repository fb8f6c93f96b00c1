/- Texts put together: RefNumber. -/
import Derived.Test.YtgfmmbbebodapaaDoorKc

/- What switchyardref03.Number answers, for every text. -/
namespace Go.Proofs.YtgfmmbbebodapaaDoor
open Go.RowKit

/-- the number that j digits from f on say -/
def valU (s : ByteArray) (f : Nat) : Nat → Int
  | 0 => 0
  | j + 1 => 10 * valU s f j + (byteAt s (f + j) - 48)
def Digs (s : ByteArray) (f k : Nat) : Prop := ∀ j, f ≤ j → j < k → 48 ≤ byteAt s j ∧ byteAt s j ≤ 57
/-- f: where the digits begin -/
def Sign (s : ByteArray) (f : Nat) : Prop := (f = 1 ∧ 0 < s.size ∧ byteAt s 0 = 45) ∨ (f = 0 ∧ ¬ (0 < s.size ∧ byteAt s 0 = 45))
def NumAt (s : ByteArray) (f : Nat) (v : Int) : Prop := f < s.size ∧ ¬ (byteAt s f = 48 ∧ 1 < s.size) ∧ Digs s f s.size ∧
  ((f = 1 ∧ v = - valU s f (s.size - f) ∧ valU s f (s.size - f) ≤ 9223372036854775808) ∨ (f = 0 ∧ v = valU s f (s.size - f) ∧ valU s f (s.size - f) ≤ 9223372036854775807))

theorem sign_some (s : ByteArray) : ∃ f, Sign s f := by
  by_cases h : 0 < s.size ∧ byteAt s 0 = 45
  · exact ⟨1, .inl ⟨rfl, h.1, h.2⟩⟩
  · exact ⟨0, .inr ⟨rfl, h⟩⟩
theorem valU_nonneg (s : ByteArray) (f : Nat) : ∀ j, Digs s f (f + j) → 0 ≤ valU s f j
  | 0, _ => by simp [valU]
  | j + 1, h => by
    have ih := valU_nonneg s f j fun i h1 h2 => h i h1 (by omega)
    have := h (f + j) (by omega) (by omega)
    rw [valU]; omega
theorem valU_mono (s : ByteArray) (f i : Nat) : ∀ d, Digs s f (f + (i + d)) → valU s f i ≤ valU s f (i + d)
  | 0, _ => by simp
  | d + 1, h => by
    have ih := valU_mono s f i d fun j h1 h2 => h j h1 (by omega)
    have hp := valU_nonneg s f (i + d) fun j h1 h2 => h j h1 (by omega)
    have := h (f + (i + d)) (by omega) (by omega)
    rw [show i + (d + 1) = (i + d) + 1 by omega, valU]; omega
theorem quo_ten (x : Int) (h0 : 0 ≤ x) (h1 : x ≤ 9) : Int.tdiv (-9223372036854775808 + x) 10 = -((9223372036854775808 - x) / 10) := by
  rw [show -9223372036854775808 + x = -(9223372036854775808 - x) by omega, Int.neg_tdiv, Int.tdiv_eq_ediv_of_nonneg (by omega)]

theorem ret_pair {a b : Int} {x : Value} (h : a = b) : Ending.returned (.tuple #[.int .i64 a, x]) = .returned (.tuple #[.int .i64 b, x]) := by rw [h]
theorem int_eq {a b : Int} (h : a = b) : Value.int .i64 a = Value.int .i64 b := by rw [h]

end Go.Proofs.YtgfmmbbebodapaaDoor
