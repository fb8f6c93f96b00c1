/- What strings.Cut answers at a text of one byte, for every text; strings.Clone. -/
import Derived.Test.YtaabdffplfifkaaDoorShelfA
import Derived.Test.YtaabdffplfifkaaDoorRefLines
import Derived.Deep.Light
import Derived.OwnWalk
namespace Go.Proofs.YtaabdffplfifkaaDoor
open Go.RowKit

theorem indexByte_at (c : UInt8) (b : List UInt8) : ∀ a : List UInt8, (∀ x ∈ a, x ≠ c) → Lib.indexByte (a ++ c :: b) c = a.length
  | [], _ => by simp [Lib.indexByte]
  | x :: a, h => by
    have ih := indexByte_at c b a fun y hy => h y (by simp [hy])
    have hx : x ≠ c := h x (by simp)
    rw [List.cons_append, Lib.indexByte, ih]
    have h1 : (x == c) = false := by simpa using hx
    have h2 : ((a.length : Int) == -1) = false := by simp
    rw [h1, h2]
    simp
theorem indexByte_not (c : UInt8) : ∀ a : List UInt8, (∀ x ∈ a, x ≠ c) → Lib.indexByte a c = -1
  | [], _ => rfl
  | x :: a, h => by
    have ih := indexByte_not c a fun y hy => h y (by simp [hy])
    have hx : x ≠ c := h x (by simp)
    rw [Lib.indexByte, ih]
    have h1 : (x == c) = false := by simpa using hx
    rw [h1]; rfl

theorem toList_eq' (s : ByteArray) : s.toList = s.data.toList := ByteArray.toList_eq s

/-- a text of one byte -/
def one (c : UInt8) : ByteArray := ⟨#[c]⟩
theorem one_size (c : UInt8) : (one c).size = 1 := rfl
theorem one_at (c : UInt8) : (((one c)[0]'(by rw [one_size]; decide)).toNat : Int) = (c.toNat : Int) := rfl
theorem byte_back (c : UInt8) : ((c.toNat : Int)).toNat.toUInt8 = c := by simp

set_option maxHeartbeats 1000000 in
theorem index_one (s : ByteArray) (c : UInt8) (w : World) :
    Calls Tryd.prog 59 #[.string s, .string (one c)] w fun e w' => e = .returned (.int .i64 (Lib.indexByte s.data.toList c)) ∧ w' = w := by
  unfold one
  go_enter Tryd.func59, Tryd.ntmps59
  go_wp2_with fail
  · rename_i hq
    have hq' : s.data.toList = [c] := by rw [← toList_eq']; simpa using (eq_of_beq hq).symm
    go_ret
    refine ⟨?_, rfl⟩
    rw [hq']
    simp [Lib.indexByte]
  · rw [show (((⟨#[c]⟩ : ByteArray)[0]'(Nat.zero_lt_one)).toNat : Int) = (c.toNat : Int) from rfl]
    refine (Tryd.stringslite_IndexByte _ _ _).mono ?_
    rintro e w1 ⟨rfl, rfl⟩
    rw [byte_back]
    go_wp2_with fail
    go_ret
    exact ⟨rfl, rfl⟩

theorem cut_parts (s : ByteArray) (a b : List UInt8) (c : UInt8) (h : s.data.toList = a ++ c :: b) :
    a.length < s.size ∧ s.extract 0 a.length = bytesOf a ∧ s.extract (a.length + 1) s.size = bytesOf b := by
  have hl : s.size = a.length + (b.length + 1) := by
    rw [Lib.size_eq, h]; simp
  refine ⟨by omega, ?_, ?_⟩
  · rw [extract_piece]; unfold piece; rw [h]; simp
  · rw [extract_piece]; unfold piece; rw [h, hl]
    simp
    rw [show a.length + (b.length + 1) - (a.length + 1) = b.length by omega, List.take_length]

set_option maxHeartbeats 1000000 in
theorem scut_yes (s : ByteArray) (a b : List UInt8) (c : UInt8) (h : s.data.toList = a ++ c :: b) (ha : ∀ x ∈ a, x ≠ c) (w : World) (hs : s.size ≤ 9223372036854775807) :
    Calls Tryd.prog 56 #[.string s, .string (one c)] w fun e w' => e = .returned (.tuple #[.string (bytesOf a), .string (bytesOf b), .bool true]) ∧ ∃ m, w' = w.drewN m := by
  obtain ⟨h1, h2, h3⟩ := cut_parts s a b c h
  have hi : Lib.indexByte s.data.toList c = a.length := by rw [h]; exact indexByte_at c b a ha
  clear h ha
  have h4 := one_size c
  generalize a.length = k at *
  have hI := fun w => index_one s c w
  rw [hi] at hI
  clear hi
  generalize hp : one c = p at *
  go_enter Tryd.func56, Tryd.ntmps56
  go_wp2_with fail
  refine (hI _).mono ?_
  rintro e w1 ⟨rfl, rfl⟩
  have hx0 : (0 : Int) ≤ (k : Int) := by omega
  go_wp2_with fail
  go_quiet (fail)
  go_wp2_with fail
  go_ret3
  exact ⟨rfl, nq, rfl⟩

set_option maxHeartbeats 1000000 in
theorem scut_no (s : ByteArray) (c : UInt8) (h : ∀ x ∈ s.data.toList, x ≠ c) (w : World) :
    Calls Tryd.prog 56 #[.string s, .string (one c)] w fun e w' => e = .returned (.tuple #[.string s, .string ⟨#[]⟩, .bool false]) ∧ w' = w := by
  have hI := fun w => index_one s c w
  rw [indexByte_not c _ h] at hI
  clear h
  generalize hp : one c = p at *
  go_enter Tryd.func56, Tryd.ntmps56
  go_wp2_with fail
  refine (hI _).mono ?_
  rintro e w1 ⟨rfl, rfl⟩
  go_wp2_with fail
  go_ret3
  exact ⟨rfl, rfl⟩

set_option maxHeartbeats 1000000 in
theorem cut_yes (s : ByteArray) (a b : List UInt8) (c : UInt8) (h : s.data.toList = a ++ c :: b) (ha : ∀ x ∈ a, x ≠ c) (w : World) (hs : s.size ≤ 9223372036854775807) :
    Calls Tryd.prog 38 #[.string s, .string (one c)] w fun e w' => e = .returned (.tuple #[.string (bytesOf a), .string (bytesOf b), .bool true]) ∧ ∃ m, w' = w.drewN m := by
  have hI := fun w => scut_yes s a b c h ha w hs
  clear h ha
  generalize hp : one c = p at *
  go_enter Tryd.func38, Tryd.ntmps38
  go_wp2_with fail
  refine (hI _).mono ?_
  rintro e w1 ⟨rfl, m, rfl⟩
  go_wp2_with fail
  go_ret3
  exact ⟨rfl, m, rfl⟩

set_option maxHeartbeats 1000000 in
theorem cut_no (s : ByteArray) (c : UInt8) (h : ∀ x ∈ s.data.toList, x ≠ c) (w : World) :
    Calls Tryd.prog 38 #[.string s, .string (one c)] w fun e w' => e = .returned (.tuple #[.string s, .string ⟨#[]⟩, .bool false]) ∧ w' = w := by
  have hI := fun w => scut_no s c h w
  clear h
  generalize hp : one c = p at *
  go_enter Tryd.func38, Tryd.ntmps38
  go_wp2_with fail
  refine (hI _).mono ?_
  rintro e w1 ⟨rfl, rfl⟩
  go_wp2_with fail
  go_ret3
  exact ⟨rfl, rfl⟩

set_option maxHeartbeats 1000000 in
theorem clone_any (s : ByteArray) (w : World) (hs : s.size ≤ 281474976710656) :
    Calls Tryd.prog 40 #[.string s] w fun e w' => e = .returned (.string s) ∧ Below w.heap.size w w' := by
  go_enter Tryd.func40, Tryd.ntmps40
  go_wp2_with fail
  refine (Tryd.stringslite_Clone _ _ hs).mono ?_
  rintro e w1 ⟨rfl, hb⟩
  go_wp2_with fail
  go_ret
  exact ⟨rfl, hb⟩

end Go.Proofs.YtaabdffplfifkaaDoor
