/- What octets.Put32 answers, for every slice of bytes, every place, every number. -/
import Derived.Test.YteeeedphhaphpaaRead
import Derived.Test.YteeeedphhaphpaaOwn
namespace Go.Proofs.Yteeeedphhaphpaa
open Go.RowKit

def putL (xs : List Int) (a : Nat) (v : Int) : List Int :=
  (((xs.set a (v % 256)).set (a + 1) (v / 256 % 256)).set (a + 2) (v / 65536 % 256)).set (a + 3) (v / 16777216)

theorem Own.of_made {w : World} {B g n : Nat} (h : w.ownsRow B 5 1 (.slice (some ⟨g, 0, none⟩) n n) n (madeCells (Value.int .u8 0).cells (n * 1)).toList) : Own w B g n (List.replicate n 0) := by
  unfold Own
  have e : (madeCells (Value.int .u8 0).cells (n * 1)).toList = byts (List.replicate n 0) := by
    rw [show (Value.int .u8 0).cells = #[Value.int .u8 0] from rfl, toList_madeCells_one]; simp [byts]
  rw [e] at h
  simpa using h

theorem Own.whole {w : World} {B g : Nat} {xs : List Int} (h : Own w B g xs.length xs) : w.heap[g]? = some (.cells (byts xs).toArray 5 (0, 0)) := by
  obtain ⟨cur, _, h2, _, _, h5, h6⟩ := h.parts
  rw [h2, ← h6, List.take_of_length_le (by rw [Array.length_toList]; omega)]

theorem copy_into {w1 : World} {B g n c b o : Nat} {xs : List Int} (hx : xs.length = n) (hown : Own w1 B g n (List.replicate n 0))
    (hc : ∀ i, i < n → w1.cell? ⟨b, o + i, none⟩ = some (.int .u8 (xs.getD i 0))) :
    ∃ w2, (Builtin.copy_ #[24, 24] 3 #[.slice (some ⟨g, 0, none⟩) n n, .slice (some ⟨b, o, none⟩) n c]).run Try.prog w1 = .ok (.int .i64 n) w2 ∧ Own w2 B g n xs ∧ ∀ w0, Below B w0 w1 → Below B w0 w2 := by
  obtain ⟨cur, h1, h2, h3, h4, h5, h6⟩ := hown.parts
  have hr := run_copy_row (P := Try.prog) w1 24 24 3 5 g 0 n n ⟨b, o, none⟩ n c cur 5 (byts xs) Try.underlying24 Try.size5 h2 (by simp [hx]) (fun j u hj => by
    have hjl : j < xs.length := by
      rcases Nat.lt_or_ge j xs.length with h | h
      · exact h
      · rw [List.getElem?_eq_none (by simpa using h)] at hj; cases hj
    rw [getD_byts xs j hjl] at hj
    rw [← hj, ← hc j (by omega), Go.WideShapes.add_plain]) (by simp [hx, h5]) (fun u hu => by
    simp only [byts, List.mem_map] at hu
    obtain ⟨z, _, rfl⟩ := hu
    rfl)
  have e : cur.toList.take 0 ++ byts xs ++ cur.toList.drop (0 + (byts xs).length) = byts xs := by
    simp [List.drop_eq_nil_of_le, hx, h5]
  rw [e] at hr
  refine ⟨_, ?_, Own.mk (cur := (byts xs).toArray) h1 (setRow_heap w1 g cur _ 5 (0, 0) h2) (by omega) h4 (by simp [hx]) (by rw [List.take_of_length_le (by simp)]), fun w0 hb => below_setRow hb h1 _⟩
  simpa [hx, goInt] using hr

/-! ### what is put: plain facts -/
theorem putL_length (xs : List Int) (a : Nat) (v : Int) : (putL xs a v).length = xs.length := by simp [putL]
theorem putL_getD (xs : List Int) (a : Nat) (v : Int) (h : a + 4 ≤ xs.length) (i : Nat) :
    (putL xs a v).getD i 0 = if i = a then v % 256 else if i = a + 1 then v / 256 % 256 else if i = a + 2 then v / 65536 % 256 else if i = a + 3 then v / 16777216 else xs.getD i 0 := by
  simp only [putL, List.getD, List.getElem?_set, List.length_set]
  by_cases e3 : a + 3 = i
  · subst e3; simp [show a + 3 < xs.length by omega]
  · by_cases e2 : a + 2 = i
    · subst e2; simp [show a + 2 < xs.length by omega]
    · by_cases e1 : a + 1 = i
      · subst e1; simp [show a + 1 < xs.length by omega]
      · by_cases e0 : a = i
        · subst e0; simp [show a < xs.length by omega]
        · simp [e0, e1, e2, e3, Ne.symm e0, Ne.symm e1, Ne.symm e2, Ne.symm e3]
theorem putL_byt {xs : List Int} {a : Nat} {v : Int} (hb : Byt xs) (h : a + 4 ≤ xs.length) (hv : 0 ≤ v ∧ v ≤ 4294967295) : Byt (putL xs a v) := fun i => by
  rw [putL_getD xs a v h i]
  have := hb i
  split
  · omega
  · split
    · omega
    · split
      · omega
      · split
        · omega
        · exact this
theorem putL_n4 {xs : List Int} {a : Nat} {v : Int} (h : a + 4 ≤ xs.length) : n4 (putL xs a v) a = v := by
  simp only [n4, putL_getD xs a v h, num4]
  simp
  omega
theorem putL_n2 {xs : List Int} {a : Nat} {v : Int} (h : a + 4 ≤ xs.length) : n2 (putL xs a v) a = v % 65536 := by
  simp only [n2, putL_getD xs a v h, num2]
  simp
  omega
theorem putL_n2' {xs : List Int} {a : Nat} {v : Int} (h : a + 4 ≤ xs.length) : n2 (putL xs a v) (a + 2) = v / 65536 := by
  simp only [n2, putL_getD xs a v h, num2]
  simp
  omega
theorem putL_other {xs : List Int} {a : Nat} {v : Int} (h : a + 4 ≤ xs.length) (i : Nat) (hi : i < a ∨ a + 4 ≤ i) : (putL xs a v).getD i 0 = xs.getD i 0 := by
  rw [putL_getD xs a v h i, if_neg (by omega), if_neg (by omega), if_neg (by omega), if_neg (by omega)]
theorem list_ext_getD {xs ys : List Int} (hl : xs.length = ys.length) (h : ∀ i, xs.getD i 0 = ys.getD i 0) : xs = ys :=
  List.ext_getElem hl fun j h1 h2 => by have := h j; simpa [List.getD, h1, h2] using this
theorem putL_back {xs : List Int} {a : Nat} {v : Int} (hb : Byt xs) (h : a + 4 ≤ xs.length) : putL (putL xs a v) a (n4 xs a) = xs := by
  refine list_ext_getD (by simp [putL_length]) fun i => ?_
  rw [putL_getD _ a _ (by rw [putL_length]; exact h) i]
  have b0 := hb a; have b1 := hb (a + 1); have b2 := hb (a + 2); have b3 := hb (a + 3)
  simp only [n4, num4]
  split
  · next e => subst e; omega
  · split
    · next e => subst e; omega
    · split
      · next e => subst e; omega
      · split
        · next e => subst e; omega
        · exact putL_other h i (by omega)
end Go.Proofs.Yteeeedphhaphpaa
