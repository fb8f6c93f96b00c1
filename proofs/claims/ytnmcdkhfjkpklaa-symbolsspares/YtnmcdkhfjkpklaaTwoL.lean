/- The law's two units, as lists; where they lie. -/
import Derived.Test.YtnmcdkhfjkpklaaResW
namespace Go.Proofs.Ytnmcdkhfjkpklaa
open Go.RowKit

theorem run_make5 (W : World) : (Instr.makeSlice 35 (.int .i64 5) (.int .i64 5)).run Try.prog W = .ok (.slice (some ⟨W.heap.size, 0, none⟩) 5 5) (W.alloc (.cells #[.int .u8 0, .int .u8 0, .int .u8 0, .int .u8 0, .int .u8 0] 5)) := by kernel_rfl
theorem run_make3 (W : World) : (Instr.makeSlice 35 (.int .i64 3) (.int .i64 3)).run Try.prog W = .ok (.slice (some ⟨W.heap.size, 0, none⟩) 3 3) (W.alloc (.cells #[.int .u8 0, .int .u8 0, .int .u8 0] 5)) := by kernel_rfl

def symA : Sy := ⟨⟨#[97]⟩, 0, true⟩
def symB5 : Sy := ⟨⟨#[98]⟩, 5, false⟩
def symB1 : Sy := ⟨⟨#[98]⟩, 1, true⟩
def symC : Sy := ⟨⟨#[99]⟩, 3, false⟩
def twoA : Ob := ⟨[0, 0, 0, 0, 0], [symA, symB5], [], []⟩
def twoB : Ob := ⟨[0, 0, 0], [symB1, symC], [], []⟩
theorem row_zeros {w : World} {g n : Nat} {T : TypeId} {cs : Array Value} (h : Blk w g T cs) (hs : cs.toList = List.replicate n (.int .u8 0)) : Row w (some ⟨g, 0, none⟩) (List.replicate n 0) := fun _ => ⟨g, 0, rfl, fun i hi => by
  rw [List.length_replicate] at hi
  have h1 := h.cell i
  rw [Nat.zero_add]
  refine h1.trans ?_
  rw [← Array.getElem?_toList, hs]
  simp [hi]⟩
theorem row3_two {w : World} {g : Nat} {T : TypeId} {a b : Sy} (h : Blk w g T #[.string a.name, .int .i64 a.at_, .bool a.g, .string b.name, .int .i64 b.at_, .bool b.g]) : Row3 w (some ⟨g, 0, none⟩) ([a, b].map syV) := fun _ => ⟨g, 0, rfl, fun i hi j hj => by
  rw [Nat.zero_add]
  refine (h.cell (i * 3 + j)).trans ?_
  match i, hi with
  | 0, _ =>
    match j, hj with
    | 0, _ => rfl
    | 1, _ => rfl
    | 2, _ => rfl
  | 1, _ =>
    match j, hj with
    | 0, _ => rfl
    | 1, _ => rfl
    | 2, _ => rfl⟩
theorem symF_A : SyF symA := ⟨by unfold maxLen; decide, by unfold i64P; decide⟩
theorem symF_B5 : SyF symB5 := ⟨by unfold maxLen; decide, by unfold i64P; decide⟩
theorem symF_B1 : SyF symB1 := ⟨by unfold maxLen; decide, by unfold i64P; decide⟩
theorem symF_C : SyF symC := ⟨by unfold maxLen; decide, by unfold i64P; decide⟩
theorem le0 : 0 ≤ maxLen := Nat.zero_le _
theorem le2 : 2 ≤ maxLen := by unfold maxLen; decide
theorem le3 : 3 ≤ maxLen := by unfold maxLen; decide
theorem le5 : 5 ≤ maxLen := by unfold maxLen; decide
theorem byt_zeros (n : Nat) : Byt (List.replicate n 0) := fun i => by
  by_cases h : i < n <;> simp [List.getD, h]
theorem two_units {w : World} {g1 g2 g3 g4 g5 : Nat}
    (h5 : Blk w g5 39 #[.slice (some ⟨g1, 0, none⟩) 5 5, .slice (some ⟨g2, 0, none⟩) 2 2, .slice none 0 0, .slice none 0 0, .slice (some ⟨g3, 0, none⟩) 3 3, .slice (some ⟨g4, 0, none⟩) 2 2, .slice none 0 0, .slice none 0 0])
    (h1 : Blk w g1 5 #[.int .u8 0, .int .u8 0, .int .u8 0, .int .u8 0, .int .u8 0]) (h2 : Blk w g2 34 #[.string ⟨#[97]⟩, .int .i64 0, .bool true, .string ⟨#[98]⟩, .int .i64 5, .bool false])
    (h3 : Blk w g3 5 #[.int .u8 0, .int .u8 0, .int .u8 0]) (h4 : Blk w g4 34 #[.string ⟨#[98]⟩, .int .i64 1, .bool true, .string ⟨#[99]⟩, .int .i64 3, .bool false]) : Units w (some ⟨g5, 0, none⟩) [twoA, twoB] := fun _ => ⟨g5, 0, rfl, fun i hi => by
  match i, hi with
  | 0, _ =>
    refine ⟨some ⟨g1, 0, none⟩, some ⟨g2, 0, none⟩, none, none, 5, 2, 0, 0, ⟨h5.cell 0, h5.cell 1, h5.cell 2, h5.cell 3⟩, ⟨rfl, rfl, rfl, rfl, Nat.le_refl 5, le5, le2, le0, le0, row_zeros (n := 5) h1 rfl, row3_two (a := symA) (b := symB5) h2, Row3.nil _ _, Row3.nil _ _, ⟨byt_zeros 5, ?_, fun _ h => (nomatch h), fun _ h => (nomatch h)⟩⟩⟩
    intro s hs
    rcases List.mem_cons.1 hs with rfl | hs
    · exact symF_A
    · rw [List.mem_singleton.1 hs]; exact symF_B5
  | 1, _ =>
    refine ⟨some ⟨g3, 0, none⟩, some ⟨g4, 0, none⟩, none, none, 3, 2, 0, 0, ⟨h5.cell 4, h5.cell 5, h5.cell 6, h5.cell 7⟩, ⟨rfl, rfl, rfl, rfl, Nat.le_refl 3, le3, le2, le0, le0, row_zeros (n := 3) h3 rfl, row3_two (a := symB1) (b := symC) h4, Row3.nil _ _, Row3.nil _ _, ⟨byt_zeros 3, ?_, fun _ h => (nomatch h), fun _ h => (nomatch h)⟩⟩⟩
    intro s hs
    rcases List.mem_cons.1 hs with rfl | hs
    · exact symF_B1
    · rw [List.mem_singleton.1 hs]; exact symF_C⟩
theorem blk_drew {w : World} {g : Nat} {T : TypeId} {c : Array Value} (h : Blk w g T c) : Blk w.drew g T c := h
theorem blk_more {w : World} {g : Nat} {T : TypeId} {c : Array Value} (h : Blk w g T c) (E : Obj) : Blk (w.alloc E) g T c := h.grow (new_alloc w E)
theorem blk_at {w : World} {g : Nat} {T : TypeId} {c : Array Value} (hg : w.heap.size = g) : Blk (w.alloc (.cells c T)) g T c := hg ▸ Blk.new w T c
theorem five_below {w : World} {A B C D E : Obj} : Below w.heap.size w (((((w.alloc A).alloc B).alloc C).alloc D).alloc E).drew := below_draws (below_alloc (below_alloc (below_alloc (below_alloc (new_alloc w A) B) C) D) E) 1
theorem size1 (w : World) (A : Obj) : (w.alloc A).heap.size = w.heap.size + 1 := size_one w A
theorem size2 (w : World) (A B : Obj) : ((w.alloc A).alloc B).heap.size = w.heap.size + 1 + 1 := by rw [size_one, size_one]
theorem size3 (w : World) (A B C : Obj) : (((w.alloc A).alloc B).alloc C).heap.size = w.heap.size + 1 + 1 + 1 := by rw [size_one, size_one, size_one]
theorem size4 (w : World) (A B C D : Obj) : ((((w.alloc A).alloc B).alloc C).alloc D).heap.size = w.heap.size + 1 + 1 + 1 + 1 := by rw [size_one, size_one, size_one, size_one]
theorem at1 {w : World} {c : Array Value} {T : TypeId} {B C D E : Obj} : Blk (((((w.alloc (.cells c T)).alloc B).alloc C).alloc D).alloc E).drew w.heap.size T c := blk_drew (blk_more (blk_more (blk_more (blk_more (blk_at rfl) B) C) D) E)
theorem at2 {w : World} {c : Array Value} {T : TypeId} {A C D E : Obj} : Blk (((((w.alloc A).alloc (.cells c T)).alloc C).alloc D).alloc E).drew (w.heap.size + 1) T c := blk_drew (blk_more (blk_more (blk_more (blk_at (size1 w A)) C) D) E)
theorem at3 {w : World} {c : Array Value} {T : TypeId} {A B D E : Obj} : Blk (((((w.alloc A).alloc B).alloc (.cells c T)).alloc D).alloc E).drew (w.heap.size + 1 + 1) T c := blk_drew (blk_more (blk_more (blk_at (size2 w A B)) D) E)
theorem at4 {w : World} {c : Array Value} {T : TypeId} {A B C E : Obj} : Blk (((((w.alloc A).alloc B).alloc C).alloc (.cells c T)).alloc E).drew (w.heap.size + 1 + 1 + 1) T c := blk_drew (blk_more (blk_at (size3 w A B C)) E)
theorem at5 {w : World} {c : Array Value} {T : TypeId} {A B C D : Obj} : Blk (((((w.alloc A).alloc B).alloc C).alloc D).alloc (.cells c T)).drew (w.heap.size + 1 + 1 + 1 + 1) T c := blk_drew (blk_at (size4 w A B C D))

end Go.Proofs.Ytnmcdkhfjkpklaa
