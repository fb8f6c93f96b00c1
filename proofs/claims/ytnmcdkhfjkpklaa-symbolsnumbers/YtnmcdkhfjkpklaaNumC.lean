/- The calls of the law's numbers. -/
import Derived.Test.YtnmcdkhfjkpklaaNumL7
import Derived.Test.YtnmcdkhfjkpklaaTwoB
namespace Go.Proofs.Ytnmcdkhfjkpklaa
open Go.RowKit

theorem tab_err (p : Option Addr) (n c : Nat) (xs : List Ob) (e : Int) (u : Nat) (w : World) (hn : xs.length = n) (hn63 : n ≤ 9223372036854775807) (hx : Units w p xs) (ht : tabL xs = noTab e u) : Calls Try.prog 9 #[.slice p n c] w fun E w' => ∃ p2 c2 p3 c3, E = .returned (.tuple #[.slice p2 0 c2, .slice p3 0 c3, .int .i64 e, .int .i64 (u : Nat)]) ∧ Below w.heap.size w w' := by
  have hT := table_any p n c xs w hn hn63 hx
  unfold TabIs at hT
  rw [ht] at hT
  refine hT.mono ?_
  rintro E w1 ⟨v2, v3, rfl, h2, h3, hb⟩
  obtain ⟨p2, c2, rfl, -, -, -⟩ := h2.slice
  obtain ⟨p3, c3, rfl, -, -, -⟩ := h3.row3
  exact ⟨p2, c2, p3, c3, rfl, hb⟩
theorem tab_is (p : Option Addr) (n c : Nat) (xs : List Ob) (ss : List Nat) (ts : List Sy) (w : World) (hn : xs.length = n) (hn63 : n ≤ 9223372036854775807) (hx : Units w p xs) (ht : tabL xs = ⟨ss, ts, 0, 0⟩) : Calls Try.prog 9 #[.slice p n c] w fun E w' => ∃ p2 c2 p3 c3, E = .returned (.tuple #[.slice p2 ss.length c2, .slice p3 ts.length c3, .int .i64 0, .int .i64 0]) ∧ GRow w' p2 (startsV ss) ∧ Below w.heap.size w w' := by
  have hT := table_any p n c xs w hn hn63 hx
  unfold TabIs at hT
  rw [ht] at hT
  refine hT.mono ?_
  rintro E w1 ⟨v2, v3, rfl, h2, h3, hb⟩
  obtain ⟨p2, c2, rfl, hr, -, -⟩ := h2.slice
  obtain ⟨p3, c3, rfl, -, -, -⟩ := h3.row3
  rw [show (startsV ss).length = ss.length from List.length_map _, List.length_map]
  exact ⟨p2, c2, p3, c3, rfl, hr, hb⟩
theorem tab_e0 (p : Option Addr) (n c : Nat) (xs : List Ob) (w : World) (hn : xs.length = n) (hn63 : n ≤ 9223372036854775807) (hx : Units w p xs) (ht : (tabL xs).e = 0) : Calls Try.prog 9 #[.slice p n c] w fun E w' => ∃ v2 v3 v4, E = .returned (.tuple #[v2, v3, .int .i64 0, v4]) ∧ Below w.heap.size w w' := by
  have hT := table_any p n c xs w hn hn63 hx
  unfold TabIs at hT
  rw [ht] at hT
  refine hT.mono ?_
  rintro E w1 ⟨v2, v3, rfl, -, -, hb⟩
  exact ⟨v2, v3, _, rfl, hb⟩
theorem res_is (p : Option Addr) (n c : Nat) (xs : List Ob) (u : Int) (s : ByteArray) (a e : Int) (w : World) (hn : xs.length = n) (hn63 : n ≤ 9223372036854775807) (hx : Units w p xs) (hr : resL xs u s = (a, e)) : Calls Try.prog 12 #[.slice p n c, .int .i64 u, .string s] w fun E w' => E = .returned (.tuple #[.int .i64 a, .int .i64 e]) ∧ Below w.heap.size w w' := by
  have hT := resolve_any p n c xs u s w hn hn63 hx
  rw [hr] at hT
  exact hT
theorem find_is (p : Option Addr) (n c : Nat) (L : List Sy) (s : ByteArray) (a : Int) (b : Bool) (w : World) (hn : L.length = n) (hn63 : n ≤ 9223372036854775807) (hx : Row3 w p (L.map syV)) (hr : (findG L s).getD 0 = a ∧ (findG L s).isSome = b) : Calls Try.prog 11 #[.slice p n c, .string s] w fun E w' => E = .returned (.tuple #[.int .i64 a, .bool b]) ∧ Below w.heap.size w w' := by
  have hT := find_any p n c L s w hn hn63 hx
  rw [hr.1, hr.2] at hT
  exact hT

/-- the law's two, the last label of the second unit named anew -/
theorem twice_units {w : World} {B g1 g2 g3 g4 g5 : Nat} (h : TwoAt w B g1 g2 g3 g4 g5) : Units ((w.setCell ⟨g4, 3, none⟩ (.string ⟨#[97]⟩)).setCell ⟨g4, 5, none⟩ (.bool true)) (some ⟨g5, 0, none⟩) [twoA, twoB2] := by
  have n1 : g1 ≠ g4 := fun e => by have a := h.h1; have b := h.h4; unfold Blk at a b; rw [e, b] at a; cases a
  have n2 : g2 ≠ g4 := fun e => by have a := h.h2; have b := h.h4; unfold Blk at a b; rw [e, b] at a; cases a
  have n3 : g3 ≠ g4 := fun e => by have a := h.h3; have b := h.h4; unfold Blk at a b; rw [e, b] at a; cases a
  have n5 : g5 ≠ g4 := fun e => by have a := h.h5; have b := h.h4; unfold Blk at a b; rw [e, b] at a; cases a
  have k1 := (h.h1.other n1 3 (.string ⟨#[97]⟩)).other n1 5 (.bool true)
  have k2 := (h.h2.other n2 3 (.string ⟨#[97]⟩)).other n2 5 (.bool true)
  have k3 := (h.h3.other n3 3 (.string ⟨#[97]⟩)).other n3 5 (.bool true)
  have k5 := (h.h5.other n5 3 (.string ⟨#[97]⟩)).other n5 5 (.bool true)
  have k4 : Blk ((w.setCell ⟨g4, 3, none⟩ (.string ⟨#[97]⟩)).setCell ⟨g4, 5, none⟩ (.bool true)) g4 34 #[.string ⟨#[98]⟩, .int .i64 1, .bool true, .string ⟨#[97]⟩, .int .i64 3, .bool true] := (h.h4.set 3 (.string ⟨#[97]⟩)).set 5 (.bool true)
  refine fun _ => ⟨g5, 0, rfl, fun i hi => ?_⟩
  match i, hi with
  | 0, _ =>
    refine ⟨some ⟨g1, 0, none⟩, some ⟨g2, 0, none⟩, none, none, 5, 2, 0, 0, ⟨k5.cell 0, k5.cell 1, k5.cell 2, k5.cell 3⟩, ⟨rfl, rfl, rfl, rfl, Nat.le_refl 5, le5, le2, le0, le0, row_zeros (n := 5) k1 rfl, row3_two (a := symA) (b := symB5) k2, Row3.nil _ _, Row3.nil _ _, ⟨byt_zeros 5, ?_, fun _ h => (nomatch h), fun _ h => (nomatch h)⟩⟩⟩
    intro s hs
    rcases List.mem_cons.1 hs with rfl | hs
    · exact symF_A
    · rw [List.mem_singleton.1 hs]; exact symF_B5
  | 1, _ =>
    refine ⟨some ⟨g3, 0, none⟩, some ⟨g4, 0, none⟩, none, none, 3, 2, 0, 0, ⟨k5.cell 4, k5.cell 5, k5.cell 6, k5.cell 7⟩, ⟨rfl, rfl, rfl, rfl, Nat.le_refl 3, le3, le2, le0, le0, row_zeros (n := 3) k3 rfl, row3_two (a := symB1) (b := symA3) k4, Row3.nil _ _, Row3.nil _ _, ⟨byt_zeros 3, ?_, fun _ h => (nomatch h), fun _ h => (nomatch h)⟩⟩⟩
    intro s hs
    rcases List.mem_cons.1 hs with rfl | hs
    · exact symF_B1
    · rw [List.mem_singleton.1 hs]; exact ⟨le1, by show i64P 3; unfold i64P; decide⟩
/-- the law's two as a row that a call has made -/
theorem TwoAt.row {w : World} {B g1 g2 g3 g4 g5 : Nat} (h : TwoAt w B g1 g2 g3 g4 g5) : QOwn w B (.slice (some ⟨g5, 0, none⟩) 2 2) [(.slice (some ⟨g1, 0, none⟩) 5 5, .slice (some ⟨g2, 0, none⟩) 2 2, .slice none 0 0, .slice none 0 0), (.slice (some ⟨g3, 0, none⟩) 3 3, .slice (some ⟨g4, 0, none⟩) 2 2, .slice none 0 0, .slice none 0 0)] :=
  ⟨rfl, .inr ⟨g5, 2, _, rfl, h.l5, h.h5, Nat.le_refl _, le2, rfl, rfl⟩⟩

theorem tab16_is (p : Option Addr) (w : World) (hx : Units w p (List.replicate 16 noOb)) : Calls Try.prog 9 #[.slice p 16 17] w fun E w' => ∃ p2 c2 p3 c3, E = .returned (.tuple #[.slice p2 16 c2, .slice p3 0 c3, .int .i64 0, .int .i64 0]) ∧ Below w.heap.size w w' := by
  refine (tab_is p 16 17 (List.replicate 16 noOb) (List.replicate 16 0) [] w rfl (by decide) hx tab_16).mono ?_
  rintro E w' ⟨p2, c2, p3, c3, rfl, -, hb⟩
  exact ⟨p2, c2, p3, c3, rfl, hb⟩
theorem run_mkb (n : Nat) (h : n = 65533) (W : World) : (Instr.makeSlice 35 (.int .i64 65533) (.int .i64 65533)).run Try.prog W = .ok (.slice (some ⟨W.heap.size, 0, none⟩) n n) (W.alloc (.cells (madeCells #[.int .u8 0] n) 5)) := by
  have := run_mk35 n (by omega) W
  rw [show ((n : Nat) : Int) = 65533 by omega] at this
  exact this
theorem run_mk1 (W : World) : (Instr.makeSlice 35 (.int .i64 1) (.int .i64 1)).run Try.prog W = .ok (.slice (some ⟨W.heap.size, 0, none⟩) 1 1) (W.alloc (.cells (madeCells #[.int .u8 0] 1) 5)) := run_mk35 1 (by decide) W
theorem run_mkc (n : Nat) (h : n = 65536) (W : World) : (Instr.makeSlice 35 (.int .i64 65536) (.int .i64 65536)).run Try.prog W = .ok (.slice (some ⟨W.heap.size, 0, none⟩) n n) (W.alloc (.cells (madeCells #[.int .u8 0] n) 5)) := by
  have := run_mk35 n (by omega) W
  rw [show ((n : Nat) : Int) = 65536 by omega] at this
  exact this
theorem d3_1 {w : World} {c : Array Value} {T : TypeId} {B C : Obj} : Blk (((w.alloc (.cells c T)).alloc B).alloc C).drew w.heap.size T c := blk_drew (blk_more (blk_more (blk_at rfl) B) C)
theorem d3_2 {w : World} {c : Array Value} {T : TypeId} {A C : Obj} : Blk (((w.alloc A).alloc (.cells c T)).alloc C).drew (w.heap.size + 1) T c := blk_drew (blk_more (blk_at (size1 w A)) C)
theorem d3_3 {w : World} {c : Array Value} {T : TypeId} {A B : Obj} : Blk (((w.alloc A).alloc B).alloc (.cells c T)).drew (w.heap.size + 1 + 1) T c := blk_drew (blk_at (size2 w A B))
theorem d4_1 {w : World} {c : Array Value} {T : TypeId} {B C D : Obj} : Blk ((((w.alloc (.cells c T)).alloc B).alloc C).alloc D).drew w.heap.size T c := blk_drew (blk_more (blk_more (blk_more (blk_at rfl) B) C) D)
theorem d4_2 {w : World} {c : Array Value} {T : TypeId} {A C D : Obj} : Blk ((((w.alloc A).alloc (.cells c T)).alloc C).alloc D).drew (w.heap.size + 1) T c := blk_drew (blk_more (blk_more (blk_at (size1 w A)) C) D)
theorem d4_3 {w : World} {c : Array Value} {T : TypeId} {A B D : Obj} : Blk ((((w.alloc A).alloc B).alloc (.cells c T)).alloc D).drew (w.heap.size + 1 + 1) T c := blk_drew (blk_more (blk_at (size2 w A B)) D)
theorem d4_4 {w : World} {c : Array Value} {T : TypeId} {A B C : Obj} : Blk ((((w.alloc A).alloc B).alloc C).alloc (.cells c T)).drew (w.heap.size + 1 + 1 + 1) T c := blk_drew (blk_at (size3 w A B C))
theorem three_below {w0 w : World} {A B C : Obj} (h : Below w0.heap.size w0 w) : Below w0.heap.size w0 (((w.alloc A).alloc B).alloc C).drew := below_draws (below_alloc (below_alloc (below_alloc h A) B) C) 1
theorem four_below {w0 w : World} {A B C D : Obj} (h : Below w0.heap.size w0 w) : Below w0.heap.size w0 ((((w.alloc A).alloc B).alloc C).alloc D).drew := below_draws (below_alloc (below_alloc (below_alloc (below_alloc h A) B) C) D) 1

theorem full_units {w : World} {g ga gb n : Nat} {Zb Z1 : Array Value} (hr : Blk w g 39 #[.slice (some ⟨ga, 0, none⟩) n n, .slice none 0 0, .slice none 0 0, .slice none 0 0, .slice none 0 0, .slice none 0 0, .slice none 0 0, .slice none 0 0, .slice (some ⟨gb, 0, none⟩) 1 1, .slice none 0 0, .slice none 0 0, .slice none 0 0])
    (ha : Blk w ga 5 Zb) (hZb : Zb.toList = List.replicate n (.int .u8 0)) (hb : Blk w gb 5 Z1) (hZ1 : Z1.toList = List.replicate 1 (.int .u8 0)) (hn : n ≤ 65536) : Units w (some ⟨g, 0, none⟩) [bigOb n, noOb, bigOb 1] := by
  have hx : ObIn w (bigOb n) (some ⟨ga, 0, none⟩) none none none (bigOb n).bs.length n (bigOb n).sy.length 0 (bigOb n).fx.length 0 (bigOb n).mk_.length 0 := by rw [big_len]; exact in_big ha hZb hn
  have hz : ObIn w (bigOb 1) (some ⟨gb, 0, none⟩) none none none (bigOb 1).bs.length 1 (bigOb 1).sy.length 0 (bigOb 1).fx.length 0 (bigOb 1).mk_.length 0 := in_big hb hZ1 (by decide)
  refine units_3 ?_ hx (in_no w) hz
  rw [big_len]
  exact hr
theorem v_units {w : World} {g gc g1 gs n : Nat} {Zc Z1 : Array Value} (hr : Blk w g 39 #[.slice (some ⟨gc, 0, none⟩) n n, .slice none 0 0, .slice none 0 0, .slice none 0 0, .slice (some ⟨g1, 0, none⟩) 1 1, .slice (some ⟨gs, 0, none⟩) 1 1, .slice none 0 0, .slice none 0 0])
    (ha : Blk w gc 5 Zc) (hZc : Zc.toList = List.replicate n (.int .u8 0)) (hb : Blk w g1 5 Z1) (hZ1 : Z1.toList = List.replicate 1 (.int .u8 0)) (hs : Blk w gs 34 #[.string ⟨#[49]⟩, .int .i64 0, .bool false]) (hn : n ≤ 65536) : Units w (some ⟨g, 0, none⟩) [bigOb n, badOb] := by
  have hx : ObIn w (bigOb n) (some ⟨gc, 0, none⟩) none none none (bigOb n).bs.length n (bigOb n).sy.length 0 (bigOb n).fx.length 0 (bigOb n).mk_.length 0 := by rw [big_len]; exact in_big ha hZc hn
  refine units_2 ?_ hx (in_badOb hb hZ1 hs)
  rw [big_len]
  exact hr
theorem far_units {w : World} {g ga gb : Nat} {s : ByteArray} {b : Bool} (hs : s.size = 1) (hr : Blk w g 39 #[.slice none 0 0, .slice (some ⟨ga, 0, none⟩) 1 1, .slice none 0 0, .slice none 0 0, .slice none 0 0, .slice none 0 0, .slice none 0 0, .slice none 0 0, .slice none 0 0, .slice (some ⟨gb, 0, none⟩) 1 1, .slice none 0 0, .slice none 0 0])
    (ha : Blk w ga 34 #[.string s, .int .i64 0, .bool b]) (hb : Blk w gb 34 #[.string s, .int .i64 0, .bool b]) : Units w (some ⟨g, 0, none⟩) [farOb s b, noOb, farOb s b] :=
  units_3 (x := farOb s b) (y := noOb) (z := farOb s b) hr (in_far hs ha) (in_no w) (in_far hs hb)
theorem far_units2 {w : World} {g ga gb : Nat} {s : ByteArray} {b b' : Bool} (hs : s.size = 1) (hr : Blk w g 39 #[.slice none 0 0, .slice none 0 0, .slice none 0 0, .slice none 0 0, .slice none 0 0, .slice (some ⟨ga, 0, none⟩) 1 1, .slice none 0 0, .slice none 0 0, .slice none 0 0, .slice (some ⟨gb, 0, none⟩) 1 1, .slice none 0 0, .slice none 0 0])
    (ha : Blk w ga 34 #[.string s, .int .i64 0, .bool b]) (hb : Blk w gb 34 #[.string s, .int .i64 0, .bool b']) : Units w (some ⟨g, 0, none⟩) [noOb, farOb s b, farOb s b'] :=
  units_3 (x := noOb) (y := farOb s b) (z := farOb s b') hr (in_no w) (in_far hs ha) (in_far hs hb)
theorem full2_is (p : Option Addr) (n : Nat) (h : n = 65533) (w : World) (hx : Units w p [bigOb n, noOb]) : Calls Try.prog 9 #[.slice p 2 3] w fun E w' => ∃ p2 c2 p3 c3, E = .returned (.tuple #[.slice p2 2 c2, .slice p3 0 c3, .int .i64 0, .int .i64 0]) ∧ GRow w' p2 (nums [0, 65536]) ∧ Below w.heap.size w w' := by
  refine (tab_is p 2 3 [bigOb n, noOb] [0, 65536] [] w rfl (by decide) hx (tab_full2 n h)).mono ?_
  rintro E w' ⟨p2, c2, p3, c3, rfl, hr, hb⟩
  exact ⟨p2, c2, p3, c3, rfl, hr, hb⟩

theorem newsB {w : World} {g : Nat} {q : V4} (h : Blk w g 39 #[q.1, q.2.1, q.2.2.1, q.2.2.2]) : ∀ j u, (l4 q)[j]? = some u → w.cell? ((⟨g, 0, none⟩ : Addr).add j) = some u := by
  intro j u hj
  rw [Go.WideShapes.add_plain]
  match j, hj with
  | 0, hj => exact (h.cell 0).trans hj
  | 1, hj => exact (h.cell 1).trans hj
  | 2, hj => exact (h.cell 2).trans hj
  | 3, hj => exact (h.cell 3).trans hj
  | j + 4, hj => simp [l4] at hj
theorem bad_units {w w' : World} {B g1 g2 g3 g4 g5 gs : Nat} {v' : Value} (h : TwoAt w B g1 g2 g3 g4 g5) (hs : Blk w gs 34 #[.string ⟨#[49]⟩, .int .i64 0, .bool false]) (hg : w.grownBy w' (some g5))
    (hq : QOwn w' B v' ([(.slice (some ⟨g1, 0, none⟩) 5 5, .slice (some ⟨g2, 0, none⟩) 2 2, .slice none 0 0, .slice none 0 0), (.slice (some ⟨g3, 0, none⟩) 3 3, .slice (some ⟨g4, 0, none⟩) 2 2, .slice none 0 0, .slice none 0 0)] ++ [(.slice none 0 0, .slice (some ⟨gs, 0, none⟩) 1 1, .slice none 0 0, .slice none 0 0)])) :
    ∃ p c, v' = .slice p 3 c ∧ Units w' p [twoA, twoB, farOb ⟨#[49]⟩ false] := by
  have n1 : some g1 ≠ some g5 := fun e => by have e := Option.some.inj e; have a := h.h1; have b := h.h5; unfold Blk at a b; rw [e, b] at a; cases a
  have n2 : some g2 ≠ some g5 := fun e => by have e := Option.some.inj e; have a := h.h2; have b := h.h5; unfold Blk at a b; rw [e, b] at a; cases a
  have n3 : some g3 ≠ some g5 := fun e => by have e := Option.some.inj e; have a := h.h3; have b := h.h5; unfold Blk at a b; rw [e, b] at a; cases a
  have n4 : some g4 ≠ some g5 := fun e => by have e := Option.some.inj e; have a := h.h4; have b := h.h5; unfold Blk at a b; rw [e, b] at a; cases a
  have ns : some gs ≠ some g5 := fun e => by have e := Option.some.inj e; have a := hs; have b := h.h5; unfold Blk at a b; rw [e, b] at a; cases a
  have k1 := h.h1.kept hg n1
  have k2 := h.h2.kept hg n2
  have k3 := h.h3.kept hg n3
  have k4 := h.h4.kept hg n4
  have ks := hs.kept hg ns
  refine units_row (xs := [twoA, twoB, farOb ⟨#[49]⟩ false]) rfl hq fun i hi => ?_
  match i, hi with
  | 0, _ =>
    refine ⟨some ⟨g1, 0, none⟩, some ⟨g2, 0, none⟩, none, none, 5, 2, 0, 0, rfl, ⟨rfl, rfl, rfl, rfl, Nat.le_refl 5, le5, le2, le0, le0, row_zeros (n := 5) k1 rfl, row3_two (a := symA) (b := symB5) k2, Row3.nil _ _, Row3.nil _ _, ⟨byt_zeros 5, ?_, fun _ h => (nomatch h), fun _ h => (nomatch h)⟩⟩⟩
    intro s hs
    rcases List.mem_cons.1 hs with rfl | hs
    · exact symF_A
    · rw [List.mem_singleton.1 hs]; exact symF_B5
  | 1, _ =>
    refine ⟨some ⟨g3, 0, none⟩, some ⟨g4, 0, none⟩, none, none, 3, 2, 0, 0, rfl, ⟨rfl, rfl, rfl, rfl, Nat.le_refl 3, le3, le2, le0, le0, row_zeros (n := 3) k3 rfl, row3_two (a := symB1) (b := symC) k4, Row3.nil _ _, Row3.nil _ _, ⟨byt_zeros 3, ?_, fun _ h => (nomatch h), fun _ h => (nomatch h)⟩⟩⟩
    intro s hs
    rcases List.mem_cons.1 hs with rfl | hs
    · exact symF_B1
    · rw [List.mem_singleton.1 hs]; exact symF_C
  | 2, _ => exact ⟨none, some ⟨gs, 0, none⟩, none, none, 0, 1, 0, 0, rfl, in_far rfl ks⟩

set_option maxRecDepth 20000 in
theorem far_any (s : ByteArray) (b : Bool) (w : World) : Calls Try.prog 13 #[.string s, .bool b] w fun E w' => ∃ g, E = .returned (.agg #[.slice none 0 0, .slice (some ⟨g, 0, none⟩) 1 1, .slice none 0 0, .slice none 0 0]) ∧ Blk w' g 34 #[.string s, .int .i64 0, .bool b] ∧ Below w.heap.size w w' := by
  go_enter Try.func13, Try.ntmps13
  go_wp2_with fail
  have HK : Blk ((w.alloc (.cells #[.slice none 0 0, .slice (some ⟨w.heap.size + 1, 0, none⟩) 1 1, .slice none 0 0, .slice none 0 0] 39)).alloc (.cells #[.string s, .int .i64 0, .bool b] 34)) w.heap.size 39 #[.slice none 0 0, .slice (some ⟨w.heap.size + 1, 0, none⟩) 1 1, .slice none 0 0, .slice none 0 0] := (Blk.new w 39 _).grow (new_alloc _ _)
  have hld := HK.load 39 _ Try.underlying39 rfl Try.sz39
  exact bodyPost_ret (v := .agg #[.slice none 0 0, .slice (some ⟨w.heap.size + 1, 0, none⟩) 1 1, .slice none 0 0, .slice none 0 0]) (by simp [results, Try.results13, asAddr, hld]) rfl ⟨w.heap.size + 1, rfl, blk_at (size1 w _), below_alloc (new_alloc w _) _⟩

end Go.Proofs.Ytnmcdkhfjkpklaa
