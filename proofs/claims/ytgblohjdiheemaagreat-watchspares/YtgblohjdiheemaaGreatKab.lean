/- Texts put together: Ops, Right, Blk, Gen, Texts. -/
import Derived.Test.YtgblohjdiheemaaGreatKaa
import Derived.Deep.RegionWith
import Derived.Deep.CutRange
import Derived.Deep.MidRow
import Derived.RangeFuncBox
import Derived.Laws.AppendOwnNone
import Derived.Deep.QuietTactic
import Derived.BigQuiet
import Derived.Lib.Strings

/- What isa.opOf, Length, Name and Op answer. -/
namespace Go.Proofs.YtgblohjdiheemaaGreat
open Go.RowKit

theorem str_ne {a b : ByteArray} (h : a ≠ b) : (a.toList == b.toList) = false := by
  rw [Lib.toList_data, Lib.toList_data]
  refine beq_eq_false_iff_ne.2 fun e => h ?_
  cases a; cases b
  simp at e
  rw [e]
theorem tab_cell_code (w : World) (o : Nat) (h : o < 17) : (w.alloc (.cells tab 151)).cell? ⟨w.heap.size, o * 4 + 1, none⟩ = some (.string (cd o)) := by
  rw [cell_of_row _ _ _ tab 151 (0, 0) (heap_alloc_last w _), Nat.mul_comm]
  exact tab_code o h
theorem tab_cell_name (w : World) (o : Nat) (h : o < 17) : (w.alloc (.cells tab 151)).cell? ⟨w.heap.size, o * 4, none⟩ = some (.string (nm o)) := by
  rw [cell_of_row _ _ _ tab 151 (0, 0) (heap_alloc_last w _), Nat.mul_comm]
  exact tab_name o h

set_option maxRecDepth 20000 in
set_option maxHeartbeats 1000000 in
theorem isaName_yes (p : Nat) (w : World) (hp' : p < 17) :
    Calls Tryz.prog 120 #[.int .u8 p] w fun e w' => e = .returned (.string (nm p)) ∧ Below w.heap.size w w' := by
  have hidx := idx_any p hp'
  have hfld : ∀ w, (Instr.field 150 (.agg #[.string (nm p), .string (cd p), .int .i64 (rg p), .int .u8 (kd p)]) 0).run Tryz.prog w = .ok (.string (nm p)) w := fun _ => by kernel_rfl
  go_enter Tryz.func120, Tryz.ntmps120
  go_wp2_with (go_at_call 94; refine (shapes_any _).mono ?_; rintro e w1 ⟨rfl, hb1⟩)
  go_ret
  exact ⟨rfl, hb1⟩

set_option maxRecDepth 20000 in
set_option maxHeartbeats 1000000 in
theorem isaName_no (p : Int) (w : World) (hp : 17 ≤ p) (hp' : p ≤ 255) :
    Calls Tryz.prog 120 #[.int .u8 p] w fun e w' => e = .returned (.string ⟨#[]⟩) ∧ Below w.heap.size w w' := by
  go_enter Tryz.func120, Tryz.ntmps120
  go_wp2
  go_ret
  exact ⟨rfl, below_self _⟩
end Go.Proofs.YtgblohjdiheemaaGreat

/- What isa.Right answers, for every instruction. -/
namespace Go.Proofs.YtgblohjdiheemaaGreat
open Go.RowKit

abbrev ins (o a b n : Int) : Value := .agg #[.int .u8 o, .int .u8 a, .int .u8 b, .int .i32 n]

/-- whether an instruction is right: its op's number, its fields -/
def rightB (o : Nat) (a b n : Int) : Bool := decide (1 ≤ o ∧ o < 17) && (regB (decide (1 ≤ rg o)) a && regB (decide (2 ≤ rg o)) b && numB (kd o) n)

theorem cell_push {w : World} {b o : Nat} {v : Value} (h : w.cell? ⟨b, o, none⟩ = some v) (ob : Obj) : (w.alloc ob).cell? ⟨b, o, none⟩ = some v :=
  ((new_alloc w ob).cell (p := ⟨b, o, none⟩) (cell_lt h)).trans h
theorem lt_push {b : Nat} {w : World} (h : b < w.heap.size) (o : Obj) : b < (w.alloc o).drew.heap.size := by
  show b < (w.heap.push o).size
  simp; omega
theorem kept_new4 {w w2 : World} {x0 x1 x2 x3 : Value} {t : TypeId} (hb : Below (w.alloc (.cells #[x0, x1, x2, x3] t)).drew.heap.size (w.alloc (.cells #[x0, x1, x2, x3] t)).drew w2) :
    w2.cell? ⟨w.heap.size, 0, none⟩ = some x0 ∧ w2.cell? ⟨w.heap.size, 1, none⟩ = some x1 ∧ w2.cell? ⟨w.heap.size, 2, none⟩ = some x2 ∧ w2.cell? ⟨w.heap.size, 3, none⟩ = some x3 ∧
    w2.frozen? ⟨w.heap.size, 0, none⟩ = false ∧ w2.frozen? ⟨w.heap.size, 1, none⟩ = false ∧ w2.frozen? ⟨w.heap.size, 2, none⟩ = false ∧ w2.frozen? ⟨w.heap.size, 3, none⟩ = false := by
  have hl : w.heap.size < (w.alloc (.cells #[x0, x1, x2, x3] t)).drew.heap.size := by
    show w.heap.size < (w.heap.push _).size
    simp
  refine ⟨(hb.cell (p := ⟨w.heap.size, 0, none⟩) hl).trans ?_, (hb.cell (p := ⟨w.heap.size, 1, none⟩) hl).trans ?_, (hb.cell (p := ⟨w.heap.size, 2, none⟩) hl).trans ?_, (hb.cell (p := ⟨w.heap.size, 3, none⟩) hl).trans ?_, (hb.frozen (p := ⟨w.heap.size, 0, none⟩) hl).trans ?_, (hb.frozen (p := ⟨w.heap.size, 1, none⟩) hl).trans ?_, (hb.frozen (p := ⟨w.heap.size, 2, none⟩) hl).trans ?_, (hb.frozen (p := ⟨w.heap.size, 3, none⟩) hl).trans ?_⟩
  all_goals simp

/-- four cells of a variable -/
def At4 (w : World) (g : Nat) (x0 x1 x2 x3 : Value) : Prop :=
  w.cell? ⟨g, 0, none⟩ = some x0 ∧ w.cell? ⟨g, 1, none⟩ = some x1 ∧ w.cell? ⟨g, 2, none⟩ = some x2 ∧ w.cell? ⟨g, 3, none⟩ = some x3
theorem At4.below {w w' : World} {g : Nat} {x0 x1 x2 x3 : Value} (h : At4 w g x0 x1 x2 x3) (hb : Below w.heap.size w w') : At4 w' g x0 x1 x2 x3 :=
  ⟨(hb.cell (p := ⟨g, 0, none⟩) (cell_lt h.1)).trans h.1, (hb.cell (p := ⟨g, 1, none⟩) (cell_lt h.1)).trans h.2.1, (hb.cell (p := ⟨g, 2, none⟩) (cell_lt h.1)).trans h.2.2.1, (hb.cell (p := ⟨g, 3, none⟩) (cell_lt h.1)).trans h.2.2.2⟩
theorem At4.new (w : World) (x0 x1 x2 x3 : Value) (t : TypeId) : At4 (w.alloc (.cells #[x0, x1, x2, x3] t)) w.heap.size x0 x1 x2 x3 := ⟨by simp, by simp, by simp, by simp⟩
theorem cs_other {w : World} {g i j : Nat} {v : Value} (h : i ≠ j) : (w.setCell ⟨g, i, none⟩ v).cell? ⟨g, j, none⟩ = w.cell? ⟨g, j, none⟩ :=
  World.cell?_setCell_other _ _ _ _ fun e => h (congrArg Addr.off e)
theorem met_A {w1 w2 : World} (hb : Below w1.drew.heap.size w1.drew w2) (x0 x1 x2 x3 : Value) (t : TypeId) :
    At4 (w2.alloc (.cells #[x0, x1, x2, x3] t)) w2.heap.size x0 x1 x2 x3 ∧ Below w1.heap.size w1 (w2.alloc (.cells #[x0, x1, x2, x3] t)) :=
  ⟨At4.new _ _ _ _ _ _, below_alloc (below_step ((Below.refl w1.heap.size w1).drew) hb) _⟩
theorem met_B {w1 w2 : World} {z0 z1 z2 z3 : Value} {t : TypeId} (hb : Below (w1.alloc (.cells #[z0, z1, z2, z3] t)).drew.heap.size (w1.alloc (.cells #[z0, z1, z2, z3] t)).drew w2) (x0 x1 x2 x3 : Value) :
    At4 ((((w2.setCell ⟨w1.heap.size, 0, none⟩ x0).setCell ⟨w1.heap.size, 1, none⟩ x1).setCell ⟨w1.heap.size, 2, none⟩ x2).setCell ⟨w1.heap.size, 3, none⟩ x3) w1.heap.size x0 x1 x2 x3 ∧
    Below w1.heap.size w1 ((((w2.setCell ⟨w1.heap.size, 0, none⟩ x0).setCell ⟨w1.heap.size, 1, none⟩ x1).setCell ⟨w1.heap.size, 2, none⟩ x2).setCell ⟨w1.heap.size, 3, none⟩ x3) := by
  obtain ⟨d0, d1, d2, d3, _⟩ := kept_new4 hb
  refine ⟨⟨?_, ?_, ?_, ?_⟩, ((((below_step (new_alloc w1 _).drew hb).setCell (Nat.le_refl _) _).setCell (Nat.le_refl _) _).setCell (Nat.le_refl _) _).setCell (Nat.le_refl _) _⟩
  · exact (cs_other (by decide)).trans ((cs_other (by decide)).trans ((cs_other (by decide)).trans (World.cell?_setCell_same _ _ _ d0)))
  · exact (cs_other (by decide)).trans ((cs_other (by decide)).trans (World.cell?_setCell_same _ _ _ ((cs_other (by decide)).trans d1)))
  · exact (cs_other (by decide)).trans (World.cell?_setCell_same _ _ _ ((cs_other (by decide)).trans ((cs_other (by decide)).trans d2)))
  · exact World.cell?_setCell_same _ _ _ ((cs_other (by decide)).trans ((cs_other (by decide)).trans ((cs_other (by decide)).trans d3)))

theorem nm_ne (o : Nat) (h1 : 1 ≤ o) (h2 : o < 17) : ((nm o).toList == []) = false := by
  rw [Lib.toList_data]
  refine beq_eq_false_iff_ne.2 fun e => nm_pos o h1 h2 ?_
  generalize nm o = s at e
  cases s with | mk d => simp at e; rw [e]

set_option maxHeartbeats 1000000 in
theorem right_op (o : Nat) (a b n : Int) (w : World) (h1 : 1 ≤ o) (h2 : o < 17) (ha : 0 ≤ a ∧ a ≤ 255) (hb : 0 ≤ b ∧ b ≤ 255) :
    Calls Tryz.prog 93 #[ins o a b n] w fun e w' => e = .returned (.bool (rightB o a b n)) ∧ Below w.heap.size w w' := by
  have hcon := isaName_yes o (w.alloc (.cells #[.int .u8 o, .int .u8 a, .int .u8 b, .int .i32 n] 133)) h2
  have hidx := idx_any o h2
  have hq := nm_ne o h1 h2
  have hr := fun w => holdsRegs_any (nm o) (cd o) (rg o) (kd o) a b w (rg_le o h2) ha hb
  have hn := fun w => holdsNum_any (nm o) (cd o) (rg o) (kd o) n w (kd_in o h2)
  have hR : rightB o a b n = ((regB (decide (1 ≤ rg o)) a && regB (decide (2 ≤ rg o)) b) && numB (kd o) n) := by simp [rightB, h1, h2]
  rw [hR]
  generalize (regB (decide (1 ≤ rg o)) a && regB (decide (2 ≤ rg o)) b) = r1 at *
  generalize numB (kd o) n = r2 at *
  clear hR h1 h2 ha hb
  generalize nm o = s at *
  generalize cd o = c at *
  generalize rg o = r at *
  generalize kd o = q at *
  go_enter Tryz.func93, Tryz.ntmps93
  go_wp2_with fail
  refine hcon.mono ?_
  rintro e w1 ⟨rfl, hb1⟩
  have c0 : w1.cell? ⟨w.heap.size, 0, none⟩ = some (.int .u8 o) := by rw [hb1.cell (p := ⟨w.heap.size, 0, none⟩) (by simp)]; simp
  have l0 : w.heap.size < w1.heap.size := cell_lt c0
  have c1 : ∀ ob, (w1.alloc ob).cell? ⟨w.heap.size, 0, none⟩ = some (.int .u8 o) := cell_push c0
  clear hcon
  go_upto_region 3 with fail
  go_cut [3] from 8 to 11 (fun p wx => ∃ g, p = .pointer (some ⟨g, 0, none⟩) ∧ At4 wx g (.string s) (.string c) (.int .i64 r) (.int .u8 q) ∧ Below w1.heap.size w1 wx)
  case first =>
    go_region_with (go_at_call 94; refine (shapes_any _).mono ?_; rintro e w2 ⟨rfl, hb2⟩; first | (have c9 := (hb2.cell (p := ⟨w.heap.size, 0, none⟩) l0).trans c0; have c8 := cell_push c9; have hA := hb2) | (have c9 := (hb2.cell (p := ⟨w.heap.size, 0, none⟩) (lt_push l0 _)).trans (c1 _); obtain ⟨d0, d1, d2, d3, f0, f1, f2, f3⟩ := kept_new4 hb2; have hB := hb2))
    all_goals
      go_wp2_with fail
      go_meet
      case rel => first | exact ⟨_, rfl, met_A hA _ _ _ _ _⟩ | exact ⟨_, rfl, met_B hB _ _ _ _⟩
  case rest =>
    obtain ⟨g, rfl, hat, hbx⟩ := hcut
    have hbox : At4 wc w.heap.size (.int .u8 o) (.int .u8 a) (.int .u8 b) (.int .i32 n) := ((At4.new w _ _ _ _ 133).below hb1).below hbx
    have hbc := below_step (below_step (new_alloc w _) hb1) hbx
    clear hbx hb1 c0 l0 c1 hidx
    have HA : Hid (At4 wc g (.string s) (.string c) (.int .i64 r) (.int .u8 q)) := hat
    have HB : Hid (At4 wc w.heap.size (.int .u8 o) (.int .u8 a) (.int .u8 b) (.int .i32 n)) := hbox
    obtain ⟨q0, q1, q2, q3⟩ := hat
    obtain ⟨p0, p1, p2, p3⟩ := hbox
    go_wp2_with fail
    refine (hr _).mono ?_
    rintro e w3 ⟨rfl, hb3⟩
    obtain ⟨s0, s1, s2, s3⟩ := HA.out.below hb3
    obtain ⟨t0, t1, t2, t3⟩ := HB.out.below hb3
    have hb4 := below_step hbc hb3
    clear hb3 hbc
    cases r1
    · go_wp2
      go_ret
      exact ⟨rfl, hb4⟩
    · go_wp2_with fail
      refine (hn _).mono ?_
      rintro e w4 ⟨rfl, hb5⟩
      go_wp2
      go_ret
      exact ⟨rfl, below_step hb4 hb5⟩

set_option maxHeartbeats 400000 in
theorem right_zero (a b n : Int) (w : World) :
    Calls Tryz.prog 93 #[ins 0 a b n] w fun e w' => e = .returned (.bool false) ∧ Below w.heap.size w w' := by
  have hcon := isaName_yes 0 (w.alloc (.cells #[.int .u8 0, .int .u8 a, .int .u8 b, .int .i32 n] 133)) (by decide)
  rw [show nm 0 = ⟨#[]⟩ from rfl] at hcon
  go_enter Tryz.func93, Tryz.ntmps93
  go_wp2_with fail
  refine hcon.mono ?_
  rintro e w1 ⟨rfl, hb1⟩
  clear hcon
  go_wp2
  go_ret
  exact ⟨rfl, below_step (new_alloc w _) hb1⟩

set_option maxHeartbeats 400000 in
theorem right_big (o a b n : Int) (w : World) (h1 : 17 ≤ o) (h2 : o ≤ 255) :
    Calls Tryz.prog 93 #[ins o a b n] w fun e w' => e = .returned (.bool false) ∧ Below w.heap.size w w' := by
  have hcon := isaName_no o (w.alloc (.cells #[.int .u8 o, .int .u8 a, .int .u8 b, .int .i32 n] 133)) h1 h2
  go_enter Tryz.func93, Tryz.ntmps93
  go_wp2_with fail
  refine hcon.mono ?_
  rintro e w1 ⟨rfl, hb1⟩
  clear hcon
  go_wp2
  go_ret
  exact ⟨rfl, below_step (new_alloc w _) hb1⟩

theorem right_any (o : Nat) (a b n : Int) (w : World) (ho : o ≤ 255) (ha : 0 ≤ a ∧ a ≤ 255) (hb : 0 ≤ b ∧ b ≤ 255) :
    Calls Tryz.prog 93 #[ins o a b n] w fun e w' => e = .returned (.bool (rightB o a b n)) ∧ Below w.heap.size w w' := by
  by_cases h : 1 ≤ o ∧ o < 17
  · exact right_op o a b n w h.1 h.2 ha hb
  · have hf : rightB o a b n = false := by simp only [rightB, decide_eq_false h, Bool.false_and]
    rw [hf]
    by_cases h0 : o = 0
    · subst h0; exact right_zero a b n w
    · exact right_big o a b n w (by omega) (by omega)
end Go.Proofs.YtgblohjdiheemaaGreat

/- Blocks of several cells; how an item lies. -/
namespace Go.Proofs.YtgblohjdiheemaaGreat
open Go.RowKit

/-- a block and its cells -/
def Blk (w : World) (g : Nat) (T : TypeId) (c : Array Value) : Prop := w.heap[g]? = some (.cells c T (0, 0))
theorem Blk.lt {w : World} {g : Nat} {T : TypeId} {c : Array Value} (h : Blk w g T c) : g < w.heap.size := (Array.getElem?_eq_some_iff.1 h).1
theorem Blk.cell {w : World} {g : Nat} {T : TypeId} {c : Array Value} (h : Blk w g T c) (i : Nat) : w.cell? ⟨g, i, none⟩ = c[i]? := by simp [World.cell?, show w.heap[g]? = _ from h]
theorem Blk.free {w : World} {g : Nat} {T : TypeId} {c : Array Value} (h : Blk w g T c) (i : Nat) : w.frozen? ⟨g, i, none⟩ = false := by simp [World.frozen?, show w.heap[g]? = _ from h]
theorem Blk.new (w : World) (T : TypeId) (c : Array Value) : Blk (w.alloc (.cells c T)) w.heap.size T c := World.alloc_heap_new w _
theorem Blk.kept {w w' : World} {row : Option Nat} {g : Nat} {T : TypeId} {c : Array Value} (h : Blk w g T c) (hg : w.grownBy w' row) (hne : some g ≠ row) : Blk w' g T c := (hg.block g h.lt hne).trans h
theorem Blk.below {w w' : World} {g B : Nat} {T : TypeId} {c : Array Value} (h : Blk w g T c) (hb : Below B w w') (hg : g < B) : Blk w' g T c := (hb.block g hg).trans h
theorem Blk.grow {w w' : World} {g : Nat} {T : TypeId} {c : Array Value} (h : Blk w g T c) (hb : Below w.heap.size w w') : Blk w' g T c := h.below hb h.lt
theorem Blk.set {w : World} {g : Nat} {T : TypeId} {c : Array Value} (h : Blk w g T c) (i : Nat) (v : Value) : Blk (w.setCell ⟨g, i, none⟩ v) g T (c.setIfInBounds i v) := by
  obtain ⟨hlt, hk⟩ := Array.getElem?_eq_some_iff.1 h
  show (w.heap.modify g _)[g]? = _
  rw [Array.getElem?_eq_getElem (by rw [Array.size_modify]; exact hlt), Array.getElem_modify_self, hk]
  rfl

theorem Blk.other {w : World} {g k : Nat} {T : TypeId} {c : Array Value} (h : Blk w g T c) (hne : g ≠ k) (i : Nat) (v : Value) : Blk (w.setCell ⟨k, i, none⟩ v) g T c := (Below.heap_setCell _ _ _ g (fun e => hne e)).trans h
theorem grown_setCell (w : World) (g i : Nat) (v : Value) : w.grownBy (w.setCell ⟨g, i, none⟩ v) (some g) :=
  ⟨rfl, rfl, rfl, (KeepsWalks.setCell w _ v).size, fun k _ hk => Below.heap_setCell _ _ _ k (fun e => hk (by rw [e]))⟩
theorem grown_setCells (g : Nat) : ∀ (vs : List Value) (o : Nat) (w : World), w.grownBy (w.setCells g o vs) (some g)
  | [], _, w => World.grownBy.refl w _
  | v :: r, o, w => (grown_setCell w g o v).trans (grown_setCells g r (o + 1) _)
theorem below_grown {w w' : World} {g : Nat} (h : w.grownBy w' (some g)) {B : Nat} (hB : B ≤ g) (hl : B ≤ w.heap.size) : Below B w w' :=
  ⟨h.os, h.tape, h.output, h.size, fun k hk => h.block k (by omega) (by intro e; injection e with e; omega)⟩
theorem Blk.some_after (g : Nat) (T : TypeId) : ∀ (vs : List Value) (o : Nat) (w : World) (c : Array Value), Blk w g T c → ∃ c', Blk (w.setCells g o vs) g T c' ∧ c'.size = c.size
  | [], _, w, c, h => ⟨c, h, rfl⟩
  | v :: r, o, w, c, h => by
    obtain ⟨c', h1, h2⟩ := Blk.some_after g T r (o + 1) _ _ (h.set o v)
    exact ⟨c', h1, by rw [h2]; simp⟩
theorem Blk.range {w : World} {g : Nat} {T : TypeId} {c : Array Value} (h : Blk w g T c) : w.rangeAt g 0 c.toList := fun j v hv => by
  rw [Nat.zero_add, h.cell]; rw [Array.getElem?_toList] at hv; exact hv
theorem Blk.there {w : World} {g : Nat} {T : TypeId} {c : Array Value} (h : Blk w g T c) (o n : Nat) (hn : o + n ≤ c.size) : w.there g o n := fun j hj =>
  ⟨by rw [h.cell]; simp; omega, h.free _⟩
theorem Blk.setAll {w : World} {g : Nat} {T : TypeId} {c : Array Value} (h : Blk w g T c) (c' : Array Value) (hs : c'.size = c.size) : Blk (w.setCells g 0 c'.toList) g T c' := by
  obtain ⟨c2, h1, h2⟩ := Blk.some_after g T c'.toList 0 w c h
  have : c2 = c' := by
    apply Array.ext (by omega)
    intro i hi hi'
    have hr := World.rangeAt_setCells_same w g 0 c'.toList (by rw [Array.length_toList]; exact h.there 0 _ (by omega)) i c'[i] (by simp [hi'])
    rw [Nat.zero_add, h1.cell, Array.getElem?_eq_getElem hi] at hr
    injection hr
  rw [← this] at h1 ⊢
  exact h1

/-- a struct is read -/
theorem step_load_blk {ops : Array Oper} {rest : List Oper} {o : Oper} {a : Act} {w : World} {Q : Exit → Act → World → Prop} {g : Nat} {T : TypeId} {c : Array Value} (hB : Blk w g T c) (hg : o.guard = none) (t : TypeId) (p : Operand) (ho : o.op = .load t p)
    (hp : a.eval p = .pointer (some ⟨g, 0, none⟩)) (c' : Array Value) (hc : c'.toList <+: c.toList) (d : TypeDesc) (hu : Tryz.prog.underlying t = some d) (hd : d.isRow = true) (hi : (Tryz.prog.info? t).map (·.size) = some c'.size)
    (h : wpList Tryz.prog ops Q rest (a.put o.dst (.agg c')) w) : wpList Tryz.prog ops Q (o :: rest) a w := by
  refine wpList_load_mid hg t p ho g 0 hp c'.toList d (fun j v hv => hB.range j v ?_) hu hd (by rw [hi, Array.length_toList]) (by simpa using h)
  obtain ⟨r, hr⟩ := hc
  rw [← hr, List.getElem?_append_left (List.getElem?_eq_some_iff.1 hv).1]; exact hv
/-- a struct is stored -/
theorem step_store_blk {ops : Array Oper} {rest : List Oper} {o : Oper} {a : Act} {w : World} {Q : Exit → Act → World → Prop} {g : Nat} {T : TypeId} {c : Array Value} (hB : Blk w g T c) (hg : o.guard = none) (t : TypeId) (p x : Operand) (ho : o.op = .store t p x) (hd : o.dst = none)
    (hp : a.eval p = .pointer (some ⟨g, 0, none⟩)) (c' : Array Value) (hx : a.eval x = .agg c') (hi : (Tryz.prog.info? t).map (·.size) = some c'.size) (hcs : c'.size = c.size) (h1 : c'.all (·.oneCell') = true)
    (h : ∀ w', Blk w' g T c' → w.grownBy w' (some g) → wpList Tryz.prog ops Q rest a w') : wpList Tryz.prog ops Q (o :: rest) a w := by
  refine wpList_store_mid hg t p x ho g 0 c' hp hx (hB.there 0 _ (by omega)) hi h1 ?_
  rw [hd]
  exact h _ (hB.setAll c' hcs) (grown_setCells g _ _ _)

end Go.Proofs.YtgblohjdiheemaaGreat

/- Slices whose elements take one cell each (numbers, texts): in a block of their own, or nil; what a store and an append do to them. -/
namespace Go.Proofs.YtgblohjdiheemaaGreat
open Go.RowKit

/-- how a slice of such elements lies -/
def GRow (w : World) (p : Option Addr) (vs : List Value) : Prop :=
  0 < vs.length → ∃ b o, p = some ⟨b, o, none⟩ ∧ ∀ i, i < vs.length → w.cell? ⟨b, o + i, none⟩ = vs[i]?
/-- a slice of elements of the type T that the call has made (its block's number B or above), or nil -/
def GOwnV (T : TypeId) (w : World) (B : Nat) (v : Value) (vs : List Value) : Prop := w.ownsRow B T 1 v vs.length vs
/-- the same, not nil -/
def GOwn (T : TypeId) (w : World) (B g cap : Nat) (vs : List Value) : Prop := w.ownsRow B T 1 (.slice (some ⟨g, 0, none⟩) vs.length cap) vs.length vs

theorem GOwn.parts {T : TypeId} {w : World} {B g cap : Nat} {vs : List Value} (h : GOwn T w B g cap vs) :
    ∃ cur, B ≤ g ∧ w.heap[g]? = some (.cells cur T (0, 0)) ∧ vs.length ≤ cap ∧ cap ≤ maxLen ∧ cur.size = cap ∧ cur.toList.take vs.length = vs := by
  rcases h.2 with ⟨h', _⟩ | ⟨g', cap', cur, h', h1, h2, h3, h4, h5, h6⟩
  · simp at h'
  · simp only [Value.slice.injEq, Option.some.injEq, Addr.mk.injEq, and_true, true_and] at h'
    obtain ⟨rfl, rfl⟩ := h'
    exact ⟨cur, h1, h2, h3, h4, by simpa using h5, by simpa using h6⟩
theorem GOwn.mk {T : TypeId} {w : World} {B g cap : Nat} {vs : List Value} {cur : Array Value} (h1 : B ≤ g) (h2 : w.heap[g]? = some (.cells cur T (0, 0))) (h3 : vs.length ≤ cap) (h4 : cap ≤ maxLen) (h5 : cur.size = cap) (h6 : cur.toList.take vs.length = vs) : GOwn T w B g cap vs :=
  ⟨by simp, .inr ⟨g, cap, cur, rfl, h1, h2, h3, h4, by simpa using h5, by simpa using h6⟩⟩
theorem GOwn.lt {T : TypeId} {w : World} {B g cap : Nat} {vs : List Value} (h : GOwn T w B g cap vs) : g < w.heap.size := by
  obtain ⟨cur, _, h2, _⟩ := h.parts
  rcases Nat.lt_or_ge g w.heap.size with h | h
  · exact h
  · rw [Array.getElem?_eq_none h] at h2; cases h2
theorem GOwn.base {T : TypeId} {w : World} {B g cap : Nat} {vs : List Value} (h : GOwn T w B g cap vs) : B ≤ g := by obtain ⟨cur, h1, _⟩ := h.parts; exact h1
theorem GOwn.cap {T : TypeId} {w : World} {B g cap : Nat} {vs : List Value} (h : GOwn T w B g cap vs) : vs.length ≤ cap := by obtain ⟨cur, _, _, h1, _⟩ := h.parts; exact h1
theorem GOwn.lower {T : TypeId} {w : World} {B B' g cap : Nat} {vs : List Value} (h : GOwn T w B g cap vs) (hB : B' ≤ g) : GOwn T w B' g cap vs := by
  obtain ⟨cur, _, h2, h3, h4, h5, h6⟩ := h.parts
  exact GOwn.mk hB h2 h3 h4 h5 h6
theorem GOwn.keep {T : TypeId} {w w' : World} {B C g cap : Nat} {vs : List Value} (h : GOwn T w B g cap vs) (hb : Below C w w') (hg : g < C) : GOwn T w' B g cap vs := by
  obtain ⟨cur, h1, h2, h3, h4, h5, h6⟩ := h.parts
  exact GOwn.mk h1 (by rw [hb.block g hg]; exact h2) h3 h4 h5 h6
theorem GOwn.below {T : TypeId} {w w' : World} {B g cap : Nat} {vs : List Value} (h : GOwn T w B g cap vs) (hb : Below w.heap.size w w') : GOwn T w' B g cap vs := h.keep hb h.lt
theorem GOwn.cell {T : TypeId} {w : World} {B g cap : Nat} {vs : List Value} (h : GOwn T w B g cap vs) (i : Nat) (hi : i < vs.length) : w.cell? ⟨g, i, none⟩ = vs[i]? := World.ownsRow.cellAt h i (by omega)
theorem GOwn.free {T : TypeId} {w : World} {B g cap : Nat} {vs : List Value} (h : GOwn T w B g cap vs) (i : Nat) : w.frozen? ⟨g, i, none⟩ = false := World.ownsRow.frozenAt h i
theorem GOwn.store {T : TypeId} {w : World} {B g cap : Nat} {vs : List Value} (h : GOwn T w B g cap vs) (i : Nat) (x : Value) : GOwn T (w.setCell ⟨g, i, none⟩ x) B g cap (vs.set i x) := by
  have := (World.ownsRow.stored h i x).1
  unfold GOwn
  simpa using this
theorem GOwn.row {T : TypeId} {w : World} {B g cap : Nat} {vs : List Value} (h : GOwn T w B g cap vs) : GRow w (some ⟨g, 0, none⟩) vs :=
  fun _ => ⟨g, 0, rfl, fun i hi => by simpa using h.cell i hi⟩
theorem GOwn.grown {T : TypeId} {w w' : World} {B g r cap : Nat} {vs : List Value} (ho : GOwn T w B g cap vs) (hg : w.grownBy w' (some r)) (hne : g ≠ r) : GOwn T w' B g cap vs := by
  obtain ⟨cur, h1, h2, h3, h4, h5, h6⟩ := ho.parts
  exact GOwn.mk h1 ((hg.block g ho.lt (fun e => hne (by injection e))).trans h2) h3 h4 h5 h6
theorem GOwn.lit (T : TypeId) (w : World) (vs : List Value) (hm : vs.length ≤ maxLen) : GOwn T (w.alloc (.cells vs.toArray T)) w.heap.size w.heap.size vs.length vs :=
  GOwn.mk (Nat.le_refl _) (heap_alloc_new w _) (Nat.le_refl _) hm (by simp) (by rw [List.take_of_length_le (by simp)])
theorem GOwn.drewN {T : TypeId} {w : World} {B g cap : Nat} {vs : List Value} (h : GOwn T w B g cap vs) (n : Nat) : GOwn T (w.drewN n) B g cap vs := h

theorem GRow.below {w w' : World} {p : Option Addr} {vs : List Value} (h : GRow w p vs) (hb : Below w.heap.size w w') : GRow w' p vs := fun h0 => by
  obtain ⟨b, o, rfl, hc⟩ := h h0
  refine ⟨b, o, rfl, fun i hi => ?_⟩
  have e := hc i hi
  rw [List.getElem?_eq_getElem hi] at e
  rw [hb.cell (p := ⟨b, o + i, none⟩) (cell_lt e), hc i hi]
theorem GRow.drewN {w : World} {p : Option Addr} {vs : List Value} (h : GRow w p vs) (n : Nat) : GRow (w.drewN n) p vs := h
theorem GRow.nil (w : World) (p : Option Addr) : GRow w p [] := fun h => absurd h (Nat.lt_irrefl 0)

theorem GOwn.val {T : TypeId} {w : World} {B g cap : Nat} {vs : List Value} (h : GOwn T w B g cap vs) : GOwnV T w B (.slice (some ⟨g, 0, none⟩) vs.length cap) vs := h
theorem GOwnV.nil (T : TypeId) (w : World) (B : Nat) : GOwnV T w B (.slice none 0 0) [] := World.ownsRow_nil _ _ _ _
theorem GOwnV.alloc {T : TypeId} {w : World} {B : Nat} {v : Value} {vs : List Value} (h : GOwnV T w B v vs) (o : Obj) : GOwnV T (w.alloc o) B v vs := World.ownsRow.alloc h o
theorem GOwnV.drewN {T : TypeId} {w : World} {B : Nat} {v : Value} {vs : List Value} (h : GOwnV T w B v vs) (n : Nat) : GOwnV T (w.drewN n) B v vs := h
theorem GOwnV.shape {T : TypeId} {w : World} {B : Nat} {v : Value} {vs : List Value} (h : GOwnV T w B v vs) : (v = .slice none 0 0 ∧ vs = []) ∨ ∃ g cap, v = .slice (some ⟨g, 0, none⟩) vs.length cap ∧ GOwn T w B g cap vs := by
  rcases h.2 with ⟨h1, h2⟩ | ⟨g, cap, cur, h1, h2⟩
  · exact .inl ⟨h1, List.eq_nil_of_length_eq_zero h2⟩
  · subst h1
    exact .inr ⟨g, cap, rfl, h⟩
theorem GOwnV.below {T : TypeId} {w w' : World} {B : Nat} {v : Value} {vs : List Value} (h : GOwnV T w B v vs) (hb : Below w.heap.size w w') : GOwnV T w' B v vs := by
  rcases h.shape with ⟨rfl, rfl⟩ | ⟨g, cap, rfl, ho⟩
  · exact GOwnV.nil _ _ _
  · exact (ho.below hb).val
theorem GOwnV.slice {T : TypeId} {w : World} {B : Nat} {v : Value} {vs : List Value} (h : GOwnV T w B v vs) : ∃ p cap, v = .slice p vs.length cap ∧ GRow w p vs ∧ vs.length ≤ cap ∧ (p = none → cap = 0) := by
  rcases h.shape with ⟨rfl, rfl⟩ | ⟨g, cap, rfl, ho⟩
  · exact ⟨none, 0, rfl, GRow.nil _ _, Nat.le_refl _, fun _ => rfl⟩
  · exact ⟨_, cap, rfl, ho.row, ho.cap, fun h => by cases h⟩
theorem GOwnV.lowerV {T : TypeId} {w : World} {B B' : Nat} {v : Value} {vs : List Value} (h : GOwnV T w B v vs) (hB : B' ≤ B) : GOwnV T w B' v vs := by
  rcases h.shape with ⟨rfl, rfl⟩ | ⟨g, cap, rfl, ho⟩
  · exact GOwnV.nil _ _ _
  · exact (ho.lower (Nat.le_trans hB ho.base)).val

/-- what append asks of the slice's type t and its element's type T -/
def Elem (t T : TypeId) (by_ : Nat) : Prop := Tryz.prog.underlying t = some (.slice T) ∧ ∃ z, z.cells.size = 1 ∧ (Tryz.prog.info? T).map (fun i => (i.zero, i.size, i.bytes)) = some (some z, 1, by_)

/-- 'append(out, ..)' on such a slice -/
theorem gpush {ops : Array Oper} {rest : List Oper} {o : Oper} {a : Act} {Q : Exit → Act → World → Prop} {t T : TypeId} {by_ : Nat} (he : Elem t T by_) (w : World) (hgd : o.guard = none) (s x : Operand)
    (ho : o.op = .call { callee := .builtin .append, args := #[s, x], argTypes := #[t, t] }) (B : Nat) (v : Value) (vs : List Value) (hs : a.eval s = v) (hown : GOwnV T w B v vs)
    (ad : Addr) (m c : Nat) (ns : List Value) (hx : a.eval x = .slice (some ad) m c) (hl : ns.length = m) (hnews : ∀ j u, ns[j]? = some u → w.cell? (ad.add j) = some u) (h1 : ∀ u ∈ ns, u.oneCell' = true)
    (hlen : vs.length + m ≤ 140737488355328) (hby : (vs.length + m) * by_ ≤ 140737488355328) (hB : B ≤ w.heap.size)
    (h : ∀ v' w', GOwnV T w' B v' (vs ++ ns) → w.grownBy w' v.ownBlock → (∀ w0, Below B w0 w → Below B w0 w') → (v' = .slice none 0 0 ↔ v = .slice none 0 0 ∧ m = 0) → wpList Tryz.prog ops Q rest (a.put o.dst v') w') :
    wpList Tryz.prog ops Q (o :: rest) a w := by
  obtain ⟨hu, z, hzc, hinfo⟩ := he
  obtain ⟨i0, hi, hz0, hz1, hz2⟩ := info_parts hinfo
  refine wpList_append_own w hgd s x t ho B T i0 z 1 by_ hu hi hz0 hz1 hz2 hzc (by decide) v vs.length vs hs hown ad m c ns hx (by simp [hl]) hnews h1 (by unfold maxLen; omega) hby hB ?_
  intro v' w' h2 h3 h4
  refine h v' w' ?_ h3 (fun w0 hb => hb.grown h3 hB fun k hk => ?_) h4
  · unfold GOwnV
    rw [List.length_append, hl]
    exact h2
  · rcases hown.shape with ⟨rfl, _⟩ | ⟨g, cap, rfl, ho⟩
    · simp [Value.ownBlock] at hk
    · simp [Value.ownBlock] at hk
      subst hk
      exact ho.base

end Go.Proofs.YtgblohjdiheemaaGreat

/- What switchyardkit.SameTexts, SameInts (of the same elements), CopyTexts and CopyInts answer. -/
namespace Go.Proofs.YtgblohjdiheemaaGreat
open Go.RowKit

abbrev strs (ss : List ByteArray) : List Value := ss.map Value.string
abbrev nums (zs : List Int) : List Value := zs.map (Value.int .i64)

theorem strs_at (ss : List ByteArray) (k : Nat) (h : k < ss.length) : (strs ss)[k]? = some (.string ss[k]) := by simp [strs, h]
theorem nums_at (zs : List Int) (k : Nat) (h : k < zs.length) : (nums zs)[k]? = some (.int .i64 zs[k]) := by simp [nums, h]
theorem Tryz.elemS : Elem 23 9 16 := ⟨Tryz.underlying23, .string ByteArray.empty, rfl, by kernel_rfl⟩
theorem Tryz.elemI : Elem 25 3 8 := ⟨Tryz.underlying25, .int .i64 0, rfl, by kernel_rfl⟩


set_option maxHeartbeats 400000 in
theorem sameTexts_zero (p q : Option Addr) (c d : Nat) (w : World) :
    Calls Tryz.prog 48 #[.slice p 0 c, .slice q 0 d] w fun e w' => e = .returned (.bool true) ∧ w' = w := by
  go_enter Tryz.func48, Tryz.ntmps48
  go_wp2
  refine wp_loop_rounds 1 ?_
  rw [rounds_succ]; go_wp2
  go_ret
  exact ⟨rfl, rfl⟩

set_option maxHeartbeats 400000 in
theorem sameTexts_at (b o b' o' n c d : Nat) (xs : List ByteArray) (w : World) (hn : n ≤ 9223372036854775807) (hx : xs.length = n)
    (h1 : ∀ i, i < n → w.cell? ⟨b, o + i, none⟩ = (strs xs)[i]?) (h2 : ∀ i, i < n → w.cell? ⟨b', o' + i, none⟩ = (strs xs)[i]?) :
    Calls Tryz.prog 48 #[.slice (some ⟨b, o, none⟩) n c, .slice (some ⟨b', o', none⟩) n d] w fun e w' => e = .returned (.bool true) ∧ ∃ m, w' = w.drewN m := by
  have hne : ((n : Int) != (n : Int)) = false := by simp
  have H1 : Hid (∀ i, i < n → w.cell? ⟨b, o + i, none⟩ = (strs xs)[i]?) := h1
  have H2 : Hid (∀ i, i < n → w.cell? ⟨b', o' + i, none⟩ = (strs xs)[i]?) := h2
  have HX : Hid (xs.length = n) := hx
  clear h1 h2 hx
  go_enter Tryz.func48, Tryz.ntmps48
  go_wp2
  go_loopw [5] (fun i wr => ∃ k m : Nat, k ≤ n ∧ i = .int .i64 k ∧ wr = w.drewN m) (fun i _ => n - (intOf i).toNat)
  case atStart => exact ⟨0, 0, Nat.zero_le _, rfl, rfl⟩
  case round =>
    obtain ⟨k, m, hk, rfl, rfl⟩ := hrel
    by_cases hlt : k < n
    · have hk' : k < xs.length := by rw [HX.out]; exact hlt
      have c1 := (H1.out k hlt).trans (strs_at xs k hk')
      have c2 := (H2.out k hlt).trans (strs_at xs k hk')
      generalize xs[k] = x at *
      have hz : (x.toList != x.toList) = false := by simp
      go_wp2
      go_quiet (fail)
      go_wp2
      go_roundw
      case rel => exact ⟨k + 1, _, by omega, by go_num, rfl⟩
      case measure => simp [intOf]; omega
    · go_wp2
      go_ret
      exact ⟨rfl, _, rfl⟩

theorem sameTexts_self (p q : Option Addr) (n c d : Nat) (xs : List ByteArray) (w : World) (hn : n ≤ 9223372036854775807) (hx : xs.length = n) (h1 : GRow w p (strs xs)) (h2 : GRow w q (strs xs)) :
    Calls Tryz.prog 48 #[.slice p n c, .slice q n d] w fun e w' => e = .returned (.bool true) ∧ ∃ m, w' = w.drewN m := by
  rcases Nat.eq_zero_or_pos n with h0 | h0
  · subst h0
    exact (sameTexts_zero p q c d w).mono fun e w' h => ⟨h.1, 0, h.2⟩
  · obtain ⟨b, o, rfl, e1⟩ := h1 (by simp; omega)
    obtain ⟨b', o', rfl, e2⟩ := h2 (by simp; omega)
    exact sameTexts_at b o b' o' n c d xs w hn hx (fun i hi => e1 i (by simp; omega)) (fun i hi => e2 i (by simp; omega))

set_option maxHeartbeats 400000 in
theorem sameInts_zero (p q : Option Addr) (c d : Nat) (w : World) :
    Calls Tryz.prog 50 #[.slice p 0 c, .slice q 0 d] w fun e w' => e = .returned (.bool true) ∧ w' = w := by
  go_enter Tryz.func50, Tryz.ntmps50
  go_wp2
  refine wp_loop_rounds 1 ?_
  rw [rounds_succ]; go_wp2
  go_ret
  exact ⟨rfl, rfl⟩

set_option maxHeartbeats 400000 in
theorem sameInts_at (b o b' o' n c d : Nat) (xs : List Int) (w : World) (hn : n ≤ 9223372036854775807) (hx : xs.length = n)
    (h1 : ∀ i, i < n → w.cell? ⟨b, o + i, none⟩ = (nums xs)[i]?) (h2 : ∀ i, i < n → w.cell? ⟨b', o' + i, none⟩ = (nums xs)[i]?) :
    Calls Tryz.prog 50 #[.slice (some ⟨b, o, none⟩) n c, .slice (some ⟨b', o', none⟩) n d] w fun e w' => e = .returned (.bool true) ∧ ∃ m, w' = w.drewN m := by
  have hne : ((n : Int) != (n : Int)) = false := by simp
  have H1 : Hid (∀ i, i < n → w.cell? ⟨b, o + i, none⟩ = (nums xs)[i]?) := h1
  have H2 : Hid (∀ i, i < n → w.cell? ⟨b', o' + i, none⟩ = (nums xs)[i]?) := h2
  have HX : Hid (xs.length = n) := hx
  clear h1 h2 hx
  go_enter Tryz.func50, Tryz.ntmps50
  go_wp2
  go_loopw [5] (fun i wr => ∃ k m : Nat, k ≤ n ∧ i = .int .i64 k ∧ wr = w.drewN m) (fun i _ => n - (intOf i).toNat)
  case atStart => exact ⟨0, 0, Nat.zero_le _, rfl, rfl⟩
  case round =>
    obtain ⟨k, m, hk, rfl, rfl⟩ := hrel
    by_cases hlt : k < n
    · have hk' : k < xs.length := by rw [HX.out]; exact hlt
      have c1 := (H1.out k hlt).trans (nums_at xs k hk')
      have c2 := (H2.out k hlt).trans (nums_at xs k hk')
      generalize xs[k] = x at *
      have hz : (x != x) = false := by simp
      go_wp2
      go_quiet (fail)
      go_wp2
      go_roundw
      case rel => exact ⟨k + 1, _, by omega, by go_num, rfl⟩
      case measure => simp [intOf]; omega
    · go_wp2
      go_ret
      exact ⟨rfl, _, rfl⟩

theorem sameInts_self (p q : Option Addr) (n c d : Nat) (xs : List Int) (w : World) (hn : n ≤ 9223372036854775807) (hx : xs.length = n) (h1 : GRow w p (nums xs)) (h2 : GRow w q (nums xs)) :
    Calls Tryz.prog 50 #[.slice p n c, .slice q n d] w fun e w' => e = .returned (.bool true) ∧ ∃ m, w' = w.drewN m := by
  rcases Nat.eq_zero_or_pos n with h0 | h0
  · subst h0
    exact (sameInts_zero p q c d w).mono fun e w' h => ⟨h.1, 0, h.2⟩
  · obtain ⟨b, o, rfl, e1⟩ := h1 (by simp; omega)
    obtain ⟨b', o', rfl, e2⟩ := h2 (by simp; omega)
    exact sameInts_at b o b' o' n c d xs w hn hx (fun i hi => e1 i (by simp; omega)) (fun i hi => e2 i (by simp; omega))

set_option maxHeartbeats 400000 in
theorem copyTexts_at (b o n c : Nat) (xs : List ByteArray) (w : World) (hx : xs.length = n) (hn : n * 16 ≤ 140737488355328)
    (hc : ∀ i, i < n → w.cell? ⟨b, o + i, none⟩ = (strs xs)[i]?) :
    Calls Tryz.prog 39 #[.slice (some ⟨b, o, none⟩) n c] w fun e w' => ∃ v, e = .returned v ∧ GOwnV 9 w' w.heap.size v (strs xs) ∧ Below w.heap.size w w' := by
  have HX : Hid (xs.length = n) := hx
  have HC : Hid (∀ i, i < n → w.cell? ⟨b, o + i, none⟩ = (strs xs)[i]?) := hc
  clear hx hc
  go_enter Tryz.func39, Tryz.ntmps39
  go_wp2
  go_loopw [3, 4] (fun v i wr => ∃ k : Nat, k ≤ n ∧ i = .int .i64 k ∧ GOwnV 9 wr w.heap.size v (strs (xs.take k)) ∧ Below w.heap.size w wr) (fun _ i _ => n - (intOf i).toNat)
  case atStart => exact ⟨0, Nat.zero_le _, rfl, GOwnV.nil _ _ _, Below.refl _ _⟩
  case round =>
    obtain ⟨k, hk, rfl, hown, hbk⟩ := hrel
    by_cases hlt : k < n
    · have hk' : k < xs.length := by rw [HX.out]; exact hlt
      have hcd := (HC.out k hlt).trans (strs_at xs k hk')
      have hcl := cell_lt hcd
      have c1 := (hbk.cell (p := ⟨b, o + k, none⟩) hcl).trans hcd
      have hsz := hbk.size
      have hl : (strs (xs.take k)).length = k := by rw [List.length_map, List.length_take]; omega
      have HT : Hid (strs (xs.take (k + 1)) = strs (xs.take k) ++ [Value.string xs[k]]) := by
        show strs (xs.take (k + 1)) = strs (xs.take k) ++ [Value.string xs[k]]
        rw [List.take_succ_eq_append_getElem hk']; exact List.map_append
      clear hcd hcl
      have HL : Hid ((strs (xs.take k)).length = k) := hl
      clear hl
      generalize xs[k] = z at *
      generalize strs (xs.take k) = ys at *
      go_wp2_with (at_builtin; refine gpush Tryz.elemS _ rfl _ _ rfl w.heap.size _ ys rfl (hown.alloc _) ⟨wr.heap.size, 0, none⟩ 1 1 [Value.string z] rfl rfl (cell_one_new _ _ _) (by simp [Value.oneCell']) (by rw [HL.out]; omega) (by rw [HL.out]; omega) (by simp; omega) ?_; intro v' w1 hown' _hgrow hbel _hnil)
      go_roundw
      case rel => exact ⟨k + 1, by omega, by go_num, by rw [HT.out]; exact hown', hbel _ (hbk.alloc hsz _)⟩
      case measure => simp [intOf]; omega
    · have HT : Hid (xs.take k = xs) := List.take_of_length_le (by rw [HX.out]; omega)
      go_wp2
      go_ret
      exact ⟨_, rfl, by rw [HT.out] at hown; exact hown, hbk⟩

set_option maxHeartbeats 400000 in
theorem copyTexts_zero (p : Option Addr) (c : Nat) (w : World) :
    Calls Tryz.prog 39 #[.slice p 0 c] w fun e w' => e = .returned (.slice none 0 0) ∧ w' = w := by
  go_enter Tryz.func39, Tryz.ntmps39
  go_wp2
  refine wp_loop_rounds 1 ?_
  rw [rounds_succ]; go_wp2
  go_ret
  exact ⟨rfl, rfl⟩

theorem copyTexts_any (p : Option Addr) (n c : Nat) (xs : List ByteArray) (w : World) (hx : xs.length = n) (hn : n * 16 ≤ 140737488355328) (hr : GRow w p (strs xs)) :
    Calls Tryz.prog 39 #[.slice p n c] w fun e w' => ∃ v, e = .returned v ∧ GOwnV 9 w' w.heap.size v (strs xs) ∧ Below w.heap.size w w' := by
  rcases Nat.eq_zero_or_pos n with h0 | h0
  · subst h0
    obtain rfl : xs = [] := List.eq_nil_of_length_eq_zero hx
    exact (copyTexts_zero p c w).mono fun e w' h => ⟨_, h.1, GOwnV.nil _ _ _, by rw [h.2]; exact below_self w⟩
  · obtain ⟨b, o, rfl, hc⟩ := hr (by simp; omega)
    exact copyTexts_at b o n c xs w hx hn (fun i hi => hc i (by simp; omega))

set_option maxHeartbeats 400000 in
theorem copyInts_at (b o n c : Nat) (xs : List Int) (w : World) (hx : xs.length = n) (hn : n * 8 ≤ 140737488355328)
    (hc : ∀ i, i < n → w.cell? ⟨b, o + i, none⟩ = (nums xs)[i]?) :
    Calls Tryz.prog 41 #[.slice (some ⟨b, o, none⟩) n c] w fun e w' => ∃ v, e = .returned v ∧ GOwnV 3 w' w.heap.size v (nums xs) ∧ Below w.heap.size w w' := by
  have HX : Hid (xs.length = n) := hx
  have HC : Hid (∀ i, i < n → w.cell? ⟨b, o + i, none⟩ = (nums xs)[i]?) := hc
  clear hx hc
  go_enter Tryz.func41, Tryz.ntmps41
  go_wp2
  go_loopw [3, 4] (fun v i wr => ∃ k : Nat, k ≤ n ∧ i = .int .i64 k ∧ GOwnV 3 wr w.heap.size v (nums (xs.take k)) ∧ Below w.heap.size w wr) (fun _ i _ => n - (intOf i).toNat)
  case atStart => exact ⟨0, Nat.zero_le _, rfl, GOwnV.nil _ _ _, Below.refl _ _⟩
  case round =>
    obtain ⟨k, hk, rfl, hown, hbk⟩ := hrel
    by_cases hlt : k < n
    · have hk' : k < xs.length := by rw [HX.out]; exact hlt
      have hcd := (HC.out k hlt).trans (nums_at xs k hk')
      have hcl := cell_lt hcd
      have c1 := (hbk.cell (p := ⟨b, o + k, none⟩) hcl).trans hcd
      have hsz := hbk.size
      have hl : (nums (xs.take k)).length = k := by rw [List.length_map, List.length_take]; omega
      have HT : Hid (nums (xs.take (k + 1)) = nums (xs.take k) ++ [Value.int .i64 xs[k]]) := by
        show nums (xs.take (k + 1)) = nums (xs.take k) ++ [Value.int .i64 xs[k]]
        rw [List.take_succ_eq_append_getElem hk']; exact List.map_append
      clear hcd hcl
      have HL : Hid ((nums (xs.take k)).length = k) := hl
      clear hl
      generalize xs[k] = z at *
      generalize nums (xs.take k) = ys at *
      go_wp2_with (at_builtin; refine gpush Tryz.elemI _ rfl _ _ rfl w.heap.size _ ys rfl (hown.alloc _) ⟨wr.heap.size, 0, none⟩ 1 1 [Value.int .i64 z] rfl rfl (cell_one_new _ _ _) (by simp [Value.oneCell']) (by rw [HL.out]; omega) (by rw [HL.out]; omega) (by simp; omega) ?_; intro v' w1 hown' _hgrow hbel _hnil)
      go_roundw
      case rel => exact ⟨k + 1, by omega, by go_num, by rw [HT.out]; exact hown', hbel _ (hbk.alloc hsz _)⟩
      case measure => simp [intOf]; omega
    · have HT : Hid (xs.take k = xs) := List.take_of_length_le (by rw [HX.out]; omega)
      go_wp2
      go_ret
      exact ⟨_, rfl, by rw [HT.out] at hown; exact hown, hbk⟩

set_option maxHeartbeats 400000 in
theorem copyInts_zero (p : Option Addr) (c : Nat) (w : World) :
    Calls Tryz.prog 41 #[.slice p 0 c] w fun e w' => e = .returned (.slice none 0 0) ∧ w' = w := by
  go_enter Tryz.func41, Tryz.ntmps41
  go_wp2
  refine wp_loop_rounds 1 ?_
  rw [rounds_succ]; go_wp2
  go_ret
  exact ⟨rfl, rfl⟩

theorem copyInts_any (p : Option Addr) (n c : Nat) (xs : List Int) (w : World) (hx : xs.length = n) (hn : n * 8 ≤ 140737488355328) (hr : GRow w p (nums xs)) :
    Calls Tryz.prog 41 #[.slice p n c] w fun e w' => ∃ v, e = .returned v ∧ GOwnV 3 w' w.heap.size v (nums xs) ∧ Below w.heap.size w w' := by
  rcases Nat.eq_zero_or_pos n with h0 | h0
  · subst h0
    obtain rfl : xs = [] := List.eq_nil_of_length_eq_zero hx
    exact (copyInts_zero p c w).mono fun e w' h => ⟨_, h.1, GOwnV.nil _ _ _, by rw [h.2]; exact below_self w⟩
  · obtain ⟨b, o, rfl, hc⟩ := hr (by simp; omega)
    exact copyInts_at b o n c xs w hx hn (fun i hi => hc i (by simp; omega))

end Go.Proofs.YtgblohjdiheemaaGreat
