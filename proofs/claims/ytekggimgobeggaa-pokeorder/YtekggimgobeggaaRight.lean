/- What isa.Right answers, for every instruction. -/
import Derived.Test.YtekggimgobeggaaOps
import Derived.Deep.RegionWith
import Derived.Deep.CutRange
namespace Go.Proofs.Ytekggimgobeggaa
open Go.RowKit

abbrev ins (o a b n : Int) : Value := .agg #[.int .u8 o, .int .u8 a, .int .u8 b, .int .i32 n]

/-- whether an instruction is right: its op's number, its fields -/
def rightB (o : Nat) (a b n : Int) : Bool := decide (1 ≤ o ∧ o < 17) && (regB (decide (1 ≤ rg o)) a && regB (decide (2 ≤ rg o)) b && numB (kd o) n)

theorem cell_push {w : World} {b o : Nat} {v : Value} (h : w.cell? ⟨b, o, none⟩ = some v) (ob : Obj) : (w.alloc ob).cell? ⟨b, o, none⟩ = some v :=
  ((new_alloc w ob).cell (p := ⟨b, o, none⟩) (cell_lt h)).trans h
theorem lt_push {b : Nat} {w : World} (h : b < w.heap.size) (o : Obj) : b < (w.alloc o).drew.heap.size := by
  show b < (w.heap.push o).size
  simp; omega
theorem kept_new4 {w w2 : World} {x0 x1 x2 x3 : Value} {t : TypeId} (hb : Below (w.alloc (.cells #[x0, x1, x2, x3] t)).drew.heap.size (w.alloc (.cells #[x0, x1, x2, x3] t)).drew w2) :
    w2.cell? ⟨w.heap.size, 0, none⟩ = some x0 ∧ w2.cell? ⟨w.heap.size, 1, none⟩ = some x1 ∧ w2.cell? ⟨w.heap.size, 2, none⟩ = some x2 ∧ w2.cell? ⟨w.heap.size, 3, none⟩ = some x3 ∧
    w2.frozen? ⟨w.heap.size, 0, none⟩ = false ∧ w2.frozen? ⟨w.heap.size, 1, none⟩ = false ∧ w2.frozen? ⟨w.heap.size, 2, none⟩ = false ∧ w2.frozen? ⟨w.heap.size, 3, none⟩ = false := by
  have hl : w.heap.size < (w.alloc (.cells #[x0, x1, x2, x3] t)).drew.heap.size := by
    show w.heap.size < (w.heap.push _).size
    simp
  refine ⟨(hb.cell (p := ⟨w.heap.size, 0, none⟩) hl).trans ?_, (hb.cell (p := ⟨w.heap.size, 1, none⟩) hl).trans ?_, (hb.cell (p := ⟨w.heap.size, 2, none⟩) hl).trans ?_, (hb.cell (p := ⟨w.heap.size, 3, none⟩) hl).trans ?_, (hb.frozen (p := ⟨w.heap.size, 0, none⟩) hl).trans ?_, (hb.frozen (p := ⟨w.heap.size, 1, none⟩) hl).trans ?_, (hb.frozen (p := ⟨w.heap.size, 2, none⟩) hl).trans ?_, (hb.frozen (p := ⟨w.heap.size, 3, none⟩) hl).trans ?_⟩
  all_goals simp

/-- four cells of a variable -/
def At4 (w : World) (g : Nat) (x0 x1 x2 x3 : Value) : Prop :=
  w.cell? ⟨g, 0, none⟩ = some x0 ∧ w.cell? ⟨g, 1, none⟩ = some x1 ∧ w.cell? ⟨g, 2, none⟩ = some x2 ∧ w.cell? ⟨g, 3, none⟩ = some x3
theorem At4.below {w w' : World} {g : Nat} {x0 x1 x2 x3 : Value} (h : At4 w g x0 x1 x2 x3) (hb : Below w.heap.size w w') : At4 w' g x0 x1 x2 x3 :=
  ⟨(hb.cell (p := ⟨g, 0, none⟩) (cell_lt h.1)).trans h.1, (hb.cell (p := ⟨g, 1, none⟩) (cell_lt h.1)).trans h.2.1, (hb.cell (p := ⟨g, 2, none⟩) (cell_lt h.1)).trans h.2.2.1, (hb.cell (p := ⟨g, 3, none⟩) (cell_lt h.1)).trans h.2.2.2⟩
theorem At4.new (w : World) (x0 x1 x2 x3 : Value) (t : TypeId) : At4 (w.alloc (.cells #[x0, x1, x2, x3] t)) w.heap.size x0 x1 x2 x3 := ⟨by simp, by simp, by simp, by simp⟩
theorem cs_other {w : World} {g i j : Nat} {v : Value} (h : i ≠ j) : (w.setCell ⟨g, i, none⟩ v).cell? ⟨g, j, none⟩ = w.cell? ⟨g, j, none⟩ :=
  World.cell?_setCell_other _ _ _ _ fun e => h (congrArg Addr.off e)
theorem met_A {w1 w2 : World} (hb : Below w1.drew.heap.size w1.drew w2) (x0 x1 x2 x3 : Value) (t : TypeId) :
    At4 (w2.alloc (.cells #[x0, x1, x2, x3] t)) w2.heap.size x0 x1 x2 x3 ∧ Below w1.heap.size w1 (w2.alloc (.cells #[x0, x1, x2, x3] t)) :=
  ⟨At4.new _ _ _ _ _ _, below_alloc (below_step ((Below.refl w1.heap.size w1).drew) hb) _⟩
theorem met_B {w1 w2 : World} {z0 z1 z2 z3 : Value} {t : TypeId} (hb : Below (w1.alloc (.cells #[z0, z1, z2, z3] t)).drew.heap.size (w1.alloc (.cells #[z0, z1, z2, z3] t)).drew w2) (x0 x1 x2 x3 : Value) :
    At4 ((((w2.setCell ⟨w1.heap.size, 0, none⟩ x0).setCell ⟨w1.heap.size, 1, none⟩ x1).setCell ⟨w1.heap.size, 2, none⟩ x2).setCell ⟨w1.heap.size, 3, none⟩ x3) w1.heap.size x0 x1 x2 x3 ∧
    Below w1.heap.size w1 ((((w2.setCell ⟨w1.heap.size, 0, none⟩ x0).setCell ⟨w1.heap.size, 1, none⟩ x1).setCell ⟨w1.heap.size, 2, none⟩ x2).setCell ⟨w1.heap.size, 3, none⟩ x3) := by
  obtain ⟨d0, d1, d2, d3, _⟩ := kept_new4 hb
  refine ⟨⟨?_, ?_, ?_, ?_⟩, ((((below_step (new_alloc w1 _).drew hb).setCell (Nat.le_refl _) _).setCell (Nat.le_refl _) _).setCell (Nat.le_refl _) _).setCell (Nat.le_refl _) _⟩
  · exact (cs_other (by decide)).trans ((cs_other (by decide)).trans ((cs_other (by decide)).trans (World.cell?_setCell_same _ _ _ d0)))
  · exact (cs_other (by decide)).trans ((cs_other (by decide)).trans (World.cell?_setCell_same _ _ _ ((cs_other (by decide)).trans d1)))
  · exact (cs_other (by decide)).trans (World.cell?_setCell_same _ _ _ ((cs_other (by decide)).trans ((cs_other (by decide)).trans d2)))
  · exact World.cell?_setCell_same _ _ _ ((cs_other (by decide)).trans ((cs_other (by decide)).trans ((cs_other (by decide)).trans d3)))

theorem nm_ne (o : Nat) (h1 : 1 ≤ o) (h2 : o < 17) : ((nm o).toList == []) = false := by
  rw [Lib.toList_data]
  refine beq_eq_false_iff_ne.2 fun e => nm_pos o h1 h2 ?_
  generalize nm o = s at e
  cases s with | mk d => simp at e; rw [e]

set_option maxHeartbeats 1000000 in
theorem right_op (o : Nat) (a b n : Int) (w : World) (h1 : 1 ≤ o) (h2 : o < 17) (ha : 0 ≤ a ∧ a ≤ 255) (hb : 0 ≤ b ∧ b ≤ 255) :
    Calls Try.prog 99 #[ins o a b n] w fun e w' => e = .returned (.bool (rightB o a b n)) ∧ Below w.heap.size w w' := by
  have hcon := isaName_yes o (w.alloc (.cells #[.int .u8 o, .int .u8 a, .int .u8 b, .int .i32 n] 146)) h2
  have hidx := idx_any o h2
  have hq := nm_ne o h1 h2
  have hr := fun w => holdsRegs_any (nm o) (cd o) (rg o) (kd o) a b w (rg_le o h2) ha hb
  have hn := fun w => holdsNum_any (nm o) (cd o) (rg o) (kd o) n w (kd_in o h2)
  have hR : rightB o a b n = ((regB (decide (1 ≤ rg o)) a && regB (decide (2 ≤ rg o)) b) && numB (kd o) n) := by simp [rightB, h1, h2]
  rw [hR]
  generalize (regB (decide (1 ≤ rg o)) a && regB (decide (2 ≤ rg o)) b) = r1 at *
  generalize numB (kd o) n = r2 at *
  clear hR h1 h2 ha hb
  generalize nm o = s at *
  generalize cd o = c at *
  generalize rg o = r at *
  generalize kd o = q at *
  go_enter Try.func99, Try.ntmps99
  go_wp2_with fail
  refine hcon.mono ?_
  rintro e w1 ⟨rfl, hb1⟩
  have c0 : w1.cell? ⟨w.heap.size, 0, none⟩ = some (.int .u8 o) := by rw [hb1.cell (p := ⟨w.heap.size, 0, none⟩) (by simp)]; simp
  have l0 : w.heap.size < w1.heap.size := cell_lt c0
  have c1 : ∀ ob, (w1.alloc ob).cell? ⟨w.heap.size, 0, none⟩ = some (.int .u8 o) := cell_push c0
  clear hcon
  go_upto_region 3 with fail
  go_cut [3] from 8 to 11 (fun p wx => ∃ g, p = .pointer (some ⟨g, 0, none⟩) ∧ At4 wx g (.string s) (.string c) (.int .i64 r) (.int .u8 q) ∧ Below w1.heap.size w1 wx)
  case first =>
    go_region_with (go_at_call 100; refine (shapes_any _).mono ?_; rintro e w2 ⟨rfl, hb2⟩; first | (have c9 := (hb2.cell (p := ⟨w.heap.size, 0, none⟩) l0).trans c0; have c8 := cell_push c9; have hA := hb2) | (have c9 := (hb2.cell (p := ⟨w.heap.size, 0, none⟩) (lt_push l0 _)).trans (c1 _); obtain ⟨d0, d1, d2, d3, f0, f1, f2, f3⟩ := kept_new4 hb2; have hB := hb2))
    all_goals
      go_wp2_with fail
      go_meet
      case rel => first | exact ⟨_, rfl, met_A hA _ _ _ _ _⟩ | exact ⟨_, rfl, met_B hB _ _ _ _⟩
  case rest =>
    obtain ⟨g, rfl, hat, hbx⟩ := hcut
    have hbox : At4 wc w.heap.size (.int .u8 o) (.int .u8 a) (.int .u8 b) (.int .i32 n) := ((At4.new w _ _ _ _ 146).below hb1).below hbx
    have hbc := below_step (below_step (new_alloc w _) hb1) hbx
    clear hbx hb1 c0 l0 c1 hidx
    have HA : Hid (At4 wc g (.string s) (.string c) (.int .i64 r) (.int .u8 q)) := hat
    have HB : Hid (At4 wc w.heap.size (.int .u8 o) (.int .u8 a) (.int .u8 b) (.int .i32 n)) := hbox
    obtain ⟨q0, q1, q2, q3⟩ := hat
    obtain ⟨p0, p1, p2, p3⟩ := hbox
    go_wp2_with fail
    refine (hr _).mono ?_
    rintro e w3 ⟨rfl, hb3⟩
    obtain ⟨s0, s1, s2, s3⟩ := HA.out.below hb3
    obtain ⟨t0, t1, t2, t3⟩ := HB.out.below hb3
    have hb4 := below_step hbc hb3
    clear hb3 hbc
    cases r1
    · go_wp2
      go_ret
      exact ⟨rfl, hb4⟩
    · go_wp2_with fail
      refine (hn _).mono ?_
      rintro e w4 ⟨rfl, hb5⟩
      go_wp2
      go_ret
      exact ⟨rfl, below_step hb4 hb5⟩

set_option maxHeartbeats 400000 in
theorem right_zero (a b n : Int) (w : World) :
    Calls Try.prog 99 #[ins 0 a b n] w fun e w' => e = .returned (.bool false) ∧ Below w.heap.size w w' := by
  have hcon := isaName_yes 0 (w.alloc (.cells #[.int .u8 0, .int .u8 a, .int .u8 b, .int .i32 n] 146)) (by decide)
  rw [show nm 0 = ⟨#[]⟩ from rfl] at hcon
  go_enter Try.func99, Try.ntmps99
  go_wp2_with fail
  refine hcon.mono ?_
  rintro e w1 ⟨rfl, hb1⟩
  clear hcon
  go_wp2
  go_ret
  exact ⟨rfl, below_step (new_alloc w _) hb1⟩

set_option maxHeartbeats 400000 in
theorem right_big (o a b n : Int) (w : World) (h1 : 17 ≤ o) (h2 : o ≤ 255) :
    Calls Try.prog 99 #[ins o a b n] w fun e w' => e = .returned (.bool false) ∧ Below w.heap.size w w' := by
  have hcon := isaName_no o (w.alloc (.cells #[.int .u8 o, .int .u8 a, .int .u8 b, .int .i32 n] 146)) h1 h2
  go_enter Try.func99, Try.ntmps99
  go_wp2_with fail
  refine hcon.mono ?_
  rintro e w1 ⟨rfl, hb1⟩
  clear hcon
  go_wp2
  go_ret
  exact ⟨rfl, below_step (new_alloc w _) hb1⟩

theorem right_any (o : Nat) (a b n : Int) (w : World) (ho : o ≤ 255) (ha : 0 ≤ a ∧ a ≤ 255) (hb : 0 ≤ b ∧ b ≤ 255) :
    Calls Try.prog 99 #[ins o a b n] w fun e w' => e = .returned (.bool (rightB o a b n)) ∧ Below w.heap.size w w' := by
  by_cases h : 1 ≤ o ∧ o < 17
  · exact right_op o a b n w h.1 h.2 ha hb
  · have hf : rightB o a b n = false := by simp only [rightB, decide_eq_false h, Bool.false_and]
    rw [hf]
    by_cases h0 : o = 0
    · subst h0; exact right_zero a b n w
    · exact right_big o a b n w (by omega) (by omega)
end Go.Proofs.Ytekggimgobeggaa
