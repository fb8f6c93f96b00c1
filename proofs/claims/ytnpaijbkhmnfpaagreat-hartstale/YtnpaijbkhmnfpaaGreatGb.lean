/- Texts put together: Right, Enc, RefForm, RefOps, RefRight, RefEnc. -/
import Derived.Test.YtnpaijbkhmnfpaaGreatOps
import Derived.Deep.RegionWith
import Derived.Deep.CutRange
import Derived.Test.YtnpaijbkhmnfpaaGreatPut
import Derived.Lib.BufferWrite
import Derived.Test.YtnpaijbkhmnfpaaGreatCopy

/- What isa.Right answers, for every instruction. -/
namespace Go.Proofs.YtnpaijbkhmnfpaaGreat
open Go.RowKit

abbrev ins (o a b n : Int) : Value := .agg #[.int .u8 o, .int .u8 a, .int .u8 b, .int .i32 n]

/-- whether an instruction is right: its op's number, its fields -/
def rightB (o : Nat) (a b n : Int) : Bool := decide (1 ≤ o ∧ o < 17) && (regB (decide (1 ≤ rg o)) a && regB (decide (2 ≤ rg o)) b && numB (kd o) n)

theorem cell_push {w : World} {b o : Nat} {v : Value} (h : w.cell? ⟨b, o, none⟩ = some v) (ob : Obj) : (w.alloc ob).cell? ⟨b, o, none⟩ = some v :=
  ((new_alloc w ob).cell (p := ⟨b, o, none⟩) (cell_lt h)).trans h
theorem lt_push {b : Nat} {w : World} (h : b < w.heap.size) (o : Obj) : b < (w.alloc o).drew.heap.size := by
  show b < (w.heap.push o).size
  simp; omega
theorem kept_new4 {w w2 : World} {x0 x1 x2 x3 : Value} {t : TypeId} (hb : Below (w.alloc (.cells #[x0, x1, x2, x3] t)).drew.heap.size (w.alloc (.cells #[x0, x1, x2, x3] t)).drew w2) :
    w2.cell? ⟨w.heap.size, 0, none⟩ = some x0 ∧ w2.cell? ⟨w.heap.size, 1, none⟩ = some x1 ∧ w2.cell? ⟨w.heap.size, 2, none⟩ = some x2 ∧ w2.cell? ⟨w.heap.size, 3, none⟩ = some x3 ∧
    w2.frozen? ⟨w.heap.size, 0, none⟩ = false ∧ w2.frozen? ⟨w.heap.size, 1, none⟩ = false ∧ w2.frozen? ⟨w.heap.size, 2, none⟩ = false ∧ w2.frozen? ⟨w.heap.size, 3, none⟩ = false := by
  have hl : w.heap.size < (w.alloc (.cells #[x0, x1, x2, x3] t)).drew.heap.size := by
    show w.heap.size < (w.heap.push _).size
    simp
  refine ⟨(hb.cell (p := ⟨w.heap.size, 0, none⟩) hl).trans ?_, (hb.cell (p := ⟨w.heap.size, 1, none⟩) hl).trans ?_, (hb.cell (p := ⟨w.heap.size, 2, none⟩) hl).trans ?_, (hb.cell (p := ⟨w.heap.size, 3, none⟩) hl).trans ?_, (hb.frozen (p := ⟨w.heap.size, 0, none⟩) hl).trans ?_, (hb.frozen (p := ⟨w.heap.size, 1, none⟩) hl).trans ?_, (hb.frozen (p := ⟨w.heap.size, 2, none⟩) hl).trans ?_, (hb.frozen (p := ⟨w.heap.size, 3, none⟩) hl).trans ?_⟩
  all_goals simp

/-- four cells of a variable -/
def At4 (w : World) (g : Nat) (x0 x1 x2 x3 : Value) : Prop :=
  w.cell? ⟨g, 0, none⟩ = some x0 ∧ w.cell? ⟨g, 1, none⟩ = some x1 ∧ w.cell? ⟨g, 2, none⟩ = some x2 ∧ w.cell? ⟨g, 3, none⟩ = some x3
theorem At4.below {w w' : World} {g : Nat} {x0 x1 x2 x3 : Value} (h : At4 w g x0 x1 x2 x3) (hb : Below w.heap.size w w') : At4 w' g x0 x1 x2 x3 :=
  ⟨(hb.cell (p := ⟨g, 0, none⟩) (cell_lt h.1)).trans h.1, (hb.cell (p := ⟨g, 1, none⟩) (cell_lt h.1)).trans h.2.1, (hb.cell (p := ⟨g, 2, none⟩) (cell_lt h.1)).trans h.2.2.1, (hb.cell (p := ⟨g, 3, none⟩) (cell_lt h.1)).trans h.2.2.2⟩
theorem At4.new (w : World) (x0 x1 x2 x3 : Value) (t : TypeId) : At4 (w.alloc (.cells #[x0, x1, x2, x3] t)) w.heap.size x0 x1 x2 x3 := ⟨by simp, by simp, by simp, by simp⟩
theorem cs_other {w : World} {g i j : Nat} {v : Value} (h : i ≠ j) : (w.setCell ⟨g, i, none⟩ v).cell? ⟨g, j, none⟩ = w.cell? ⟨g, j, none⟩ :=
  World.cell?_setCell_other _ _ _ _ fun e => h (congrArg Addr.off e)
theorem met_A {w1 w2 : World} (hb : Below w1.drew.heap.size w1.drew w2) (x0 x1 x2 x3 : Value) (t : TypeId) :
    At4 (w2.alloc (.cells #[x0, x1, x2, x3] t)) w2.heap.size x0 x1 x2 x3 ∧ Below w1.heap.size w1 (w2.alloc (.cells #[x0, x1, x2, x3] t)) :=
  ⟨At4.new _ _ _ _ _ _, below_alloc (below_step ((Below.refl w1.heap.size w1).drew) hb) _⟩
theorem met_B {w1 w2 : World} {z0 z1 z2 z3 : Value} {t : TypeId} (hb : Below (w1.alloc (.cells #[z0, z1, z2, z3] t)).drew.heap.size (w1.alloc (.cells #[z0, z1, z2, z3] t)).drew w2) (x0 x1 x2 x3 : Value) :
    At4 ((((w2.setCell ⟨w1.heap.size, 0, none⟩ x0).setCell ⟨w1.heap.size, 1, none⟩ x1).setCell ⟨w1.heap.size, 2, none⟩ x2).setCell ⟨w1.heap.size, 3, none⟩ x3) w1.heap.size x0 x1 x2 x3 ∧
    Below w1.heap.size w1 ((((w2.setCell ⟨w1.heap.size, 0, none⟩ x0).setCell ⟨w1.heap.size, 1, none⟩ x1).setCell ⟨w1.heap.size, 2, none⟩ x2).setCell ⟨w1.heap.size, 3, none⟩ x3) := by
  obtain ⟨d0, d1, d2, d3, _⟩ := kept_new4 hb
  refine ⟨⟨?_, ?_, ?_, ?_⟩, ((((below_step (new_alloc w1 _).drew hb).setCell (Nat.le_refl _) _).setCell (Nat.le_refl _) _).setCell (Nat.le_refl _) _).setCell (Nat.le_refl _) _⟩
  · exact (cs_other (by decide)).trans ((cs_other (by decide)).trans ((cs_other (by decide)).trans (World.cell?_setCell_same _ _ _ d0)))
  · exact (cs_other (by decide)).trans ((cs_other (by decide)).trans (World.cell?_setCell_same _ _ _ ((cs_other (by decide)).trans d1)))
  · exact (cs_other (by decide)).trans (World.cell?_setCell_same _ _ _ ((cs_other (by decide)).trans ((cs_other (by decide)).trans d2)))
  · exact World.cell?_setCell_same _ _ _ ((cs_other (by decide)).trans ((cs_other (by decide)).trans ((cs_other (by decide)).trans d3)))

theorem nm_ne (o : Nat) (h1 : 1 ≤ o) (h2 : o < 17) : ((nm o).toList == []) = false := by
  rw [Lib.toList_data]
  refine beq_eq_false_iff_ne.2 fun e => nm_pos o h1 h2 ?_
  generalize nm o = s at e
  cases s with | mk d => simp at e; rw [e]

set_option maxHeartbeats 1000000 in
theorem right_op (o : Nat) (a b n : Int) (w : World) (h1 : 1 ≤ o) (h2 : o < 17) (ha : 0 ≤ a ∧ a ≤ 255) (hb : 0 ≤ b ∧ b ≤ 255) :
    Calls Tryz.prog 99 #[ins o a b n] w fun e w' => e = .returned (.bool (rightB o a b n)) ∧ Below w.heap.size w w' := by
  have hcon := isaName_yes o (w.alloc (.cells #[.int .u8 o, .int .u8 a, .int .u8 b, .int .i32 n] 117)) h2
  have hidx := idx_any o h2
  have hq := nm_ne o h1 h2
  have hr := fun w => holdsRegs_any (nm o) (cd o) (rg o) (kd o) a b w (rg_le o h2) ha hb
  have hn := fun w => holdsNum_any (nm o) (cd o) (rg o) (kd o) n w (kd_in o h2)
  have hR : rightB o a b n = ((regB (decide (1 ≤ rg o)) a && regB (decide (2 ≤ rg o)) b) && numB (kd o) n) := by simp [rightB, h1, h2]
  rw [hR]
  generalize (regB (decide (1 ≤ rg o)) a && regB (decide (2 ≤ rg o)) b) = r1 at *
  generalize numB (kd o) n = r2 at *
  clear hR h1 h2 ha hb
  generalize nm o = s at *
  generalize cd o = c at *
  generalize rg o = r at *
  generalize kd o = q at *
  go_enter Tryz.func99, Tryz.ntmps99
  go_wp2_with fail
  refine hcon.mono ?_
  rintro e w1 ⟨rfl, hb1⟩
  have c0 : w1.cell? ⟨w.heap.size, 0, none⟩ = some (.int .u8 o) := by rw [hb1.cell (p := ⟨w.heap.size, 0, none⟩) (by simp)]; simp
  have l0 : w.heap.size < w1.heap.size := cell_lt c0
  have c1 : ∀ ob, (w1.alloc ob).cell? ⟨w.heap.size, 0, none⟩ = some (.int .u8 o) := cell_push c0
  clear hcon
  go_upto_region 3 with fail
  go_cut [3] from 8 to 11 (fun p wx => ∃ g, p = .pointer (some ⟨g, 0, none⟩) ∧ At4 wx g (.string s) (.string c) (.int .i64 r) (.int .u8 q) ∧ Below w1.heap.size w1 wx)
  case first =>
    go_region_with (go_at_call 96; refine (shapes_any _).mono ?_; rintro e w2 ⟨rfl, hb2⟩; first | (have c9 := (hb2.cell (p := ⟨w.heap.size, 0, none⟩) l0).trans c0; have c8 := cell_push c9; have hA := hb2) | (have c9 := (hb2.cell (p := ⟨w.heap.size, 0, none⟩) (lt_push l0 _)).trans (c1 _); obtain ⟨d0, d1, d2, d3, f0, f1, f2, f3⟩ := kept_new4 hb2; have hB := hb2))
    all_goals
      go_wp2_with fail
      go_meet
      case rel => first | exact ⟨_, rfl, met_A hA _ _ _ _ _⟩ | exact ⟨_, rfl, met_B hB _ _ _ _⟩
  case rest =>
    obtain ⟨g, rfl, hat, hbx⟩ := hcut
    have hbox : At4 wc w.heap.size (.int .u8 o) (.int .u8 a) (.int .u8 b) (.int .i32 n) := ((At4.new w _ _ _ _ 117).below hb1).below hbx
    have hbc := below_step (below_step (new_alloc w _) hb1) hbx
    clear hbx hb1 c0 l0 c1 hidx
    have HA : Hid (At4 wc g (.string s) (.string c) (.int .i64 r) (.int .u8 q)) := hat
    have HB : Hid (At4 wc w.heap.size (.int .u8 o) (.int .u8 a) (.int .u8 b) (.int .i32 n)) := hbox
    obtain ⟨q0, q1, q2, q3⟩ := hat
    obtain ⟨p0, p1, p2, p3⟩ := hbox
    go_wp2_with fail
    refine (hr _).mono ?_
    rintro e w3 ⟨rfl, hb3⟩
    obtain ⟨s0, s1, s2, s3⟩ := HA.out.below hb3
    obtain ⟨t0, t1, t2, t3⟩ := HB.out.below hb3
    have hb4 := below_step hbc hb3
    clear hb3 hbc
    cases r1
    · go_wp2
      go_ret
      exact ⟨rfl, hb4⟩
    · go_wp2_with fail
      refine (hn _).mono ?_
      rintro e w4 ⟨rfl, hb5⟩
      go_wp2
      go_ret
      exact ⟨rfl, below_step hb4 hb5⟩

set_option maxHeartbeats 400000 in
theorem right_zero (a b n : Int) (w : World) :
    Calls Tryz.prog 99 #[ins 0 a b n] w fun e w' => e = .returned (.bool false) ∧ Below w.heap.size w w' := by
  have hcon := isaName_yes 0 (w.alloc (.cells #[.int .u8 0, .int .u8 a, .int .u8 b, .int .i32 n] 117)) (by decide)
  rw [show nm 0 = ⟨#[]⟩ from rfl] at hcon
  go_enter Tryz.func99, Tryz.ntmps99
  go_wp2_with fail
  refine hcon.mono ?_
  rintro e w1 ⟨rfl, hb1⟩
  clear hcon
  go_wp2
  go_ret
  exact ⟨rfl, below_step (new_alloc w _) hb1⟩

set_option maxHeartbeats 400000 in
theorem right_big (o a b n : Int) (w : World) (h1 : 17 ≤ o) (h2 : o ≤ 255) :
    Calls Tryz.prog 99 #[ins o a b n] w fun e w' => e = .returned (.bool false) ∧ Below w.heap.size w w' := by
  have hcon := isaName_no o (w.alloc (.cells #[.int .u8 o, .int .u8 a, .int .u8 b, .int .i32 n] 117)) h1 h2
  go_enter Tryz.func99, Tryz.ntmps99
  go_wp2_with fail
  refine hcon.mono ?_
  rintro e w1 ⟨rfl, hb1⟩
  clear hcon
  go_wp2
  go_ret
  exact ⟨rfl, below_step (new_alloc w _) hb1⟩

theorem right_any (o : Nat) (a b n : Int) (w : World) (ho : o ≤ 255) (ha : 0 ≤ a ∧ a ≤ 255) (hb : 0 ≤ b ∧ b ≤ 255) :
    Calls Tryz.prog 99 #[ins o a b n] w fun e w' => e = .returned (.bool (rightB o a b n)) ∧ Below w.heap.size w w' := by
  by_cases h : 1 ≤ o ∧ o < 17
  · exact right_op o a b n w h.1 h.2 ha hb
  · have hf : rightB o a b n = false := by simp only [rightB, decide_eq_false h, Bool.false_and]
    rw [hf]
    by_cases h0 : o = 0
    · subst h0; exact right_zero a b n w
    · exact right_big o a b n w (by omega) (by omega)
end Go.Proofs.YtnpaijbkhmnfpaaGreat

/- What isa.Encode answers, for every instruction. -/
namespace Go.Proofs.YtnpaijbkhmnfpaaGreat
open Go.RowKit

theorem cd_cells (o : Nat) (h : o < 17) : Lib.byteCells (cd o).data.toList = byts (cdL o) := by
  have : ∀ o : Fin 17, Lib.byteCells (cd o.1).data.toList = byts (cdL o.1) := fun o => by
    obtain ⟨o, ho⟩ := o
    revert ho
    exact fun ho => match o, ho with
      | 0, _ => rfl | 1, _ => rfl | 2, _ => rfl | 3, _ => rfl | 4, _ => rfl | 5, _ => rfl | 6, _ => rfl | 7, _ => rfl | 8, _ => rfl
      | 9, _ => rfl | 10, _ => rfl | 11, _ => rfl | 12, _ => rfl | 13, _ => rfl | 14, _ => rfl | 15, _ => rfl | 16, _ => rfl
      | n + 17, h => absurd h (by omega)
  exact this ⟨o, h⟩

theorem copy_code {w1 : World} {B g n : Nat} (c : ByteArray) (cs : List Int) (hcs : Lib.byteCells c.data.toList = byts cs) (hsz : c.size = cs.length) (hle : cs.length ≤ n) (hown : Own w1 B g n (List.replicate n 0)) :
    ∃ w2, (Builtin.copy_ #[26, 9] 3 #[.slice (some ⟨g, 0, none⟩) n n, .string c]).run Tryz.prog w1 = .ok (.int .i64 cs.length) w2 ∧ Own w2 B g n (cs ++ List.replicate (n - cs.length) 0) ∧ ∀ w0, Below B w0 w1 → Below B w0 w2 := by
  have hwh := Own.whole (w := w1) (B := B) (g := g) (xs := List.replicate n 0) (by simpa using hown)
  obtain ⟨cur, h1, h2, h3, h4, h5, h6⟩ := hown.parts
  have hr := Lib.run_copy_row_string (P := Tryz.prog) w1 26 9 3 5 g 0 n n c (byts (List.replicate n 0)).toArray 5 Tryz.underlying26 Tryz.size5 hwh (by omega) (by simp; omega)
  rw [hcs] at hr
  refine ⟨_, ?_, Own.mk (cur := (byts (cs ++ List.replicate (n - cs.length) 0)).toArray) h1 (setRow_heap w1 g _ _ 5 (0, 0) h2) (by simp; omega) h4 (by simp; omega) (by rw [List.take_of_length_le (by simp)]), fun w0 hb => below_setRow hb h1 _⟩
  rw [hr, hsz]
  have e : (byts (List.replicate n 0)).toArray.toList.take 0 ++ byts cs ++ (byts (List.replicate n 0)).toArray.toList.drop (0 + cs.length) = byts (cs ++ List.replicate (n - cs.length) 0) := by
    simp [byts]
  rw [e]
  rfl

theorem cell_far {w : World} {g h i j : Nat} {v : Value} (hne : h ≠ g) : (w.setCell ⟨h, i, none⟩ v).cell? ⟨g, j, none⟩ = w.cell? ⟨g, j, none⟩ :=
  World.cell?_setCell_other _ _ _ _ fun e => hne (congrArg Addr.block e)
/-- the list with the first k registers laid -/
def stL (base : List Int) (cl : Nat) (a b : Int) (k : Nat) : List Int := if k = 0 then base else if k = 1 then base.set cl a else (base.set cl a).set (cl + 1) b
theorem stL_length (base : List Int) (cl : Nat) (a b : Int) (k : Nat) : (stL base cl a b k).length = base.length := by
  unfold stL
  split
  · rfl
  · split <;> simp
/-- a store elsewhere -/
theorem At4.store {w : World} {g h i : Nat} {v x0 x1 x2 x3 : Value} (ha : At4 w g x0 x1 x2 x3) (hne : h ≠ g) : At4 (w.setCell ⟨h, i, none⟩ v) g x0 x1 x2 x3 :=
  ⟨(cell_far hne).trans ha.1, (cell_far hne).trans ha.2.1, (cell_far hne).trans ha.2.2.1, (cell_far hne).trans ha.2.2.2⟩

/-- an int32's four bytes, the lowest first -/
def le4 (n : Int) : List Int := [n % 4294967296 % 256, n % 4294967296 / 256 % 256, n % 4294967296 / 65536 % 256, n % 4294967296 / 16777216]
/-- an instruction's bytes -/
def encG (cs : List Int) (r : Nat) (q a b n : Int) : List Int := cs ++ (if 1 ≤ r then [a] else []) ++ (if 2 ≤ r then [b] else []) ++ (if q = 0 then [] else le4 n)
def encL (o : Nat) (a b n : Int) : List Int := encG (cdL o) (rg o) (kd o) a b n

theorem encG_zero (cs : List Int) (k : Nat) (a b n : Int) (h : k ≤ 2) : stL (cs ++ List.replicate k 0) cs.length a b k = encG cs k 0 a b n := by
  obtain rfl | rfl | rfl : k = 0 ∨ k = 1 ∨ k = 2 := by omega
  · simp [stL, encG]
  · simp [stL, encG]
  · simp [stL, encG, List.replicate]
theorem put_tail (xs : List Int) (v : Int) : putL (xs ++ [0, 0, 0, 0]) xs.length v = xs ++ [v % 256, v / 256 % 256, v / 65536 % 256, v / 16777216] := by
  simp [putL]
theorem encG_num (cs : List Int) (k : Nat) (q a b n : Int) (h : k ≤ 2) (hq : q ≠ 0) : putL (stL (cs ++ List.replicate (k + 4) 0) cs.length a b k) (cs.length + k) (n % 4294967296) = encG cs k q a b n := by
  obtain rfl | rfl | rfl : k = 0 ∨ k = 1 ∨ k = 2 := by omega
  · have e : stL (cs ++ List.replicate (0 + 4) 0) cs.length a b 0 = cs ++ [0, 0, 0, 0] := by simp [stL, List.replicate]
    rw [e, Nat.add_zero, put_tail]
    simp [encG, le4, hq]
  · have e : stL (cs ++ List.replicate (1 + 4) 0) cs.length a b 1 = (cs ++ [a]) ++ [0, 0, 0, 0] := by simp [stL, List.replicate]
    rw [e, show cs.length + 1 = (cs ++ [a]).length by simp, put_tail]
    simp [encG, le4, hq]
  · have e : stL (cs ++ List.replicate (2 + 4) 0) cs.length a b 2 = (cs ++ [a, b]) ++ [0, 0, 0, 0] := by simp [stL, List.replicate]
    rw [e, show cs.length + 2 = (cs ++ [a, b]).length by simp, put_tail]
    simp [encG, le4, hq]

set_option maxHeartbeats 2000000 in
set_option maxRecDepth 4000 in
theorem encode_gen (s c : ByteArray) (cs : List Int) (r L : Nat) (q o a b n : Int) (w : World)
    (hidx : ∀ w, (Instr.index 175 (.agg tab) (.int .u8 o)).run Tryz.prog w = .ok (.agg #[.string s, .string c, .int .i64 r, .int .u8 q]) w)
    (hright : ∀ w, Calls Tryz.prog 99 #[ins o a b n] w fun e w' => e = .returned (.bool true) ∧ Below w.heap.size w w')
    (hlen : ∀ w, Calls Tryz.prog 100 #[shp s c r q] w fun e w' => e = .returned (.int .i64 L) ∧ Below w.heap.size w w')
    (hcs : Lib.byteCells c.data.toList = byts cs) (hsz : c.size = cs.length) (hcl : cs.length ≤ 5) (hr : r ≤ 2) (hq : q = 0 ∨ q = 1 ∨ q = 2) (hL : L = cs.length + r + if q = 0 then 0 else 4) :
    Calls Tryz.prog 127 #[ins o a b n] w fun e w' => ∃ g cap, e = .returned (.tuple #[.slice (some ⟨g, 0, none⟩) L cap, .int .i64 0]) ∧ Own w' w.heap.size g cap (encG cs r q a b n) ∧ Below w.heap.size w w' := by
  obtain ⟨i0, hi, hz0, hz1, hz2⟩ := info_parts Tryz.info5
  have HS : Hid (c.size = cs.length) := hsz
  have HLL : Hid (L = cs.length + r + if q = 0 then 0 else 4) := hL
  have hL11 : L ≤ 11 := by rw [hL]; split <;> omega
  clear hL hsz
  go_enter Tryz.func127, Tryz.ntmps127
  go_wp2_with fail
  refine (hright _).mono ?_
  rintro e w1 ⟨rfl, hb1⟩
  have hbox := (At4.new w (.int .u8 o) (.int .u8 a) (.int .u8 b) (.int .i32 n) 117).below hb1
  have hbw := below_step (new_alloc w _) hb1
  clear hb1 hright
  have c0 := hbox.1
  have l0 : w.heap.size < w1.heap.size := cell_lt c0
  have c1 : ∀ ob, (w1.alloc ob).cell? ⟨w.heap.size, 0, none⟩ = some (.int .u8 o) := cell_push c0
  go_upto_region 3 with fail
  go_cut [4] from 12 to 15 (fun p wx => ∃ g, p = .pointer (some ⟨g, 0, none⟩) ∧ At4 wx g (.string s) (.string c) (.int .i64 r) (.int .u8 q) ∧ Below w1.heap.size w1 wx)
  case first =>
    go_region_with (go_at_call 96; refine (shapes_any _).mono ?_; rintro e w2 ⟨rfl, hb2⟩; first | (have c9 := (hb2.cell (p := ⟨w.heap.size, 0, none⟩) l0).trans c0; have c8 := cell_push c9; have hA := hb2) | (have c9 := (hb2.cell (p := ⟨w.heap.size, 0, none⟩) (lt_push l0 _)).trans (c1 _); obtain ⟨d0, d1, d2, d3, f0, f1, f2, f3⟩ := kept_new4 hb2; have hB := hb2))
    all_goals
      go_wp2_with fail
      go_meet
      case rel => first | exact ⟨_, rfl, met_A hA _ _ _ _ _⟩ | exact ⟨_, rfl, met_B hB _ _ _ _⟩
  case rest =>
    obtain ⟨g, rfl, hat, hbx⟩ := hcut
    have hbox2 := hbox.below hbx
    have hbc := below_step hbw hbx
    clear hbx hbw hbox c0 l0 c1 hidx
    have HA : Hid (At4 wc g (.string s) (.string c) (.int .i64 r) (.int .u8 q)) := hat
    have HB : Hid (At4 wc w.heap.size (.int .u8 o) (.int .u8 a) (.int .u8 b) (.int .i32 n)) := hbox2
    clear hbox2
    obtain ⟨q0, q1, q2, q3⟩ := hat
    go_wp2_with fail
    refine (hlen _).mono ?_
    rintro e w3 ⟨rfl, hb3⟩
    have HA3 : Hid (At4 w3 g (.string s) (.string c) (.int .i64 r) (.int .u8 q)) := HA.out.below hb3
    have HB3 : Hid (At4 w3 w.heap.size (.int .u8 o) (.int .u8 a) (.int .u8 b) (.int .i32 n)) := HB.out.below hb3
    have hb4 := below_step hbc hb3
    clear hb3 hbc HA HB q0 q1 q2 q3 hlen
    go_wp2_with (at_make; refine wpList_make_full _ rfl _ _ 26 rfl _ 5 i0 (.int .u8 0) 1 Tryz.underlying26 hi hz0 hz1 _ _ _ _ L rfl rfl rfl rfl (by rw [hz2]; omega) (by unfold maxLen; omega) (Nat.le_refl _) ?_; intro w4 hown hgrow; have hb5 := (Below.refl w3.heap.size w3).grown hgrow (Nat.le_refl _) (by simp); obtain ⟨w5, hcp, hown2, hb6⟩ := copy_code c cs hcs HS.out (by have := HLL.out; omega) (Own.of_made hown); have hb7 := hb6 _ hb5; obtain ⟨q0, q1, q2, q3⟩ := HA3.out.below hb5; have HA5 : Hid (At4 w5 g (.string s) (.string c) (.int .i64 r) (.int .u8 q)) := HA3.out.below hb7; have HB5 : Hid (At4 w5 w.heap.size (.int .u8 o) (.int .u8 a) (.int .u8 b) (.int .i32 n)) := HB3.out.below hb7; obtain ⟨p0, p1, p2, p3⟩ := HB3.out.below hb7; have q5 := cell_push HA5.out.2.2.1; have hb8 := below_step hb4 hb7; have HO : Hid (Own w5 w3.heap.size w3.heap.size L (cs ++ List.replicate (L - cs.length) 0)) := hown2; clear hown hgrow hb5 hb6 hb7 hown2)
    have HO6 : Hid (Own (w5.alloc (.cells #[.int .u8 a, .int .u8 b] 197)) w3.heap.size w3.heap.size L (cs ++ List.replicate (L - cs.length) 0)) := HO.out.below (new_alloc _ _)
    have HA6 : Hid (At4 (w5.alloc (.cells #[.int .u8 a, .int .u8 b] 197)) g (.string s) (.string c) (.int .i64 r) (.int .u8 q)) := HA5.out.below (new_alloc _ _)
    have HB6 : Hid (At4 (w5.alloc (.cells #[.int .u8 a, .int .u8 b] 197)) w.heap.size (.int .u8 o) (.int .u8 a) (.int .u8 b) (.int .i32 n)) := HB5.out.below (new_alloc _ _)
    have hb9 := below_alloc hb8 (.cells #[.int .u8 a, .int .u8 b] 197)
    have m0 : (w5.alloc (.cells #[.int .u8 a, .int .u8 b] 197)).cell? ⟨w5.heap.size, 0, none⟩ = some (.int .u8 a) := by simp
    have m1 : (w5.alloc (.cells #[.int .u8 a, .int .u8 b] 197)).cell? ⟨w5.heap.size, 1, none⟩ = some (.int .u8 b) := by simp
    have hG : w3.heap.size < w5.heap.size := HO.out.lt
    have hg3 : g < w3.heap.size := cell_lt HA3.out.1
    have hw3 : w.heap.size < w3.heap.size := cell_lt HB3.out.1
    clear q0 q1 q2 q3 p0 p1 p2 p3 q5 hb4 HO HA5 HB5 HA3 HB3 hcp hb8 hcs HS w1 wc
    generalize w5.alloc (.cells #[.int .u8 a, .int .u8 b] 197) = w6 at *
    generalize w5.heap.size = g7 at *
    generalize w3.heap.size = G at *
    clear w3 w4 w5
    have HBL : Hid ((cs ++ List.replicate (L - cs.length) 0).length = L) := by
      have := HLL.out
      show (cs ++ List.replicate (L - cs.length) 0).length = L
      simp; omega
    generalize hbase : cs ++ List.replicate (L - cs.length) 0 = base at *
    have HBASE : Hid (cs ++ List.replicate (L - cs.length) 0 = base) := hbase
    clear hbase
    go_loopw [30] (fun i wr => ∃ k : Nat, k ≤ r ∧ i = .int .i64 k ∧ Own wr G G L (stL base cs.length a b k) ∧ At4 wr g (.string s) (.string c) (.int .i64 r) (.int .u8 q) ∧ At4 wr w.heap.size (.int .u8 o) (.int .u8 a) (.int .u8 b) (.int .i32 n) ∧ wr.cell? ⟨g7, 0, none⟩ = some (.int .u8 a) ∧ wr.cell? ⟨g7, 1, none⟩ = some (.int .u8 b) ∧ Below w.heap.size w wr) (fun i _ => r - (intOf i).toNat)
    case atStart => exact ⟨0, Nat.zero_le _, rfl, HO6.out, HA6.out, HB6.out, m0, m1, hb9⟩
    case round =>
      obtain ⟨k, hk, rfl, hown, hat, hbox, k0, k1, hbk⟩ := hrel
      clear HO6 HA6 HB6 m0 m1 hb9
      by_cases hlt : k < r
      · have hkl : cs.length + k < L := by have := HLL.out; omega
        have d0 := hown.cell (cs.length + k) (by rw [stL_length, HBL.out]; exact hkl)
        have f0 := hown.free (cs.length + k)
        generalize (stL base cs.length a b k).getD (cs.length + k) 0 = z at *
        obtain rfl | rfl : k = 0 ∨ k = 1 := by omega
        · simp only [Nat.add_zero] at d0 f0 hkl
          go_wp2
          go_roundw
          case rel => exact ⟨1, by omega, by go_num, hown.store cs.length a, hat.store (by omega), hbox.store (by omega), (cell_far (by omega)).trans k0, (cell_far (by omega)).trans k1, hbk.setCell (Nat.le_of_lt hw3) _⟩
          case measure => simp [intOf]; omega
        · go_wp2
          go_roundw
          case rel => exact ⟨2, by omega, by go_num, hown.store (cs.length + 1) b, hat.store (by omega), hbox.store (by omega), (cell_far (by omega)).trans k0, (cell_far (by omega)).trans k1, hbk.setCell (Nat.le_of_lt hw3) _⟩
          case measure => simp [intOf]; omega
      · obtain rfl : k = r := by omega
        have HA : Hid (At4 wr g (.string s) (.string c) (.int .i64 k) (.int .u8 q)) := hat
        have HB : Hid (At4 wr w.heap.size (.int .u8 o) (.int .u8 a) (.int .u8 b) (.int .i32 n)) := hbox
        obtain ⟨q0, q1, q2, q3⟩ := hat
        obtain ⟨p0, p1, p2, p3⟩ := hbox
        by_cases hq0 : q = 0
        · subst hq0
          go_wp2
          go_ret2
          have hb : base = cs ++ List.replicate k 0 := by rw [← HBASE.out, show L - cs.length = k by have := HLL.out; simp at this; omega]
          rw [hb, encG_zero cs k a b n (by omega)] at hown
          exact ⟨_, _, rfl, hown.lower (Nat.le_of_lt hw3), hbk⟩
        · have hq1 : (q == 0) = false := by simpa using hq0
          have hLk : L = cs.length + k + 4 := by have := HLL.out; rw [if_neg hq0] at this; exact this
          have hb : base = cs ++ List.replicate (k + 4) 0 := by rw [← HBASE.out, show L - cs.length = k + 4 by omega]
          have HLk : Hid (L = cs.length + k + 4) := hLk
          clear hLk
          go_wp2_with fail
          refine (put32_ex _ L L (cs.length + k) (n % 4294967296) (stL base cs.length a b k) _ (by rw [stL_length, HBL.out]) (by omega) hown.row (by omega) (by omega) (by have := HLk.out; omega)).mono ?_
          rw [show ((cs.length : Int) + (k : Int)).toNat = cs.length + k by omega, hb, encG_num cs k q a b n (by omega) hq0]
          rintro e w7 ⟨g8, rfl, hown7, hb7⟩
          go_wp2
          go_ret2
          exact ⟨_, _, rfl, hown7.lower hbk.size, below_step hbk hb7⟩

theorem encG_length (cs : List Int) (r : Nat) (q a b n : Int) (hr : r ≤ 2) : (encG cs r q a b n).length = cs.length + r + if q = 0 then 0 else 4 := by
  obtain rfl | rfl | rfl : r = 0 ∨ r = 1 ∨ r = 2 := by omega
  all_goals (by_cases hq : q = 0 <;> simp [encG, le4, hq])
theorem encL_length (o : Nat) (a b n : Int) (h : o < 17) : (encL o a b n).length = lenN o := encG_length _ _ _ _ _ _ (rg_le o h)

theorem encode_yes (o : Nat) (a b n : Int) (w : World) (ha : 0 ≤ a ∧ a ≤ 255) (hb : 0 ≤ b ∧ b ≤ 255) (hR : rightB o a b n = true) :
    Calls Tryz.prog 127 #[ins o a b n] w fun e w' => ∃ g cap, e = .returned (.tuple #[.slice (some ⟨g, 0, none⟩) (lenN o) cap, .int .i64 0]) ∧ Own w' w.heap.size g cap (encL o a b n) ∧ Below w.heap.size w w' := by
  have ho : 1 ≤ o ∧ o < 17 := by
    simp only [rightB, Bool.and_eq_true, decide_eq_true_eq] at hR
    exact hR.1
  have hl := cdL_len o ho.2
  refine encode_gen (nm o) (cd o) (cdL o) (rg o) (lenN o) (kd o) o a b n w (idx_any o ho.2) (fun w => ?_) (length_op o ho.2) (cd_cells o ho.2) (cd_size o ho.2) hl (rg_le o ho.2) (kd_in o ho.2) rfl
  have := right_op o a b n w ho.1 ho.2 ha hb
  rw [hR] at this
  exact this

set_option maxHeartbeats 400000 in
theorem encode_no (o : Nat) (a b n : Int) (w : World) (ho : o ≤ 255) (ha : 0 ≤ a ∧ a ≤ 255) (hb : 0 ≤ b ∧ b ≤ 255) (hR : rightB o a b n = false) :
    Calls Tryz.prog 127 #[ins o a b n] w fun e w' => e = .returned (.tuple #[.slice none 0 0, .int .i64 2]) ∧ Below w.heap.size w w' := by
  have hcon := right_any o a b n (w.alloc (.cells #[.int .u8 o, .int .u8 a, .int .u8 b, .int .i32 n] 117)) ho ha hb
  rw [hR] at hcon
  clear hR
  go_enter Tryz.func127, Tryz.ntmps127
  go_wp2_with fail
  refine hcon.mono ?_
  rintro e w1 ⟨rfl, hb1⟩
  clear hcon
  go_wp2
  go_ret2
  exact ⟨rfl, below_step (new_alloc w _) hb1⟩
end Go.Proofs.YtnpaijbkhmnfpaaGreat

/- What switchyardref02.Name, Op and FormOf answer. -/
namespace Go.Proofs.YtnpaijbkhmnfpaaGreat
open Go.RowKit

abbrev frm (f l : Int) (A B M D : Bool) : Value := .agg #[.int .u8 f, .int .i64 l, .bool A, .bool B, .bool M, .bool D]
def hA (o : Nat) : Bool := decide (1 ≤ rg o)
def hB (o : Nat) : Bool := decide (2 ≤ rg o)
def hM (o : Nat) : Bool := decide (kd o ≠ 0)
def hD (o : Nat) : Bool := decide (kd o = 2)

set_option maxHeartbeats 2000000 in
theorem form_yes (o : Nat) (w : World) (h1 : 1 ≤ o) (h2 : o < 17) :
    Calls Tryz.prog 92 #[.int .u8 o] w fun e w' => e = .returned (.tuple #[frm (fb o) (lenN o) (hA o) (hB o) (hM o) (hD o), .bool true]) ∧ Below w.heap.size w w' := by
  obtain rfl | rfl | rfl | rfl | rfl | rfl | rfl | rfl | rfl | rfl | rfl | rfl | rfl | rfl | rfl | rfl : o = 1 ∨ o = 2 ∨ o = 3 ∨ o = 4 ∨ o = 5 ∨ o = 6 ∨ o = 7 ∨ o = 8 ∨ o = 9 ∨ o = 10 ∨ o = 11 ∨ o = 12 ∨ o = 13 ∨ o = 14 ∨ o = 15 ∨ o = 16 := by omega
  · go_enter Tryz.func92, Tryz.ntmps92
    go_wp2
    exact bodyPost_ret (v := .tuple #[frm 0 1 false false false false, .bool true]) (by simp [results, Tryz.results92, go_sem]) rfl ⟨rfl, new_alloc _ _⟩
  · go_enter Tryz.func92, Tryz.ntmps92
    go_wp2
    exact bodyPost_ret (v := .tuple #[frm 144 1 false false false false, .bool true]) (by simp [results, Tryz.results92, go_sem]) rfl ⟨rfl, new_alloc _ _⟩
  · go_enter Tryz.func92, Tryz.ntmps92
    go_wp2
    exact bodyPost_ret (v := .tuple #[frm 15 5 false false false false, .bool true]) (by simp [results, Tryz.results92, go_sem]) rfl ⟨rfl, new_alloc _ _⟩
  · go_enter Tryz.func92, Tryz.ntmps92
    go_wp2
    exact bodyPost_ret (v := .tuple #[frm 204 1 false false false false, .bool true]) (by simp [results, Tryz.results92, go_sem]) rfl ⟨rfl, new_alloc _ _⟩
  · go_enter Tryz.func92, Tryz.ntmps92
    go_wp2
    exact bodyPost_ret (v := .tuple #[frm 184 6 true false true false, .bool true]) (by simp [results, Tryz.results92, go_sem]) rfl ⟨rfl, new_alloc _ _⟩
  · go_enter Tryz.func92, Tryz.ntmps92
    go_wp2
    exact bodyPost_ret (v := .tuple #[frm 137 3 true true false false, .bool true]) (by simp [results, Tryz.results92, go_sem]) rfl ⟨rfl, new_alloc _ _⟩
  · go_enter Tryz.func92, Tryz.ntmps92
    go_wp2
    exact bodyPost_ret (v := .tuple #[frm 1 3 true true false false, .bool true]) (by simp [results, Tryz.results92, go_sem]) rfl ⟨rfl, new_alloc _ _⟩
  · go_enter Tryz.func92, Tryz.ntmps92
    go_wp2
    exact bodyPost_ret (v := .tuple #[frm 41 3 true true false false, .bool true]) (by simp [results, Tryz.results92, go_sem]) rfl ⟨rfl, new_alloc _ _⟩
  · go_enter Tryz.func92, Tryz.ntmps92
    go_wp2
    exact bodyPost_ret (v := .tuple #[frm 116 6 true false true false, .bool true]) (by simp [results, Tryz.results92, go_sem]) rfl ⟨rfl, new_alloc _ _⟩
  · go_enter Tryz.func92, Tryz.ntmps92
    go_wp2
    exact bodyPost_ret (v := .tuple #[frm 117 6 true false true false, .bool true]) (by simp [results, Tryz.results92, go_sem]) rfl ⟨rfl, new_alloc _ _⟩
  · go_enter Tryz.func92, Tryz.ntmps92
    go_wp2
    exact bodyPost_ret (v := .tuple #[frm 233 5 false false true false, .bool true]) (by simp [results, Tryz.results92, go_sem]) rfl ⟨rfl, new_alloc _ _⟩
  · go_enter Tryz.func92, Tryz.ntmps92
    go_wp2
    exact bodyPost_ret (v := .tuple #[frm 232 5 false false true false, .bool true]) (by simp [results, Tryz.results92, go_sem]) rfl ⟨rfl, new_alloc _ _⟩
  · go_enter Tryz.func92, Tryz.ntmps92
    go_wp2
    exact bodyPost_ret (v := .tuple #[frm 195 1 false false false false, .bool true]) (by simp [results, Tryz.results92, go_sem]) rfl ⟨rfl, new_alloc _ _⟩
  · go_enter Tryz.func92, Tryz.ntmps92
    go_wp2
    exact bodyPost_ret (v := .tuple #[frm 139 6 true false true true, .bool true]) (by simp [results, Tryz.results92, go_sem]) rfl ⟨rfl, new_alloc _ _⟩
  · go_enter Tryz.func92, Tryz.ntmps92
    go_wp2
    exact bodyPost_ret (v := .tuple #[frm 136 6 true false true true, .bool true]) (by simp [results, Tryz.results92, go_sem]) rfl ⟨rfl, new_alloc _ _⟩
  · go_enter Tryz.func92, Tryz.ntmps92
    go_wp2
    exact bodyPost_ret (v := .tuple #[frm 230 2 true false false false, .bool true]) (by simp [results, Tryz.results92, go_sem]) rfl ⟨rfl, new_alloc _ _⟩

set_option maxHeartbeats 1000000 in
theorem form_no (o : Int) (w : World) (h : o = 0 ∨ 17 ≤ o) :
    Calls Tryz.prog 92 #[.int .u8 o] w fun e w' => e = .returned (.tuple #[frm 0 0 false false false false, .bool false]) ∧ Below w.heap.size w w' := by
  have e1 : (o == 1) = false := by simp; omega
  have e2 : (o == 2) = false := by simp; omega
  have e3 : (o == 3) = false := by simp; omega
  have e4 : (o == 4) = false := by simp; omega
  have e5 : (o == 5) = false := by simp; omega
  have e6 : (o == 6) = false := by simp; omega
  have e7 : (o == 7) = false := by simp; omega
  have e8 : (o == 8) = false := by simp; omega
  have e9 : (o == 9) = false := by simp; omega
  have e10 : (o == 10) = false := by simp; omega
  have e11 : (o == 11) = false := by simp; omega
  have e12 : (o == 12) = false := by simp; omega
  have e13 : (o == 13) = false := by simp; omega
  have e14 : (o == 14) = false := by simp; omega
  have e15 : (o == 15) = false := by simp; omega
  have e16 : (o == 16) = false := by simp; omega
  clear h
  go_enter Tryz.func92, Tryz.ntmps92
  go_wp2
  exact bodyPost_ret (v := .tuple #[frm 0 0 false false false false, .bool false]) (by simp [results, Tryz.results92, go_sem]) rfl ⟨rfl, new_alloc _ _⟩
end Go.Proofs.YtnpaijbkhmnfpaaGreat

/- What switchyardref02.ofByte, Op and Length answer. -/
namespace Go.Proofs.YtnpaijbkhmnfpaaGreat
open Go.RowKit

set_option maxHeartbeats 1000000 in
theorem ofByte_yes (p : Nat) (w : World) (hp : 1 ≤ p) (hp' : p < 17) :
    Calls Tryz.prog 91 #[.int .u8 (fb p)] w fun e w' => e = .returned (.tuple #[.int .u8 p, .bool true]) ∧ Below w.heap.size w w' := by
  obtain ⟨y, hy⟩ : ∃ y, y = fb p := ⟨_, rfl⟩
  rw [← hy]
  have HY : Hid (y = fb p) := hy
  clear hy
  go_enter Tryz.func91, Tryz.ntmps91
  go_wp2
  go_loopw [4] (fun i wr => ∃ k : Nat, 1 ≤ k ∧ k ≤ p ∧ i = .int .u8 k ∧ Below w.heap.size w wr) (fun i _ => 17 - (intOf i).toNat)
  case atStart => exact ⟨1, by omega, hp, rfl, below_self _⟩
  case round =>
    obtain ⟨k, hk0, hk, rfl, hbr⟩ := hrel
    have hlt : k < 17 := by omega
    have hcon := fun w => form_yes k w hk0 hlt
    by_cases he : k = p
    · subst he
      rw [← HY.out] at hcon
      generalize lenN k = L at *
      generalize hA k = A at *
      generalize hB k = B at *
      generalize hM k = M at *
      generalize hD k = D at *
      go_wp2_with (go_at_call 92; refine (hcon _).mono ?_; rintro e w1 ⟨rfl, hb1⟩; have hb2 := below_alloc (below_step hbr hb1) (.cells #[.int .u8 y, .int .i64 L, .bool A, .bool B, .bool M, .bool D] 167); clear hb1 hbr)
      go_ret2
      exact ⟨rfl, hb2⟩
    · have hne : (fb k == y) = false := by
        rw [HY.out]
        exact beq_eq_false_iff_ne.2 fun h => he (fb_inj k hk0 hlt p hp hp' h)
      generalize fb k = x at *
      generalize lenN k = L at *
      generalize hA k = A at *
      generalize hB k = B at *
      generalize hM k = M at *
      generalize hD k = D at *
      go_wp2_with (go_at_call 92; refine (hcon _).mono ?_; rintro e w1 ⟨rfl, hb1⟩; have hb2 := below_alloc (below_step hbr hb1) (.cells #[.int .u8 x, .int .i64 L, .bool A, .bool B, .bool M, .bool D] 167); clear hb1 hbr)
      go_roundw
      case rel => exact ⟨k + 1, by omega, by omega, by go_num, hb2⟩
      case measure => simp [intOf]; omega

set_option maxHeartbeats 1000000 in
theorem ofByte_no (y : Int) (w : World) (hno : ∀ o, 1 ≤ o → o < 17 → fb o ≠ y) :
    Calls Tryz.prog 91 #[.int .u8 y] w fun e w' => e = .returned (.tuple #[.int .u8 0, .bool false]) ∧ Below w.heap.size w w' := by
  have HN : Hid (∀ o, 1 ≤ o → o < 17 → fb o ≠ y) := hno
  clear hno
  go_enter Tryz.func91, Tryz.ntmps91
  go_wp2
  go_loopw [4] (fun i wr => ∃ k : Nat, 1 ≤ k ∧ k ≤ 17 ∧ i = .int .u8 k ∧ Below w.heap.size w wr) (fun i _ => 17 - (intOf i).toNat)
  case atStart => exact ⟨1, by omega, by omega, rfl, below_self _⟩
  case round =>
    obtain ⟨k, hk0, hk, rfl, hbr⟩ := hrel
    by_cases hlt : k < 17
    · have hcon := fun w => form_yes k w hk0 hlt
      have hne : (fb k == y) = false := beq_eq_false_iff_ne.2 (HN.out k hk0 hlt)
      generalize fb k = x at *
      generalize lenN k = L at *
      generalize hA k = A at *
      generalize hB k = B at *
      generalize hM k = M at *
      generalize hD k = D at *
      go_wp2_with (go_at_call 92; refine (hcon _).mono ?_; rintro e w1 ⟨rfl, hb1⟩; have hb2 := below_alloc (below_step hbr hb1) (.cells #[.int .u8 x, .int .i64 L, .bool A, .bool B, .bool M, .bool D] 167); clear hb1 hbr)
      go_roundw
      case rel => exact ⟨k + 1, by omega, by omega, by go_num, hb2⟩
      case measure => simp [intOf]; omega
    · go_wp2
      go_ret2
      exact ⟨rfl, hbr⟩

set_option maxHeartbeats 1000000 in
theorem rlen_yes (p : Nat) (w : World) (hp : 1 ≤ p) (hp' : p < 17) :
    Calls Tryz.prog 89 #[.int .u8 (fb p)] w fun e w' => e = .returned (.int .i64 (lenN p)) ∧ Below w.heap.size w w' := by
  have hcon := fun w => ofByte_yes p w hp hp'
  have hfrm := fun w => form_yes p w hp hp'
  generalize fb p = y at *
  generalize lenN p = L at *
  generalize hA p = A at *
  generalize hB p = B at *
  generalize hM p = M at *
  generalize hD p = D at *
  go_enter Tryz.func89, Tryz.ntmps89
  go_wp2_with fail
  refine (hcon _).mono ?_
  rintro e w1 ⟨rfl, hb1⟩
  go_wp2_with fail
  refine (hfrm _).mono ?_
  rintro e w2 ⟨rfl, hb2⟩
  go_wp2
  go_ret
  exact ⟨rfl, below_alloc (below_step hb1 hb2) _⟩

set_option maxHeartbeats 1000000 in
theorem rlen_no (y : Int) (w : World) (hno : ∀ o, 1 ≤ o → o < 17 → fb o ≠ y) :
    Calls Tryz.prog 89 #[.int .u8 y] w fun e w' => e = .returned (.int .i64 1) ∧ Below w.heap.size w w' := by
  have hcon := fun w => ofByte_no y w hno
  clear hno
  go_enter Tryz.func89, Tryz.ntmps89
  go_wp2_with fail
  refine (hcon _).mono ?_
  rintro e w1 ⟨rfl, hb1⟩
  go_wp2
  go_ret
  exact ⟨rfl, hb1⟩
end Go.Proofs.YtnpaijbkhmnfpaaGreat

/- What switchyardref02.Right answers, for every instruction: the same as the program's. -/
namespace Go.Proofs.YtnpaijbkhmnfpaaGreat
open Go.RowKit

def rightF (A B M D : Bool) (a b n : Int) : Bool := regB A a && regB B b && if M then (if D then decide (0 ≤ n ∧ n < 65536) else true) else decide (n = 0)
/-- the six kinds of ops -/
def Kind (A B M D : Bool) : Prop := (A, B, M, D) = (false, false, false, false) ∨ (A, B, M, D) = (true, false, true, false) ∨ (A, B, M, D) = (true, true, false, false) ∨ (A, B, M, D) = (false, false, true, false) ∨ (A, B, M, D) = (true, false, true, true) ∨ (A, B, M, D) = (true, false, false, false)
theorem kind_of (o : Nat) (h1 : 1 ≤ o) (h2 : o < 17) : Kind (hA o) (hB o) (hM o) (hD o) := by
  have : ∀ k : Fin 17, 1 ≤ k.1 → Kind (hA k.1) (hB k.1) (hM k.1) (hD k.1) := by unfold Kind; decide +kernel
  exact this ⟨o, h2⟩ h1

set_option maxHeartbeats 2000000 in
theorem rright_gen (f L o a b n : Int) (A B M D : Bool) (w : World) (ha : 0 ≤ a ∧ a ≤ 255) (hb : 0 ≤ b ∧ b ≤ 255)
    (hfrm : ∀ w, Calls Tryz.prog 92 #[.int .u8 o] w fun e w' => e = .returned (.tuple #[frm f L A B M D, .bool true]) ∧ Below w.heap.size w w')
    (hc : Kind A B M D) :
    Calls Tryz.prog 122 #[ins o a b n] w fun e w' => e = .returned (.bool (rightF A B M D a b n)) ∧ Below w.heap.size w w' := by
  simp only [Kind, Prod.mk.injEq] at hc
  obtain ⟨rfl, rfl, rfl, rfl⟩ | ⟨rfl, rfl, rfl, rfl⟩ | ⟨rfl, rfl, rfl, rfl⟩ | ⟨rfl, rfl, rfl, rfl⟩ | ⟨rfl, rfl, rfl, rfl⟩ | ⟨rfl, rfl, rfl, rfl⟩ := hc
  · go_enter Tryz.func122, Tryz.ntmps122
    go_wp2_with fail
    refine (hfrm _).mono ?_
    rintro e w1 ⟨rfl, hb1⟩
    obtain ⟨p0, p1, p2, p3⟩ := ((At4.new w (.int .u8 o) (.int .u8 a) (.int .u8 b) (.int .i32 n) 117).below hb1).below (new_alloc w1 (.cells #[.int .u8 f, .int .i64 L, .bool false, .bool false, .bool false, .bool false] 167))
    have hbw := below_alloc (below_step (new_alloc w _) hb1) (.cells #[.int .u8 f, .int .i64 L, .bool false, .bool false, .bool false, .bool false] 167)
    clear hb1 hfrm
    go_wp2
    all_goals
      go_ret
      refine ⟨ret_bool ?_, hbw⟩
      clear p0 p1 p2 p3 hbw
      try simp only [bne_iff_ne, ne_eq, bne_eq_false_iff_eq] at *
      first
        | (symm; simp [rightF, regB]; omega)
        | (symm; simp [rightF, regB, *]; done)
        | (symm; rw [Bool.eq_iff_iff]; simp [rightF, regB]; omega)
        | (symm; rw [Bool.eq_false_iff]; intro hq; simp [rightF, regB] at hq; omega)
  · go_enter Tryz.func122, Tryz.ntmps122
    go_wp2_with fail
    refine (hfrm _).mono ?_
    rintro e w1 ⟨rfl, hb1⟩
    obtain ⟨p0, p1, p2, p3⟩ := ((At4.new w (.int .u8 o) (.int .u8 a) (.int .u8 b) (.int .i32 n) 117).below hb1).below (new_alloc w1 (.cells #[.int .u8 f, .int .i64 L, .bool true, .bool false, .bool true, .bool false] 167))
    have hbw := below_alloc (below_step (new_alloc w _) hb1) (.cells #[.int .u8 f, .int .i64 L, .bool true, .bool false, .bool true, .bool false] 167)
    clear hb1 hfrm
    go_wp2
    all_goals
      go_ret
      refine ⟨ret_bool ?_, hbw⟩
      clear p0 p1 p2 p3 hbw
      try simp only [bne_iff_ne, ne_eq, bne_eq_false_iff_eq] at *
      first
        | (symm; simp [rightF, regB]; omega)
        | (symm; simp [rightF, regB, *]; done)
        | (symm; rw [Bool.eq_iff_iff]; simp [rightF, regB]; omega)
        | (symm; rw [Bool.eq_false_iff]; intro hq; simp [rightF, regB] at hq; omega)
  · go_enter Tryz.func122, Tryz.ntmps122
    go_wp2_with fail
    refine (hfrm _).mono ?_
    rintro e w1 ⟨rfl, hb1⟩
    obtain ⟨p0, p1, p2, p3⟩ := ((At4.new w (.int .u8 o) (.int .u8 a) (.int .u8 b) (.int .i32 n) 117).below hb1).below (new_alloc w1 (.cells #[.int .u8 f, .int .i64 L, .bool true, .bool true, .bool false, .bool false] 167))
    have hbw := below_alloc (below_step (new_alloc w _) hb1) (.cells #[.int .u8 f, .int .i64 L, .bool true, .bool true, .bool false, .bool false] 167)
    clear hb1 hfrm
    go_wp2
    all_goals
      go_ret
      refine ⟨ret_bool ?_, hbw⟩
      clear p0 p1 p2 p3 hbw
      try simp only [bne_iff_ne, ne_eq, bne_eq_false_iff_eq] at *
      first
        | (symm; simp [rightF, regB]; omega)
        | (symm; simp [rightF, regB, *]; done)
        | (symm; rw [Bool.eq_iff_iff]; simp [rightF, regB]; omega)
        | (symm; rw [Bool.eq_false_iff]; intro hq; simp [rightF, regB] at hq; omega)
  · go_enter Tryz.func122, Tryz.ntmps122
    go_wp2_with fail
    refine (hfrm _).mono ?_
    rintro e w1 ⟨rfl, hb1⟩
    obtain ⟨p0, p1, p2, p3⟩ := ((At4.new w (.int .u8 o) (.int .u8 a) (.int .u8 b) (.int .i32 n) 117).below hb1).below (new_alloc w1 (.cells #[.int .u8 f, .int .i64 L, .bool false, .bool false, .bool true, .bool false] 167))
    have hbw := below_alloc (below_step (new_alloc w _) hb1) (.cells #[.int .u8 f, .int .i64 L, .bool false, .bool false, .bool true, .bool false] 167)
    clear hb1 hfrm
    go_wp2
    all_goals
      go_ret
      refine ⟨ret_bool ?_, hbw⟩
      clear p0 p1 p2 p3 hbw
      try simp only [bne_iff_ne, ne_eq, bne_eq_false_iff_eq] at *
      first
        | (symm; simp [rightF, regB]; omega)
        | (symm; simp [rightF, regB, *]; done)
        | (symm; rw [Bool.eq_iff_iff]; simp [rightF, regB]; omega)
        | (symm; rw [Bool.eq_false_iff]; intro hq; simp [rightF, regB] at hq; omega)
  · go_enter Tryz.func122, Tryz.ntmps122
    go_wp2_with fail
    refine (hfrm _).mono ?_
    rintro e w1 ⟨rfl, hb1⟩
    obtain ⟨p0, p1, p2, p3⟩ := ((At4.new w (.int .u8 o) (.int .u8 a) (.int .u8 b) (.int .i32 n) 117).below hb1).below (new_alloc w1 (.cells #[.int .u8 f, .int .i64 L, .bool true, .bool false, .bool true, .bool true] 167))
    have hbw := below_alloc (below_step (new_alloc w _) hb1) (.cells #[.int .u8 f, .int .i64 L, .bool true, .bool false, .bool true, .bool true] 167)
    clear hb1 hfrm
    go_wp2
    all_goals
      go_ret
      refine ⟨ret_bool ?_, hbw⟩
      clear p0 p1 p2 p3 hbw
      try simp only [bne_iff_ne, ne_eq, bne_eq_false_iff_eq] at *
      first
        | (symm; simp [rightF, regB]; omega)
        | (symm; simp [rightF, regB, *]; done)
        | (symm; rw [Bool.eq_iff_iff]; simp [rightF, regB]; omega)
        | (symm; rw [Bool.eq_false_iff]; intro hq; simp [rightF, regB] at hq; omega)
  · go_enter Tryz.func122, Tryz.ntmps122
    go_wp2_with fail
    refine (hfrm _).mono ?_
    rintro e w1 ⟨rfl, hb1⟩
    obtain ⟨p0, p1, p2, p3⟩ := ((At4.new w (.int .u8 o) (.int .u8 a) (.int .u8 b) (.int .i32 n) 117).below hb1).below (new_alloc w1 (.cells #[.int .u8 f, .int .i64 L, .bool true, .bool false, .bool false, .bool false] 167))
    have hbw := below_alloc (below_step (new_alloc w _) hb1) (.cells #[.int .u8 f, .int .i64 L, .bool true, .bool false, .bool false, .bool false] 167)
    clear hb1 hfrm
    go_wp2
    all_goals
      go_ret
      refine ⟨ret_bool ?_, hbw⟩
      clear p0 p1 p2 p3 hbw
      try simp only [bne_iff_ne, ne_eq, bne_eq_false_iff_eq] at *
      first
        | (symm; simp [rightF, regB]; omega)
        | (symm; simp [rightF, regB, *]; done)
        | (symm; rw [Bool.eq_iff_iff]; simp [rightF, regB]; omega)
        | (symm; rw [Bool.eq_false_iff]; intro hq; simp [rightF, regB] at hq; omega)

theorem rightF_eq (o : Nat) (a b n : Int) (h1 : 1 ≤ o) (h2 : o < 17) : rightF (hA o) (hB o) (hM o) (hD o) a b n = rightB o a b n := by
  have hk := kd_in o h2
  unfold rightF rightB hA hB hM hD numB
  rw [decide_eq_true (show 1 ≤ o ∧ o < 17 from ⟨h1, h2⟩), Bool.true_and]
  congr 1
  rcases hk with h | h | h <;> rw [h] <;> simp

theorem rright_op (o : Nat) (a b n : Int) (w : World) (h1 : 1 ≤ o) (h2 : o < 17) (ha : 0 ≤ a ∧ a ≤ 255) (hb : 0 ≤ b ∧ b ≤ 255) :
    Calls Tryz.prog 122 #[ins o a b n] w fun e w' => e = .returned (.bool (rightB o a b n)) ∧ Below w.heap.size w w' := by
  rw [← rightF_eq o a b n h1 h2]
  exact rright_gen (fb o) (lenN o) o a b n _ _ _ _ w ha hb (fun w => form_yes o w h1 h2) (kind_of o h1 h2)

set_option maxHeartbeats 1000000 in
theorem rright_no (o a b n : Int) (w : World) (h : o = 0 ∨ 17 ≤ o) :
    Calls Tryz.prog 122 #[ins o a b n] w fun e w' => e = .returned (.bool false) ∧ Below w.heap.size w w' := by
  have hfrm := fun w => form_no o w h
  go_enter Tryz.func122, Tryz.ntmps122
  go_wp2_with fail
  refine (hfrm _).mono ?_
  rintro e w1 ⟨rfl, hb1⟩
  have hbw := below_alloc (below_step (new_alloc w _) hb1) (.cells #[.int .u8 0, .int .i64 0, .bool false, .bool false, .bool false, .bool false] 167)
  clear hb1 hfrm
  go_wp2
  go_ret
  exact ⟨rfl, hbw⟩

theorem rright_any (o : Nat) (a b n : Int) (w : World) (ha : 0 ≤ a ∧ a ≤ 255) (hb : 0 ≤ b ∧ b ≤ 255) :
    Calls Tryz.prog 122 #[ins o a b n] w fun e w' => e = .returned (.bool (rightB o a b n)) ∧ Below w.heap.size w w' := by
  by_cases h : 1 ≤ o ∧ o < 17
  · exact rright_op o a b n w h.1 h.2 ha hb
  · rw [show rightB o a b n = false by simp only [rightB, decide_eq_false h, Bool.false_and]]
    exact rright_no o a b n w (by omega)
end Go.Proofs.YtnpaijbkhmnfpaaGreat

/- What switchyardref02.Encode answers, for every instruction: the same bytes as the program's. -/
namespace Go.Proofs.YtnpaijbkhmnfpaaGreat
open Go.RowKit

theorem rightB_parts {o : Nat} {a b n : Int} (h : rightB o a b n = true) : (1 ≤ o ∧ o < 17) ∧ regB (decide (1 ≤ rg o)) a = true ∧ regB (decide (2 ≤ rg o)) b = true ∧ numB (kd o) n = true := by
  simp only [rightB, Bool.and_eq_true, decide_eq_true_eq] at h
  exact ⟨h.1, h.2.1.1, h.2.1.2, h.2.2⟩
theorem At4.keep {w w' : World} {C g : Nat} {x0 x1 x2 x3 : Value} (h : At4 w g x0 x1 x2 x3) (hb : Below C w w') (hg : g < C) : At4 w' g x0 x1 x2 x3 :=
  ⟨(hb.cell (p := ⟨g, 0, none⟩) hg).trans h.1, (hb.cell (p := ⟨g, 1, none⟩) hg).trans h.2.1, (hb.cell (p := ⟨g, 2, none⟩) hg).trans h.2.2.1, (hb.cell (p := ⟨g, 3, none⟩) hg).trans h.2.2.2⟩
/-- six cells of a variable -/
def At6 (w : World) (g : Nat) (x0 x1 x2 x3 x4 x5 : Value) : Prop :=
  (w.cell? ⟨g, 0, none⟩ = some x0 ∧ w.cell? ⟨g, 1, none⟩ = some x1 ∧ w.cell? ⟨g, 2, none⟩ = some x2) ∧ w.cell? ⟨g, 3, none⟩ = some x3 ∧ w.cell? ⟨g, 4, none⟩ = some x4 ∧ w.cell? ⟨g, 5, none⟩ = some x5
theorem At6.new (w : World) (x0 x1 x2 x3 x4 x5 : Value) (t : TypeId) : At6 (w.alloc (.cells #[x0, x1, x2, x3, x4, x5] t)) w.heap.size x0 x1 x2 x3 x4 x5 := ⟨⟨by simp, by simp, by simp⟩, by simp, by simp, by simp⟩
theorem At6.keep {w w' : World} {C g : Nat} {x0 x1 x2 x3 x4 x5 : Value} (h : At6 w g x0 x1 x2 x3 x4 x5) (hb : Below C w w') (hg : g < C) : At6 w' g x0 x1 x2 x3 x4 x5 :=
  ⟨⟨(hb.cell (p := ⟨g, 0, none⟩) hg).trans h.1.1, (hb.cell (p := ⟨g, 1, none⟩) hg).trans h.1.2.1, (hb.cell (p := ⟨g, 2, none⟩) hg).trans h.1.2.2⟩, (hb.cell (p := ⟨g, 3, none⟩) hg).trans h.2.1, (hb.cell (p := ⟨g, 4, none⟩) hg).trans h.2.2.1, (hb.cell (p := ⟨g, 5, none⟩) hg).trans h.2.2.2⟩
theorem news4 (w : World) (z0 z1 z2 z3 : Int) (t : TypeId) : ∀ j u, (byts [z0, z1, z2, z3])[j]? = some u → (w.alloc (.cells #[.int .u8 z0, .int .u8 z1, .int .u8 z2, .int .u8 z3] t)).cell? (Addr.add ⟨w.heap.size, 0, none⟩ j) = some u := by
  intro j u h
  rw [Go.WideShapes.add_plain]
  match j, h with
  | 0, h => simpa [byts] using h
  | 1, h => simpa [byts] using h
  | 2, h => simpa [byts] using h
  | 3, h => simpa [byts] using h
  | j + 4, h => simp [byts] at h

theorem OwnV.lowerV {w : World} {B B' : Nat} {v : Value} {xs : List Int} (h : OwnV w B v xs) (hB : B' ≤ B) : OwnV w B' v xs := by
  rcases h.shape with ⟨rfl, rfl⟩ | ⟨g, cap, rfl, ho⟩
  · exact OwnV.nil _ _
  · exact (ho.lower hB).val
def bitL (p : Bool) (xs : List Int) : List Int := if p then xs else []

set_option maxHeartbeats 2000000 in
theorem rencode_gen (f L o a b n : Int) (A B M D : Bool) (w : World)
    (hright : ∀ w, Calls Tryz.prog 122 #[ins o a b n] w fun e w' => e = .returned (.bool true) ∧ Below w.heap.size w w')
    (hfrm : ∀ w, Calls Tryz.prog 92 #[.int .u8 o] w fun e w' => e = .returned (.tuple #[frm f L A B M D, .bool true]) ∧ Below w.heap.size w w')
    (ho : (o == 3) = false) :
    Calls Tryz.prog 93 #[ins o a b n] w fun e w' => ∃ v, e = .returned (.tuple #[v, .int .i64 0]) ∧ OwnV w' w.heap.size v ([f] ++ bitL A [a] ++ bitL B [b] ++ bitL M (le4 n)) ∧ Below w.heap.size w w' := by
  obtain ⟨R, hR⟩ : ∃ R, R = [f] ++ bitL A [a] ++ bitL B [b] ++ bitL M (le4 n) := ⟨_, rfl⟩
  rw [← hR]
  have HR : Hid (R = [f] ++ bitL A [a] ++ bitL B [b] ++ bitL M (le4 n)) := hR
  clear hR
  go_enter Tryz.func93, Tryz.ntmps93
  go_wp2_with fail
  refine (hright _).mono ?_
  rintro e w1 ⟨rfl, hb1⟩
  have hI := (At4.new w (.int .u8 o) (.int .u8 a) (.int .u8 b) (.int .i32 n) 117).below hb1
  have hbw := below_step (new_alloc w _) hb1
  obtain ⟨i0, i1, i2, i3⟩ := hI
  go_wp2_with fail
  refine (hfrm _).mono ?_
  rintro e w2 ⟨rfl, hb2⟩
  have hI := ((At4.new w (.int .u8 o) (.int .u8 a) (.int .u8 b) (.int .i32 n) 117).below hb1).below hb2
  have hI3 := hI.below (new_alloc w2 (.cells #[.int .u8 f, .int .i64 L, .bool A, .bool B, .bool M, .bool D] 167))
  have hF3 := At6.new w2 (.int .u8 f) (.int .i64 L) (.bool A) (.bool B) (.bool M) (.bool D) 167
  have hbw3 := below_alloc (below_step hbw hb2) (.cells #[.int .u8 f, .int .i64 L, .bool A, .bool B, .bool M, .bool D] 167)
  have l1 : w.heap.size < w2.heap.size := cell_lt hI.1
  clear hb1 hb2 hbw hright hfrm hI i0 i1 i2 i3
  go_upto_region 4 with fail
  have l2 : w2.heap.size < (w2.alloc (.cells #[.int .u8 f, .int .i64 L, .bool A, .bool B, .bool M, .bool D] 167)).heap.size := by simp
  have l3 := Nat.lt_trans l1 l2
  have hsz := hbw3.size
  generalize w2.alloc (.cells #[.int .u8 f, .int .i64 L, .bool A, .bool B, .bool M, .bool D] 167) = w3 at *
  generalize w2.heap.size = gF at *
  have HI3 : Hid (At4 w3 w.heap.size (.int .u8 o) (.int .u8 a) (.int .u8 b) (.int .i32 n)) := hI3
  have HF3 : Hid (At6 w3 gF (.int .u8 f) (.int .i64 L) (.bool A) (.bool B) (.bool M) (.bool D)) := hF3
  have HN : Hid (Below w3.heap.size w3 (w3.alloc (.cells #[.int .u8 f] 5))) := new_alloc w3 _
  have hown0 : OwnV (w3.alloc (.cells #[.int .u8 f] 5)) w3.heap.size (.slice (some ⟨w3.heap.size, 0, none⟩) 1 1) [f] := (Own.lit w3 [f] (by simp [maxLen])).val
  have HB : Hid (Below w.heap.size w w3) := hbw3
  have c0 := hF3.1.1
  go_upto_region 5 with fail
  have hq := hI3.keep HN.out l3
  have hp := hF3.keep HN.out l2
  obtain ⟨i0, i1, i2, i3⟩ := hq
  obtain ⟨⟨f0, f1, f2⟩, f3, f4, f5⟩ := hp
  clear c0
  have hs4 := HN.out.size
  generalize w3.alloc (.cells #[.int .u8 f] 5) = w4 at *
  have hu : 0 ≤ n % 4294967296 ∧ n % 4294967296 ≤ 4294967295 := by omega
  clear hI3 hF3 hbw3 l1
  cases A <;> cases B <;> cases M
  · have hRR : R = [f] := by have := HR.out; simpa [bitL, le4] using this
    have HRR : Hid (R = [f]) := hRR
    clear HR hRR
    go_wp2
    go_ret2
    exact ⟨_, rfl, by rw [HRR.out]; exact hown0.lowerV hsz, HB.out.trans (HN.out.mono hsz)⟩
  · have hRR : R = [f] ++ [n % 256, n % 4294967296 / 256 % 256, n % 4294967296 / 65536 % 256, n % 4294967296 / 16777216] := by have := HR.out; simpa [bitL, le4] using this
    have HRR : Hid (R = [f] ++ [n % 256, n % 4294967296 / 256 % 256, n % 4294967296 / 65536 % 256, n % 4294967296 / 16777216]) := hRR
    clear HR hRR
    go_wp2_with (at_builtin; first | (refine wp_push _ rfl _ _ rfl w3.heap.size _ ([f]) rfl (hown0.alloc _) ⟨w4.heap.size, 0, none⟩ 4 4 [n % 256, n % 4294967296 / 256 % 256, n % 4294967296 / 65536 % 256, n % 4294967296 / 16777216] rfl rfl (news4 _ _ _ _ _ _) (by simp) (by simp; omega) ?_; intro v1 x1 hown1 _ hbel1 _; have hX1 := hbel1 w3 (HN.out.alloc hs4 _); clear hown0 hbel1; obtain ⟨i0, i1, i2, i3⟩ := HI3.out.keep hX1 l3; obtain ⟨⟨f0, f1, f2⟩, f3, f4, f5⟩ := HF3.out.keep hX1 l2; have hz1 := hX1.size))
    go_ret2
    exact ⟨_, rfl, by rw [HRR.out]; exact hown1.lowerV hsz, HB.out.trans (hX1.mono hsz)⟩
  · have hRR : R = [f] ++ [b] := by have := HR.out; simpa [bitL, le4] using this
    have HRR : Hid (R = [f] ++ [b]) := hRR
    clear HR hRR
    go_wp2_with (at_builtin; first | (refine wp_push _ rfl _ _ rfl w3.heap.size _ ([f]) rfl (hown0.alloc _) ⟨w4.heap.size, 0, none⟩ 1 1 [b] rfl rfl (cell_one_new _ _ _) (by simp) (by simp; omega) ?_; intro v1 x1 hown1 _ hbel1 _; have hX1 := hbel1 w3 (HN.out.alloc hs4 _); clear hown0 hbel1; obtain ⟨i0, i1, i2, i3⟩ := HI3.out.keep hX1 l3; obtain ⟨⟨f0, f1, f2⟩, f3, f4, f5⟩ := HF3.out.keep hX1 l2; have hz1 := hX1.size))
    go_ret2
    exact ⟨_, rfl, by rw [HRR.out]; exact hown1.lowerV hsz, HB.out.trans (hX1.mono hsz)⟩
  · have hRR : R = [f] ++ [b] ++ [n % 256, n % 4294967296 / 256 % 256, n % 4294967296 / 65536 % 256, n % 4294967296 / 16777216] := by have := HR.out; simpa [bitL, le4] using this
    have HRR : Hid (R = [f] ++ [b] ++ [n % 256, n % 4294967296 / 256 % 256, n % 4294967296 / 65536 % 256, n % 4294967296 / 16777216]) := hRR
    clear HR hRR
    go_wp2_with (at_builtin; first | (refine wp_push _ rfl _ _ rfl w3.heap.size _ ([f] ++ [b]) rfl (hown1.alloc _) ⟨x1.heap.size, 0, none⟩ 4 4 [n % 256, n % 4294967296 / 256 % 256, n % 4294967296 / 65536 % 256, n % 4294967296 / 16777216] rfl rfl (news4 _ _ _ _ _ _) (by simp) (by simp; omega) ?_; intro v2 x2 hown2 _ hbel2 _; have hX2 := hbel2 w3 (hX1.alloc hz1 _); clear hown1 hbel2; obtain ⟨i0, i1, i2, i3⟩ := HI3.out.keep hX2 l3; obtain ⟨⟨f0, f1, f2⟩, f3, f4, f5⟩ := HF3.out.keep hX2 l2; have hz2 := hX2.size) | (refine wp_push _ rfl _ _ rfl w3.heap.size _ ([f]) rfl (hown0.alloc _) ⟨w4.heap.size, 0, none⟩ 1 1 [b] rfl rfl (cell_one_new _ _ _) (by simp) (by simp; omega) ?_; intro v1 x1 hown1 _ hbel1 _; have hX1 := hbel1 w3 (HN.out.alloc hs4 _); clear hown0 hbel1; obtain ⟨i0, i1, i2, i3⟩ := HI3.out.keep hX1 l3; obtain ⟨⟨f0, f1, f2⟩, f3, f4, f5⟩ := HF3.out.keep hX1 l2; have hz1 := hX1.size))
    go_ret2
    exact ⟨_, rfl, by rw [HRR.out]; exact hown2.lowerV hsz, HB.out.trans (hX2.mono hsz)⟩
  · have hRR : R = [f] ++ [a] := by have := HR.out; simpa [bitL, le4] using this
    have HRR : Hid (R = [f] ++ [a]) := hRR
    clear HR hRR
    go_wp2_with (at_builtin; first | (refine wp_push _ rfl _ _ rfl w3.heap.size _ ([f]) rfl (hown0.alloc _) ⟨w4.heap.size, 0, none⟩ 1 1 [a] rfl rfl (cell_one_new _ _ _) (by simp) (by simp; omega) ?_; intro v1 x1 hown1 _ hbel1 _; have hX1 := hbel1 w3 (HN.out.alloc hs4 _); clear hown0 hbel1; obtain ⟨i0, i1, i2, i3⟩ := HI3.out.keep hX1 l3; obtain ⟨⟨f0, f1, f2⟩, f3, f4, f5⟩ := HF3.out.keep hX1 l2; have hz1 := hX1.size))
    go_ret2
    exact ⟨_, rfl, by rw [HRR.out]; exact hown1.lowerV hsz, HB.out.trans (hX1.mono hsz)⟩
  · have hRR : R = [f] ++ [a] ++ [n % 256, n % 4294967296 / 256 % 256, n % 4294967296 / 65536 % 256, n % 4294967296 / 16777216] := by have := HR.out; simpa [bitL, le4] using this
    have HRR : Hid (R = [f] ++ [a] ++ [n % 256, n % 4294967296 / 256 % 256, n % 4294967296 / 65536 % 256, n % 4294967296 / 16777216]) := hRR
    clear HR hRR
    go_wp2_with (at_builtin; first | (refine wp_push _ rfl _ _ rfl w3.heap.size _ ([f] ++ [a]) rfl (hown1.alloc _) ⟨x1.heap.size, 0, none⟩ 4 4 [n % 256, n % 4294967296 / 256 % 256, n % 4294967296 / 65536 % 256, n % 4294967296 / 16777216] rfl rfl (news4 _ _ _ _ _ _) (by simp) (by simp; omega) ?_; intro v2 x2 hown2 _ hbel2 _; have hX2 := hbel2 w3 (hX1.alloc hz1 _); clear hown1 hbel2; obtain ⟨i0, i1, i2, i3⟩ := HI3.out.keep hX2 l3; obtain ⟨⟨f0, f1, f2⟩, f3, f4, f5⟩ := HF3.out.keep hX2 l2; have hz2 := hX2.size) | (refine wp_push _ rfl _ _ rfl w3.heap.size _ ([f]) rfl (hown0.alloc _) ⟨w4.heap.size, 0, none⟩ 1 1 [a] rfl rfl (cell_one_new _ _ _) (by simp) (by simp; omega) ?_; intro v1 x1 hown1 _ hbel1 _; have hX1 := hbel1 w3 (HN.out.alloc hs4 _); clear hown0 hbel1; obtain ⟨i0, i1, i2, i3⟩ := HI3.out.keep hX1 l3; obtain ⟨⟨f0, f1, f2⟩, f3, f4, f5⟩ := HF3.out.keep hX1 l2; have hz1 := hX1.size))
    go_ret2
    exact ⟨_, rfl, by rw [HRR.out]; exact hown2.lowerV hsz, HB.out.trans (hX2.mono hsz)⟩
  · have hRR : R = [f] ++ [a] ++ [b] := by have := HR.out; simpa [bitL, le4] using this
    have HRR : Hid (R = [f] ++ [a] ++ [b]) := hRR
    clear HR hRR
    go_wp2_with (at_builtin; first | (refine wp_push _ rfl _ _ rfl w3.heap.size _ ([f] ++ [a]) rfl (hown1.alloc _) ⟨x1.heap.size, 0, none⟩ 1 1 [b] rfl rfl (cell_one_new _ _ _) (by simp) (by simp; omega) ?_; intro v2 x2 hown2 _ hbel2 _; have hX2 := hbel2 w3 (hX1.alloc hz1 _); clear hown1 hbel2; obtain ⟨i0, i1, i2, i3⟩ := HI3.out.keep hX2 l3; obtain ⟨⟨f0, f1, f2⟩, f3, f4, f5⟩ := HF3.out.keep hX2 l2; have hz2 := hX2.size) | (refine wp_push _ rfl _ _ rfl w3.heap.size _ ([f]) rfl (hown0.alloc _) ⟨w4.heap.size, 0, none⟩ 1 1 [a] rfl rfl (cell_one_new _ _ _) (by simp) (by simp; omega) ?_; intro v1 x1 hown1 _ hbel1 _; have hX1 := hbel1 w3 (HN.out.alloc hs4 _); clear hown0 hbel1; obtain ⟨i0, i1, i2, i3⟩ := HI3.out.keep hX1 l3; obtain ⟨⟨f0, f1, f2⟩, f3, f4, f5⟩ := HF3.out.keep hX1 l2; have hz1 := hX1.size))
    go_ret2
    exact ⟨_, rfl, by rw [HRR.out]; exact hown2.lowerV hsz, HB.out.trans (hX2.mono hsz)⟩
  · have hRR : R = [f] ++ [a] ++ [b] ++ [n % 256, n % 4294967296 / 256 % 256, n % 4294967296 / 65536 % 256, n % 4294967296 / 16777216] := by have := HR.out; simpa [bitL, le4] using this
    have HRR : Hid (R = [f] ++ [a] ++ [b] ++ [n % 256, n % 4294967296 / 256 % 256, n % 4294967296 / 65536 % 256, n % 4294967296 / 16777216]) := hRR
    clear HR hRR
    go_wp2_with (at_builtin; first | (refine wp_push _ rfl _ _ rfl w3.heap.size _ ([f] ++ [a] ++ [b]) rfl (hown2.alloc _) ⟨x2.heap.size, 0, none⟩ 4 4 [n % 256, n % 4294967296 / 256 % 256, n % 4294967296 / 65536 % 256, n % 4294967296 / 16777216] rfl rfl (news4 _ _ _ _ _ _) (by simp) (by simp; omega) ?_; intro v3 x3 hown3 _ hbel3 _; have hX3 := hbel3 w3 (hX2.alloc hz2 _); clear hown2 hbel3; obtain ⟨i0, i1, i2, i3⟩ := HI3.out.keep hX3 l3; obtain ⟨⟨f0, f1, f2⟩, f3, f4, f5⟩ := HF3.out.keep hX3 l2; have hz3 := hX3.size) | (refine wp_push _ rfl _ _ rfl w3.heap.size _ ([f] ++ [a]) rfl (hown1.alloc _) ⟨x1.heap.size, 0, none⟩ 1 1 [b] rfl rfl (cell_one_new _ _ _) (by simp) (by simp; omega) ?_; intro v2 x2 hown2 _ hbel2 _; have hX2 := hbel2 w3 (hX1.alloc hz1 _); clear hown1 hbel2; obtain ⟨i0, i1, i2, i3⟩ := HI3.out.keep hX2 l3; obtain ⟨⟨f0, f1, f2⟩, f3, f4, f5⟩ := HF3.out.keep hX2 l2; have hz2 := hX2.size) | (refine wp_push _ rfl _ _ rfl w3.heap.size _ ([f]) rfl (hown0.alloc _) ⟨w4.heap.size, 0, none⟩ 1 1 [a] rfl rfl (cell_one_new _ _ _) (by simp) (by simp; omega) ?_; intro v1 x1 hown1 _ hbel1 _; have hX1 := hbel1 w3 (HN.out.alloc hs4 _); clear hown0 hbel1; obtain ⟨i0, i1, i2, i3⟩ := HI3.out.keep hX1 l3; obtain ⟨⟨f0, f1, f2⟩, f3, f4, f5⟩ := HF3.out.keep hX1 l2; have hz1 := hX1.size))
    go_ret2
    exact ⟨_, rfl, by rw [HRR.out]; exact hown3.lowerV hsz, HB.out.trans (hX3.mono hsz)⟩

set_option maxHeartbeats 1000000 in
theorem rencode_five (f L a b n : Int) (A B M D : Bool) (w : World)
    (hright : ∀ w, Calls Tryz.prog 122 #[ins 3 a b n] w fun e w' => e = .returned (.bool true) ∧ Below w.heap.size w w')
    (hfrm : ∀ w, Calls Tryz.prog 92 #[.int .u8 3] w fun e w' => e = .returned (.tuple #[frm f L A B M D, .bool true]) ∧ Below w.heap.size w w') :
    Calls Tryz.prog 93 #[ins 3 a b n] w fun e w' => ∃ v, e = .returned (.tuple #[v, .int .i64 0]) ∧ OwnV w' w.heap.size v ([f] ++ [31, 68, 0, 0]) ∧ Below w.heap.size w w' := by
  obtain ⟨R, hR⟩ : ∃ R, R = [f] ++ [31, 68, 0, 0] := ⟨_, rfl⟩
  rw [← hR]
  have HR : Hid (R = [f] ++ [31, 68, 0, 0]) := hR
  clear hR
  go_enter Tryz.func93, Tryz.ntmps93
  go_wp2_with fail
  refine (hright _).mono ?_
  rintro e w1 ⟨rfl, hb1⟩
  have hI := (At4.new w (.int .u8 3) (.int .u8 a) (.int .u8 b) (.int .i32 n) 117).below hb1
  have hbw := below_step (new_alloc w _) hb1
  obtain ⟨i0, i1, i2, i3⟩ := hI
  go_wp2_with fail
  refine (hfrm _).mono ?_
  rintro e w2 ⟨rfl, hb2⟩
  have hI := ((At4.new w (.int .u8 3) (.int .u8 a) (.int .u8 b) (.int .i32 n) 117).below hb1).below hb2
  have hI3 := hI.below (new_alloc w2 (.cells #[.int .u8 f, .int .i64 L, .bool A, .bool B, .bool M, .bool D] 167))
  have hF3 := At6.new w2 (.int .u8 f) (.int .i64 L) (.bool A) (.bool B) (.bool M) (.bool D) 167
  have hbw3 := below_alloc (below_step hbw hb2) (.cells #[.int .u8 f, .int .i64 L, .bool A, .bool B, .bool M, .bool D] 167)
  have l1 : w.heap.size < w2.heap.size := cell_lt hI.1
  clear hb1 hb2 hbw hright hfrm hI i0 i1 i2 i3
  go_upto_region 4 with fail
  have l2 : w2.heap.size < (w2.alloc (.cells #[.int .u8 f, .int .i64 L, .bool A, .bool B, .bool M, .bool D] 167)).heap.size := by simp
  have l3 := Nat.lt_trans l1 l2
  have hsz := hbw3.size
  generalize w2.alloc (.cells #[.int .u8 f, .int .i64 L, .bool A, .bool B, .bool M, .bool D] 167) = w3 at *
  generalize w2.heap.size = gF at *
  have HI3 : Hid (At4 w3 w.heap.size (.int .u8 3) (.int .u8 a) (.int .u8 b) (.int .i32 n)) := hI3
  have HF3 : Hid (At6 w3 gF (.int .u8 f) (.int .i64 L) (.bool A) (.bool B) (.bool M) (.bool D)) := hF3
  have HN : Hid (Below w3.heap.size w3 (w3.alloc (.cells #[.int .u8 f] 5))) := new_alloc w3 _
  have hown0 : OwnV (w3.alloc (.cells #[.int .u8 f] 5)) w3.heap.size (.slice (some ⟨w3.heap.size, 0, none⟩) 1 1) [f] := (Own.lit w3 [f] (by simp [maxLen])).val
  have HB : Hid (Below w.heap.size w w3) := hbw3
  have c0 := hF3.1.1
  go_upto_region 5 with fail
  have hq := hI3.keep HN.out l3
  have hp := hF3.keep HN.out l2
  obtain ⟨i0, i1, i2, i3⟩ := hq
  obtain ⟨⟨f0, f1, f2⟩, f3, f4, f5⟩ := hp
  clear c0
  have hs4 := HN.out.size
  generalize w3.alloc (.cells #[.int .u8 f] 5) = w4 at *
  have hu : 0 ≤ n % 4294967296 ∧ n % 4294967296 ≤ 4294967295 := by omega
  clear hI3 hF3 hbw3 l1
  go_wp2_with (at_builtin; refine wp_push _ rfl _ _ rfl w3.heap.size _ [f] rfl (hown0.alloc _) ⟨w4.heap.size, 0, none⟩ 4 4 [31, 68, 0, 0] rfl rfl (news4 _ _ _ _ _ _) (by simp) (by simp; omega) ?_; intro v1 x1 hown1 _ hbel1 _; have hX1 := hbel1 w3 (HN.out.alloc hs4 _); clear hown0 hbel1)
  go_ret2
  exact ⟨_, rfl, by rw [HR.out]; exact hown1.lowerV hsz, HB.out.trans (hX1.mono hsz)⟩

theorem encL_eq (o : Nat) (a b n : Int) (h1 : 1 ≤ o) (h2 : o < 17) (h3 : o ≠ 3) : [fb o] ++ bitL (hA o) [a] ++ bitL (hB o) [b] ++ bitL (hM o) (le4 n) = encL o a b n := by
  have hc : cdL o = [fb o] := by
    have : ∀ k : Fin 17, 1 ≤ k.1 → k.1 ≠ 3 → cdL k.1 = [fb k.1] := by decide +kernel
    exact this ⟨o, h2⟩ h1 h3
  unfold encL encG bitL hA hB hM
  rw [hc]
  by_cases hk : kd o = 0 <;> simp [hk]

theorem rencode_yes (o : Nat) (a b n : Int) (w : World) (ha : 0 ≤ a ∧ a ≤ 255) (hb : 0 ≤ b ∧ b ≤ 255) (hR : rightB o a b n = true) :
    Calls Tryz.prog 93 #[ins o a b n] w fun e w' => ∃ v, e = .returned (.tuple #[v, .int .i64 0]) ∧ OwnV w' w.heap.size v (encL o a b n) ∧ Below w.heap.size w w' := by
  obtain ⟨⟨h1, h2⟩, q1, q2, q3⟩ := rightB_parts hR
  have hright : ∀ w, Calls Tryz.prog 122 #[ins o a b n] w fun e w' => e = .returned (.bool true) ∧ Below w.heap.size w w' := fun w => by
    have := rright_op o a b n w h1 h2 ha hb
    rw [hR] at this
    exact this
  by_cases h3 : o = 3
  · subst h3
    exact rencode_five 15 5 a b n _ _ _ _ w hright (fun w => form_yes 3 w (by decide) (by decide))
  · rw [← encL_eq o a b n h1 h2 h3]
    exact rencode_gen (fb o) (lenN o) o a b n _ _ _ _ w hright (fun w => form_yes o w h1 h2) (by simp; omega)

set_option maxHeartbeats 400000 in
theorem rencode_no (o : Nat) (a b n : Int) (w : World) (ha : 0 ≤ a ∧ a ≤ 255) (hb : 0 ≤ b ∧ b ≤ 255) (hR : rightB o a b n = false) :
    Calls Tryz.prog 93 #[ins o a b n] w fun e w' => e = .returned (.tuple #[.slice none 0 0, .int .i64 2]) ∧ Below w.heap.size w w' := by
  have hcon := fun w => rright_any o a b n w ha hb
  rw [hR] at hcon
  clear hR
  go_enter Tryz.func93, Tryz.ntmps93
  go_wp2_with fail
  refine (hcon _).mono ?_
  rintro e w1 ⟨rfl, hb1⟩
  clear hcon
  go_wp2
  go_ret2
  exact ⟨rfl, below_step (new_alloc w _) hb1⟩
end Go.Proofs.YtnpaijbkhmnfpaaGreat
