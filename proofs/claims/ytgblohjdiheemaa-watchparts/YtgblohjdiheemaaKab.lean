/- Texts put together: Right, Blk, Gen, Texts, W3, NamL, Hidd. -/
import Derived.Test.YtgblohjdiheemaaKaa
import Derived.Deep.RegionWith
import Derived.Deep.CutRange
import Derived.Deep.MidRow
import Derived.RangeFuncBox
import Derived.Laws.AppendOwnNone
import Derived.Deep.QuietTactic
import Derived.BigQuiet
import Derived.Lib.Strings
import Derived.Deep.AppendLies
import Derived.Maps.Own
import Derived.Maps.OwnOps
import Derived.Maps.OwnSet
import Derived.Maps.Views

/- What isa.Right answers, for every instruction. -/
namespace Go.Proofs.Ytgblohjdiheemaa
open Go.RowKit

abbrev ins (o a b n : Int) : Value := .agg #[.int .u8 o, .int .u8 a, .int .u8 b, .int .i32 n]

/-- whether an instruction is right: its op's number, its fields -/
def rightB (o : Nat) (a b n : Int) : Bool := decide (1 ≤ o ∧ o < 17) && (regB (decide (1 ≤ rg o)) a && regB (decide (2 ≤ rg o)) b && numB (kd o) n)

theorem cell_push {w : World} {b o : Nat} {v : Value} (h : w.cell? ⟨b, o, none⟩ = some v) (ob : Obj) : (w.alloc ob).cell? ⟨b, o, none⟩ = some v :=
  ((new_alloc w ob).cell (p := ⟨b, o, none⟩) (cell_lt h)).trans h
theorem lt_push {b : Nat} {w : World} (h : b < w.heap.size) (o : Obj) : b < (w.alloc o).drew.heap.size := by
  show b < (w.heap.push o).size
  simp; omega
theorem kept_new4 {w w2 : World} {x0 x1 x2 x3 : Value} {t : TypeId} (hb : Below (w.alloc (.cells #[x0, x1, x2, x3] t)).drew.heap.size (w.alloc (.cells #[x0, x1, x2, x3] t)).drew w2) :
    w2.cell? ⟨w.heap.size, 0, none⟩ = some x0 ∧ w2.cell? ⟨w.heap.size, 1, none⟩ = some x1 ∧ w2.cell? ⟨w.heap.size, 2, none⟩ = some x2 ∧ w2.cell? ⟨w.heap.size, 3, none⟩ = some x3 ∧
    w2.frozen? ⟨w.heap.size, 0, none⟩ = false ∧ w2.frozen? ⟨w.heap.size, 1, none⟩ = false ∧ w2.frozen? ⟨w.heap.size, 2, none⟩ = false ∧ w2.frozen? ⟨w.heap.size, 3, none⟩ = false := by
  have hl : w.heap.size < (w.alloc (.cells #[x0, x1, x2, x3] t)).drew.heap.size := by
    show w.heap.size < (w.heap.push _).size
    simp
  refine ⟨(hb.cell (p := ⟨w.heap.size, 0, none⟩) hl).trans ?_, (hb.cell (p := ⟨w.heap.size, 1, none⟩) hl).trans ?_, (hb.cell (p := ⟨w.heap.size, 2, none⟩) hl).trans ?_, (hb.cell (p := ⟨w.heap.size, 3, none⟩) hl).trans ?_, (hb.frozen (p := ⟨w.heap.size, 0, none⟩) hl).trans ?_, (hb.frozen (p := ⟨w.heap.size, 1, none⟩) hl).trans ?_, (hb.frozen (p := ⟨w.heap.size, 2, none⟩) hl).trans ?_, (hb.frozen (p := ⟨w.heap.size, 3, none⟩) hl).trans ?_⟩
  all_goals simp

/-- four cells of a variable -/
def At4 (w : World) (g : Nat) (x0 x1 x2 x3 : Value) : Prop :=
  w.cell? ⟨g, 0, none⟩ = some x0 ∧ w.cell? ⟨g, 1, none⟩ = some x1 ∧ w.cell? ⟨g, 2, none⟩ = some x2 ∧ w.cell? ⟨g, 3, none⟩ = some x3
theorem At4.below {w w' : World} {g : Nat} {x0 x1 x2 x3 : Value} (h : At4 w g x0 x1 x2 x3) (hb : Below w.heap.size w w') : At4 w' g x0 x1 x2 x3 :=
  ⟨(hb.cell (p := ⟨g, 0, none⟩) (cell_lt h.1)).trans h.1, (hb.cell (p := ⟨g, 1, none⟩) (cell_lt h.1)).trans h.2.1, (hb.cell (p := ⟨g, 2, none⟩) (cell_lt h.1)).trans h.2.2.1, (hb.cell (p := ⟨g, 3, none⟩) (cell_lt h.1)).trans h.2.2.2⟩
theorem At4.new (w : World) (x0 x1 x2 x3 : Value) (t : TypeId) : At4 (w.alloc (.cells #[x0, x1, x2, x3] t)) w.heap.size x0 x1 x2 x3 := ⟨by simp, by simp, by simp, by simp⟩
theorem cs_other {w : World} {g i j : Nat} {v : Value} (h : i ≠ j) : (w.setCell ⟨g, i, none⟩ v).cell? ⟨g, j, none⟩ = w.cell? ⟨g, j, none⟩ :=
  World.cell?_setCell_other _ _ _ _ fun e => h (congrArg Addr.off e)
theorem met_A {w1 w2 : World} (hb : Below w1.drew.heap.size w1.drew w2) (x0 x1 x2 x3 : Value) (t : TypeId) :
    At4 (w2.alloc (.cells #[x0, x1, x2, x3] t)) w2.heap.size x0 x1 x2 x3 ∧ Below w1.heap.size w1 (w2.alloc (.cells #[x0, x1, x2, x3] t)) :=
  ⟨At4.new _ _ _ _ _ _, below_alloc (below_step ((Below.refl w1.heap.size w1).drew) hb) _⟩
theorem met_B {w1 w2 : World} {z0 z1 z2 z3 : Value} {t : TypeId} (hb : Below (w1.alloc (.cells #[z0, z1, z2, z3] t)).drew.heap.size (w1.alloc (.cells #[z0, z1, z2, z3] t)).drew w2) (x0 x1 x2 x3 : Value) :
    At4 ((((w2.setCell ⟨w1.heap.size, 0, none⟩ x0).setCell ⟨w1.heap.size, 1, none⟩ x1).setCell ⟨w1.heap.size, 2, none⟩ x2).setCell ⟨w1.heap.size, 3, none⟩ x3) w1.heap.size x0 x1 x2 x3 ∧
    Below w1.heap.size w1 ((((w2.setCell ⟨w1.heap.size, 0, none⟩ x0).setCell ⟨w1.heap.size, 1, none⟩ x1).setCell ⟨w1.heap.size, 2, none⟩ x2).setCell ⟨w1.heap.size, 3, none⟩ x3) := by
  obtain ⟨d0, d1, d2, d3, _⟩ := kept_new4 hb
  refine ⟨⟨?_, ?_, ?_, ?_⟩, ((((below_step (new_alloc w1 _).drew hb).setCell (Nat.le_refl _) _).setCell (Nat.le_refl _) _).setCell (Nat.le_refl _) _).setCell (Nat.le_refl _) _⟩
  · exact (cs_other (by decide)).trans ((cs_other (by decide)).trans ((cs_other (by decide)).trans (World.cell?_setCell_same _ _ _ d0)))
  · exact (cs_other (by decide)).trans ((cs_other (by decide)).trans (World.cell?_setCell_same _ _ _ ((cs_other (by decide)).trans d1)))
  · exact (cs_other (by decide)).trans (World.cell?_setCell_same _ _ _ ((cs_other (by decide)).trans ((cs_other (by decide)).trans d2)))
  · exact World.cell?_setCell_same _ _ _ ((cs_other (by decide)).trans ((cs_other (by decide)).trans ((cs_other (by decide)).trans d3)))

theorem nm_ne (o : Nat) (h1 : 1 ≤ o) (h2 : o < 17) : ((nm o).toList == []) = false := by
  rw [Lib.toList_data]
  refine beq_eq_false_iff_ne.2 fun e => nm_pos o h1 h2 ?_
  generalize nm o = s at e
  cases s with | mk d => simp at e; rw [e]

set_option maxHeartbeats 1000000 in
theorem right_op (o : Nat) (a b n : Int) (w : World) (h1 : 1 ≤ o) (h2 : o < 17) (ha : 0 ≤ a ∧ a ≤ 255) (hb : 0 ≤ b ∧ b ≤ 255) :
    Calls Try.prog 60 #[ins o a b n] w fun e w' => e = .returned (.bool (rightB o a b n)) ∧ Below w.heap.size w w' := by
  have hcon := isaName_yes o (w.alloc (.cells #[.int .u8 o, .int .u8 a, .int .u8 b, .int .i32 n] 109)) h2
  have hidx := idx_any o h2
  have hq := nm_ne o h1 h2
  have hr := fun w => holdsRegs_any (nm o) (cd o) (rg o) (kd o) a b w (rg_le o h2) ha hb
  have hn := fun w => holdsNum_any (nm o) (cd o) (rg o) (kd o) n w (kd_in o h2)
  have hR : rightB o a b n = ((regB (decide (1 ≤ rg o)) a && regB (decide (2 ≤ rg o)) b) && numB (kd o) n) := by simp [rightB, h1, h2]
  rw [hR]
  generalize (regB (decide (1 ≤ rg o)) a && regB (decide (2 ≤ rg o)) b) = r1 at *
  generalize numB (kd o) n = r2 at *
  clear hR h1 h2 ha hb
  generalize nm o = s at *
  generalize cd o = c at *
  generalize rg o = r at *
  generalize kd o = q at *
  go_enter Try.func60, Try.ntmps60
  go_wp2_with fail
  refine hcon.mono ?_
  rintro e w1 ⟨rfl, hb1⟩
  have c0 : w1.cell? ⟨w.heap.size, 0, none⟩ = some (.int .u8 o) := by rw [hb1.cell (p := ⟨w.heap.size, 0, none⟩) (by simp)]; simp
  have l0 : w.heap.size < w1.heap.size := cell_lt c0
  have c1 : ∀ ob, (w1.alloc ob).cell? ⟨w.heap.size, 0, none⟩ = some (.int .u8 o) := cell_push c0
  clear hcon
  go_upto_region 3 with fail
  go_cut [3] from 8 to 11 (fun p wx => ∃ g, p = .pointer (some ⟨g, 0, none⟩) ∧ At4 wx g (.string s) (.string c) (.int .i64 r) (.int .u8 q) ∧ Below w1.heap.size w1 wx)
  case first =>
    go_region_with (go_at_call 61; refine (shapes_any _).mono ?_; rintro e w2 ⟨rfl, hb2⟩; first | (have c9 := (hb2.cell (p := ⟨w.heap.size, 0, none⟩) l0).trans c0; have c8 := cell_push c9; have hA := hb2) | (have c9 := (hb2.cell (p := ⟨w.heap.size, 0, none⟩) (lt_push l0 _)).trans (c1 _); obtain ⟨d0, d1, d2, d3, f0, f1, f2, f3⟩ := kept_new4 hb2; have hB := hb2))
    all_goals
      go_wp2_with fail
      go_meet
      case rel => first | exact ⟨_, rfl, met_A hA _ _ _ _ _⟩ | exact ⟨_, rfl, met_B hB _ _ _ _⟩
  case rest =>
    obtain ⟨g, rfl, hat, hbx⟩ := hcut
    have hbox : At4 wc w.heap.size (.int .u8 o) (.int .u8 a) (.int .u8 b) (.int .i32 n) := ((At4.new w _ _ _ _ 109).below hb1).below hbx
    have hbc := below_step (below_step (new_alloc w _) hb1) hbx
    clear hbx hb1 c0 l0 c1 hidx
    have HA : Hid (At4 wc g (.string s) (.string c) (.int .i64 r) (.int .u8 q)) := hat
    have HB : Hid (At4 wc w.heap.size (.int .u8 o) (.int .u8 a) (.int .u8 b) (.int .i32 n)) := hbox
    obtain ⟨q0, q1, q2, q3⟩ := hat
    obtain ⟨p0, p1, p2, p3⟩ := hbox
    go_wp2_with fail
    refine (hr _).mono ?_
    rintro e w3 ⟨rfl, hb3⟩
    obtain ⟨s0, s1, s2, s3⟩ := HA.out.below hb3
    obtain ⟨t0, t1, t2, t3⟩ := HB.out.below hb3
    have hb4 := below_step hbc hb3
    clear hb3 hbc
    cases r1
    · go_wp2
      go_ret
      exact ⟨rfl, hb4⟩
    · go_wp2_with fail
      refine (hn _).mono ?_
      rintro e w4 ⟨rfl, hb5⟩
      go_wp2
      go_ret
      exact ⟨rfl, below_step hb4 hb5⟩

set_option maxHeartbeats 400000 in
theorem right_zero (a b n : Int) (w : World) :
    Calls Try.prog 60 #[ins 0 a b n] w fun e w' => e = .returned (.bool false) ∧ Below w.heap.size w w' := by
  have hcon := isaName_yes 0 (w.alloc (.cells #[.int .u8 0, .int .u8 a, .int .u8 b, .int .i32 n] 109)) (by decide)
  rw [show nm 0 = ⟨#[]⟩ from rfl] at hcon
  go_enter Try.func60, Try.ntmps60
  go_wp2_with fail
  refine hcon.mono ?_
  rintro e w1 ⟨rfl, hb1⟩
  clear hcon
  go_wp2
  go_ret
  exact ⟨rfl, below_step (new_alloc w _) hb1⟩

set_option maxHeartbeats 400000 in
theorem right_big (o a b n : Int) (w : World) (h1 : 17 ≤ o) (h2 : o ≤ 255) :
    Calls Try.prog 60 #[ins o a b n] w fun e w' => e = .returned (.bool false) ∧ Below w.heap.size w w' := by
  have hcon := isaName_no o (w.alloc (.cells #[.int .u8 o, .int .u8 a, .int .u8 b, .int .i32 n] 109)) h1 h2
  go_enter Try.func60, Try.ntmps60
  go_wp2_with fail
  refine hcon.mono ?_
  rintro e w1 ⟨rfl, hb1⟩
  clear hcon
  go_wp2
  go_ret
  exact ⟨rfl, below_step (new_alloc w _) hb1⟩

theorem right_any (o : Nat) (a b n : Int) (w : World) (ho : o ≤ 255) (ha : 0 ≤ a ∧ a ≤ 255) (hb : 0 ≤ b ∧ b ≤ 255) :
    Calls Try.prog 60 #[ins o a b n] w fun e w' => e = .returned (.bool (rightB o a b n)) ∧ Below w.heap.size w w' := by
  by_cases h : 1 ≤ o ∧ o < 17
  · exact right_op o a b n w h.1 h.2 ha hb
  · have hf : rightB o a b n = false := by simp only [rightB, decide_eq_false h, Bool.false_and]
    rw [hf]
    by_cases h0 : o = 0
    · subst h0; exact right_zero a b n w
    · exact right_big o a b n w (by omega) (by omega)
end Go.Proofs.Ytgblohjdiheemaa

/- Blocks of several cells; how an item lies. -/
namespace Go.Proofs.Ytgblohjdiheemaa
open Go.RowKit

/-- a block and its cells -/
def Blk (w : World) (g : Nat) (T : TypeId) (c : Array Value) : Prop := w.heap[g]? = some (.cells c T (0, 0))
theorem Blk.lt {w : World} {g : Nat} {T : TypeId} {c : Array Value} (h : Blk w g T c) : g < w.heap.size := (Array.getElem?_eq_some_iff.1 h).1
theorem Blk.cell {w : World} {g : Nat} {T : TypeId} {c : Array Value} (h : Blk w g T c) (i : Nat) : w.cell? ⟨g, i, none⟩ = c[i]? := by simp [World.cell?, show w.heap[g]? = _ from h]
theorem Blk.free {w : World} {g : Nat} {T : TypeId} {c : Array Value} (h : Blk w g T c) (i : Nat) : w.frozen? ⟨g, i, none⟩ = false := by simp [World.frozen?, show w.heap[g]? = _ from h]
theorem Blk.new (w : World) (T : TypeId) (c : Array Value) : Blk (w.alloc (.cells c T)) w.heap.size T c := World.alloc_heap_new w _
theorem Blk.kept {w w' : World} {row : Option Nat} {g : Nat} {T : TypeId} {c : Array Value} (h : Blk w g T c) (hg : w.grownBy w' row) (hne : some g ≠ row) : Blk w' g T c := (hg.block g h.lt hne).trans h
theorem Blk.below {w w' : World} {g B : Nat} {T : TypeId} {c : Array Value} (h : Blk w g T c) (hb : Below B w w') (hg : g < B) : Blk w' g T c := (hb.block g hg).trans h
theorem Blk.grow {w w' : World} {g : Nat} {T : TypeId} {c : Array Value} (h : Blk w g T c) (hb : Below w.heap.size w w') : Blk w' g T c := h.below hb h.lt
theorem Blk.set {w : World} {g : Nat} {T : TypeId} {c : Array Value} (h : Blk w g T c) (i : Nat) (v : Value) : Blk (w.setCell ⟨g, i, none⟩ v) g T (c.setIfInBounds i v) := by
  obtain ⟨hlt, hk⟩ := Array.getElem?_eq_some_iff.1 h
  show (w.heap.modify g _)[g]? = _
  rw [Array.getElem?_eq_getElem (by rw [Array.size_modify]; exact hlt), Array.getElem_modify_self, hk]
  rfl

theorem Blk.other {w : World} {g k : Nat} {T : TypeId} {c : Array Value} (h : Blk w g T c) (hne : g ≠ k) (i : Nat) (v : Value) : Blk (w.setCell ⟨k, i, none⟩ v) g T c := (Below.heap_setCell _ _ _ g (fun e => hne e)).trans h
theorem grown_setCell (w : World) (g i : Nat) (v : Value) : w.grownBy (w.setCell ⟨g, i, none⟩ v) (some g) :=
  ⟨rfl, rfl, rfl, (KeepsWalks.setCell w _ v).size, fun k _ hk => Below.heap_setCell _ _ _ k (fun e => hk (by rw [e]))⟩
theorem grown_setCells (g : Nat) : ∀ (vs : List Value) (o : Nat) (w : World), w.grownBy (w.setCells g o vs) (some g)
  | [], _, w => World.grownBy.refl w _
  | v :: r, o, w => (grown_setCell w g o v).trans (grown_setCells g r (o + 1) _)
theorem below_grown {w w' : World} {g : Nat} (h : w.grownBy w' (some g)) {B : Nat} (hB : B ≤ g) (hl : B ≤ w.heap.size) : Below B w w' :=
  ⟨h.os, h.tape, h.output, h.size, fun k hk => h.block k (by omega) (by intro e; injection e with e; omega)⟩
theorem Blk.some_after (g : Nat) (T : TypeId) : ∀ (vs : List Value) (o : Nat) (w : World) (c : Array Value), Blk w g T c → ∃ c', Blk (w.setCells g o vs) g T c' ∧ c'.size = c.size
  | [], _, w, c, h => ⟨c, h, rfl⟩
  | v :: r, o, w, c, h => by
    obtain ⟨c', h1, h2⟩ := Blk.some_after g T r (o + 1) _ _ (h.set o v)
    exact ⟨c', h1, by rw [h2]; simp⟩
theorem Blk.range {w : World} {g : Nat} {T : TypeId} {c : Array Value} (h : Blk w g T c) : w.rangeAt g 0 c.toList := fun j v hv => by
  rw [Nat.zero_add, h.cell]; rw [Array.getElem?_toList] at hv; exact hv
theorem Blk.there {w : World} {g : Nat} {T : TypeId} {c : Array Value} (h : Blk w g T c) (o n : Nat) (hn : o + n ≤ c.size) : w.there g o n := fun j hj =>
  ⟨by rw [h.cell]; simp; omega, h.free _⟩
theorem Blk.setAll {w : World} {g : Nat} {T : TypeId} {c : Array Value} (h : Blk w g T c) (c' : Array Value) (hs : c'.size = c.size) : Blk (w.setCells g 0 c'.toList) g T c' := by
  obtain ⟨c2, h1, h2⟩ := Blk.some_after g T c'.toList 0 w c h
  have : c2 = c' := by
    apply Array.ext (by omega)
    intro i hi hi'
    have hr := World.rangeAt_setCells_same w g 0 c'.toList (by rw [Array.length_toList]; exact h.there 0 _ (by omega)) i c'[i] (by simp [hi'])
    rw [Nat.zero_add, h1.cell, Array.getElem?_eq_getElem hi] at hr
    injection hr
  rw [← this] at h1 ⊢
  exact h1

/-- a struct is read -/
theorem step_load_blk {ops : Array Oper} {rest : List Oper} {o : Oper} {a : Act} {w : World} {Q : Exit → Act → World → Prop} {g : Nat} {T : TypeId} {c : Array Value} (hB : Blk w g T c) (hg : o.guard = none) (t : TypeId) (p : Operand) (ho : o.op = .load t p)
    (hp : a.eval p = .pointer (some ⟨g, 0, none⟩)) (c' : Array Value) (hc : c'.toList <+: c.toList) (d : TypeDesc) (hu : Try.prog.underlying t = some d) (hd : d.isRow = true) (hi : (Try.prog.info? t).map (·.size) = some c'.size)
    (h : wpList Try.prog ops Q rest (a.put o.dst (.agg c')) w) : wpList Try.prog ops Q (o :: rest) a w := by
  refine wpList_load_mid hg t p ho g 0 hp c'.toList d (fun j v hv => hB.range j v ?_) hu hd (by rw [hi, Array.length_toList]) (by simpa using h)
  obtain ⟨r, hr⟩ := hc
  rw [← hr, List.getElem?_append_left (List.getElem?_eq_some_iff.1 hv).1]; exact hv
/-- a struct is stored -/
theorem step_store_blk {ops : Array Oper} {rest : List Oper} {o : Oper} {a : Act} {w : World} {Q : Exit → Act → World → Prop} {g : Nat} {T : TypeId} {c : Array Value} (hB : Blk w g T c) (hg : o.guard = none) (t : TypeId) (p x : Operand) (ho : o.op = .store t p x) (hd : o.dst = none)
    (hp : a.eval p = .pointer (some ⟨g, 0, none⟩)) (c' : Array Value) (hx : a.eval x = .agg c') (hi : (Try.prog.info? t).map (·.size) = some c'.size) (hcs : c'.size = c.size) (h1 : c'.all (·.oneCell') = true)
    (h : ∀ w', Blk w' g T c' → w.grownBy w' (some g) → wpList Try.prog ops Q rest a w') : wpList Try.prog ops Q (o :: rest) a w := by
  refine wpList_store_mid hg t p x ho g 0 c' hp hx (hB.there 0 _ (by omega)) hi h1 ?_
  rw [hd]
  exact h _ (hB.setAll c' hcs) (grown_setCells g _ _ _)

end Go.Proofs.Ytgblohjdiheemaa

/- Slices whose elements take one cell each (numbers, texts): in a block of their own, or nil; what a store and an append do to them. -/
namespace Go.Proofs.Ytgblohjdiheemaa
open Go.RowKit

/-- how a slice of such elements lies -/
def GRow (w : World) (p : Option Addr) (vs : List Value) : Prop :=
  0 < vs.length → ∃ b o, p = some ⟨b, o, none⟩ ∧ ∀ i, i < vs.length → w.cell? ⟨b, o + i, none⟩ = vs[i]?
/-- a slice of elements of the type T that the call has made (its block's number B or above), or nil -/
def GOwnV (T : TypeId) (w : World) (B : Nat) (v : Value) (vs : List Value) : Prop := w.ownsRow B T 1 v vs.length vs
/-- the same, not nil -/
def GOwn (T : TypeId) (w : World) (B g cap : Nat) (vs : List Value) : Prop := w.ownsRow B T 1 (.slice (some ⟨g, 0, none⟩) vs.length cap) vs.length vs

theorem GOwn.parts {T : TypeId} {w : World} {B g cap : Nat} {vs : List Value} (h : GOwn T w B g cap vs) :
    ∃ cur, B ≤ g ∧ w.heap[g]? = some (.cells cur T (0, 0)) ∧ vs.length ≤ cap ∧ cap ≤ maxLen ∧ cur.size = cap ∧ cur.toList.take vs.length = vs := by
  rcases h.2 with ⟨h', _⟩ | ⟨g', cap', cur, h', h1, h2, h3, h4, h5, h6⟩
  · simp at h'
  · simp only [Value.slice.injEq, Option.some.injEq, Addr.mk.injEq, and_true, true_and] at h'
    obtain ⟨rfl, rfl⟩ := h'
    exact ⟨cur, h1, h2, h3, h4, by simpa using h5, by simpa using h6⟩
theorem GOwn.mk {T : TypeId} {w : World} {B g cap : Nat} {vs : List Value} {cur : Array Value} (h1 : B ≤ g) (h2 : w.heap[g]? = some (.cells cur T (0, 0))) (h3 : vs.length ≤ cap) (h4 : cap ≤ maxLen) (h5 : cur.size = cap) (h6 : cur.toList.take vs.length = vs) : GOwn T w B g cap vs :=
  ⟨by simp, .inr ⟨g, cap, cur, rfl, h1, h2, h3, h4, by simpa using h5, by simpa using h6⟩⟩
theorem GOwn.lt {T : TypeId} {w : World} {B g cap : Nat} {vs : List Value} (h : GOwn T w B g cap vs) : g < w.heap.size := by
  obtain ⟨cur, _, h2, _⟩ := h.parts
  rcases Nat.lt_or_ge g w.heap.size with h | h
  · exact h
  · rw [Array.getElem?_eq_none h] at h2; cases h2
theorem GOwn.base {T : TypeId} {w : World} {B g cap : Nat} {vs : List Value} (h : GOwn T w B g cap vs) : B ≤ g := by obtain ⟨cur, h1, _⟩ := h.parts; exact h1
theorem GOwn.cap {T : TypeId} {w : World} {B g cap : Nat} {vs : List Value} (h : GOwn T w B g cap vs) : vs.length ≤ cap := by obtain ⟨cur, _, _, h1, _⟩ := h.parts; exact h1
theorem GOwn.lower {T : TypeId} {w : World} {B B' g cap : Nat} {vs : List Value} (h : GOwn T w B g cap vs) (hB : B' ≤ g) : GOwn T w B' g cap vs := by
  obtain ⟨cur, _, h2, h3, h4, h5, h6⟩ := h.parts
  exact GOwn.mk hB h2 h3 h4 h5 h6
theorem GOwn.keep {T : TypeId} {w w' : World} {B C g cap : Nat} {vs : List Value} (h : GOwn T w B g cap vs) (hb : Below C w w') (hg : g < C) : GOwn T w' B g cap vs := by
  obtain ⟨cur, h1, h2, h3, h4, h5, h6⟩ := h.parts
  exact GOwn.mk h1 (by rw [hb.block g hg]; exact h2) h3 h4 h5 h6
theorem GOwn.below {T : TypeId} {w w' : World} {B g cap : Nat} {vs : List Value} (h : GOwn T w B g cap vs) (hb : Below w.heap.size w w') : GOwn T w' B g cap vs := h.keep hb h.lt
theorem GOwn.cell {T : TypeId} {w : World} {B g cap : Nat} {vs : List Value} (h : GOwn T w B g cap vs) (i : Nat) (hi : i < vs.length) : w.cell? ⟨g, i, none⟩ = vs[i]? := World.ownsRow.cellAt h i (by omega)
theorem GOwn.free {T : TypeId} {w : World} {B g cap : Nat} {vs : List Value} (h : GOwn T w B g cap vs) (i : Nat) : w.frozen? ⟨g, i, none⟩ = false := World.ownsRow.frozenAt h i
theorem GOwn.store {T : TypeId} {w : World} {B g cap : Nat} {vs : List Value} (h : GOwn T w B g cap vs) (i : Nat) (x : Value) : GOwn T (w.setCell ⟨g, i, none⟩ x) B g cap (vs.set i x) := by
  have := (World.ownsRow.stored h i x).1
  unfold GOwn
  simpa using this
theorem GOwn.row {T : TypeId} {w : World} {B g cap : Nat} {vs : List Value} (h : GOwn T w B g cap vs) : GRow w (some ⟨g, 0, none⟩) vs :=
  fun _ => ⟨g, 0, rfl, fun i hi => by simpa using h.cell i hi⟩
theorem GOwn.grown {T : TypeId} {w w' : World} {B g r cap : Nat} {vs : List Value} (ho : GOwn T w B g cap vs) (hg : w.grownBy w' (some r)) (hne : g ≠ r) : GOwn T w' B g cap vs := by
  obtain ⟨cur, h1, h2, h3, h4, h5, h6⟩ := ho.parts
  exact GOwn.mk h1 ((hg.block g ho.lt (fun e => hne (by injection e))).trans h2) h3 h4 h5 h6
theorem GOwn.lit (T : TypeId) (w : World) (vs : List Value) (hm : vs.length ≤ maxLen) : GOwn T (w.alloc (.cells vs.toArray T)) w.heap.size w.heap.size vs.length vs :=
  GOwn.mk (Nat.le_refl _) (heap_alloc_new w _) (Nat.le_refl _) hm (by simp) (by rw [List.take_of_length_le (by simp)])
theorem GOwn.drewN {T : TypeId} {w : World} {B g cap : Nat} {vs : List Value} (h : GOwn T w B g cap vs) (n : Nat) : GOwn T (w.drewN n) B g cap vs := h

theorem GRow.below {w w' : World} {p : Option Addr} {vs : List Value} (h : GRow w p vs) (hb : Below w.heap.size w w') : GRow w' p vs := fun h0 => by
  obtain ⟨b, o, rfl, hc⟩ := h h0
  refine ⟨b, o, rfl, fun i hi => ?_⟩
  have e := hc i hi
  rw [List.getElem?_eq_getElem hi] at e
  rw [hb.cell (p := ⟨b, o + i, none⟩) (cell_lt e), hc i hi]
theorem GRow.drewN {w : World} {p : Option Addr} {vs : List Value} (h : GRow w p vs) (n : Nat) : GRow (w.drewN n) p vs := h
theorem GRow.nil (w : World) (p : Option Addr) : GRow w p [] := fun h => absurd h (Nat.lt_irrefl 0)

theorem GOwn.val {T : TypeId} {w : World} {B g cap : Nat} {vs : List Value} (h : GOwn T w B g cap vs) : GOwnV T w B (.slice (some ⟨g, 0, none⟩) vs.length cap) vs := h
theorem GOwnV.nil (T : TypeId) (w : World) (B : Nat) : GOwnV T w B (.slice none 0 0) [] := World.ownsRow_nil _ _ _ _
theorem GOwnV.alloc {T : TypeId} {w : World} {B : Nat} {v : Value} {vs : List Value} (h : GOwnV T w B v vs) (o : Obj) : GOwnV T (w.alloc o) B v vs := World.ownsRow.alloc h o
theorem GOwnV.drewN {T : TypeId} {w : World} {B : Nat} {v : Value} {vs : List Value} (h : GOwnV T w B v vs) (n : Nat) : GOwnV T (w.drewN n) B v vs := h
theorem GOwnV.shape {T : TypeId} {w : World} {B : Nat} {v : Value} {vs : List Value} (h : GOwnV T w B v vs) : (v = .slice none 0 0 ∧ vs = []) ∨ ∃ g cap, v = .slice (some ⟨g, 0, none⟩) vs.length cap ∧ GOwn T w B g cap vs := by
  rcases h.2 with ⟨h1, h2⟩ | ⟨g, cap, cur, h1, h2⟩
  · exact .inl ⟨h1, List.eq_nil_of_length_eq_zero h2⟩
  · subst h1
    exact .inr ⟨g, cap, rfl, h⟩
theorem GOwnV.below {T : TypeId} {w w' : World} {B : Nat} {v : Value} {vs : List Value} (h : GOwnV T w B v vs) (hb : Below w.heap.size w w') : GOwnV T w' B v vs := by
  rcases h.shape with ⟨rfl, rfl⟩ | ⟨g, cap, rfl, ho⟩
  · exact GOwnV.nil _ _ _
  · exact (ho.below hb).val
theorem GOwnV.slice {T : TypeId} {w : World} {B : Nat} {v : Value} {vs : List Value} (h : GOwnV T w B v vs) : ∃ p cap, v = .slice p vs.length cap ∧ GRow w p vs ∧ vs.length ≤ cap ∧ (p = none → cap = 0) := by
  rcases h.shape with ⟨rfl, rfl⟩ | ⟨g, cap, rfl, ho⟩
  · exact ⟨none, 0, rfl, GRow.nil _ _, Nat.le_refl _, fun _ => rfl⟩
  · exact ⟨_, cap, rfl, ho.row, ho.cap, fun h => by cases h⟩
theorem GOwnV.lowerV {T : TypeId} {w : World} {B B' : Nat} {v : Value} {vs : List Value} (h : GOwnV T w B v vs) (hB : B' ≤ B) : GOwnV T w B' v vs := by
  rcases h.shape with ⟨rfl, rfl⟩ | ⟨g, cap, rfl, ho⟩
  · exact GOwnV.nil _ _ _
  · exact (ho.lower (Nat.le_trans hB ho.base)).val

/-- what append asks of the slice's type t and its element's type T -/
def Elem (t T : TypeId) (by_ : Nat) : Prop := Try.prog.underlying t = some (.slice T) ∧ ∃ z, z.cells.size = 1 ∧ (Try.prog.info? T).map (fun i => (i.zero, i.size, i.bytes)) = some (some z, 1, by_)

/-- 'append(out, ..)' on such a slice -/
theorem gpush {ops : Array Oper} {rest : List Oper} {o : Oper} {a : Act} {Q : Exit → Act → World → Prop} {t T : TypeId} {by_ : Nat} (he : Elem t T by_) (w : World) (hgd : o.guard = none) (s x : Operand)
    (ho : o.op = .call { callee := .builtin .append, args := #[s, x], argTypes := #[t, t] }) (B : Nat) (v : Value) (vs : List Value) (hs : a.eval s = v) (hown : GOwnV T w B v vs)
    (ad : Addr) (m c : Nat) (ns : List Value) (hx : a.eval x = .slice (some ad) m c) (hl : ns.length = m) (hnews : ∀ j u, ns[j]? = some u → w.cell? (ad.add j) = some u) (h1 : ∀ u ∈ ns, u.oneCell' = true)
    (hlen : vs.length + m ≤ 140737488355328) (hby : (vs.length + m) * by_ ≤ 140737488355328) (hB : B ≤ w.heap.size)
    (h : ∀ v' w', GOwnV T w' B v' (vs ++ ns) → w.grownBy w' v.ownBlock → (∀ w0, Below B w0 w → Below B w0 w') → (v' = .slice none 0 0 ↔ v = .slice none 0 0 ∧ m = 0) → wpList Try.prog ops Q rest (a.put o.dst v') w') :
    wpList Try.prog ops Q (o :: rest) a w := by
  obtain ⟨hu, z, hzc, hinfo⟩ := he
  obtain ⟨i0, hi, hz0, hz1, hz2⟩ := info_parts hinfo
  refine wpList_append_own w hgd s x t ho B T i0 z 1 by_ hu hi hz0 hz1 hz2 hzc (by decide) v vs.length vs hs hown ad m c ns hx (by simp [hl]) hnews h1 (by unfold maxLen; omega) hby hB ?_
  intro v' w' h2 h3 h4
  refine h v' w' ?_ h3 (fun w0 hb => hb.grown h3 hB fun k hk => ?_) h4
  · unfold GOwnV
    rw [List.length_append, hl]
    exact h2
  · rcases hown.shape with ⟨rfl, _⟩ | ⟨g, cap, rfl, ho⟩
    · simp [Value.ownBlock] at hk
    · simp [Value.ownBlock] at hk
      subst hk
      exact ho.base

end Go.Proofs.Ytgblohjdiheemaa

/- What switchyardkit.SameTexts, SameInts (of the same elements), CopyTexts and CopyInts answer. -/
namespace Go.Proofs.Ytgblohjdiheemaa
open Go.RowKit

abbrev strs (ss : List ByteArray) : List Value := ss.map Value.string
abbrev nums (zs : List Int) : List Value := zs.map (Value.int .i64)

theorem strs_at (ss : List ByteArray) (k : Nat) (h : k < ss.length) : (strs ss)[k]? = some (.string ss[k]) := by simp [strs, h]
theorem nums_at (zs : List Int) (k : Nat) (h : k < zs.length) : (nums zs)[k]? = some (.int .i64 zs[k]) := by simp [nums, h]
theorem Try.elemS : Elem 26 9 16 := ⟨Try.underlying26, .string ByteArray.empty, rfl, by kernel_rfl⟩
theorem Try.elemI : Elem 22 3 8 := ⟨Try.underlying22, .int .i64 0, rfl, by kernel_rfl⟩


end Go.Proofs.Ytgblohjdiheemaa

/- Rows of elements of three cells (symbols, fixes, marks); what an object is made of, as lists. -/
namespace Go.Proofs.Ytgblohjdiheemaa
open Go.RowKit

abbrev V3 : Type := Value × Value × Value
def l3 (q : V3) : List Value := [q.1, q.2.1, q.2.2]
/-- the cells of a list of such elements -/
def c3 (L : List V3) : List Value := L.flatMap l3
theorem c3_len (L : List V3) : (c3 L).length = L.length * 3 := by
  induction L with
  | nil => rfl
  | cons q L ih =>
    unfold c3 at *
    rw [List.flatMap_cons, List.length_append, ih, List.length_cons]
    have : (l3 q).length = 3 := rfl
    omega
theorem c3_two (L M : List V3) : c3 (L ++ M) = c3 L ++ c3 M := by simp [c3]
theorem c3_at : ∀ (L : List V3) (i : Nat) (h : i < L.length) (j : Nat), j < 3 → (c3 L)[i * 3 + j]? = (l3 L[i])[j]?
  | [], i, h, _, _ => absurd h (by simp)
  | q :: L, 0, _, j, hj => by
    unfold c3
    rw [List.flatMap_cons, Nat.zero_mul, Nat.zero_add, List.getElem?_append_left (by show j < 3; exact hj)]
    rfl
  | q :: L, i + 1, h, j, hj => by
    have h' : i < L.length := by simpa using h
    have ih := c3_at L i h' j hj
    unfold c3 at *
    have h3 : (l3 q).length = 3 := rfl
    rw [List.flatMap_cons, List.getElem?_append_right (by rw [h3]; omega), h3, show (i + 1) * 3 + j - 3 = i * 3 + j by omega, ih]
    rfl
/-- a list that the call has made, nil or not -/
def TOwn (T : TypeId) (w : World) (B : Nat) (v : Value) (L : List V3) : Prop := w.ownsRow B T 3 v L.length (c3 L)
theorem TOwn.nil (T : TypeId) (w : World) (B : Nat) : TOwn T w B (.slice none 0 0) [] := World.ownsRow_nil _ _ _ _
theorem TOwn.below {T : TypeId} {w w' : World} {B : Nat} {v : Value} {L : List V3} (h : TOwn T w B v L) (hb : Below w.heap.size w w') : TOwn T w' B v L := by
  obtain ⟨h0, h1⟩ := h
  refine ⟨h0, h1.imp id ?_⟩
  rintro ⟨g, cap, cur, e1, e2, e3, e4⟩
  exact ⟨g, cap, cur, e1, e2, (hb.block g (Array.getElem?_eq_some_iff.1 e3).1).trans e3, e4⟩
theorem TOwn.alloc {T : TypeId} {w : World} {B : Nat} {v : Value} {L : List V3} (h : TOwn T w B v L) (o : Obj) : TOwn T (w.alloc o) B v L := h.below (new_alloc w o)
theorem TOwn.drewN {T : TypeId} {w : World} {B : Nat} {v : Value} {L : List V3} (h : TOwn T w B v L) (n : Nat) : TOwn T (w.drewN n) B v L := h
theorem TOwn.shape {T : TypeId} {w : World} {B : Nat} {v : Value} {L : List V3} (h : TOwn T w B v L) : ∃ p cap, v = .slice p L.length cap ∧ L.length ≤ cap ∧ cap ≤ maxLen ∧ (0 < L.length → ∃ g, p = some ⟨g, 0, none⟩ ∧ B ≤ g ∧ g < w.heap.size ∧ ∀ i (hi : i < L.length) j, j < 3 → w.cell? ⟨g, i * 3 + j, none⟩ = (l3 L[i])[j]?) := by
  rcases h.2 with ⟨e1, e2⟩ | ⟨g, cap, cur, e1, e2, e3, e4, e5, _⟩
  · exact ⟨none, 0, by rw [e1, e2], by omega, Nat.zero_le _, fun h0 => by omega⟩
  · refine ⟨_, cap, e1, e4, e5, fun _ => ⟨g, rfl, e2, (Array.getElem?_eq_some_iff.1 e3).1, fun i hi j hj => ?_⟩⟩
    have hr : w.ownsRow B T 3 v L.length (c3 L) := h
    rw [e1] at hr
    rw [hr.cellAt (i * 3 + j) (by omega), c3_at L i hi j hj]
def Elem3 (t T : TypeId) (by_ : Nat) : Prop := Try.prog.underlying t = some (.slice T) ∧ ∃ z, z.cells.size = 3 ∧ (Try.prog.info? T).map (fun i => (i.zero, i.size, i.bytes)) = some (some z, 3, by_)
theorem Try.elemSym : Elem3 90 92 32 := ⟨Try.underlying90, .agg #[.string ⟨#[]⟩, .int .i64 0, .bool false], rfl, by kernel_rfl⟩
theorem Try.elemFix : Elem3 94 119 32 := ⟨Try.underlying94, .agg #[.int .u8 0, .int .i64 0, .string ⟨#[]⟩], rfl, by kernel_rfl⟩
theorem Try.elemMark : Elem3 95 122 40 := ⟨Try.underlying95, .agg #[.int .i64 0, .string ⟨#[]⟩, .string ⟨#[]⟩], rfl, by kernel_rfl⟩
def one3 (q : V3) : Prop := q.1.oneCell' = true ∧ q.2.1.oneCell' = true ∧ q.2.2.oneCell' = true
theorem one3_mem {q : V3} (h : one3 q) : ∀ u ∈ l3 q, u.oneCell' = true := by
  intro u hu
  simp only [l3, List.mem_cons, List.not_mem_nil, or_false] at hu
  rcases hu with rfl | rfl | rfl
  · exact h.1
  · exact h.2.1
  · exact h.2.2
theorem news3 (w : World) (q : V3) (T : TypeId) : ∀ j u, (l3 q)[j]? = some u → (w.alloc (.cells #[q.1, q.2.1, q.2.2] T)).cell? ((⟨w.heap.size, 0, none⟩ : Addr).add j) = some u := by
  intro j u hj
  rw [Go.WideShapes.add_plain]
  match j, hj with
  | 0, hj => simpa [l3] using hj
  | 1, hj => simpa [l3] using hj
  | 2, hj => simpa [l3] using hj
  | j + 3, hj => simp [l3] at hj

/-- 'append(l, x)' -/
theorem tpush {ops : Array Oper} {rest : List Oper} {o : Oper} {a : Act} {Q : Exit → Act → World → Prop} {t T : TypeId} {by_ : Nat} (he : Elem3 t T by_) (w : World) (hgd : o.guard = none) (s x : Operand)
    (ho : o.op = .call { callee := .builtin .append, args := #[s, x], argTypes := #[t, t] }) (B : Nat) (v : Value) (L : List V3) (hs : a.eval s = v) (hown : TOwn T w B v L)
    (ad : Addr) (c : Nat) (q : V3) (hq : one3 q) (hx : a.eval x = .slice (some ad) 1 c) (hnews : ∀ j u, (l3 q)[j]? = some u → w.cell? (ad.add j) = some u)
    (hlen : L.length ≤ 1048576) (hby : by_ ≤ 100) (hB : B ≤ w.heap.size)
    (h : ∀ v' w', TOwn T w' B v' (L ++ [q]) → w.grownBy w' v.ownBlock → (∀ w0, Below B w0 w → Below B w0 w') → wpList Try.prog ops Q rest (a.put o.dst v') w') :
    wpList Try.prog ops Q (o :: rest) a w := by
  obtain ⟨hu, z, hzc, hinfo⟩ := he
  obtain ⟨i0, hi, hz0, hz1, hz2⟩ := info_parts hinfo
  refine wpList_append_own w hgd s x t ho B T i0 z 3 by_ hu hi hz0 hz1 hz2 hzc (by decide) v L.length (c3 L) hs hown ad 1 c (l3 q) hx rfl hnews (one3_mem hq) (by unfold maxLen; omega) (Nat.le_trans (Nat.mul_le_mul (show L.length + 1 ≤ 1048577 by omega) hby) (by decide)) hB ?_
  intro v' w' h2 h3 _
  refine h v' w' ?_ h3 (fun w0 hb => hb.grown h3 hB fun k hk => (World.ownsRow.lt hown k hk).1)
  unfold TOwn
  rw [List.length_append, c3_two]
  have e : c3 [q] = l3 q := by simp [c3]
  rw [e]
  exact h2
/-- .. in a region that draws -/
theorem step_tpush {ops : Array Oper} {o : Oper} {a : Act} {K : Act → World → Prop} {Q : Exit → Act → World → Prop} {E : Prop} {t T : TypeId} {by_ : Nat} (he : Elem3 t T by_) (w : World) (hgd : o.guard = none) (s x : Operand)
    (ho : o.op = .call { callee := .builtin .append, args := #[s, x], argTypes := #[t, t] }) (B : Nat) (v : Value) (L : List V3) (hs : a.eval s = v) (hown : TOwn T w B v L)
    (ad : Addr) (c : Nat) (q : V3) (hq : one3 q) (hx : a.eval x = .slice (some ad) 1 c) (hnews : ∀ j u, (l3 q)[j]? = some u → w.cell? (ad.add j) = some u)
    (hlen : L.length ≤ 1048576) (hby : by_ ≤ 100) (hB : B ≤ w.heap.size)
    (h : ∀ g cap w', TOwn T w' B (.slice (some ⟨g, 0, none⟩) (L.length + 1) cap) (L ++ [q]) → w.grownBy w' v.ownBlock → (∀ w0, Below B w0 w → Below B w0 w') → K (a.put o.dst (.slice (some ⟨g, 0, none⟩) (L.length + 1) cap)) w') :
    if Region.wanted o (yielded ops a.tmps) = true then Oper.wp Try.prog o a w K Q else E := by
  obtain ⟨hu, z, hzc, hinfo⟩ := he
  obtain ⟨i0, hi, hz0, hz1, hz2⟩ := info_parts hinfo
  refine step_append_lies w hgd s x t ho B T i0 z 3 by_ hu hi hz0 hz1 hz2 hzc (by decide) v L.length (c3 L) hs hown ad 1 c (l3 q) hx rfl hnews (one3_mem hq) (by decide) (by unfold maxLen; omega) (Nat.le_trans (Nat.mul_le_mul (show L.length + 1 ≤ 1048577 by omega) hby) (by decide)) hB w.heap.size rfl ?_
  intro g cap w' h2 h3 _ _
  refine h g cap w' ?_ h3 (fun w0 hb => hb.grown h3 hB fun k hk => (World.ownsRow.lt hown k hk).1)
  unfold TOwn
  rw [List.length_append, c3_two]
  have e : c3 [q] = l3 q := by simp [c3]
  rw [e]
  exact h2

end Go.Proofs.Ytgblohjdiheemaa

/- A map from names to numbers that a call makes. -/
namespace Go.Proofs.Ytgblohjdiheemaa
open Go.RowKit Go.Maps Go.WideMaps

def key (s : ByteArray) : Lit := .string s.data.toList
theorem key_inj {s t : ByteArray} (h : key s = key t) : s = t := by
  unfold key at h
  injection h with h
  exact ByteArray.ext (Array.toList_inj.1 h)
theorem key_is (s : ByteArray) : WideAt.IsKeyLit (key s) := by simp [key, WideAt.IsKeyLit]
theorem law9 : Keyed Try.prog 9 := string_keyed Try.underlying9
theorem zero3 (w : World) : (zeroValue 3).run Try.prog w = .ok (.int .i64 0) w := by kernel_rfl
/-- whether a name is among others -/
def inB (s : ByteArray) (ns : List ByteArray) : Bool := ns.any fun t => decide (t = s)
theorem inB_iff (s : ByteArray) (ns : List ByteArray) : inB s ns = true ↔ s ∈ ns := by
  unfold inB
  rw [List.any_eq_true]
  constructor
  · rintro ⟨t, ht, e⟩
    rw [← of_decide_eq_true e]; exact ht
  · exact fun h => ⟨s, h, by simp⟩
/-- names and their numbers, as read -/
def NamD (D : DataW Unit) (ns : List ByteArray) : Prop := ∀ s, has D (key s) = inB s ns ∧ ∀ i (h : i < ns.length), ns[i] = s → D.atKey (key s) (.lit (.int .i64 0)) = .lit (.int .i64 i)
/-- a map's block holds them -/
def NamAt (w : World) (b : Nat) (ns : List ByteArray) : Prop := ∃ D : DataW Unit, w.ownsMap Try.prog 9 (plainElem Try.prog 3) b ns.length D ∧ NamD D ns
theorem NamD.nil : NamD (.map []) [] := fun s => ⟨by simp [has_eq, inB], fun i h => absurd h (by simp)⟩
theorem NamAt.made (w : World) : NamAt (w.alloc (.map #[] 0)) w.heap.size [] := ⟨_, World.ownsMap_made _ _ _ _, NamD.nil⟩
theorem NamD.add {D : DataW Unit} {ns : List ByteArray} (h : NamD D ns) (hD : IsMap D) {s : ByteArray} (hs : s ∉ ns) : NamD (D.put (key s) (.lit (.int .i64 ns.length))) (ns ++ [s]) := fun t => by
  by_cases e : t = s
  · subst e
    refine ⟨?_, fun i hi hn => ?_⟩
    · rw [has_put_same hD (key_is _)]; simp [inB]
    · rw [atKey_put_same hD (key_is _)]
      have : i = ns.length := by
        by_cases hl : i < ns.length
        · rw [List.getElem_append_left hl] at hn
          exact absurd (hn ▸ List.getElem_mem hl) hs
        · simp at hi; omega
      rw [this]
  · have hne : key t ≠ key s := fun e' => e (key_inj e')
    refine ⟨?_, fun i hi hn => ?_⟩
    · rw [has_put_other hne, (h t).1]
      simp [inB, Ne.symm e]
    · rw [atKey_put_other hne]
      have hl : i < ns.length := by
        by_cases hl : i < ns.length
        · exact hl
        · rw [List.getElem_append_right (by omega)] at hn
          simp at hn
          exact absurd hn.symm e
      rw [List.getElem_append_left hl] at hn
      exact (h t).2 i hl hn
theorem NamAt.below {w w' : World} {b : Nat} {ns : List ByteArray} (h : NamAt w b ns) (hb : Below w.heap.size w w') : NamAt w' b ns := by
  obtain ⟨D, h1, h2⟩ := h
  obtain ⟨es, clock, e1, e2⟩ := h1
  exact ⟨D, ⟨es, clock, (hb.block b (Array.getElem?_eq_some_iff.1 e1).1).trans e1, e2⟩, h2⟩
theorem NamAt.kept {w w' : World} {row : Option Nat} {b : Nat} {ns : List ByteArray} (h : NamAt w b ns) (hg : w.grownBy w' row) (hne : some b ≠ row) : NamAt w' b ns := by
  obtain ⟨D, h1, h2⟩ := h
  exact ⟨D, h1.kept hg hne, h2⟩
theorem NamAt.lt {w : World} {b : Nat} {ns : List ByteArray} (h : NamAt w b ns) : b < w.heap.size := by
  obtain ⟨D, h1, _⟩ := h
  exact h1.lt
/-- 'n, ok := m[s]' -/
theorem nam_look {ops : Array Oper} {rest : List Oper} {o : Oper} {a : Act} {Q : Exit → Act → World → Prop} (w : World) (hg : o.guard = none) (m x : Operand) (hop : o.op = Op.lookup 115 m x true) (b : Nat) (ns : List ByteArray)
    (hm : a.eval m = .map (some b)) (hown : NamAt w b ns) (s : ByteArray) (hx : a.eval x = .string s) (hs : s.size ≤ maxLen)
    (h : ∀ c : Int, (∀ i (hi : i < ns.length), ns[i] = s → c = i) → wpList Try.prog ops Q rest (a.put o.dst (.tuple #[.int .i64 c, .bool (inB s ns)])) w) :
    wpList Try.prog ops Q (o :: rest) a w := by
  obtain ⟨D, h1, h2⟩ := hown
  refine wpList_lookup_own_ok_int w hg m x 115 hop 9 3 .i64 law9 Try.underlying115 Try.underlying3 (zero3 w) b ns.length D hm h1 (.string s) (key s) hx (keyOf_string_mk Try.underlying9 hs) fun c hat _ => ?_
  have := h c fun i hi hn => by
    have e := (h2 s).2 i hi hn
    rw [hat] at e
    injection e with e
    injection e
  rw [← (h2 s).1] at this
  exact this
/-- 'm[s] = len' -/
theorem nam_put {ops : Array Oper} {rest : List Oper} {o : Oper} {a : Act} {Q : Exit → Act → World → Prop} (w : World) (hg : o.guard = none) (m x v : Operand) (hop : o.op = Op.mapUpdate 115 m x v) (b : Nat) (ns : List ByteArray)
    (hm : a.eval m = .map (some b)) (hown : NamAt w b ns) (s : ByteArray) (hx : a.eval x = .string s) (hv : a.eval v = .int .i64 ns.length) (hs : s.size ≤ maxLen) (hn : s ∉ ns) (hl : ns.length ≤ 1048576)
    (h : ∀ w', NamAt w' b (ns ++ [s]) → w.grownBy w' (some b) → wpList Try.prog ops Q rest (a.put o.dst undef) w') :
    wpList Try.prog ops Q (o :: rest) a w := by
  obtain ⟨D, h1, h2⟩ := hown
  refine wpList_mapUpdate_own w hg m x v 115 hop 9 3 law9 Try.underlying115 _ b ns.length D hm h1 (by unfold maxLen; omega) _ _ (key s) hx hv (keyOf_string_mk Try.underlying9 hs) (.lit (.int .i64 ns.length)) [] (plainElem_int Try.underlying3 (WalkArith.wf_i64 (by omega))) fun w' h3 h4 => h w' ⟨_, ?_, h2.add h1.isMap hn⟩ h4
  rw [List.length_append]
  exact h3

end Go.Proofs.Ytgblohjdiheemaa

/- Small words. -/
namespace Go.Proofs.Ytgblohjdiheemaa
open Go.RowKit
theorem size_one (w : World) (o : Obj) : (w.alloc o).heap.size = w.heap.size + 1 := by simp
theorem Hid.in {p : Prop} (h : p) : Hid p := h
end Go.Proofs.Ytgblohjdiheemaa
