/- Texts put together: Nums, Own, Kp, Table, Shp, Same, Met. -/
import Derived.WalkKit
import Derived.WalkSpells
import Derived.WalkLawsBesides
import Derived.Laws.BitsAllLaws
import Derived.Test.YtgblohjdiheemaaGreatProg
import Derived.Laws.CopyOwn
import Derived.Deep.WholeRow
import Derived.Laws.BytesArg
import Derived.Laws.ResultCell
import Derived.Deep.QuietTactic
import Derived.BigQuiet
import Derived.Lib.Strings

/- Plain facts on numbers and lists of bytes: what four bytes say, and back. -/
namespace Go.Proofs.YtgblohjdiheemaaGreat
open Go.RowKit

theorem or_join (i : Nat) (a b : Int) (h0 : 0 ≤ a) (ha : a < 2 ^ i) (hb0 : 0 ≤ b) (hb : b * 2 ^ i < 4294967296) (hi : (2 : Int) ^ i ≤ 4294967296) :
    bits .or .u32 a (b * 2 ^ i) = a + b * 2 ^ i := by
  have hp : (0 : Int) ≤ 2 ^ i := by
    have : ((2 ^ i : Nat) : Int) = 2 ^ i := by simp
    omega
  have hm : 0 ≤ b * 2 ^ i := Int.mul_nonneg hb0 hp
  rw [u32_or a (b * 2 ^ i) h0 (by omega) hm hb]
  obtain ⟨x, rfl⟩ := Int.eq_ofNat_of_zero_le h0
  obtain ⟨y, rfl⟩ := Int.eq_ofNat_of_zero_le hb0
  have e : ((y : Int) * 2 ^ i).toNat = y * 2 ^ i := by
    have : ((y : Int) * 2 ^ i) = ((y * 2 ^ i : Nat) : Int) := by simp
    rw [this, Int.toNat_natCast]
  rw [e, Int.toNat_natCast, Nat.or_comm, nat_join i (y * 2 ^ i) x (Nat.mul_mod_left _ _) (by
    have : ((x : Nat) : Int) < ((2 ^ i : Nat) : Int) := by simpa using ha
    omega)]
  simp
  omega

def num2 (z0 z1 : Int) : Int := z0 + 256 * z1
def num4 (z0 z1 z2 z3 : Int) : Int := z0 + 256 * z1 + 65536 * z2 + 16777216 * z3

theorem or4 (z0 z1 z2 z3 : Int) (r0 : 0 ≤ z0 ∧ z0 ≤ 255) (r1 : 0 ≤ z1 ∧ z1 ≤ 255) (r2 : 0 ≤ z2 ∧ z2 ≤ 255) (r3 : 0 ≤ z3 ∧ z3 ≤ 255) :
    bits .or .u32 (bits .or .u32 (bits .or .u32 (bits .or .u32 0 z0) (z1 * 256)) (z2 * 65536)) (z3 * 16777216) = num4 z0 z1 z2 z3 := by
  have e0 := or_join 0 0 z0 (by omega) (by decide) r0.1 (by omega) (by decide)
  have e1 := or_join 8 z0 z1 r0.1 (by omega) r1.1 (by omega) (by decide)
  have e2 := or_join 16 (z0 + z1 * 256) z2 (by omega) (by omega) r2.1 (by omega) (by decide)
  have e3 := or_join 24 (z0 + z1 * 256 + z2 * 65536) z3 (by omega) (by omega) r3.1 (by omega) (by decide)
  simp only [Int.reducePow, Int.mul_one, Int.zero_add] at e0 e1 e2 e3
  rw [e0, e1, e2, e3]
  unfold num4
  omega

theorem or2 (z0 z1 : Int) (r0 : 0 ≤ z0 ∧ z0 ≤ 255) (r1 : 0 ≤ z1 ∧ z1 ≤ 255) :
    bits .or .u32 (bits .or .u32 0 z0) (z1 * 256) = num2 z0 z1 := by
  have e0 := or_join 0 0 z0 (by omega) (by decide) r0.1 (by omega) (by decide)
  have e1 := or_join 8 z0 z1 r0.1 (by omega) r1.1 (by omega) (by decide)
  simp only [Int.reducePow, Int.mul_one, Int.zero_add] at e0 e1
  rw [e0, e1]
  unfold num2
  omega

theorem num4_bd {z0 z1 z2 z3 : Int} (r0 : 0 ≤ z0 ∧ z0 ≤ 255) (r1 : 0 ≤ z1 ∧ z1 ≤ 255) (r2 : 0 ≤ z2 ∧ z2 ≤ 255) (r3 : 0 ≤ z3 ∧ z3 ≤ 255) :
    0 ≤ num4 z0 z1 z2 z3 ∧ num4 z0 z1 z2 z3 ≤ 4294967295 := by unfold num4; omega
theorem num2_bd {z0 z1 : Int} (r0 : 0 ≤ z0 ∧ z0 ≤ 255) (r1 : 0 ≤ z1 ∧ z1 ≤ 255) :
    0 ≤ num2 z0 z1 ∧ num2 z0 z1 ≤ 65535 := by unfold num2; omega

/-- each number a byte's (behind the end: nought) -/
def Byt (xs : List Int) : Prop := ∀ i, 0 ≤ xs.getD i 0 ∧ xs.getD i 0 ≤ 255

/-- how a slice of bytes lies: where there is a byte, at an address, with its cells -/
def Row (w : World) (p : Option Addr) (xs : List Int) : Prop :=
  0 < xs.length → ∃ b o, p = some ⟨b, o, none⟩ ∧ ∀ i, i < xs.length → w.cell? ⟨b, o + i, none⟩ = some (.int .u8 (xs.getD i 0))

def n4 (xs : List Int) (a : Nat) : Int := num4 (xs.getD a 0) (xs.getD (a + 1) 0) (xs.getD (a + 2) 0) (xs.getD (a + 3) 0)
def n2 (xs : List Int) (a : Nat) : Int := num2 (xs.getD a 0) (xs.getD (a + 1) 0)
theorem n4_bd {xs : List Int} (h : Byt xs) (a : Nat) : 0 ≤ n4 xs a ∧ n4 xs a ≤ 4294967295 := num4_bd (h _) (h _) (h _) (h _)
theorem n2_bd {xs : List Int} (h : Byt xs) (a : Nat) : 0 ≤ n2 xs a ∧ n2 xs a ≤ 65535 := num2_bd (h _) (h _)

end Go.Proofs.YtgblohjdiheemaaGreat

/- Slices of bytes that a call has made: what they hold, what a store does to them, that they stay. -/
namespace Go.Proofs.YtgblohjdiheemaaGreat
open Go.RowKit

theorem Tryz.info5 : (Tryz.prog.info? 5).map (fun i => (i.zero, i.size, i.bytes)) = some (some (.int .u8 0), 1, 1) := by kernel_rfl
theorem Tryz.size5 : (Tryz.prog.info? 5).map (·.size) = some 1 := by kernel_rfl

abbrev byts (xs : List Int) : List Value := xs.map (Value.int .u8)

/-- a slice of bytes in a block of its own (its number B or above), with room for cap -/
def Own (w : World) (B g cap : Nat) (xs : List Int) : Prop := w.ownsRow B 5 1 (.slice (some ⟨g, 0, none⟩) xs.length cap) xs.length (byts xs)

theorem Own.parts {w : World} {B g cap : Nat} {xs : List Int} (h : Own w B g cap xs) :
    ∃ cur, B ≤ g ∧ w.heap[g]? = some (.cells cur 5 (0, 0)) ∧ xs.length ≤ cap ∧ cap ≤ maxLen ∧ cur.size = cap ∧ cur.toList.take xs.length = byts xs := by
  rcases h.2 with ⟨h', _⟩ | ⟨g', cap', cur, h', h1, h2, h3, h4, h5, h6⟩
  · simp at h'
  · simp only [Value.slice.injEq, Option.some.injEq, Addr.mk.injEq, and_true, true_and] at h'
    obtain ⟨rfl, rfl⟩ := h'
    exact ⟨cur, h1, h2, h3, h4, by simpa using h5, by simpa using h6⟩

theorem Own.mk {w : World} {B g cap : Nat} {xs : List Int} {cur : Array Value} (h1 : B ≤ g) (h2 : w.heap[g]? = some (.cells cur 5 (0, 0))) (h3 : xs.length ≤ cap) (h4 : cap ≤ maxLen) (h5 : cur.size = cap) (h6 : cur.toList.take xs.length = byts xs) : Own w B g cap xs :=
  ⟨by simp, .inr ⟨g, cap, cur, rfl, h1, h2, h3, h4, by simpa using h5, by simpa using h6⟩⟩

theorem Own.lt {w : World} {B g cap : Nat} {xs : List Int} (h : Own w B g cap xs) : g < w.heap.size := by
  obtain ⟨cur, _, h2, _⟩ := h.parts
  rcases Nat.lt_or_ge g w.heap.size with h | h
  · exact h
  · rw [Array.getElem?_eq_none h] at h2; cases h2
theorem Own.base {w : World} {B g cap : Nat} {xs : List Int} (h : Own w B g cap xs) : B ≤ g := by obtain ⟨cur, h1, _⟩ := h.parts; exact h1
theorem Own.cap {w : World} {B g cap : Nat} {xs : List Int} (h : Own w B g cap xs) : xs.length ≤ cap := by obtain ⟨cur, _, _, h1, _⟩ := h.parts; exact h1
theorem Own.lower {w : World} {B B' g cap : Nat} {xs : List Int} (h : Own w B g cap xs) (hB : B' ≤ B) : Own w B' g cap xs := by
  obtain ⟨cur, h1, h2, h3, h4, h5, h6⟩ := h.parts
  exact Own.mk (by omega) h2 h3 h4 h5 h6
theorem Own.raise {w : World} {B B' g cap : Nat} {xs : List Int} (h : Own w B g cap xs) (hB : B' ≤ g) : Own w B' g cap xs := by
  obtain ⟨cur, h1, h2, h3, h4, h5, h6⟩ := h.parts
  exact Own.mk hB h2 h3 h4 h5 h6
theorem Own.below {w w' : World} {B g cap : Nat} {xs : List Int} (h : Own w B g cap xs) (hb : Below w.heap.size w w') : Own w' B g cap xs := by
  obtain ⟨cur, h1, h2, h3, h4, h5, h6⟩ := h.parts
  exact Own.mk h1 (by rw [hb.block g h.lt]; exact h2) h3 h4 h5 h6

theorem getD_byts (xs : List Int) (i : Nat) (h : i < xs.length) : (byts xs)[i]? = some (.int .u8 (xs.getD i 0)) := by
  simp [byts, List.getElem?_eq_getElem h, List.getD]

theorem Own.cell {w : World} {B g cap : Nat} {xs : List Int} (h : Own w B g cap xs) (i : Nat) (hi : i < xs.length) : w.cell? ⟨g, i, none⟩ = some (.int .u8 (xs.getD i 0)) := by
  have := World.ownsRow.cellAt h i (by omega)
  rw [this, getD_byts xs i hi]
theorem Own.free {w : World} {B g cap : Nat} {xs : List Int} (h : Own w B g cap xs) (i : Nat) : w.frozen? ⟨g, i, none⟩ = false := World.ownsRow.frozenAt h i
theorem Own.store {w : World} {B g cap : Nat} {xs : List Int} (h : Own w B g cap xs) (i : Nat) (x : Int) : Own (w.setCell ⟨g, i, none⟩ (.int .u8 x)) B g cap (xs.set i x) := by
  have := (World.ownsRow.stored h i (.int .u8 x)).1
  unfold Own
  simpa [byts, List.map_set] using this
theorem Own.row {w : World} {B g cap : Nat} {xs : List Int} (h : Own w B g cap xs) : Row w (some ⟨g, 0, none⟩) xs :=
  fun _ => ⟨g, 0, rfl, fun i hi => by simpa using h.cell i hi⟩

theorem cell_lt {w : World} {b o : Nat} {v : Value} (h : w.cell? ⟨b, o, none⟩ = some v) : b < w.heap.size := by
  rcases Nat.lt_or_ge b w.heap.size with h' | h'
  · exact h'
  · simp [World.cell?, Array.getElem?_eq_none h'] at h

theorem Row.below {w w' : World} {p : Option Addr} {xs : List Int} (h : Row w p xs) (hb : Below w.heap.size w w') : Row w' p xs := fun h0 => by
  obtain ⟨b, o, rfl, hc⟩ := h h0
  exact ⟨b, o, rfl, fun i hi => by rw [hb.cell (p := ⟨b, o + i, none⟩) (cell_lt (hc i hi))]; exact hc i hi⟩

theorem below_step {w w1 w2 : World} (h : Below w.heap.size w w1) (k : Below w1.heap.size w1 w2) : Below w.heap.size w w2 := h.trans (k.mono h.size)
theorem below_alloc {w w1 : World} (h : Below w.heap.size w w1) (o : Obj) : Below w.heap.size w (w1.alloc o) := h.alloc h.size o
theorem below_draws {w w1 : World} (h : Below w.heap.size w w1) (n : Nat) : Below w.heap.size w (w1.drewN n) := below_drewN h n
theorem below_self (w : World) : Below w.heap.size w w := Below.refl _ _
theorem new_alloc (w : World) (o : Obj) : Below w.heap.size w (w.alloc o) := (Below.refl _ _).alloc (Nat.le_refl _) _

theorem Row.drewN {w : World} {p : Option Addr} {xs : List Int} (h : Row w p xs) (n : Nat) : Row (w.drewN n) p xs := h
theorem Own.drewN {w : World} {B g cap : Nat} {xs : List Int} (h : Own w B g cap xs) (n : Nat) : Own (w.drewN n) B g cap xs := h

end Go.Proofs.YtgblohjdiheemaaGreat

/- Worlds in which all but some blocks are as they were. -/
namespace Go.Proofs.YtgblohjdiheemaaGreat
open Go.RowKit

/-- all old blocks but those of G are as they were -/
structure Keeps (G : Nat → Prop) (w w' : World) : Prop where
  os : w'.os = w.os
  tape : w'.tape = w.tape
  output : w'.output = w.output
  size : w.heap.size ≤ w'.heap.size
  block : ∀ j, j < w.heap.size → ¬ G j → w'.heap[j]? = w.heap[j]?

theorem Keeps.refl (G : Nat → Prop) (w : World) : Keeps G w w := ⟨rfl, rfl, rfl, Nat.le_refl _, fun _ _ _ => rfl⟩
theorem Keeps.drewN {G : Nat → Prop} {a w : World} (h : Keeps G a w) (n : Nat) : Keeps G a (w.drewN n) := ⟨h.os, h.tape, h.output, h.size, h.block⟩
theorem Keeps.drew {G : Nat → Prop} {a w : World} (h : Keeps G a w) : Keeps G a w.drew := ⟨h.os, h.tape, h.output, h.size, h.block⟩
theorem Keeps.grown {G : Nat → Prop} {a w w' : World} {row : Option Nat} (h : Keeps G a w) (hg : w.grownBy w' row) (hr : ∀ k, row = some k → G k ∨ a.heap.size ≤ k) : Keeps G a w' :=
  ⟨hg.os.trans h.os, hg.tape.trans h.tape, hg.output.trans h.output, Nat.le_trans h.size hg.size, fun j hj hn => by
    rw [hg.block j (Nat.lt_of_lt_of_le hj h.size) (fun e => by
      rcases hr j e.symm with h1 | h1
      · exact hn h1
      · omega), h.block j hj hn]⟩
theorem Keeps.alloc {G : Nat → Prop} {a w : World} (h : Keeps G a w) (o : Obj) : Keeps G a (w.alloc o) := h.grown (World.grownBy_alloc w o none) (fun _ e => by cases e)
theorem Keeps.setCell {G : Nat → Prop} {a w : World} (h : Keeps G a w) (b i : Nat) (v : Value) (hb : G b ∨ a.heap.size ≤ b) : Keeps G a (w.setCell ⟨b, i, none⟩ v) :=
  ⟨h.os, h.tape, h.output, by rw [World.size_setCell]; exact h.size, fun j hj hn => by
    rw [heap_setCell_other w ⟨b, i, none⟩ j v (fun e => by
      simp only at e
      subst e
      rcases hb with h1 | h1
      · exact hn h1
      · omega), h.block j hj hn]⟩
theorem Keeps.below {G : Nat → Prop} {B : Nat} {w w' : World} (h : Keeps G w w') (hB : B ≤ w.heap.size) (hG : ∀ j, G j → B ≤ j) : Below B w w' :=
  ⟨h.os, h.tape, h.output, h.size, fun k hk => h.block k (by omega) fun hg => by have := hG k hg; omega⟩
theorem Keeps.ofBelow {G : Nat → Prop} {w w' : World} (h : Below w.heap.size w w') : Keeps G w w' := ⟨h.os, h.tape, h.output, h.size, fun k hk _ => h.block k hk⟩
theorem Keeps.trans' {G : Nat → Prop} {a b c : World} (h : Keeps G a b) (k : Keeps G b c) : Keeps G a c :=
  ⟨k.os.trans h.os, k.tape.trans h.tape, k.output.trans h.output, Nat.le_trans h.size k.size, fun j hj hG => (k.block j (Nat.lt_of_lt_of_le hj h.size) hG).trans (h.block j hj hG)⟩
theorem Keeps.thenB {G : Nat → Prop} {a w w' : World} (h : Keeps G a w) (hb : Below w.heap.size w w') : Keeps G a w' := h.trans' (Keeps.ofBelow hb)
theorem Keeps.wider {G G' : Nat → Prop} {w w' : World} (h : Keeps G w w') (hG : ∀ j, G j → G' j) : Keeps G' w w' := ⟨h.os, h.tape, h.output, h.size, fun j hj hn => h.block j hj (fun e => hn (hG j e))⟩
theorem keeps_grown {w w' : World} {g : Nat} (h : w.grownBy w' (some g)) : Keeps (fun j => j = g) w w' :=
  (Keeps.refl _ w).grown h fun k e => by injection e with e; exact .inl e.symm
theorem keeps_set {G : Nat → Prop} (w : World) (h i : Nat) (v : Value) (hg : G h) : Keeps G w (w.setCell ⟨h, i, none⟩ v) := (Keeps.refl G w).setCell h i v (.inl hg)
end Go.Proofs.YtgblohjdiheemaaGreat

/- The table of shapes (isa.shapes): what it holds at each op, and that the call answers it. -/
namespace Go.Proofs.YtgblohjdiheemaaGreat
open Go.RowKit

/-- an op's name -/
def nm : Nat → ByteArray
  | 1 => ⟨#[104, 97, 108, 116]⟩
  | 2 => ⟨#[110, 111, 112]⟩
  | 3 => ⟨#[110, 111, 112, 53]⟩
  | 4 => ⟨#[98, 114, 107]⟩
  | 5 => ⟨#[109, 111, 118, 105]⟩
  | 6 => ⟨#[109, 111, 118]⟩
  | 7 => ⟨#[97, 100, 100]⟩
  | 8 => ⟨#[115, 117, 98]⟩
  | 9 => ⟨#[98, 122]⟩
  | 10 => ⟨#[98, 110, 122]⟩
  | 11 => ⟨#[106, 109, 112]⟩
  | 12 => ⟨#[99, 97, 108, 108]⟩
  | 13 => ⟨#[114, 101, 116]⟩
  | 14 => ⟨#[108, 111, 97, 100]⟩
  | 15 => ⟨#[115, 116, 111, 114, 101]⟩
  | 16 => ⟨#[111, 117, 116]⟩
  | _ => ⟨#[]⟩
/-- an op's bytes that are always the same -/
def cdL : Nat → List Int
  | 1 => [0]
  | 2 => [144]
  | 3 => [15, 31, 68, 0, 0]
  | 4 => [204]
  | 5 => [184]
  | 6 => [137]
  | 7 => [1]
  | 8 => [41]
  | 9 => [116]
  | 10 => [117]
  | 11 => [233]
  | 12 => [232]
  | 13 => [195]
  | 14 => [139]
  | 15 => [136]
  | 16 => [230]
  | _ => []
def cd : Nat → ByteArray
  | 1 => ⟨#[0]⟩
  | 2 => ⟨#[144]⟩
  | 3 => ⟨#[15, 31, 68, 0, 0]⟩
  | 4 => ⟨#[204]⟩
  | 5 => ⟨#[184]⟩
  | 6 => ⟨#[137]⟩
  | 7 => ⟨#[1]⟩
  | 8 => ⟨#[41]⟩
  | 9 => ⟨#[116]⟩
  | 10 => ⟨#[117]⟩
  | 11 => ⟨#[233]⟩
  | 12 => ⟨#[232]⟩
  | 13 => ⟨#[195]⟩
  | 14 => ⟨#[139]⟩
  | 15 => ⟨#[136]⟩
  | 16 => ⟨#[230]⟩
  | _ => ⟨#[]⟩
/-- how many registers -/
def rg : Nat → Nat
  | 5 => 1
  | 6 => 2
  | 7 => 2
  | 8 => 2
  | 9 => 1
  | 10 => 1
  | 14 => 1
  | 15 => 1
  | 16 => 1
  | _ => 0
/-- 0: no number, 1: any, 2: an address -/
def kd : Nat → Int
  | 5 => 1
  | 9 => 1
  | 10 => 1
  | 11 => 1
  | 12 => 1
  | 14 => 2
  | 15 => 2
  | _ => 0
/-- an op's first byte -/
def fb (o : Nat) : Int := (cdL o).getD 0 0

def shpV (o : Nat) : Array Value := #[.string (nm o), .string (cd o), .int .i64 (rg o), .int .u8 (kd o)]
def tab : Array Value := ((List.range 17).flatMap fun o => (shpV o).toList).toArray

theorem tab_size : tab.size = 68 := by kernel_rfl
theorem tab_one : tab.all (·.oneCell') = true := by kernel_rfl

theorem lt17 {P : Nat → Prop} (h : ∀ k : Fin 17, P k) : ∀ o, o < 17 → P o := fun o ho => h ⟨o, ho⟩

theorem Tryz.zero151 : (Tryz.prog.info? 151).map (fun i => (i.zero, i.size)) = some (some (.agg (((List.range 17).flatMap fun _ => (shpV 0).toList).toArray)), 68) := by kernel_rfl
theorem Tryz.size151 : (Tryz.prog.info? 151).map (·.size) = some 68 := by kernel_rfl
theorem build50 (w : World) : (Instr.build 151 #[(1, .agg (shpV 1)), (2, .agg (shpV 2)), (3, .agg (shpV 3)), (4, .agg (shpV 4)), (5, .agg (shpV 5)), (6, .agg (shpV 6)), (7, .agg (shpV 7)), (8, .agg (shpV 8)), (9, .agg (shpV 9)), (10, .agg (shpV 10)), (11, .agg (shpV 11)), (12, .agg (shpV 12)), (13, .agg (shpV 13)), (14, .agg (shpV 14)), (15, .agg (shpV 15)), (16, .agg (shpV 16))]).run Tryz.prog w = .ok (.agg tab) w := by kernel_rfl

theorem idx_any : ∀ o : Nat, o < 17 → ∀ w, (Instr.index 151 (.agg tab) (.int .u8 o)).run Tryz.prog w = .ok (.agg #[.string (nm o), .string (cd o), .int .i64 (rg o), .int .u8 (kd o)]) w
  | 0, _ => fun _ => by kernel_rfl
  | 1, _ => fun _ => by kernel_rfl
  | 2, _ => fun _ => by kernel_rfl
  | 3, _ => fun _ => by kernel_rfl
  | 4, _ => fun _ => by kernel_rfl
  | 5, _ => fun _ => by kernel_rfl
  | 6, _ => fun _ => by kernel_rfl
  | 7, _ => fun _ => by kernel_rfl
  | 8, _ => fun _ => by kernel_rfl
  | 9, _ => fun _ => by kernel_rfl
  | 10, _ => fun _ => by kernel_rfl
  | 11, _ => fun _ => by kernel_rfl
  | 12, _ => fun _ => by kernel_rfl
  | 13, _ => fun _ => by kernel_rfl
  | 14, _ => fun _ => by kernel_rfl
  | 15, _ => fun _ => by kernel_rfl
  | 16, _ => fun _ => by kernel_rfl
  | n + 17, h => absurd h (by omega)
theorem cd_size : ∀ o : Nat, o < 17 → (cd o).size = (cdL o).length
  | 0, _ => rfl
  | 1, _ => rfl
  | 2, _ => rfl
  | 3, _ => rfl
  | 4, _ => rfl
  | 5, _ => rfl
  | 6, _ => rfl
  | 7, _ => rfl
  | 8, _ => rfl
  | 9, _ => rfl
  | 10, _ => rfl
  | 11, _ => rfl
  | 12, _ => rfl
  | 13, _ => rfl
  | 14, _ => rfl
  | 15, _ => rfl
  | 16, _ => rfl
  | n + 17, h => absurd h (by omega)
theorem rg_le : ∀ o : Nat, o < 17 → rg o ≤ 2
  | 0, _ => by decide
  | 1, _ => by decide
  | 2, _ => by decide
  | 3, _ => by decide
  | 4, _ => by decide
  | 5, _ => by decide
  | 6, _ => by decide
  | 7, _ => by decide
  | 8, _ => by decide
  | 9, _ => by decide
  | 10, _ => by decide
  | 11, _ => by decide
  | 12, _ => by decide
  | 13, _ => by decide
  | 14, _ => by decide
  | 15, _ => by decide
  | 16, _ => by decide
  | n + 17, h => absurd h (by omega)
theorem kd_in : ∀ o : Nat, o < 17 → kd o = 0 ∨ kd o = 1 ∨ kd o = 2
  | 0, _ => by decide
  | 1, _ => by decide
  | 2, _ => by decide
  | 3, _ => by decide
  | 4, _ => by decide
  | 5, _ => by decide
  | 6, _ => by decide
  | 7, _ => by decide
  | 8, _ => by decide
  | 9, _ => by decide
  | 10, _ => by decide
  | 11, _ => by decide
  | 12, _ => by decide
  | 13, _ => by decide
  | 14, _ => by decide
  | 15, _ => by decide
  | 16, _ => by decide
  | n + 17, h => absurd h (by omega)
theorem cdL_len : ∀ o : Nat, o < 17 → (cdL o).length ≤ 5
  | 0, _ => by decide
  | 1, _ => by decide
  | 2, _ => by decide
  | 3, _ => by decide
  | 4, _ => by decide
  | 5, _ => by decide
  | 6, _ => by decide
  | 7, _ => by decide
  | 8, _ => by decide
  | 9, _ => by decide
  | 10, _ => by decide
  | 11, _ => by decide
  | 12, _ => by decide
  | 13, _ => by decide
  | 14, _ => by decide
  | 15, _ => by decide
  | 16, _ => by decide
  | n + 17, h => absurd h (by omega)
theorem cdL_pos : ∀ o : Nat, 1 ≤ o → o < 17 → 0 < (cdL o).length
  | 0, h, _ => absurd h (by decide)
  | 1, _, _ => by decide
  | 2, _, _ => by decide
  | 3, _, _ => by decide
  | 4, _, _ => by decide
  | 5, _, _ => by decide
  | 6, _, _ => by decide
  | 7, _, _ => by decide
  | 8, _, _ => by decide
  | 9, _, _ => by decide
  | 10, _, _ => by decide
  | 11, _, _ => by decide
  | 12, _, _ => by decide
  | 13, _, _ => by decide
  | 14, _, _ => by decide
  | 15, _, _ => by decide
  | 16, _, _ => by decide
  | n + 17, _, h => absurd h (by omega)
theorem tab_name : ∀ o : Nat, o < 17 → tab[4 * o]? = some (.string (nm o))
  | 0, _ => by kernel_rfl
  | 1, _ => by kernel_rfl
  | 2, _ => by kernel_rfl
  | 3, _ => by kernel_rfl
  | 4, _ => by kernel_rfl
  | 5, _ => by kernel_rfl
  | 6, _ => by kernel_rfl
  | 7, _ => by kernel_rfl
  | 8, _ => by kernel_rfl
  | 9, _ => by kernel_rfl
  | 10, _ => by kernel_rfl
  | 11, _ => by kernel_rfl
  | 12, _ => by kernel_rfl
  | 13, _ => by kernel_rfl
  | 14, _ => by kernel_rfl
  | 15, _ => by kernel_rfl
  | 16, _ => by kernel_rfl
  | n + 17, h => absurd h (by omega)
theorem tab_code : ∀ o : Nat, o < 17 → tab[4 * o + 1]? = some (.string (cd o))
  | 0, _ => by kernel_rfl
  | 1, _ => by kernel_rfl
  | 2, _ => by kernel_rfl
  | 3, _ => by kernel_rfl
  | 4, _ => by kernel_rfl
  | 5, _ => by kernel_rfl
  | 6, _ => by kernel_rfl
  | 7, _ => by kernel_rfl
  | 8, _ => by kernel_rfl
  | 9, _ => by kernel_rfl
  | 10, _ => by kernel_rfl
  | 11, _ => by kernel_rfl
  | 12, _ => by kernel_rfl
  | 13, _ => by kernel_rfl
  | 14, _ => by kernel_rfl
  | 15, _ => by kernel_rfl
  | 16, _ => by kernel_rfl
  | n + 17, h => absurd h (by omega)
theorem code_at : ∀ o : Nat, 1 ≤ o → o < 17 → ∀ w, (Instr.index 9 (.string (cd o)) (.int .i64 0)).run Tryz.prog w = .ok (.int .u8 (fb o)) w
  | 0, h, _ => absurd h (by decide)
  | 1, _, _ => fun _ => by kernel_rfl
  | 2, _, _ => fun _ => by kernel_rfl
  | 3, _, _ => fun _ => by kernel_rfl
  | 4, _, _ => fun _ => by kernel_rfl
  | 5, _, _ => fun _ => by kernel_rfl
  | 6, _, _ => fun _ => by kernel_rfl
  | 7, _, _ => fun _ => by kernel_rfl
  | 8, _, _ => fun _ => by kernel_rfl
  | 9, _, _ => fun _ => by kernel_rfl
  | 10, _, _ => fun _ => by kernel_rfl
  | 11, _, _ => fun _ => by kernel_rfl
  | 12, _, _ => fun _ => by kernel_rfl
  | 13, _, _ => fun _ => by kernel_rfl
  | 14, _, _ => fun _ => by kernel_rfl
  | 15, _, _ => fun _ => by kernel_rfl
  | 16, _, _ => fun _ => by kernel_rfl
  | n + 17, _, h => absurd h (by omega)
theorem cd_strs : ∀ o : Nat, o < 17 → cd o = strOfNums (cdL o)
  | 0, _ => by kernel_rfl
  | 1, _ => by kernel_rfl
  | 2, _ => by kernel_rfl
  | 3, _ => by kernel_rfl
  | 4, _ => by kernel_rfl
  | 5, _ => by kernel_rfl
  | 6, _ => by kernel_rfl
  | 7, _ => by kernel_rfl
  | 8, _ => by kernel_rfl
  | 9, _ => by kernel_rfl
  | 10, _ => by kernel_rfl
  | 11, _ => by kernel_rfl
  | 12, _ => by kernel_rfl
  | 13, _ => by kernel_rfl
  | 14, _ => by kernel_rfl
  | 15, _ => by kernel_rfl
  | 16, _ => by kernel_rfl
  | n + 17, h => absurd h (by omega)
theorem nm_pos : ∀ o : Nat, 1 ≤ o → o < 17 → nm o ≠ ⟨#[]⟩
  | 0, h, _ => absurd h (by decide)
  | 1, _, _ => by decide
  | 2, _, _ => by decide
  | 3, _, _ => by decide
  | 4, _, _ => by decide
  | 5, _, _ => by decide
  | 6, _, _ => by decide
  | 7, _, _ => by decide
  | 8, _, _ => by decide
  | 9, _, _ => by decide
  | 10, _, _ => by decide
  | 11, _, _ => by decide
  | 12, _, _ => by decide
  | 13, _, _ => by decide
  | 14, _, _ => by decide
  | 15, _, _ => by decide
  | 16, _, _ => by decide
  | n + 17, _, h => absurd h (by omega)
theorem fb_in : ∀ o : Nat, o < 17 → 0 ≤ fb o ∧ fb o ≤ 255
  | 0, _ => by decide
  | 1, _ => by decide
  | 2, _ => by decide
  | 3, _ => by decide
  | 4, _ => by decide
  | 5, _ => by decide
  | 6, _ => by decide
  | 7, _ => by decide
  | 8, _ => by decide
  | 9, _ => by decide
  | 10, _ => by decide
  | 11, _ => by decide
  | 12, _ => by decide
  | 13, _ => by decide
  | 14, _ => by decide
  | 15, _ => by decide
  | 16, _ => by decide
  | n + 17, h => absurd h (by omega)
theorem cd_byte : ∀ o : Nat, o < 17 → ∀ i (h : i < (cd o).size), (((cd o)[i]).toNat : Int) = (cdL o).getD i 0
  | 0, _ => by decide
  | 1, _ => by decide
  | 2, _ => by decide
  | 3, _ => by decide
  | 4, _ => by decide
  | 5, _ => by decide
  | 6, _ => by decide
  | 7, _ => by decide
  | 8, _ => by decide
  | 9, _ => by decide
  | 10, _ => by decide
  | 11, _ => by decide
  | 12, _ => by decide
  | 13, _ => by decide
  | 14, _ => by decide
  | 15, _ => by decide
  | 16, _ => by decide
  | n + 17, h => absurd h (by omega)

theorem fb_inj : ∀ o, 1 ≤ o → o < 17 → ∀ p, 1 ≤ p → p < 17 → fb o = fb p → o = p := by
  have h : ∀ o : Fin 17, ∀ p : Fin 17, 1 ≤ o.1 → 1 ≤ p.1 → fb o.1 = fb p.1 → o.1 = p.1 := by decide +kernel
  exact fun o h1 h2 p h3 h4 => h ⟨o, h2⟩ ⟨p, h4⟩ h1 h3
theorem nm_inj : ∀ o, 1 ≤ o → o < 17 → ∀ p, 1 ≤ p → p < 17 → nm o = nm p → o = p := by
  have h : ∀ o : Fin 17, ∀ p : Fin 17, 1 ≤ o.1 → 1 ≤ p.1 → nm o.1 = nm p.1 → o.1 = p.1 := by decide +kernel
  exact fun o h1 h2 p h3 h4 => h ⟨o, h2⟩ ⟨p, h4⟩ h1 h3
/-- an op's length -/
def lenN (o : Nat) : Nat := (cdL o).length + rg o + if kd o = 0 then 0 else 4

theorem lenN_in : ∀ o : Nat, 1 ≤ o → o < 17 → 1 ≤ lenN o ∧ lenN o ≤ 6
  | 0, h, _ => absurd h (by decide)
  | 1, _, _ => by decide
  | 2, _, _ => by decide
  | 3, _, _ => by decide
  | 4, _, _ => by decide
  | 5, _, _ => by decide
  | 6, _, _ => by decide
  | 7, _, _ => by decide
  | 8, _, _ => by decide
  | 9, _, _ => by decide
  | 10, _, _ => by decide
  | 11, _, _ => by decide
  | 12, _, _ => by decide
  | 13, _, _ => by decide
  | 14, _, _ => by decide
  | 15, _, _ => by decide
  | 16, _, _ => by decide
  | n + 17, _, h => absurd h (by omega)
theorem cl_one : ∀ o : Nat, 1 ≤ o → o < 17 → (1 ≤ rg o ∨ kd o ≠ 0) → (cdL o).length = 1
  | 0, h, _ => absurd h (by decide)
  | 1, _, _ => by decide
  | 2, _, _ => by decide
  | 3, _, _ => by decide
  | 4, _, _ => by decide
  | 5, _, _ => by decide
  | 6, _, _ => by decide
  | 7, _, _ => by decide
  | 8, _, _ => by decide
  | 9, _, _ => by decide
  | 10, _, _ => by decide
  | 11, _, _ => by decide
  | 12, _, _ => by decide
  | 13, _, _ => by decide
  | 14, _, _ => by decide
  | 15, _, _ => by decide
  | 16, _, _ => by decide
  | n + 17, _, h => absurd h (by omega)
end Go.Proofs.YtgblohjdiheemaaGreat

/- isa.shapes answers the table. -/
namespace Go.Proofs.YtgblohjdiheemaaGreat
open Go.RowKit

theorem step_build {ops : Array Oper} {rest : List Oper} {o : Oper} {a : Act} {w : World} {Q : Exit → Act → World → Prop} (hg : o.guard = none) (t : TypeId) (parts : Array (Nat × Operand)) (ho : o.op = .build t parts) (cells : Array Value)
    (hb : Tryz.prog.built t (parts.map fun (i, x) => (i, a.eval x)).toList = some cells)
    (h : wpList Tryz.prog ops Q rest (a.put o.dst (.agg cells)) w) : wpList Tryz.prog ops Q (o :: rest) a w := by
  refine wpList_plain hg fun _ hK => ?_
  unfold Oper.wp execOp
  simp only [ho, Sem.run_bind, run_build w t _ _ hb, Result.andThen_ok]
  exact hK _ _ h

theorem step_store_new {ops : Array Oper} {rest : List Oper} {o : Oper} {a : Act} {w : World} {Q : Exit → Act → World → Prop} {c : Array Value} (hg : o.guard = none) (t : TypeId) (p x : Operand) (ho : o.op = .store t p x) (hd : o.dst = none)
    (hp : a.eval p = .pointer (some ⟨w.heap.size, 0, none⟩)) (c' : Array Value) (hx : a.eval x = .agg c') (hi : (Tryz.prog.info? t).map (·.size) = some c'.size) (hcs : c.size = c'.size) (h1 : c'.all (·.oneCell') = true)
    (h : wpList Tryz.prog ops Q rest a (w.alloc (.cells c' t))) : wpList Tryz.prog ops Q (o :: rest) a (w.alloc (.cells c t)) := by
  refine wpList_plain hg fun _ hK => ?_
  unfold Oper.wp execOp
  have hs := run_storeAt_new (P := Tryz.prog) w t c c' hi hcs h1
  simp only [ho, hp, hx, Sem.run_bind, hs, Result.andThen_ok]
  exact hK _ _ (by rw [hd]; exact h)

theorem act_turn {P : Program} {ops : Array Oper} {Q : Exit → Act → World → Prop} {l : List Oper} {W : World} {A B : Act} (h : A = B) (k : wpList P ops Q l B W) : wpList P ops Q l A W := h ▸ k
theorem Tryz.sizeTab : (Tryz.prog.info? 151).map (·.size) = some tab.size := by rw [tab_size]; exact Tryz.size151
theorem zero_tab : ∃ z : Array Value, z.size = tab.size ∧ ∀ w, (zeroValue 151).run Tryz.prog w = .ok (.agg z) w :=
  ⟨_, by rw [tab_size]; kernel_rfl, (zero_of_info Tryz.zero151).1⟩

set_option maxHeartbeats 400000 in
theorem shapes_any (w : World) :
    Calls Tryz.prog 94 #[] w fun e w' => e = .returned (.agg tab) ∧ Below w.heap.size w w' := by
  obtain ⟨z, hzs, hz⟩ := zero_tab
  have HZ : Hid (z.size = tab.size) := hzs
  clear hzs
  go_enter Tryz.func94, Tryz.ntmps94
  iterate 11 go_step
  refine step_build rfl 150 _ rfl (shpV 1) ?_ ?_
  · kernel_rfl
  refine step_build rfl 150 _ rfl (shpV 2) ?_ ?_
  · kernel_rfl
  refine step_build rfl 150 _ rfl (shpV 3) ?_ ?_
  · kernel_rfl
  refine step_build rfl 150 _ rfl (shpV 4) ?_ ?_
  · kernel_rfl
  refine step_build rfl 150 _ rfl (shpV 5) ?_ ?_
  · kernel_rfl
  refine step_build rfl 150 _ rfl (shpV 6) ?_ ?_
  · kernel_rfl
  refine step_build rfl 150 _ rfl (shpV 7) ?_ ?_
  · kernel_rfl
  refine step_build rfl 150 _ rfl (shpV 8) ?_ ?_
  · kernel_rfl
  refine step_build rfl 150 _ rfl (shpV 9) ?_ ?_
  · kernel_rfl
  refine step_build rfl 150 _ rfl (shpV 10) ?_ ?_
  · kernel_rfl
  refine step_build rfl 150 _ rfl (shpV 11) ?_ ?_
  · kernel_rfl
  refine step_build rfl 150 _ rfl (shpV 12) ?_ ?_
  · kernel_rfl
  refine step_build rfl 150 _ rfl (shpV 13) ?_ ?_
  · kernel_rfl
  refine step_build rfl 150 _ rfl (shpV 14) ?_ ?_
  · kernel_rfl
  refine step_build rfl 150 _ rfl (shpV 15) ?_ ?_
  · kernel_rfl
  refine step_build rfl 150 _ rfl (shpV 16) ?_ ?_
  · kernel_rfl
  refine step_build rfl 151 _ rfl tab ?_ ?_
  · kernel_rfl
  refine step_store_new rfl 151 _ _ rfl rfl ?_ tab ?_ Tryz.sizeTab HZ.out tab_one ?_
  · kernel_rfl
  · kernel_rfl
  refine act_turn (B := ⟨#[.pointer (some ⟨w.heap.size, 0, none⟩), .agg (shpV 1), .agg (shpV 2), .agg (shpV 3), .agg (shpV 4), .agg (shpV 5), .agg (shpV 6), .agg (shpV 7), .agg (shpV 8), .agg (shpV 9), .agg (shpV 10), .agg (shpV 11), .agg (shpV 12), .agg (shpV 13), .agg (shpV 14), .agg (shpV 15), .agg (shpV 16), .agg tab], []⟩) ?_ ?_
  · kernel_rfl
  go_wp2
  have hld := run_loadVar_new (P := Tryz.prog) w 151 tab 17 150 Tryz.underlying151 Tryz.sizeTab
  refine bodyPost_ret (v := .agg tab) ?_ rfl ⟨rfl, new_alloc _ _⟩
  simp only [results, Tryz.results94]
  simp [asAddr, hld]
end Go.Proofs.YtgblohjdiheemaaGreat

/- What bytes.Equal, octets.Same and switchyardkit.SameBytes answer, for every two slices of bytes. -/
namespace Go.Proofs.YtgblohjdiheemaaGreat
open Go.RowKit

theorem convert_zero (w : World) (p : Option Addr) (c : Nat) :
    (convert 22 9 (.slice p 0 c)).run Tryz.prog w = .ok (.string ByteArray.empty) w := by
  rw [run_convert_bytes_string w 22 9 5 _ 0 c Tryz.underlying22 Tryz.underlying5 Tryz.underlying9]
  cases p <;> simp [Conv.bytesToString, loadCells]
  all_goals rfl

theorem Row.convert {w : World} {p : Option Addr} {n : Nat} {xs : List Int} (h : Row w p xs) (hx : xs.length = n) (c : Nat) :
    (convert 22 9 (.slice p n c)).run Tryz.prog w = .ok (.string (strOfNums xs)) w := by
  rcases Nat.eq_zero_or_pos n with hn | hn
  · subst hn
    obtain rfl : xs = [] := List.eq_nil_of_length_eq_zero hx
    exact convert_zero w p c
  · obtain ⟨b, o, rfl, hc⟩ := h (by omega)
    exact run_convert_bytes_arg (P := Tryz.prog) w 22 5 Tryz.underlying22 Tryz.underlying5 b o n c xs hx (fun i hi => hc i (by omega)) 9 Tryz.underlying9

def sameB (xs ys : List Int) : Bool := decide (xs = ys)
theorem sameB_self (xs : List Int) : sameB xs xs = true := by simp [sameB]
theorem sameB_yes {xs ys : List Int} (h : xs = ys) : sameB xs ys = true := by simp [sameB, h]
theorem sameB_no {xs ys : List Int} (h : xs ≠ ys) : sameB xs ys = false := by simp [sameB, h]

theorem Byt.mem {xs : List Int} (h : Byt xs) : ∀ x ∈ xs, 0 ≤ x ∧ x ≤ 255 := by
  intro x hx
  obtain ⟨i, hi, rfl⟩ := List.mem_iff_getElem.1 hx
  have := h i
  simpa [List.getD, hi] using this

theorem ofNat_inj {a b : Int} (ha : 0 ≤ a ∧ a ≤ 255) (hb : 0 ≤ b ∧ b ≤ 255) (h : UInt8.ofNat a.toNat = UInt8.ofNat b.toNat) : a = b := by
  have e := congrArg UInt8.toNat h
  simp only [UInt8.toNat_ofNat'] at e
  omega

theorem map_inj : ∀ (xs ys : List Int), (∀ x ∈ xs, 0 ≤ x ∧ x ≤ 255) → (∀ x ∈ ys, 0 ≤ x ∧ x ≤ 255) → (xs.map fun n => UInt8.ofNat n.toNat) = (ys.map fun n => UInt8.ofNat n.toNat) → xs = ys
  | [], [], _, _, _ => rfl
  | [], _ :: _, _, _, h => by simp at h
  | _ :: _, [], _, _, h => by simp at h
  | x :: xs, y :: ys, h1, h2, h => by
    simp only [List.map_cons, List.cons.injEq] at h
    rw [ofNat_inj (h1 x (by simp)) (h2 y (by simp)) h.1, map_inj xs ys (fun z hz => h1 z (by simp [hz])) (fun z hz => h2 z (by simp [hz])) h.2]

theorem str_same {xs ys : List Int} (b1 : Byt xs) (b2 : Byt ys) : ((strOfNums xs).toList == (strOfNums ys).toList) = sameB xs ys := by
  rw [Lib.toList_data, Lib.toList_data, strOfNums_data, strOfNums_data]
  by_cases h : xs = ys
  · subst h; simp [sameB]
  · rw [sameB_no h]
    exact beq_eq_false_iff_ne.2 fun e => h (map_inj _ _ b1.mem b2.mem e)

theorem ret_bool {a b : Bool} (h : a = b) : Ending.returned (.bool a) = .returned (.bool b) := by rw [h]

theorem equal_any (p q : Option Addr) (n c m d : Nat) (xs ys : List Int) (w : World) (hx : xs.length = n) (hy : ys.length = m) (h1 : Row w p xs) (h2 : Row w q ys) (b1 : Byt xs) (b2 : Byt ys) :
    Calls Tryz.prog 85 #[.slice p n c, .slice q m d] w fun e w' => e = .returned (.bool (sameB xs ys)) ∧ w' = w := by
  have g1 := h1.convert hx c
  have g2 := h2.convert hy d
  clear h1 h2
  go_enter Tryz.func85, Tryz.ntmps85
  go_wp2
  go_ret
  exact ⟨ret_bool (str_same b1 b2), rfl⟩

/-! ### switchyardkit.SameBytes -/
theorem sameB_len {xs ys : List Int} (h : xs.length ≠ ys.length) : sameB xs ys = false := sameB_no fun e => h (by rw [e])
theorem sameB_at {xs ys : List Int} (k : Nat) (h : xs.getD k 0 ≠ ys.getD k 0) : sameB xs ys = false := sameB_no fun e => h (by rw [e])
theorem sameB_all {xs ys : List Int} (hl : xs.length = ys.length) (h : ∀ j, j < xs.length → xs.getD j 0 = ys.getD j 0) : sameB xs ys = true :=
  sameB_yes (List.ext_getElem hl fun j h1 h2 => by have := h j h1; simpa [List.getD, h1, h2] using this)

set_option maxHeartbeats 400000 in
theorem sameBytes_len (p q : Option Addr) (n c m d : Nat) (w : World) (h : n ≠ m) :
    Calls Tryz.prog 47 #[.slice p n c, .slice q m d] w fun e w' => e = .returned (.bool false) ∧ w' = w := by
  have hne : ((n : Int) != (m : Int)) = true := by rw [bne_iff_ne]; omega
  go_enter Tryz.func47, Tryz.ntmps47
  go_wp2
  go_ret
  exact ⟨rfl, rfl⟩

set_option maxHeartbeats 400000 in
theorem sameBytes_zero (p q : Option Addr) (c d : Nat) (w : World) :
    Calls Tryz.prog 47 #[.slice p 0 c, .slice q 0 d] w fun e w' => e = .returned (.bool true) ∧ w' = w := by
  go_enter Tryz.func47, Tryz.ntmps47
  go_wp2
  refine wp_loop_rounds 1 ?_
  rw [rounds_succ]; go_wp2
  go_ret
  exact ⟨rfl, rfl⟩

set_option maxHeartbeats 400000 in
theorem sameBytes_at (b o b' o' n c d : Nat) (xs ys : List Int) (w : World) (hn : n ≤ 9223372036854775807) (hx : xs.length = n) (hy : ys.length = n)
    (h1 : ∀ i, i < n → w.cell? ⟨b, o + i, none⟩ = some (.int .u8 (xs.getD i 0))) (h2 : ∀ i, i < n → w.cell? ⟨b', o' + i, none⟩ = some (.int .u8 (ys.getD i 0))) :
    Calls Tryz.prog 47 #[.slice (some ⟨b, o, none⟩) n c, .slice (some ⟨b', o', none⟩) n d] w fun e w' => e = .returned (.bool (sameB xs ys)) ∧ ∃ m, w' = w.drewN m := by
  have hne : ((n : Int) != (n : Int)) = false := by simp
  have H1 : Hid (∀ i, i < n → w.cell? ⟨b, o + i, none⟩ = some (.int .u8 (xs.getD i 0))) := h1
  have H2 : Hid (∀ i, i < n → w.cell? ⟨b', o' + i, none⟩ = some (.int .u8 (ys.getD i 0))) := h2
  have HX : Hid (xs.length = n) := hx
  have HY : Hid (ys.length = n) := hy
  clear h1 h2 hx hy
  go_enter Tryz.func47, Tryz.ntmps47
  go_wp2
  go_loopw [5] (fun i wr => ∃ k m : Nat, k ≤ n ∧ i = .int .i64 k ∧ wr = w.drewN m ∧ ∀ j, j < k → xs.getD j 0 = ys.getD j 0) (fun i _ => n - (intOf i).toNat)
  case atStart => exact ⟨0, 0, Nat.zero_le _, rfl, rfl, fun j hj => absurd hj (Nat.not_lt_zero _)⟩
  case round =>
    obtain ⟨k, m, hk, rfl, rfl, hs⟩ := hrel
    have HS : Hid (∀ j, j < k → xs.getD j 0 = ys.getD j 0) := hs
    clear hs
    by_cases hlt : k < n
    · have c1 := H1.out k hlt
      have c2 := H2.out k hlt
      obtain ⟨x, hx⟩ : ∃ x, x = xs.getD k 0 := ⟨_, rfl⟩
      obtain ⟨y, hy⟩ : ∃ y, y = ys.getD k 0 := ⟨_, rfl⟩
      rw [← hx] at c1
      rw [← hy] at c2
      have E1 : Hid (x = xs.getD k 0) := hx
      have E2 : Hid (y = ys.getD k 0) := hy
      clear hx hy
      cases hb : (x != y)
      · go_wp2
        go_quiet (fail)
        go_wp2
        go_roundw
        case rel =>
          refine ⟨k + 1, _, by omega, by go_num, rfl, fun j hj => ?_⟩
          by_cases e : j = k
          · subst e; rw [← E1.out, ← E2.out]; simpa using hb
          · exact HS.out j (by omega)
        case measure => simp [intOf]; omega
      · go_wp2
        go_quiet (fail)
        go_wp2
        go_ret
        exact ⟨ret_bool (sameB_at k (by rw [← E1.out, ← E2.out]; simpa using hb)).symm, m + nq, World.drewN_drewN ..⟩
    · go_wp2
      go_ret
      exact ⟨ret_bool (sameB_all (by rw [HX.out, HY.out]) fun j hj => HS.out j (by have := HX.out; omega)).symm, _, rfl⟩

theorem sameBytes_any (p q : Option Addr) (n c m d : Nat) (xs ys : List Int) (w : World) (hx : xs.length = n) (hy : ys.length = m) (hn : n ≤ 9223372036854775807) (h1 : Row w p xs) (h2 : Row w q ys) :
    Calls Tryz.prog 47 #[.slice p n c, .slice q m d] w fun e w' => e = .returned (.bool (sameB xs ys)) ∧ ∃ m, w' = w.drewN m := by
  by_cases h : n = m
  · subst h
    rcases Nat.eq_zero_or_pos n with h0 | h0
    · subst h0
      obtain rfl : xs = [] := List.eq_nil_of_length_eq_zero hx
      obtain rfl : ys = [] := List.eq_nil_of_length_eq_zero hy
      exact (sameBytes_zero p q c d w).mono fun e w' h => ⟨h.1, 0, h.2⟩
    · obtain ⟨b, o, rfl, e1⟩ := h1 (by omega)
      obtain ⟨b', o', rfl, e2⟩ := h2 (by omega)
      exact sameBytes_at b o b' o' n c d xs ys w hn hx hy (fun i hi => e1 i (by omega)) (fun i hi => e2 i (by omega))
  · rw [sameB_len (by omega)]
    exact (sameBytes_len p q n c m d w h).mono fun e w' h => ⟨h.1, 0, h.2⟩

end Go.Proofs.YtgblohjdiheemaaGreat

/- What the methods of isa.shape answer: length, holdsRegs, holdsNumber, begins. -/
namespace Go.Proofs.YtgblohjdiheemaaGreat
open Go.RowKit

abbrev shp (s c : ByteArray) (r : Nat) (q : Int) : Value := .agg #[.string s, .string c, .int .i64 r, .int .u8 q]

set_option maxHeartbeats 400000 in
theorem length_zero (s c : ByteArray) (r : Nat) (w : World) (hr : r ≤ 2) (hc : c.size ≤ 5) :
    Calls Tryz.prog 95 #[shp s c r 0] w fun e w' => e = .returned (.int .i64 (c.size + r)) ∧ Below w.heap.size w w' := by
  go_enter Tryz.func95, Tryz.ntmps95
  go_wp2
  go_ret
  exact ⟨rfl, new_alloc _ _⟩

set_option maxHeartbeats 400000 in
theorem length_num (s c : ByteArray) (r : Nat) (q : Int) (w : World) (hr : r ≤ 2) (hc : c.size ≤ 5) (hq : q = 1 ∨ q = 2) :
    Calls Tryz.prog 95 #[shp s c r q] w fun e w' => e = .returned (.int .i64 (c.size + r + 4)) ∧ Below w.heap.size w w' := by
  rcases hq with rfl | rfl
  all_goals
    go_enter Tryz.func95, Tryz.ntmps95
    go_wp2
    go_ret
    exact ⟨rfl, new_alloc _ _⟩

theorem ret_i64 {a b : Int} (h : a = b) : Ending.returned (.int .i64 a) = .returned (.int .i64 b) := by rw [h]

theorem length_op (o : Nat) (h : o < 17) (w : World) :
    Calls Tryz.prog 95 #[shp (nm o) (cd o) (rg o) (kd o)] w fun e w' => e = .returned (.int .i64 (lenN o)) ∧ Below w.heap.size w w' := by
  have hc := cd_size o h
  have hl := cdL_len o h
  by_cases h0 : kd o = 0
  · rw [h0]
    exact (length_zero (nm o) (cd o) (rg o) w (rg_le o h) (by omega)).mono fun e w' ⟨he, hb⟩ => ⟨by rw [he]; exact ret_i64 (by simp [lenN, h0]; omega), hb⟩
  · exact (length_num (nm o) (cd o) (rg o) (kd o) w (rg_le o h) (by omega) (by have := kd_in o h; omega)).mono fun e w' ⟨he, hb⟩ => ⟨by rw [he]; exact ret_i64 (by simp [lenN, h0]; omega), hb⟩

/-- whether a number is one that the op allows -/
def numB (q n : Int) : Bool := if q = 1 then true else if q = 2 then decide (0 ≤ n ∧ n < 65536) else decide (n = 0)

set_option maxHeartbeats 400000 in
theorem holdsNum_any (s c : ByteArray) (r : Nat) (q n : Int) (w : World) (hq : q = 0 ∨ q = 1 ∨ q = 2) :
    Calls Tryz.prog 122 #[shp s c r q, .int .i32 n] w fun e w' => e = .returned (.bool (numB q n)) ∧ Below w.heap.size w w' := by
  rcases hq with rfl | rfl | rfl
  · by_cases h : n = 0
    · subst h
      go_enter Tryz.func122, Tryz.ntmps122
      go_wp2
      go_ret
      exact ⟨rfl, new_alloc _ _⟩
    · have hd : (n == 0) = false := by simpa using h
      go_enter Tryz.func122, Tryz.ntmps122
      go_wp2
      go_ret
      exact ⟨ret_bool (by simp [numB, h]), new_alloc _ _⟩
  · go_enter Tryz.func122, Tryz.ntmps122
    go_wp2
    go_ret
    exact ⟨rfl, new_alloc _ _⟩
  · by_cases h0 : 0 ≤ n
    · by_cases h1 : n < 65536
      · go_enter Tryz.func122, Tryz.ntmps122
        go_wp2
        go_ret
        exact ⟨ret_bool (by simp [numB, h0, h1]), new_alloc _ _⟩
      · go_enter Tryz.func122, Tryz.ntmps122
        go_wp2
        go_ret
        exact ⟨ret_bool (by simp [numB, h1]), new_alloc _ _⟩
    · have hd : decide (0 ≤ n) = false := by simpa using h0
      go_enter Tryz.func122, Tryz.ntmps122
      go_wp2
      go_ret
      exact ⟨ret_bool (by simp [numB]; omega), new_alloc _ _⟩

/-- whether a byte is one that a register's place allows -/
def regB (has : Bool) (a : Int) : Bool := if has then decide (a < 8) else decide (a = 0)
theorem two_new (w : World) (o p : Obj) : Below w.heap.size w ((w.alloc o).alloc p) := below_alloc (new_alloc w o) p

set_option maxHeartbeats 1000000 in
theorem holdsRegs_any (s c : ByteArray) (r : Nat) (q a b : Int) (w : World) (hr : r ≤ 2) (ha : 0 ≤ a ∧ a ≤ 255) (hb : 0 ≤ b ∧ b ≤ 255) :
    Calls Tryz.prog 121 #[shp s c r q, .agg #[.int .u8 a, .int .u8 b]] w fun e w' => e = .returned (.bool (regB (decide (1 ≤ r)) a && regB (decide (2 ≤ r)) b)) ∧ Below w.heap.size w w' := by
  obtain rfl | rfl | rfl : r = 0 ∨ r = 1 ∨ r = 2 := by omega
  · by_cases h1 : a = 0
    · subst h1
      by_cases h2 : b = 0
      · subst h2
        go_enter Tryz.func121, Tryz.ntmps121
        go_wp2
        refine wp_loop_rounds 3 ?_
        rw [rounds_succ]; go_wp2
        rw [rounds_succ]; go_wp2
        rw [rounds_succ]; go_wp2
        go_ret
        exact ⟨rfl, two_new _ _ _⟩
      · have hd : (b != 0) = true := by simpa using h2
        go_enter Tryz.func121, Tryz.ntmps121
        go_wp2
        refine wp_loop_rounds 3 ?_
        rw [rounds_succ]; go_wp2
        rw [rounds_succ]; go_wp2
        go_ret
        exact ⟨ret_bool (by simp [regB, h2]), two_new _ _ _⟩
    · have hd : (a != 0) = true := by simpa using h1
      go_enter Tryz.func121, Tryz.ntmps121
      go_wp2
      refine wp_loop_rounds 3 ?_
      rw [rounds_succ]; go_wp2
      go_ret
      exact ⟨ret_bool (by simp [regB, h1]), two_new _ _ _⟩
  · by_cases h1 : a < 8
    · by_cases h2 : b = 0
      · subst h2
        go_enter Tryz.func121, Tryz.ntmps121
        go_wp2
        refine wp_loop_rounds 3 ?_
        rw [rounds_succ]; go_wp2
        rw [rounds_succ]; go_wp2
        rw [rounds_succ]; go_wp2
        go_ret
        exact ⟨ret_bool (by simp [regB, h1]), two_new _ _ _⟩
      · have hd : (b != 0) = true := by simpa using h2
        go_enter Tryz.func121, Tryz.ntmps121
        go_wp2
        refine wp_loop_rounds 3 ?_
        rw [rounds_succ]; go_wp2
        rw [rounds_succ]; go_wp2
        go_ret
        exact ⟨ret_bool (by simp [regB, h2]), two_new _ _ _⟩
    · go_enter Tryz.func121, Tryz.ntmps121
      go_wp2
      refine wp_loop_rounds 3 ?_
      rw [rounds_succ]; go_wp2
      go_ret
      exact ⟨ret_bool (by simp [regB]; omega), two_new _ _ _⟩
  · by_cases h1 : a < 8
    · by_cases h2 : b < 8
      · go_enter Tryz.func121, Tryz.ntmps121
        go_wp2
        refine wp_loop_rounds 3 ?_
        rw [rounds_succ]; go_wp2
        rw [rounds_succ]; go_wp2
        rw [rounds_succ]; go_wp2
        go_ret
        exact ⟨ret_bool (by simp [regB, h1, h2]), two_new _ _ _⟩
      · go_enter Tryz.func121, Tryz.ntmps121
        go_wp2
        refine wp_loop_rounds 3 ?_
        rw [rounds_succ]; go_wp2
        rw [rounds_succ]; go_wp2
        go_ret
        exact ⟨ret_bool (by simp [regB]; omega), two_new _ _ _⟩
    · go_enter Tryz.func121, Tryz.ntmps121
      go_wp2
      refine wp_loop_rounds 3 ?_
      rw [rounds_succ]; go_wp2
      go_ret
      exact ⟨ret_bool (by simp [regB]; omega), two_new _ _ _⟩

/-- whether the bytes begin as the op's do -/
def preB (c : ByteArray) (xs : List Int) : Bool := decide (∀ i (h : i < c.size), xs.getD i 0 = ((c[i]).toNat : Int))

end Go.Proofs.YtgblohjdiheemaaGreat
