/- Texts put together: Nums, Own, Gen, Texts, Lines, RefLines. -/
import Derived.WalkKit
import Derived.WalkSpells
import Derived.WalkLawsBesides
import Derived.Laws.BitsAllLaws
import Derived.Test.YtkianldkbfjehaaGreatDoorProg
import Derived.Laws.CopyOwn
import Derived.Laws.AppendOwnNone
import Derived.Deep.QuietTactic
import Derived.BigQuiet
import Derived.Lib.Strings

/- Plain facts on numbers and lists of bytes: what four bytes say, and back. -/
namespace Go.Proofs.YtkianldkbfjehaaGreatDoor
open Go.RowKit

theorem or_join (i : Nat) (a b : Int) (h0 : 0 ≤ a) (ha : a < 2 ^ i) (hb0 : 0 ≤ b) (hb : b * 2 ^ i < 4294967296) (hi : (2 : Int) ^ i ≤ 4294967296) :
    bits .or .u32 a (b * 2 ^ i) = a + b * 2 ^ i := by
  have hp : (0 : Int) ≤ 2 ^ i := by
    have : ((2 ^ i : Nat) : Int) = 2 ^ i := by simp
    omega
  have hm : 0 ≤ b * 2 ^ i := Int.mul_nonneg hb0 hp
  rw [u32_or a (b * 2 ^ i) h0 (by omega) hm hb]
  obtain ⟨x, rfl⟩ := Int.eq_ofNat_of_zero_le h0
  obtain ⟨y, rfl⟩ := Int.eq_ofNat_of_zero_le hb0
  have e : ((y : Int) * 2 ^ i).toNat = y * 2 ^ i := by
    have : ((y : Int) * 2 ^ i) = ((y * 2 ^ i : Nat) : Int) := by simp
    rw [this, Int.toNat_natCast]
  rw [e, Int.toNat_natCast, Nat.or_comm, nat_join i (y * 2 ^ i) x (Nat.mul_mod_left _ _) (by
    have : ((x : Nat) : Int) < ((2 ^ i : Nat) : Int) := by simpa using ha
    omega)]
  simp
  omega

def num2 (z0 z1 : Int) : Int := z0 + 256 * z1
def num4 (z0 z1 z2 z3 : Int) : Int := z0 + 256 * z1 + 65536 * z2 + 16777216 * z3

theorem or4 (z0 z1 z2 z3 : Int) (r0 : 0 ≤ z0 ∧ z0 ≤ 255) (r1 : 0 ≤ z1 ∧ z1 ≤ 255) (r2 : 0 ≤ z2 ∧ z2 ≤ 255) (r3 : 0 ≤ z3 ∧ z3 ≤ 255) :
    bits .or .u32 (bits .or .u32 (bits .or .u32 (bits .or .u32 0 z0) (z1 * 256)) (z2 * 65536)) (z3 * 16777216) = num4 z0 z1 z2 z3 := by
  have e0 := or_join 0 0 z0 (by omega) (by decide) r0.1 (by omega) (by decide)
  have e1 := or_join 8 z0 z1 r0.1 (by omega) r1.1 (by omega) (by decide)
  have e2 := or_join 16 (z0 + z1 * 256) z2 (by omega) (by omega) r2.1 (by omega) (by decide)
  have e3 := or_join 24 (z0 + z1 * 256 + z2 * 65536) z3 (by omega) (by omega) r3.1 (by omega) (by decide)
  simp only [Int.reducePow, Int.mul_one, Int.zero_add] at e0 e1 e2 e3
  rw [e0, e1, e2, e3]
  unfold num4
  omega

theorem or2 (z0 z1 : Int) (r0 : 0 ≤ z0 ∧ z0 ≤ 255) (r1 : 0 ≤ z1 ∧ z1 ≤ 255) :
    bits .or .u32 (bits .or .u32 0 z0) (z1 * 256) = num2 z0 z1 := by
  have e0 := or_join 0 0 z0 (by omega) (by decide) r0.1 (by omega) (by decide)
  have e1 := or_join 8 z0 z1 r0.1 (by omega) r1.1 (by omega) (by decide)
  simp only [Int.reducePow, Int.mul_one, Int.zero_add] at e0 e1
  rw [e0, e1]
  unfold num2
  omega

theorem num4_bd {z0 z1 z2 z3 : Int} (r0 : 0 ≤ z0 ∧ z0 ≤ 255) (r1 : 0 ≤ z1 ∧ z1 ≤ 255) (r2 : 0 ≤ z2 ∧ z2 ≤ 255) (r3 : 0 ≤ z3 ∧ z3 ≤ 255) :
    0 ≤ num4 z0 z1 z2 z3 ∧ num4 z0 z1 z2 z3 ≤ 4294967295 := by unfold num4; omega
theorem num2_bd {z0 z1 : Int} (r0 : 0 ≤ z0 ∧ z0 ≤ 255) (r1 : 0 ≤ z1 ∧ z1 ≤ 255) :
    0 ≤ num2 z0 z1 ∧ num2 z0 z1 ≤ 65535 := by unfold num2; omega

/-- each number a byte's (behind the end: nought) -/
def Byt (xs : List Int) : Prop := ∀ i, 0 ≤ xs.getD i 0 ∧ xs.getD i 0 ≤ 255

/-- how a slice of bytes lies: where there is a byte, at an address, with its cells -/
def Row (w : World) (p : Option Addr) (xs : List Int) : Prop :=
  0 < xs.length → ∃ b o, p = some ⟨b, o, none⟩ ∧ ∀ i, i < xs.length → w.cell? ⟨b, o + i, none⟩ = some (.int .u8 (xs.getD i 0))

def n4 (xs : List Int) (a : Nat) : Int := num4 (xs.getD a 0) (xs.getD (a + 1) 0) (xs.getD (a + 2) 0) (xs.getD (a + 3) 0)
def n2 (xs : List Int) (a : Nat) : Int := num2 (xs.getD a 0) (xs.getD (a + 1) 0)
theorem n4_bd {xs : List Int} (h : Byt xs) (a : Nat) : 0 ≤ n4 xs a ∧ n4 xs a ≤ 4294967295 := num4_bd (h _) (h _) (h _) (h _)
theorem n2_bd {xs : List Int} (h : Byt xs) (a : Nat) : 0 ≤ n2 xs a ∧ n2 xs a ≤ 65535 := num2_bd (h _) (h _)

end Go.Proofs.YtkianldkbfjehaaGreatDoor

/- Slices of bytes that a call has made: what they hold, what a store does to them, that they stay. -/
namespace Go.Proofs.YtkianldkbfjehaaGreatDoor
open Go.RowKit

theorem Tryz.info5 : (Tryz.prog.info? 5).map (fun i => (i.zero, i.size, i.bytes)) = some (some (.int .u8 0), 1, 1) := by kernel_rfl
theorem Tryz.size5 : (Tryz.prog.info? 5).map (·.size) = some 1 := by kernel_rfl

abbrev byts (xs : List Int) : List Value := xs.map (Value.int .u8)

/-- a slice of bytes in a block of its own (its number B or above), with room for cap -/
def Own (w : World) (B g cap : Nat) (xs : List Int) : Prop := w.ownsRow B 5 1 (.slice (some ⟨g, 0, none⟩) xs.length cap) xs.length (byts xs)

theorem Own.parts {w : World} {B g cap : Nat} {xs : List Int} (h : Own w B g cap xs) :
    ∃ cur, B ≤ g ∧ w.heap[g]? = some (.cells cur 5 (0, 0)) ∧ xs.length ≤ cap ∧ cap ≤ maxLen ∧ cur.size = cap ∧ cur.toList.take xs.length = byts xs := by
  rcases h.2 with ⟨h', _⟩ | ⟨g', cap', cur, h', h1, h2, h3, h4, h5, h6⟩
  · simp at h'
  · simp only [Value.slice.injEq, Option.some.injEq, Addr.mk.injEq, and_true, true_and] at h'
    obtain ⟨rfl, rfl⟩ := h'
    exact ⟨cur, h1, h2, h3, h4, by simpa using h5, by simpa using h6⟩

theorem Own.mk {w : World} {B g cap : Nat} {xs : List Int} {cur : Array Value} (h1 : B ≤ g) (h2 : w.heap[g]? = some (.cells cur 5 (0, 0))) (h3 : xs.length ≤ cap) (h4 : cap ≤ maxLen) (h5 : cur.size = cap) (h6 : cur.toList.take xs.length = byts xs) : Own w B g cap xs :=
  ⟨by simp, .inr ⟨g, cap, cur, rfl, h1, h2, h3, h4, by simpa using h5, by simpa using h6⟩⟩

theorem Own.lt {w : World} {B g cap : Nat} {xs : List Int} (h : Own w B g cap xs) : g < w.heap.size := by
  obtain ⟨cur, _, h2, _⟩ := h.parts
  rcases Nat.lt_or_ge g w.heap.size with h | h
  · exact h
  · rw [Array.getElem?_eq_none h] at h2; cases h2
theorem Own.base {w : World} {B g cap : Nat} {xs : List Int} (h : Own w B g cap xs) : B ≤ g := by obtain ⟨cur, h1, _⟩ := h.parts; exact h1
theorem Own.cap {w : World} {B g cap : Nat} {xs : List Int} (h : Own w B g cap xs) : xs.length ≤ cap := by obtain ⟨cur, _, _, h1, _⟩ := h.parts; exact h1
theorem Own.lower {w : World} {B B' g cap : Nat} {xs : List Int} (h : Own w B g cap xs) (hB : B' ≤ B) : Own w B' g cap xs := by
  obtain ⟨cur, h1, h2, h3, h4, h5, h6⟩ := h.parts
  exact Own.mk (by omega) h2 h3 h4 h5 h6
theorem Own.raise {w : World} {B B' g cap : Nat} {xs : List Int} (h : Own w B g cap xs) (hB : B' ≤ g) : Own w B' g cap xs := by
  obtain ⟨cur, h1, h2, h3, h4, h5, h6⟩ := h.parts
  exact Own.mk hB h2 h3 h4 h5 h6
theorem Own.below {w w' : World} {B g cap : Nat} {xs : List Int} (h : Own w B g cap xs) (hb : Below w.heap.size w w') : Own w' B g cap xs := by
  obtain ⟨cur, h1, h2, h3, h4, h5, h6⟩ := h.parts
  exact Own.mk h1 (by rw [hb.block g h.lt]; exact h2) h3 h4 h5 h6

theorem getD_byts (xs : List Int) (i : Nat) (h : i < xs.length) : (byts xs)[i]? = some (.int .u8 (xs.getD i 0)) := by
  simp [byts, List.getElem?_eq_getElem h, List.getD]

theorem Own.cell {w : World} {B g cap : Nat} {xs : List Int} (h : Own w B g cap xs) (i : Nat) (hi : i < xs.length) : w.cell? ⟨g, i, none⟩ = some (.int .u8 (xs.getD i 0)) := by
  have := World.ownsRow.cellAt h i (by omega)
  rw [this, getD_byts xs i hi]
theorem Own.free {w : World} {B g cap : Nat} {xs : List Int} (h : Own w B g cap xs) (i : Nat) : w.frozen? ⟨g, i, none⟩ = false := World.ownsRow.frozenAt h i
theorem Own.store {w : World} {B g cap : Nat} {xs : List Int} (h : Own w B g cap xs) (i : Nat) (x : Int) : Own (w.setCell ⟨g, i, none⟩ (.int .u8 x)) B g cap (xs.set i x) := by
  have := (World.ownsRow.stored h i (.int .u8 x)).1
  unfold Own
  simpa [byts, List.map_set] using this
theorem Own.row {w : World} {B g cap : Nat} {xs : List Int} (h : Own w B g cap xs) : Row w (some ⟨g, 0, none⟩) xs :=
  fun _ => ⟨g, 0, rfl, fun i hi => by simpa using h.cell i hi⟩

theorem cell_lt {w : World} {b o : Nat} {v : Value} (h : w.cell? ⟨b, o, none⟩ = some v) : b < w.heap.size := by
  rcases Nat.lt_or_ge b w.heap.size with h' | h'
  · exact h'
  · simp [World.cell?, Array.getElem?_eq_none h'] at h

theorem Row.below {w w' : World} {p : Option Addr} {xs : List Int} (h : Row w p xs) (hb : Below w.heap.size w w') : Row w' p xs := fun h0 => by
  obtain ⟨b, o, rfl, hc⟩ := h h0
  exact ⟨b, o, rfl, fun i hi => by rw [hb.cell (p := ⟨b, o + i, none⟩) (cell_lt (hc i hi))]; exact hc i hi⟩

theorem below_step {w w1 w2 : World} (h : Below w.heap.size w w1) (k : Below w1.heap.size w1 w2) : Below w.heap.size w w2 := h.trans (k.mono h.size)
theorem below_alloc {w w1 : World} (h : Below w.heap.size w w1) (o : Obj) : Below w.heap.size w (w1.alloc o) := h.alloc h.size o
theorem below_draws {w w1 : World} (h : Below w.heap.size w w1) (n : Nat) : Below w.heap.size w (w1.drewN n) := below_drewN h n
theorem below_self (w : World) : Below w.heap.size w w := Below.refl _ _
theorem new_alloc (w : World) (o : Obj) : Below w.heap.size w (w.alloc o) := (Below.refl _ _).alloc (Nat.le_refl _) _

theorem Row.drewN {w : World} {p : Option Addr} {xs : List Int} (h : Row w p xs) (n : Nat) : Row (w.drewN n) p xs := h
theorem Own.drewN {w : World} {B g cap : Nat} {xs : List Int} (h : Own w B g cap xs) (n : Nat) : Own (w.drewN n) B g cap xs := h

end Go.Proofs.YtkianldkbfjehaaGreatDoor

/- Slices whose elements take one cell each (numbers, texts): in a block of their own, or nil; what a store and an append do to them. -/
namespace Go.Proofs.YtkianldkbfjehaaGreatDoor
open Go.RowKit

/-- how a slice of such elements lies -/
def GRow (w : World) (p : Option Addr) (vs : List Value) : Prop :=
  0 < vs.length → ∃ b o, p = some ⟨b, o, none⟩ ∧ ∀ i, i < vs.length → w.cell? ⟨b, o + i, none⟩ = vs[i]?
/-- a slice of elements of the type T that the call has made (its block's number B or above), or nil -/
def GOwnV (T : TypeId) (w : World) (B : Nat) (v : Value) (vs : List Value) : Prop := w.ownsRow B T 1 v vs.length vs
/-- the same, not nil -/
def GOwn (T : TypeId) (w : World) (B g cap : Nat) (vs : List Value) : Prop := w.ownsRow B T 1 (.slice (some ⟨g, 0, none⟩) vs.length cap) vs.length vs

theorem GOwn.parts {T : TypeId} {w : World} {B g cap : Nat} {vs : List Value} (h : GOwn T w B g cap vs) :
    ∃ cur, B ≤ g ∧ w.heap[g]? = some (.cells cur T (0, 0)) ∧ vs.length ≤ cap ∧ cap ≤ maxLen ∧ cur.size = cap ∧ cur.toList.take vs.length = vs := by
  rcases h.2 with ⟨h', _⟩ | ⟨g', cap', cur, h', h1, h2, h3, h4, h5, h6⟩
  · simp at h'
  · simp only [Value.slice.injEq, Option.some.injEq, Addr.mk.injEq, and_true, true_and] at h'
    obtain ⟨rfl, rfl⟩ := h'
    exact ⟨cur, h1, h2, h3, h4, by simpa using h5, by simpa using h6⟩
theorem GOwn.mk {T : TypeId} {w : World} {B g cap : Nat} {vs : List Value} {cur : Array Value} (h1 : B ≤ g) (h2 : w.heap[g]? = some (.cells cur T (0, 0))) (h3 : vs.length ≤ cap) (h4 : cap ≤ maxLen) (h5 : cur.size = cap) (h6 : cur.toList.take vs.length = vs) : GOwn T w B g cap vs :=
  ⟨by simp, .inr ⟨g, cap, cur, rfl, h1, h2, h3, h4, by simpa using h5, by simpa using h6⟩⟩
theorem GOwn.lt {T : TypeId} {w : World} {B g cap : Nat} {vs : List Value} (h : GOwn T w B g cap vs) : g < w.heap.size := by
  obtain ⟨cur, _, h2, _⟩ := h.parts
  rcases Nat.lt_or_ge g w.heap.size with h | h
  · exact h
  · rw [Array.getElem?_eq_none h] at h2; cases h2
theorem GOwn.base {T : TypeId} {w : World} {B g cap : Nat} {vs : List Value} (h : GOwn T w B g cap vs) : B ≤ g := by obtain ⟨cur, h1, _⟩ := h.parts; exact h1
theorem GOwn.cap {T : TypeId} {w : World} {B g cap : Nat} {vs : List Value} (h : GOwn T w B g cap vs) : vs.length ≤ cap := by obtain ⟨cur, _, _, h1, _⟩ := h.parts; exact h1
theorem GOwn.lower {T : TypeId} {w : World} {B B' g cap : Nat} {vs : List Value} (h : GOwn T w B g cap vs) (hB : B' ≤ g) : GOwn T w B' g cap vs := by
  obtain ⟨cur, _, h2, h3, h4, h5, h6⟩ := h.parts
  exact GOwn.mk hB h2 h3 h4 h5 h6
theorem GOwn.keep {T : TypeId} {w w' : World} {B C g cap : Nat} {vs : List Value} (h : GOwn T w B g cap vs) (hb : Below C w w') (hg : g < C) : GOwn T w' B g cap vs := by
  obtain ⟨cur, h1, h2, h3, h4, h5, h6⟩ := h.parts
  exact GOwn.mk h1 (by rw [hb.block g hg]; exact h2) h3 h4 h5 h6
theorem GOwn.below {T : TypeId} {w w' : World} {B g cap : Nat} {vs : List Value} (h : GOwn T w B g cap vs) (hb : Below w.heap.size w w') : GOwn T w' B g cap vs := h.keep hb h.lt
theorem GOwn.cell {T : TypeId} {w : World} {B g cap : Nat} {vs : List Value} (h : GOwn T w B g cap vs) (i : Nat) (hi : i < vs.length) : w.cell? ⟨g, i, none⟩ = vs[i]? := World.ownsRow.cellAt h i (by omega)
theorem GOwn.free {T : TypeId} {w : World} {B g cap : Nat} {vs : List Value} (h : GOwn T w B g cap vs) (i : Nat) : w.frozen? ⟨g, i, none⟩ = false := World.ownsRow.frozenAt h i
theorem GOwn.store {T : TypeId} {w : World} {B g cap : Nat} {vs : List Value} (h : GOwn T w B g cap vs) (i : Nat) (x : Value) : GOwn T (w.setCell ⟨g, i, none⟩ x) B g cap (vs.set i x) := by
  have := (World.ownsRow.stored h i x).1
  unfold GOwn
  simpa using this
theorem GOwn.row {T : TypeId} {w : World} {B g cap : Nat} {vs : List Value} (h : GOwn T w B g cap vs) : GRow w (some ⟨g, 0, none⟩) vs :=
  fun _ => ⟨g, 0, rfl, fun i hi => by simpa using h.cell i hi⟩
theorem GOwn.grown {T : TypeId} {w w' : World} {B g r cap : Nat} {vs : List Value} (ho : GOwn T w B g cap vs) (hg : w.grownBy w' (some r)) (hne : g ≠ r) : GOwn T w' B g cap vs := by
  obtain ⟨cur, h1, h2, h3, h4, h5, h6⟩ := ho.parts
  exact GOwn.mk h1 ((hg.block g ho.lt (fun e => hne (by injection e))).trans h2) h3 h4 h5 h6
theorem GOwn.lit (T : TypeId) (w : World) (vs : List Value) (hm : vs.length ≤ maxLen) : GOwn T (w.alloc (.cells vs.toArray T)) w.heap.size w.heap.size vs.length vs :=
  GOwn.mk (Nat.le_refl _) (heap_alloc_new w _) (Nat.le_refl _) hm (by simp) (by rw [List.take_of_length_le (by simp)])
theorem GOwn.drewN {T : TypeId} {w : World} {B g cap : Nat} {vs : List Value} (h : GOwn T w B g cap vs) (n : Nat) : GOwn T (w.drewN n) B g cap vs := h

theorem GRow.below {w w' : World} {p : Option Addr} {vs : List Value} (h : GRow w p vs) (hb : Below w.heap.size w w') : GRow w' p vs := fun h0 => by
  obtain ⟨b, o, rfl, hc⟩ := h h0
  refine ⟨b, o, rfl, fun i hi => ?_⟩
  have e := hc i hi
  rw [List.getElem?_eq_getElem hi] at e
  rw [hb.cell (p := ⟨b, o + i, none⟩) (cell_lt e), hc i hi]
theorem GRow.drewN {w : World} {p : Option Addr} {vs : List Value} (h : GRow w p vs) (n : Nat) : GRow (w.drewN n) p vs := h
theorem GRow.nil (w : World) (p : Option Addr) : GRow w p [] := fun h => absurd h (Nat.lt_irrefl 0)

theorem GOwn.val {T : TypeId} {w : World} {B g cap : Nat} {vs : List Value} (h : GOwn T w B g cap vs) : GOwnV T w B (.slice (some ⟨g, 0, none⟩) vs.length cap) vs := h
theorem GOwnV.nil (T : TypeId) (w : World) (B : Nat) : GOwnV T w B (.slice none 0 0) [] := World.ownsRow_nil _ _ _ _
theorem GOwnV.alloc {T : TypeId} {w : World} {B : Nat} {v : Value} {vs : List Value} (h : GOwnV T w B v vs) (o : Obj) : GOwnV T (w.alloc o) B v vs := World.ownsRow.alloc h o
theorem GOwnV.drewN {T : TypeId} {w : World} {B : Nat} {v : Value} {vs : List Value} (h : GOwnV T w B v vs) (n : Nat) : GOwnV T (w.drewN n) B v vs := h
theorem GOwnV.shape {T : TypeId} {w : World} {B : Nat} {v : Value} {vs : List Value} (h : GOwnV T w B v vs) : (v = .slice none 0 0 ∧ vs = []) ∨ ∃ g cap, v = .slice (some ⟨g, 0, none⟩) vs.length cap ∧ GOwn T w B g cap vs := by
  rcases h.2 with ⟨h1, h2⟩ | ⟨g, cap, cur, h1, h2⟩
  · exact .inl ⟨h1, List.eq_nil_of_length_eq_zero h2⟩
  · subst h1
    exact .inr ⟨g, cap, rfl, h⟩
theorem GOwnV.below {T : TypeId} {w w' : World} {B : Nat} {v : Value} {vs : List Value} (h : GOwnV T w B v vs) (hb : Below w.heap.size w w') : GOwnV T w' B v vs := by
  rcases h.shape with ⟨rfl, rfl⟩ | ⟨g, cap, rfl, ho⟩
  · exact GOwnV.nil _ _ _
  · exact (ho.below hb).val
theorem GOwnV.slice {T : TypeId} {w : World} {B : Nat} {v : Value} {vs : List Value} (h : GOwnV T w B v vs) : ∃ p cap, v = .slice p vs.length cap ∧ GRow w p vs ∧ vs.length ≤ cap ∧ (p = none → cap = 0) := by
  rcases h.shape with ⟨rfl, rfl⟩ | ⟨g, cap, rfl, ho⟩
  · exact ⟨none, 0, rfl, GRow.nil _ _, Nat.le_refl _, fun _ => rfl⟩
  · exact ⟨_, cap, rfl, ho.row, ho.cap, fun h => by cases h⟩
theorem GOwnV.lowerV {T : TypeId} {w : World} {B B' : Nat} {v : Value} {vs : List Value} (h : GOwnV T w B v vs) (hB : B' ≤ B) : GOwnV T w B' v vs := by
  rcases h.shape with ⟨rfl, rfl⟩ | ⟨g, cap, rfl, ho⟩
  · exact GOwnV.nil _ _ _
  · exact (ho.lower (Nat.le_trans hB ho.base)).val

/-- what append asks of the slice's type t and its element's type T -/
def Elem (t T : TypeId) (by_ : Nat) : Prop := Tryz.prog.underlying t = some (.slice T) ∧ ∃ z, z.cells.size = 1 ∧ (Tryz.prog.info? T).map (fun i => (i.zero, i.size, i.bytes)) = some (some z, 1, by_)

/-- 'append(out, ..)' on such a slice -/
theorem gpush {ops : Array Oper} {rest : List Oper} {o : Oper} {a : Act} {Q : Exit → Act → World → Prop} {t T : TypeId} {by_ : Nat} (he : Elem t T by_) (w : World) (hgd : o.guard = none) (s x : Operand)
    (ho : o.op = .call { callee := .builtin .append, args := #[s, x], argTypes := #[t, t] }) (B : Nat) (v : Value) (vs : List Value) (hs : a.eval s = v) (hown : GOwnV T w B v vs)
    (ad : Addr) (m c : Nat) (ns : List Value) (hx : a.eval x = .slice (some ad) m c) (hl : ns.length = m) (hnews : ∀ j u, ns[j]? = some u → w.cell? (ad.add j) = some u) (h1 : ∀ u ∈ ns, u.oneCell' = true)
    (hlen : vs.length + m ≤ 140737488355328) (hby : (vs.length + m) * by_ ≤ 140737488355328) (hB : B ≤ w.heap.size)
    (h : ∀ v' w', GOwnV T w' B v' (vs ++ ns) → w.grownBy w' v.ownBlock → (∀ w0, Below B w0 w → Below B w0 w') → (v' = .slice none 0 0 ↔ v = .slice none 0 0 ∧ m = 0) → wpList Tryz.prog ops Q rest (a.put o.dst v') w') :
    wpList Tryz.prog ops Q (o :: rest) a w := by
  obtain ⟨hu, z, hzc, hinfo⟩ := he
  obtain ⟨i0, hi, hz0, hz1, hz2⟩ := info_parts hinfo
  refine wpList_append_own w hgd s x t ho B T i0 z 1 by_ hu hi hz0 hz1 hz2 hzc (by decide) v vs.length vs hs hown ad m c ns hx (by simp [hl]) hnews h1 (by unfold maxLen; omega) hby hB ?_
  intro v' w' h2 h3 h4
  refine h v' w' ?_ h3 (fun w0 hb => hb.grown h3 hB fun k hk => ?_) h4
  · unfold GOwnV
    rw [List.length_append, hl]
    exact h2
  · rcases hown.shape with ⟨rfl, _⟩ | ⟨g, cap, rfl, ho⟩
    · simp [Value.ownBlock] at hk
    · simp [Value.ownBlock] at hk
      subst hk
      exact ho.base

end Go.Proofs.YtkianldkbfjehaaGreatDoor

/- What switchyardkit.SameTexts, SameInts (of the same elements), CopyTexts and CopyInts answer. -/
namespace Go.Proofs.YtkianldkbfjehaaGreatDoor
open Go.RowKit

abbrev strs (ss : List ByteArray) : List Value := ss.map Value.string
abbrev nums (zs : List Int) : List Value := zs.map (Value.int .i64)

theorem strs_at (ss : List ByteArray) (k : Nat) (h : k < ss.length) : (strs ss)[k]? = some (.string ss[k]) := by simp [strs, h]
theorem nums_at (zs : List Int) (k : Nat) (h : k < zs.length) : (nums zs)[k]? = some (.int .i64 zs[k]) := by simp [nums, h]
theorem Tryz.elemS : Elem 125 9 16 := ⟨Tryz.underlying125, .string ByteArray.empty, rfl, by kernel_rfl⟩
theorem Tryz.elemI : Elem 48 3 8 := ⟨Tryz.underlying48, .int .i64 0, rfl, by kernel_rfl⟩


end Go.Proofs.YtkianldkbfjehaaGreatDoor

/- Plain facts on texts cut into lines; what switchyardref03.Lines answers. -/
namespace Go.Proofs.YtkianldkbfjehaaGreatDoor
open Go.RowKit

/-- a text's lines: cut behind each byte 10, these left out; what stands behind the last one is a line, too, unless it is empty -/
def linesL : List UInt8 → List (List UInt8)
  | [] => []
  | c :: cs => if c = 10 then [] :: linesL cs else match linesL cs with
    | [] => [[c]]
    | l :: ls => (c :: l) :: ls

def bytesOf (l : List UInt8) : ByteArray := ⟨l.toArray⟩
def texts (ls : List (List UInt8)) : List ByteArray := ls.map bytesOf

theorem linesL_cut (cur rest : List UInt8) (h : ∀ c ∈ cur, c ≠ 10) : linesL (cur ++ 10 :: rest) = cur :: linesL rest := by
  induction cur with
  | nil => simp [linesL]
  | cons c cur ih =>
    have hc : c ≠ 10 := h c (by simp)
    rw [List.cons_append, linesL, if_neg hc, ih fun d hd => h d (by simp [hd])]
theorem linesL_last (cur : List UInt8) (h : ∀ c ∈ cur, c ≠ 10) (hne : cur ≠ []) : linesL cur = [cur] := by
  induction cur with
  | nil => exact absurd rfl hne
  | cons c cur ih =>
    have hc : c ≠ 10 := h c (by simp)
    rw [linesL, if_neg hc]
    cases cur with
    | nil => simp [linesL]
    | cons d ds => rw [ih (fun e he => h e (by simp [he])) (by simp)]
theorem linesL_length (l : List UInt8) : (linesL l).length ≤ l.length := by
  induction l with
  | nil => simp [linesL]
  | cons c cs ih =>
    rw [linesL]
    split
    · simp; omega
    · split
      · simp
      · rename_i e; rw [e] at ih; simp at ih ⊢; omega

theorem drop_at (l : List UInt8) (i : Nat) (h : i < l.length) : l.drop i = l[i] :: l.drop (i + 1) := List.drop_eq_getElem_cons h
/-- the piece from f up to i -/
def piece (l : List UInt8) (f i : Nat) : List UInt8 := (l.drop f).take (i - f)
theorem piece_split (l : List UInt8) (f i : Nat) (hf : f ≤ i) : l.drop f = piece l f i ++ l.drop i := by
  unfold piece
  have : l.drop i = (l.drop f).drop (i - f) := by rw [List.drop_drop]; congr 1; omega
  rw [this, List.take_append_drop]
theorem piece_snoc (l : List UInt8) (f i : Nat) (hf : f ≤ i) (hi : i < l.length) : piece l f (i + 1) = piece l f i ++ [l[i]] := by
  unfold piece
  rw [show i + 1 - f = (i - f) + 1 by omega, List.take_succ_eq_append_getElem (by simp; omega)]
  congr 2
  simp only [List.getElem_drop]
  congr 1; omega
theorem piece_self (l : List UInt8) (i : Nat) : piece l i i = [] := by simp [piece]

end Go.Proofs.YtkianldkbfjehaaGreatDoor

/- What switchyardref03.Lines answers, for every text. -/
namespace Go.Proofs.YtkianldkbfjehaaGreatDoor
open Go.RowKit

theorem byte_ten (c : UInt8) : ((c.toNat : Int) == 10) = decide (c = 10) := by
  rw [Bool.eq_iff_iff]
  simp [← UInt8.toNat_inj]
  omega

theorem extract_piece (s : ByteArray) (f k : Nat) : s.extract f k = bytesOf (piece s.data.toList f k) := by
  apply ByteArray.ext
  rw [ByteArray.data_extract]
  apply Array.toList_inj.1
  simp [bytesOf, piece, Array.toList_extract, List.extract]

theorem list_at (s : ByteArray) (k : Nat) (_h : k < s.size) (h' : k < s.data.toList.length) : s.data.toList[k] = s[k] := by simp [ByteArray.getElem_eq_getElem_data]

end Go.Proofs.YtkianldkbfjehaaGreatDoor
