/- Texts put together: Nums, Own, Open, LinL, Blk, OpenS, Bas, W7, Read. -/
import Derived.WalkKit
import Derived.WalkSpells
import Derived.WalkLawsBesides
import Derived.Laws.BitsAllLaws
import Derived.Test.YtnpaijbkhmnfpaaGreatProg
import Derived.Laws.CopyOwn
import Derived.Test.YtnpaijbkhmnfpaaGreatRows
import Derived.ProofKit
import Derived.OpenShut
import Derived.ShutString
import Derived.ChangeOld
import Derived.Below
import Derived.SizedLaws
import Derived.Maps.OwnSet
import Derived.Maps.Ext
import Derived.Maps.Keyed
import Derived.Deep.MidRow
import Derived.RangeFuncBox
import Derived.Deep.Grids
import Derived.Deep.AppendLies

/- Plain facts on numbers and lists of bytes: what four bytes say, and back. -/
namespace Go.Proofs.YtnpaijbkhmnfpaaGreat
open Go.RowKit

theorem or_join (i : Nat) (a b : Int) (h0 : 0 ≤ a) (ha : a < 2 ^ i) (hb0 : 0 ≤ b) (hb : b * 2 ^ i < 4294967296) (hi : (2 : Int) ^ i ≤ 4294967296) :
    bits .or .u32 a (b * 2 ^ i) = a + b * 2 ^ i := by
  have hp : (0 : Int) ≤ 2 ^ i := by
    have : ((2 ^ i : Nat) : Int) = 2 ^ i := by simp
    omega
  have hm : 0 ≤ b * 2 ^ i := Int.mul_nonneg hb0 hp
  rw [u32_or a (b * 2 ^ i) h0 (by omega) hm hb]
  obtain ⟨x, rfl⟩ := Int.eq_ofNat_of_zero_le h0
  obtain ⟨y, rfl⟩ := Int.eq_ofNat_of_zero_le hb0
  have e : ((y : Int) * 2 ^ i).toNat = y * 2 ^ i := by
    have : ((y : Int) * 2 ^ i) = ((y * 2 ^ i : Nat) : Int) := by simp
    rw [this, Int.toNat_natCast]
  rw [e, Int.toNat_natCast, Nat.or_comm, nat_join i (y * 2 ^ i) x (Nat.mul_mod_left _ _) (by
    have : ((x : Nat) : Int) < ((2 ^ i : Nat) : Int) := by simpa using ha
    omega)]
  simp
  omega

def num2 (z0 z1 : Int) : Int := z0 + 256 * z1
def num4 (z0 z1 z2 z3 : Int) : Int := z0 + 256 * z1 + 65536 * z2 + 16777216 * z3

theorem or4 (z0 z1 z2 z3 : Int) (r0 : 0 ≤ z0 ∧ z0 ≤ 255) (r1 : 0 ≤ z1 ∧ z1 ≤ 255) (r2 : 0 ≤ z2 ∧ z2 ≤ 255) (r3 : 0 ≤ z3 ∧ z3 ≤ 255) :
    bits .or .u32 (bits .or .u32 (bits .or .u32 (bits .or .u32 0 z0) (z1 * 256)) (z2 * 65536)) (z3 * 16777216) = num4 z0 z1 z2 z3 := by
  have e0 := or_join 0 0 z0 (by omega) (by decide) r0.1 (by omega) (by decide)
  have e1 := or_join 8 z0 z1 r0.1 (by omega) r1.1 (by omega) (by decide)
  have e2 := or_join 16 (z0 + z1 * 256) z2 (by omega) (by omega) r2.1 (by omega) (by decide)
  have e3 := or_join 24 (z0 + z1 * 256 + z2 * 65536) z3 (by omega) (by omega) r3.1 (by omega) (by decide)
  simp only [Int.reducePow, Int.mul_one, Int.zero_add] at e0 e1 e2 e3
  rw [e0, e1, e2, e3]
  unfold num4
  omega

theorem or2 (z0 z1 : Int) (r0 : 0 ≤ z0 ∧ z0 ≤ 255) (r1 : 0 ≤ z1 ∧ z1 ≤ 255) :
    bits .or .u32 (bits .or .u32 0 z0) (z1 * 256) = num2 z0 z1 := by
  have e0 := or_join 0 0 z0 (by omega) (by decide) r0.1 (by omega) (by decide)
  have e1 := or_join 8 z0 z1 r0.1 (by omega) r1.1 (by omega) (by decide)
  simp only [Int.reducePow, Int.mul_one, Int.zero_add] at e0 e1
  rw [e0, e1]
  unfold num2
  omega

theorem num4_bd {z0 z1 z2 z3 : Int} (r0 : 0 ≤ z0 ∧ z0 ≤ 255) (r1 : 0 ≤ z1 ∧ z1 ≤ 255) (r2 : 0 ≤ z2 ∧ z2 ≤ 255) (r3 : 0 ≤ z3 ∧ z3 ≤ 255) :
    0 ≤ num4 z0 z1 z2 z3 ∧ num4 z0 z1 z2 z3 ≤ 4294967295 := by unfold num4; omega
theorem num2_bd {z0 z1 : Int} (r0 : 0 ≤ z0 ∧ z0 ≤ 255) (r1 : 0 ≤ z1 ∧ z1 ≤ 255) :
    0 ≤ num2 z0 z1 ∧ num2 z0 z1 ≤ 65535 := by unfold num2; omega

/-- each number a byte's (behind the end: nought) -/
def Byt (xs : List Int) : Prop := ∀ i, 0 ≤ xs.getD i 0 ∧ xs.getD i 0 ≤ 255

/-- how a slice of bytes lies: where there is a byte, at an address, with its cells -/
def Row (w : World) (p : Option Addr) (xs : List Int) : Prop :=
  0 < xs.length → ∃ b o, p = some ⟨b, o, none⟩ ∧ ∀ i, i < xs.length → w.cell? ⟨b, o + i, none⟩ = some (.int .u8 (xs.getD i 0))

def n4 (xs : List Int) (a : Nat) : Int := num4 (xs.getD a 0) (xs.getD (a + 1) 0) (xs.getD (a + 2) 0) (xs.getD (a + 3) 0)
def n2 (xs : List Int) (a : Nat) : Int := num2 (xs.getD a 0) (xs.getD (a + 1) 0)
theorem n4_bd {xs : List Int} (h : Byt xs) (a : Nat) : 0 ≤ n4 xs a ∧ n4 xs a ≤ 4294967295 := num4_bd (h _) (h _) (h _) (h _)
theorem n2_bd {xs : List Int} (h : Byt xs) (a : Nat) : 0 ≤ n2 xs a ∧ n2 xs a ≤ 65535 := num2_bd (h _) (h _)

end Go.Proofs.YtnpaijbkhmnfpaaGreat

/- Slices of bytes that a call has made: what they hold, what a store does to them, that they stay. -/
namespace Go.Proofs.YtnpaijbkhmnfpaaGreat
open Go.RowKit

theorem Tryz.info5 : (Tryz.prog.info? 5).map (fun i => (i.zero, i.size, i.bytes)) = some (some (.int .u8 0), 1, 1) := by kernel_rfl
theorem Tryz.size5 : (Tryz.prog.info? 5).map (·.size) = some 1 := by kernel_rfl

abbrev byts (xs : List Int) : List Value := xs.map (Value.int .u8)

/-- a slice of bytes in a block of its own (its number B or above), with room for cap -/
def Own (w : World) (B g cap : Nat) (xs : List Int) : Prop := w.ownsRow B 5 1 (.slice (some ⟨g, 0, none⟩) xs.length cap) xs.length (byts xs)

theorem Own.parts {w : World} {B g cap : Nat} {xs : List Int} (h : Own w B g cap xs) :
    ∃ cur, B ≤ g ∧ w.heap[g]? = some (.cells cur 5 (0, 0)) ∧ xs.length ≤ cap ∧ cap ≤ maxLen ∧ cur.size = cap ∧ cur.toList.take xs.length = byts xs := by
  rcases h.2 with ⟨h', _⟩ | ⟨g', cap', cur, h', h1, h2, h3, h4, h5, h6⟩
  · simp at h'
  · simp only [Value.slice.injEq, Option.some.injEq, Addr.mk.injEq, and_true, true_and] at h'
    obtain ⟨rfl, rfl⟩ := h'
    exact ⟨cur, h1, h2, h3, h4, by simpa using h5, by simpa using h6⟩

theorem Own.mk {w : World} {B g cap : Nat} {xs : List Int} {cur : Array Value} (h1 : B ≤ g) (h2 : w.heap[g]? = some (.cells cur 5 (0, 0))) (h3 : xs.length ≤ cap) (h4 : cap ≤ maxLen) (h5 : cur.size = cap) (h6 : cur.toList.take xs.length = byts xs) : Own w B g cap xs :=
  ⟨by simp, .inr ⟨g, cap, cur, rfl, h1, h2, h3, h4, by simpa using h5, by simpa using h6⟩⟩

theorem Own.lt {w : World} {B g cap : Nat} {xs : List Int} (h : Own w B g cap xs) : g < w.heap.size := by
  obtain ⟨cur, _, h2, _⟩ := h.parts
  rcases Nat.lt_or_ge g w.heap.size with h | h
  · exact h
  · rw [Array.getElem?_eq_none h] at h2; cases h2
theorem Own.base {w : World} {B g cap : Nat} {xs : List Int} (h : Own w B g cap xs) : B ≤ g := by obtain ⟨cur, h1, _⟩ := h.parts; exact h1
theorem Own.cap {w : World} {B g cap : Nat} {xs : List Int} (h : Own w B g cap xs) : xs.length ≤ cap := by obtain ⟨cur, _, _, h1, _⟩ := h.parts; exact h1
theorem Own.lower {w : World} {B B' g cap : Nat} {xs : List Int} (h : Own w B g cap xs) (hB : B' ≤ B) : Own w B' g cap xs := by
  obtain ⟨cur, h1, h2, h3, h4, h5, h6⟩ := h.parts
  exact Own.mk (by omega) h2 h3 h4 h5 h6
theorem Own.raise {w : World} {B B' g cap : Nat} {xs : List Int} (h : Own w B g cap xs) (hB : B' ≤ g) : Own w B' g cap xs := by
  obtain ⟨cur, h1, h2, h3, h4, h5, h6⟩ := h.parts
  exact Own.mk hB h2 h3 h4 h5 h6
theorem Own.below {w w' : World} {B g cap : Nat} {xs : List Int} (h : Own w B g cap xs) (hb : Below w.heap.size w w') : Own w' B g cap xs := by
  obtain ⟨cur, h1, h2, h3, h4, h5, h6⟩ := h.parts
  exact Own.mk h1 (by rw [hb.block g h.lt]; exact h2) h3 h4 h5 h6

theorem getD_byts (xs : List Int) (i : Nat) (h : i < xs.length) : (byts xs)[i]? = some (.int .u8 (xs.getD i 0)) := by
  simp [byts, List.getElem?_eq_getElem h, List.getD]

theorem Own.cell {w : World} {B g cap : Nat} {xs : List Int} (h : Own w B g cap xs) (i : Nat) (hi : i < xs.length) : w.cell? ⟨g, i, none⟩ = some (.int .u8 (xs.getD i 0)) := by
  have := World.ownsRow.cellAt h i (by omega)
  rw [this, getD_byts xs i hi]
theorem Own.free {w : World} {B g cap : Nat} {xs : List Int} (h : Own w B g cap xs) (i : Nat) : w.frozen? ⟨g, i, none⟩ = false := World.ownsRow.frozenAt h i
theorem Own.store {w : World} {B g cap : Nat} {xs : List Int} (h : Own w B g cap xs) (i : Nat) (x : Int) : Own (w.setCell ⟨g, i, none⟩ (.int .u8 x)) B g cap (xs.set i x) := by
  have := (World.ownsRow.stored h i (.int .u8 x)).1
  unfold Own
  simpa [byts, List.map_set] using this
theorem Own.row {w : World} {B g cap : Nat} {xs : List Int} (h : Own w B g cap xs) : Row w (some ⟨g, 0, none⟩) xs :=
  fun _ => ⟨g, 0, rfl, fun i hi => by simpa using h.cell i hi⟩

theorem cell_lt {w : World} {b o : Nat} {v : Value} (h : w.cell? ⟨b, o, none⟩ = some v) : b < w.heap.size := by
  rcases Nat.lt_or_ge b w.heap.size with h' | h'
  · exact h'
  · simp [World.cell?, Array.getElem?_eq_none h'] at h

theorem Row.below {w w' : World} {p : Option Addr} {xs : List Int} (h : Row w p xs) (hb : Below w.heap.size w w') : Row w' p xs := fun h0 => by
  obtain ⟨b, o, rfl, hc⟩ := h h0
  exact ⟨b, o, rfl, fun i hi => by rw [hb.cell (p := ⟨b, o + i, none⟩) (cell_lt (hc i hi))]; exact hc i hi⟩

theorem below_step {w w1 w2 : World} (h : Below w.heap.size w w1) (k : Below w1.heap.size w1 w2) : Below w.heap.size w w2 := h.trans (k.mono h.size)
theorem below_alloc {w w1 : World} (h : Below w.heap.size w w1) (o : Obj) : Below w.heap.size w (w1.alloc o) := h.alloc h.size o
theorem below_draws {w w1 : World} (h : Below w.heap.size w w1) (n : Nat) : Below w.heap.size w (w1.drewN n) := below_drewN h n
theorem below_self (w : World) : Below w.heap.size w w := Below.refl _ _
theorem new_alloc (w : World) (o : Obj) : Below w.heap.size w (w.alloc o) := (Below.refl _ _).alloc (Nat.le_refl _) _

theorem Row.drewN {w : World} {p : Option Addr} {xs : List Int} (h : Row w p xs) (n : Nat) : Row (w.drewN n) p xs := h
theorem Own.drewN {w : World} {B g cap : Nat} {xs : List Int} (h : Own w B g cap xs) (n : Nat) : Own (w.drewN n) B g cap xs := h

end Go.Proofs.YtnpaijbkhmnfpaaGreat

/- How the arguments of a law are opened: a slice of bytes, a text, numbers; and that they lie within the form's own reach. -/
namespace Go.Proofs.YtnpaijbkhmnfpaaGreat
open Go.ChangeShapes Go.WideShapes Go.ChangeAt Go.RowKit

theorem Tryz.own : ownKnob Tryz.prog.godebug = none := by kernel_rfl
theorem Tryz.laidOut : laidOutB Tryz.prog = true := by kernel_rfl
theorem Tryz.cells5 : Tryz.prog.cellsOf 5 = 1 := by kernel_rfl
theorem Tryz.bytes5 : Tryz.prog.bytesOf 5 = 1 := by kernel_rfl

theorem wf_u8 {x : Int} (h : (Lit.int .u8 x).wf = true) : 0 ≤ x ∧ x ≤ 255 := by
  have h1 : IntKind.u8.min = 0 := rfl
  have h2 : IntKind.u8.max = 255 := rfl
  simp only [Lit.wf, Bool.and_eq_true, decide_eq_true_eq] at h
  omega
theorem wf_u32 {x : Int} (h : (Lit.int .u32 x).wf = true) : 0 ≤ x ∧ x ≤ 4294967295 := by
  have h1 : IntKind.u32.min = 0 := rfl
  have h2 : IntKind.u32.max = 4294967295 := rfl
  simp only [Lit.wf, Bool.and_eq_true, decide_eq_true_eq] at h
  omega
theorem wf_i32 {x : Int} (h : (Lit.int .i32 x).wf = true) : -2147483648 ≤ x ∧ x ≤ 2147483647 := by
  have h1 : IntKind.i32.min = -2147483648 := rfl
  have h2 : IntKind.i32.max = 2147483647 := rfl
  simp only [Lit.wf, Bool.and_eq_true, decide_eq_true_eq] at h
  omega
theorem wf_i64 {x : Int} (h : (Lit.int .i64 x).wf = true) : -9223372036854775808 ≤ x ∧ x ≤ 9223372036854775807 := by
  have h1 : IntKind.i64.min = -9223372036854775808 := rfl
  have h2 : IntKind.i64.max = 9223372036854775807 := rfl
  simp only [Lit.wf, Bool.and_eq_true, decide_eq_true_eq] at h
  omega

theorem getD_of_mem {P : Int → Prop} (h0 : P 0) {zs : List Int} (h : ∀ n ∈ zs, P n) (i : Nat) : P (zs.getD i 0) := by
  by_cases hi : i < zs.length
  · have := h zs[i] (List.getElem_mem hi)
    simpa [List.getD, hi] using this
  · simpa [List.getD, List.getElem?_eq_none (show zs.length ≤ i by omega)] using h0

/-- a slice of bytes that came in: its bytes, where they lie, and its datum -/
theorem opened {H : Type} {enc : TypeId × Value → H} {W : World} {a : Option Addr} {n c : Nat} {d : DataW H} {p : List MemPlace}
    (h : DataW.Trod enc Tryz.prog W 0 (fun _ => true) true 26 (.slice a n c) d p) :
    ∃ xs : List Int, xs.length = n ∧ n ≤ c ∧ Row W a xs ∧ Byt xs ∧ ((d = .nil ∧ c = 0) ∨ ∃ es sp, d = .slice es sp ∧ es.length + sp.length = c) := by
  obtain ⟨fuel, hf⟩ := h
  rcases open_ints Tryz.underlying26 Tryz.underlying5 Tryz.cells5 hf with ⟨hcs, hx⟩ | ⟨ad, l, cc, zs, hcs, _, hl, hm, hz, hx, hcell, hwz⟩
  · simp [Value.cells] at hcs
    obtain ⟨rfl, rfl, rfl⟩ := hcs
    simp only [Prod.mk.injEq] at hx
    exact ⟨[], rfl, Nat.le_refl _, fun h => absurd h (Nat.lt_irrefl 0), fun i => by simp, .inl ⟨hx.1, rfl⟩⟩
  · simp [Value.cells] at hcs
    obtain ⟨rfl, rfl, rfl⟩ := hcs
    simp only [Prod.mk.injEq] at hx
    simp only [if_true] at hz
    have hlen : (zs.take n).length = n := by rw [List.length_take]; omega
    refine ⟨zs.take n, hlen, hl, fun h0 => ?_, fun i => getD_of_mem (P := fun x => 0 ≤ x ∧ x ≤ 255) (by decide) (fun x hx' => wf_u8 (hwz x (List.mem_of_mem_take hx'))) i, .inr ⟨_, _, hx.1, ?_⟩⟩
    · obtain ⟨b, o, s⟩ := ad
      obtain rfl : s = none := by simpa [Addr.add] using World.cell?_spot (hcell 0 (by omega))
      exact ⟨b, o, rfl, fun i hi => by rw [← Go.WideShapes.add_plain, hcell i (by omega)]; simp [List.getD, show i < n by omega]⟩
    · simp [lits]; omega

theorem reach_slice {H : Type} {ts : List TypeId} {ds : List (DataW H)} (hsz : (DataW.weightsEach Tryz.prog ts ds).all (· ≤ reachBytes) = true) {j : Nat} {d : DataW H} {c : Nat} (ht : ts[j]? = some 26) (hd : ds[j]? = some d)
    (h : (d = .nil ∧ c = 0) ∨ ∃ es sp, d = .slice es sp ∧ es.length + sp.length = c) : c ≤ 140737488351232 := by
  rcases h with ⟨_, rfl⟩ | ⟨es, sp, rfl, hl⟩
  · omega
  · have := sized_slice hsz (j := j) (t := 26) (e := 5) ht hd Tryz.underlying26
    rw [Tryz.bytes5] at this
    simp only [reachBytes] at this
    omega

theorem reach_string {H : Type} {ts : List TypeId} {ds : List (DataW H)} (hsz : (DataW.weightsEach Tryz.prog ts ds).all (· ≤ reachBytes) = true) {j : Nat} {s : ByteArray} (ht : ts[j]? = some 9) (hd : ds[j]? = some (.lit (.string s.data.toList))) : s.size ≤ 140737488351232 := by
  have := sized_string hsz (j := j) (t := 9) ht hd
  simp only [reachBytes] at this
  simpa using this

end Go.Proofs.YtnpaijbkhmnfpaaGreat

/- The granules that a hart holds: as a list that rises by granule, and as the datum of a map. -/
namespace Go.Proofs.YtnpaijbkhmnfpaaGreat
open Go.RowKit Go.Maps Go.WideMaps

/-- four bytes -/
structure F4 where
  a : Int
  b : Int
  c : Int
  d : Int
deriving DecidableEq
/-- a granule that is held -/
structure Ln where
  g : Int
  f : F4
deriving DecidableEq
def fV (f : F4) : Value := .agg #[.int .u8 f.a, .int .u8 f.b, .int .u8 f.c, .int .u8 f.d]
def fD (f : F4) : DataW Unit := .agg [.lit (.int .u8 f.a), .lit (.int .u8 f.b), .lit (.int .u8 f.c), .lit (.int .u8 f.d)]
def fElem (v : Value) : Option (DataW Unit × List MemPlace) := match v with
  | .agg cs => match cs.toList with
    | [.int .u8 a, .int .u8 b, .int .u8 c, .int .u8 d] => some (fD ⟨a, b, c, d⟩, [])
    | _ => none
  | _ => none
theorem fElem_mk (f : F4) : fElem (fV f) = some (fD f, []) := rfl
theorem fElem_inv {v : Value} {z : DataW Unit × List MemPlace} (h : fElem v = some z) : ∃ f : F4, v = fV f ∧ z = (fD f, []) := by
  unfold fElem at h
  split at h
  · rename_i cs
    split at h
    · rename_i a b c d hc
      injection h with h
      have e : cs = #[.int .u8 a, .int .u8 b, .int .u8 c, .int .u8 d] := by
        have : cs = cs.toList.toArray := by simp
        rw [this, hc]
      exact ⟨⟨a, b, c, d⟩, by rw [e]; rfl, h.symm⟩
    · cases h
  · cases h
theorem fD_inj {s t : F4} (h : fD s = fD t) : s = t := by
  obtain ⟨a, b, c, d⟩ := s
  obtain ⟨a', b', c', d'⟩ := t
  unfold fD at h
  injection h with h
  injection h with h1 h
  injection h with h2 h
  injection h with h3 h
  injection h with h4 h
  injection h1 with h1
  injection h1 with _ h1
  injection h2 with h2
  injection h2 with _ h2
  injection h3 with h3
  injection h3 with _ h3
  injection h4 with h4
  injection h4 with _ h4
  dsimp only at h1 h2 h3 h4
  subst h1 h2 h3 h4
  rfl

def ik (a : Int) : Lit := .int .i64 a
theorem ik_inj {a b : Int} (h : ik a = ik b) : a = b := by unfold ik at h; injection h
theorem ik_is (a : Int) : WideAt.IsKeyLit (ik a) := by simp [ik, WideAt.IsKeyLit]
def i64W (a : Int) : Prop := -9223372036854775808 ≤ a ∧ a ≤ 9223372036854775807

/-- rising by granule -/
def Ris (L : List Ln) : Prop := L.Pairwise fun x y => x.g < y.g
/-- what is held of a granule -/
def findL (L : List Ln) (g : Int) : Option F4 := (L.find? fun x => decide (x.g = g)).map Ln.f
/-- a granule that is held from now on, in place of what was held of it -/
def takL (g : Int) (f : F4) : List Ln → List Ln
  | [] => [⟨g, f⟩]
  | x :: L => if x.g < g then x :: takL g f L else if x.g = g then ⟨g, f⟩ :: L else ⟨g, f⟩ :: x :: L
def linD (L : List Ln) : DataW Unit := .map (L.map fun x => (ik x.g, fD x.f))

theorem findL_cons (x : Ln) (L : List Ln) (g : Int) : findL (x :: L) g = if x.g = g then some x.f else findL L g := by
  unfold findL
  rw [List.find?_cons]
  by_cases h : x.g = g
  · simp [h]
  · simp [h]
theorem findL_put (g : Int) (f : F4) (k : Int) : ∀ L, findL (takL g f L) k = if g = k then some f else findL L k
  | [] => by simp only [takL, findL_cons]
  | x :: L => by
    unfold takL
    split
    · rename_i h
      rw [findL_cons, findL_cons, findL_put g f k L]
      by_cases h1 : x.g = k
      · rw [if_pos h1, if_pos h1, if_neg (by omega)]
      · rw [if_neg h1, if_neg h1]
    · split
      · rename_i h
        rw [findL_cons, findL_cons]
        dsimp only
        by_cases h1 : g = k
        · rw [if_pos h1, if_pos h1]
        · rw [if_neg h1, if_neg h1, if_neg (by omega)]
      · rw [findL_cons]
theorem takL_mem {g : Int} {f : F4} {y : Ln} : ∀ {L : List Ln}, y ∈ takL g f L → y = ⟨g, f⟩ ∨ y ∈ L
  | [], h => by simpa [takL] using h
  | x :: L, h => by
    unfold takL at h
    split at h
    · rcases List.mem_cons.1 h with rfl | h
      · exact .inr List.mem_cons_self
      · rcases takL_mem h with h | h
        · exact .inl h
        · exact .inr (List.mem_cons_of_mem _ h)
    · split at h
      · rcases List.mem_cons.1 h with h | h
        · exact .inl h
        · exact .inr (List.mem_cons_of_mem _ h)
      · rcases List.mem_cons.1 h with h | h
        · exact .inl h
        · exact .inr h
theorem takL_ris (g : Int) (f : F4) : ∀ (L : List Ln), Ris L → Ris (takL g f L)
  | [], _ => by simp [takL, Ris]
  | x :: L, h => by
    have h := List.pairwise_cons.1 h
    unfold takL
    split
    · rename_i hx
      refine List.pairwise_cons.2 ⟨fun y hy => ?_, takL_ris g f L h.2⟩
      rcases takL_mem hy with rfl | hy
      · exact hx
      · exact h.1 y hy
    · split
      · rename_i hx
        exact List.pairwise_cons.2 ⟨fun y hy => by have := h.1 y hy; dsimp only; omega, h.2⟩
      · rename_i h1 h2
        refine List.pairwise_cons.2 ⟨fun y hy => ?_, List.pairwise_cons.2 h⟩
        dsimp only
        rcases List.mem_cons.1 hy with rfl | hy
        · omega
        · have := h.1 y hy; omega
theorem takL_len (g : Int) (f : F4) : ∀ L : List Ln, (takL g f L).length ≤ L.length + 1
  | [] => by simp [takL]
  | x :: L => by
    have := takL_len g f L
    unfold takL
    split
    · simp only [List.length_cons]; omega
    · split <;> simp only [List.length_cons] <;> omega
/-- behind the place of g all go on -/
theorem takL_snoc {g : Int} {f : F4} {y : Ln} (hy : g < y.g) : ∀ {L : List Ln}, Ris L → (∃ x ∈ L, g ≤ x.g) → takL g f (L ++ [y]) = takL g f L ++ [y]
  | [], _, ⟨x, hx, _⟩ => by cases hx
  | x :: L, h, ⟨z, hz, hz'⟩ => by
    have h := List.pairwise_cons.1 h
    rw [List.cons_append]
    unfold takL
    by_cases hx : x.g < g
    · rw [if_pos hx, if_pos hx, takL_snoc hy h.2 ⟨z, by
        rcases List.mem_cons.1 hz with rfl | hz
        · omega
        · exact hz, hz'⟩]
      rfl
    · rw [if_neg hx, if_neg hx]
      split <;> rfl
/-- all ahead of g: it is put behind them -/
theorem takL_end {g : Int} {f : F4} : ∀ {L : List Ln}, (∀ x ∈ L, x.g < g) → takL g f L = L ++ [⟨g, f⟩]
  | [], _ => rfl
  | x :: L, h => by
    unfold takL
    rw [if_pos (h x List.mem_cons_self), takL_end fun y hy => h y (List.mem_cons_of_mem _ hy)]
    rfl
/-- at its place -/
theorem takL_at {g : Int} {f : F4} {y : Ln} : ∀ {L : List Ln}, (∀ x ∈ L, x.g < g) → g ≤ y.g → takL g f (L ++ [y]) = L ++ (if y.g = g then [⟨g, f⟩] else [⟨g, f⟩, y])
  | [], _, hy => by
    show takL g f [y] = _
    unfold takL
    rw [if_neg (by omega)]
    split <;> rfl
  | x :: L, h, hy => by
    rw [List.cons_append]
    unfold takL
    rw [if_pos (h x List.mem_cons_self), takL_at (fun z hz => h z (List.mem_cons_of_mem _ hz)) hy]
    rfl

theorem same_ik (a b : Int) : (ik a).sameKey (ik b) = decide (a = b) := by
  by_cases h : a = b
  · subst h; simpa using (WideAt.sameKey_iff (ik_is a)).2 rfl
  · rw [decide_eq_false h]
    cases hs : (ik a).sameKey (ik b) with
    | false => rfl
    | true => exact absurd (ik_inj ((WideAt.sameKey_iff (ik_is b)).1 hs)) h
theorem has_lin (L : List Ln) (g : Int) : has (linD L) (ik g) = (findL L g).isSome := by
  unfold linD
  rw [has_eq]
  induction L with
  | nil => rfl
  | cons x L ih =>
    rw [findL_cons, List.map_cons, List.any_cons, same_ik, ih]
    by_cases h : x.g = g
    · simp [h]
    · simp [h]
theorem at_lin (L : List Ln) (g : Int) (z : DataW Unit) : (linD L).atKey (ik g) z = ((findL L g).map fD).getD z := by
  unfold linD DataW.atKey
  induction L with
  | nil => rfl
  | cons x L ih =>
    simp only [List.map_cons] at ih ⊢
    rw [findL_cons, List.find?_cons, same_ik]
    by_cases h : x.g = g
    · simp [h]
    · rw [decide_eq_false h, if_neg h]
      exact ih
theorem canon_lin {L : List Ln} (h : Ris L) : Canon (linD L) := ⟨_, rfl, by
  rw [List.pairwise_map]
  refine List.Pairwise.imp (fun {x y} hxy => ?_) h
  simp [ik, Lit.before]
  exact hxy, fun p hp => by
    obtain ⟨x, -, rfl⟩ := List.mem_map.1 hp
    exact ik_is _⟩
theorem isMap_lin (L : List Ln) : IsMap (linD L) := ⟨_, rfl⟩
/-- a map's datum is told by its integers alone -/
theorem lin_ext {D : DataW Unit} {L : List Ln} (c : Canon D) (h : Ris L) (hk : ∀ k, has D k = true → ∃ a, k = ik a) (hh : ∀ a, has D (ik a) = (findL L a).isSome) (ha : ∀ a f, findL L a = some f → ∀ z, D.atKey (ik a) z = fD f) : D = linD L := by
  have hk' : ∀ k, has (linD L) k = true → ∃ a, k = ik a := fun k hk => by
    unfold linD at hk
    rw [has_eq, List.any_eq_true] at hk
    obtain ⟨p, hp, hs⟩ := hk
    obtain ⟨x, -, rfl⟩ := List.mem_map.1 hp
    refine ⟨x.g, ?_⟩
    cases k <;> simp [ik, Lit.sameKey] at hs ⊢
    exact ⟨hs.1.symm, hs.2.symm⟩
  refine ext c (canon_lin h) (fun k => ?_) fun k z hz => ?_
  · cases h1 : has D k with
    | true =>
      obtain ⟨a, rfl⟩ := hk k h1
      rw [has_lin, ← hh, h1]
    | false =>
      cases h2 : has (linD L) k with
      | false => rfl
      | true =>
        obtain ⟨a, rfl⟩ := hk' k h2
        rw [has_lin, ← hh, h1] at h2
        cases h2
  · obtain ⟨a, rfl⟩ := hk k hz
    rw [hh] at hz
    obtain ⟨f, hf⟩ := Option.isSome_iff_exists.1 hz
    rw [ha a f hf, at_lin, hf]
    rfl
theorem put_lin {L : List Ln} (h : Ris L) (g : Int) (f : F4) (c : Canon ((linD L).put (ik g) (fD f))) : (linD L).put (ik g) (fD f) = linD (takL g f L) := by
  refine lin_ext c (takL_ris g f L h) (fun k hk => ?_) (fun a => ?_) fun a f' hf z => ?_
  · by_cases e : k = ik g
    · exact ⟨g, e⟩
    · rw [has_put_other e] at hk
      unfold linD at hk
      rw [has_eq, List.any_eq_true] at hk
      obtain ⟨p, hp, hs⟩ := hk
      obtain ⟨x, -, rfl⟩ := List.mem_map.1 hp
      refine ⟨x.g, ?_⟩
      cases k <;> simp [ik, Lit.sameKey] at hs ⊢
      exact ⟨hs.1.symm, hs.2.symm⟩
  · rw [findL_put]
    by_cases e : g = a
    · subst e
      rw [has_put_same (isMap_lin L) (ik_is _), if_pos rfl]; rfl
    · rw [has_put_other (fun e' => e (ik_inj e').symm), if_neg e, has_lin]
  · rw [findL_put] at hf
    by_cases e : g = a
    · subst e
      rw [if_pos rfl] at hf
      injection hf with hf
      subst hf
      rw [atKey_put_same (isMap_lin L) (ik_is _)]
    · rw [if_neg e] at hf
      rw [atKey_put_other (fun e' => e (ik_inj e').symm), at_lin, hf]
      rfl

end Go.Proofs.YtnpaijbkhmnfpaaGreat

/- Blocks of several cells; how an item lies. -/
namespace Go.Proofs.YtnpaijbkhmnfpaaGreat
open Go.RowKit

/-- a block and its cells -/
def Blk (w : World) (g : Nat) (T : TypeId) (c : Array Value) : Prop := w.heap[g]? = some (.cells c T (0, 0))
theorem Blk.lt {w : World} {g : Nat} {T : TypeId} {c : Array Value} (h : Blk w g T c) : g < w.heap.size := (Array.getElem?_eq_some_iff.1 h).1
theorem Blk.cell {w : World} {g : Nat} {T : TypeId} {c : Array Value} (h : Blk w g T c) (i : Nat) : w.cell? ⟨g, i, none⟩ = c[i]? := by simp [World.cell?, show w.heap[g]? = _ from h]
theorem Blk.free {w : World} {g : Nat} {T : TypeId} {c : Array Value} (h : Blk w g T c) (i : Nat) : w.frozen? ⟨g, i, none⟩ = false := by simp [World.frozen?, show w.heap[g]? = _ from h]
theorem Blk.new (w : World) (T : TypeId) (c : Array Value) : Blk (w.alloc (.cells c T)) w.heap.size T c := World.alloc_heap_new w _
theorem Blk.kept {w w' : World} {row : Option Nat} {g : Nat} {T : TypeId} {c : Array Value} (h : Blk w g T c) (hg : w.grownBy w' row) (hne : some g ≠ row) : Blk w' g T c := (hg.block g h.lt hne).trans h
theorem Blk.below {w w' : World} {g B : Nat} {T : TypeId} {c : Array Value} (h : Blk w g T c) (hb : Below B w w') (hg : g < B) : Blk w' g T c := (hb.block g hg).trans h
theorem Blk.grow {w w' : World} {g : Nat} {T : TypeId} {c : Array Value} (h : Blk w g T c) (hb : Below w.heap.size w w') : Blk w' g T c := h.below hb h.lt
theorem Blk.set {w : World} {g : Nat} {T : TypeId} {c : Array Value} (h : Blk w g T c) (i : Nat) (v : Value) : Blk (w.setCell ⟨g, i, none⟩ v) g T (c.setIfInBounds i v) := by
  obtain ⟨hlt, hk⟩ := Array.getElem?_eq_some_iff.1 h
  show (w.heap.modify g _)[g]? = _
  rw [Array.getElem?_eq_getElem (by rw [Array.size_modify]; exact hlt), Array.getElem_modify_self, hk]
  rfl

theorem Blk.other {w : World} {g k : Nat} {T : TypeId} {c : Array Value} (h : Blk w g T c) (hne : g ≠ k) (i : Nat) (v : Value) : Blk (w.setCell ⟨k, i, none⟩ v) g T c := (Below.heap_setCell _ _ _ g (fun e => hne e)).trans h
theorem grown_setCell (w : World) (g i : Nat) (v : Value) : w.grownBy (w.setCell ⟨g, i, none⟩ v) (some g) :=
  ⟨rfl, rfl, rfl, (KeepsWalks.setCell w _ v).size, fun k _ hk => Below.heap_setCell _ _ _ k (fun e => hk (by rw [e]))⟩
theorem grown_setCells (g : Nat) : ∀ (vs : List Value) (o : Nat) (w : World), w.grownBy (w.setCells g o vs) (some g)
  | [], _, w => World.grownBy.refl w _
  | v :: r, o, w => (grown_setCell w g o v).trans (grown_setCells g r (o + 1) _)
theorem below_grown {w w' : World} {g : Nat} (h : w.grownBy w' (some g)) {B : Nat} (hB : B ≤ g) (hl : B ≤ w.heap.size) : Below B w w' :=
  ⟨h.os, h.tape, h.output, h.size, fun k hk => h.block k (by omega) (by intro e; injection e with e; omega)⟩
theorem Blk.some_after (g : Nat) (T : TypeId) : ∀ (vs : List Value) (o : Nat) (w : World) (c : Array Value), Blk w g T c → ∃ c', Blk (w.setCells g o vs) g T c' ∧ c'.size = c.size
  | [], _, w, c, h => ⟨c, h, rfl⟩
  | v :: r, o, w, c, h => by
    obtain ⟨c', h1, h2⟩ := Blk.some_after g T r (o + 1) _ _ (h.set o v)
    exact ⟨c', h1, by rw [h2]; simp⟩
theorem Blk.range {w : World} {g : Nat} {T : TypeId} {c : Array Value} (h : Blk w g T c) : w.rangeAt g 0 c.toList := fun j v hv => by
  rw [Nat.zero_add, h.cell]; rw [Array.getElem?_toList] at hv; exact hv
theorem Blk.there {w : World} {g : Nat} {T : TypeId} {c : Array Value} (h : Blk w g T c) (o n : Nat) (hn : o + n ≤ c.size) : w.there g o n := fun j hj =>
  ⟨by rw [h.cell]; simp; omega, h.free _⟩
theorem Blk.setAll {w : World} {g : Nat} {T : TypeId} {c : Array Value} (h : Blk w g T c) (c' : Array Value) (hs : c'.size = c.size) : Blk (w.setCells g 0 c'.toList) g T c' := by
  obtain ⟨c2, h1, h2⟩ := Blk.some_after g T c'.toList 0 w c h
  have : c2 = c' := by
    apply Array.ext (by omega)
    intro i hi hi'
    have hr := World.rangeAt_setCells_same w g 0 c'.toList (by rw [Array.length_toList]; exact h.there 0 _ (by omega)) i c'[i] (by simp [hi'])
    rw [Nat.zero_add, h1.cell, Array.getElem?_eq_getElem hi] at hr
    injection hr
  rw [← this] at h1 ⊢
  exact h1

/-- a struct is read -/
theorem step_load_blk {ops : Array Oper} {rest : List Oper} {o : Oper} {a : Act} {w : World} {Q : Exit → Act → World → Prop} {g : Nat} {T : TypeId} {c : Array Value} (hB : Blk w g T c) (hg : o.guard = none) (t : TypeId) (p : Operand) (ho : o.op = .load t p)
    (hp : a.eval p = .pointer (some ⟨g, 0, none⟩)) (c' : Array Value) (hc : c'.toList <+: c.toList) (d : TypeDesc) (hu : Tryz.prog.underlying t = some d) (hd : d.isRow = true) (hi : (Tryz.prog.info? t).map (·.size) = some c'.size)
    (h : wpList Tryz.prog ops Q rest (a.put o.dst (.agg c')) w) : wpList Tryz.prog ops Q (o :: rest) a w := by
  refine wpList_load_mid hg t p ho g 0 hp c'.toList d (fun j v hv => hB.range j v ?_) hu hd (by rw [hi, Array.length_toList]) (by simpa using h)
  obtain ⟨r, hr⟩ := hc
  rw [← hr, List.getElem?_append_left (List.getElem?_eq_some_iff.1 hv).1]; exact hv
/-- a struct is stored -/
theorem step_store_blk {ops : Array Oper} {rest : List Oper} {o : Oper} {a : Act} {w : World} {Q : Exit → Act → World → Prop} {g : Nat} {T : TypeId} {c : Array Value} (hB : Blk w g T c) (hg : o.guard = none) (t : TypeId) (p x : Operand) (ho : o.op = .store t p x) (hd : o.dst = none)
    (hp : a.eval p = .pointer (some ⟨g, 0, none⟩)) (c' : Array Value) (hx : a.eval x = .agg c') (hi : (Tryz.prog.info? t).map (·.size) = some c'.size) (hcs : c'.size = c.size) (h1 : c'.all (·.oneCell') = true)
    (h : ∀ w', Blk w' g T c' → w.grownBy w' (some g) → wpList Tryz.prog ops Q rest a w') : wpList Tryz.prog ops Q (o :: rest) a w := by
  refine wpList_store_mid hg t p x ho g 0 c' hp hx (hB.there 0 _ (by omega)) hi h1 ?_
  rw [hd]
  exact h _ (hB.setAll c' hcs) (grown_setCells g _ _ _)

end Go.Proofs.YtnpaijbkhmnfpaaGreat

/- How slices of bytes and a script that came in are opened, of every size that an argument may have. -/
namespace Go.Proofs.YtnpaijbkhmnfpaaGreat
open Go.ChangeShapes Go.WideShapes Go.ChangeAt Go.RowKit

theorem Tryz.cells3 : Tryz.prog.cellsOf 3 = 1 := by kernel_rfl
theorem Tryz.bytes3 : Tryz.prog.bytesOf 3 = 8 := by kernel_rfl
theorem weights_of {H : Type} {P : Program} {ts : List TypeId} {ds : List (DataW H)} (hsz : (DataW.weightsEach P ts ds).all (· ≤ reachBytes) = true) {j : Nat} {t : TypeId} {d : DataW H} (ht : ts[j]? = some t) (hd : ds[j]? = some d) : ∀ m ∈ d.weights P t, m ≤ reachBytes := by
  intro m hm
  have := List.all_eq_true.1 hsz m (DataW.weights_mem_each ht hd m hm)
  simpa using this

theorem Tryz.cells21 : Tryz.prog.cellsOf 21 = 1 := by kernel_rfl
theorem Tryz.cells4 : Tryz.prog.cellsOf 4 = 1 := by kernel_rfl
theorem Tryz.cells26 : Tryz.prog.cellsOf 26 = 1 := by kernel_rfl
theorem Tryz.cells67 : Tryz.prog.cellsOf 67 = 6 := by kernel_rfl
theorem Tryz.bytes67 : Tryz.prog.bytesOf 67 = 56 := by kernel_rfl

theorem cell_in {w : World} {b o : Nat} {v : Value} (h : w.cell? ⟨b, o, none⟩ = some v) : b < w.heap.size := by
  by_cases hb : b < w.heap.size
  · exact hb
  · simp [World.cell?, Array.getElem?_eq_none (show w.heap.size ≤ b by omega)] at h
theorem list_six {X : Type} {l : List X} (h : l.length = 6) : ∃ a b c d e f, l = [a, b, c, d, e, f] := by
  match l, h with
  | [a, b, c, d, e, f], _ => exact ⟨a, b, c, d, e, f, rfl⟩
theorem list_ofG {X : Type} {P : Nat → X → Prop} : ∀ n, (∀ i, i < n → ∃ x, P i x) → ∃ xs : List X, xs.length = n ∧ ∀ i (h : i < xs.length), P i xs[i]
  | 0, _ => ⟨[], rfl, fun i h => absurd h (by simp)⟩
  | n + 1, h => by
    obtain ⟨xs, hl, hx⟩ := list_ofG n fun i hi => h i (by omega)
    obtain ⟨x, hp⟩ := h n (by omega)
    refine ⟨xs ++ [x], by simp [hl], fun i hi => ?_⟩
    by_cases hin : i < xs.length
    · rw [List.getElem_append_left hin]; exact hx i hin
    · have : i = n := by simp at hi; omega
      subst this
      rw [List.getElem_append_right (by omega)]
      simp [hl]
      exact hp

/-- a slice of bytes that came in -/
structure Sl (w : World) (p : Option Addr) (c : Nat) (xs : List Int) : Prop where
  row : Row w p xs
  le : xs.length ≤ c
  cm : c ≤ 9223372036854775807
  nil : p = none → c = 0
/-- a slice of bytes -/
theorem open_data {H : Type} {enc : TypeId × Value → H} {W : World} {fuel : Nat} {v : Value} {x : DataW H × List MemPlace} (h : DataW.trod enc Tryz.prog W 0 (fun _ => true) true fuel 26 [v] = some x) (hw : ∀ m ∈ x.1.weights Tryz.prog 26, m ≤ reachBytes) :
    ∃ (q : Option Addr) (e : Nat) (xs : List Int), v = .slice q xs.length e ∧ Sl W q e xs ∧ Byt xs ∧ xs.length ≤ 140737488351232 := by
  have hr : ∀ q n c, v = .slice q n c → n * 1 ≤ reachBytes := by
    intro q n c hv
    rcases DataW.trod_slice Tryz.underlying26 h with ⟨hcs, hx⟩ | ⟨ad, l, cc, elems, rest, f, hfu, hcs, hx, _, hl, hm, hlen, hel, hsp, _⟩
    · simp only [List.cons.injEq, and_true] at hcs
      rw [hv] at hcs
      simp only [Value.slice.injEq] at hcs
      rw [hcs.2.1]; exact Nat.zero_le _
    · simp only [List.cons.injEq, and_true] at hcs
      rw [hv] at hcs
      simp only [Value.slice.injEq] at hcs
      have := hw ((elems.length + rest.length) * Tryz.prog.bytesOf 5) (by rw [hx]; simp [DataW.weights, Tryz.underlying26])
      rw [Tryz.bytes5] at this
      rw [hcs.2.1]
      omega
  rcases open_ints Tryz.underlying26 Tryz.underlying5 Tryz.cells5 h with ⟨hcs, hx⟩ | ⟨ad, l, cc, zs, hcs, _, hl, hm, hz, hx, hcell, hwz⟩
  · simp only [List.cons.injEq, and_true] at hcs
    exact ⟨none, 0, [], by rw [hcs]; rfl, ⟨fun h => absurd h (Nat.lt_irrefl 0), Nat.le_refl _, by decide, fun _ => rfl⟩, fun i => by simp, by decide⟩
  · simp only [List.cons.injEq, and_true] at hcs
    simp only [if_true] at hz
    have hlen : (zs.take l).length = l := by rw [List.length_take]; omega
    have hrr := hr _ _ _ hcs
    simp only [reachBytes] at hrr
    unfold maxLen at hm
    refine ⟨some ad, cc, zs.take l, by rw [hcs, hlen], ⟨fun h0 => ?_, by omega, by omega, fun e => by cases e⟩, fun i => getD_of_mem (P := fun x => 0 ≤ x ∧ x ≤ 255) (by decide) (fun x hx' => wf_u8 (hwz x (List.mem_of_mem_take hx'))) i, by omega⟩
    obtain ⟨b, o, s⟩ := ad
    rw [hlen] at h0
    obtain rfl : s = none := by simpa [Addr.add] using World.cell?_spot (hcell 0 (by omega))
    exact ⟨b, o, rfl, fun i hi => by rw [hlen] at hi; rw [← Go.WideShapes.add_plain, hcell i (by omega)]; simp [List.getD, show i < l by omega]⟩

/-- a row of a script -/
structure OpD where
  kind : Int
  on : Int
  hold : Bool
  trap : Int
  at_ : Int
  r : Option Addr
  d : Nat
  ys : List Int
abbrev opL (x : OpD) : List Value := [.int .i64 x.kind, .int .i64 x.on, .bool x.hold, .int .i32 x.trap, .int .i64 x.at_, .slice x.r x.ys.length x.d]
structure OpW (W : World) (x : OpD) : Prop where
  row : Row W x.r x.ys
  byt : Byt x.ys
  len : x.ys.length ≤ 140737488351232
  le : x.ys.length ≤ x.d
  dm : x.d ≤ 9223372036854775807
  k64 : i64W x.kind
  o64 : i64W x.on
  t32 : -2147483648 ≤ x.trap ∧ x.trap ≤ 2147483647
  a64 : i64W x.at_
  nil : x.r = none → x.d = 0
  off : ∀ a, x.r = some a → 0 < x.ys.length → a.block < W.heap.size
/-- a script in memory -/
def Scr (w : World) (p : Option Addr) (L : List OpD) : Prop := 0 < L.length → ∃ b o, p = some ⟨b, o, none⟩ ∧ ∀ i y, L[i]? = some y → (w.cell? ⟨b, o + i * 6, none⟩ = some (.int .i64 y.kind) ∧ w.cell? ⟨b, o + i * 6 + 1, none⟩ = some (.int .i64 y.on) ∧ w.cell? ⟨b, o + i * 6 + 2, none⟩ = some (.bool y.hold) ∧ w.cell? ⟨b, o + i * 6 + 3, none⟩ = some (.int .i32 y.trap) ∧ w.cell? ⟨b, o + i * 6 + 4, none⟩ = some (.int .i64 y.at_) ∧ w.cell? ⟨b, o + i * 6 + 5, none⟩ = some (.slice y.r y.ys.length y.d)) ∧ OpW w y

theorem Scr.below {w w' : World} {p : Option Addr} {L : List OpD} (h : Scr w p L) (hb : Below w.heap.size w w') : Scr w' p L := fun h0 => by
  obtain ⟨b, o, e, hc⟩ := h h0
  refine ⟨b, o, e, fun i y hy => ?_⟩
  obtain ⟨⟨g0, g1, g2, g3, g4, g5⟩, hW⟩ := hc i y hy
  have hlt := cell_in g0
  have hs : ∀ k v, w.cell? ⟨b, k, none⟩ = some v → w'.cell? ⟨b, k, none⟩ = some v := fun k v hv => by
    have := hb.block b hlt
    simp only [World.cell?] at hv ⊢
    rw [this]; exact hv
  exact ⟨⟨hs _ _ g0, hs _ _ g1, hs _ _ g2, hs _ _ g3, hs _ _ g4, hs _ _ g5⟩, hW.row.below hb, hW.byt, hW.len, hW.le, hW.dm, hW.k64, hW.o64, hW.t32, hW.a64, hW.nil, fun a e h => Nat.lt_of_lt_of_le (hW.off a e h) hb.size⟩

theorem open_op {H : Type} {enc : TypeId × Value → H} {W : World} {fuel : Nat} {cs : List Value} {x : DataW H × List MemPlace} (h : DataW.trod enc Tryz.prog W 0 (fun _ => true) true fuel 67 cs = some x) (hw : ∀ m ∈ x.1.weights Tryz.prog 67, m ≤ reachBytes) :
    ∃ y : OpD, cs = opL y ∧ OpW W y := by
  obtain ⟨xs, n, rfl, hx, hlen, hxl, hf⟩ := DataW.trod_struct Tryz.underlying67 h
  rw [Tryz.cells67] at hlen
  obtain ⟨a, b, c, d, e, f, rfl⟩ := list_six hlen
  have f0 := hf 0
  have f1 := hf 1
  have f2 := hf 2
  have f3 := hf 3
  have f4 := hf 4
  have f5 := hf 5
  simp [Tryz.cells3, Tryz.cells4, Tryz.cells21, Tryz.cells26] at f0 f1 f2 f3 f4 f5
  obtain ⟨x0, x1, x2, x3, x4, x5, rfl⟩ := list_six (show xs.length = 6 from hxl)
  simp only [List.getElem?_cons_zero, List.getElem?_cons_succ] at f0 f1 f2 f3 f4 f5
  have hin : ∀ m ∈ DataW.weightsEach Tryz.prog [3, 3, 4, 21, 3, 26] [x0.1, x1.1, x2.1, x3.1, x4.1, x5.1], m ≤ reachBytes := by
    intro m hm
    have hd' : x.1 = .agg [x0.1, x1.1, x2.1, x3.1, x4.1, x5.1] := by rw [hx]; rfl
    refine hw m ?_
    rw [hd']
    simp only [DataW.weights, Tryz.underlying67]
    exact hm
  obtain ⟨k0, e0, y0, w0⟩ := DataW.trod_int Tryz.underlying3 f0
  obtain ⟨k1, e1, y1, w1⟩ := DataW.trod_int Tryz.underlying3 f1
  obtain ⟨k2, e2, y2⟩ := DataW.trod_bool Tryz.underlying4 f2
  obtain ⟨k3, e3, y3, w3⟩ := DataW.trod_int Tryz.underlying21 f3
  obtain ⟨k4, e4, y4, w4⟩ := DataW.trod_int Tryz.underlying3 f4
  obtain ⟨qb, eb, bs, rfl, hs, hb, hl⟩ := open_data f5 fun m hm => hin m (DataW.weights_mem_each (j := 5) rfl rfl m hm)
  simp only [List.cons.injEq, and_true] at e0 e1 e2 e3 e4
  subst e0 e1 e2 e3 e4
  exact ⟨⟨k0, k1, k2, k3, k4, qb, eb, bs⟩, rfl, hs.row, hb, hl, hs.le, hs.cm, wf_i64 w0, wf_i64 w1, wf_i32 w3, wf_i64 w4, hs.nil, fun a e h0 => by
    obtain ⟨b, o, e2, hc⟩ := hs.row h0
    have e3 : qb = some a := e
    rw [e3] at e2
    injection e2 with e4
    rw [e4]
    exact cell_in (hc 0 h0)⟩

theorem weights_all {H : Type} {P : Program} {e : TypeId} : ∀ {l : List (DataW H)} {i : Nat} {d : DataW H} {m : Nat}, l[i]? = some d → m ∈ d.weights P e → m ∈ DataW.weightsAll P e l
  | c :: l, 0, d, m, h, hm => by
    simp only [List.getElem?_cons_zero, Option.some.injEq] at h
    subst h
    simp only [DataW.weightsAll]
    exact List.mem_append_left _ hm
  | c :: l, i + 1, d, m, h, hm => by
    simp only [List.getElem?_cons_succ] at h
    simp only [DataW.weightsAll]
    exact List.mem_append_right _ (weights_all h hm)

/-- a script -/
theorem open_script {H : Type} {enc : TypeId × Value → H} {W : World} {fuel : Nat} {v : Value} {x : DataW H × List MemPlace} (h : DataW.trod enc Tryz.prog W 0 (fun _ => true) true fuel 61 [v] = some x) (hw : ∀ m ∈ x.1.weights Tryz.prog 61, m ≤ reachBytes) :
    ∃ (q : Option Addr) (e : Nat) (L : List OpD), v = .slice q L.length e ∧ L.length ≤ 9223372036854775807 ∧ Scr W q L := by
  rcases DataW.trod_slice Tryz.underlying61 h with ⟨hcs, hx⟩ | ⟨ad, l, cc, elems, rest, f, hfu, hcs, hx, _, hl, hm, hlen, hel, hsp, _⟩
  · simp only [List.cons.injEq, and_true] at hcs
    exact ⟨none, 0, [], by rw [hcs]; rfl, by decide, fun h => absurd h (by simp)⟩
  · simp only [List.cons.injEq, and_true] at hcs
    have hwi : ∀ i (hi : i < elems.length), ∀ m ∈ elems[i].1.weights Tryz.prog 67, m ≤ reachBytes := by
      intro i hi m hm
      refine hw m ?_
      rw [hx]
      simp only [DataW.weights, Tryz.underlying61]
      refine List.mem_cons_of_mem _ (List.mem_append_left _ (weights_all (i := i) ?_ hm))
      rw [List.getElem?_map, List.getElem?_eq_getElem hi]; rfl
    obtain ⟨L, hL, hP⟩ := list_ofG (P := fun i (y : OpD) => (∀ j u, (opL y)[j]? = some u → W.cell? ((ad.add (i * 6)).add j) = some u) ∧ OpW W y) l fun i hi => by
      have he := hel i hi
      rw [Tryz.cells67, List.getElem?_eq_getElem (by omega), Option.bind_eq_some_iff] at he
      obtain ⟨cs, hcs, htr⟩ := he
      obtain ⟨_, hcl, hcc⟩ := World.cells?_some hcs
      obtain ⟨y, hy, hp⟩ := open_op htr (hwi i (by omega))
      refine ⟨y, fun j u hu => ?_, hp⟩
      rw [← hy] at hu
      have hj : j < 6 := by rw [← hcl]; exact (List.getElem?_eq_some_iff.1 hu).1
      rw [hcc j hj]; exact hu
    unfold maxLen at hm
    refine ⟨some ad, cc, L, by rw [hcs, hL], by omega, fun h0 => ?_⟩
    obtain ⟨b, o, s⟩ := ad
    obtain rfl : s = none := by
      have := (hP 0 h0).1 0 _ rfl
      simpa [Addr.add] using World.cell?_spot this
    refine ⟨b, o, rfl, fun i y hy => ?_⟩
    obtain ⟨hi, rfl⟩ := List.getElem?_eq_some_iff.1 hy
    obtain ⟨hc, hW⟩ := hP i hi
    have g0 := hc 0 _ rfl
    have g1 := hc 1 _ rfl
    have g2 := hc 2 _ rfl
    have g3 := hc 3 _ rfl
    have g4 := hc 4 _ rfl
    have g5 := hc 5 _ rfl
    rw [Addr.add_mid, Addr.add_mid] at g0 g1 g2 g3 g4 g5
    exact ⟨⟨g0, g1, g2, g3, g4, g5⟩, hW⟩

set_option maxRecDepth 20000 in
theorem open_bytes_val {H : Type} {enc : TypeId × Value → H} {W : World} {base : Nat} {v : Value} {d : DataW H} {p : List MemPlace} (hv : Value.okWide Tryz.prog W .any base 26 v)
    (h : DataW.Trod enc Tryz.prog W 0 (fun _ => true) true 26 v d p) {ts : List TypeId} {ds : List (DataW H)} (hsz : (DataW.weightsEach Tryz.prog ts ds).all (· ≤ reachBytes) = true) {j : Nat} (ht : ts[j]? = some 26) (hd : ds[j]? = some d) :
    ∃ (q : Option Addr) (e : Nat) (xs : List Int), v = .slice q xs.length e ∧ Sl W q e xs ∧ Byt xs ∧ xs.length ≤ 140737488351232 := by
  obtain ⟨fuel, hf⟩ := h
  have hcs : v.cells.toList = [v] := by
    obtain ⟨_, _, _, rfl⟩ := Go.WideShapes.okWide_slice Tryz.underlying26 hv
    rfl
  rw [hcs] at hf
  exact open_data hf (weights_of hsz ht hd)

set_option maxRecDepth 20000 in
theorem open_script_val {H : Type} {enc : TypeId × Value → H} {W : World} {base : Nat} {v : Value} {d : DataW H} {p : List MemPlace} (hv : Value.okWide Tryz.prog W .any base 61 v)
    (h : DataW.Trod enc Tryz.prog W 0 (fun _ => true) true 61 v d p) {ts : List TypeId} {ds : List (DataW H)} (hsz : (DataW.weightsEach Tryz.prog ts ds).all (· ≤ reachBytes) = true) {j : Nat} (ht : ts[j]? = some 61) (hd : ds[j]? = some d) :
    ∃ (q : Option Addr) (e : Nat) (L : List OpD), v = .slice q L.length e ∧ L.length ≤ 9223372036854775807 ∧ Scr W q L := by
  obtain ⟨fuel, hf⟩ := h
  have hcs : v.cells.toList = [v] := by
    obtain ⟨_, _, _, rfl⟩ := Go.WideShapes.okWide_slice Tryz.underlying61 hv
    rfl
  rw [hcs] at hf
  exact open_script hf (weights_of hsz ht hd)

end Go.Proofs.YtnpaijbkhmnfpaaGreat

/- Small words that several texts take. -/
namespace Go.Proofs.YtnpaijbkhmnfpaaGreat
open Go.RowKit

theorem size_one (w : World) (o : Obj) : (w.alloc o).heap.size = w.heap.size + 1 := by simp
theorem Hid.in {p : Prop} (h : p) : Hid p := h
theorem byt_nil : Byt [] := fun i => by simp

end Go.Proofs.YtnpaijbkhmnfpaaGreat

/- Rows of events: elements of seven cells. -/
namespace Go.Proofs.YtnpaijbkhmnfpaaGreat
open Go.RowKit

/-- an event: Step and Key are 0 -/
structure Ev where
  k : Int
  h : Int
  p : Int
  o : Int
  n : Int
def l7 (q : Ev) : List Value := [.int .u8 q.k, .int .i64 0, .int .i64 q.h, .int .i64 q.p, .int .u8 q.o, .int .i64 0, .int .i64 q.n]
def evA (q : Ev) : Array Value := #[.int .u8 q.k, .int .i64 0, .int .i64 q.h, .int .i64 q.p, .int .u8 q.o, .int .i64 0, .int .i64 q.n]
/-- the cells of a list of such elements -/
def c7 (L : List Ev) : List Value := L.flatMap l7
theorem c7_len (L : List Ev) : (c7 L).length = L.length * 7 := by
  induction L with
  | nil => rfl
  | cons q L ih =>
    unfold c7 at *
    rw [List.flatMap_cons, List.length_append, ih, List.length_cons]
    have : (l7 q).length = 7 := rfl
    omega
theorem c7_two (L M : List Ev) : c7 (L ++ M) = c7 L ++ c7 M := by simp [c7]
theorem c7_at : ∀ (L : List Ev) (i : Nat) (h : i < L.length) (j : Nat), j < 7 → (c7 L)[i * 7 + j]? = (l7 L[i])[j]?
  | [], i, h, _, _ => absurd h (by simp)
  | q :: L, 0, _, j, hj => by
    unfold c7
    rw [List.flatMap_cons, Nat.zero_mul, Nat.zero_add, List.getElem?_append_left (by show j < 7; exact hj)]
    rfl
  | q :: L, i + 1, h, j, hj => by
    have h' : i < L.length := by simpa using h
    have ih := c7_at L i h' j hj
    unfold c7 at *
    have h7 : (l7 q).length = 7 := rfl
    rw [List.flatMap_cons, List.getElem?_append_right (by rw [h7]; omega), h7, show (i + 1) * 7 + j - 7 = i * 7 + j by omega, ih]
    rfl
/-- a list that the call has made, nil or not -/
def EOwn (T : TypeId) (w : World) (B : Nat) (v : Value) (L : List Ev) : Prop := w.ownsRow B T 7 v L.length (c7 L)
theorem EOwn.nil (T : TypeId) (w : World) (B : Nat) : EOwn T w B (.slice none 0 0) [] := World.ownsRow_nil _ _ _ _
theorem EOwn.below {T : TypeId} {w w' : World} {B : Nat} {v : Value} {L : List Ev} (h : EOwn T w B v L) (hb : Below w.heap.size w w') : EOwn T w' B v L := by
  obtain ⟨h0, h1⟩ := h
  refine ⟨h0, h1.imp id ?_⟩
  rintro ⟨g, cap, cur, e1, e2, e3, e4⟩
  exact ⟨g, cap, cur, e1, e2, (hb.block g (Array.getElem?_eq_some_iff.1 e3).1).trans e3, e4⟩
theorem EOwn.alloc {T : TypeId} {w : World} {B : Nat} {v : Value} {L : List Ev} (h : EOwn T w B v L) (o : Obj) : EOwn T (w.alloc o) B v L := h.below (new_alloc w o)
theorem EOwn.drewN {T : TypeId} {w : World} {B : Nat} {v : Value} {L : List Ev} (h : EOwn T w B v L) (n : Nat) : EOwn T (w.drewN n) B v L := h
theorem EOwn.shape {T : TypeId} {w : World} {B : Nat} {v : Value} {L : List Ev} (h : EOwn T w B v L) : ∃ p cap, v = .slice p L.length cap ∧ L.length ≤ cap ∧ cap ≤ maxLen ∧ (0 < L.length → ∃ g, p = some ⟨g, 0, none⟩ ∧ B ≤ g ∧ g < w.heap.size ∧ ∀ i (hi : i < L.length) j, j < 7 → w.cell? ⟨g, i * 7 + j, none⟩ = (l7 L[i])[j]?) := by
  rcases h.2 with ⟨e1, e2⟩ | ⟨g, cap, cur, e1, e2, e3, e4, e5, _⟩
  · exact ⟨none, 0, by rw [e1, e2], by omega, Nat.zero_le _, fun h0 => by omega⟩
  · refine ⟨_, cap, e1, e4, e5, fun _ => ⟨g, rfl, e2, (Array.getElem?_eq_some_iff.1 e3).1, fun i hi j hj => ?_⟩⟩
    have hr : w.ownsRow B T 7 v L.length (c7 L) := h
    rw [e1] at hr
    rw [hr.cellAt (i * 7 + j) (by omega), c7_at L i hi j hj]
def Elem7 (t T : TypeId) (by_ : Nat) : Prop := Tryz.prog.underlying t = some (.slice T) ∧ ∃ z, z.cells.size = 7 ∧ (Tryz.prog.info? T).map (fun i => (i.zero, i.size, i.bytes)) = some (some z, 7, by_)
theorem Tryz.elemEv : Elem7 32 41 56 := ⟨Tryz.underlying32, .agg #[.int .u8 0, .int .i64 0, .int .i64 0, .int .i64 0, .int .u8 0, .int .i64 0, .int .i64 0], rfl, by kernel_rfl⟩
theorem one7_mem (q : Ev) : ∀ u ∈ l7 q, u.oneCell' = true := by
  intro u hu
  simp only [l7, List.mem_cons, List.not_mem_nil, or_false] at hu
  rcases hu with rfl | rfl | rfl | rfl | rfl | rfl | rfl <;> rfl
theorem news7 (w : World) (q : Ev) (T : TypeId) : ∀ j u, (l7 q)[j]? = some u → (w.alloc (.cells (evA q) T)).cell? ((⟨w.heap.size, 0, none⟩ : Addr).add j) = some u := by
  intro j u hj
  rw [Go.WideShapes.add_plain]
  match j, hj with
  | 0, hj => simpa [l7, evA] using hj
  | 1, hj => simpa [l7, evA] using hj
  | 2, hj => simpa [l7, evA] using hj
  | 3, hj => simpa [l7, evA] using hj
  | 4, hj => simpa [l7, evA] using hj
  | 5, hj => simpa [l7, evA] using hj
  | 6, hj => simpa [l7, evA] using hj
  | j + 7, hj => simp [l7] at hj

/-- 'append(l, x)' -/
theorem epush {ops : Array Oper} {rest : List Oper} {o : Oper} {a : Act} {Q : Exit → Act → World → Prop} {t T : TypeId} {by_ : Nat} (he : Elem7 t T by_) (w : World) (hgd : o.guard = none) (s x : Operand)
    (ho : o.op = .call { callee := .builtin .append, args := #[s, x], argTypes := #[t, t] }) (B : Nat) (v : Value) (L : List Ev) (hs : a.eval s = v) (hown : EOwn T w B v L)
    (ad : Addr) (c : Nat) (q : Ev) (hx : a.eval x = .slice (some ad) 1 c) (hnews : ∀ j u, (l7 q)[j]? = some u → w.cell? (ad.add j) = some u)
    (hlen : L.length ≤ 1048576) (hby : by_ ≤ 100) (hB : B ≤ w.heap.size)
    (h : ∀ v' w', EOwn T w' B v' (L ++ [q]) → w.grownBy w' v.ownBlock → (∀ w0, Below B w0 w → Below B w0 w') → wpList Tryz.prog ops Q rest (a.put o.dst v') w') :
    wpList Tryz.prog ops Q (o :: rest) a w := by
  obtain ⟨hu, z, hzc, hinfo⟩ := he
  obtain ⟨i0, hi, hz0, hz1, hz2⟩ := info_parts hinfo
  refine wpList_append_own w hgd s x t ho B T i0 z 7 by_ hu hi hz0 hz1 hz2 hzc (by decide) v L.length (c7 L) hs hown ad 1 c (l7 q) hx rfl hnews (one7_mem q) (by unfold maxLen; omega) (Nat.le_trans (Nat.mul_le_mul (show L.length + 1 ≤ 1048577 by omega) hby) (by decide)) hB ?_
  intro v' w' h2 h3 _
  refine h v' w' ?_ h3 (fun w0 hb => hb.grown h3 hB fun k hk => (World.ownsRow.lt hown k hk).1)
  unfold EOwn
  rw [List.length_append, c7_two]
  have e : c7 [q] = l7 q := by simp [c7]
  rw [e]
  exact h2
/-- .. in a region that draws -/
theorem step_epush {ops : Array Oper} {o : Oper} {a : Act} {K : Act → World → Prop} {Q : Exit → Act → World → Prop} {E : Prop} {t T : TypeId} {by_ : Nat} (he : Elem7 t T by_) (w : World) (hgd : o.guard = none) (s x : Operand)
    (ho : o.op = .call { callee := .builtin .append, args := #[s, x], argTypes := #[t, t] }) (B : Nat) (v : Value) (L : List Ev) (hs : a.eval s = v) (hown : EOwn T w B v L)
    (ad : Addr) (c : Nat) (q : Ev) (hx : a.eval x = .slice (some ad) 1 c) (hnews : ∀ j u, (l7 q)[j]? = some u → w.cell? (ad.add j) = some u)
    (hlen : L.length ≤ 1048576) (hby : by_ ≤ 100) (hB : B ≤ w.heap.size)
    (h : ∀ g cap w', EOwn T w' B (.slice (some ⟨g, 0, none⟩) (L.length + 1) cap) (L ++ [q]) → w.grownBy w' v.ownBlock → (∀ w0, Below B w0 w → Below B w0 w') → K (a.put o.dst (.slice (some ⟨g, 0, none⟩) (L.length + 1) cap)) w') :
    if Region.wanted o (yielded ops a.tmps) = true then Oper.wp Tryz.prog o a w K Q else E := by
  obtain ⟨hu, z, hzc, hinfo⟩ := he
  obtain ⟨i0, hi, hz0, hz1, hz2⟩ := info_parts hinfo
  refine step_append_lies w hgd s x t ho B T i0 z 7 by_ hu hi hz0 hz1 hz2 hzc (by decide) v L.length (c7 L) hs hown ad 1 c (l7 q) hx rfl hnews (one7_mem q) (by decide) (by unfold maxLen; omega) (Nat.le_trans (Nat.mul_le_mul (show L.length + 1 ≤ 1048577 by omega) hby) (by decide)) hB w.heap.size rfl ?_
  intro g cap w' h2 h3 _ _
  refine h g cap w' ?_ h3 (fun w0 hb => hb.grown h3 hB fun k hk => (World.ownsRow.lt hown k hk).1)
  unfold EOwn
  rw [List.length_append, c7_two]
  have e : c7 [q] = l7 q := by simp [c7]
  rw [e]
  exact h2

/-- a list of one event that was made just now -/
theorem EOwn.one (w : World) (q : Ev) : EOwn 41 (w.alloc (.cells (evA q) 41)) w.heap.size (.slice (some ⟨w.heap.size, 0, none⟩) 1 1) [q] :=
  ⟨rfl, .inr ⟨w.heap.size, 1, evA q, rfl, Nat.le_refl _, Blk.new w 41 (evA q), Nat.le_refl _, by unfold maxLen; decide, rfl, rfl⟩⟩
theorem EOwn.lower {T : TypeId} {w : World} {B B' : Nat} {v : Value} {L : List Ev} (h : EOwn T w B v L) (hB : B' ≤ B) : EOwn T w B' v L := by
  obtain ⟨h0, h1⟩ := h
  refine ⟨h0, h1.imp id ?_⟩
  rintro ⟨g, cap, cur, e1, e2, e3⟩
  exact ⟨g, cap, cur, e1, Nat.le_trans hB e2, e3⟩

end Go.Proofs.YtnpaijbkhmnfpaaGreat

/- What octets.inside, number, U16, U32, I32 answer, for every slice of bytes, every place. -/
namespace Go.Proofs.YtnpaijbkhmnfpaaGreat
open Go.RowKit

theorem inside_yes (p : Option Addr) (n c : Nat) (a k : Int) (w : World) (hn : n ≤ 9223372036854775807) (h0 : 0 ≤ k) (h1 : k ≤ 8) (ha : 0 ≤ a) (hb : a ≤ n - k) :
    Calls Tryz.prog 131 #[.slice p n c, .int .i64 a, .int .i64 k] w fun e w' => e = .returned (.bool true) ∧ w' = w := by
  go_enter Tryz.func131, Tryz.ntmps131
  go_wp2
  go_ret
  exact ⟨by simp, rfl⟩

theorem inside_no (p : Option Addr) (n c : Nat) (a k : Int) (w : World) (hn : n ≤ 9223372036854775807) (h0 : 0 ≤ k) (h1 : k ≤ 8) (h : a < 0 ∨ n - k < a) :
    Calls Tryz.prog 131 #[.slice p n c, .int .i64 a, .int .i64 k] w fun e w' => e = .returned (.bool false) ∧ w' = w := by
  by_cases ha : 0 ≤ a
  · have hb : ¬ a ≤ n - k := by omega
    go_enter Tryz.func131, Tryz.ntmps131
    go_wp2
    go_ret
    exact ⟨by simp, rfl⟩
  · have hd : decide (0 ≤ a) = false := by simpa using ha
    go_enter Tryz.func131, Tryz.ntmps131
    go_wp2
    go_ret
    exact ⟨rfl, rfl⟩

theorem ret_int2 {k : IntKind} {a b : Int} {x : Value} (h : a = b) : Ending.returned (.tuple #[.int k a, x]) = .returned (.tuple #[.int k b, x]) := by rw [h]

set_option maxHeartbeats 400000 in
theorem number4_at (b o n c a : Nat) (z0 z1 z2 z3 : Int) (w : World) (hn : n ≤ 9223372036854775807) (h : a + 4 ≤ n)
    (c0 : w.cell? ⟨b, o + a, none⟩ = some (.int .u8 z0)) (c1 : w.cell? ⟨b, o + (a + 1), none⟩ = some (.int .u8 z1))
    (c2 : w.cell? ⟨b, o + (a + 2), none⟩ = some (.int .u8 z2)) (c3 : w.cell? ⟨b, o + (a + 3), none⟩ = some (.int .u8 z3))
    (r0 : 0 ≤ z0 ∧ z0 ≤ 255) (r1 : 0 ≤ z1 ∧ z1 ≤ 255) (r2 : 0 ≤ z2 ∧ z2 ≤ 255) (r3 : 0 ≤ z3 ∧ z3 ≤ 255) :
    Calls Tryz.prog 128 #[.slice (some ⟨b, o, none⟩) n c, .int .i64 a, .int .i64 4] w fun e w' => e = .returned (.tuple #[.int .u32 (num4 z0 z1 z2 z3), .bool true]) ∧ w' = w := by
  go_enter Tryz.func128, Tryz.ntmps128
  go_wp2_with (go_at_call 131; refine (inside_yes _ _ _ _ _ _ hn (by decide) (by decide) (by omega) (by omega)).mono ?_; rintro e w' ⟨rfl, rfl⟩)
  refine wp_loop_rounds 5 ?_
  rw [rounds_succ]; go_wp2
  rw [rounds_succ]; go_wp2
  rw [rounds_succ]; go_wp2
  rw [rounds_succ]; go_wp2
  rw [rounds_succ]; go_wp2
  go_ret2
  exact ⟨ret_int2 (or4 z0 z1 z2 z3 r0 r1 r2 r3), rfl⟩

set_option maxHeartbeats 400000 in
theorem number2_at (b o n c a : Nat) (z0 z1 : Int) (w : World) (hn : n ≤ 9223372036854775807) (h : a + 2 ≤ n)
    (c0 : w.cell? ⟨b, o + a, none⟩ = some (.int .u8 z0)) (c1 : w.cell? ⟨b, o + (a + 1), none⟩ = some (.int .u8 z1))
    (r0 : 0 ≤ z0 ∧ z0 ≤ 255) (r1 : 0 ≤ z1 ∧ z1 ≤ 255) :
    Calls Tryz.prog 128 #[.slice (some ⟨b, o, none⟩) n c, .int .i64 a, .int .i64 2] w fun e w' => e = .returned (.tuple #[.int .u32 (num2 z0 z1), .bool true]) ∧ w' = w := by
  go_enter Tryz.func128, Tryz.ntmps128
  go_wp2_with (go_at_call 131; refine (inside_yes _ _ _ _ _ _ hn (by decide) (by decide) (by omega) (by omega)).mono ?_; rintro e w' ⟨rfl, rfl⟩)
  refine wp_loop_rounds 3 ?_
  rw [rounds_succ]; go_wp2
  rw [rounds_succ]; go_wp2
  rw [rounds_succ]; go_wp2
  go_ret2
  exact ⟨ret_int2 (or2 z0 z1 r0 r1), rfl⟩

theorem number_no (p : Option Addr) (n c : Nat) (a k : Int) (w : World) (hn : n ≤ 9223372036854775807) (h0 : 0 ≤ k) (h1 : k ≤ 8) (h : a < 0 ∨ n - k < a) :
    Calls Tryz.prog 128 #[.slice p n c, .int .i64 a, .int .i64 k] w fun e w' => e = .returned (.tuple #[.int .u32 0, .bool false]) ∧ w' = w := by
  go_enter Tryz.func128, Tryz.ntmps128
  go_wp2_with (go_at_call 131; refine (inside_no _ _ _ _ _ _ hn h0 h1 h).mono ?_; rintro e w' ⟨rfl, rfl⟩)
  go_ret2
  exact ⟨rfl, rfl⟩

theorem number4_yes (p : Option Addr) (n c : Nat) (a : Int) (xs : List Int) (w : World) (hx : xs.length = n) (hn : n ≤ 9223372036854775807) (hr : Row w p xs) (hb : Byt xs) (h0 : 0 ≤ a) (h1 : a + 4 ≤ n) :
    Calls Tryz.prog 128 #[.slice p n c, .int .i64 a, .int .i64 4] w fun e w' => e = .returned (.tuple #[.int .u32 (n4 xs a.toNat), .bool true]) ∧ w' = w := by
  obtain ⟨k, rfl⟩ := Int.eq_ofNat_of_zero_le h0
  obtain ⟨b, o, rfl, hc⟩ := hr (by omega)
  rw [Int.toNat_natCast]
  exact number4_at b o n c k _ _ _ _ w hn (by omega) (hc k (by omega)) (hc (k + 1) (by omega)) (hc (k + 2) (by omega)) (hc (k + 3) (by omega)) (hb _) (hb _) (hb _) (hb _)

theorem number2_yes (p : Option Addr) (n c : Nat) (a : Int) (xs : List Int) (w : World) (hx : xs.length = n) (hn : n ≤ 9223372036854775807) (hr : Row w p xs) (hb : Byt xs) (h0 : 0 ≤ a) (h1 : a + 2 ≤ n) :
    Calls Tryz.prog 128 #[.slice p n c, .int .i64 a, .int .i64 2] w fun e w' => e = .returned (.tuple #[.int .u32 (n2 xs a.toNat), .bool true]) ∧ w' = w := by
  obtain ⟨k, rfl⟩ := Int.eq_ofNat_of_zero_le h0
  obtain ⟨b, o, rfl, hc⟩ := hr (by omega)
  rw [Int.toNat_natCast]
  exact number2_at b o n c k _ _ w hn (by omega) (hc k (by omega)) (hc (k + 1) (by omega)) (hb _) (hb _)

/-! ### octets.U16, U32, I32 -/
theorem u32_yes (p : Option Addr) (n c : Nat) (a : Int) (xs : List Int) (w : World) (hx : xs.length = n) (hn : n ≤ 9223372036854775807) (hr : Row w p xs) (hb : Byt xs) (h0 : 0 ≤ a) (h1 : a + 4 ≤ n) :
    Calls Tryz.prog 105 #[.slice p n c, .int .i64 a] w fun e w' => e = .returned (.tuple #[.int .u32 (n4 xs a.toNat), .bool true]) ∧ w' = w := by
  have hcon := number4_yes p n c a xs w hx hn hr hb h0 h1
  generalize n4 xs a.toNat = v at *
  clear hr hb
  go_enter Tryz.func105, Tryz.ntmps105
  go_wp2_with (go_at_call 128; refine hcon.mono ?_; rintro e w' ⟨rfl, rfl⟩)
  go_ret2
  exact ⟨rfl, rfl⟩

theorem u32_no (p : Option Addr) (n c : Nat) (a : Int) (w : World) (hn : n ≤ 9223372036854775807) (h : a < 0 ∨ n - 4 < a) :
    Calls Tryz.prog 105 #[.slice p n c, .int .i64 a] w fun e w' => e = .returned (.tuple #[.int .u32 0, .bool false]) ∧ w' = w := by
  go_enter Tryz.func105, Tryz.ntmps105
  go_wp2_with (go_at_call 128; refine (number_no _ _ _ _ _ _ hn (by decide) (by decide) h).mono ?_; rintro e w' ⟨rfl, rfl⟩)
  go_ret2
  exact ⟨rfl, rfl⟩

theorem i32_yes (p : Option Addr) (n c : Nat) (a : Int) (xs : List Int) (w : World) (hx : xs.length = n) (hn : n ≤ 9223372036854775807) (hr : Row w p xs) (hb : Byt xs) (h0 : 0 ≤ a) (h1 : a + 4 ≤ n) :
    Calls Tryz.prog 123 #[.slice p n c, .int .i64 a] w fun e w' => e = .returned (.tuple #[.int .i32 (wrap32 (n4 xs a.toNat)), .bool true]) ∧ w' = w := by
  have hcon := number4_yes p n c a xs w hx hn hr hb h0 h1
  generalize n4 xs a.toNat = v at *
  clear hr hb
  go_enter Tryz.func123, Tryz.ntmps123
  go_wp2_with (go_at_call 128; refine hcon.mono ?_; rintro e w' ⟨rfl, rfl⟩)
  go_ret2
  exact ⟨rfl, rfl⟩

theorem i32_no (p : Option Addr) (n c : Nat) (a : Int) (w : World) (hn : n ≤ 9223372036854775807) (h : a < 0 ∨ n - 4 < a) :
    Calls Tryz.prog 123 #[.slice p n c, .int .i64 a] w fun e w' => e = .returned (.tuple #[.int .i32 0, .bool false]) ∧ w' = w := by
  go_enter Tryz.func123, Tryz.ntmps123
  go_wp2_with (go_at_call 128; refine (number_no _ _ _ _ _ _ hn (by decide) (by decide) h).mono ?_; rintro e w' ⟨rfl, rfl⟩)
  go_ret2
  exact ⟨rfl, rfl⟩

end Go.Proofs.YtnpaijbkhmnfpaaGreat
