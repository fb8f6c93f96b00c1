/- Slices of bytes that a call has made: what they hold, what a store does to them, that they stay. -/
import Derived.Test.YtekggimgobeggaaProg
import Derived.Test.YtekggimgobeggaaNums
import Derived.Laws.CopyOwn
namespace Go.Proofs.Ytekggimgobeggaa
open Go.RowKit

theorem Try.info5 : (Try.prog.info? 5).map (fun i => (i.zero, i.size, i.bytes)) = some (some (.int .u8 0), 1, 1) := by kernel_rfl
theorem Try.size5 : (Try.prog.info? 5).map (·.size) = some 1 := by kernel_rfl

abbrev byts (xs : List Int) : List Value := xs.map (Value.int .u8)

/-- a slice of bytes in a block of its own (its number B or above), with room for cap -/
def Own (w : World) (B g cap : Nat) (xs : List Int) : Prop := w.ownsRow B 5 1 (.slice (some ⟨g, 0, none⟩) xs.length cap) xs.length (byts xs)

theorem Own.parts {w : World} {B g cap : Nat} {xs : List Int} (h : Own w B g cap xs) :
    ∃ cur, B ≤ g ∧ w.heap[g]? = some (.cells cur 5 (0, 0)) ∧ xs.length ≤ cap ∧ cap ≤ maxLen ∧ cur.size = cap ∧ cur.toList.take xs.length = byts xs := by
  rcases h.2 with ⟨h', _⟩ | ⟨g', cap', cur, h', h1, h2, h3, h4, h5, h6⟩
  · simp at h'
  · simp only [Value.slice.injEq, Option.some.injEq, Addr.mk.injEq, and_true, true_and] at h'
    obtain ⟨rfl, rfl⟩ := h'
    exact ⟨cur, h1, h2, h3, h4, by simpa using h5, by simpa using h6⟩

theorem Own.mk {w : World} {B g cap : Nat} {xs : List Int} {cur : Array Value} (h1 : B ≤ g) (h2 : w.heap[g]? = some (.cells cur 5 (0, 0))) (h3 : xs.length ≤ cap) (h4 : cap ≤ maxLen) (h5 : cur.size = cap) (h6 : cur.toList.take xs.length = byts xs) : Own w B g cap xs :=
  ⟨by simp, .inr ⟨g, cap, cur, rfl, h1, h2, h3, h4, by simpa using h5, by simpa using h6⟩⟩

theorem Own.lt {w : World} {B g cap : Nat} {xs : List Int} (h : Own w B g cap xs) : g < w.heap.size := by
  obtain ⟨cur, _, h2, _⟩ := h.parts
  rcases Nat.lt_or_ge g w.heap.size with h | h
  · exact h
  · rw [Array.getElem?_eq_none h] at h2; cases h2
theorem Own.base {w : World} {B g cap : Nat} {xs : List Int} (h : Own w B g cap xs) : B ≤ g := by obtain ⟨cur, h1, _⟩ := h.parts; exact h1
theorem Own.cap {w : World} {B g cap : Nat} {xs : List Int} (h : Own w B g cap xs) : xs.length ≤ cap := by obtain ⟨cur, _, _, h1, _⟩ := h.parts; exact h1
theorem Own.lower {w : World} {B B' g cap : Nat} {xs : List Int} (h : Own w B g cap xs) (hB : B' ≤ B) : Own w B' g cap xs := by
  obtain ⟨cur, h1, h2, h3, h4, h5, h6⟩ := h.parts
  exact Own.mk (by omega) h2 h3 h4 h5 h6
theorem Own.raise {w : World} {B B' g cap : Nat} {xs : List Int} (h : Own w B g cap xs) (hB : B' ≤ g) : Own w B' g cap xs := by
  obtain ⟨cur, h1, h2, h3, h4, h5, h6⟩ := h.parts
  exact Own.mk hB h2 h3 h4 h5 h6
theorem Own.below {w w' : World} {B g cap : Nat} {xs : List Int} (h : Own w B g cap xs) (hb : Below w.heap.size w w') : Own w' B g cap xs := by
  obtain ⟨cur, h1, h2, h3, h4, h5, h6⟩ := h.parts
  exact Own.mk h1 (by rw [hb.block g h.lt]; exact h2) h3 h4 h5 h6

theorem getD_byts (xs : List Int) (i : Nat) (h : i < xs.length) : (byts xs)[i]? = some (.int .u8 (xs.getD i 0)) := by
  simp [byts, List.getElem?_eq_getElem h, List.getD]

theorem Own.cell {w : World} {B g cap : Nat} {xs : List Int} (h : Own w B g cap xs) (i : Nat) (hi : i < xs.length) : w.cell? ⟨g, i, none⟩ = some (.int .u8 (xs.getD i 0)) := by
  have := World.ownsRow.cellAt h i (by omega)
  rw [this, getD_byts xs i hi]
theorem Own.free {w : World} {B g cap : Nat} {xs : List Int} (h : Own w B g cap xs) (i : Nat) : w.frozen? ⟨g, i, none⟩ = false := World.ownsRow.frozenAt h i
theorem Own.store {w : World} {B g cap : Nat} {xs : List Int} (h : Own w B g cap xs) (i : Nat) (x : Int) : Own (w.setCell ⟨g, i, none⟩ (.int .u8 x)) B g cap (xs.set i x) := by
  have := (World.ownsRow.stored h i (.int .u8 x)).1
  unfold Own
  simpa [byts, List.map_set] using this
theorem Own.row {w : World} {B g cap : Nat} {xs : List Int} (h : Own w B g cap xs) : Row w (some ⟨g, 0, none⟩) xs :=
  fun _ => ⟨g, 0, rfl, fun i hi => by simpa using h.cell i hi⟩

theorem cell_lt {w : World} {b o : Nat} {v : Value} (h : w.cell? ⟨b, o, none⟩ = some v) : b < w.heap.size := by
  rcases Nat.lt_or_ge b w.heap.size with h' | h'
  · exact h'
  · simp [World.cell?, Array.getElem?_eq_none h'] at h

theorem Row.below {w w' : World} {p : Option Addr} {xs : List Int} (h : Row w p xs) (hb : Below w.heap.size w w') : Row w' p xs := fun h0 => by
  obtain ⟨b, o, rfl, hc⟩ := h h0
  exact ⟨b, o, rfl, fun i hi => by rw [hb.cell (p := ⟨b, o + i, none⟩) (cell_lt (hc i hi))]; exact hc i hi⟩

theorem below_step {w w1 w2 : World} (h : Below w.heap.size w w1) (k : Below w1.heap.size w1 w2) : Below w.heap.size w w2 := h.trans (k.mono h.size)
theorem below_alloc {w w1 : World} (h : Below w.heap.size w w1) (o : Obj) : Below w.heap.size w (w1.alloc o) := h.alloc h.size o
theorem below_draws {w w1 : World} (h : Below w.heap.size w w1) (n : Nat) : Below w.heap.size w (w1.drewN n) := below_drewN h n
theorem below_self (w : World) : Below w.heap.size w w := Below.refl _ _
theorem new_alloc (w : World) (o : Obj) : Below w.heap.size w (w.alloc o) := (Below.refl _ _).alloc (Nat.le_refl _) _

theorem Row.drewN {w : World} {p : Option Addr} {xs : List Int} (h : Row w p xs) (n : Nat) : Row (w.drewN n) p xs := h
theorem Own.drewN {w : World} {B g cap : Nat} {xs : List Int} (h : Own w B g cap xs) (n : Nat) : Own (w.drewN n) B g cap xs := h

end Go.Proofs.Ytekggimgobeggaa
