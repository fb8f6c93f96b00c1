/- Lists of flags: how they lie, and those that a call has made. -/
import Derived.Test.YtekggimgobeggaaGen
import Derived.Test.YtekggimgobeggaaBlk
import Derived.Test.YtekggimgobeggaaBas
import Derived.Lib.Hide
namespace Go.Proofs.Ytekggimgobeggaa
open Go.RowKit

theorem ret_bool {a b : Bool} (h : a = b) : Ending.returned (.bool a) = .returned (.bool b) := by rw [h]

/-- a list of flags in memory -/
def BRow (w : World) (p : Option Addr) (hs : List Bool) : Prop :=
  0 < hs.length → ∃ b o, p = some ⟨b, o, none⟩ ∧ ∀ i, i < hs.length → w.cell? ⟨b, o + i, none⟩ = some (.bool (hs.getD i false))
theorem BRow.below {w w' : World} {p : Option Addr} {hs : List Bool} (h : BRow w p hs) (hb : Below w.heap.size w w') : BRow w' p hs := fun h0 => by
  obtain ⟨b, o, rfl, hc⟩ := h h0
  exact ⟨b, o, rfl, fun i hi => by rw [hb.cell (p := ⟨b, o + i, none⟩) (cell_lt (hc i hi))]; exact hc i hi⟩
theorem BRow.drewN {w : World} {p : Option Addr} {hs : List Bool} (h : BRow w p hs) (n : Nat) : BRow (w.drewN n) p hs := h
theorem BRow.nil (w : World) (p : Option Addr) : BRow w p [] := fun h => absurd h (Nat.lt_irrefl 0)
theorem BRow.take {w : World} {p : Option Addr} {hs : List Bool} (h : BRow w p hs) (k : Nat) : BRow w p (hs.take k) := fun h0 => by
  rw [List.length_take] at h0
  obtain ⟨b, o, rfl, hc⟩ := h (by omega)
  refine ⟨b, o, rfl, fun i hi => ?_⟩
  rw [List.length_take] at hi
  rw [hc i (by omega)]
  simp [List.getD, show i < k by omega]

abbrev flgs (hs : List Bool) : List Value := hs.map Value.bool
theorem getD_flgs (xs : List Bool) (i : Nat) (h : i < xs.length) : (flgs xs)[i]? = some (.bool (xs.getD i false)) := by
  simp [flgs, List.getElem?_eq_getElem h, List.getD]
theorem GOwnV.brow {w : World} {B : Nat} {v : Value} {hs : List Bool} (h : GOwnV 4 w B v (flgs hs)) : ∃ p c, v = .slice p hs.length c ∧ BRow w p hs := by
  obtain ⟨p, c, rfl, hr, _, _⟩ := h.slice
  refine ⟨p, c, by simp, fun h0 => ?_⟩
  obtain ⟨b, o, rfl, hc⟩ := hr (by simpa using h0)
  exact ⟨b, o, rfl, fun i hi => by rw [hc i (by simpa using hi), getD_flgs _ _ hi]⟩

theorem Try.elem29 : Elem 39 4 1 := ⟨by kernel_rfl, .bool false, rfl, by kernel_rfl⟩

end Go.Proofs.Ytekggimgobeggaa
