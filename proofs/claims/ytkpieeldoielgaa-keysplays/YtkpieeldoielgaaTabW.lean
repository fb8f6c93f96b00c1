/- symbols.Table, for every list of units. -/
import Derived.Test.YtkpieeldoielgaaAppM
import Derived.Test.YtkpieeldoielgaaRObj
namespace Go.Proofs.Ytkpieeldoielgaa
open Go.RowKit

/-- a unit in a list of units -/
def UnitIn (w : World) (b o i : Nat) (x : Ob) : Prop :=
  ∃ (pb ps pf pm : Option Addr) (cb cs cf cm : Nat), (w.cell? ⟨b, o + i * 4, none⟩ = some (.slice pb x.bs.length cb) ∧ w.cell? ⟨b, o + i * 4 + 1, none⟩ = some (.slice ps x.sy.length cs) ∧ w.cell? ⟨b, o + i * 4 + 2, none⟩ = some (.slice pf x.fx.length cf) ∧ w.cell? ⟨b, o + i * 4 + 3, none⟩ = some (.slice pm x.mk_.length cm)) ∧ ObIn w x pb ps pf pm x.bs.length cb x.sy.length cs x.fx.length cf x.mk_.length cm
def Units (w : World) (p : Option Addr) (xs : List Ob) : Prop := 0 < xs.length → ∃ b o, p = some ⟨b, o, none⟩ ∧ ∀ i (h : i < xs.length), UnitIn w b o i xs[i]
theorem Units.below {w w' : World} {p : Option Addr} {xs : List Ob} (h : Units w p xs) (hb : Below w.heap.size w w') : Units w' p xs := fun h0 => by
  obtain ⟨b, o, e, hc⟩ := h h0
  refine ⟨b, o, e, fun i hi => ?_⟩
  obtain ⟨pb, ps, pf, pm, cb, cs, cf, cm, ⟨c0, c1, c2, c3⟩, hI⟩ := hc i hi
  exact ⟨pb, ps, pf, pm, cb, cs, cf, cm, ⟨(hb.cell (cell_lt c0)).trans c0, (hb.cell (cell_lt c1)).trans c1, (hb.cell (cell_lt c2)).trans c2, (hb.cell (cell_lt c3)).trans c3⟩, hI.below hb⟩
def startsV (ss : List Nat) : List Value := ss.map fun (n : Nat) => .int .i64 (n : Int)
def TabIs (xs : List Ob) (w : World) (E : Ending) (w' : World) : Prop :=
  ∃ v2 v3, E = .returned (.tuple #[v2, v3, .int .i64 (tabL xs).e, .int .i64 ((tabL xs).u : Nat)]) ∧ GOwnV 3 w' w.heap.size v2 (startsV (tabL xs).ss) ∧ TOwn 100 w' w.heap.size v3 ((tabL xs).ts.map syV) ∧ Below w.heap.size w w'
theorem tabIs_err {xs : List Ob} {w w' : World} {e : Int} {u : Nat} (h : tabL xs = noTab e u) (hb : Below w.heap.size w w') : TabIs xs w (.returned (.tuple #[.slice none 0 0, .slice none 0 0, .int .i64 e, .int .i64 (u : Nat)])) w' := by
  refine ⟨_, _, by rw [h]; rfl, ?_, ?_, hb⟩
  · rw [h]; exact GOwnV.nil _ _ _
  · rw [h]; exact TOwn.nil _ _ _
theorem rs_good (n : Nat) : ∀ (L : List Sy) (least : Int) (seen : List ByteArray), rsL n least seen L = true → ∀ s ∈ L, least ≤ s.at_ ∧ s.at_ ≤ n ∧ NameP s.name
  | [], _, _, _, s, hs => by cases hs
  | x :: L, least, seen, h, s, hs => by
    unfold rsL at h
    rw [Bool.and_eq_true] at h
    obtain ⟨h1, h2⟩ := h
    have hx : least ≤ x.at_ ∧ x.at_ ≤ n ∧ NameP x.name := by
      unfold symB at h1
      simp only [Bool.and_eq_true, decide_eq_true_eq] at h1
      obtain ⟨⟨⟨_, ha⟩, hb⟩, hc⟩ := h1
      exact ⟨hb, hc, (nmB_iff _).1 ha⟩
    rcases List.mem_cons.1 hs with rfl | hs
    · exact hx
    · obtain ⟨i1, i2, i3⟩ := rs_good n L _ _ h2 s hs
      exact ⟨by omega, i2, i3⟩
theorem ok_parts {o : Ob} (h : okO o = true) : o.bs.length ≤ 65536 ∧ o.sy.length ≤ 4096 ∧ (names o.sy).Nodup ∧ (∀ s ∈ o.sy, 0 ≤ s.at_ ∧ s.at_ ≤ 65536) ∧ ∀ s ∈ o.sy, s.name.size ≤ 16 := by
  unfold okO at h
  simp only [Bool.and_eq_true, decide_eq_true_eq] at h
  obtain ⟨⟨⟨⟨h1, h2, -, -⟩, h3⟩, -⟩, -⟩ := h
  refine ⟨h1, h2, (rs_nodup _ _ _ _ h3).2, fun s hs => ?_, fun s hs => (rs_good _ _ _ _ h3 s hs).2.2.2.2⟩
  obtain ⟨i1, i2, -⟩ := rs_good _ _ _ _ h3 s hs
  exact ⟨i1, by omega⟩

theorem row_lower {w : World} {B B' : Nat} {T : TypeId} {z : Nat} {v : Value} {n : Nat} {xs : List Value} (h : w.ownsRow B T z v n xs) (hB : B' ≤ B) : w.ownsRow B' T z v n xs := by
  obtain ⟨h0, h1⟩ := h
  refine ⟨h0, h1.imp id ?_⟩
  rintro ⟨g, cap, cur, e1, e2, e3⟩
  exact ⟨g, cap, cur, e1, Nat.le_trans hB e2, e3⟩
theorem row_far {w : World} {B b : Nat} {T : TypeId} {z : Nat} {v : Value} {n : Nat} {xs : List Value} (h : w.ownsRow B T z v n xs) (hb : b < B) : v.ownBlock ≠ some b := fun e => absurd (World.ownsRow.lt h _ e).1 (by omega)
theorem gloS_len (L : List Sy) : (gloS L).length ≤ L.length := by unfold gloS; rw [List.length_map]; exact List.length_filter_le _ _

end Go.Proofs.Ytkpieeldoielgaa
