/- What switchyardref09.Right asks, as lists; its Quiet. -/
import Derived.Test.YtgblohjdiheemaaGreatRefNm
import Derived.Test.YtgblohjdiheemaaGreatKan
import Derived.Test.YtgblohjdiheemaaGreatKac
namespace Go.Proofs.YtgblohjdiheemaaGreat
open Go.RowKit

/-- what the reference asks of a unit -/
def unR (n : Nat) (un : List Int) (i : Nat) : Prop :=
  0 ≤ un.getD i 0 ∧ un.getD i 0 % 4 = 0 ∧ un.getD i 0 ≤ n ∧ (i = 0 → un.getD i 0 = 0) ∧ (0 < i → un.getD (i - 1) 0 ≤ un.getD i 0)
theorem getD_un {un : List Int} {i : Nat} (hi : i < un.length) : un.getD i 0 = un[i] := by
  rw [List.getD_eq_getElem?_getD, List.getElem?_eq_getElem hi]; rfl
theorem units_ref {n : Nat} {un : List Int} (hn : n ≤ 65536) (h16 : un.length ≤ 16) : unitsB n un = true ↔ ∀ i, i < un.length → unR n un i := by
  unfold unitsB
  rw [Bool.and_eq_true, decide_eq_true_eq]
  constructor
  · rintro ⟨⟨_, h0⟩, ha⟩ i hi
    have hnum := units_num hn ha i hi
    rw [List.all_eq_true] at ha
    have hp := ha i (List.mem_range.2 hi)
    unfold unP at hp
    rw [decide_eq_true_eq] at hp
    rw [getD_un hi] at hp
    unfold unR
    rw [getD_un hi]
    refine ⟨hnum.1, hp.2.1, hp.2.2, fun e => ?_, fun e => ?_⟩
    · subst e; rw [← getD_un hi]; exact h0
    · have := hp.1
      unfold lastU at this
      rw [if_neg (by omega)] at this
      exact this
  · intro h
    refine ⟨⟨h16, ?_⟩, ?_⟩
    · by_cases h0 : 0 < un.length
      · exact (h 0 h0).2.2.2.1 rfl
      · have e : un = [] := List.eq_nil_of_length_eq_zero (by omega)
        rw [e]; rfl
    · rw [List.all_eq_true]
      intro i hi
      have hi := List.mem_range.1 hi
      obtain ⟨a, b, c, d, e⟩ := h i hi
      unfold unP
      rw [decide_eq_true_eq]
      refine ⟨?_, b, c⟩
      unfold lastU
      by_cases hz : i = 0
      · rw [if_pos hz]; exact a
      · rw [if_neg hz]; exact e (by omega)
theorem units_no {n : Nat} {un : List Int} {i : Nat} (hn : n ≤ 65536) (h16 : un.length ≤ 16) (hi : i < un.length) (h : ¬ unR n un i) : unitsB n un = false := by
  cases hr : unitsB n un with
  | false => rfl
  | true => exact absurd ((units_ref hn h16).1 hr i hi) h
theorem getD_ks {ks : List ByteArray} {i : Nat} (hi : i < ks.length) : ks.getD i default = ks[i] := by
  rw [List.getD_eq_getElem?_getD, List.getElem?_eq_getElem hi]; rfl
theorem inB_take {ks : List ByteArray} {i : Nat} (hi : i < ks.length) : inB ks[i] (ks.take i) = true ↔ ∃ k, ∃ h : k < i, ks[k] = ks[i] := by
  rw [inB_iff]
  constructor
  · intro h
    obtain ⟨k, hk, e⟩ := List.getElem_of_mem h
    rw [List.length_take] at hk
    exact ⟨k, by omega, by rw [List.getElem_take] at e; exact e⟩
  · rintro ⟨k, hk, e⟩
    rw [← e]
    exact List.mem_take_iff_getElem.2 ⟨k, by omega, rfl⟩
theorem key_twice {ks : List ByteArray} {i k : Nat} (hi : i < ks.length) (hk : k < i) (h : ks[k] = ks[i]) : keysB ks = false := by
  refine range_no hi ?_
  unfold keyP
  rw [getD_ks hi, (inB_take hi).2 ⟨k, hk, h⟩]
  rfl
theorem key_noname {ks : List ByteArray} {i : Nat} (hi : i < ks.length) (h : nmB ks[i] = false) : keysB ks = false := by
  refine range_no hi ?_
  unfold keyP
  rw [getD_ks hi, h, Bool.and_false]
theorem key_ok {ks : List ByteArray} {i : Nat} (hi : i < ks.length) (h1 : ∀ k (hk : k < i), ks[k] ≠ ks[i]) (h2 : nmB ks[i] = true) : keyP ks i = true := by
  unfold keyP
  rw [getD_ks hi, h2, Bool.and_true]
  cases h : inB ks[i] (ks.take i) with
  | false => rfl
  | true =>
    obtain ⟨k, hk, e⟩ := (inB_take hi).1 h
    exact absurd e (h1 k hk)
theorem refName_any (s : ByteArray) (w : World) (hs : s.size ≤ maxLen) : Calls Tryz.prog 63 #[.string s] w fun e w' => e = .returned (.bool (nmB s)) ∧ w' = w := by
  have hs' : s.size ≤ 9223372036854775807 := by unfold maxLen at hs; omega
  cases h : nmB s with
  | true => exact refName_yes s w hs' ((nmB_iff s).1 h)
  | false => exact refName_no s w hs' (fun hn => by rw [(nmB_iff s).2 hn] at h; cases h)
theorem rquiet_any (w : World) : Calls Tryz.prog 64 #[] w fun e w' => ∃ g cap, e = .returned (.slice (some ⟨g, 0, none⟩) 5 cap) ∧ Own w' w.heap.size g cap quiet ∧ Below w.heap.size w w' := by
  have h : Own (w.alloc (.cells #[.int .u8 15, .int .u8 31, .int .u8 68, .int .u8 0, .int .u8 0] 5)) w.heap.size w.heap.size 5 quiet := Own.lit w quiet (by unfold maxLen; decide)
  have HO := Hid.in h
  have HB := Hid.in (new_alloc w (.cells #[.int .u8 15, .int .u8 31, .int .u8 68, .int .u8 0, .int .u8 0] 5))
  clear h
  go_enter Tryz.func64, Tryz.ntmps64
  go_wp2
  go_ret
  exact ⟨_, _, rfl, HO.out, HB.out⟩
/-- b[a:a+5] -/
theorem slice_five {w : World} {p : Option Addr} {n c a : Nat} {xs : List Int} (h : Row w p xs) (hn : xs.length = n) (hc : n ≤ c) (ha : a + 5 ≤ n) :
    ∃ p', (∀ W, (Instr.sliceAt 22 (.slice p n c) (some (.int .i64 a)) (some (.int .i64 ((a : Int) + 5))) none).run Tryz.prog W = .ok (.slice p' 5 (c - a)) W) ∧ (∀ W, (Instr.slice 22 (.slice p n c) (some (.int .i64 a)) (some (.int .i64 ((a : Int) + 5))) none).run Tryz.prog W = .ok (.slice p' 5 (c - a)) W) ∧ Row w p' ((xs.drop a).take 5) := by
  have h0 : (0 : Int) ≤ (a : Int) := by omega
  have h2 : (a : Int) + 5 ≤ (c : Int) := by omega
  have h3 : (0 : Int) ≤ (a : Int) + 5 := by omega
  have h5 : ((a : Int) + 5).toNat = a + 5 := by omega
  have e1 : ∀ W, (Instr.slice 22 (.slice p n c) (some (.int .i64 a)) (some (.int .i64 ((a : Int) + 5))) none).run Tryz.prog W = .ok (.slice (if c = a then p else p.map (·.add (a * 1))) 5 (c - a)) W := fun W => by
    simp [Instr.slice, Instr.sliceBounds, go_sem, h0, h2, h3, h5]
  have e2 : ∀ W, (Instr.sliceAt 22 (.slice p n c) (some (.int .i64 a)) (some (.int .i64 ((a : Int) + 5))) none).run Tryz.prog W = .ok (.slice (if c = a then p else p.map (·.add (a * 1))) 5 (c - a)) W := fun W => by
    rw [← e1 W]; simp [Instr.sliceAt, go_sem]
  refine ⟨_, e2, e1, ?_⟩
  rw [if_neg (by omega)]
  obtain ⟨b, o, rfl, _⟩ := h (by omega)
  rw [Nat.mul_one, Option.map_some, show (⟨b, o, none⟩ : Addr).add a = ⟨b, o + a, none⟩ from Go.WideShapes.add_plain _ _ _]
  exact (h.dropAt a).take 5
theorem st_five {xs : List Int} {a : Nat} (h : a + 5 ≤ xs.length) : stB xs (a : Int) quiet = sameB ((xs.drop a).take 5) quiet := by
  rw [st_pre (by omega)]
  unfold pfxB sameB
  have e : quiet.length = 5 := rfl
  rw [e, List.length_drop]
  by_cases hq : (xs.drop a).take 5 = quiet
  · rw [decide_eq_true hq, decide_eq_true ⟨by omega, hq⟩]
  · rw [decide_eq_false hq, decide_eq_false (fun h => hq h.2)]
end Go.Proofs.YtgblohjdiheemaaGreat
