/- Texts put together: MayL, LaySz. -/
import Derived.Test.YtkianldkbfjehaaGreatDoorKp
import Derived.Test.YtkianldkbfjehaaGreatDoorKo
import Derived.Test.YtkianldkbfjehaaGreatDoorKq

/- layout.mayBe, for every item. -/
namespace Go.Proofs.YtkianldkbfjehaaGreatDoor
open Go.RowKit

theorem one_item {w : World} {g : Nat} {x : Src} {q : Option Addr} {e : Nat} (hB : Blk w g 57 (cellsOf x (.slice q x.d.length e))) (hr : Row w q x.d) (hx : Fit x) : Items w (some ⟨g, 0, none⟩) [x] := fun _ => ⟨g, 0, rfl, fun i hi => by
  have h0 : i = 0 := by simp at hi; exact hi
  subst h0
  exact ⟨q, e, hB.range, hr, hx⟩⟩

set_option maxRecDepth 20000 in
set_option maxHeartbeats 1000000 in
theorem layMay_gen (x : Src) (hx : Fit x) (q : Option Addr) (m e : Nat) (w : World) (he : Env w) (hm : x.d.length = m) (hr : Row w q x.d) (b : Bool) (r1 : Int) (h1 : (checkL [x]).1 = r1) (hb : (r1 = 2 ∧ b = false) ∨ (r1 = 182 ∧ b = true) ∨ (r1 = 0 ∧ b = true)) :
    Calls Tryz.prog 79 #[.agg (cellsOf x (.slice q m e))] w fun E w' => E = .returned (.bool b) ∧ Below w.heap.size w w' := by
  subst hm
  have HC : Hid (∀ W g, Blk W g 57 (cellsOf x (.slice q x.d.length e)) → Row W q x.d → Env W → Calls Tryz.prog 23 #[.slice (some ⟨g, 0, none⟩) 1 1] W fun E w' => E = .returned (.tuple #[.int .i64 r1, .int .i64 (checkL [x]).2]) ∧ Below W.heap.size W w') := fun W g hB hR hE => by
    rw [← h1]
    exact check_any (some ⟨g, 0, none⟩) 1 1 [x] W hE rfl (Nat.le_refl _) (by decide) (one_item hB hR hx)
  generalize (checkL [x]).2 = r2 at *
  have HW2 := Hid.in (below_alloc (new_alloc w (.cells (cellsOf x (.slice q x.d.length e)) 57)) (.cells (cellsOf x (.slice q x.d.length e)) 57))
  have hB2 := Blk.new (w.alloc (.cells (cellsOf x (.slice q x.d.length e)) 57)) 57 (cellsOf x (.slice q x.d.length e))
  rw [size_one] at hB2
  have HB2 := Hid.in hB2
  clear hB2
  have HR := Hid.in hr
  have HE := Hid.in he
  clear hr he h1 hx
  have hc9 : ∀ d, (cellsOf x d).size = 9 := fun _ => rfl
  go_enter Tryz.func79, Tryz.ntmps79
  go_wp2_with (first
    | (refine step_load_blk (Blk.new w 57 (cellsOf x (.slice q x.d.length e))) rfl 57 _ rfl rfl (cellsOf x (.slice q x.d.length e)) (List.prefix_refl _) _ Tryz.underlying57 rfl Tryz.sz57 ?_)
    | (go_at_call 23; refine Hid.out ?_))
  refine Lib.hid ?_
  first | rw [build9] | rw [build9b]
  refine (HC.out _ _ HB2.out (HR.out.below HW2.out) (HE.out.below HW2.out)).mono ?_
  rintro E w3 ⟨rfl, hb3⟩
  have HW3 := Hid.in (below_step HW2.out hb3)
  clear hb3 HC HB2
  rcases hb with ⟨rfl, rfl⟩ | ⟨rfl, rfl⟩ | ⟨rfl, rfl⟩
  all_goals
    go_wp2
    go_ret
    exact ⟨rfl, HW3.out⟩
theorem layMay_any (x : Src) (hx : Fit x) (q : Option Addr) (m e : Nat) (w : World) (he : Env w) (hm : x.d.length = m) (hr : Row w q x.d) :
    Calls Tryz.prog 79 #[.agg (cellsOf x (.slice q m e))] w fun E w' => E = .returned (.bool (mayB x)) ∧ Below w.heap.size w w' := by
  refine layMay_gen x hx q m e w he hm hr (mayB x) _ (check_one x) ?_
  by_cases h : mayB x = false
  · rw [if_pos h]; exact .inl ⟨rfl, h⟩
  · rw [if_neg h]
    have ht : mayB x = true := by simpa using h
    by_cases h3 : x.k = 3
    · rw [if_pos h3]; exact .inr (.inl ⟨rfl, ht⟩)
    · rw [if_neg h3]; exact .inr (.inr ⟨rfl, ht⟩)

end Go.Proofs.YtkianldkbfjehaaGreatDoor

/- layout.Size, for every item and place. -/
namespace Go.Proofs.YtkianldkbfjehaaGreatDoor
open Go.RowKit

/-- what Size tells -/
def sizeP (x : Src) (a : Int) : Int := if a < 0 ∨ mayB x = false then 0 else (sizeL x a.toNat : Int)
set_option maxRecDepth 20000 in
set_option maxHeartbeats 1000000 in
theorem laySize_any (x : Src) (hx : Fit x) (q : Option Addr) (m e : Nat) (at_ : Int) (w : World) (he : Env w) (hm : x.d.length = m) (hr : Row w q x.d) :
    Calls Tryz.prog 64 #[.agg (cellsOf x (.slice q m e)), .int .i64 at_] w fun E w' => E = .returned (.int .i64 (sizeP x at_)) ∧ Below w.heap.size w w' := by
  by_cases hneg : at_ < 0
  · have HS : Hid (sizeP x at_ = 0) := by
      have : sizeP x at_ = 0 := by unfold sizeP; rw [if_pos (.inl hneg)]
      exact this
    generalize sizeP x at_ = r at *
    go_enter Tryz.func64, Tryz.ntmps64
    go_wp2_with fail
    go_ret
    exact ⟨by rw [HS.out]; rfl, new_alloc _ _⟩
  · have hM := fun W hW hR => layMay_any x hx q m e W hW hm hR
    have hE1 := fun o => Hid.in (he.below (new_alloc w o))
    have hR1 := fun o => Hid.in (hr.below (new_alloc w o))
    cases hmb : mayB x with
    | false =>
      have HS : Hid (sizeP x at_ = 0) := by
        have : sizeP x at_ = 0 := by unfold sizeP; rw [if_pos (.inr hmb)]
        exact this
      rw [hmb] at hM
      generalize sizeP x at_ = r at *
      clear hmb hx hm
      unfold cellsOf at *
      go_enter Tryz.func64, Tryz.ntmps64
      go_wp2_with (go_at_call 79; refine (hM _ (hE1 _).out (hR1 _).out).mono ?_; rintro E w1 ⟨rfl, hb1⟩)
      go_ret
      exact ⟨by rw [HS.out]; rfl, below_step (new_alloc _ _) hb1⟩
    | true =>
      obtain ⟨a, ha⟩ := Int.eq_ofNat_of_zero_le (show 0 ≤ at_ by omega)
      subst ha
      have HS : Hid (sizeP x a = (sizeL x a : Int)) := by
        have : sizeP x a = (sizeL x a : Int) := by unfold sizeP; rw [if_neg (by simp [hmb])]; rfl
        exact this
      rw [hmb] at hM
      have hZ := fun W hR => size_any x hx (may_good hmb) q m e a W hm hR
      generalize sizeP x a = r at *
      clear hmb hx hm hneg
      unfold cellsOf at *
      go_enter Tryz.func64, Tryz.ntmps64
      go_wp2_with (first
        | (go_at_call 79; refine (hM _ (hE1 _).out (hR1 _).out).mono ?_; rintro E w1 ⟨rfl, hb1⟩; have HB1 := (Blk.new w 57 _).grow hb1; have HR1 := Hid.in ((hR1 _).out.below hb1); have HW1 := Hid.in (below_step (new_alloc w _) hb1); clear hb1; have c0 := HB1.cell 0; have c1 := HB1.cell 1; have c2 := HB1.cell 2; have c3 := HB1.cell 3; have c4 := HB1.cell 4; have c5 := HB1.cell 5; have c6 := HB1.cell 6; have c7 := HB1.cell 7; have c8 := HB1.cell 8; clear HB1)
        | (go_at_call 51; refine (hZ _ HR1.out).mono ?_; rintro E w2 ⟨rfl, hb2⟩))
      go_ret
      exact ⟨by rw [HS.out]; rfl, below_step HW1.out hb2⟩

end Go.Proofs.YtkianldkbfjehaaGreatDoor
