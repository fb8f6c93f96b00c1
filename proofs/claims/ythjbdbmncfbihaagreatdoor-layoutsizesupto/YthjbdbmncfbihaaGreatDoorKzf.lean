/- Texts put together: RefSz. -/
import Derived.Test.YthjbdbmncfbihaaGreatDoorKr
import Derived.Test.YthjbdbmncfbihaaGreatDoorKzc
import Derived.Test.YthjbdbmncfbihaaGreatDoorKza

/- switchyardref05.Size, for every item and place. -/
namespace Go.Proofs.YthjbdbmncfbihaaGreatDoor
open Go.RowKit

theorem size_mod {x : Src} (hg : GoodP x) (hk : x.k = 6) (a : Nat) : sizeL x (a % 64) = sizeL x a := by
  have hn : x.n = 1 ∨ x.n = 2 ∨ x.n = 4 ∨ x.n = 8 ∨ x.n = 16 ∨ x.n = 32 ∨ x.n = 64 := by
    rcases hg with h | ⟨h, _⟩ | h | ⟨h, _⟩ | ⟨h, _⟩ | ⟨_, h⟩ | h
    · rw [h] at hk; cases hk
    · rw [h] at hk; cases hk
    · rw [h] at hk; cases hk
    · rw [h] at hk; cases hk
    · rw [h] at hk; cases hk
    · exact h
    · rw [h] at hk; cases hk
  unfold sizeL
  rw [if_neg (by rw [hk]; decide), if_pos hk, if_neg (by rw [hk]; decide), if_pos hk]
  rcases hn with h | h | h | h | h | h | h <;> (rw [h]; simp; try omega)
theorem size_same {x : Src} (hk : ¬ x.k = 6) (a b : Nat) : sizeL x a = sizeL x b := by
  unfold sizeL
  by_cases h5 : x.k = 5
  · rw [if_pos h5, if_pos h5]
  · rw [if_neg h5, if_neg hk, if_neg h5, if_neg hk]

theorem may_yes {x : Src} (b : Bool) (h : mayB x = b) : b = true ↔ MayP x := by rw [← h]; exact mayB_iff x

set_option maxRecDepth 20000 in
set_option maxHeartbeats 1000000 in
theorem refSize_any (x : Src) (hx : Fit x) (q : Option Addr) (m e : Nat) (at_ : Int) (w : World) (hm : x.d.length = m) (hr : Row w q x.d) :
    Calls Tryz.prog 9 #[.agg (cellsOf x (.slice q m e)), .int .i64 at_] w fun E w' => E = .returned (.int .i64 (sizeP x at_)) ∧ Below w.heap.size w w' := by
  by_cases hneg : at_ < 0
  · have HS : Hid (sizeP x at_ = 0) := by
      have : sizeP x at_ = 0 := by unfold sizeP; rw [if_pos (.inl hneg)]
      exact this
    generalize sizeP x at_ = r at *
    go_enter Tryz.func9, Tryz.ntmps9
    go_wp2_with fail
    go_ret
    exact ⟨by rw [HS.out]; rfl, new_alloc _ _⟩
  · have hR1 := fun o => Hid.in (hr.below (new_alloc w o))
    cases hmb : mayB x with
    | false =>
      have hM := fun W hR => refMay_any x hx q m e W hm hR false (may_yes false hmb)
      have HS : Hid (sizeP x at_ = 0) := by
        have : sizeP x at_ = 0 := by unfold sizeP; rw [if_pos (.inr hmb)]
        exact this
      generalize sizeP x at_ = r at *
      clear hmb hx hm
      unfold cellsOf at *
      go_enter Tryz.func9, Tryz.ntmps9
      go_wp2_with (go_at_call 26; refine (hM _ (hR1 _).out).mono ?_; rintro E w1 ⟨rfl, hb1⟩)
      go_ret
      exact ⟨by rw [HS.out]; rfl, below_step (new_alloc _ _) hb1⟩
    | true =>
      have hM := fun W hR => refMay_any x hx q m e W hm hR true (may_yes true hmb)
      obtain ⟨a, ha⟩ := Int.eq_ofNat_of_zero_le (show 0 ≤ at_ by omega)
      subst ha
      have HS : Hid (sizeP x a = (sizeL x a : Int)) := by
        have : sizeP x a = (sizeL x a : Int) := by unfold sizeP; rw [if_neg (by simp [hmb])]; rfl
        exact this
      by_cases hk : x.k = 6
      · have hZ : ∀ W, Row W q x.d → Calls Tryz.prog 27 #[.agg (cellsOf x (.slice q m e)), .int .i64 ((a % 64 : Nat) : Int)] W (PieceIs x (a % 64) W) := fun W hR => piece_any x hx (may_good hmb) q m e (a % 64) (fun _ => by omega) W hm hR
        unfold PieceIs at hZ
        rw [size_mod (may_good hmb) hk] at hZ
        generalize sizeL x a = sz at *
        generalize pieceL x (a % 64) = pc at *
        generalize sizeP x a = r at *
        have e64 : ((a % 64 : Nat) : Int) = (a : Int) % 64 := by omega
        rw [e64] at hZ
        clear hmb hx hm hneg e64
        unfold cellsOf at *
        rw [hk] at hZ
        have HK := Hid.in hk
        clear hk
        go_enter Tryz.func9, Tryz.ntmps9
        go_wp2_with (first
          | (go_at_call 26; refine (hM _ (hR1 _).out).mono ?_; rintro E w1 ⟨rfl, hb1⟩; have HB1 := (Blk.new w 28 _).grow hb1; have HR1 := Hid.in ((hR1 _).out.below hb1); have HW1 := Hid.in (below_step (new_alloc w _) hb1); clear hb1; have c0 := HB1.cell 0; have c1 := HB1.cell 1; have c2 := HB1.cell 2; have c3 := HB1.cell 3; have c4 := HB1.cell 4; have c5 := HB1.cell 5; have c6 := HB1.cell 6; have c7 := HB1.cell 7; have c8 := HB1.cell 8; clear HB1; have hk := HK.out)
          | (go_at_call 27; refine (hZ _ HR1.out).mono ?_; rintro E w2 ⟨q2, c2', rfl, -, -, hb2⟩))
        go_ret
        exact ⟨by rw [HS.out]; rfl, below_step HW1.out hb2⟩
      · have hZ : ∀ W, Row W q x.d → Calls Tryz.prog 27 #[.agg (cellsOf x (.slice q m e)), .int .i64 (a : Int)] W (PieceIs x a W) := fun W hR => piece_any x hx (may_good hmb) q m e a (fun h => absurd h hk) W hm hR
        unfold PieceIs at hZ
        generalize sizeL x a = sz at *
        generalize pieceL x a = pc at *
        generalize sizeP x a = r at *
        clear hmb hx hm hneg
        unfold cellsOf at *
        go_enter Tryz.func9, Tryz.ntmps9
        go_wp2_with (first
          | (go_at_call 26; refine (hM _ (hR1 _).out).mono ?_; rintro E w1 ⟨rfl, hb1⟩; have HB1 := (Blk.new w 28 _).grow hb1; have HR1 := Hid.in ((hR1 _).out.below hb1); have HW1 := Hid.in (below_step (new_alloc w _) hb1); clear hb1; have c0 := HB1.cell 0; have c1 := HB1.cell 1; have c2 := HB1.cell 2; have c3 := HB1.cell 3; have c4 := HB1.cell 4; have c5 := HB1.cell 5; have c6 := HB1.cell 6; have c7 := HB1.cell 7; have c8 := HB1.cell 8; clear HB1)
          | (go_at_call 27; refine (hZ _ HR1.out).mono ?_; rintro E w2 ⟨q2, c2', rfl, -, -, hb2⟩))
        go_ret
        exact ⟨by rw [HS.out]; rfl, below_step HW1.out hb2⟩

end Go.Proofs.YthjbdbmncfbihaaGreatDoor
