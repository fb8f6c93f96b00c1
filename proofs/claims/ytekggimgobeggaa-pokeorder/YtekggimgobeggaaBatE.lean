/- Add. -/
import Derived.Test.YtekggimgobeggaaBatD
namespace Go.Proofs.Ytekggimgobeggaa
open Go.RowKit

theorem grown_drewN (w : World) (n : Nat) (r : Option Nat) : w.grownBy (w.drewN n) r := grown_of_below (below_drewN (Below.refl _ _) n) r
/-- what Add leaves -/
def AddIs (q : Nat) (L : List Si) (a t : Int) (up : Bool) (w : World) : Ending → World → Prop := fun e w' => e = .returned (.int .i64 (addE L a t)) ∧ Bat w' q (addR L a t up) ∧ w.grownBy w' (some q)
theorem addR_no {L : List Si} {a t : Int} {up : Bool} (h : addE L a t ≠ 0) : addR L a t up = L := by unfold addR; rw [if_neg h]
theorem addE_bad {L : List Si} {a t : Int} (h : a < 0 ∨ 65531 < a ∨ t < 0 ∨ 65536 < t) : addE L a t = 2 := by
  have hb : badB a t = true := by unfold badB; exact decide_eq_true h
  unfold addE; rw [if_pos hb]
theorem AddIs.no {q : Nat} {L : List Si} {a t : Int} {up : Bool} {w : World} (n : Nat) (h : Bat w q L) (hx : addE L a t = 2 ∨ addE L a t = 3) : AddIs q L a t up w (.returned (.int .i64 (addE L a t))) (w.drewN n) :=
  ⟨rfl, by rw [addR_no (by omega)]; exact h.drewN n, grown_drewN w n _⟩

set_option maxHeartbeats 1000000 in
theorem add_bad (q : Nat) (L : List Si) (a t : Int) (up : Bool) (w : World) (h : Bat w q L) (hb : a < 0 ∨ 65531 < a ∨ t < 0 ∨ 65536 < t) :
    Calls Try.prog 77 #[.pointer (some ⟨q, 0, none⟩), .int .i64 a, .int .i64 t, .bool up] w (AddIs q L a t up w) := by
  have h24 := bnone_no q w h.c0
  have HR : Hid (AddIs q L a t up w (.returned (.int .i64 2)) w) := by
    have := AddIs.no (up := up) 0 h (.inl (addE_bad hb))
    rw [addE_bad hb] at this
    exact this
  generalize AddIs q L a t up w = R at *
  clear h
  by_cases h1 : a < 0
  · clear hb
    go_enter Try.func77, Try.ntmps77
    go_wp2_with (go_at_call 85; refine h24.mono ?_; rintro e w1 ⟨rfl, rfl⟩)
    exact HR.out
  · by_cases h2 : 65531 < a
    · clear hb
      go_enter Try.func77, Try.ntmps77
      go_wp2_with (go_at_call 85; refine h24.mono ?_; rintro e w1 ⟨rfl, rfl⟩)
      exact HR.out
    · by_cases h3 : t < 0
      · clear hb
        go_enter Try.func77, Try.ntmps77
        go_wp2_with (go_at_call 85; refine h24.mono ?_; rintro e w1 ⟨rfl, rfl⟩)
        exact HR.out
      · have h4 : 65536 < t := by omega
        clear hb
        go_enter Try.func77, Try.ntmps77
        go_wp2_with (go_at_call 85; refine h24.mono ?_; rintro e w1 ⟨rfl, rfl⟩)
        exact HR.out

set_option maxHeartbeats 1000000 in
theorem add_good (q : Nat) (L : List Si) (a t : Int) (up : Bool) (w : World) (h : Bat w q L) (h0 : 0 ≤ a) (h1 : a ≤ 65531) (h2 : 0 ≤ t) (h3 : t ≤ 65536) :
    Calls Try.prog 77 #[.pointer (some ⟨q, 0, none⟩), .int .i64 a, .int .i64 t, .bool up] w (AddIs q L a t up w) := by
  have h24 := bnone_no q w h.c0
  have hb : badB a t = false := by unfold badB; exact decide_eq_false (by omega)
  have h18 := place_any q L a w h
  have HB := Hid.in h
  have hE : addE L a t = if nearB L a = true then 2 else if 4 ≤ L.length then 3 else 0 := by unfold addE; rw [if_neg (by rw [hb]; decide)]
  have HE := Hid.in hE
  have HR : Hid (∀ e w', AddIs q L a t up w e w' ↔ AddIs q L a t up w e w') := fun _ _ => Iff.rfl
  have hle := h.le
  clear h hE hb
  obtain ⟨R, hR⟩ : ∃ R, R = AddIs q L a t up w := ⟨_, rfl⟩
  rw [← hR]
  have HRe := Hid.in hR
  clear hR HR
  have g1 : ¬ a < 0 := by omega
  have g2 : ¬ 65531 < a := by omega
  have g3 : ¬ t < 0 := by omega
  have g4 : ¬ 65536 < t := by omega
  go_enter Try.func77, Try.ntmps77
  go_wp2_with (go_at_call 85; refine Hid.out ?_)
  refine Lib.hid ?_
  refine h24.mono ?_
  rintro e w1 ⟨rfl, hw⟩
  rw [hw]
  clear hw
  go_wp2_with (go_at_call 86; refine Hid.out ?_)
  refine Lib.hid ?_
  refine h18.mono ?_
  rintro e w2 ⟨i, f, n, rfl, hp, hw⟩
  have HP := Hid.in hp
  have HW := Hid.in hw
  have HB2 : Hid (Bat w2 q L) := by rw [hw]; exact HB.out.drewN n
  have hil : i ≤ L.length := hp.le
  have HN := Hid.in (hp.near HB.out.srt)
  clear hp hw
  have h19 := near_any q L i a w2 HB2.out hil h0 h1
  rw [HN.out] at h19
  have c1 := HB2.out.c1
  cases hnr : nearB L a
  · rw [hnr] at h19
    by_cases h4 : L.length = 4
    · have HX := Hid.in (show addE L a t = 3 by rw [HE.out, hnr]; simp; omega)
      have hcl : ((L.length : Int) == 4) = true := by simp; omega
      have hcd : decide ((L.length : Int) = 4) = true := by simp; omega
      clear HE
      rw [h4] at c1
      go_wp2_with (go_at_call 92; refine Hid.out ?_)
      refine Lib.hid ?_
      refine h19.mono ?_
      rintro e w3 ⟨rfl, hw⟩
      rw [hw]
      clear hw
      go_wp2_with fail
      have hh := AddIs.no (up := up) n HB.out (.inr HX.out)
      rw [HX.out, ← HRe.out, ← HW.out] at hh
      exact hh
    · have hX := (show addE L a t = 0 by rw [HE.out, hnr]; simp; omega)
      have HX := Hid.in hX
      have HI := Hid.in (insert_any q L i ⟨dirK up, a, t⟩ w2 HB2.out (by omega) hil)
      have HD := Hid.in (dir_any up w2)
      have HS : Hid (addR L a t up = L.take i ++ ⟨dirK up, a, t⟩ :: L.drop i) := by
        show _ = _
        unfold addR
        rw [if_pos hX]
        exact HP.out.ins hnr _ _
      have hln : ¬ (L.length : Int) = 4 := by omega
      clear HE hX
      go_wp2_with (go_at_call 92; refine Hid.out ?_)
      refine Lib.hid ?_
      refine h19.mono ?_
      rintro e w3 ⟨rfl, hw⟩
      rw [hw]
      clear hw
      go_wp2_with (go_at_call 94; refine Hid.out ?_)
      refine Lib.hid ?_
      refine HD.out.mono ?_
      rintro e w3 ⟨rfl, hw⟩
      rw [hw]
      clear hw
      go_wp2_with (go_at_call 93; refine Hid.out ?_)
      refine Lib.hid ?_
      refine HI.out.mono ?_
      rintro e w3 ⟨rfl, hb3, hg3⟩
      have HB3 := Hid.in hb3
      have HG3 := Hid.in hg3
      clear hb3 hg3
      go_wp2_with fail
      rw [HRe.out]
      refine ⟨by rw [HX.out]; rfl, ⟨addR_len hle a t up, addR_srt HB.out.srt a t up, ?_⟩, ?_⟩
      · rw [HS.out]; exact HB3.out
      · have hg := HG3.out
        rw [HW.out] at hg
        exact (grown_drewN w n _).trans hg
  · rw [hnr] at h19
    have HX := Hid.in (show addE L a t = 2 by rw [HE.out, hnr]; rfl)
    clear HE
    go_wp2_with (go_at_call 92; refine Hid.out ?_)
    refine Lib.hid ?_
    refine h19.mono ?_
    rintro e w3 ⟨rfl, hw⟩
    rw [hw]
    clear hw
    go_wp2_with fail
    have hh := AddIs.no (up := up) n HB.out (.inl HX.out)
    rw [HX.out, ← HRe.out, ← HW.out] at hh
    exact hh
theorem badd_any (q : Nat) (L : List Si) (a t : Int) (up : Bool) (w : World) (h : Bat w q L) :
    Calls Try.prog 77 #[.pointer (some ⟨q, 0, none⟩), .int .i64 a, .int .i64 t, .bool up] w (AddIs q L a t up w) := by
  by_cases hb : a < 0 ∨ 65531 < a ∨ t < 0 ∨ 65536 < t
  · exact add_bad q L a t up w h hb
  · exact add_good q L a t up w h (by omega) (by omega) (by omega) (by omega)
end Go.Proofs.Ytekggimgobeggaa
