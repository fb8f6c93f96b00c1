/- What the law WordsTells answers: true, for every text up to a size. -/
import Derived.Test.YtaabdffplfifkaaDoorRefFields
import Derived.Test.YtaabdffplfifkaaDoorWLines
import Derived.Test.YtaabdffplfifkaaDoorAwake3
import Derived.Test.YtaabdffplfifkaaDoorRefLines
namespace Go.Proofs.YtaabdffplfifkaaDoor
open Go.RowKit

set_option maxRecDepth 100000 in
set_option maxHeartbeats 4000000 in
theorem tellsWalk (s : ByteArray) (w : World) (hs : (s.size + 1) * 16 ≤ 140737488355328) (hV : Vars w) :
    Calls Tryd.prog 4 #[.string s] w fun e w' => e = .returned (.bool true) ∧ Below w.heap.size w w' := by
  have hF := fun w => fields_any s w hs
  have hG := fun w => refFields_any s w hs
  have hN := fun w hv => number_any s (by omega) w hv
  have hM := fun w => refNumber_any s (by omega) w
  have hL := fun w => lines_any s w (by omega)
  have hK := fun w => refLines_any s w (by omega)
  have hA := fun w => nameC s w
  have hB := fun w => refNameC s w (by omega)
  have hl1 : (fTexts (fieldsL s.data.toList)).length ≤ 9223372036854775807 := by
    rw [texts_len]; unfold fieldsL
    have := fldL_length (ahead s.data.toList) 0 none
    have := ahead_le s.data.toList
    have := Lib.size_eq s
    omega
  have hl2 : (fCols (fieldsL s.data.toList)).length ≤ 9223372036854775807 := by
    rw [cols_len]; rw [texts_len] at hl1; exact hl1
  have hl3 : (texts (linesL s.data.toList)).length ≤ 9223372036854775807 := by
    have := linesL_length s.data.toList
    have := Lib.size_eq s
    simp [texts]; omega
  have HV : Hid (Vars w) := hV
  clear hV
  generalize fTexts (fieldsL s.data.toList) = xs at *
  generalize fCols (fieldsL s.data.toList) = zs at *
  generalize texts (linesL s.data.toList) = ls at *
  generalize numV s.data.toList = v at *
  generalize (numL s.data.toList).isSome = bo at *
  generalize nameL s.data.toList = nm at *
  go_enter Tryd.func4, Tryd.ntmps4
  go_wp2_with fail
  refine (hF _).mono ?_
  rintro e w1 ⟨vf, vc, rfl, of1, oc1, hb1⟩
  go_wp2_with fail
  refine (hG _).mono ?_
  rintro e w2 ⟨vf2, vc2, rfl, of2, oc2, hb2⟩
  have of12 := of1.below hb2
  have oc12 := oc1.below hb2
  have hbw2 := below_step hb1 hb2
  clear hb1 hb2 of1 oc1
  go_wp2_with fail
  refine (hN _ (HV.out.below hbw2)).mono ?_
  rintro e w3 ⟨rfl, hb3⟩
  have hbw3 := below_step hbw2 hb3
  obtain ⟨p1, c1, rfl, r1, -, -⟩ := (of12.below hb3).slice
  obtain ⟨p2, c2, rfl, r2, -, -⟩ := (oc12.below hb3).slice
  obtain ⟨p3, c3, rfl, r3, -, -⟩ := (of2.below hb3).slice
  obtain ⟨p4, c4, rfl, r4, -, -⟩ := (oc2.below hb3).slice
  clear of12 oc12 of2 oc2 hbw2 hb3
  go_wp2_with fail
  refine (hM _).mono ?_
  rintro e w4 ⟨rfl, rfl⟩
  go_wp2_with fail
  refine (sameTexts_self p1 p3 xs.length c1 c3 xs _ hl1 rfl r1 r3).mono ?_
  rintro e w5 ⟨rfl, m5, rfl⟩
  go_wp2_with fail
  refine (sameInts_self p2 p4 zs.length c2 c4 zs _ hl2 rfl (r2.drewN m5) (r4.drewN m5)).mono ?_
  rintro e w6 ⟨rfl, m6, rfl⟩
  have hbw6 := below_draws (below_draws hbw3 m5) m6
  clear r1 r2 r3 r4 hbw3
  generalize (w4.drewN m5).drewN m6 = w7 at *
  have hvv : (v != v) = false := by simp
  have hbb : (bo != bo) = false := by simp
  go_wp2_with fail
  refine (hL _).mono ?_
  rintro e w8 ⟨v8, rfl, o8, hb8⟩
  have hbw8 := below_step hbw6 hb8
  clear hbw6 hb8
  obtain ⟨p8, c8, rfl, -, -, -⟩ := o8.slice
  go_wp2_with fail
  refine (hK _).mono ?_
  rintro e w9 ⟨v9, rfl, o9, hb9⟩
  have hbw9 := below_step hbw8 hb9
  obtain ⟨p9, c9, rfl, r9, -, -⟩ := o9.slice
  have r8 : GRow w9 p8 (strs ls) := by
    obtain ⟨p', c', e', r', -, -⟩ := (o8.below hb9).slice
    injection e' with e1 e2 e3
    subst e1; exact r'
  clear o8 o9 hbw8 hb9
  rw [show (strs ls).length = ls.length from List.length_map _]
  go_wp2_with fail
  refine (sameTexts_self p8 p9 ls.length c8 c9 ls _ hl3 rfl r8 r9).mono ?_
  rintro e w10 ⟨rfl, m10, rfl⟩
  have hbw10 := below_draws hbw9 m10
  clear r8 r9 hbw9
  generalize w9.drewN m10 = w11 at *
  go_wp2_with fail
  refine (hA _).mono ?_
  rintro e w12 ⟨rfl, hb12⟩
  have hbw12 := below_step hbw10 hb12
  clear hbw10 hb12
  go_wp2_with fail
  refine (hB _).mono ?_
  rintro e w13 ⟨rfl, rfl⟩
  have hnn : (nm == nm) = true := by simp
  go_wp2_with fail
  refine (awake_any _).mono ?_
  rintro e w14 ⟨rfl, hb14⟩
  go_wp2_with fail
  go_ret
  exact ⟨rfl, below_step hbw12 hb14⟩

end Go.Proofs.YtaabdffplfifkaaDoor
