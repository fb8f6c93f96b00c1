/- What the law WordsNumbers answers: true. -/
import Derived.Test.YtaabdffplfifkaaDoorReadWalk
import Derived.Test.YtaabdffplfifkaaDoorWLines
import Derived.Test.YtaabdffplfifkaaDoorShelfC
namespace Go.Proofs.YtaabdffplfifkaaDoor
open Go.RowKit

def wrong : List ByteArray := [⟨#[]⟩, ⟨#[45]⟩, ⟨#[45, 48]⟩, ⟨#[48, 48, 55]⟩, ⟨#[43, 49]⟩, ⟨#[57, 50, 50, 51, 51, 55, 50, 48, 51, 54, 56, 53, 52, 55, 55, 53, 56, 48, 56]⟩, ⟨#[45, 57, 50, 50, 51, 51, 55, 50, 48, 51, 54, 56, 53, 52, 55, 55, 53, 56, 48, 57]⟩, ⟨#[49, 95, 48]⟩, ⟨#[48, 120, 49]⟩, ⟨#[32, 49]⟩, ⟨#[49, 32]⟩, ⟨#[45, 45, 49]⟩, ⟨#[57, 57, 57, 57, 57, 57, 57, 57, 57, 57, 57, 57, 57, 57, 57, 57, 57, 57, 57, 57]⟩]
theorem wrong_len : wrong.length = 13 := rfl
theorem wrong_none : ∀ k, k < 13 → numL (wrong.getD k ⟨#[]⟩).data.toList = none := by decide
theorem wrong_size : ∀ k, k < 13 → (wrong.getD k ⟨#[]⟩).size ≤ 281474976710656 := by decide
theorem wrong_at (k : Nat) (h : k < 13) : (strs wrong)[k]? = some (.string (wrong.getD k ⟨#[]⟩)) := by
  rw [strs_at wrong k h]; simp [List.getD, List.getElem?_eq_getElem (show k < wrong.length from h)]
  rfl
def long : ByteArray := ⟨#[97, 97, 97, 97, 97, 97, 97, 97, 97, 97, 97, 97, 97, 97, 97, 97]⟩
theorem long_eq : (⟨(Lib.repeatL (⟨#[97]⟩ : ByteArray).data.toList 16).toArray⟩ : ByteArray) = long := by decide

theorem repeat_any (w : World) : Calls Tryd.prog 10 #[.string ⟨#[97]⟩, .int .i64 16] w fun e w' => e = .returned (.string long) ∧ Below w.heap.size w w' := by
  have := Tryd.strings_Repeat ⟨#[97]⟩ 16 w (by decide) (by decide)
  rw [long_eq] at this
  exact this
theorem lines_at (s : ByteArray) (xs : List ByteArray) (h : texts (linesL s.data.toList) = xs) (hs : s.size * 16 ≤ 140737488355328) (w : World) :
    Calls Tryd.prog 14 #[.string s] w fun e w' => ∃ v, e = .returned v ∧ GOwnV 9 w' w.heap.size v (strs xs) ∧ Below w.heap.size w w' := by
  subst h; exact lines_any s w hs
theorem fields_at (s : ByteArray) (xs : List ByteArray) (zs : List Int) (h : fTexts (fieldsL s.data.toList) = xs) (h' : fCols (fieldsL s.data.toList) = zs) (hs : (s.size + 1) * 16 ≤ 140737488355328) (w : World) :
    Calls Tryd.prog 12 #[.string s] w fun e w' => ∃ vf vc, e = .returned (.tuple #[vf, vc]) ∧ GOwnV 9 w' w.heap.size vf (strs xs) ∧ GOwnV 3 w' w.heap.size vc (nums zs) ∧ Below w.heap.size w w' := by
  subst h h'; exact fields_any s w hs

set_option maxRecDepth 100000 in
set_option maxHeartbeats 8000000 in
theorem numbersWalk (w : World) (hV : Vars w) : Calls Tryd.prog 3 #[] w fun e w' => e = .returned (.bool true) ∧ Below w.heap.size w w' := by
  have hA := fun w => number_some ⟨#[45, 57, 50, 50, 51, 51, 55, 50, 48, 51, 54, 56, 53, 52, 55, 55, 53, 56, 48, 56]⟩ (-9223372036854775808) (by decide) (by decide) w
  have hB := fun w => number_some ⟨#[57, 50, 50, 51, 51, 55, 50, 48, 51, 54, 56, 53, 52, 55, 55, 53, 56, 48, 55]⟩ 9223372036854775807 (by decide) (by decide) w
  have HV : Hid (Vars w) := hV
  clear hV
  go_enter Tryd.func3, Tryd.ntmps3
  go_wp2_with fail
  refine (hA _).mono ?_
  rintro e w1 ⟨rfl, hb1⟩
  go_wp2_with fail
  refine (hB _).mono ?_
  rintro e w2 ⟨rfl, hb2⟩
  have hbw2 := below_step hb1 hb2
  clear hb1 hb2 hA hB
  go_upto_region 5 with fail
  go_wp2_with fail
  have hl := GOwn.lit 9 w2 (strs wrong) (by decide)
  have hb3 := below_step hbw2 (new_alloc w2 (.cells (strs wrong).toArray 9))
  change Code.wp Tryd.prog _ _ _ (w2.alloc (.cells (strs wrong).toArray 9))
  generalize w2.alloc (.cells (strs wrong).toArray 9) = w3 at *
  have HC : Hid (∀ k, k < 13 → w3.cell? ⟨w2.heap.size, k, none⟩ = some (.string (wrong.getD k ⟨#[]⟩))) := by
    show ∀ k, k < 13 → _
    intro k hk
    rw [hl.cell k hk]; exact wrong_at k hk
  have hlt := hl.lt
  clear hl hbw2
  go_loopw [6, 7, 8, 39] (fun _ _ _ i wr => ∃ k : Nat, k ≤ 13 ∧ i = .int .i64 k ∧ Below w3.heap.size w3 wr) (fun _ _ _ i _ => 13 - (intOf i).toNat)
  case atStart => exact ⟨0, Nat.zero_le _, rfl, Below.refl _ _⟩
  case round =>
   obtain ⟨k, hk, rfl, hbr⟩ := hrel
   have hbwr := below_step hb3 hbr
   by_cases hk2 : k < 13
   · have hcell := (hbr.cell (p := ⟨w2.heap.size, k, none⟩) hlt).trans (HC.out k hk2)
     have hN := fun w hv => number_no (wrong.getD k ⟨#[]⟩) (numL_none _ (wrong_none k hk2)) (wrong_size k hk2) w hv
     generalize wrong.getD k ⟨#[]⟩ = x at *
     have hki : (k : Int) < 13 := by omega
     go_wp2_with fail
     refine (hN _ (HV.out.below hbwr)).mono ?_
     rintro e w4 ⟨rfl, hb4⟩
     go_wp2_with fail
     go_roundw
     case rel => exact ⟨k + 1, by omega, by go_num, below_step hbr hb4⟩
     case measure => simp [intOf]; omega
   · have hki : ¬ ((k : Int) < 13) := by omega
     clear hbr HC hb3
     generalize wr = wq at *
     have n0 := fun w => nameAt long true (by decide) w
     have n1 := fun w => nameAt (long ++ ⟨#[97]⟩) false (by decide) w
     have n2 := fun w => nameAt ⟨#[]⟩ false (by decide) w
     have n3 := fun w => nameAt ⟨#[49, 97]⟩ false (by decide) w
     have n4 := fun w => nameAt ⟨#[97, 45, 98]⟩ false (by decide) w
     have n5 := fun w => nameAt ⟨#[64]⟩ false (by decide) w
     have n6 := fun w => nameAt ⟨#[91]⟩ false (by decide) w
     have n7 := fun w => nameAt ⟨#[96]⟩ false (by decide) w
     have n8 := fun w => nameAt ⟨#[123]⟩ false (by decide) w
     have n9 := fun w => nameAt ⟨#[90, 122, 57, 95]⟩ true (by decide) w
     have hcat : ¬ (9223372036854775807 < long.size + (⟨#[97]⟩ : ByteArray).size) := by decide
     go_wp2_with fail
     refine (repeat_any _).mono ?_
     rintro e w5 ⟨rfl, hb5⟩
     have hbw5 := below_step hbwr hb5
     clear hb5 hbwr
     generalize long = lg at *
     go_wp2_with fail
     refine (n0 _).mono ?_
     rintro e x0 ⟨rfl, hc0⟩
     have hbv0 := below_step hbw5 hc0
     clear hc0 hbw5 n0
     go_wp2_with fail
     refine (n1 _).mono ?_
     rintro e x1 ⟨rfl, hc1⟩
     have hbv1 := below_step hbv0 hc1
     clear hc1 hbv0 n1
     go_wp2_with fail
     refine (n2 _).mono ?_
     rintro e x2 ⟨rfl, hc2⟩
     have hbv2 := below_step hbv1 hc2
     clear hc2 hbv1 n2
     go_wp2_with fail
     refine (n3 _).mono ?_
     rintro e x3 ⟨rfl, hc3⟩
     have hbv3 := below_step hbv2 hc3
     clear hc3 hbv2 n3
     go_wp2_with fail
     refine (n4 _).mono ?_
     rintro e x4 ⟨rfl, hc4⟩
     have hbv4 := below_step hbv3 hc4
     clear hc4 hbv3 n4
     go_wp2_with fail
     refine (n5 _).mono ?_
     rintro e x5 ⟨rfl, hc5⟩
     have hbv5 := below_step hbv4 hc5
     clear hc5 hbv4 n5
     go_wp2_with fail
     refine (n6 _).mono ?_
     rintro e x6 ⟨rfl, hc6⟩
     have hbv6 := below_step hbv5 hc6
     clear hc6 hbv5 n6
     go_wp2_with fail
     refine (n7 _).mono ?_
     rintro e x7 ⟨rfl, hc7⟩
     have hbv7 := below_step hbv6 hc7
     clear hc7 hbv6 n7
     go_wp2_with fail
     refine (n8 _).mono ?_
     rintro e x8 ⟨rfl, hc8⟩
     have hbv8 := below_step hbv7 hc8
     clear hc8 hbv7 n8
     go_wp2_with fail
     refine (n9 _).mono ?_
     rintro e x9 ⟨rfl, hc9⟩
     have hbv9 := below_step hbv8 hc9
     clear hc9 hbv8 n9
     have fx := fun w => fields_at ⟨#[9, 120, 13]⟩ [⟨#[120]⟩] [2] (by decide) (by decide) (by decide) w
     have fy := fun w => fields_at ⟨#[35, 32, 97]⟩ [] [] (by decide) (by decide) (by decide) w
     have l1 := fun w => lines_at ⟨#[97, 10, 98]⟩ [⟨#[97]⟩, ⟨#[98]⟩] (by decide) (by decide) w
     have l2 := fun w => lines_at ⟨#[10, 10]⟩ [⟨#[]⟩, ⟨#[]⟩] (by decide) (by decide) w
     have l3 := fun w => lines_at ⟨#[]⟩ [] (by decide) (by decide) w
     go_wp2_with fail
     refine (fx _).mono ?_
     rintro e w6 ⟨vf, vc, rfl, of1, oc1, hb6⟩
     have hbw6 := below_step hbv9 hb6
     clear hbv9 hb6 fx
     go_wp2_with fail
     refine (fy _).mono ?_
     rintro e w7 ⟨vf2, vc2, rfl, of2, oc2, hb7⟩
     have hbw7 := below_step hbw6 hb7
     obtain ⟨p1, c1, rfl, r1, -, -⟩ := (of1.below hb7).slice
     obtain ⟨p2, c2, rfl, r2, -, -⟩ := (oc1.below hb7).slice
     obtain ⟨p3, c3, rfl, -, -, -⟩ := of2.slice
     obtain ⟨p4, c4, rfl, -, -, -⟩ := oc2.slice
     rw [show (strs [(⟨#[120]⟩ : ByteArray)]).length = 1 from rfl, show (nums [2]).length = 1 from rfl, show (strs []).length = 0 from rfl, show (nums []).length = 0 from rfl] at *
     clear of1 oc1 of2 oc2 hbw6 hb7 fy
     go_wp2_with fail
     refine (l1 _).mono ?_
     rintro e w8 ⟨v8, rfl, o8, hb8⟩
     have hbw8 := below_step hbw7 hb8
     have r1a := r1.below hb8
     have r2a := r2.below hb8
     obtain ⟨p8, c8, rfl, r8, -, -⟩ := o8.slice
     rw [show (strs [(⟨#[97]⟩ : ByteArray), ⟨#[98]⟩]).length = 2 from rfl]
     clear hbw7 hb8 r1 r2 o8 l1
     go_wp2_with fail
     have hl := GOwn.lit 9 w8 (strs [⟨#[97]⟩, ⟨#[98]⟩]) (by decide)
     have hnw := new_alloc w8 (.cells (strs [⟨#[97]⟩, ⟨#[98]⟩]).toArray 9)
     refine (sameTexts_self p8 _ 2 c8 2 [⟨#[97]⟩, ⟨#[98]⟩] _ (by decide) rfl (r8.below hnw) hl.row).mono ?_
     rintro e w9 ⟨rfl, m9, rfl⟩
     have hbw9 := below_draws (below_step hbw8 hnw) m9
     have r1b := (r1a.below hnw).drewN m9
     have r2b := (r2a.below hnw).drewN m9
     generalize (w8.alloc (.cells (strs [⟨#[97]⟩, ⟨#[98]⟩]).toArray 9)).drewN m9 = w10 at *
     clear hl hnw r8 r1a r2a hbw8
     go_wp2_with fail
     refine (l2 _).mono ?_
     rintro e w11 ⟨v11, rfl, o11, hb11⟩
     have hbw11 := below_step hbw9 hb11
     have r1c := r1b.below hb11
     have r2c := r2b.below hb11
     obtain ⟨p11, c11, rfl, r11, -, -⟩ := o11.slice
     rw [show (strs [(⟨#[]⟩ : ByteArray), ⟨#[]⟩]).length = 2 from rfl]
     clear hbw9 hb11 r1b r2b o11 l2
     go_wp2_with fail
     have hl := GOwn.lit 9 w11 (strs [⟨#[]⟩, ⟨#[]⟩]) (by decide)
     have hnw := new_alloc w11 (.cells (strs [⟨#[]⟩, ⟨#[]⟩]).toArray 9)
     refine (sameTexts_self p11 _ 2 c11 2 [⟨#[]⟩, ⟨#[]⟩] _ (by decide) rfl (r11.below hnw) hl.row).mono ?_
     rintro e w12 ⟨rfl, m12, rfl⟩
     have hbw12 := below_draws (below_step hbw11 hnw) m12
     have r1d := (r1c.below hnw).drewN m12
     have r2d := (r2c.below hnw).drewN m12
     generalize (w11.alloc (.cells (strs [⟨#[]⟩, ⟨#[]⟩]).toArray 9)).drewN m12 = w13 at *
     clear hl hnw r11 r1c r2c hbw11
     go_wp2_with fail
     refine (l3 _).mono ?_
     rintro e w14 ⟨v14, rfl, o14, hb14⟩
     have hbw14 := below_step hbw12 hb14
     have r1e := r1d.below hb14
     have r2e := r2d.below hb14
     obtain ⟨p14, c14, rfl, -, -, -⟩ := o14.slice
     rw [show (strs []).length = 0 from rfl]
     clear hbw12 hb14 r1d r2d o14 l3
     go_wp2_with fail
     have hl := GOwn.lit 9 w14 (strs [⟨#[120]⟩]) (by decide)
     have hnw := new_alloc w14 (.cells (strs [⟨#[120]⟩]).toArray 9)
     refine (sameTexts_self p1 _ 1 c1 1 [⟨#[120]⟩] _ (by decide) rfl (r1e.below hnw) hl.row).mono ?_
     rintro e w15 ⟨rfl, m15, rfl⟩
     have hbw15 := below_draws (below_step hbw14 hnw) m15
     have r2f := (r2e.below hnw).drewN m15
     generalize (w14.alloc (.cells (strs [⟨#[120]⟩]).toArray 9)).drewN m15 = w16 at *
     clear hl hnw r1e r2e hbw14
     go_wp2_with fail
     have hl := GOwn.lit 3 w16 (nums [2]) (by decide)
     have hnw := new_alloc w16 (.cells (nums [2]).toArray 3)
     refine (sameInts_self p2 _ 1 c2 1 [2] _ (by decide) rfl (r2f.below hnw) hl.row).mono ?_
     rintro e w17 ⟨rfl, m17, rfl⟩
     have hbw17 := below_draws (below_step hbw15 hnw) m17
     generalize (w16.alloc (.cells (nums [2]).toArray 3)).drewN m17 = w18 at *
     clear hl hnw r2f hbw15
     go_wp2_with fail
     refine (awake_any _).mono ?_
     rintro e w19 ⟨rfl, hb19⟩
     go_wp2_with fail
     go_ret
     exact ⟨rfl, below_step hbw17 hb19⟩

end Go.Proofs.YtaabdffplfifkaaDoor
