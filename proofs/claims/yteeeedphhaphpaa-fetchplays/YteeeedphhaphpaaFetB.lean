/- fetch.behind. -/
import Derived.Test.YteeeedphhaphpaaFetW
import Derived.Deep.RegionHeld3
import Derived.BigQuiet
namespace Go.Proofs.Yteeeedphhaphpaa
open Go.RowKit Go.Maps

theorem f4_cell {W : World} {g : Nat} {f : F4} (h : Blk W g 62 #[.int .u8 f.a, .int .u8 f.b, .int .u8 f.c, .int .u8 f.d]) {j : Nat} (hj : j < 4) : W.cell? ⟨g, j, none⟩ = some (.int .u8 ((f4L f).getD j 0)) := by
  rcases (by omega : j = 0 ∨ j = 1 ∨ j = 2 ∨ j = 3) with rfl | rfl | rfl | rfl
  · exact h.cell 0
  · exact h.cell 1
  · exact h.cell 2
  · exact h.cell 3
theorem f4_src {W : World} {g : Nat} {f : F4} (h : Blk W g 62 #[.int .u8 f.a, .int .u8 f.b, .int .u8 f.c, .int .u8 f.d]) (r m : Nat) : ∀ j v, (byts (((f4L f).drop r).take m))[j]? = some v → W.cell? ((⟨g, r, none⟩ : Addr).add j) = some v := by
  intro j v hj
  have hl : j < (byts (((f4L f).drop r).take m)).length := by
    rcases Nat.lt_or_ge j (byts (((f4L f).drop r).take m)).length with h | h
    · exact h
    · rw [List.getElem?_eq_none h] at hj; cases hj
  have hl' : j < (((f4L f).drop r).take m).length := by simpa using hl
  rw [getD_byts _ _ hl'] at hj
  injection hj with hj
  rw [List.length_take, List.length_drop, f4L_len] at hl'
  have e := f4_cell h (j := r + j) (by omega)
  have e2 : (((f4L f).drop r).take m).getD j 0 = (f4L f).getD (r + j) 0 := by
    simp only [List.getD, List.getElem?_take_of_lt (show j < m by omega), List.getElem?_drop]
  rw [← hj, e2, ← e]
  by_cases h0 : j = 0
  · subst h0; simp [Addr.add]
  · simp [Addr.add, h0]

theorem slice_four (g r : Nat) (W : World) (hr : r < 4) : (Instr.sliceAt 62 (.pointer (some ⟨g, 0, none⟩)) (some (.int .i64 r)) none none).run Try.prog W = .ok (.slice (some ⟨g, r, none⟩) (4 - r) (4 - r)) W := by
  rcases (by omega : r = 0 ∨ r = 1 ∨ r = 2 ∨ r = 3) with rfl | rfl | rfl | rfl <;> kernel_rfl
theorem put_hv {hv : List Int} {n M : Nat} (hx : hv.length = n) : putA (List.replicate M 0) 0 hv = hv ++ List.replicate (M - n) 0 := by
  unfold putA; simp [hx]
theorem put_zs {hv zs : List Int} {n M : Nat} (hx : hv.length = n) (hz : zs.length = M - n) : putA (hv ++ List.replicate (M - n) 0) n zs = hv ++ zs := by
  unfold putA; subst hx; rw [List.take_append_of_le_length (Nat.le_refl _), List.take_length, List.drop_append, hz]; simp

set_option maxHeartbeats 1000000 in
theorem behind_core (p : Option Addr) (c r K M : Nat) (hv : List Int) (f : F4) (y : Int) (w : World) (hr : r < 4) (hrow : Row w p hv) (hy : fstB hv f r = y) (hK : lenB y = K) (hnK : hv.length < K) (hK6 : K ≤ 6) (hM : M = min (hv.length + 4 - r) K) :
    Calls Try.prog 32 #[.slice p hv.length c, .agg #[.int .u8 f.a, .int .u8 f.b, .int .u8 f.c, .int .u8 f.d], .int .i64 r] w fun e w' => ∃ g, e = .returned (.slice (some ⟨g, 0, none⟩) M M) ∧ Own w' w.heap.size g M (hv ++ ((f4L f).drop r).take (M - hv.length)) ∧ Below w.heap.size w w' := by
  obtain ⟨i0, hi, hz0, hz1, hz2⟩ := info_parts Try.info5
  have HB1 := Hid.in (new_alloc w (.cells #[.int .u8 f.a, .int .u8 f.b, .int .u8 f.c, .int .u8 f.d] 62))
  have HF1 := Hid.in (Blk.new w 62 #[.int .u8 f.a, .int .u8 f.b, .int .u8 f.c, .int .u8 f.d])
  have HR1 := Hid.in (hrow.below HB1.out)
  have hcell := f4_cell HF1.out hr
  have hl := fun W => length_any y W
  rw [hK] at hl
  have hfst : (hv.length = 0 → (f4L f).getD r 0 = y) ∧ (0 < hv.length → hv.getD 0 0 = y) := by
    unfold fstB at hy
    exact ⟨fun h => by rw [if_pos (by omega)] at hy; exact hy, fun h => by rw [if_neg (by omega)] at hy; exact hy⟩
  have hMn : hv.length < M := by omega
  have hM10 : M ≤ 6 := by omega
  have hzl : (((f4L f).drop r).take (M - hv.length)).length = M - hv.length := by rw [List.length_take, List.length_drop, f4L_len]; omega
  have HZL := Hid.in hzl
  clear hrow hK hy hzl
  obtain ⟨w1, hw1⟩ : ∃ w1, w1 = w.alloc (.cells #[.int .u8 f.a, .int .u8 f.b, .int .u8 f.c, .int .u8 f.d] 62) := ⟨_, rfl⟩
  obtain ⟨z, hz⟩ : ∃ z, (f4L f).getD r 0 = z := ⟨_, rfl⟩
  obtain ⟨fa, hfa⟩ : ∃ x, f.a = x := ⟨_, rfl⟩
  obtain ⟨fb, hfb⟩ : ∃ x, f.b = x := ⟨_, rfl⟩
  obtain ⟨fc, hfc⟩ : ∃ x, f.c = x := ⟨_, rfl⟩
  obtain ⟨fd, hfd⟩ : ∃ x, f.d = x := ⟨_, rfl⟩
  rw [hz] at hcell hfst
  have HSR : Hid (∀ W, Below w1.heap.size w1 W → ∀ j v, (byts (((f4L f).drop r).take (M - hv.length)))[j]? = some v → W.cell? ((⟨w.heap.size, r, none⟩ : Addr).add j) = some v) := fun W hW => f4_src ((hw1 ▸ HF1.out).grow hW) r (M - hv.length)
  have HRW : Hid (∀ W, Below w1.heap.size w1 W → Row W p hv) := fun W hW => (hw1 ▸ HR1.out).below hW
  have HBW : Hid (∀ W, Below w1.heap.size w1 W → Below w.heap.size w W) := fun W hW => below_step (hw1 ▸ HB1.out) hW
  have hsz1 : w.heap.size < w1.heap.size := by rw [hw1, size_one]; omega
  rw [hfa, hfb, hfc, hfd] at hw1 hcell ⊢
  rw [← hw1] at hcell
  clear HF1 HR1 HB1 hfa hfb hfc hfd
  generalize ((f4L f).drop r).take (M - hv.length) = zs at *
  have hr4 : (r : Int) < 4 := by omega
  have hr0 : (0 : Int) ≤ r := by omega
  have HYS := Hid.in (put_hv (M := M) (hv := hv) rfl)
  have HPZ : Hid (putA (hv ++ List.replicate (M - hv.length) 0) hv.length zs = hv ++ zs) := put_zs rfl HZL.out
  have HYL : Hid ((hv ++ List.replicate (M - hv.length) 0).length = M) := by show _ = _; simp; omega
  generalize hv ++ List.replicate (M - hv.length) 0 = ys at *
  have hc0 : 0 < hv.length → ∃ b o, p = some ⟨b, o, none⟩ ∧ w1.cell? ⟨b, o, none⟩ = some (.int .u8 y) := fun h => by
    obtain ⟨b, o, e, hc⟩ := HRW.out w1 (below_self _) (by omega)
    have := hc 0 (by omega)
    rw [Nat.add_zero, hfst.2 h] at this
    exact ⟨b, o, e, this⟩
  have hcl : (byts zs).length = Nat.min (4 - r) (M - hv.length) := by
    rw [List.length_map, HZL.out]
    exact (Nat.min_eq_right (by omega)).symm
  have HCL := Hid.in hcl
  have HM := Hid.in hM
  have HF := Hid.in hfst
  have hn6 : hv.length ≤ 6 := by omega
  have hne1 : ¬ M = hv.length := by omega
  have hne2 : ¬ 4 = r := by omega
  have hle1 : hv.length ≤ M := by omega
  have hle2 : r ≤ 4 := by omega
  clear hM hfst hK6 hz hcl
  have hg : (0 < hv.length ∧ decide (0 < hv.length) = true) ∨ (hv.length = 0 ∧ decide (0 < hv.length) = false) := by
    by_cases h : 0 < hv.length
    · exact .inl ⟨h, decide_eq_true h⟩
    · exact .inr ⟨by omega, decide_eq_false h⟩
  have HW1 := Hid.in hw1
  clear hw1
  rcases hg with ⟨h0, hg⟩ | ⟨h0, hg⟩
  · obtain ⟨b, o, rfl, c0⟩ := hc0 h0
    clear hc0 HF
    go_enter Try.func32, Try.ntmps32
    go_upto_region 1 with fail
    rw [← HW1.out]
    clear HW1
    go_upto_region 4 with fail
    clear c0 hcell
    go_upto_region 6 with (first
      | (go_at_call 25; refine (hl _).mono ?_; rintro e w2 ⟨rfl, hb2⟩)
      | (at_make; refine wpList_make_full _ rfl _ _ 24 rfl _ 5 i0 (.int .u8 0) 1 Try.underlying24 hi hz0 hz1 _ _ _ _ M rfl rfl (by have := HM.out; omega) (by have := HM.out; omega) (by rw [hz2]; omega) (by unfold maxLen; omega) (Nat.le_refl _) ?_; intro w3 hown hgrow; have hb3 := below_step hb2 ((Below.refl w2.heap.size w2).grown hgrow (Nat.le_refl _) (by simp)); have HO : Hid (Own w3 w2.heap.size w2.heap.size M (List.replicate M 0)) := Own.of_made hown; clear hown hgrow)
      | (have hw := HO.out.block (List.length_replicate ..); refine wpList_copy_splice rfl _ _ 24 24 rfl 5 Try.underlying24 Try.size5 _ _ _ _ _ _ rfl rfl w2.heap.size 0 _ 5 hw (byts hv) (by rw [List.length_map]; exact (Nat.min_eq_left (by omega)).symm) (fun h0 => ⟨rfl, (HRW.out w3 hb3).src (by simpa using h0)⟩) (by simp; omega) (one_byts hv) w1.heap.size w1 hb3 hb2.size ?_; intro w4 hw4 hb4; rw [putA_splice, HYS.out] at hw4; have HW4 := Hid.in hw4.out; have HB4 := Hid.in hb4; have hs2 : w1.heap.size ≤ w2.heap.size := hb2.size; clear hw hw4 HO hb3 hb4 hb2 hl))
    have hsrc := HSR.out w4 HB4.out
    have hcl := HCL.out
    have hs4 := fun W => slice_four w.heap.size r W hr
    go_region_law (refine step_copy_splice (by rfl) _ _ 24 24 (by rfl) 5 Try.underlying24 Try.size5 _ _ _ _ _ _ (by rfl) (by rfl) w2.heap.size hv.length (byts ys) 5 HW4.out (byts zs) hcl (fun _ => ⟨rfl, ⟨w.heap.size, r, none⟩, rfl, hsrc⟩) (by rw [List.length_map, List.length_map, HZL.out, HYL.out]; omega) (one_byts _) w1.heap.size w1 (below_drewN HB4.out 1) hs2 ?_; intro w5 HW5 HB5; rw [putA_splice, HPZ.out] at HW5)
    all_goals
      have HBB := Hid.in (HBW.out _ HB5)
      clear HB5 hsrc hcl HW4 HB4
      go_wp2_with fail
      go_ret
      refine ⟨w2.heap.size, rfl, Own.mk (by omega) HW5.out (by rw [List.length_append, HZL.out]; omega) (by unfold maxLen; omega) (by simp [HZL.out]; omega) (by rw [List.take_of_length_le (by simp)]), HBB.out⟩
  · have e1 := HF.out.1 h0
    subst e1
    clear hc0 h0 HF
    go_enter Try.func32, Try.ntmps32
    go_upto_region 1 with fail
    rw [← HW1.out]
    clear HW1
    go_upto_region 4 with fail
    clear hcell
    go_upto_region 6 with (first
      | (go_at_call 25; refine (hl _).mono ?_; rintro e w2 ⟨rfl, hb2⟩)
      | (at_make; refine wpList_make_full _ rfl _ _ 24 rfl _ 5 i0 (.int .u8 0) 1 Try.underlying24 hi hz0 hz1 _ _ _ _ M rfl rfl (by have := HM.out; omega) (by have := HM.out; omega) (by rw [hz2]; omega) (by unfold maxLen; omega) (Nat.le_refl _) ?_; intro w3 hown hgrow; have hb3 := below_step hb2 ((Below.refl w2.heap.size w2).grown hgrow (Nat.le_refl _) (by simp)); have HO : Hid (Own w3 w2.heap.size w2.heap.size M (List.replicate M 0)) := Own.of_made hown; clear hown hgrow)
      | (have hw := HO.out.block (List.length_replicate ..); refine wpList_copy_splice rfl _ _ 24 24 rfl 5 Try.underlying24 Try.size5 _ _ _ _ _ _ rfl rfl w2.heap.size 0 _ 5 hw (byts hv) (by rw [List.length_map]; exact (Nat.min_eq_left (by omega)).symm) (fun h0 => ⟨rfl, (HRW.out w3 hb3).src (by simpa using h0)⟩) (by simp; omega) (one_byts hv) w1.heap.size w1 hb3 hb2.size ?_; intro w4 hw4 hb4; rw [putA_splice, HYS.out] at hw4; have HW4 := Hid.in hw4.out; have HB4 := Hid.in hb4; have hs2 : w1.heap.size ≤ w2.heap.size := hb2.size; clear hw hw4 HO hb3 hb4 hb2 hl))
    have hsrc := HSR.out w4 HB4.out
    have hcl := HCL.out
    have hs4 := fun W => slice_four w.heap.size r W hr
    go_region_law (refine step_copy_splice (by rfl) _ _ 24 24 (by rfl) 5 Try.underlying24 Try.size5 _ _ _ _ _ _ (by rfl) (by rfl) w2.heap.size hv.length (byts ys) 5 HW4.out (byts zs) hcl (fun _ => ⟨rfl, ⟨w.heap.size, r, none⟩, rfl, hsrc⟩) (by rw [List.length_map, List.length_map, HZL.out, HYL.out]; omega) (one_byts _) w1.heap.size w1 (below_drewN HB4.out 1) hs2 ?_; intro w5 HW5 HB5; rw [putA_splice, HPZ.out] at HW5)
    all_goals
      have HBB := Hid.in (HBW.out _ HB5)
      clear HB5 hsrc hcl HW4 HB4
      go_wp2_with fail
      go_ret
      refine ⟨w2.heap.size, rfl, Own.mk (by omega) HW5.out (by rw [List.length_append, HZL.out]; omega) (by unfold maxLen; omega) (by simp [HZL.out]; omega) (by rw [List.take_of_length_le (by simp)]), HBB.out⟩

end Go.Proofs.Yteeeedphhaphpaa
