/- Texts put together: Ex, KitS, AwkC, Awake4. -/
import Derived.Test.YtgfmmbbebodapaaGreatDoorKq
import Derived.Test.YtgfmmbbebodapaaGreatDoorKr
import Derived.Test.YtgfmmbbebodapaaGreatDoorKo

/- The chapter's examples, reckoned. -/
namespace Go.Proofs.YtgfmmbbebodapaaGreatDoor
open Go.RowKit

theorem itoa_1 : Lib.itoa 1 = [49] := by simp [Lib.itoa, Lib.decDigits]
theorem itoa_2 : Lib.itoa 2 = [50] := by simp [Lib.itoa, Lib.decDigits]
theorem itoa_3 : Lib.itoa 3 = [51] := by simp [Lib.itoa, Lib.decDigits]
theorem ex_line1 : lineL [32, 32, 109, 111, 118, 105, 32, 114, 51, 32, 45, 53, 32, 35, 32, 102, 105, 118, 101] = ({ srcK 2 with o := 5, a := 3, m := -5 }, true, 0, 0) := by kernel_rfl
theorem ex_line2 : lineL [109, 111, 118, 105, 32, 114, 56, 32, 49] = (src0, false, 140, 6) := by kernel_rfl
theorem ex_parse2 : parseL [109, 97, 114, 107, 32, 107, 32, 111, 117, 116, 10, 110, 111, 112] = ([], (182, 1, 1)) := by kernel_rfl
theorem ex_parse1 : (parseL [109, 97, 114, 107, 32, 107, 32, 111, 117, 116, 10, 110, 111, 112, 53, 10, 111, 117, 116, 58, 10, 104, 97, 108, 116, 10]).2 = (0, 0, 0) ∧ (parseL [109, 97, 114, 107, 32, 107, 32, 111, 117, 116, 10, 110, 111, 112, 53, 10, 111, 117, 116, 58, 10, 104, 97, 108, 116, 10]).1.length = 4 := ⟨by kernel_rfl, by kernel_rfl⟩
theorem ex_text : lineT { srcK 4 with d := [1, 2] } = [98, 121, 116, 101, 32, 49, 32, 50] := by
  have h1 : lineT { srcK 4 with d := [1, 2] } = [98, 121, 116, 101] ++ (32 :: Lib.itoa 1) ++ (32 :: Lib.itoa 2) := by kernel_rfl
  rw [h1, itoa_1, itoa_2]; rfl
theorem ex_text3 : lineT { srcK 6 with n := 3 } = [97, 108, 105, 103, 110, 32, 51] := by
  have h1 : lineT { srcK 6 with n := 3 } = [97, 108, 105, 103, 110] ++ (32 :: Lib.itoa 3) := by kernel_rfl
  rw [h1, itoa_3]; rfl
theorem ex_may : mayB { srcK 4 with d := [1, 2] } = true := by
  unfold mayB; rw [ex_text]; kernel_rfl
theorem ex_may3 : mayB { srcK 6 with n := 3 } = false := by
  unfold mayB; rw [ex_text3]; kernel_rfl
theorem ex_check : checkL [{ srcK 6 with n := 3 }] = (2, 0) := by
  unfold checkL
  rw [if_neg (by simp)]
  simp only [chkAt]
  rw [if_pos ex_may3]
theorem ex_print : printL [{ srcK 4 with d := [1, 2] }] = ([98, 121, 116, 101, 32, 49, 32, 50, 10], 0) := by
  have h1 : checkL [{ srcK 4 with d := [1, 2] }] = (0, 0) := by
    unfold checkL
    rw [if_neg (by simp)]
    simp only [chkAt]
    rw [if_neg (by rw [ex_may]; simp), if_neg (by simp [srcK])]
  have h2 : textT [{ srcK 4 with d := [1, 2] }] = [98, 121, 116, 101, 32, 49, 32, 50, 10] := by
    simp only [textT, List.flatMap_cons, List.flatMap_nil, ex_text]; rfl
  unfold printL
  rw [h1, h2]; rfl

end Go.Proofs.YtgfmmbbebodapaaGreatDoor

/- switchyardkit.SameItem of two items that are the same. -/
namespace Go.Proofs.YtgfmmbbebodapaaGreatDoor
open Go.RowKit

set_option maxRecDepth 20000 in
set_option maxHeartbeats 1000000 in
theorem sameItem_yes (x : Src) (p q : Option Addr) (m e m' e' : Nat) (w : World) (h1 : x.d.length = m) (h2 : x.d.length = m') (hm : m ≤ 9223372036854775807) (hr1 : Row w p x.d) (hr2 : Row w q x.d) :
    Calls Tryz.prog 10 #[.agg (cellsOf x (.slice p m e)), .agg (cellsOf x (.slice q m' e'))] w fun E w' => E = .returned (.bool true) ∧ Below w.heap.size w w' := by
  have hS := fun W k1 k2 => sameBytes_any p q m e m' e' x.d x.d W h1 h2 hm k1 k2
  rw [sameB_self] at hS
  have HR1 := fun o o' => Hid.in ((hr1.below (new_alloc w o)).below (new_alloc (w.alloc o) o'))
  have HR2 := fun o o' => Hid.in ((hr2.below (new_alloc w o)).below (new_alloc (w.alloc o) o'))
  clear hr1 hr2 h1 h2 hm
  unfold cellsOf
  obtain ⟨k, name, tg, o, a, b, n4, n, d⟩ := x
  simp only at *
  go_enter Tryz.func10, Tryz.ntmps10
  go_wp2_with (go_at_call 34; refine (hS _ (HR1 _ _).out (HR2 _ _).out).mono ?_; rintro E w1 ⟨rfl, z, rfl⟩)
  go_ret
  exact ⟨rfl, below_draws (below_alloc (new_alloc _ _) _) z⟩

end Go.Proofs.YtgfmmbbebodapaaGreatDoor

/- switchyardlaw04.awake answers true. -/
namespace Go.Proofs.YtgfmmbbebodapaaGreatDoor
open Go.RowKit

def xMovi : Src := { srcK 2 with o := 5, a := 3, m := -5 }
theorem aw_line1 (W : World) (he : Env W) : Calls Tryz.prog 8 #[.string ⟨#[32, 32, 109, 111, 118, 105, 32, 114, 51, 32, 45, 53, 32, 35, 32, 102, 105, 118, 101]⟩] W (LineIs (xMovi, true, 0, 0) W) := by
  have := line_any ⟨#[32, 32, 109, 111, 118, 105, 32, 114, 51, 32, 45, 53, 32, 35, 32, 102, 105, 118, 101]⟩ W he.vars (by decide)
  rw [show (ByteArray.mk #[32, 32, 109, 111, 118, 105, 32, 114, 51, 32, 45, 53, 32, 35, 32, 102, 105, 118, 101]).data.toList = [32, 32, 109, 111, 118, 105, 32, 114, 51, 32, 45, 53, 32, 35, 32, 102, 105, 118, 101] from rfl, ex_line1] at this
  exact this
theorem aw_line2 (W : World) (he : Env W) : Calls Tryz.prog 8 #[.string ⟨#[109, 111, 118, 105, 32, 114, 56, 32, 49]⟩] W (LineIs (src0, false, 140, 6) W) := by
  have := line_any ⟨#[109, 111, 118, 105, 32, 114, 56, 32, 49]⟩ W he.vars (by decide)
  rw [show (ByteArray.mk #[109, 111, 118, 105, 32, 114, 56, 32, 49]).data.toList = [109, 111, 118, 105, 32, 114, 56, 32, 49] from rfl, ex_line2] at this
  exact this
theorem aw_parse1 (W : World) (he : Env W) : Calls Tryz.prog 12 #[.string ⟨#[109, 97, 114, 107, 32, 107, 32, 111, 117, 116, 10, 110, 111, 112, 53, 10, 111, 117, 116, 58, 10, 104, 97, 108, 116, 10]⟩] W fun E w' => ∃ p c, E = .returned (.tuple #[.slice p 4 c, .agg (faultC (0, 0, 0))]) ∧ Below W.heap.size W w' := by
  refine (parse_any ⟨#[109, 97, 114, 107, 32, 107, 32, 111, 117, 116, 10, 110, 111, 112, 53, 10, 111, 117, 116, 58, 10, 104, 97, 108, 116, 10]⟩ W he (by decide)).mono ?_
  rintro E w' ⟨v, L, rfl, hL, hI, -, hb⟩
  obtain ⟨h1, h2⟩ := ex_parse1
  obtain ⟨p, c, rfl, -, -, -⟩ := hI.shape
  have hl : L.length = 4 := by
    have := congrArg List.length hL
    rw [List.length_map] at this
    rw [this]; exact h2
  rw [hl]
  refine ⟨p, c, ?_, hb⟩
  have h3 : (parseL (ByteArray.mk #[109, 97, 114, 107, 32, 107, 32, 111, 117, 116, 10, 110, 111, 112, 53, 10, 111, 117, 116, 58, 10, 104, 97, 108, 116, 10]).data.toList).2 = (0, 0, 0) := h1
  rw [h3]
theorem aw_parse2 (W : World) (he : Env W) : Calls Tryz.prog 12 #[.string ⟨#[109, 97, 114, 107, 32, 107, 32, 111, 117, 116, 10, 110, 111, 112]⟩] W fun E w' => ∃ v, E = .returned (.tuple #[v, .agg (faultC (182, 1, 1))]) ∧ Below W.heap.size W w' := by
  refine (parse_any ⟨#[109, 97, 114, 107, 32, 107, 32, 111, 117, 116, 10, 110, 111, 112]⟩ W he (by decide)).mono ?_
  rintro E w' ⟨v, L, rfl, hL, hI, -, hb⟩
  have h3 : parseL (ByteArray.mk #[109, 97, 114, 107, 32, 107, 32, 111, 117, 116, 10, 110, 111, 112]).data.toList = ([], (182, 1, 1)) := ex_parse2
  rw [h3]
  exact ⟨v, rfl, hb⟩
def xBytes : Src := { srcK 4 with d := [1, 2] }
def xAlign : Src := { srcK 6 with n := 3 }
theorem xBytes_byt : Byt [1, 2] := fun i => by
  match i with
  | 0 => decide
  | 1 => decide
  | n + 2 => simp
theorem xBytes_fit : Fit xBytes := { srcK_fit 4 (by decide) (by decide) with d := xBytes_byt, dz := by show (2 : Nat) ≤ _; omega }
theorem xAlign_fit : Fit xAlign := { srcK_fit 6 (by decide) (by decide) with n0 := by show (_ : Int) ≤ 3; omega, n1 := by show (3 : Int) ≤ _; omega }
theorem aw_print (W : World) (he : Env W) (g g0 : Nat) (hB : Blk W g 28 (cellsOf xBytes (.slice (some ⟨g0, 0, none⟩) 2 2))) (hD : Blk W g0 5 #[.int .u8 1, .int .u8 2]) :
    Calls Tryz.prog 18 #[.slice (some ⟨g, 0, none⟩) 1 1] W fun E w' => E = .returned (.tuple #[.string ⟨#[98, 121, 116, 101, 32, 49, 32, 50, 10]⟩, .int .i64 0]) ∧ Below W.heap.size W w' := by
  have := print_any (some ⟨g, 0, none⟩) 1 1 [xBytes] W he rfl (Nat.le_refl _) (by decide) (fun _ => ⟨g, 0, rfl, fun i hi => by
    have h0 : i = 0 := by simp at hi; exact hi
    subst h0
    refine ⟨some ⟨g0, 0, none⟩, 2, hB.range, fun _ => ⟨g0, 0, rfl, fun j hj => ?_⟩, xBytes_fit⟩
    rw [Nat.zero_add, hD.cell]
    match j, hj with
    | 0, _ => rfl
    | 1, _ => rfl⟩)
  rw [show printL [xBytes] = ([98, 121, 116, 101, 32, 49, 32, 50, 10], 0) from ex_print] at this
  exact this
theorem aw_check (W : World) (he : Env W) (g : Nat) (hB : Blk W g 28 (cellsOf xAlign (.slice none 0 0))) :
    Calls Tryz.prog 16 #[.slice (some ⟨g, 0, none⟩) 1 1] W fun E w' => E = .returned (.tuple #[.int .i64 2, .int .i64 0]) ∧ Below W.heap.size W w' := by
  have := check_any (some ⟨g, 0, none⟩) 1 1 [xAlign] W he rfl (Nat.le_refl _) (by decide) (fun _ => ⟨g, 0, rfl, fun i hi => by
    have h0 : i = 0 := by simp at hi; exact hi
    subst h0
    refine ⟨none, 0, hB.range, fun h => absurd h (by show ¬ 0 < 0; omega), xAlign_fit⟩⟩)
  rw [show checkL [xAlign] = (2, 0) from ex_check] at this
  exact this

end Go.Proofs.YtgfmmbbebodapaaGreatDoor

/- switchyardlaw04.awake answers true. -/
namespace Go.Proofs.YtgfmmbbebodapaaGreatDoor
open Go.RowKit

set_option maxRecDepth 100000 in
set_option maxHeartbeats 1000000 in
theorem awake_any (w : World) (he : Env w) : Calls Tryz.prog 11 #[] w fun E w' => E = .returned (.bool true) ∧ Below w.heap.size w w' := by
  go_enter Tryz.func11, Tryz.ntmps11
  go_wp2_with (first
    | (go_at_call 8; refine (aw_line1 _ he).mono ?_; rintro E w1 ⟨d1, rfl, hd1, hb1⟩; obtain ⟨q1, c1, rfl, hr1⟩ := hd1.rowB; have HE1 := Hid.in (he.below hb1); have HB1 := Hid.in hb1; have HR1 := Hid.in hr1; clear hd1 hb1 hr1; unfold LineV; dsimp only)
    | (refine step_store_new rfl 28 (.tmp 1) (.tmp 19) rfl rfl rfl (cellsOf xMovi (.slice q1 xMovi.d.length c1)) rfl Tryz.sz28 rfl (cells_one _ _ _ _) ?_; refine Hid.out ?_))
  refine Lib.hid ?_
  have HX2 := Hid.in (Blk.new w1 28 (cellsOf xMovi (.slice q1 xMovi.d.length c1)))
  have HE2 := Hid.in (HE1.out.below (new_alloc w1 (.cells (cellsOf xMovi (.slice q1 xMovi.d.length c1)) 28)))
  have HB2 := Hid.in (below_alloc HB1.out (.cells (cellsOf xMovi (.slice q1 xMovi.d.length c1)) 28))
  have HR2 := Hid.in (HR1.out.below (new_alloc w1 (.cells (cellsOf xMovi (.slice q1 xMovi.d.length c1)) 28)))
  clear HE1 HB1 HR1
  generalize w1.alloc (.cells (cellsOf xMovi (.slice q1 xMovi.d.length c1)) 28) = w2 at *
  generalize w1.heap.size = g1 at *
  go_wp2_with (first
    | (go_at_call 8; refine (aw_line2 _ HE2.out).mono ?_; rintro E w3 ⟨d3, rfl, hd3, hb3⟩; obtain ⟨q3, c3, rfl, -⟩ := hd3.rowB; have HE3 := Hid.in (HE2.out.below hb3); have HB3 := Hid.in (below_step HB2.out hb3); have HX3 := Hid.in (HX2.out.grow hb3); have HR3 := Hid.in (HR2.out.below hb3); clear hd3 hb3; unfold LineV; dsimp only)
    | (refine step_store_new rfl 28 (.tmp 5) (.tmp 25) rfl rfl rfl (cellsOf src0 (.slice q3 src0.d.length c3)) rfl Tryz.sz28 rfl (cells_one _ _ _ _) ?_; refine Hid.out ?_))
  refine Lib.hid ?_
  have N4 := Hid.in (new_alloc w3 (.cells (cellsOf src0 (.slice q3 src0.d.length c3)) 28))
  have HE4 := Hid.in (HE3.out.below N4.out)
  have HB4 := Hid.in (below_step HB3.out N4.out)
  have HX4 := Hid.in (HX3.out.grow N4.out)
  have HR4 := Hid.in (HR3.out.below N4.out)
  clear HE2 HB2 HX2 HR2 HE3 HB3 HX3 HR3 N4
  generalize w3.alloc (.cells (cellsOf src0 (.slice q3 src0.d.length c3)) 28) = w4 at *
  go_wp2_with (first
    | (go_at_call 12; refine (aw_parse1 _ HE4.out).mono ?_; rintro E w5 ⟨p5, c5, rfl, hb5⟩; have HE5 := Hid.in (HE4.out.below hb5); have HB5 := Hid.in (below_step HB4.out hb5); have HX5 := Hid.in (HX4.out.grow hb5); have HR5 := Hid.in (HR4.out.below hb5); clear hb5)
    | (refine step_store_new rfl 37 (.tmp 10) (.tmp 32) rfl rfl rfl (faultC (0, 0, 0)) rfl Tryz.sz37 rfl (fault_one _) ?_; refine Hid.out ?_))
  refine Lib.hid ?_
  have N6 := Hid.in (new_alloc w5 (.cells (faultC (0, 0, 0)) 37))
  have HF6 := Hid.in (Blk.new w5 37 (faultC (0, 0, 0)))
  have HE6 := Hid.in (HE5.out.below N6.out)
  have HB6 := Hid.in (below_step HB5.out N6.out)
  have HX6 := Hid.in (HX5.out.grow N6.out)
  have HR6 := Hid.in (HR5.out.below N6.out)
  clear HE4 HB4 HX4 HR4 HE5 HB5 HX5 HR5 N6
  generalize w5.alloc (.cells (faultC (0, 0, 0)) 37) = w6 at *
  generalize w5.heap.size = g6 at *
  go_wp2_with (first
    | (go_at_call 12; refine (aw_parse2 _ HE6.out).mono ?_; rintro E w7 ⟨v7, rfl, hb7⟩; have HE7 := Hid.in (HE6.out.below hb7); have HB7 := Hid.in (below_step HB6.out hb7); have HX7 := Hid.in (HX6.out.grow hb7); have HR7 := Hid.in (HR6.out.below hb7); have HF7 := Hid.in (HF6.out.grow hb7); clear hb7)
    | (refine step_store_new rfl 37 (.tmp 12) (.tmp 36) rfl rfl rfl (faultC (182, 1, 1)) rfl Tryz.sz37 rfl (fault_one _) ?_; refine Hid.out ?_))
  refine Lib.hid ?_
  have N8 := Hid.in (new_alloc w7 (.cells (faultC (182, 1, 1)) 37))
  have HG8 := Hid.in (Blk.new w7 37 (faultC (182, 1, 1)))
  have HE8 := Hid.in (HE7.out.below N8.out)
  have HB8 := Hid.in (below_step HB7.out N8.out)
  have HX8 := Hid.in (HX7.out.grow N8.out)
  have HR8 := Hid.in (HR7.out.below N8.out)
  have HF8 := Hid.in (HF7.out.grow N8.out)
  clear HE6 HB6 HX6 HR6 HF6 HE7 HB7 HX7 HR7 HF7 N8
  generalize w7.alloc (.cells (faultC (182, 1, 1)) 37) = w8 at *
  generalize w7.heap.size = g8 at *
  have HP9 : Hid (∀ A B : Obj, A = .cells #[.int .u8 1, .int .u8 2] 5 → B = .cells (cellsOf xBytes (.slice (some ⟨w8.heap.size, 0, none⟩) 2 2)) 28 →
      Calls Tryz.prog 18 #[.slice (some ⟨w8.heap.size + 1, 0, none⟩) 1 1] ((w8.alloc A).alloc B) fun E w' => E = .returned (.tuple #[.string ⟨#[98, 121, 116, 101, 32, 49, 32, 50, 10]⟩, .int .i64 0]) ∧ Below ((w8.alloc A).alloc B).heap.size ((w8.alloc A).alloc B) w') := fun A B hA hB => by
    subst hA hB
    have h1 := Blk.new (w8.alloc (.cells #[.int .u8 1, .int .u8 2] 5)) 28 (cellsOf xBytes (.slice (some ⟨w8.heap.size, 0, none⟩) 2 2))
    rw [size_one] at h1
    exact aw_print _ ((HE8.out.below (new_alloc _ _)).below (new_alloc _ _)) _ _ h1 ((Blk.new w8 5 _).grow (new_alloc _ _))
  go_wp2_with (go_at_call 18; refine (HP9.out _ _ rfl rfl).mono ?_; rintro E w9 ⟨rfl, hb9⟩; have N9 := Hid.in (below_step (below_alloc (new_alloc w8 _) _) hb9); clear hb9; refine Hid.out ?_)
  refine Lib.hid ?_
  have HE9 := Hid.in (HE8.out.below N9.out)
  have HB9 := Hid.in (below_step HB8.out N9.out)
  have HX9 := Hid.in (HX8.out.grow N9.out)
  have HR9 := Hid.in (HR8.out.below N9.out)
  have HF9 := Hid.in (HF8.out.grow N9.out)
  have HG9 := Hid.in (HG8.out.grow N9.out)
  clear HE8 HB8 HX8 HR8 HF8 HG8 N9 HP9
  have HP10 : Hid (∀ B : Obj, B = .cells (cellsOf xAlign (.slice none 0 0)) 28 → Calls Tryz.prog 16 #[.slice (some ⟨w9.heap.size, 0, none⟩) 1 1] (w9.alloc B) fun E w' => E = .returned (.tuple #[.int .i64 2, .int .i64 0]) ∧ Below (w9.alloc B).heap.size (w9.alloc B) w') := fun B hB => by
    subst hB
    exact aw_check _ (HE9.out.below (new_alloc _ _)) _ (Blk.new w9 28 _)
  go_wp2_with (go_at_call 16; refine (HP10.out _ rfl).mono ?_; rintro E w11 ⟨rfl, hb11⟩; have N11 := Hid.in (below_step (new_alloc w9 _) hb11); clear hb11; refine Hid.out ?_)
  refine Lib.hid ?_
  have HB12 := Hid.in (below_step HB9.out N11.out)
  have hX := HX9.out.grow N11.out
  have hF := HF9.out.grow N11.out
  have hG := HG9.out.grow N11.out
  have i0 : w11.cell? ⟨g1, 0, none⟩ = some (.int .u8 2) := hX.cell 0
  have i1 : w11.cell? ⟨g1, 1, none⟩ = some (.string ⟨#[]⟩) := hX.cell 1
  have i2 : w11.cell? ⟨g1, 2, none⟩ = some (.string ⟨#[]⟩) := hX.cell 2
  have i3 : w11.cell? ⟨g1, 3, none⟩ = some (.int .u8 5) := hX.cell 3
  have i4 : w11.cell? ⟨g1, 4, none⟩ = some (.int .u8 3) := hX.cell 4
  have i5 : w11.cell? ⟨g1, 5, none⟩ = some (.int .u8 0) := hX.cell 5
  have i6 : w11.cell? ⟨g1, 6, none⟩ = some (.int .i32 (-5)) := hX.cell 6
  have i7 : w11.cell? ⟨g1, 7, none⟩ = some (.int .i64 0) := hX.cell 7
  have i8 : w11.cell? ⟨g1, 8, none⟩ = some (.slice q1 0 c1) := hX.cell 8
  have f0 : w11.cell? ⟨g6, 0, none⟩ = some (.int .i64 0) := hF.cell 0
  have f1 : w11.cell? ⟨g6, 1, none⟩ = some (.int .i64 0) := hF.cell 1
  have f2 : w11.cell? ⟨g6, 2, none⟩ = some (.int .i64 0) := hF.cell 2
  have e0 : w11.cell? ⟨g8, 0, none⟩ = some (.int .i64 182) := hG.cell 0
  have e1 : w11.cell? ⟨g8, 1, none⟩ = some (.int .i64 1) := hG.cell 1
  have e2 : w11.cell? ⟨g8, 2, none⟩ = some (.int .i64 1) := hG.cell 2
  have hS : Calls Tryz.prog 10 #[.agg #[.int .u8 2, .string ⟨#[]⟩, .string ⟨#[]⟩, .int .u8 5, .int .u8 3, .int .u8 0, .int .i32 (-5), .int .i64 0, .slice q1 0 c1], .agg #[.int .u8 2, .string ⟨#[]⟩, .string ⟨#[]⟩, .int .u8 5, .int .u8 3, .int .u8 0, .int .i32 (-5), .int .i64 0, .slice none 0 0]] w11 fun E w' => E = .returned (.bool true) ∧ Below w11.heap.size w11 w' :=
    sameItem_yes xMovi q1 none 0 c1 0 0 w11 rfl rfl (by decide) (HR9.out.below N11.out) (fun h => absurd h (by show ¬ 0 < 0; omega))
  clear hX hF hG HE9 HB9 HX9 HR9 HF9 HG9 N11 HP10
  generalize w9.heap.size = g9 at *
  go_wp2_with (go_at_call 10; refine hS.mono ?_; rintro E w12 ⟨rfl, hb12⟩; have f0' := (hb12.cell (p := ⟨g6, 0, none⟩) (cell_lt f0)).trans f0; have f1' := (hb12.cell (p := ⟨g6, 1, none⟩) (cell_lt f1)).trans f1; have f2' := (hb12.cell (p := ⟨g6, 2, none⟩) (cell_lt f2)).trans f2; have e0' := (hb12.cell (p := ⟨g8, 0, none⟩) (cell_lt e0)).trans e0; have e1' := (hb12.cell (p := ⟨g8, 1, none⟩) (cell_lt e1)).trans e1; have e2' := (hb12.cell (p := ⟨g8, 2, none⟩) (cell_lt e2)).trans e2; have HB13 := Hid.in (below_step HB12.out hb12); clear hb12)
  go_ret
  exact ⟨rfl, HB13.out⟩

end Go.Proofs.YtgfmmbbebodapaaGreatDoor
