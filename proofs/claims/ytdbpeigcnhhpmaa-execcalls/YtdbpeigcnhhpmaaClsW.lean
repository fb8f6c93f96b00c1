/- ExecCalls: the law's walk. -/
import Derived.Test.YtdbpeigcnhhpmaaDoT
namespace Go.Proofs.Ytdbpeigcnhhpmaa
open Go.RowKit

theorem cl_full (way pc : Int) (R S : List Int) (h : 64 ≤ S.length) : doL 12 0 0 way pc R S [] = (R, S, { goE pc with fl := 3 }) := by
  have hR : rightB 12 0 0 way = true := by simp [rightB, regB, rg, kd, numB]
  have hf : fltL 12 (0 : Nat) (0 : Nat) way S.length ([] : List Int).length = 3 := by simp [fltL, hR, h]
  simp only [doL, hf]
  rfl
theorem cl_some (way pc bh wy : Int) (R S : List Int) (hbh : bh = (pc + 5) % 4294967296) (hwy : wy = ((pc + 5) % 4294967296 + way % 4294967296) % 4294967296) (h : ¬ 64 ≤ S.length) : doL 12 0 0 way pc R S [] = (R, S ++ [bh], goE wy) := by
  subst hbh hwy
  have hR : rightB 12 0 0 way = true := by simp [rightB, regB, rg, kd, numB]
  have hf : fltL 12 (0 : Nat) (0 : Nat) way S.length ([] : List Int).length = 0 := by simp [fltL, hR, h]
  simp only [doL, hf]
  rfl
theorem rt_some (pc x : Int) (R S : List Int) : doL 13 0 0 0 pc R (S ++ [x]) [] = (R, S, goE x) := by
  have hf : fltL 13 (0 : Nat) (0 : Nat) 0 (S ++ [x]).length ([] : List Int).length = 0 := rfl
  simp only [doL, hf]
  simp [doR, doS, doE]

set_option maxHeartbeats 4000000 in
set_option maxRecDepth 8000 in
theorem calls_walk (hdo : DoIs 9) (pc way : Int) (R S : List Int) (p : Option Addr) (s c : Nat) (w : World) (hpc : 0 ≤ pc ∧ pc ≤ 4294967295) (hn : -2147483648 ≤ way ∧ way ≤ 2147483647) (lR : R.length = 8) (hR : Wds R) (hS : S.length = s) (hs : s * 4 ≤ 140737488351232) (hr : PRow w p S)
    (haw : ∀ W, Calls Try.prog 16 #[] W fun e w' => e = .returned (.bool true) ∧ Below W.heap.size W w') :
    Calls Try.prog 5 #[.int .u32 pc, .int .i32 way, rgV R (.slice p s c)] w fun e w' => e = .returned (.bool true) ∧ Below w.heap.size w w' := by
  have hE := fun W (pv : Option Addr) (cv : Nat) (hv : PRow W pv S) (h1 : PRow W p S) => execSame_any R R pv p s cv s c S S W lR lR hR hR hS hS (by omega) hv h1
  simp only [sameB_self, Bool.and_self] at hE
  have HS := Hid.in hS
  by_cases h64 : 64 ≤ s
  · have h1 := do_at hdo 12 0 0 way pc R S [] R S _ p none s c 0 0 (w.alloc (.cells (rgA R (.slice p s c)) 32)) (cl_full way pc R S (by rw [hS]; exact h64)) (by decide) (by decide) (by decide) hpc hn lR hS (by omega) rfl (by decide) (hr.below (new_alloc _ _)) (row_nil _ _) byt_nil
    obtain ⟨r0, r1, r2, r3, r4, r5, r6, r7, rfl⟩ := eight lR
    simp only [rgV_eight] at h1 hE ⊢
    clear hR lR
    go_enter Try.func5, Try.ntmps5
    go_wp2_with (go_at_call 9; refine Hid.out ?_)
    refine Lib.hid ?_
    refine h1.mono ?_
    rintro e w1 ⟨p1, c1, rfl, hr1, -, hb1⟩
    rw [HS.out, show (Value.agg (effA { goE pc with fl := 3 })) = .agg #[.int .u32 pc, .bool false, .int .i64 3, .bool false, .bool false, .int .u32 0, .int .u32 0] from rfl]
    have t1 := two_blk w1 (#[.int .u32 r0, .int .u32 r1, .int .u32 r2, .int .u32 r3, .int .u32 r4, .int .u32 r5, .int .u32 r6, .int .u32 r7, .slice p1 s c1]) #[.int .u32 pc, .bool false, .int .i64 3, .bool false, .bool false, .int .u32 0, .int .u32 0]
    have HB0 : Hid (Blk w1 w.heap.size 32 #[.int .u32 r0, .int .u32 r1, .int .u32 r2, .int .u32 r3, .int .u32 r4, .int .u32 r5, .int .u32 r6, .int .u32 r7, .slice p s c]) := (Blk.new w 32 _).grow hb1
    have HW := Hid.in (below_step (below_step (new_alloc w (.cells #[.int .u32 r0, .int .u32 r1, .int .u32 r2, .int .u32 r3, .int .u32 r4, .int .u32 r5, .int .u32 r6, .int .u32 r7, .slice p s c] 32)) hb1) t1.2.2)
    have HP := Hid.in (hr1.below t1.2.2)
    have HQ := Hid.in (hr.below HW.out)
    have HB := Hid.in (HB0.out.grow t1.2.2)
    have HT := Hid.in t1
    clear h1 hr1 hb1 t1 HB0 hr
    go_upto_region 2 with fail
    generalize (w1.alloc (.cells #[.int .u32 r0, .int .u32 r1, .int .u32 r2, .int .u32 r3, .int .u32 r4, .int .u32 r5, .int .u32 r6, .int .u32 r7, .slice p1 s c1] 32)).alloc (.cells #[.int .u32 pc, .bool false, .int .i64 3, .bool false, .bool false, .int .u32 0, .int .u32 0] 37) = W1 at *
    have HT1 := Hid.in HT.out.1
    have HT2 := Hid.in HT.out.2.1
    clear HT
    generalize w1.heap.size = g1 at *
    have a0 : W1.cell? ⟨w.heap.size, 0, none⟩ = some (.int .u32 r0) := HB.out.cell 0
    have a1 : W1.cell? ⟨w.heap.size, 1, none⟩ = some (.int .u32 r1) := HB.out.cell 1
    have a2 : W1.cell? ⟨w.heap.size, 2, none⟩ = some (.int .u32 r2) := HB.out.cell 2
    have a3 : W1.cell? ⟨w.heap.size, 3, none⟩ = some (.int .u32 r3) := HB.out.cell 3
    have a4 : W1.cell? ⟨w.heap.size, 4, none⟩ = some (.int .u32 r4) := HB.out.cell 4
    have a5 : W1.cell? ⟨w.heap.size, 5, none⟩ = some (.int .u32 r5) := HB.out.cell 5
    have a6 : W1.cell? ⟨w.heap.size, 6, none⟩ = some (.int .u32 r6) := HB.out.cell 6
    have a7 : W1.cell? ⟨w.heap.size, 7, none⟩ = some (.int .u32 r7) := HB.out.cell 7
    have a8 : W1.cell? ⟨w.heap.size, 8, none⟩ = some (.slice p s c) := HB.out.cell 8
    have b0 : W1.cell? ⟨g1, 0, none⟩ = some (.int .u32 r0) := HT1.out.cell 0
    have b1 : W1.cell? ⟨g1, 1, none⟩ = some (.int .u32 r1) := HT1.out.cell 1
    have b2 : W1.cell? ⟨g1, 2, none⟩ = some (.int .u32 r2) := HT1.out.cell 2
    have b3 : W1.cell? ⟨g1, 3, none⟩ = some (.int .u32 r3) := HT1.out.cell 3
    have b4 : W1.cell? ⟨g1, 4, none⟩ = some (.int .u32 r4) := HT1.out.cell 4
    have b5 : W1.cell? ⟨g1, 5, none⟩ = some (.int .u32 r5) := HT1.out.cell 5
    have b6 : W1.cell? ⟨g1, 6, none⟩ = some (.int .u32 r6) := HT1.out.cell 6
    have b7 : W1.cell? ⟨g1, 7, none⟩ = some (.int .u32 r7) := HT1.out.cell 7
    have b8 : W1.cell? ⟨g1, 8, none⟩ = some (.slice p1 s c1) := HT1.out.cell 8
    have x0 : W1.cell? ⟨g1 + 1, 0, none⟩ = some (.int .u32 pc) := HT2.out.cell 0
    have x2 : W1.cell? ⟨g1 + 1, 2, none⟩ = some (.int .i64 3) := HT2.out.cell 2
    have h17 := hE W1 p1 c1 HP.out HQ.out
    clear hE
    go_wp2_with (go_at_call 17; refine Hid.out ?_)
    refine Lib.hid ?_
    with_reducible refine h17.mono ?_
    rintro e W2 ⟨rfl, hb2⟩
    go_wp2_with (go_at_call 16; refine Hid.out ?_)
    refine Lib.hid ?_
    refine (haw _).mono ?_
    rintro e W3 ⟨rfl, hb3⟩
    go_wp2_with fail
    go_ret
    exact ⟨rfl, below_step (below_step HW.out hb2) hb3⟩
  · obtain ⟨bh, hbh⟩ : ∃ bh, bh = (pc + 5) % 4294967296 := ⟨_, rfl⟩
    obtain ⟨wy, hwy⟩ : ∃ wy, wy = ((pc + 5) % 4294967296 + way % 4294967296) % 4294967296 := ⟨_, rfl⟩
    have e1 : (bh == (pc + 5) % 4294967296) = true := by rw [hbh]; simp
    have e2 : (wy == (pc + 5 + way) % 4294967296) = true := by rw [hwy]; simp
    have bw : 0 ≤ wy ∧ wy ≤ 4294967295 := by omega
    have h1 := do_at hdo 12 0 0 way pc R S [] R (S ++ [bh]) _ p none s c 0 0 (w.alloc (.cells (rgA R (.slice p s c)) 32)) (cl_some way pc bh wy R S hbh hwy (by rw [hS]; exact h64)) (by decide) (by decide) (by decide) hpc hn lR hS (by omega) rfl (by decide) (hr.below (new_alloc _ _)) (row_nil _ _) byt_nil
    have HD2 : Hid (∀ W pv cv, PRow W pv (S ++ [bh]) → _) := fun W pv cv hv => do_at hdo 13 0 0 0 wy R (S ++ [bh]) [] R S _ pv none (s + 1) cv 0 0 W (rt_some _ _ R S) (by decide) (by decide) (by decide) bw (by decide) lR (by simp [hS]) (by omega) rfl (by decide) hv (row_nil _ _) byt_nil
    clear hbh hwy bw
    have HL : Hid ((S ++ [bh]).length = s + 1) := by show _ = _; simp [hS]
    obtain ⟨r0, r1, r2, r3, r4, r5, r6, r7, rfl⟩ := eight lR
    simp only [rgV_eight] at h1 hE HD2 ⊢
    clear hR lR
    go_enter Try.func5, Try.ntmps5
    go_wp2_with (go_at_call 9; refine Hid.out ?_)
    refine Lib.hid ?_
    refine h1.mono ?_
    rintro e w1 ⟨p1, c1, rfl, hr1, -, hb1⟩
    rw [HL.out, show ∀ z, (Value.agg (effA (goE z))) = .agg (efA z) from fun _ => rfl]
    have t1 := two_blk w1 (#[.int .u32 r0, .int .u32 r1, .int .u32 r2, .int .u32 r3, .int .u32 r4, .int .u32 r5, .int .u32 r6, .int .u32 r7, .slice p1 (s + 1) c1]) (efA wy)
    have HB0 : Hid (Blk w1 w.heap.size 32 #[.int .u32 r0, .int .u32 r1, .int .u32 r2, .int .u32 r3, .int .u32 r4, .int .u32 r5, .int .u32 r6, .int .u32 r7, .slice p s c]) := (Blk.new w 32 _).grow hb1
    have HW := Hid.in (below_step (below_step (new_alloc w (.cells #[.int .u32 r0, .int .u32 r1, .int .u32 r2, .int .u32 r3, .int .u32 r4, .int .u32 r5, .int .u32 r6, .int .u32 r7, .slice p s c] 32)) hb1) t1.2.2)
    have HP := Hid.in (hr1.below t1.2.2)
    have HQ := Hid.in (hr.below HW.out)
    have HB := Hid.in (HB0.out.grow t1.2.2)
    have HT := Hid.in t1
    clear h1 hr1 hb1 t1 HB0
    go_upto_region 2 with fail
    generalize (w1.alloc (.cells #[.int .u32 r0, .int .u32 r1, .int .u32 r2, .int .u32 r3, .int .u32 r4, .int .u32 r5, .int .u32 r6, .int .u32 r7, .slice p1 (s + 1) c1] 32)).alloc (.cells (efA wy) 37) = W1 at *
    have HT1 := Hid.in HT.out.1
    have HT2 := Hid.in HT.out.2.1
    clear HT
    generalize w1.heap.size = g1 at *
    have a0 : W1.cell? ⟨w.heap.size, 0, none⟩ = some (.int .u32 r0) := HB.out.cell 0
    have a1 : W1.cell? ⟨w.heap.size, 1, none⟩ = some (.int .u32 r1) := HB.out.cell 1
    have a2 : W1.cell? ⟨w.heap.size, 2, none⟩ = some (.int .u32 r2) := HB.out.cell 2
    have a3 : W1.cell? ⟨w.heap.size, 3, none⟩ = some (.int .u32 r3) := HB.out.cell 3
    have a4 : W1.cell? ⟨w.heap.size, 4, none⟩ = some (.int .u32 r4) := HB.out.cell 4
    have a5 : W1.cell? ⟨w.heap.size, 5, none⟩ = some (.int .u32 r5) := HB.out.cell 5
    have a6 : W1.cell? ⟨w.heap.size, 6, none⟩ = some (.int .u32 r6) := HB.out.cell 6
    have a7 : W1.cell? ⟨w.heap.size, 7, none⟩ = some (.int .u32 r7) := HB.out.cell 7
    have a8 : W1.cell? ⟨w.heap.size, 8, none⟩ = some (.slice p s c) := HB.out.cell 8
    have b0 : W1.cell? ⟨g1, 0, none⟩ = some (.int .u32 r0) := HT1.out.cell 0
    have b1 : W1.cell? ⟨g1, 1, none⟩ = some (.int .u32 r1) := HT1.out.cell 1
    have b2 : W1.cell? ⟨g1, 2, none⟩ = some (.int .u32 r2) := HT1.out.cell 2
    have b3 : W1.cell? ⟨g1, 3, none⟩ = some (.int .u32 r3) := HT1.out.cell 3
    have b4 : W1.cell? ⟨g1, 4, none⟩ = some (.int .u32 r4) := HT1.out.cell 4
    have b5 : W1.cell? ⟨g1, 5, none⟩ = some (.int .u32 r5) := HT1.out.cell 5
    have b6 : W1.cell? ⟨g1, 6, none⟩ = some (.int .u32 r6) := HT1.out.cell 6
    have b7 : W1.cell? ⟨g1, 7, none⟩ = some (.int .u32 r7) := HT1.out.cell 7
    have b8 : W1.cell? ⟨g1, 8, none⟩ = some (.slice p1 (s + 1) c1) := HT1.out.cell 8
    have x0 : W1.cell? ⟨g1 + 1, 0, none⟩ = some (.int .u32 wy) := HT2.out.cell 0
    have h2 := HD2.out W1 p1 c1 HP.out
    clear HD2
    go_wp2_with (go_at_call 9; refine Hid.out ?_)
    refine Lib.hid ?_
    refine h2.mono ?_
    rintro e w2 ⟨p2, c2, rfl, hr2, -, hb2⟩
    rw [HS.out, show ∀ z, (Value.agg (effA (goE z))) = .agg (efA z) from fun _ => rfl]
    have t2 := two_blk w2 (#[.int .u32 r0, .int .u32 r1, .int .u32 r2, .int .u32 r3, .int .u32 r4, .int .u32 r5, .int .u32 r6, .int .u32 r7, .slice p2 s c2]) (efA bh)
    have hst := below_step hb2 t2.2.2
    have HW2 := Hid.in (below_step HW.out hst)
    have HP2 := Hid.in (hr2.below t2.2.2)
    have HQ2 := Hid.in (hr.below HW2.out)
    have HB2 := Hid.in (HB.out.grow hst)
    have HTa := Hid.in (HT1.out.grow hst)
    have HTb := Hid.in (HT2.out.grow hst)
    have HT := Hid.in t2
    clear h2 hr2 hb2 t2 hst a0 b0 a1 b1 a2 b2 a3 b3 a4 b4 a5 b5 a6 b6 a7 b7 a8 b8 x0 HT1 HT2 HB HP HQ HW
    go_upto_region 5 with fail
    generalize (w2.alloc (.cells #[.int .u32 r0, .int .u32 r1, .int .u32 r2, .int .u32 r3, .int .u32 r4, .int .u32 r5, .int .u32 r6, .int .u32 r7, .slice p2 s c2] 32)).alloc (.cells (efA bh) 37) = W2 at *
    have HT1 := Hid.in HT.out.1
    have HT2 := Hid.in HT.out.2.1
    clear HT
    generalize w2.heap.size = g2 at *
    have a0 : W2.cell? ⟨w.heap.size, 0, none⟩ = some (.int .u32 r0) := HB2.out.cell 0
    have a1 : W2.cell? ⟨w.heap.size, 1, none⟩ = some (.int .u32 r1) := HB2.out.cell 1
    have a2 : W2.cell? ⟨w.heap.size, 2, none⟩ = some (.int .u32 r2) := HB2.out.cell 2
    have a3 : W2.cell? ⟨w.heap.size, 3, none⟩ = some (.int .u32 r3) := HB2.out.cell 3
    have a4 : W2.cell? ⟨w.heap.size, 4, none⟩ = some (.int .u32 r4) := HB2.out.cell 4
    have a5 : W2.cell? ⟨w.heap.size, 5, none⟩ = some (.int .u32 r5) := HB2.out.cell 5
    have a6 : W2.cell? ⟨w.heap.size, 6, none⟩ = some (.int .u32 r6) := HB2.out.cell 6
    have a7 : W2.cell? ⟨w.heap.size, 7, none⟩ = some (.int .u32 r7) := HB2.out.cell 7
    have a8 : W2.cell? ⟨w.heap.size, 8, none⟩ = some (.slice p s c) := HB2.out.cell 8
    have b0 : W2.cell? ⟨g2, 0, none⟩ = some (.int .u32 r0) := HT1.out.cell 0
    have b1 : W2.cell? ⟨g2, 1, none⟩ = some (.int .u32 r1) := HT1.out.cell 1
    have b2 : W2.cell? ⟨g2, 2, none⟩ = some (.int .u32 r2) := HT1.out.cell 2
    have b3 : W2.cell? ⟨g2, 3, none⟩ = some (.int .u32 r3) := HT1.out.cell 3
    have b4 : W2.cell? ⟨g2, 4, none⟩ = some (.int .u32 r4) := HT1.out.cell 4
    have b5 : W2.cell? ⟨g2, 5, none⟩ = some (.int .u32 r5) := HT1.out.cell 5
    have b6 : W2.cell? ⟨g2, 6, none⟩ = some (.int .u32 r6) := HT1.out.cell 6
    have b7 : W2.cell? ⟨g2, 7, none⟩ = some (.int .u32 r7) := HT1.out.cell 7
    have b8 : W2.cell? ⟨g2, 8, none⟩ = some (.slice p2 s c2) := HT1.out.cell 8
    have y0 : W2.cell? ⟨g2 + 1, 0, none⟩ = some (.int .u32 bh) := HT2.out.cell 0
    have y1 : W2.cell? ⟨g2 + 1, 1, none⟩ = some (.bool false) := HT2.out.cell 1
    have y2 : W2.cell? ⟨g2 + 1, 2, none⟩ = some (.int .i64 0) := HT2.out.cell 2
    have y3 : W2.cell? ⟨g2 + 1, 3, none⟩ = some (.bool false) := HT2.out.cell 3
    have y4 : W2.cell? ⟨g2 + 1, 4, none⟩ = some (.bool false) := HT2.out.cell 4
    have y5 : W2.cell? ⟨g2 + 1, 5, none⟩ = some (.int .u32 0) := HT2.out.cell 5
    have y6 : W2.cell? ⟨g2 + 1, 6, none⟩ = some (.int .u32 0) := HT2.out.cell 6
    have x0 : W2.cell? ⟨g1 + 1, 0, none⟩ = some (.int .u32 wy) := HTb.out.cell 0
    have x2 : W2.cell? ⟨g1 + 1, 2, none⟩ = some (.int .i64 0) := HTb.out.cell 2
    have x8 : W2.cell? ⟨g1, 8, none⟩ = some (.slice p1 (s + 1) c1) := HTa.out.cell 8
    have h17 := hE W2 p2 c2 HP2.out HQ2.out
    clear hE
    go_wp2_with (go_at_call 17; refine Hid.out ?_)
    refine Lib.hid ?_
    with_reducible refine h17.mono ?_
    rintro e W3 ⟨rfl, hb3⟩
    go_wp2_with (go_at_call 16; refine Hid.out ?_)
    refine Lib.hid ?_
    refine (haw _).mono ?_
    rintro e W4 ⟨rfl, hb4⟩
    go_wp2_with fail
    go_ret
    exact ⟨rfl, below_step (below_step HW2.out hb3) hb4⟩

end Go.Proofs.Ytdbpeigcnhhpmaa
