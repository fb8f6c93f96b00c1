/- ExecQuiet: the law's walk. -/
import Derived.Test.YtdbpeigcnhhpmaaDoT
namespace Go.Proofs.Ytdbpeigcnhhpmaa
open Go.RowKit

theorem qu_five (pc bh : Int) (R S : List Int) (h : bh = (pc + 5) % 4294967296) : doL 3 0 0 0 pc R S [] = (R, S, goE bh) := by
  have hf : fltL 3 (0 : Nat) (0 : Nat) 0 S.length ([] : List Int).length = 0 := rfl
  subst h
  simp only [doL, hf]
  rfl
theorem qu_one (pc bh : Int) (R S : List Int) (h : bh = (pc + 1) % 4294967296) : doL 2 0 0 0 pc R S [] = (R, S, goE bh) := by
  have hf : fltL 2 (0 : Nat) (0 : Nat) 0 S.length ([] : List Int).length = 0 := rfl
  subst h
  simp only [doL, hf]
  rfl
theorem qu_jmp (way pc wy : Int) (R S : List Int) (h : wy = ((pc + 5) % 4294967296 + way % 4294967296) % 4294967296) : doL 11 0 0 way pc R S [] = (R, S, goE wy) := by
  have hR : rightB 11 0 0 way = true := by simp [rightB, regB, rg, kd, numB]
  have hf : fltL 11 (0 : Nat) (0 : Nat) way S.length ([] : List Int).length = 0 := by simp [fltL, hR]
  subst h
  simp only [doL, hf]
  rfl
theorem qu_add (i j : Nat) (pc : Int) (R S : List Int) (hi : i < 8) (hj : j < 8) : doL 7 i j 0 pc R S [] = (R.set i ((R.getD i 0 + R.getD j 0) % 4294967296), S, goE (behL 7 pc)) := by
  have hR : rightB 7 i j 0 = true := by simp [rightB, regB, rg, kd, numB]; omega
  have hf : fltL 7 i j 0 S.length ([] : List Int).length = 0 := by simp [fltL, hR]
  simp only [doL, hf]
  rfl
theorem qu_sub (i j : Nat) (pc : Int) (R S : List Int) (lR : R.length = 8) (hR : Wds R) (hi : i < 8) (hj : j < 8) (hne : i ≠ j) : doL 8 i j 0 pc (R.set i ((R.getD i 0 + R.getD j 0) % 4294967296)) S [] = (R, S, goE (behL 8 pc)) := by
  have hq : rightB 8 i j 0 = true := by simp [rightB, regB, rg, kd, numB]; omega
  have hf : fltL 8 i j 0 S.length ([] : List Int).length = 0 := by simp [fltL, hq]
  have bi := wds_getD hR i
  have e1 : (R.set i ((R.getD i 0 + R.getD j 0) % 4294967296)).getD i 0 = (R.getD i 0 + R.getD j 0) % 4294967296 := by simp [List.getD, lR, hi]
  have e2 : (R.set i ((R.getD i 0 + R.getD j 0) % 4294967296)).getD j 0 = R.getD j 0 := by simp [List.getD, List.getElem?_set_ne hne]
  have e3 : ((R.getD i 0 + R.getD j 0) % 4294967296 - R.getD j 0) % 4294967296 = R.getD i 0 := by omega
  have e4 : R.set i (R.getD i 0) = R := by
    apply List.ext_getElem (by simp)
    intro k h1 h2
    by_cases hk : i = k
    · subst hk; simp [List.getD, h2]
    · simp [List.getElem_set_ne hk]
  simp only [doL, hf]
  show (doR 8 i j 0 (R.set i ((R.getD i 0 + R.getD j 0) % 4294967296)) [], S, goE (behL 8 pc)) = _
  simp only [doR]
  rw [if_neg (by decide), if_neg (by decide), if_neg (by decide), if_pos trivial, e1, e2, e3, List.set_set, e4]

set_option maxHeartbeats 8000000 in
set_option maxRecDepth 8000 in
theorem quiet_walk (hdo : DoIs 9) (pc way : Int) (R S : List Int) (p : Option Addr) (s c : Nat) (w : World) (hpc : 0 ≤ pc ∧ pc ≤ 4294967295) (hn : -2147483648 ≤ way ∧ way ≤ 2147483647) (lR : R.length = 8) (hR : Wds R) (hS : S.length = s) (hs : s * 4 ≤ 140737488351232) (hr : PRow w p S)
    (haw : ∀ W, Calls Try.prog 16 #[] W fun e w' => e = .returned (.bool true) ∧ Below W.heap.size W w') :
    Calls Try.prog 6 #[.int .u32 pc, .int .i32 way, rgV R (.slice p s c)] w fun e w' => e = .returned (.bool true) ∧ Below w.heap.size w w' := by
  have hE := fun W (pv : Option Addr) (cv : Nat) (hv : PRow W pv S) (h1 : PRow W p S) => execSame_any R R pv p s cv s c S S W lR lR hR hR hS hS (by omega) hv h1
  simp only [sameB_self, Bool.and_self] at hE
  have HS := Hid.in hS
  obtain ⟨b5, hb5⟩ : ∃ x, x = (pc + 5) % 4294967296 := ⟨_, rfl⟩
  obtain ⟨b1, hb1⟩ : ∃ x, x = (pc + 1) % 4294967296 := ⟨_, rfl⟩
  obtain ⟨wy, hwy⟩ : ∃ x, x = ((pc + 5) % 4294967296 + way % 4294967296) % 4294967296 := ⟨_, rfl⟩
  have hwy2 : wy = ((pc + way) % 4294967296 + 5) % 4294967296 := by rw [hwy]; omega
  have e5 : (b5 == (pc + 5) % 4294967296) = true := by rw [hb5]; simp
  have e1 : (b1 == (pc + 1) % 4294967296) = true := by rw [hb1]; simp
  have q1 := fun W (h : PRow W p S) => do_at hdo 3 0 0 0 pc R S [] R S _ p none s c 0 0 W (qu_five pc b5 R S hb5) (by decide) (by decide) (by decide) hpc (by decide) lR hS (by omega) rfl (by decide) h (row_nil _ _) byt_nil
  have q2 := fun W (h : PRow W p S) => do_at hdo 2 0 0 0 pc R S [] R S _ p none s c 0 0 W (qu_one pc b1 R S hb1) (by decide) (by decide) (by decide) hpc (by decide) lR hS (by omega) rfl (by decide) h (row_nil _ _) byt_nil
  have q3 := fun W (h : PRow W p S) => do_at hdo 11 0 0 way pc R S [] R S _ p none s c 0 0 W (qu_jmp way pc wy R S hwy) (by decide) (by decide) (by decide) hpc hn lR hS (by omega) rfl (by decide) h (row_nil _ _) byt_nil
  have q4 := fun W (h : PRow W p S) => do_at hdo 3 0 0 0 ((pc + way) % 4294967296) R S [] R S _ p none s c 0 0 W (qu_five ((pc + way) % 4294967296) wy R S hwy2) (by decide) (by decide) (by decide) (by omega) (by decide) lR hS (by omega) rfl (by decide) h (row_nil _ _) byt_nil
  obtain ⟨ia, hia⟩ : ∃ ia : Nat, pc % 8 = ia := ⟨(pc % 8).toNat, by omega⟩
  obtain ⟨ja, hja⟩ : ∃ ja : Nat, pc / 8 % 8 = ja := ⟨(pc / 8 % 8).toNat, by omega⟩
  have hi8 : ia < 8 := by omega
  have hj8 : ja < 8 := by omega
  have q5 := fun W (h : PRow W p S) => do_at hdo 7 ia ja 0 pc R S [] _ S _ p none s c 0 0 W (qu_add ia ja pc R S hi8 hj8) (by decide) (by omega) (by omega) hpc (by decide) lR hS (by omega) rfl (by decide) h (row_nil _ _) byt_nil
  have q6 := fun (hne : ia ≠ ja) W pv cv (h : PRow W pv S) => do_at hdo 8 ia ja 0 pc (R.set ia ((R.getD ia 0 + R.getD ja 0) % 4294967296)) S [] R S _ pv none s cv 0 0 W (qu_sub ia ja pc R S lR hR hi8 hj8 hne) (by decide) (by omega) (by omega) hpc (by decide) (by rw [List.length_set]; exact lR) hS (by omega) rfl (by decide) h (row_nil _ _) byt_nil
  obtain ⟨t0, t1, t2, t3, t4, t5, t6, t7, hT⟩ := eight (R := R.set ia ((R.getD ia 0 + R.getD ja 0) % 4294967296)) (by rw [List.length_set]; exact lR)
  rw [hT] at q5 q6
  obtain ⟨r0, r1, r2, r3, r4, r5, r6, r7, rfl⟩ := eight lR
  simp only [rgV_eight] at q1 q2 q3 q4 q5 q6 hE ⊢
  generalize behL 7 pc = f7 at *
  generalize behL 8 pc = f8 at *
  clear hR lR hb5 hb1 hwy hwy2 hT hdo
  go_enter Try.func6, Try.ntmps6
  have BQ := Hid.in (Blk.new w 32 #[.int .u32 r0, .int .u32 r1, .int .u32 r2, .int .u32 r3, .int .u32 r4, .int .u32 r5, .int .u32 r6, .int .u32 r7, .slice p s c])
  have HW := Hid.in (new_alloc w (.cells #[.int .u32 r0, .int .u32 r1, .int .u32 r2, .int .u32 r3, .int .u32 r4, .int .u32 r5, .int .u32 r6, .int .u32 r7, .slice p s c] 32))
  have HQ := Hid.in (hr.below HW.out)
  go_wp2_with (go_at_call 9; refine Hid.out ?_)
  refine Lib.hid ?_
  generalize w.alloc (.cells #[.int .u32 r0, .int .u32 r1, .int .u32 r2, .int .u32 r3, .int .u32 r4, .int .u32 r5, .int .u32 r6, .int .u32 r7, .slice p s c] 32) = W0 at *
  refine (q1 _ HQ.out).mono ?_
  rintro e w1 ⟨p1, c1, rfl, hr1, -, hb1⟩
  rw [HS.out, show ∀ z, (Value.agg (effA (goE z))) = .agg #[.int .u32 z, .bool false, .int .i64 0, .bool false, .bool false, .int .u32 0, .int .u32 0] from fun _ => rfl]
  have t1_ := two_blk w1 #[.int .u32 r0, .int .u32 r1, .int .u32 r2, .int .u32 r3, .int .u32 r4, .int .u32 r5, .int .u32 r6, .int .u32 r7, .slice p1 s c1] #[.int .u32 b5, .bool false, .int .i64 0, .bool false, .bool false, .int .u32 0, .int .u32 0]
  have hst := below_step hb1 t1_.2.2
  have HWn := Hid.in (below_step HW.out hst)
  have HQn := Hid.in (HQ.out.below hst)
  have HP1 := Hid.in (hr1.below t1_.2.2)
  have BQ' := Hid.in (BQ.out.grow hst)
  have HT := Hid.in t1_
  clear hr1 hb1 t1_ hst BQ HW HQ  
  have BQ := BQ'
  have HW := HWn
  have HQ := HQn
  clear HWn HQn BQ' 
  have a0 : ((w1.alloc (.cells #[.int .u32 r0, .int .u32 r1, .int .u32 r2, .int .u32 r3, .int .u32 r4, .int .u32 r5, .int .u32 r6, .int .u32 r7, .slice p1 s c1] 32)).alloc (.cells #[.int .u32 b5, .bool false, .int .i64 0, .bool false, .bool false, .int .u32 0, .int .u32 0] 37)).cell? ⟨w.heap.size, 0, none⟩ = some (.int .u32 r0) := BQ.out.cell 0
  have a1 : ((w1.alloc (.cells #[.int .u32 r0, .int .u32 r1, .int .u32 r2, .int .u32 r3, .int .u32 r4, .int .u32 r5, .int .u32 r6, .int .u32 r7, .slice p1 s c1] 32)).alloc (.cells #[.int .u32 b5, .bool false, .int .i64 0, .bool false, .bool false, .int .u32 0, .int .u32 0] 37)).cell? ⟨w.heap.size, 1, none⟩ = some (.int .u32 r1) := BQ.out.cell 1
  have a2 : ((w1.alloc (.cells #[.int .u32 r0, .int .u32 r1, .int .u32 r2, .int .u32 r3, .int .u32 r4, .int .u32 r5, .int .u32 r6, .int .u32 r7, .slice p1 s c1] 32)).alloc (.cells #[.int .u32 b5, .bool false, .int .i64 0, .bool false, .bool false, .int .u32 0, .int .u32 0] 37)).cell? ⟨w.heap.size, 2, none⟩ = some (.int .u32 r2) := BQ.out.cell 2
  have a3 : ((w1.alloc (.cells #[.int .u32 r0, .int .u32 r1, .int .u32 r2, .int .u32 r3, .int .u32 r4, .int .u32 r5, .int .u32 r6, .int .u32 r7, .slice p1 s c1] 32)).alloc (.cells #[.int .u32 b5, .bool false, .int .i64 0, .bool false, .bool false, .int .u32 0, .int .u32 0] 37)).cell? ⟨w.heap.size, 3, none⟩ = some (.int .u32 r3) := BQ.out.cell 3
  have a4 : ((w1.alloc (.cells #[.int .u32 r0, .int .u32 r1, .int .u32 r2, .int .u32 r3, .int .u32 r4, .int .u32 r5, .int .u32 r6, .int .u32 r7, .slice p1 s c1] 32)).alloc (.cells #[.int .u32 b5, .bool false, .int .i64 0, .bool false, .bool false, .int .u32 0, .int .u32 0] 37)).cell? ⟨w.heap.size, 4, none⟩ = some (.int .u32 r4) := BQ.out.cell 4
  have a5 : ((w1.alloc (.cells #[.int .u32 r0, .int .u32 r1, .int .u32 r2, .int .u32 r3, .int .u32 r4, .int .u32 r5, .int .u32 r6, .int .u32 r7, .slice p1 s c1] 32)).alloc (.cells #[.int .u32 b5, .bool false, .int .i64 0, .bool false, .bool false, .int .u32 0, .int .u32 0] 37)).cell? ⟨w.heap.size, 5, none⟩ = some (.int .u32 r5) := BQ.out.cell 5
  have a6 : ((w1.alloc (.cells #[.int .u32 r0, .int .u32 r1, .int .u32 r2, .int .u32 r3, .int .u32 r4, .int .u32 r5, .int .u32 r6, .int .u32 r7, .slice p1 s c1] 32)).alloc (.cells #[.int .u32 b5, .bool false, .int .i64 0, .bool false, .bool false, .int .u32 0, .int .u32 0] 37)).cell? ⟨w.heap.size, 6, none⟩ = some (.int .u32 r6) := BQ.out.cell 6
  have a7 : ((w1.alloc (.cells #[.int .u32 r0, .int .u32 r1, .int .u32 r2, .int .u32 r3, .int .u32 r4, .int .u32 r5, .int .u32 r6, .int .u32 r7, .slice p1 s c1] 32)).alloc (.cells #[.int .u32 b5, .bool false, .int .i64 0, .bool false, .bool false, .int .u32 0, .int .u32 0] 37)).cell? ⟨w.heap.size, 7, none⟩ = some (.int .u32 r7) := BQ.out.cell 7
  have a8 : ((w1.alloc (.cells #[.int .u32 r0, .int .u32 r1, .int .u32 r2, .int .u32 r3, .int .u32 r4, .int .u32 r5, .int .u32 r6, .int .u32 r7, .slice p1 s c1] 32)).alloc (.cells #[.int .u32 b5, .bool false, .int .i64 0, .bool false, .bool false, .int .u32 0, .int .u32 0] 37)).cell? ⟨w.heap.size, 8, none⟩ = some (.slice p s c) := BQ.out.cell 8
  go_wp2_with (go_at_call 9; refine Hid.out ?_)
  refine Lib.hid ?_
  generalize (w1.alloc (.cells #[.int .u32 r0, .int .u32 r1, .int .u32 r2, .int .u32 r3, .int .u32 r4, .int .u32 r5, .int .u32 r6, .int .u32 r7, .slice p1 s c1] 32)).alloc (.cells #[.int .u32 b5, .bool false, .int .i64 0, .bool false, .bool false, .int .u32 0, .int .u32 0] 37) = W1 at *
  have BR1 := Hid.in HT.out.1
  have BX1 := Hid.in HT.out.2.1
  clear HT
  generalize w1.heap.size = g1 at *
  clear a0 a1 a2 a3 a4 a5 a6 a7 a8
  refine (q2 _ HQ.out).mono ?_
  rintro e w2 ⟨p2, c2, rfl, hr2, -, hb2⟩
  rw [HS.out, show ∀ z, (Value.agg (effA (goE z))) = .agg #[.int .u32 z, .bool false, .int .i64 0, .bool false, .bool false, .int .u32 0, .int .u32 0] from fun _ => rfl]
  have t2_ := two_blk w2 #[.int .u32 r0, .int .u32 r1, .int .u32 r2, .int .u32 r3, .int .u32 r4, .int .u32 r5, .int .u32 r6, .int .u32 r7, .slice p2 s c2] #[.int .u32 b1, .bool false, .int .i64 0, .bool false, .bool false, .int .u32 0, .int .u32 0]
  have hst := below_step hb2 t2_.2.2
  have HWn := Hid.in (below_step HW.out hst)
  have HQn := Hid.in (HQ.out.below hst)
  have HP2 := Hid.in (hr2.below t2_.2.2)
  have BQ' := Hid.in (BQ.out.grow hst)
  have BR1' := Hid.in (BR1.out.grow hst)
  have BX1' := Hid.in (BX1.out.grow hst)
  have HP1' := Hid.in (HP1.out.below hst)
  have HT := Hid.in t2_
  clear hr2 hb2 t2_ hst BQ BR1 BX1 HW HQ HP1 
  have BQ := BQ'
  have BR1 := BR1'
  have BX1 := BX1'
  have HP1 := HP1'
  have HW := HWn
  have HQ := HQn
  clear HWn HQn BQ' BR1' BX1' HP1'
  have a0 : ((w2.alloc (.cells #[.int .u32 r0, .int .u32 r1, .int .u32 r2, .int .u32 r3, .int .u32 r4, .int .u32 r5, .int .u32 r6, .int .u32 r7, .slice p2 s c2] 32)).alloc (.cells #[.int .u32 b1, .bool false, .int .i64 0, .bool false, .bool false, .int .u32 0, .int .u32 0] 37)).cell? ⟨w.heap.size, 0, none⟩ = some (.int .u32 r0) := BQ.out.cell 0
  have a1 : ((w2.alloc (.cells #[.int .u32 r0, .int .u32 r1, .int .u32 r2, .int .u32 r3, .int .u32 r4, .int .u32 r5, .int .u32 r6, .int .u32 r7, .slice p2 s c2] 32)).alloc (.cells #[.int .u32 b1, .bool false, .int .i64 0, .bool false, .bool false, .int .u32 0, .int .u32 0] 37)).cell? ⟨w.heap.size, 1, none⟩ = some (.int .u32 r1) := BQ.out.cell 1
  have a2 : ((w2.alloc (.cells #[.int .u32 r0, .int .u32 r1, .int .u32 r2, .int .u32 r3, .int .u32 r4, .int .u32 r5, .int .u32 r6, .int .u32 r7, .slice p2 s c2] 32)).alloc (.cells #[.int .u32 b1, .bool false, .int .i64 0, .bool false, .bool false, .int .u32 0, .int .u32 0] 37)).cell? ⟨w.heap.size, 2, none⟩ = some (.int .u32 r2) := BQ.out.cell 2
  have a3 : ((w2.alloc (.cells #[.int .u32 r0, .int .u32 r1, .int .u32 r2, .int .u32 r3, .int .u32 r4, .int .u32 r5, .int .u32 r6, .int .u32 r7, .slice p2 s c2] 32)).alloc (.cells #[.int .u32 b1, .bool false, .int .i64 0, .bool false, .bool false, .int .u32 0, .int .u32 0] 37)).cell? ⟨w.heap.size, 3, none⟩ = some (.int .u32 r3) := BQ.out.cell 3
  have a4 : ((w2.alloc (.cells #[.int .u32 r0, .int .u32 r1, .int .u32 r2, .int .u32 r3, .int .u32 r4, .int .u32 r5, .int .u32 r6, .int .u32 r7, .slice p2 s c2] 32)).alloc (.cells #[.int .u32 b1, .bool false, .int .i64 0, .bool false, .bool false, .int .u32 0, .int .u32 0] 37)).cell? ⟨w.heap.size, 4, none⟩ = some (.int .u32 r4) := BQ.out.cell 4
  have a5 : ((w2.alloc (.cells #[.int .u32 r0, .int .u32 r1, .int .u32 r2, .int .u32 r3, .int .u32 r4, .int .u32 r5, .int .u32 r6, .int .u32 r7, .slice p2 s c2] 32)).alloc (.cells #[.int .u32 b1, .bool false, .int .i64 0, .bool false, .bool false, .int .u32 0, .int .u32 0] 37)).cell? ⟨w.heap.size, 5, none⟩ = some (.int .u32 r5) := BQ.out.cell 5
  have a6 : ((w2.alloc (.cells #[.int .u32 r0, .int .u32 r1, .int .u32 r2, .int .u32 r3, .int .u32 r4, .int .u32 r5, .int .u32 r6, .int .u32 r7, .slice p2 s c2] 32)).alloc (.cells #[.int .u32 b1, .bool false, .int .i64 0, .bool false, .bool false, .int .u32 0, .int .u32 0] 37)).cell? ⟨w.heap.size, 6, none⟩ = some (.int .u32 r6) := BQ.out.cell 6
  have a7 : ((w2.alloc (.cells #[.int .u32 r0, .int .u32 r1, .int .u32 r2, .int .u32 r3, .int .u32 r4, .int .u32 r5, .int .u32 r6, .int .u32 r7, .slice p2 s c2] 32)).alloc (.cells #[.int .u32 b1, .bool false, .int .i64 0, .bool false, .bool false, .int .u32 0, .int .u32 0] 37)).cell? ⟨w.heap.size, 7, none⟩ = some (.int .u32 r7) := BQ.out.cell 7
  have a8 : ((w2.alloc (.cells #[.int .u32 r0, .int .u32 r1, .int .u32 r2, .int .u32 r3, .int .u32 r4, .int .u32 r5, .int .u32 r6, .int .u32 r7, .slice p2 s c2] 32)).alloc (.cells #[.int .u32 b1, .bool false, .int .i64 0, .bool false, .bool false, .int .u32 0, .int .u32 0] 37)).cell? ⟨w.heap.size, 8, none⟩ = some (.slice p s c) := BQ.out.cell 8
  go_wp2_with (go_at_call 9; refine Hid.out ?_)
  refine Lib.hid ?_
  generalize (w2.alloc (.cells #[.int .u32 r0, .int .u32 r1, .int .u32 r2, .int .u32 r3, .int .u32 r4, .int .u32 r5, .int .u32 r6, .int .u32 r7, .slice p2 s c2] 32)).alloc (.cells #[.int .u32 b1, .bool false, .int .i64 0, .bool false, .bool false, .int .u32 0, .int .u32 0] 37) = W2 at *
  have BR2 := Hid.in HT.out.1
  have BX2 := Hid.in HT.out.2.1
  clear HT
  generalize w2.heap.size = g2 at *
  clear a0 a1 a2 a3 a4 a5 a6 a7 a8
  refine (q3 _ HQ.out).mono ?_
  rintro e w3 ⟨p3, c3, rfl, hr3, -, hb3⟩
  rw [HS.out, show ∀ z, (Value.agg (effA (goE z))) = .agg #[.int .u32 z, .bool false, .int .i64 0, .bool false, .bool false, .int .u32 0, .int .u32 0] from fun _ => rfl]
  have t3_ := two_blk w3 #[.int .u32 r0, .int .u32 r1, .int .u32 r2, .int .u32 r3, .int .u32 r4, .int .u32 r5, .int .u32 r6, .int .u32 r7, .slice p3 s c3] #[.int .u32 wy, .bool false, .int .i64 0, .bool false, .bool false, .int .u32 0, .int .u32 0]
  have hst := below_step hb3 t3_.2.2
  have HWn := Hid.in (below_step HW.out hst)
  have HQn := Hid.in (HQ.out.below hst)
  have HP3 := Hid.in (hr3.below t3_.2.2)
  have BQ' := Hid.in (BQ.out.grow hst)
  have BR1' := Hid.in (BR1.out.grow hst)
  have BX1' := Hid.in (BX1.out.grow hst)
  have BR2' := Hid.in (BR2.out.grow hst)
  have BX2' := Hid.in (BX2.out.grow hst)
  have HP1' := Hid.in (HP1.out.below hst)
  have HP2' := Hid.in (HP2.out.below hst)
  have HT := Hid.in t3_
  clear hr3 hb3 t3_ hst BQ BR1 BX1 BR2 BX2 HW HQ HP1 HP2 
  have BQ := BQ'
  have BR1 := BR1'
  have BX1 := BX1'
  have BR2 := BR2'
  have BX2 := BX2'
  have HP1 := HP1'
  have HP2 := HP2'
  have HW := HWn
  have HQ := HQn
  clear HWn HQn BQ' BR1' BX1' BR2' BX2' HP1' HP2'
  have a0 : ((w3.alloc (.cells #[.int .u32 r0, .int .u32 r1, .int .u32 r2, .int .u32 r3, .int .u32 r4, .int .u32 r5, .int .u32 r6, .int .u32 r7, .slice p3 s c3] 32)).alloc (.cells #[.int .u32 wy, .bool false, .int .i64 0, .bool false, .bool false, .int .u32 0, .int .u32 0] 37)).cell? ⟨w.heap.size, 0, none⟩ = some (.int .u32 r0) := BQ.out.cell 0
  have a1 : ((w3.alloc (.cells #[.int .u32 r0, .int .u32 r1, .int .u32 r2, .int .u32 r3, .int .u32 r4, .int .u32 r5, .int .u32 r6, .int .u32 r7, .slice p3 s c3] 32)).alloc (.cells #[.int .u32 wy, .bool false, .int .i64 0, .bool false, .bool false, .int .u32 0, .int .u32 0] 37)).cell? ⟨w.heap.size, 1, none⟩ = some (.int .u32 r1) := BQ.out.cell 1
  have a2 : ((w3.alloc (.cells #[.int .u32 r0, .int .u32 r1, .int .u32 r2, .int .u32 r3, .int .u32 r4, .int .u32 r5, .int .u32 r6, .int .u32 r7, .slice p3 s c3] 32)).alloc (.cells #[.int .u32 wy, .bool false, .int .i64 0, .bool false, .bool false, .int .u32 0, .int .u32 0] 37)).cell? ⟨w.heap.size, 2, none⟩ = some (.int .u32 r2) := BQ.out.cell 2
  have a3 : ((w3.alloc (.cells #[.int .u32 r0, .int .u32 r1, .int .u32 r2, .int .u32 r3, .int .u32 r4, .int .u32 r5, .int .u32 r6, .int .u32 r7, .slice p3 s c3] 32)).alloc (.cells #[.int .u32 wy, .bool false, .int .i64 0, .bool false, .bool false, .int .u32 0, .int .u32 0] 37)).cell? ⟨w.heap.size, 3, none⟩ = some (.int .u32 r3) := BQ.out.cell 3
  have a4 : ((w3.alloc (.cells #[.int .u32 r0, .int .u32 r1, .int .u32 r2, .int .u32 r3, .int .u32 r4, .int .u32 r5, .int .u32 r6, .int .u32 r7, .slice p3 s c3] 32)).alloc (.cells #[.int .u32 wy, .bool false, .int .i64 0, .bool false, .bool false, .int .u32 0, .int .u32 0] 37)).cell? ⟨w.heap.size, 4, none⟩ = some (.int .u32 r4) := BQ.out.cell 4
  have a5 : ((w3.alloc (.cells #[.int .u32 r0, .int .u32 r1, .int .u32 r2, .int .u32 r3, .int .u32 r4, .int .u32 r5, .int .u32 r6, .int .u32 r7, .slice p3 s c3] 32)).alloc (.cells #[.int .u32 wy, .bool false, .int .i64 0, .bool false, .bool false, .int .u32 0, .int .u32 0] 37)).cell? ⟨w.heap.size, 5, none⟩ = some (.int .u32 r5) := BQ.out.cell 5
  have a6 : ((w3.alloc (.cells #[.int .u32 r0, .int .u32 r1, .int .u32 r2, .int .u32 r3, .int .u32 r4, .int .u32 r5, .int .u32 r6, .int .u32 r7, .slice p3 s c3] 32)).alloc (.cells #[.int .u32 wy, .bool false, .int .i64 0, .bool false, .bool false, .int .u32 0, .int .u32 0] 37)).cell? ⟨w.heap.size, 6, none⟩ = some (.int .u32 r6) := BQ.out.cell 6
  have a7 : ((w3.alloc (.cells #[.int .u32 r0, .int .u32 r1, .int .u32 r2, .int .u32 r3, .int .u32 r4, .int .u32 r5, .int .u32 r6, .int .u32 r7, .slice p3 s c3] 32)).alloc (.cells #[.int .u32 wy, .bool false, .int .i64 0, .bool false, .bool false, .int .u32 0, .int .u32 0] 37)).cell? ⟨w.heap.size, 7, none⟩ = some (.int .u32 r7) := BQ.out.cell 7
  have a8 : ((w3.alloc (.cells #[.int .u32 r0, .int .u32 r1, .int .u32 r2, .int .u32 r3, .int .u32 r4, .int .u32 r5, .int .u32 r6, .int .u32 r7, .slice p3 s c3] 32)).alloc (.cells #[.int .u32 wy, .bool false, .int .i64 0, .bool false, .bool false, .int .u32 0, .int .u32 0] 37)).cell? ⟨w.heap.size, 8, none⟩ = some (.slice p s c) := BQ.out.cell 8
  go_wp2_with (go_at_call 9; refine Hid.out ?_)
  refine Lib.hid ?_
  generalize (w3.alloc (.cells #[.int .u32 r0, .int .u32 r1, .int .u32 r2, .int .u32 r3, .int .u32 r4, .int .u32 r5, .int .u32 r6, .int .u32 r7, .slice p3 s c3] 32)).alloc (.cells #[.int .u32 wy, .bool false, .int .i64 0, .bool false, .bool false, .int .u32 0, .int .u32 0] 37) = W3 at *
  have BR3 := Hid.in HT.out.1
  have BX3 := Hid.in HT.out.2.1
  clear HT
  generalize w3.heap.size = g3 at *
  clear a0 a1 a2 a3 a4 a5 a6 a7 a8
  refine (q4 _ HQ.out).mono ?_
  rintro e w4 ⟨p4, c4, rfl, hr4, -, hb4⟩
  rw [HS.out, show ∀ z, (Value.agg (effA (goE z))) = .agg #[.int .u32 z, .bool false, .int .i64 0, .bool false, .bool false, .int .u32 0, .int .u32 0] from fun _ => rfl]
  have t4_ := two_blk w4 #[.int .u32 r0, .int .u32 r1, .int .u32 r2, .int .u32 r3, .int .u32 r4, .int .u32 r5, .int .u32 r6, .int .u32 r7, .slice p4 s c4] #[.int .u32 wy, .bool false, .int .i64 0, .bool false, .bool false, .int .u32 0, .int .u32 0]
  have hst := below_step hb4 t4_.2.2
  have HWn := Hid.in (below_step HW.out hst)
  have HQn := Hid.in (HQ.out.below hst)
  have HP4 := Hid.in (hr4.below t4_.2.2)
  have BQ' := Hid.in (BQ.out.grow hst)
  have BR1' := Hid.in (BR1.out.grow hst)
  have BX1' := Hid.in (BX1.out.grow hst)
  have BR2' := Hid.in (BR2.out.grow hst)
  have BX2' := Hid.in (BX2.out.grow hst)
  have BR3' := Hid.in (BR3.out.grow hst)
  have BX3' := Hid.in (BX3.out.grow hst)
  have HP1' := Hid.in (HP1.out.below hst)
  have HP2' := Hid.in (HP2.out.below hst)
  have HP3' := Hid.in (HP3.out.below hst)
  have HT := Hid.in t4_
  clear hr4 hb4 t4_ hst BQ BR1 BX1 BR2 BX2 BR3 BX3 HW HQ HP1 HP2 HP3 
  have BQ := BQ'
  have BR1 := BR1'
  have BX1 := BX1'
  have BR2 := BR2'
  have BX2 := BX2'
  have BR3 := BR3'
  have BX3 := BX3'
  have HP1 := HP1'
  have HP2 := HP2'
  have HP3 := HP3'
  have HW := HWn
  have HQ := HQn
  clear HWn HQn BQ' BR1' BX1' BR2' BX2' BR3' BX3' HP1' HP2' HP3'
  go_upto_region 5 with fail
  generalize (w4.alloc (.cells #[.int .u32 r0, .int .u32 r1, .int .u32 r2, .int .u32 r3, .int .u32 r4, .int .u32 r5, .int .u32 r6, .int .u32 r7, .slice p4 s c4] 32)).alloc (.cells #[.int .u32 wy, .bool false, .int .i64 0, .bool false, .bool false, .int .u32 0, .int .u32 0] 37) = W4 at *
  have BR4 := Hid.in HT.out.1
  have BX4 := Hid.in HT.out.2.1
  clear HT
  generalize w4.heap.size = g4 at *
  clear q1 q2 q3 q4
  have cBQ0 : W4.cell? ⟨w.heap.size, 0, none⟩ = some (.int .u32 r0) := BQ.out.cell 0
  have cBQ1 : W4.cell? ⟨w.heap.size, 1, none⟩ = some (.int .u32 r1) := BQ.out.cell 1
  have cBQ2 : W4.cell? ⟨w.heap.size, 2, none⟩ = some (.int .u32 r2) := BQ.out.cell 2
  have cBQ3 : W4.cell? ⟨w.heap.size, 3, none⟩ = some (.int .u32 r3) := BQ.out.cell 3
  have cBQ4 : W4.cell? ⟨w.heap.size, 4, none⟩ = some (.int .u32 r4) := BQ.out.cell 4
  have cBQ5 : W4.cell? ⟨w.heap.size, 5, none⟩ = some (.int .u32 r5) := BQ.out.cell 5
  have cBQ6 : W4.cell? ⟨w.heap.size, 6, none⟩ = some (.int .u32 r6) := BQ.out.cell 6
  have cBQ7 : W4.cell? ⟨w.heap.size, 7, none⟩ = some (.int .u32 r7) := BQ.out.cell 7
  have cBQ8 : W4.cell? ⟨w.heap.size, 8, none⟩ = some (.slice p s c) := BQ.out.cell 8
  have cBR10 : W4.cell? ⟨g1, 0, none⟩ = some (.int .u32 r0) := BR1.out.cell 0
  have cBR11 : W4.cell? ⟨g1, 1, none⟩ = some (.int .u32 r1) := BR1.out.cell 1
  have cBR12 : W4.cell? ⟨g1, 2, none⟩ = some (.int .u32 r2) := BR1.out.cell 2
  have cBR13 : W4.cell? ⟨g1, 3, none⟩ = some (.int .u32 r3) := BR1.out.cell 3
  have cBR14 : W4.cell? ⟨g1, 4, none⟩ = some (.int .u32 r4) := BR1.out.cell 4
  have cBR15 : W4.cell? ⟨g1, 5, none⟩ = some (.int .u32 r5) := BR1.out.cell 5
  have cBR16 : W4.cell? ⟨g1, 6, none⟩ = some (.int .u32 r6) := BR1.out.cell 6
  have cBR17 : W4.cell? ⟨g1, 7, none⟩ = some (.int .u32 r7) := BR1.out.cell 7
  have cBR18 : W4.cell? ⟨g1, 8, none⟩ = some (.slice p1 s c1) := BR1.out.cell 8
  have cBX10 : W4.cell? ⟨g1 + 1, 0, none⟩ = some (.int .u32 b5) := BX1.out.cell 0
  have cBX11 : W4.cell? ⟨g1 + 1, 1, none⟩ = some (.bool false) := BX1.out.cell 1
  have cBX12 : W4.cell? ⟨g1 + 1, 2, none⟩ = some (.int .i64 0) := BX1.out.cell 2
  have cBX13 : W4.cell? ⟨g1 + 1, 3, none⟩ = some (.bool false) := BX1.out.cell 3
  have cBX14 : W4.cell? ⟨g1 + 1, 4, none⟩ = some (.bool false) := BX1.out.cell 4
  have cBX15 : W4.cell? ⟨g1 + 1, 5, none⟩ = some (.int .u32 0) := BX1.out.cell 5
  have cBX16 : W4.cell? ⟨g1 + 1, 6, none⟩ = some (.int .u32 0) := BX1.out.cell 6
  have cBR20 : W4.cell? ⟨g2, 0, none⟩ = some (.int .u32 r0) := BR2.out.cell 0
  have cBR21 : W4.cell? ⟨g2, 1, none⟩ = some (.int .u32 r1) := BR2.out.cell 1
  have cBR22 : W4.cell? ⟨g2, 2, none⟩ = some (.int .u32 r2) := BR2.out.cell 2
  have cBR23 : W4.cell? ⟨g2, 3, none⟩ = some (.int .u32 r3) := BR2.out.cell 3
  have cBR24 : W4.cell? ⟨g2, 4, none⟩ = some (.int .u32 r4) := BR2.out.cell 4
  have cBR25 : W4.cell? ⟨g2, 5, none⟩ = some (.int .u32 r5) := BR2.out.cell 5
  have cBR26 : W4.cell? ⟨g2, 6, none⟩ = some (.int .u32 r6) := BR2.out.cell 6
  have cBR27 : W4.cell? ⟨g2, 7, none⟩ = some (.int .u32 r7) := BR2.out.cell 7
  have cBR28 : W4.cell? ⟨g2, 8, none⟩ = some (.slice p2 s c2) := BR2.out.cell 8
  have cBX20 : W4.cell? ⟨g2 + 1, 0, none⟩ = some (.int .u32 b1) := BX2.out.cell 0
  have cBX21 : W4.cell? ⟨g2 + 1, 1, none⟩ = some (.bool false) := BX2.out.cell 1
  have cBX22 : W4.cell? ⟨g2 + 1, 2, none⟩ = some (.int .i64 0) := BX2.out.cell 2
  have cBX23 : W4.cell? ⟨g2 + 1, 3, none⟩ = some (.bool false) := BX2.out.cell 3
  have cBX24 : W4.cell? ⟨g2 + 1, 4, none⟩ = some (.bool false) := BX2.out.cell 4
  have cBX25 : W4.cell? ⟨g2 + 1, 5, none⟩ = some (.int .u32 0) := BX2.out.cell 5
  have cBX26 : W4.cell? ⟨g2 + 1, 6, none⟩ = some (.int .u32 0) := BX2.out.cell 6
  have cBR30 : W4.cell? ⟨g3, 0, none⟩ = some (.int .u32 r0) := BR3.out.cell 0
  have cBR31 : W4.cell? ⟨g3, 1, none⟩ = some (.int .u32 r1) := BR3.out.cell 1
  have cBR32 : W4.cell? ⟨g3, 2, none⟩ = some (.int .u32 r2) := BR3.out.cell 2
  have cBR33 : W4.cell? ⟨g3, 3, none⟩ = some (.int .u32 r3) := BR3.out.cell 3
  have cBR34 : W4.cell? ⟨g3, 4, none⟩ = some (.int .u32 r4) := BR3.out.cell 4
  have cBR35 : W4.cell? ⟨g3, 5, none⟩ = some (.int .u32 r5) := BR3.out.cell 5
  have cBR36 : W4.cell? ⟨g3, 6, none⟩ = some (.int .u32 r6) := BR3.out.cell 6
  have cBR37 : W4.cell? ⟨g3, 7, none⟩ = some (.int .u32 r7) := BR3.out.cell 7
  have cBR38 : W4.cell? ⟨g3, 8, none⟩ = some (.slice p3 s c3) := BR3.out.cell 8
  have cBX30 : W4.cell? ⟨g3 + 1, 0, none⟩ = some (.int .u32 wy) := BX3.out.cell 0
  have cBX31 : W4.cell? ⟨g3 + 1, 1, none⟩ = some (.bool false) := BX3.out.cell 1
  have cBX32 : W4.cell? ⟨g3 + 1, 2, none⟩ = some (.int .i64 0) := BX3.out.cell 2
  have cBX33 : W4.cell? ⟨g3 + 1, 3, none⟩ = some (.bool false) := BX3.out.cell 3
  have cBX34 : W4.cell? ⟨g3 + 1, 4, none⟩ = some (.bool false) := BX3.out.cell 4
  have cBX35 : W4.cell? ⟨g3 + 1, 5, none⟩ = some (.int .u32 0) := BX3.out.cell 5
  have cBX36 : W4.cell? ⟨g3 + 1, 6, none⟩ = some (.int .u32 0) := BX3.out.cell 6
  have cBX40 : W4.cell? ⟨g4 + 1, 0, none⟩ = some (.int .u32 wy) := BX4.out.cell 0
  have cBX41 : W4.cell? ⟨g4 + 1, 1, none⟩ = some (.bool false) := BX4.out.cell 1
  have cBX42 : W4.cell? ⟨g4 + 1, 2, none⟩ = some (.int .i64 0) := BX4.out.cell 2
  have cBX43 : W4.cell? ⟨g4 + 1, 3, none⟩ = some (.bool false) := BX4.out.cell 3
  have cBX44 : W4.cell? ⟨g4 + 1, 4, none⟩ = some (.bool false) := BX4.out.cell 4
  have cBX45 : W4.cell? ⟨g4 + 1, 5, none⟩ = some (.int .u32 0) := BX4.out.cell 5
  have cBX46 : W4.cell? ⟨g4 + 1, 6, none⟩ = some (.int .u32 0) := BX4.out.cell 6
  go_wp2_with (go_at_call 17; refine Hid.out ?_)
  refine Lib.hid ?_
  with_reducible refine (hE W4 p1 c1 HP1.out HQ.out).mono ?_
  rintro e V1 ⟨rfl, hv1⟩
  have BQ' := Hid.in (BQ.out.grow hv1)
  have BR2' := Hid.in (BR2.out.grow hv1)
  have BR3' := Hid.in (BR3.out.grow hv1)
  have HP2' := Hid.in (HP2.out.below hv1)
  have HP3' := Hid.in (HP3.out.below hv1)
  have HW' := Hid.in (below_step HW.out hv1)
  have HQ' := Hid.in (HQ.out.below hv1)
  clear BQ BR1 BX1 BR2 BX2 BR3 BX3 BR4 BX4 HP1 HP2 HP3 HP4 HW HQ hv1 cBQ0 cBQ1 cBQ2 cBQ3 cBQ4 cBQ5 cBQ6 cBQ7 cBQ8 cBR10 cBR11 cBR12 cBR13 cBR14 cBR15 cBR16 cBR17 cBR18 cBX10 cBX11 cBX12 cBX13 cBX14 cBX15 cBX16 cBR20 cBR21 cBR22 cBR23 cBR24 cBR25 cBR26 cBR27 cBR28 cBX20 cBX21 cBX22 cBX23 cBX24 cBX25 cBX26 cBR30 cBR31 cBR32 cBR33 cBR34 cBR35 cBR36 cBR37 cBR38 cBX30 cBX31 cBX32 cBX33 cBX34 cBX35 cBX36 cBX40 cBX41 cBX42 cBX43 cBX44 cBX45 cBX46
  have BQ := BQ'
  have BR2 := BR2'
  have BR3 := BR3'
  have HP2 := HP2'
  have HP3 := HP3'
  have HW := HW'
  have HQ := HQ'
  clear HW' HQ' BQ' BR2' BR3' HP2' HP3'
  have cBQ0 : V1.cell? ⟨w.heap.size, 0, none⟩ = some (.int .u32 r0) := BQ.out.cell 0
  have cBQ1 : V1.cell? ⟨w.heap.size, 1, none⟩ = some (.int .u32 r1) := BQ.out.cell 1
  have cBQ2 : V1.cell? ⟨w.heap.size, 2, none⟩ = some (.int .u32 r2) := BQ.out.cell 2
  have cBQ3 : V1.cell? ⟨w.heap.size, 3, none⟩ = some (.int .u32 r3) := BQ.out.cell 3
  have cBQ4 : V1.cell? ⟨w.heap.size, 4, none⟩ = some (.int .u32 r4) := BQ.out.cell 4
  have cBQ5 : V1.cell? ⟨w.heap.size, 5, none⟩ = some (.int .u32 r5) := BQ.out.cell 5
  have cBQ6 : V1.cell? ⟨w.heap.size, 6, none⟩ = some (.int .u32 r6) := BQ.out.cell 6
  have cBQ7 : V1.cell? ⟨w.heap.size, 7, none⟩ = some (.int .u32 r7) := BQ.out.cell 7
  have cBQ8 : V1.cell? ⟨w.heap.size, 8, none⟩ = some (.slice p s c) := BQ.out.cell 8
  have cBR20 : V1.cell? ⟨g2, 0, none⟩ = some (.int .u32 r0) := BR2.out.cell 0
  have cBR21 : V1.cell? ⟨g2, 1, none⟩ = some (.int .u32 r1) := BR2.out.cell 1
  have cBR22 : V1.cell? ⟨g2, 2, none⟩ = some (.int .u32 r2) := BR2.out.cell 2
  have cBR23 : V1.cell? ⟨g2, 3, none⟩ = some (.int .u32 r3) := BR2.out.cell 3
  have cBR24 : V1.cell? ⟨g2, 4, none⟩ = some (.int .u32 r4) := BR2.out.cell 4
  have cBR25 : V1.cell? ⟨g2, 5, none⟩ = some (.int .u32 r5) := BR2.out.cell 5
  have cBR26 : V1.cell? ⟨g2, 6, none⟩ = some (.int .u32 r6) := BR2.out.cell 6
  have cBR27 : V1.cell? ⟨g2, 7, none⟩ = some (.int .u32 r7) := BR2.out.cell 7
  have cBR28 : V1.cell? ⟨g2, 8, none⟩ = some (.slice p2 s c2) := BR2.out.cell 8
  have cBR30 : V1.cell? ⟨g3, 0, none⟩ = some (.int .u32 r0) := BR3.out.cell 0
  have cBR31 : V1.cell? ⟨g3, 1, none⟩ = some (.int .u32 r1) := BR3.out.cell 1
  have cBR32 : V1.cell? ⟨g3, 2, none⟩ = some (.int .u32 r2) := BR3.out.cell 2
  have cBR33 : V1.cell? ⟨g3, 3, none⟩ = some (.int .u32 r3) := BR3.out.cell 3
  have cBR34 : V1.cell? ⟨g3, 4, none⟩ = some (.int .u32 r4) := BR3.out.cell 4
  have cBR35 : V1.cell? ⟨g3, 5, none⟩ = some (.int .u32 r5) := BR3.out.cell 5
  have cBR36 : V1.cell? ⟨g3, 6, none⟩ = some (.int .u32 r6) := BR3.out.cell 6
  have cBR37 : V1.cell? ⟨g3, 7, none⟩ = some (.int .u32 r7) := BR3.out.cell 7
  have cBR38 : V1.cell? ⟨g3, 8, none⟩ = some (.slice p3 s c3) := BR3.out.cell 8
  go_wp2_with (go_at_call 17; refine Hid.out ?_)
  refine Lib.hid ?_
  with_reducible refine (hE V1 p2 c2 HP2.out HQ.out).mono ?_
  rintro e V2 ⟨rfl, hv2⟩
  have BQ' := Hid.in (BQ.out.grow hv2)
  have BR3' := Hid.in (BR3.out.grow hv2)
  have HP3' := Hid.in (HP3.out.below hv2)
  have HW' := Hid.in (below_step HW.out hv2)
  have HQ' := Hid.in (HQ.out.below hv2)
  clear BQ BR2 BR3 HP2 HP3 HW HQ hv2 cBQ0 cBQ1 cBQ2 cBQ3 cBQ4 cBQ5 cBQ6 cBQ7 cBQ8 cBR20 cBR21 cBR22 cBR23 cBR24 cBR25 cBR26 cBR27 cBR28 cBR30 cBR31 cBR32 cBR33 cBR34 cBR35 cBR36 cBR37 cBR38
  have BQ := BQ'
  have BR3 := BR3'
  have HP3 := HP3'
  have HW := HW'
  have HQ := HQ'
  clear HW' HQ' BQ' BR3' HP3'
  have cBQ0 : V2.cell? ⟨w.heap.size, 0, none⟩ = some (.int .u32 r0) := BQ.out.cell 0
  have cBQ1 : V2.cell? ⟨w.heap.size, 1, none⟩ = some (.int .u32 r1) := BQ.out.cell 1
  have cBQ2 : V2.cell? ⟨w.heap.size, 2, none⟩ = some (.int .u32 r2) := BQ.out.cell 2
  have cBQ3 : V2.cell? ⟨w.heap.size, 3, none⟩ = some (.int .u32 r3) := BQ.out.cell 3
  have cBQ4 : V2.cell? ⟨w.heap.size, 4, none⟩ = some (.int .u32 r4) := BQ.out.cell 4
  have cBQ5 : V2.cell? ⟨w.heap.size, 5, none⟩ = some (.int .u32 r5) := BQ.out.cell 5
  have cBQ6 : V2.cell? ⟨w.heap.size, 6, none⟩ = some (.int .u32 r6) := BQ.out.cell 6
  have cBQ7 : V2.cell? ⟨w.heap.size, 7, none⟩ = some (.int .u32 r7) := BQ.out.cell 7
  have cBQ8 : V2.cell? ⟨w.heap.size, 8, none⟩ = some (.slice p s c) := BQ.out.cell 8
  have cBR30 : V2.cell? ⟨g3, 0, none⟩ = some (.int .u32 r0) := BR3.out.cell 0
  have cBR31 : V2.cell? ⟨g3, 1, none⟩ = some (.int .u32 r1) := BR3.out.cell 1
  have cBR32 : V2.cell? ⟨g3, 2, none⟩ = some (.int .u32 r2) := BR3.out.cell 2
  have cBR33 : V2.cell? ⟨g3, 3, none⟩ = some (.int .u32 r3) := BR3.out.cell 3
  have cBR34 : V2.cell? ⟨g3, 4, none⟩ = some (.int .u32 r4) := BR3.out.cell 4
  have cBR35 : V2.cell? ⟨g3, 5, none⟩ = some (.int .u32 r5) := BR3.out.cell 5
  have cBR36 : V2.cell? ⟨g3, 6, none⟩ = some (.int .u32 r6) := BR3.out.cell 6
  have cBR37 : V2.cell? ⟨g3, 7, none⟩ = some (.int .u32 r7) := BR3.out.cell 7
  have cBR38 : V2.cell? ⟨g3, 8, none⟩ = some (.slice p3 s c3) := BR3.out.cell 8
  go_wp2_with (go_at_call 17; refine Hid.out ?_)
  refine Lib.hid ?_
  with_reducible refine (hE V2 p3 c3 HP3.out HQ.out).mono ?_
  rintro e V3 ⟨rfl, hv3⟩
  have BQ' := Hid.in (BQ.out.grow hv3)
  have HW' := Hid.in (below_step HW.out hv3)
  have HQ' := Hid.in (HQ.out.below hv3)
  clear BQ BR3 HP3 HW HQ hv3 cBQ0 cBQ1 cBQ2 cBQ3 cBQ4 cBQ5 cBQ6 cBQ7 cBQ8 cBR30 cBR31 cBR32 cBR33 cBR34 cBR35 cBR36 cBR37 cBR38
  have BQ := BQ'
  have HW := HW'
  have HQ := HQ'
  clear HW' HQ' BQ' 
  have cBQ0 : V3.cell? ⟨w.heap.size, 0, none⟩ = some (.int .u32 r0) := BQ.out.cell 0
  have cBQ1 : V3.cell? ⟨w.heap.size, 1, none⟩ = some (.int .u32 r1) := BQ.out.cell 1
  have cBQ2 : V3.cell? ⟨w.heap.size, 2, none⟩ = some (.int .u32 r2) := BQ.out.cell 2
  have cBQ3 : V3.cell? ⟨w.heap.size, 3, none⟩ = some (.int .u32 r3) := BQ.out.cell 3
  have cBQ4 : V3.cell? ⟨w.heap.size, 4, none⟩ = some (.int .u32 r4) := BQ.out.cell 4
  have cBQ5 : V3.cell? ⟨w.heap.size, 5, none⟩ = some (.int .u32 r5) := BQ.out.cell 5
  have cBQ6 : V3.cell? ⟨w.heap.size, 6, none⟩ = some (.int .u32 r6) := BQ.out.cell 6
  have cBQ7 : V3.cell? ⟨w.heap.size, 7, none⟩ = some (.int .u32 r7) := BQ.out.cell 7
  have cBQ8 : V3.cell? ⟨w.heap.size, 8, none⟩ = some (.slice p s c) := BQ.out.cell 8
  by_cases hij : ia = ja
  · have hij' : ((ia : Int) == ja) = true := by simp [hij]
    go_wp2_with (go_at_call 16; refine Hid.out ?_)
    refine Lib.hid ?_
    refine (haw _).mono ?_
    rintro e V4 ⟨rfl, hv4⟩
    go_wp2_with fail
    go_ret
    exact ⟨rfl, below_step HW.out hv4⟩
  have hij' : ((ia : Int) == ja) = false := by simp; omega
  go_wp2_with (go_at_call 9; refine Hid.out ?_)
  refine Lib.hid ?_
  refine (q5 _ HQ.out).mono ?_
  rintro e w5 ⟨p5, c5, rfl, hr5, -, hb5⟩
  rw [HS.out, show ∀ z, (Value.agg (effA (goE z))) = .agg #[.int .u32 z, .bool false, .int .i64 0, .bool false, .bool false, .int .u32 0, .int .u32 0] from fun _ => rfl]
  have t5_ := two_blk w5 #[.int .u32 t0, .int .u32 t1, .int .u32 t2, .int .u32 t3, .int .u32 t4, .int .u32 t5, .int .u32 t6, .int .u32 t7, .slice p5 s c5] #[.int .u32 f7, .bool false, .int .i64 0, .bool false, .bool false, .int .u32 0, .int .u32 0]
  have hst := below_step hb5 t5_.2.2
  have HWn := Hid.in (below_step HW.out hst)
  have HQn := Hid.in (HQ.out.below hst)
  have HP5 := Hid.in (hr5.below t5_.2.2)
  have BQ' := Hid.in (BQ.out.grow hst)
  have HT := Hid.in t5_
  clear hr5 hb5 t5_ hst BQ HW HQ  cBQ0 cBQ1 cBQ2 cBQ3 cBQ4 cBQ5 cBQ6 cBQ7 cBQ8
  have BQ := BQ'
  have HW := HWn
  have HQ := HQn
  clear HWn HQn BQ' 
  go_wp2_with (go_at_call 9; refine Hid.out ?_)
  refine Lib.hid ?_
  generalize (w5.alloc (.cells #[.int .u32 t0, .int .u32 t1, .int .u32 t2, .int .u32 t3, .int .u32 t4, .int .u32 t5, .int .u32 t6, .int .u32 t7, .slice p5 s c5] 32)).alloc (.cells #[.int .u32 f7, .bool false, .int .i64 0, .bool false, .bool false, .int .u32 0, .int .u32 0] 37) = W5 at *
  have BR5 := Hid.in HT.out.1
  have BX5 := Hid.in HT.out.2.1
  clear HT
  generalize w5.heap.size = g5 at *
  refine (q6 hij _ p5 c5 HP5.out).mono ?_
  rintro e w6 ⟨p6, c6, rfl, hr6, -, hb6⟩
  rw [HS.out, show ∀ z, (Value.agg (effA (goE z))) = .agg #[.int .u32 z, .bool false, .int .i64 0, .bool false, .bool false, .int .u32 0, .int .u32 0] from fun _ => rfl]
  have t6_ := two_blk w6 #[.int .u32 r0, .int .u32 r1, .int .u32 r2, .int .u32 r3, .int .u32 r4, .int .u32 r5, .int .u32 r6, .int .u32 r7, .slice p6 s c6] #[.int .u32 f8, .bool false, .int .i64 0, .bool false, .bool false, .int .u32 0, .int .u32 0]
  have hst := below_step hb6 t6_.2.2
  have HWn := Hid.in (below_step HW.out hst)
  have HQn := Hid.in (HQ.out.below hst)
  have HP6 := Hid.in (hr6.below t6_.2.2)
  have BQ' := Hid.in (BQ.out.grow hst)
  have BR5' := Hid.in (BR5.out.grow hst)
  have BX5' := Hid.in (BX5.out.grow hst)
  have HP5' := Hid.in (HP5.out.below hst)
  have HT := Hid.in t6_
  clear hr6 hb6 t6_ hst BQ BR5 BX5 HW HQ HP5 
  have BQ := BQ'
  have BR5 := BR5'
  have BX5 := BX5'
  have HP5 := HP5'
  have HW := HWn
  have HQ := HQn
  clear HWn HQn BQ' BR5' BX5' HP5'
  go_upto_region 12 with fail
  generalize (w6.alloc (.cells #[.int .u32 r0, .int .u32 r1, .int .u32 r2, .int .u32 r3, .int .u32 r4, .int .u32 r5, .int .u32 r6, .int .u32 r7, .slice p6 s c6] 32)).alloc (.cells #[.int .u32 f8, .bool false, .int .i64 0, .bool false, .bool false, .int .u32 0, .int .u32 0] 37) = W6 at *
  have BR6 := Hid.in HT.out.1
  have BX6 := Hid.in HT.out.2.1
  clear HT
  generalize w6.heap.size = g6 at *
  have cBQ0 : W6.cell? ⟨w.heap.size, 0, none⟩ = some (.int .u32 r0) := BQ.out.cell 0
  have cBQ1 : W6.cell? ⟨w.heap.size, 1, none⟩ = some (.int .u32 r1) := BQ.out.cell 1
  have cBQ2 : W6.cell? ⟨w.heap.size, 2, none⟩ = some (.int .u32 r2) := BQ.out.cell 2
  have cBQ3 : W6.cell? ⟨w.heap.size, 3, none⟩ = some (.int .u32 r3) := BQ.out.cell 3
  have cBQ4 : W6.cell? ⟨w.heap.size, 4, none⟩ = some (.int .u32 r4) := BQ.out.cell 4
  have cBQ5 : W6.cell? ⟨w.heap.size, 5, none⟩ = some (.int .u32 r5) := BQ.out.cell 5
  have cBQ6 : W6.cell? ⟨w.heap.size, 6, none⟩ = some (.int .u32 r6) := BQ.out.cell 6
  have cBQ7 : W6.cell? ⟨w.heap.size, 7, none⟩ = some (.int .u32 r7) := BQ.out.cell 7
  have cBQ8 : W6.cell? ⟨w.heap.size, 8, none⟩ = some (.slice p s c) := BQ.out.cell 8
  have cBR60 : W6.cell? ⟨g6, 0, none⟩ = some (.int .u32 r0) := BR6.out.cell 0
  have cBR61 : W6.cell? ⟨g6, 1, none⟩ = some (.int .u32 r1) := BR6.out.cell 1
  have cBR62 : W6.cell? ⟨g6, 2, none⟩ = some (.int .u32 r2) := BR6.out.cell 2
  have cBR63 : W6.cell? ⟨g6, 3, none⟩ = some (.int .u32 r3) := BR6.out.cell 3
  have cBR64 : W6.cell? ⟨g6, 4, none⟩ = some (.int .u32 r4) := BR6.out.cell 4
  have cBR65 : W6.cell? ⟨g6, 5, none⟩ = some (.int .u32 r5) := BR6.out.cell 5
  have cBR66 : W6.cell? ⟨g6, 6, none⟩ = some (.int .u32 r6) := BR6.out.cell 6
  have cBR67 : W6.cell? ⟨g6, 7, none⟩ = some (.int .u32 r7) := BR6.out.cell 7
  have cBR68 : W6.cell? ⟨g6, 8, none⟩ = some (.slice p6 s c6) := BR6.out.cell 8
  go_wp2_with (go_at_call 17; refine Hid.out ?_)
  refine Lib.hid ?_
  with_reducible refine (hE W6 p6 c6 HP6.out HQ.out).mono ?_
  rintro e V4 ⟨rfl, hv4⟩
  go_wp2_with (go_at_call 16; refine Hid.out ?_)
  refine Lib.hid ?_
  refine (haw _).mono ?_
  rintro e V5 ⟨rfl, hv5⟩
  go_wp2_with fail
  go_ret
  exact ⟨rfl, below_step (below_step HW.out hv4) hv5⟩

end Go.Proofs.Ytdbpeigcnhhpmaa
