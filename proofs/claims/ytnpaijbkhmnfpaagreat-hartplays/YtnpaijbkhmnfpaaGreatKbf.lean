/- Texts put together: DoWC. -/
import Derived.Test.YtnpaijbkhmnfpaaGreatKaj

/- exec.Do, for every instruction that is done. -/
namespace Go.Proofs.YtnpaijbkhmnfpaaGreat
open Go.RowKit

set_option maxHeartbeats 40000000 in
set_option maxRecDepth 8000 in
theorem do_okC (o a b : Nat) (n pc : Int) (R S D : List Int) (p q : Option Addr) (s c d dc : Nat) (w : World) (ho : o ≤ 255) (ha : a ≤ 255) (hb : b ≤ 255) (_hpc : 0 ≤ pc ∧ pc ≤ 4294967295) (_hn : -2147483648 ≤ n ∧ n ≤ 2147483647)
    (lR : R.length = 8) (hS : S.length = s) (hs : s * 4 ≤ 140737488355324) (hD : D.length = d) (hd : d ≤ 140737488355328) (hr : PRow w p S) (hrd : Row w q D) (hbd : Byt D)
    (hf : fltL o a b n s d = 0) (hset : o = 10 ∨ o = 11 ∨ o = 12 ∨ o = 13) :
    Calls Tryz.prog 71 #[ins o a b n, .int .u32 pc, rgV R (.slice p s c), .slice q d dc] w fun e w' => (∃ v, e = .returned (.tuple #[rgV (doR o a b n R D) v, .agg (effA (doE o a n pc R S))]) ∧ POwnV w' w.heap.size v (doS o pc S)) ∧ Below w.heap.size w w' := by
  have HSET := Hid.in hset
  clear hset
  have hR := flt_right hf
  obtain ⟨ha8, hb8⟩ := right_reg hR
  have ho17 := (rightB_parts hR).1
  have h13 := fun W => span_any o a b n W ho (by omega) (by omega)
  rw [spanN_right hR] at h13
  have h20 := fun W v c => fault_any o a b n v q s c d dc W ho (by omega) (by omega) (by omega) (by omega)
  rw [hf] at h20
  have h19 := fun W (h : PRow W p S) => xcopied_any p s c S W hS (by omega) h
  have hlen := lenN_in o ho17.1 ho17.2
  have HRW : Hid (∀ W, Below w.heap.size w W → PRow W p S) := fun W h => hr.below h
  have HRD : Hid (∀ W, Below w.heap.size w W → Row W q D) := fun W h => hrd.below h
  have HS := Hid.in hS
  have HD := Hid.in hD
  have HBY := Hid.in hbd
  clear hr hrd hS hD hbd
  show Calls Tryz.prog 71 #[ins o a b n, .int .u32 pc, .agg (rgA R (.slice p s c)), .slice q d dc] w _
  go_enter Tryz.func71, Tryz.ntmps71
  go_upto_region 1 with fail
  obtain ⟨hst, hsz, hc8, hb0, hbr⟩ := DSt.start w _ o a b n R S p s c lR rfl
  generalize (((w.alloc (.cells #[.int .u8 o, .int .u8 a, .int .u8 b, .int .i32 n] 117)).alloc (.cells (rgA R (.slice p s c)) 47)).alloc (.cells noRegs 47)).alloc (.cells (efA 0) 134) = w0 at *
  have h19' := h19 w0 (HRW.out _ hb0)
  clear h19 HRW
  go_wp2_with (go_at_call 101; refine Hid.out ?_)
  refine Lib.hid ?_
  refine h19'.mono ?_
  rintro e w1 ⟨g, rfl, ho1, hb1⟩
  have hB1 := hbr w1 hb1
  have HG : Hid (w.heap.size + 4 ≤ g) := by have := ho1.base; rw [hsz] at this; exact this
  have HST := Hid.in (hst w1 _ (by rw [← hsz]; exact ho1.val) hb1)
  rw [HS.out] at HST
  have c8 : w1.cell? ⟨w.heap.size + 1, 8, none⟩ = some (.slice p s c) := by rw [hB1.cell, rgA_last R _ lR]
  have f8 : w1.frozen? ⟨w.heap.size + 1, 8, none⟩ = false := hB1.free 8
  clear hst hbr hB1 hb1 ho1 h19' hc8 hb0
  go_upto_region 2 with fail
  generalize w1.setCell ⟨w.heap.size + 1, 8, none⟩ (.slice (some ⟨g, 0, none⟩) s s) = w2 at *
  clear c8 f8
  have i0 : w2.cell? ⟨w.heap.size, 0, none⟩ = some (.int .u8 o) := HST.out.bi.cell 0
  have i1 : w2.cell? ⟨w.heap.size, 1, none⟩ = some (.int .u8 a) := HST.out.bi.cell 1
  have i2 : w2.cell? ⟨w.heap.size, 2, none⟩ = some (.int .u8 b) := HST.out.bi.cell 2
  have i3 : w2.cell? ⟨w.heap.size, 3, none⟩ = some (.int .i32 n) := HST.out.bi.cell 3
  have r8 : w2.cell? ⟨w.heap.size + 1, 8, none⟩ = some (.slice (some ⟨g, 0, none⟩) s s) := by rw [HST.out.br.cell, rgA_last R _ lR]
  have h20' := h20 w2 (some ⟨g, 0, none⟩) s
  clear h20
  go_wp2_with (go_at_call 102; refine Hid.out ?_)
  refine Lib.hid ?_
  refine h20'.mono ?_
  rintro e w3 ⟨rfl, hb3⟩
  have HST3 := Hid.in (HST.out.below hb3)
  clear h20' hb3 HST i0 i1 i2 i3 r8
  have i0 : w3.cell? ⟨w.heap.size, 0, none⟩ = some (.int .u8 o) := HST3.out.bi.cell 0
  have i1 : w3.cell? ⟨w.heap.size, 1, none⟩ = some (.int .u8 a) := HST3.out.bi.cell 1
  have i2 : w3.cell? ⟨w.heap.size, 2, none⟩ = some (.int .u8 b) := HST3.out.bi.cell 2
  have i3 : w3.cell? ⟨w.heap.size, 3, none⟩ = some (.int .i32 n) := HST3.out.bi.cell 3
  have h13' := h13 w3
  clear h13
  go_wp2_with (go_at_call 103; refine Hid.out ?_)
  refine Lib.hid ?_
  refine h13'.mono ?_
  rintro e w4 ⟨rfl, hb4⟩
  have HST4 := Hid.in (HST3.out.below hb4)
  clear h13' hb4 HST3 i0 i1 i2 i3
  have i3 : w4.cell? ⟨w.heap.size, 3, none⟩ = some (.int .i32 n) := HST4.out.bi.cell 3
  go_upto_region 8 with fail
  have HX5 := Hid.in (HST4.out.withE g s s (.cells (efA ((pc + (lenN o : Int)) % 4294967296)) 134) rfl)
  have HBH : Hid (behL o pc = (pc + (lenN o : Int)) % 4294967296) := rfl
  have HWY : Hid (wayL o n pc = ((pc + (lenN o : Int)) % 4294967296 + n % 4294967296) % 4294967296) := rfl
  generalize (pc + (lenN o : Int)) % 4294967296 = bh at *
  generalize (bh + n % 4294967296) % 4294967296 = wy at *
  generalize w4.alloc (.cells (efA bh) 134) = w5 at *
  generalize w4.heap.size = gx at *
  have HX : Hid (DSx w w.heap.size o a b n R (.slice (some ⟨g, 0, none⟩) s s) S gx (efA bh) w5) := HX5.out
  clear HX5 HST4 i3 hlen
  obtain ⟨x, HRA⟩ : ∃ x, Hid (R.getD a 0 = x) := ⟨_, rfl⟩
  obtain ⟨y, HRB⟩ : ∃ y, Hid (R.getD b 0 = y) := ⟨_, rfl⟩
  have ra : w5.cell? ⟨w.heap.size + 1, a, none⟩ = some (.int .u32 x) := by rw [← HRA.out]; exact HX.out.reg ha8
  have rb : w5.cell? ⟨w.heap.size + 1, b, none⟩ = some (.int .u32 y) := by rw [← HRB.out]; exact HX.out.reg hb8
  have fr : ∀ i, w5.frozen? ⟨w.heap.size + 1, i, none⟩ = false := fun i => HX.out.st.br.free i
  have fx : ∀ i, w5.frozen? ⟨gx, i, none⟩ = false := fun i => HX.out.bx.free i
  have i0 : w5.cell? ⟨w.heap.size, 0, none⟩ = some (.int .u8 o) := HX.out.st.bi.cell 0
  have i1 : w5.cell? ⟨w.heap.size, 1, none⟩ = some (.int .u8 a) := HX.out.st.bi.cell 1
  have i2 : w5.cell? ⟨w.heap.size, 2, none⟩ = some (.int .u8 b) := HX.out.st.bi.cell 2
  have i3 : w5.cell? ⟨w.heap.size, 3, none⟩ = some (.int .i32 n) := HX.out.st.bi.cell 3
  have hgx : w.heap.size + 4 ≤ gx := HX.out.ge
  go_upto_block 0 with fail
  go_cut [14] from 42 to 168 (fun _ wx => ∃ v', DSx w w.heap.size o a b n (doR o a b n R D) v' (doS o pc S) gx (effA (doE o a n pc R S)) wx)
  case first =>
    rcases HSET.out with rfl | rfl | rfl | rfl
    ·   have e0 : w5.cell? ⟨gx, 0, none⟩ = some (.int .u32 bh) := HX.out.bx.cell 0
        cases hx0 : (x == 0)
        · go_wp2_with fail
          go_meet
          case rel => exact ⟨_, (HX.out.setE 0 _).to (by simp [doR]) (by simp [doS]) (by rw [beq_eq_false_iff_ne, ← HRA.out] at hx0; simp only [doE, effA, goE, HBH.out, HWY.out, hx0]; rfl)⟩
        · go_wp2_with fail
          go_meet
          case rel => exact ⟨_, HX.out.to (by simp [doR]) (by simp [doS]) (by rw [beq_iff_eq, ← HRA.out] at hx0; simp only [doE, effA, goE, HBH.out, HWY.out, hx0]; rfl)⟩
    ·   have e0 : w5.cell? ⟨gx, 0, none⟩ = some (.int .u32 bh) := HX.out.bx.cell 0
        go_wp2_with fail
        go_meet
        case rel => exact ⟨_, (HX.out.setE 0 _).to (by simp [doR]) (by simp [doS]) (by simp [doE, effA, goE, HWY.out])⟩
    ·   have r8 : w5.cell? ⟨w.heap.size + 1, 8, none⟩ = some (.slice (some ⟨g, 0, none⟩) s s) := by rw [HX.out.st.br.cell, rgA_last R _ HX.out.st.len]
        have hl : (S.length + 1) * 4 ≤ 140737488355328 := by rw [HS.out]; omega
        have hq5 : w.heap.size + 4 ≤ (w5.alloc (.cells #[.int .u32 bh] 31)).heap.size := by have := HX.out.bx.lt; have := HX.out.ge; rw [size_one]; omega
        go_wp2_with (at_builtin; refine wp_pushP _ rfl _ _ rfl (w.heap.size + 4) _ S rfl (HX.out.st.ow.alloc _) ⟨w5.heap.size, 0, none⟩ 1 1 [bh] rfl rfl (cell_one_new _ _ _) hl hq5 ?_; intro v' w6 hown' hgrow hbel _hnil; refine Hid.out ?_)
        refine Lib.hid ?_
        obtain ⟨p', c', rfl, -, -⟩ := hown'.slice
        have HX6 := Hid.in (HX.out.pushed hown' hgrow HG.out)
        obtain ⟨c8, f8, e0, z0, HX7⟩ := HX6.out
        clear hown' hgrow hbel _hnil HX6 r8 hl hq5
        generalize (S ++ [bh]).length = l7 at *
        go_upto_region 33 with fail
        generalize w6.setCell ⟨w.heap.size + 1, 8, none⟩ (.slice p' l7 c') = w7 at *
        go_wp2_with fail
        go_meet
        case rel => exact ⟨_, (HX7.setE 0 _).to (by simp [doR]) (by simp [doS, HBH.out]) (by simp [doE, effA, goE, HWY.out])⟩
    ·   have r8 : w5.cell? ⟨w.heap.size + 1, 8, none⟩ = some (.slice (some ⟨g, 0, none⟩) s s) := by rw [HX.out.st.br.cell, rgA_last R _ HX.out.st.len]
        have e0 : w5.cell? ⟨gx, 0, none⟩ = some (.int .u32 bh) := HX.out.bx.cell 0
        have e1 : w5.cell? ⟨gx, 1, none⟩ = some (.bool false) := HX.out.bx.cell 1
        have e2 : w5.cell? ⟨gx, 2, none⟩ = some (.int .i64 0) := HX.out.bx.cell 2
        have e3 : w5.cell? ⟨gx, 3, none⟩ = some (.bool false) := HX.out.bx.cell 3
        have e4 : w5.cell? ⟨gx, 4, none⟩ = some (.bool false) := HX.out.bx.cell 4
        have e5 : w5.cell? ⟨gx, 5, none⟩ = some (.int .u32 0) := HX.out.bx.cell 5
        have e6 : w5.cell? ⟨gx, 6, none⟩ = some (.int .u32 0) := HX.out.bx.cell 6
        rcases Nat.eq_zero_or_pos s with hs0 | hs0
        · subst hs0
          have hSn : S = [] := List.eq_nil_of_length_eq_zero HS.out
          have h21 := back_zero (some ⟨g, 0, none⟩) 0 bh w5
          go_wp2_with (go_at_call 104; refine Hid.out ?_)
          refine Lib.hid ?_
          refine h21.mono ?_
          rintro e w6 ⟨rfl, hb6⟩
          obtain ⟨c8, f8, d0, d1, d2, d3, d4, d5, d6, f0, HX7⟩ := (HX.out.below hb6).cells
          clear hb6 h21 e0 e1 e2 e3 e4 e5 e6 r8
          go_wp2_with fail
          go_meet
          case rel => exact ⟨_, (((HX7 (.slice (some ⟨g, 0, none⟩) 0 0) S HX.out.ne (fun h => h)).setAll (efH bh) rfl)).to (by simp [doR]) (by simp [doS, hSn]) (by simp [doE, effA, goE, HBH.out, hSn, efH])⟩
        · obtain ⟨k, rfl⟩ : ∃ k, s = k + 1 := ⟨s - 1, by omega⟩
          have HZ : Hid (w5.cell? ⟨g, k, none⟩ = some (.int .u32 (S.getD k 0))) := HX.out.st.ow.cellAt HS.out (by omega)
          obtain ⟨z, hz⟩ : ∃ z, z = S.getD k 0 := ⟨_, rfl⟩
          rw [← hz] at HZ
          have HZE := Hid.in hz
          have h21 := back_last g k (k + 1) bh z w5 (by omega) (by omega) HZ.out
          clear hz
          go_wp2_with (go_at_call 104; refine Hid.out ?_)
          refine Lib.hid ?_
          refine h21.mono ?_
          rintro e w6 ⟨rfl, hb6⟩
          obtain ⟨c8, f8, d0, d1, d2, d3, d4, d5, d6, f0, HX7⟩ := (HX.out.below hb6).cells
          clear hb6 h21 e0 e1 e2 e3 e4 e5 e6 r8
          go_wp2_with fail
          go_meet
          case rel => exact ⟨_, (((HX7 (.slice (some ⟨g, 0, none⟩) k (k + 1)) S.dropLast HX.out.ne (fun h => h.front HS.out)).setAll (efA z) rfl)).to (by simp [doR]) (by simp [doS]) (by have e1 := HS.out; have e2 := HZE.out; have e3 : ¬ S = [] := (by intro e; rw [e] at e1; cases e1); simp [doE, effA, goE, e3, e1, e2])⟩
  case rest =>
    obtain ⟨v', hx⟩ := hcut
    clear ra rb fr fx i0 i1 i2 i3 HX HRA HRB
    obtain ⟨r0, r1, r2, r3, r4, r5, r6, r7, hR8⟩ := eight hx.st.len
    obtain ⟨⟨e0, e1, e2, e3, e4, e5, e6⟩, hE⟩ : ∃ E, doE o a n pc R S = E := ⟨_, rfl⟩
    obtain ⟨p1, c1, hv, -, -⟩ := hx.st.ow.slice
    subst hv
    have HRR := Hid.in hR8
    have HEE := Hid.in hE
    have HXX := Hid.in hx
    rw [hR8, hE] at HXX
    clear hx hR8 hE
    generalize (doS o pc S).length = n1 at *
    have B1 : Hid (Blk wc (w.heap.size + 1) 47 #[.int .u32 r0, .int .u32 r1, .int .u32 r2, .int .u32 r3, .int .u32 r4, .int .u32 r5, .int .u32 r6, .int .u32 r7, .slice p1 n1 c1]) := HXX.out.st.br
    have BE : Hid (Blk wc gx 134 #[.int .u32 e0, .bool e1, .int .i64 e2, .bool e3, .bool e4, .int .u32 e5, .int .u32 e6]) := HXX.out.bx
    have B8 := Hid.in HXX.out.st.b8
    have B9 := Hid.in HXX.out.st.b9
    have a0 : wc.cell? ⟨w.heap.size + 1, 0, none⟩ = some (.int .u32 r0) := B1.out.cell 0
    have a1 : wc.cell? ⟨w.heap.size + 1, 1, none⟩ = some (.int .u32 r1) := B1.out.cell 1
    have a2 : wc.cell? ⟨w.heap.size + 1, 2, none⟩ = some (.int .u32 r2) := B1.out.cell 2
    have a3 : wc.cell? ⟨w.heap.size + 1, 3, none⟩ = some (.int .u32 r3) := B1.out.cell 3
    have a4 : wc.cell? ⟨w.heap.size + 1, 4, none⟩ = some (.int .u32 r4) := B1.out.cell 4
    have a5 : wc.cell? ⟨w.heap.size + 1, 5, none⟩ = some (.int .u32 r5) := B1.out.cell 5
    have a6 : wc.cell? ⟨w.heap.size + 1, 6, none⟩ = some (.int .u32 r6) := B1.out.cell 6
    have a7 : wc.cell? ⟨w.heap.size + 1, 7, none⟩ = some (.int .u32 r7) := B1.out.cell 7
    have a8 : wc.cell? ⟨w.heap.size + 1, 8, none⟩ = some (.slice p1 n1 c1) := B1.out.cell 8
    have x0 : wc.cell? ⟨gx, 0, none⟩ = some (.int .u32 e0) := BE.out.cell 0
    have x1 : wc.cell? ⟨gx, 1, none⟩ = some (.bool e1) := BE.out.cell 1
    have x2 : wc.cell? ⟨gx, 2, none⟩ = some (.int .i64 e2) := BE.out.cell 2
    have x3 : wc.cell? ⟨gx, 3, none⟩ = some (.bool e3) := BE.out.cell 3
    have x4 : wc.cell? ⟨gx, 4, none⟩ = some (.bool e4) := BE.out.cell 4
    have x5 : wc.cell? ⟨gx, 5, none⟩ = some (.int .u32 e5) := BE.out.cell 5
    have x6 : wc.cell? ⟨gx, 6, none⟩ = some (.int .u32 e6) := BE.out.cell 6
    have y0 : wc.cell? ⟨w.heap.size + 1 + 1, 0, none⟩ = some (.int .u32 0) := B8.out.cell 0
    have y1 : wc.cell? ⟨w.heap.size + 1 + 1, 1, none⟩ = some (.int .u32 0) := B8.out.cell 1
    have y2 : wc.cell? ⟨w.heap.size + 1 + 1, 2, none⟩ = some (.int .u32 0) := B8.out.cell 2
    have y3 : wc.cell? ⟨w.heap.size + 1 + 1, 3, none⟩ = some (.int .u32 0) := B8.out.cell 3
    have y4 : wc.cell? ⟨w.heap.size + 1 + 1, 4, none⟩ = some (.int .u32 0) := B8.out.cell 4
    have y5 : wc.cell? ⟨w.heap.size + 1 + 1, 5, none⟩ = some (.int .u32 0) := B8.out.cell 5
    have y6 : wc.cell? ⟨w.heap.size + 1 + 1, 6, none⟩ = some (.int .u32 0) := B8.out.cell 6
    have y7 : wc.cell? ⟨w.heap.size + 1 + 1, 7, none⟩ = some (.int .u32 0) := B8.out.cell 7
    have y8 : wc.cell? ⟨w.heap.size + 1 + 1, 8, none⟩ = some (.slice none 0 0) := B8.out.cell 8
    have z0 : wc.cell? ⟨w.heap.size + 1 + 1 + 1, 0, none⟩ = some (.int .u32 0) := B9.out.cell 0
    have z1 : wc.cell? ⟨w.heap.size + 1 + 1 + 1, 1, none⟩ = some (.bool false) := B9.out.cell 1
    have z2 : wc.cell? ⟨w.heap.size + 1 + 1 + 1, 2, none⟩ = some (.int .i64 0) := B9.out.cell 2
    have z3 : wc.cell? ⟨w.heap.size + 1 + 1 + 1, 3, none⟩ = some (.bool false) := B9.out.cell 3
    have z4 : wc.cell? ⟨w.heap.size + 1 + 1 + 1, 4, none⟩ = some (.bool false) := B9.out.cell 4
    have z5 : wc.cell? ⟨w.heap.size + 1 + 1 + 1, 5, none⟩ = some (.int .u32 0) := B9.out.cell 5
    have z6 : wc.cell? ⟨w.heap.size + 1 + 1 + 1, 6, none⟩ = some (.int .u32 0) := B9.out.cell 6
    have f8 : ∀ i, wc.frozen? ⟨w.heap.size + 1 + 1, i, none⟩ = false := fun i => B8.out.free i
    have f9 : ∀ i, wc.frozen? ⟨w.heap.size + 1 + 1 + 1, i, none⟩ = false := fun i => B9.out.free i
    go_upto_region 38 with fail
    go_region
    have HD : Hid (Blk ((((((((((((((((wc.setCell ⟨w.heap.size + 1 + 1, 0, none⟩ (.int .u32 r0)).setCell ⟨w.heap.size + 1 + 1, 1, none⟩ (.int .u32 r1)).setCell ⟨w.heap.size + 1 + 1, 2, none⟩ (.int .u32 r2)).setCell ⟨w.heap.size + 1 + 1, 3, none⟩ (.int .u32 r3)).setCell ⟨w.heap.size + 1 + 1, 4, none⟩ (.int .u32 r4)).setCell ⟨w.heap.size + 1 + 1, 5, none⟩ (.int .u32 r5)).setCell ⟨w.heap.size + 1 + 1, 6, none⟩ (.int .u32 r6)).setCell ⟨w.heap.size + 1 + 1, 7, none⟩ (.int .u32 r7)).setCell ⟨w.heap.size + 1 + 1, 8, none⟩ (.slice p1 n1 c1)).setCell ⟨w.heap.size + 1 + 1 + 1, 0, none⟩ (.int .u32 e0)).setCell ⟨w.heap.size + 1 + 1 + 1, 1, none⟩ (.bool e1)).setCell ⟨w.heap.size + 1 + 1 + 1, 2, none⟩ (.int .i64 e2)).setCell ⟨w.heap.size + 1 + 1 + 1, 3, none⟩ (.bool e3)).setCell ⟨w.heap.size + 1 + 1 + 1, 4, none⟩ (.bool e4)).setCell ⟨w.heap.size + 1 + 1 + 1, 5, none⟩ (.int .u32 e5)).setCell ⟨w.heap.size + 1 + 1 + 1, 6, none⟩ (.int .u32 e6)).drew (w.heap.size + 1 + 1) 47 #[.int .u32 r0, .int .u32 r1, .int .u32 r2, .int .u32 r3, .int .u32 r4, .int .u32 r5, .int .u32 r6, .int .u32 r7, .slice p1 n1 c1] ∧ Blk ((((((((((((((((wc.setCell ⟨w.heap.size + 1 + 1, 0, none⟩ (.int .u32 r0)).setCell ⟨w.heap.size + 1 + 1, 1, none⟩ (.int .u32 r1)).setCell ⟨w.heap.size + 1 + 1, 2, none⟩ (.int .u32 r2)).setCell ⟨w.heap.size + 1 + 1, 3, none⟩ (.int .u32 r3)).setCell ⟨w.heap.size + 1 + 1, 4, none⟩ (.int .u32 r4)).setCell ⟨w.heap.size + 1 + 1, 5, none⟩ (.int .u32 r5)).setCell ⟨w.heap.size + 1 + 1, 6, none⟩ (.int .u32 r6)).setCell ⟨w.heap.size + 1 + 1, 7, none⟩ (.int .u32 r7)).setCell ⟨w.heap.size + 1 + 1, 8, none⟩ (.slice p1 n1 c1)).setCell ⟨w.heap.size + 1 + 1 + 1, 0, none⟩ (.int .u32 e0)).setCell ⟨w.heap.size + 1 + 1 + 1, 1, none⟩ (.bool e1)).setCell ⟨w.heap.size + 1 + 1 + 1, 2, none⟩ (.int .i64 e2)).setCell ⟨w.heap.size + 1 + 1 + 1, 3, none⟩ (.bool e3)).setCell ⟨w.heap.size + 1 + 1 + 1, 4, none⟩ (.bool e4)).setCell ⟨w.heap.size + 1 + 1 + 1, 5, none⟩ (.int .u32 e5)).setCell ⟨w.heap.size + 1 + 1 + 1, 6, none⟩ (.int .u32 e6)).drew (w.heap.size + 1 + 1 + 1) 134 #[.int .u32 e0, .bool e1, .int .i64 e2, .bool e3, .bool e4, .int .u32 e5, .int .u32 e6] ∧ POwnV ((((((((((((((((wc.setCell ⟨w.heap.size + 1 + 1, 0, none⟩ (.int .u32 r0)).setCell ⟨w.heap.size + 1 + 1, 1, none⟩ (.int .u32 r1)).setCell ⟨w.heap.size + 1 + 1, 2, none⟩ (.int .u32 r2)).setCell ⟨w.heap.size + 1 + 1, 3, none⟩ (.int .u32 r3)).setCell ⟨w.heap.size + 1 + 1, 4, none⟩ (.int .u32 r4)).setCell ⟨w.heap.size + 1 + 1, 5, none⟩ (.int .u32 r5)).setCell ⟨w.heap.size + 1 + 1, 6, none⟩ (.int .u32 r6)).setCell ⟨w.heap.size + 1 + 1, 7, none⟩ (.int .u32 r7)).setCell ⟨w.heap.size + 1 + 1, 8, none⟩ (.slice p1 n1 c1)).setCell ⟨w.heap.size + 1 + 1 + 1, 0, none⟩ (.int .u32 e0)).setCell ⟨w.heap.size + 1 + 1 + 1, 1, none⟩ (.bool e1)).setCell ⟨w.heap.size + 1 + 1 + 1, 2, none⟩ (.int .i64 e2)).setCell ⟨w.heap.size + 1 + 1 + 1, 3, none⟩ (.bool e3)).setCell ⟨w.heap.size + 1 + 1 + 1, 4, none⟩ (.bool e4)).setCell ⟨w.heap.size + 1 + 1 + 1, 5, none⟩ (.int .u32 e5)).setCell ⟨w.heap.size + 1 + 1 + 1, 6, none⟩ (.int .u32 e6)).drew w.heap.size (.slice p1 n1 c1) (doS o pc S) ∧ Below w.heap.size w ((((((((((((((((wc.setCell ⟨w.heap.size + 1 + 1, 0, none⟩ (.int .u32 r0)).setCell ⟨w.heap.size + 1 + 1, 1, none⟩ (.int .u32 r1)).setCell ⟨w.heap.size + 1 + 1, 2, none⟩ (.int .u32 r2)).setCell ⟨w.heap.size + 1 + 1, 3, none⟩ (.int .u32 r3)).setCell ⟨w.heap.size + 1 + 1, 4, none⟩ (.int .u32 r4)).setCell ⟨w.heap.size + 1 + 1, 5, none⟩ (.int .u32 r5)).setCell ⟨w.heap.size + 1 + 1, 6, none⟩ (.int .u32 r6)).setCell ⟨w.heap.size + 1 + 1, 7, none⟩ (.int .u32 r7)).setCell ⟨w.heap.size + 1 + 1, 8, none⟩ (.slice p1 n1 c1)).setCell ⟨w.heap.size + 1 + 1 + 1, 0, none⟩ (.int .u32 e0)).setCell ⟨w.heap.size + 1 + 1 + 1, 1, none⟩ (.bool e1)).setCell ⟨w.heap.size + 1 + 1 + 1, 2, none⟩ (.int .i64 e2)).setCell ⟨w.heap.size + 1 + 1 + 1, 3, none⟩ (.bool e3)).setCell ⟨w.heap.size + 1 + 1 + 1, 4, none⟩ (.bool e4)).setCell ⟨w.heap.size + 1 + 1 + 1, 5, none⟩ (.int .u32 e5)).setCell ⟨w.heap.size + 1 + 1 + 1, 6, none⟩ (.int .u32 e6)).drew) := HXX.out.stored #[.int .u32 r0, .int .u32 r1, .int .u32 r2, .int .u32 r3, .int .u32 r4, .int .u32 r5, .int .u32 r6, .int .u32 r7, .slice p1 n1 c1] #[.int .u32 e0, .bool e1, .int .i64 e2, .bool e3, .bool e4, .int .u32 e5, .int .u32 e6] rfl rfl
    generalize ((((((((((((((((wc.setCell ⟨w.heap.size + 1 + 1, 0, none⟩ (.int .u32 r0)).setCell ⟨w.heap.size + 1 + 1, 1, none⟩ (.int .u32 r1)).setCell ⟨w.heap.size + 1 + 1, 2, none⟩ (.int .u32 r2)).setCell ⟨w.heap.size + 1 + 1, 3, none⟩ (.int .u32 r3)).setCell ⟨w.heap.size + 1 + 1, 4, none⟩ (.int .u32 r4)).setCell ⟨w.heap.size + 1 + 1, 5, none⟩ (.int .u32 r5)).setCell ⟨w.heap.size + 1 + 1, 6, none⟩ (.int .u32 r6)).setCell ⟨w.heap.size + 1 + 1, 7, none⟩ (.int .u32 r7)).setCell ⟨w.heap.size + 1 + 1, 8, none⟩ (.slice p1 n1 c1)).setCell ⟨w.heap.size + 1 + 1 + 1, 0, none⟩ (.int .u32 e0)).setCell ⟨w.heap.size + 1 + 1 + 1, 1, none⟩ (.bool e1)).setCell ⟨w.heap.size + 1 + 1 + 1, 2, none⟩ (.int .i64 e2)).setCell ⟨w.heap.size + 1 + 1 + 1, 3, none⟩ (.bool e3)).setCell ⟨w.heap.size + 1 + 1 + 1, 4, none⟩ (.bool e4)).setCell ⟨w.heap.size + 1 + 1 + 1, 5, none⟩ (.int .u32 e5)).setCell ⟨w.heap.size + 1 + 1 + 1, 6, none⟩ (.int .u32 e6)).drew = wd at *
    obtain ⟨d1, d2, d3, d4⟩ := HD.out
    clear a0 a1 a2 a3 a4 a5 a6 a7 a8 x0 x1 x2 x3 x4 x5 x6 y0 y1 y2 y3 y4 y5 y6 y7 y8 z0 z1 z2 z3 z4 z5 z6 f8 f9 HD
    go_wp2_with fail
    have l1 := d1.load 47 _ Tryz.underlying47 rfl Tryz.sz47
    have l2 := d2.load 134 _ Tryz.underlying134 rfl Tryz.sz134
    refine bodyPost_ret (v := .tuple #[.agg #[.int .u32 r0, .int .u32 r1, .int .u32 r2, .int .u32 r3, .int .u32 r4, .int .u32 r5, .int .u32 r6, .int .u32 r7, .slice p1 n1 c1], .agg #[.int .u32 e0, .bool e1, .int .i64 e2, .bool e3, .bool e4, .int .u32 e5, .int .u32 e6]]) (by simp [results, Tryz.results71, asAddr, l1, l2]) rfl ⟨⟨_, ?_, d3⟩, d4⟩
    rw [HRR.out, HEE.out]
    rfl

end Go.Proofs.YtnpaijbkhmnfpaaGreat
