/- ExecDoes: the law's walk. -/
import Derived.Test.YtdbpeigcnhhpmaaDoeL
import Derived.Test.YtdbpeigcnhhpmaaQPick
import Derived.Lib.QuietBelow
namespace Go.Proofs.Ytdbpeigcnhhpmaa
open Go.RowKit

set_option maxHeartbeats 8000000 in
set_option maxRecDepth 8000 in
theorem does_walk (hdo : DoIs 9) (hrf : DoIs 10) (o a b : Nat) (n pc : Int) (R S D : List Int) (p pq : Option Addr) (s c d dc : Nat) (w : World) (ho : o ≤ 255) (ha : a ≤ 255) (hb : b ≤ 255) (hn : -2147483648 ≤ n ∧ n ≤ 2147483647) (hpc : 0 ≤ pc ∧ pc ≤ 4294967295)
    (lR : R.length = 8) (hR : Wds R) (hS : S.length = s) (hs : s * 4 ≤ 140737488351232) (hD : D.length = d) (hd : d ≤ 140737488351232) (hr : PRow w p S) (hdr : Row w pq D) (hbd : Byt D)
    (haw : ∀ W, Calls Try.prog 16 #[] W fun e w' => e = .returned (.bool true) ∧ Below W.heap.size W w') :
    Calls Try.prog 3 #[.agg #[.int .u8 o, .int .u8 a, .int .u8 b, .int .i32 n, .int .u32 pc, .slice pq d dc], rgV R (.slice p s c)] w fun e w' => e = .returned (.bool true) ∧ Below w.heap.size w w' := by
  have HE := Hid.in (fun W (h1 : PRow W p S) (h2 : Row W pq D) => hrf o a b n pc R S D p pq s c d dc W ho ha hb hpc hn lR hS (by omega) hD (by omega) h1 h2 hbd)
  have HDO := Hid.in (fun W pv cv pd cd (h1 : PRow W pv S) (h2 : Row W pd D) => hdo o a b n pc R S D pv pd s cv d cd W ho ha hb hpc hn lR hS (by omega) hD (by omega) h1 h2 hbd)
  have hC7 := fun W (h : Below w.heap.size w W) => copyRegs_any R p s c S W lR hS (by omega) (hr.below h)
  have hC8 := fun W (h : Below w.heap.size w W) => copy_any pq d dc D W hD (by omega) (hdr.below h)
  have HRG := Hid.in (doL_regs o a b n pc R S D lR hR hbd)
  have HST := Hid.in (doL_stack o a b n pc R S D)
  have HSR := Hid.in (fun (R1 S1 : List Int) (h1 : R1.length = 8) (h2 : Wds R1) W pv pw (s1 : Nat) cv cw (e1 : S1.length = s1) (e2 : s1 ≤ 9223372036854775807) (k1 : PRow W pv S1) (k2 : PRow W pw S1) => sameRegs_any R1 R1 pv pw s1 cv s1 cw S1 S1 W h1 h1 h2 h2 e1 e1 e2 k1 k2)
  simp only [sameB_self, Bool.and_self] at HSR
  have HSB := Hid.in (fun W pv cv (k1 : Row W pv D) (k2 : Row W pq D) => sameBytes_any pv pq d cv d dc D D W hD hD (by omega) k1 k2)
  simp only [sameB_self] at HSB
  have HP13 := Hid.in (fun W => span_any o a b n W ho (by omega) (by omega))
  have HP14 := Hid.in (fun W => rspan_any o a b n W (by omega) (by omega))
  generalize doL o a b n pc R S D = L at *
  obtain ⟨R1, S1, E1⟩ := L
  dsimp only at HE HDO HRG HST
  have HS := Hid.in hS
  have HD := Hid.in hD
  have HWR := Hid.in hR
  have HR0 := Hid.in hr
  have HD0r := Hid.in hdr
  obtain ⟨r0, r1, r2, r3, r4, r5, r6, r7, rfl⟩ := eight lR
  simp only [rgV_eight] at HE HDO hC7 ⊢
  clear hdo hrf ho ha hb hS hD hr hdr hbd hR lR
  go_enter Try.func3, Try.ntmps3
  go_upto_region 1 with fail
  have HA0 : Hid (Blk ((w.alloc (.cells #[.int .u8 o, .int .u8 a, .int .u8 b, .int .i32 n, .int .u32 pc, .slice pq d dc] 28)).alloc (.cells #[.int .u32 r0, .int .u32 r1, .int .u32 r2, .int .u32 r3, .int .u32 r4, .int .u32 r5, .int .u32 r6, .int .u32 r7, .slice p s c] 32)) w.heap.size 28 #[.int .u8 o, .int .u8 a, .int .u8 b, .int .i32 n, .int .u32 pc, .slice pq d dc]) := (Blk.new w 28 _).grow (new_alloc _ _)
  have HB0 : Hid (Blk ((w.alloc (.cells #[.int .u8 o, .int .u8 a, .int .u8 b, .int .i32 n, .int .u32 pc, .slice pq d dc] 28)).alloc (.cells #[.int .u32 r0, .int .u32 r1, .int .u32 r2, .int .u32 r3, .int .u32 r4, .int .u32 r5, .int .u32 r6, .int .u32 r7, .slice p s c] 32)) (w.heap.size + 1) 32 #[.int .u32 r0, .int .u32 r1, .int .u32 r2, .int .u32 r3, .int .u32 r4, .int .u32 r5, .int .u32 r6, .int .u32 r7, .slice p s c]) := by
    have := Blk.new (w.alloc (.cells #[.int .u8 o, .int .u8 a, .int .u8 b, .int .i32 n, .int .u32 pc, .slice pq d dc] 28)) 32 #[.int .u32 r0, .int .u32 r1, .int .u32 r2, .int .u32 r3, .int .u32 r4, .int .u32 r5, .int .u32 r6, .int .u32 r7, .slice p s c]
    rw [size_one] at this
    exact this
  have HW0 : Hid (Below w.heap.size w ((w.alloc (.cells #[.int .u8 o, .int .u8 a, .int .u8 b, .int .i32 n, .int .u32 pc, .slice pq d dc] 28)).alloc (.cells #[.int .u32 r0, .int .u32 r1, .int .u32 r2, .int .u32 r3, .int .u32 r4, .int .u32 r5, .int .u32 r6, .int .u32 r7, .slice p s c] 32))) := below_alloc (new_alloc w _) _
  have HZ0 : Hid (((w.alloc (.cells #[.int .u8 o, .int .u8 a, .int .u8 b, .int .i32 n, .int .u32 pc, .slice pq d dc] 28)).alloc (.cells #[.int .u32 r0, .int .u32 r1, .int .u32 r2, .int .u32 r3, .int .u32 r4, .int .u32 r5, .int .u32 r6, .int .u32 r7, .slice p s c] 32)).heap.size = w.heap.size + 1 + 1) := by show _ = _; rw [size_one, size_one]
  generalize (w.alloc (.cells #[.int .u8 o, .int .u8 a, .int .u8 b, .int .i32 n, .int .u32 pc, .slice pq d dc] 28)).alloc (.cells #[.int .u32 r0, .int .u32 r1, .int .u32 r2, .int .u32 r3, .int .u32 r4, .int .u32 r5, .int .u32 r6, .int .u32 r7, .slice p s c] 32) = w0 at *
  have k0 : w0.cell? ⟨w.heap.size + 1, 0, none⟩ = some (.int .u32 r0) := HB0.out.cell 0
  have k1 : w0.cell? ⟨w.heap.size + 1, 1, none⟩ = some (.int .u32 r1) := HB0.out.cell 1
  have k2 : w0.cell? ⟨w.heap.size + 1, 2, none⟩ = some (.int .u32 r2) := HB0.out.cell 2
  have k3 : w0.cell? ⟨w.heap.size + 1, 3, none⟩ = some (.int .u32 r3) := HB0.out.cell 3
  have k4 : w0.cell? ⟨w.heap.size + 1, 4, none⟩ = some (.int .u32 r4) := HB0.out.cell 4
  have k5 : w0.cell? ⟨w.heap.size + 1, 5, none⟩ = some (.int .u32 r5) := HB0.out.cell 5
  have k6 : w0.cell? ⟨w.heap.size + 1, 6, none⟩ = some (.int .u32 r6) := HB0.out.cell 6
  have k7 : w0.cell? ⟨w.heap.size + 1, 7, none⟩ = some (.int .u32 r7) := HB0.out.cell 7
  have k8 : w0.cell? ⟨w.heap.size + 1, 8, none⟩ = some (.slice p s c) := HB0.out.cell 8
  have k9 : w0.cell? ⟨w.heap.size, 5, none⟩ = some (.slice pq d dc) := HA0.out.cell 5
  have HD0 : Hid (Below w.heap.size w w0.drew) := HW0.out.drew
  have HDZ : Hid (Below w.heap.size w (w0.alloc (.cells #[.int .u32 0, .int .u32 0, .int .u32 0, .int .u32 0, .int .u32 0, .int .u32 0, .int .u32 0, .int .u32 0, .slice none 0 0] 32)).drew) := (below_alloc HW0.out _).drew
  have HAz := Hid.in (HA0.out.grow (new_alloc w0 (.cells #[.int .u32 0, .int .u32 0, .int .u32 0, .int .u32 0, .int .u32 0, .int .u32 0, .int .u32 0, .int .u32 0, .slice none 0 0] 32)))
  have HBz := Hid.in (HB0.out.grow (new_alloc w0 (.cells #[.int .u32 0, .int .u32 0, .int .u32 0, .int .u32 0, .int .u32 0, .int .u32 0, .int .u32 0, .int .u32 0, .slice none 0 0] 32)))
  have HZz := Hid.in (Blk.new w0 32 #[.int .u32 0, .int .u32 0, .int .u32 0, .int .u32 0, .int .u32 0, .int .u32 0, .int .u32 0, .int .u32 0, .slice none 0 0])
  have hl0 : w.heap.size + 1 < w0.heap.size := HB0.out.lt
  go_cut [5, 6] (fun v5 v6 wx => ∃ (g5 : Nat) (p1 : Option Addr) (c1 : Nat) (p6 : Option Addr) (c6 : Nat), v5 = .pointer (some ⟨g5, 0, none⟩) ∧ v6 = .slice p6 d c6 ∧ w.heap.size + 2 ≤ g5 ∧ g5 < wx.heap.size ∧ EIn w w.heap.size wx.heap.size #[.int .u8 o, .int .u8 a, .int .u8 b, .int .i32 n, .int .u32 pc, .slice pq d dc] #[.int .u32 r0, .int .u32 r1, .int .u32 r2, .int .u32 r3, .int .u32 r4, .int .u32 r5, .int .u32 r6, .int .u32 r7, .slice p s c] g5 #[.int .u32 r0, .int .u32 r1, .int .u32 r2, .int .u32 r3, .int .u32 r4, .int .u32 r5, .int .u32 r6, .int .u32 r7, .slice p1 s c1] (w.heap.size + 2) (.slice p1 s c1) S (.slice p6 d c6) D wx)
  case first =>
    go_region_held3 (fun W => W.cell? ⟨w.heap.size + 1, 0, none⟩ = some (.int .u32 r0) ∧ W.cell? ⟨w.heap.size + 1, 1, none⟩ = some (.int .u32 r1) ∧ W.cell? ⟨w.heap.size + 1, 2, none⟩ = some (.int .u32 r2) ∧ W.cell? ⟨w.heap.size + 1, 3, none⟩ = some (.int .u32 r3) ∧ W.cell? ⟨w.heap.size + 1, 4, none⟩ = some (.int .u32 r4) ∧ W.cell? ⟨w.heap.size + 1, 5, none⟩ = some (.int .u32 r5) ∧ W.cell? ⟨w.heap.size + 1, 6, none⟩ = some (.int .u32 r6) ∧ W.cell? ⟨w.heap.size + 1, 7, none⟩ = some (.int .u32 r7) ∧ W.cell? ⟨w.heap.size + 1, 8, none⟩ = some (.slice p s c) ∧ W.cell? ⟨w.heap.size, 5, none⟩ = some (.slice pq d dc)) (first | (with_reducible exact hk1x) | (with_reducible exact hk1z) | (with_reducible exact hk2x) | (with_reducible exact hk2y) | (with_reducible exact hk2z) | (with_reducible exact hk3y) | (with_reducible exact hk3z) | go_keep)
      (first
        | (go_at_call 7; (with_reducible refine (hC7 _ HD0.out).mono ?_); rintro E w1 ⟨⟨v1, rfl, ho1⟩, hb1⟩; obtain ⟨p1, c1, hv1, -, -⟩ := ho1.slice; rw [HS.out] at hv1; subst hv1; have HG1x := Hid.in (below_step (below_draws (below_self w0) 1) hb1); have HA1x := Hid.in (HA0.out.grow HG1x.out); have HB1x := Hid.in (HB0.out.grow HG1x.out); have HW1x := Hid.in (below_step HD0.out hb1); have HO1x := Hid.in ho1; have hl1 : w.heap.size + 1 < w1.heap.size := HB1x.out.lt; have hk1x : w1.cell? ⟨w.heap.size + 1, 0, none⟩ = some (.int .u32 r0) ∧ w1.cell? ⟨w.heap.size + 1, 1, none⟩ = some (.int .u32 r1) ∧ w1.cell? ⟨w.heap.size + 1, 2, none⟩ = some (.int .u32 r2) ∧ w1.cell? ⟨w.heap.size + 1, 3, none⟩ = some (.int .u32 r3) ∧ w1.cell? ⟨w.heap.size + 1, 4, none⟩ = some (.int .u32 r4) ∧ w1.cell? ⟨w.heap.size + 1, 5, none⟩ = some (.int .u32 r5) ∧ w1.cell? ⟨w.heap.size + 1, 6, none⟩ = some (.int .u32 r6) ∧ w1.cell? ⟨w.heap.size + 1, 7, none⟩ = some (.int .u32 r7) ∧ w1.cell? ⟨w.heap.size + 1, 8, none⟩ = some (.slice p s c) ∧ w1.cell? ⟨w.heap.size, 5, none⟩ = some (.slice pq d dc) := ⟨HB1x.out.cell 0, HB1x.out.cell 1, HB1x.out.cell 2, HB1x.out.cell 3, HB1x.out.cell 4, HB1x.out.cell 5, HB1x.out.cell 6, HB1x.out.cell 7, HB1x.out.cell 8, HA1x.out.cell 5⟩; clear ho1 hb1)
        | (go_at_call 7; (with_reducible refine (hC7 _ HDZ.out).mono ?_); rintro E w1 ⟨⟨v1, rfl, ho1⟩, hb1⟩; obtain ⟨p1, c1, hv1, -, -⟩ := ho1.slice; rw [HS.out] at hv1; subst hv1; have HG1z := Hid.in (below_step (below_draws (below_self (w0.alloc (.cells #[.int .u32 0, .int .u32 0, .int .u32 0, .int .u32 0, .int .u32 0, .int .u32 0, .int .u32 0, .int .u32 0, .slice none 0 0] 32))) 1) hb1); have HA1z := Hid.in (HAz.out.grow HG1z.out); have HB1z := Hid.in (HBz.out.grow HG1z.out); have HZ1z := Hid.in (HZz.out.grow HG1z.out); have HW1z := Hid.in (below_step HDZ.out hb1); have HO1z := Hid.in ho1; have hk1z : w1.cell? ⟨w.heap.size + 1, 0, none⟩ = some (.int .u32 r0) ∧ w1.cell? ⟨w.heap.size + 1, 1, none⟩ = some (.int .u32 r1) ∧ w1.cell? ⟨w.heap.size + 1, 2, none⟩ = some (.int .u32 r2) ∧ w1.cell? ⟨w.heap.size + 1, 3, none⟩ = some (.int .u32 r3) ∧ w1.cell? ⟨w.heap.size + 1, 4, none⟩ = some (.int .u32 r4) ∧ w1.cell? ⟨w.heap.size + 1, 5, none⟩ = some (.int .u32 r5) ∧ w1.cell? ⟨w.heap.size + 1, 6, none⟩ = some (.int .u32 r6) ∧ w1.cell? ⟨w.heap.size + 1, 7, none⟩ = some (.int .u32 r7) ∧ w1.cell? ⟨w.heap.size + 1, 8, none⟩ = some (.slice p s c) ∧ w1.cell? ⟨w.heap.size, 5, none⟩ = some (.slice pq d dc) := ⟨HB1z.out.cell 0, HB1z.out.cell 1, HB1z.out.cell 2, HB1z.out.cell 3, HB1z.out.cell 4, HB1z.out.cell 5, HB1z.out.cell 6, HB1z.out.cell 7, HB1z.out.cell 8, HA1z.out.cell 5⟩; have za0 : w1.cell? ⟨w0.heap.size, 0, none⟩ = some (.int .u32 0) := HZ1z.out.cell 0; have za1 : w1.cell? ⟨w0.heap.size, 1, none⟩ = some (.int .u32 0) := HZ1z.out.cell 1; have za2 : w1.cell? ⟨w0.heap.size, 2, none⟩ = some (.int .u32 0) := HZ1z.out.cell 2; have za3 : w1.cell? ⟨w0.heap.size, 3, none⟩ = some (.int .u32 0) := HZ1z.out.cell 3; have za4 : w1.cell? ⟨w0.heap.size, 4, none⟩ = some (.int .u32 0) := HZ1z.out.cell 4; have za5 : w1.cell? ⟨w0.heap.size, 5, none⟩ = some (.int .u32 0) := HZ1z.out.cell 5; have za6 : w1.cell? ⟨w0.heap.size, 6, none⟩ = some (.int .u32 0) := HZ1z.out.cell 6; have za7 : w1.cell? ⟨w0.heap.size, 7, none⟩ = some (.int .u32 0) := HZ1z.out.cell 7; have za8 : w1.cell? ⟨w0.heap.size, 8, none⟩ = some (.slice none 0 0) := HZ1z.out.cell 8; have zaf : ∀ i, w1.frozen? ⟨w0.heap.size, i, none⟩ = false := fun i => HZ1z.out.free i; clear ho1 hb1)
        | (go_at_call 8; (with_reducible refine (hC8 _ HW1x.out).mono ?_); rintro E w2 ⟨v2, rfl, ho2, hb2⟩; obtain ⟨p2, c2, hv2, -, -⟩ := ho2.slice; rw [HD.out] at hv2; subst hv2; have HA2x := Hid.in (HA1x.out.grow hb2); have HB2x := Hid.in (HB1x.out.grow hb2); have HW2x := Hid.in (below_step HW1x.out hb2); have HO2x := Hid.in (HO1x.out.below hb2); have HQ2x := Hid.in ho2; have HN2x := Hid.in hb2.size; have hk2x : w2.cell? ⟨w.heap.size + 1, 0, none⟩ = some (.int .u32 r0) ∧ w2.cell? ⟨w.heap.size + 1, 1, none⟩ = some (.int .u32 r1) ∧ w2.cell? ⟨w.heap.size + 1, 2, none⟩ = some (.int .u32 r2) ∧ w2.cell? ⟨w.heap.size + 1, 3, none⟩ = some (.int .u32 r3) ∧ w2.cell? ⟨w.heap.size + 1, 4, none⟩ = some (.int .u32 r4) ∧ w2.cell? ⟨w.heap.size + 1, 5, none⟩ = some (.int .u32 r5) ∧ w2.cell? ⟨w.heap.size + 1, 6, none⟩ = some (.int .u32 r6) ∧ w2.cell? ⟨w.heap.size + 1, 7, none⟩ = some (.int .u32 r7) ∧ w2.cell? ⟨w.heap.size + 1, 8, none⟩ = some (.slice p s c) ∧ w2.cell? ⟨w.heap.size, 5, none⟩ = some (.slice pq d dc) := ⟨HB2x.out.cell 0, HB2x.out.cell 1, HB2x.out.cell 2, HB2x.out.cell 3, HB2x.out.cell 4, HB2x.out.cell 5, HB2x.out.cell 6, HB2x.out.cell 7, HB2x.out.cell 8, HA2x.out.cell 5⟩; clear ho2 hb2)
        | (go_at_call 8; (with_reducible refine (hC8 _ HW1z.out).mono ?_); rintro E w2 ⟨v2, rfl, ho2, hb2⟩; obtain ⟨p2, c2, hv2, -, -⟩ := ho2.slice; rw [HD.out] at hv2; subst hv2; have HA2z := Hid.in (HA1z.out.grow hb2); have HB2z := Hid.in (HB1z.out.grow hb2); have HZ2z := Hid.in (HZ1z.out.grow hb2); have HW2z := Hid.in (below_step HW1z.out hb2); have HO2z := Hid.in (HO1z.out.below hb2); have HQ2z := Hid.in ho2; have HN2z := Hid.in hb2.size; have hk2z : w2.cell? ⟨w.heap.size + 1, 0, none⟩ = some (.int .u32 r0) ∧ w2.cell? ⟨w.heap.size + 1, 1, none⟩ = some (.int .u32 r1) ∧ w2.cell? ⟨w.heap.size + 1, 2, none⟩ = some (.int .u32 r2) ∧ w2.cell? ⟨w.heap.size + 1, 3, none⟩ = some (.int .u32 r3) ∧ w2.cell? ⟨w.heap.size + 1, 4, none⟩ = some (.int .u32 r4) ∧ w2.cell? ⟨w.heap.size + 1, 5, none⟩ = some (.int .u32 r5) ∧ w2.cell? ⟨w.heap.size + 1, 6, none⟩ = some (.int .u32 r6) ∧ w2.cell? ⟨w.heap.size + 1, 7, none⟩ = some (.int .u32 r7) ∧ w2.cell? ⟨w.heap.size + 1, 8, none⟩ = some (.slice p s c) ∧ w2.cell? ⟨w.heap.size, 5, none⟩ = some (.slice pq d dc) := ⟨HB2z.out.cell 0, HB2z.out.cell 1, HB2z.out.cell 2, HB2z.out.cell 3, HB2z.out.cell 4, HB2z.out.cell 5, HB2z.out.cell 6, HB2z.out.cell 7, HB2z.out.cell 8, HA2z.out.cell 5⟩; have zb0 : w2.cell? ⟨w0.heap.size, 0, none⟩ = some (.int .u32 0) := HZ2z.out.cell 0; have zb1 : w2.cell? ⟨w0.heap.size, 1, none⟩ = some (.int .u32 0) := HZ2z.out.cell 1; have zb2 : w2.cell? ⟨w0.heap.size, 2, none⟩ = some (.int .u32 0) := HZ2z.out.cell 2; have zb3 : w2.cell? ⟨w0.heap.size, 3, none⟩ = some (.int .u32 0) := HZ2z.out.cell 3; have zb4 : w2.cell? ⟨w0.heap.size, 4, none⟩ = some (.int .u32 0) := HZ2z.out.cell 4; have zb5 : w2.cell? ⟨w0.heap.size, 5, none⟩ = some (.int .u32 0) := HZ2z.out.cell 5; have zb6 : w2.cell? ⟨w0.heap.size, 6, none⟩ = some (.int .u32 0) := HZ2z.out.cell 6; have zb7 : w2.cell? ⟨w0.heap.size, 7, none⟩ = some (.int .u32 0) := HZ2z.out.cell 7; have zb8 : w2.cell? ⟨w0.heap.size, 8, none⟩ = some (.slice none 0 0) := HZ2z.out.cell 8; have zbf : ∀ i, w2.frozen? ⟨w0.heap.size, i, none⟩ = false := fun i => HZ2z.out.free i; have HG3z : Hid (w2.grownBy (((((((((w2.setCell ⟨w0.heap.size, 0, none⟩ (.int .u32 r0)).setCell ⟨w0.heap.size, 1, none⟩ (.int .u32 r1)).setCell ⟨w0.heap.size, 2, none⟩ (.int .u32 r2)).setCell ⟨w0.heap.size, 3, none⟩ (.int .u32 r3)).setCell ⟨w0.heap.size, 4, none⟩ (.int .u32 r4)).setCell ⟨w0.heap.size, 5, none⟩ (.int .u32 r5)).setCell ⟨w0.heap.size, 6, none⟩ (.int .u32 r6)).setCell ⟨w0.heap.size, 7, none⟩ (.int .u32 r7)).setCell ⟨w0.heap.size, 8, none⟩ (.slice p1 s c1)) (some w0.heap.size)) := grown_setCells w0.heap.size [.int .u32 r0, .int .u32 r1, .int .u32 r2, .int .u32 r3, .int .u32 r4, .int .u32 r5, .int .u32 r6, .int .u32 r7, .slice p1 s c1] 0 w2; have HA3z := Hid.in (HA2z.out.kept HG3z.out (by intro e; injection e with e; have := hl0; omega)); have HB3z := Hid.in (HB2z.out.kept HG3z.out (by intro e; injection e with e; have := hl0; omega)); have hk3z : (((((((((w2.setCell ⟨w0.heap.size, 0, none⟩ (.int .u32 r0)).setCell ⟨w0.heap.size, 1, none⟩ (.int .u32 r1)).setCell ⟨w0.heap.size, 2, none⟩ (.int .u32 r2)).setCell ⟨w0.heap.size, 3, none⟩ (.int .u32 r3)).setCell ⟨w0.heap.size, 4, none⟩ (.int .u32 r4)).setCell ⟨w0.heap.size, 5, none⟩ (.int .u32 r5)).setCell ⟨w0.heap.size, 6, none⟩ (.int .u32 r6)).setCell ⟨w0.heap.size, 7, none⟩ (.int .u32 r7)).setCell ⟨w0.heap.size, 8, none⟩ (.slice p1 s c1)).cell? ⟨w.heap.size + 1, 0, none⟩ = some (.int .u32 r0) ∧ (((((((((w2.setCell ⟨w0.heap.size, 0, none⟩ (.int .u32 r0)).setCell ⟨w0.heap.size, 1, none⟩ (.int .u32 r1)).setCell ⟨w0.heap.size, 2, none⟩ (.int .u32 r2)).setCell ⟨w0.heap.size, 3, none⟩ (.int .u32 r3)).setCell ⟨w0.heap.size, 4, none⟩ (.int .u32 r4)).setCell ⟨w0.heap.size, 5, none⟩ (.int .u32 r5)).setCell ⟨w0.heap.size, 6, none⟩ (.int .u32 r6)).setCell ⟨w0.heap.size, 7, none⟩ (.int .u32 r7)).setCell ⟨w0.heap.size, 8, none⟩ (.slice p1 s c1)).cell? ⟨w.heap.size + 1, 1, none⟩ = some (.int .u32 r1) ∧ (((((((((w2.setCell ⟨w0.heap.size, 0, none⟩ (.int .u32 r0)).setCell ⟨w0.heap.size, 1, none⟩ (.int .u32 r1)).setCell ⟨w0.heap.size, 2, none⟩ (.int .u32 r2)).setCell ⟨w0.heap.size, 3, none⟩ (.int .u32 r3)).setCell ⟨w0.heap.size, 4, none⟩ (.int .u32 r4)).setCell ⟨w0.heap.size, 5, none⟩ (.int .u32 r5)).setCell ⟨w0.heap.size, 6, none⟩ (.int .u32 r6)).setCell ⟨w0.heap.size, 7, none⟩ (.int .u32 r7)).setCell ⟨w0.heap.size, 8, none⟩ (.slice p1 s c1)).cell? ⟨w.heap.size + 1, 2, none⟩ = some (.int .u32 r2) ∧ (((((((((w2.setCell ⟨w0.heap.size, 0, none⟩ (.int .u32 r0)).setCell ⟨w0.heap.size, 1, none⟩ (.int .u32 r1)).setCell ⟨w0.heap.size, 2, none⟩ (.int .u32 r2)).setCell ⟨w0.heap.size, 3, none⟩ (.int .u32 r3)).setCell ⟨w0.heap.size, 4, none⟩ (.int .u32 r4)).setCell ⟨w0.heap.size, 5, none⟩ (.int .u32 r5)).setCell ⟨w0.heap.size, 6, none⟩ (.int .u32 r6)).setCell ⟨w0.heap.size, 7, none⟩ (.int .u32 r7)).setCell ⟨w0.heap.size, 8, none⟩ (.slice p1 s c1)).cell? ⟨w.heap.size + 1, 3, none⟩ = some (.int .u32 r3) ∧ (((((((((w2.setCell ⟨w0.heap.size, 0, none⟩ (.int .u32 r0)).setCell ⟨w0.heap.size, 1, none⟩ (.int .u32 r1)).setCell ⟨w0.heap.size, 2, none⟩ (.int .u32 r2)).setCell ⟨w0.heap.size, 3, none⟩ (.int .u32 r3)).setCell ⟨w0.heap.size, 4, none⟩ (.int .u32 r4)).setCell ⟨w0.heap.size, 5, none⟩ (.int .u32 r5)).setCell ⟨w0.heap.size, 6, none⟩ (.int .u32 r6)).setCell ⟨w0.heap.size, 7, none⟩ (.int .u32 r7)).setCell ⟨w0.heap.size, 8, none⟩ (.slice p1 s c1)).cell? ⟨w.heap.size + 1, 4, none⟩ = some (.int .u32 r4) ∧ (((((((((w2.setCell ⟨w0.heap.size, 0, none⟩ (.int .u32 r0)).setCell ⟨w0.heap.size, 1, none⟩ (.int .u32 r1)).setCell ⟨w0.heap.size, 2, none⟩ (.int .u32 r2)).setCell ⟨w0.heap.size, 3, none⟩ (.int .u32 r3)).setCell ⟨w0.heap.size, 4, none⟩ (.int .u32 r4)).setCell ⟨w0.heap.size, 5, none⟩ (.int .u32 r5)).setCell ⟨w0.heap.size, 6, none⟩ (.int .u32 r6)).setCell ⟨w0.heap.size, 7, none⟩ (.int .u32 r7)).setCell ⟨w0.heap.size, 8, none⟩ (.slice p1 s c1)).cell? ⟨w.heap.size + 1, 5, none⟩ = some (.int .u32 r5) ∧ (((((((((w2.setCell ⟨w0.heap.size, 0, none⟩ (.int .u32 r0)).setCell ⟨w0.heap.size, 1, none⟩ (.int .u32 r1)).setCell ⟨w0.heap.size, 2, none⟩ (.int .u32 r2)).setCell ⟨w0.heap.size, 3, none⟩ (.int .u32 r3)).setCell ⟨w0.heap.size, 4, none⟩ (.int .u32 r4)).setCell ⟨w0.heap.size, 5, none⟩ (.int .u32 r5)).setCell ⟨w0.heap.size, 6, none⟩ (.int .u32 r6)).setCell ⟨w0.heap.size, 7, none⟩ (.int .u32 r7)).setCell ⟨w0.heap.size, 8, none⟩ (.slice p1 s c1)).cell? ⟨w.heap.size + 1, 6, none⟩ = some (.int .u32 r6) ∧ (((((((((w2.setCell ⟨w0.heap.size, 0, none⟩ (.int .u32 r0)).setCell ⟨w0.heap.size, 1, none⟩ (.int .u32 r1)).setCell ⟨w0.heap.size, 2, none⟩ (.int .u32 r2)).setCell ⟨w0.heap.size, 3, none⟩ (.int .u32 r3)).setCell ⟨w0.heap.size, 4, none⟩ (.int .u32 r4)).setCell ⟨w0.heap.size, 5, none⟩ (.int .u32 r5)).setCell ⟨w0.heap.size, 6, none⟩ (.int .u32 r6)).setCell ⟨w0.heap.size, 7, none⟩ (.int .u32 r7)).setCell ⟨w0.heap.size, 8, none⟩ (.slice p1 s c1)).cell? ⟨w.heap.size + 1, 7, none⟩ = some (.int .u32 r7) ∧ (((((((((w2.setCell ⟨w0.heap.size, 0, none⟩ (.int .u32 r0)).setCell ⟨w0.heap.size, 1, none⟩ (.int .u32 r1)).setCell ⟨w0.heap.size, 2, none⟩ (.int .u32 r2)).setCell ⟨w0.heap.size, 3, none⟩ (.int .u32 r3)).setCell ⟨w0.heap.size, 4, none⟩ (.int .u32 r4)).setCell ⟨w0.heap.size, 5, none⟩ (.int .u32 r5)).setCell ⟨w0.heap.size, 6, none⟩ (.int .u32 r6)).setCell ⟨w0.heap.size, 7, none⟩ (.int .u32 r7)).setCell ⟨w0.heap.size, 8, none⟩ (.slice p1 s c1)).cell? ⟨w.heap.size + 1, 8, none⟩ = some (.slice p s c) ∧ (((((((((w2.setCell ⟨w0.heap.size, 0, none⟩ (.int .u32 r0)).setCell ⟨w0.heap.size, 1, none⟩ (.int .u32 r1)).setCell ⟨w0.heap.size, 2, none⟩ (.int .u32 r2)).setCell ⟨w0.heap.size, 3, none⟩ (.int .u32 r3)).setCell ⟨w0.heap.size, 4, none⟩ (.int .u32 r4)).setCell ⟨w0.heap.size, 5, none⟩ (.int .u32 r5)).setCell ⟨w0.heap.size, 6, none⟩ (.int .u32 r6)).setCell ⟨w0.heap.size, 7, none⟩ (.int .u32 r7)).setCell ⟨w0.heap.size, 8, none⟩ (.slice p1 s c1)).cell? ⟨w.heap.size, 5, none⟩ = some (.slice pq d dc) := ⟨HB3z.out.cell 0, HB3z.out.cell 1, HB3z.out.cell 2, HB3z.out.cell 3, HB3z.out.cell 4, HB3z.out.cell 5, HB3z.out.cell 6, HB3z.out.cell 7, HB3z.out.cell 8, HA3z.out.cell 5⟩; clear ho2 hb2)
        | (go_at_call 8; (with_reducible refine (hC8 _ (below_alloc HW1x.out _)).mono ?_); rintro E w2 ⟨v2, rfl, ho2, hb2⟩; obtain ⟨p2, c2, hv2, -, -⟩ := ho2.slice; rw [HD.out] at hv2; subst hv2; have HA2y := Hid.in ((HA1x.out.grow (new_alloc _ _)).grow hb2); have HB2y := Hid.in ((HB1x.out.grow (new_alloc _ _)).grow hb2); have HZ2y := Hid.in ((Blk.new w1 32 #[.int .u32 0, .int .u32 0, .int .u32 0, .int .u32 0, .int .u32 0, .int .u32 0, .int .u32 0, .int .u32 0, .slice none 0 0]).grow hb2); have HW2y := Hid.in (below_step (below_alloc HW1x.out _) hb2); have HO2y := Hid.in ((HO1x.out.below (new_alloc _ _)).below hb2); have HQ2y := Hid.in ho2; have HN2y := Hid.in hb2.size; have hk2y : w2.cell? ⟨w.heap.size + 1, 0, none⟩ = some (.int .u32 r0) ∧ w2.cell? ⟨w.heap.size + 1, 1, none⟩ = some (.int .u32 r1) ∧ w2.cell? ⟨w.heap.size + 1, 2, none⟩ = some (.int .u32 r2) ∧ w2.cell? ⟨w.heap.size + 1, 3, none⟩ = some (.int .u32 r3) ∧ w2.cell? ⟨w.heap.size + 1, 4, none⟩ = some (.int .u32 r4) ∧ w2.cell? ⟨w.heap.size + 1, 5, none⟩ = some (.int .u32 r5) ∧ w2.cell? ⟨w.heap.size + 1, 6, none⟩ = some (.int .u32 r6) ∧ w2.cell? ⟨w.heap.size + 1, 7, none⟩ = some (.int .u32 r7) ∧ w2.cell? ⟨w.heap.size + 1, 8, none⟩ = some (.slice p s c) ∧ w2.cell? ⟨w.heap.size, 5, none⟩ = some (.slice pq d dc) := ⟨HB2y.out.cell 0, HB2y.out.cell 1, HB2y.out.cell 2, HB2y.out.cell 3, HB2y.out.cell 4, HB2y.out.cell 5, HB2y.out.cell 6, HB2y.out.cell 7, HB2y.out.cell 8, HA2y.out.cell 5⟩; have zc0 : w2.cell? ⟨w1.heap.size, 0, none⟩ = some (.int .u32 0) := HZ2y.out.cell 0; have zc1 : w2.cell? ⟨w1.heap.size, 1, none⟩ = some (.int .u32 0) := HZ2y.out.cell 1; have zc2 : w2.cell? ⟨w1.heap.size, 2, none⟩ = some (.int .u32 0) := HZ2y.out.cell 2; have zc3 : w2.cell? ⟨w1.heap.size, 3, none⟩ = some (.int .u32 0) := HZ2y.out.cell 3; have zc4 : w2.cell? ⟨w1.heap.size, 4, none⟩ = some (.int .u32 0) := HZ2y.out.cell 4; have zc5 : w2.cell? ⟨w1.heap.size, 5, none⟩ = some (.int .u32 0) := HZ2y.out.cell 5; have zc6 : w2.cell? ⟨w1.heap.size, 6, none⟩ = some (.int .u32 0) := HZ2y.out.cell 6; have zc7 : w2.cell? ⟨w1.heap.size, 7, none⟩ = some (.int .u32 0) := HZ2y.out.cell 7; have zc8 : w2.cell? ⟨w1.heap.size, 8, none⟩ = some (.slice none 0 0) := HZ2y.out.cell 8; have zcf : ∀ i, w2.frozen? ⟨w1.heap.size, i, none⟩ = false := fun i => HZ2y.out.free i; have HG3y : Hid (w2.grownBy (((((((((w2.setCell ⟨w1.heap.size, 0, none⟩ (.int .u32 r0)).setCell ⟨w1.heap.size, 1, none⟩ (.int .u32 r1)).setCell ⟨w1.heap.size, 2, none⟩ (.int .u32 r2)).setCell ⟨w1.heap.size, 3, none⟩ (.int .u32 r3)).setCell ⟨w1.heap.size, 4, none⟩ (.int .u32 r4)).setCell ⟨w1.heap.size, 5, none⟩ (.int .u32 r5)).setCell ⟨w1.heap.size, 6, none⟩ (.int .u32 r6)).setCell ⟨w1.heap.size, 7, none⟩ (.int .u32 r7)).setCell ⟨w1.heap.size, 8, none⟩ (.slice p1 s c1)) (some w1.heap.size)) := grown_setCells w1.heap.size [.int .u32 r0, .int .u32 r1, .int .u32 r2, .int .u32 r3, .int .u32 r4, .int .u32 r5, .int .u32 r6, .int .u32 r7, .slice p1 s c1] 0 w2; have HA3y := Hid.in (HA2y.out.kept HG3y.out (by intro e; injection e with e; have := hl1; omega)); have HB3y := Hid.in (HB2y.out.kept HG3y.out (by intro e; injection e with e; have := hl1; omega)); have hk3y : (((((((((w2.setCell ⟨w1.heap.size, 0, none⟩ (.int .u32 r0)).setCell ⟨w1.heap.size, 1, none⟩ (.int .u32 r1)).setCell ⟨w1.heap.size, 2, none⟩ (.int .u32 r2)).setCell ⟨w1.heap.size, 3, none⟩ (.int .u32 r3)).setCell ⟨w1.heap.size, 4, none⟩ (.int .u32 r4)).setCell ⟨w1.heap.size, 5, none⟩ (.int .u32 r5)).setCell ⟨w1.heap.size, 6, none⟩ (.int .u32 r6)).setCell ⟨w1.heap.size, 7, none⟩ (.int .u32 r7)).setCell ⟨w1.heap.size, 8, none⟩ (.slice p1 s c1)).cell? ⟨w.heap.size + 1, 0, none⟩ = some (.int .u32 r0) ∧ (((((((((w2.setCell ⟨w1.heap.size, 0, none⟩ (.int .u32 r0)).setCell ⟨w1.heap.size, 1, none⟩ (.int .u32 r1)).setCell ⟨w1.heap.size, 2, none⟩ (.int .u32 r2)).setCell ⟨w1.heap.size, 3, none⟩ (.int .u32 r3)).setCell ⟨w1.heap.size, 4, none⟩ (.int .u32 r4)).setCell ⟨w1.heap.size, 5, none⟩ (.int .u32 r5)).setCell ⟨w1.heap.size, 6, none⟩ (.int .u32 r6)).setCell ⟨w1.heap.size, 7, none⟩ (.int .u32 r7)).setCell ⟨w1.heap.size, 8, none⟩ (.slice p1 s c1)).cell? ⟨w.heap.size + 1, 1, none⟩ = some (.int .u32 r1) ∧ (((((((((w2.setCell ⟨w1.heap.size, 0, none⟩ (.int .u32 r0)).setCell ⟨w1.heap.size, 1, none⟩ (.int .u32 r1)).setCell ⟨w1.heap.size, 2, none⟩ (.int .u32 r2)).setCell ⟨w1.heap.size, 3, none⟩ (.int .u32 r3)).setCell ⟨w1.heap.size, 4, none⟩ (.int .u32 r4)).setCell ⟨w1.heap.size, 5, none⟩ (.int .u32 r5)).setCell ⟨w1.heap.size, 6, none⟩ (.int .u32 r6)).setCell ⟨w1.heap.size, 7, none⟩ (.int .u32 r7)).setCell ⟨w1.heap.size, 8, none⟩ (.slice p1 s c1)).cell? ⟨w.heap.size + 1, 2, none⟩ = some (.int .u32 r2) ∧ (((((((((w2.setCell ⟨w1.heap.size, 0, none⟩ (.int .u32 r0)).setCell ⟨w1.heap.size, 1, none⟩ (.int .u32 r1)).setCell ⟨w1.heap.size, 2, none⟩ (.int .u32 r2)).setCell ⟨w1.heap.size, 3, none⟩ (.int .u32 r3)).setCell ⟨w1.heap.size, 4, none⟩ (.int .u32 r4)).setCell ⟨w1.heap.size, 5, none⟩ (.int .u32 r5)).setCell ⟨w1.heap.size, 6, none⟩ (.int .u32 r6)).setCell ⟨w1.heap.size, 7, none⟩ (.int .u32 r7)).setCell ⟨w1.heap.size, 8, none⟩ (.slice p1 s c1)).cell? ⟨w.heap.size + 1, 3, none⟩ = some (.int .u32 r3) ∧ (((((((((w2.setCell ⟨w1.heap.size, 0, none⟩ (.int .u32 r0)).setCell ⟨w1.heap.size, 1, none⟩ (.int .u32 r1)).setCell ⟨w1.heap.size, 2, none⟩ (.int .u32 r2)).setCell ⟨w1.heap.size, 3, none⟩ (.int .u32 r3)).setCell ⟨w1.heap.size, 4, none⟩ (.int .u32 r4)).setCell ⟨w1.heap.size, 5, none⟩ (.int .u32 r5)).setCell ⟨w1.heap.size, 6, none⟩ (.int .u32 r6)).setCell ⟨w1.heap.size, 7, none⟩ (.int .u32 r7)).setCell ⟨w1.heap.size, 8, none⟩ (.slice p1 s c1)).cell? ⟨w.heap.size + 1, 4, none⟩ = some (.int .u32 r4) ∧ (((((((((w2.setCell ⟨w1.heap.size, 0, none⟩ (.int .u32 r0)).setCell ⟨w1.heap.size, 1, none⟩ (.int .u32 r1)).setCell ⟨w1.heap.size, 2, none⟩ (.int .u32 r2)).setCell ⟨w1.heap.size, 3, none⟩ (.int .u32 r3)).setCell ⟨w1.heap.size, 4, none⟩ (.int .u32 r4)).setCell ⟨w1.heap.size, 5, none⟩ (.int .u32 r5)).setCell ⟨w1.heap.size, 6, none⟩ (.int .u32 r6)).setCell ⟨w1.heap.size, 7, none⟩ (.int .u32 r7)).setCell ⟨w1.heap.size, 8, none⟩ (.slice p1 s c1)).cell? ⟨w.heap.size + 1, 5, none⟩ = some (.int .u32 r5) ∧ (((((((((w2.setCell ⟨w1.heap.size, 0, none⟩ (.int .u32 r0)).setCell ⟨w1.heap.size, 1, none⟩ (.int .u32 r1)).setCell ⟨w1.heap.size, 2, none⟩ (.int .u32 r2)).setCell ⟨w1.heap.size, 3, none⟩ (.int .u32 r3)).setCell ⟨w1.heap.size, 4, none⟩ (.int .u32 r4)).setCell ⟨w1.heap.size, 5, none⟩ (.int .u32 r5)).setCell ⟨w1.heap.size, 6, none⟩ (.int .u32 r6)).setCell ⟨w1.heap.size, 7, none⟩ (.int .u32 r7)).setCell ⟨w1.heap.size, 8, none⟩ (.slice p1 s c1)).cell? ⟨w.heap.size + 1, 6, none⟩ = some (.int .u32 r6) ∧ (((((((((w2.setCell ⟨w1.heap.size, 0, none⟩ (.int .u32 r0)).setCell ⟨w1.heap.size, 1, none⟩ (.int .u32 r1)).setCell ⟨w1.heap.size, 2, none⟩ (.int .u32 r2)).setCell ⟨w1.heap.size, 3, none⟩ (.int .u32 r3)).setCell ⟨w1.heap.size, 4, none⟩ (.int .u32 r4)).setCell ⟨w1.heap.size, 5, none⟩ (.int .u32 r5)).setCell ⟨w1.heap.size, 6, none⟩ (.int .u32 r6)).setCell ⟨w1.heap.size, 7, none⟩ (.int .u32 r7)).setCell ⟨w1.heap.size, 8, none⟩ (.slice p1 s c1)).cell? ⟨w.heap.size + 1, 7, none⟩ = some (.int .u32 r7) ∧ (((((((((w2.setCell ⟨w1.heap.size, 0, none⟩ (.int .u32 r0)).setCell ⟨w1.heap.size, 1, none⟩ (.int .u32 r1)).setCell ⟨w1.heap.size, 2, none⟩ (.int .u32 r2)).setCell ⟨w1.heap.size, 3, none⟩ (.int .u32 r3)).setCell ⟨w1.heap.size, 4, none⟩ (.int .u32 r4)).setCell ⟨w1.heap.size, 5, none⟩ (.int .u32 r5)).setCell ⟨w1.heap.size, 6, none⟩ (.int .u32 r6)).setCell ⟨w1.heap.size, 7, none⟩ (.int .u32 r7)).setCell ⟨w1.heap.size, 8, none⟩ (.slice p1 s c1)).cell? ⟨w.heap.size + 1, 8, none⟩ = some (.slice p s c) ∧ (((((((((w2.setCell ⟨w1.heap.size, 0, none⟩ (.int .u32 r0)).setCell ⟨w1.heap.size, 1, none⟩ (.int .u32 r1)).setCell ⟨w1.heap.size, 2, none⟩ (.int .u32 r2)).setCell ⟨w1.heap.size, 3, none⟩ (.int .u32 r3)).setCell ⟨w1.heap.size, 4, none⟩ (.int .u32 r4)).setCell ⟨w1.heap.size, 5, none⟩ (.int .u32 r5)).setCell ⟨w1.heap.size, 6, none⟩ (.int .u32 r6)).setCell ⟨w1.heap.size, 7, none⟩ (.int .u32 r7)).setCell ⟨w1.heap.size, 8, none⟩ (.slice p1 s c1)).cell? ⟨w.heap.size, 5, none⟩ = some (.slice pq d dc) := ⟨HB3y.out.cell 0, HB3y.out.cell 1, HB3y.out.cell 2, HB3y.out.cell 3, HB3y.out.cell 4, HB3y.out.cell 5, HB3y.out.cell 6, HB3y.out.cell 7, HB3y.out.cell 8, HA3y.out.cell 5⟩; clear ho2 hb2))
    · go_wp2_with fail
      go_meet
      case rel =>
        obtain ⟨m1, m2, m3⟩ := ein_new #[.int .u32 r0, .int .u32 r1, .int .u32 r2, .int .u32 r3, .int .u32 r4, .int .u32 r5, .int .u32 r6, .int .u32 r7, .slice p1 s c1] rfl HA2x.out HB2x.out HO2x.out HQ2x.out HW2x.out (by have := HZ0.out; show w.heap.size + 2 ≤ w0.heap.size; omega) (by omega)
        exact ⟨_, p1, c1, p2, c2, rfl, rfl, m1, m2, m3⟩
    · go_wp2_with fail
      go_meet
      case rel =>
        obtain ⟨m1, m2, m3⟩ := ein_set #[.int .u32 r0, .int .u32 r1, .int .u32 r2, .int .u32 r3, .int .u32 r4, .int .u32 r5, .int .u32 r6, .int .u32 r7, .slice p1 s c1] rfl HA2y.out HB2y.out HO2y.out HQ2y.out HW2y.out (by have := HZ0.out; show w.heap.size + 2 ≤ w0.heap.size; omega) (by rw [size_one]; omega) HZ2y.out rfl (by omega)
        exact ⟨_, p1, c1, p2, c2, rfl, rfl, m1, m2, m3⟩
    · go_wp2_with fail
      go_meet
      case rel =>
        obtain ⟨m1, m2, m3⟩ := ein_set #[.int .u32 r0, .int .u32 r1, .int .u32 r2, .int .u32 r3, .int .u32 r4, .int .u32 r5, .int .u32 r6, .int .u32 r7, .slice p1 s c1] rfl HA2z.out HB2z.out HO2z.out HQ2z.out HW2z.out (by have := HZ0.out; have := size_one w0 (.cells #[.int .u32 0, .int .u32 0, .int .u32 0, .int .u32 0, .int .u32 0, .int .u32 0, .int .u32 0, .int .u32 0, .slice none 0 0] 32); show w.heap.size + 2 ≤ (w0.alloc (.cells #[.int .u32 0, .int .u32 0, .int .u32 0, .int .u32 0, .int .u32 0, .int .u32 0, .int .u32 0, .int .u32 0, .slice none 0 0] 32)).heap.size; omega) (by have := HB1z.out.lt; omega) HZ2z.out rfl (by omega)
        exact ⟨_, p1, c1, p2, c2, rfl, rfl, m1, m2, m3⟩
  case rest =>
    obtain ⟨g5, p1, c1, p6, c6, rfl, rfl, hg5, hg5', hein⟩ := hcut
    clear k0 k1 k2 k3 k4 k5 k6 k7 k8 k9 HA0 HB0 HW0 HZ0 HD0 HDZ HAz HBz HZz hl0 hC7 hC8
    have HI0 := Hid.in hein
    clear hein
    have HIA : Hid (EIn w w.heap.size wc.heap.size #[.int .u8 o, .int .u8 a, .int .u8 b, .int .i32 n, .int .u32 pc, .slice pq d dc] #[.int .u32 r0, .int .u32 r1, .int .u32 r2, .int .u32 r3, .int .u32 r4, .int .u32 r5, .int .u32 r6, .int .u32 r7, .slice p s c] g5 #[.int .u32 r0, .int .u32 r1, .int .u32 r2, .int .u32 r3, .int .u32 r4, .int .u32 r5, .int .u32 r6, .int .u32 r7, .slice p1 s c1] (w.heap.size + 2) (.slice p1 s c1) S (.slice p6 d c6) D ((wc.alloc (.cells #[.int .u32 9] 25)).drew)) := (HI0.out.grow (Nat.le_refl _) (new_alloc _ _)).drew
    have HIB : Hid (EIn w w.heap.size wc.heap.size #[.int .u8 o, .int .u8 a, .int .u8 b, .int .i32 n, .int .u32 pc, .slice pq d dc] #[.int .u32 r0, .int .u32 r1, .int .u32 r2, .int .u32 r3, .int .u32 r4, .int .u32 r5, .int .u32 r6, .int .u32 r7, .slice p s c] g5 #[.int .u32 r0, .int .u32 r1, .int .u32 r2, .int .u32 r3, .int .u32 r4, .int .u32 r5, .int .u32 r6, .int .u32 r7, .slice p1 s c1] (w.heap.size + 2) (.slice p1 s c1) S (.slice p6 d c6) D (((wc.alloc (.cells #[.int .u32 9] 25)).alloc (.cells #[.int .u32 9] 25)).drew)) := (HI0.out.grow (Nat.le_refl _) (below_alloc (new_alloc _ _) _)).drew
    have HNA : Hid (Blk ((wc.alloc (.cells #[.int .u32 9] 25)).drew) wc.heap.size 25 #[.int .u32 9]) := Blk.new wc 25 #[.int .u32 9]
    have HNB : Hid (Blk (((wc.alloc (.cells #[.int .u32 9] 25)).alloc (.cells #[.int .u32 9] 25)).drew) wc.heap.size 25 #[.int .u32 9]) := (Blk.new wc 25 #[.int .u32 9]).grow (new_alloc _ _).drew
    have HNC : Hid (Blk (((wc.alloc (.cells #[.int .u32 9] 25)).alloc (.cells #[.int .u32 9] 25)).drew) (wc.heap.size + 1) 25 #[.int .u32 9]) := by
      have := Blk.new (wc.alloc (.cells #[.int .u32 9] 25)) 25 #[.int .u32 9]
      rw [size_one] at this
      exact this
    have HLT : Hid (∀ g, (Value.slice p1 s c1).ownBlock = some g → g < wc.heap.size) := fun g hg => (HI0.out.oi.ltBlock g hg).2
    have e5 : wc.cell? ⟨g5, 8, none⟩ = some (.slice p1 s c1) := HI0.out.bi.cell 8
    have e3 : wc.cell? ⟨w.heap.size + 1, 8, none⟩ = some (.slice p s c) := HI0.out.br.cell 8
    have hl1 : (s + 1) * 4 ≤ 140737488355328 := by omega
    have hl2 : (s + 1 + 1) * 4 ≤ 140737488355328 := by omega
    have HL2 : Hid ((S ++ [9]).length = s + 1) := by show _ = _; simp [HS.out]
    have hqw : w.heap.size + 2 ≤ wc.heap.size := by omega
    go_upto_region 2 with fail
    go_cut [29] from 20 to 30 (fun _ wx => ∃ (gi c4 top : Nat), s + 2 ≤ c4 ∧ top ≤ wx.heap.size ∧ EIn w w.heap.size top #[.int .u8 o, .int .u8 a, .int .u8 b, .int .i32 n, .int .u32 pc, .slice pq d dc] #[.int .u32 r0, .int .u32 r1, .int .u32 r2, .int .u32 r3, .int .u32 r4, .int .u32 r5, .int .u32 r6, .int .u32 r7, .slice p s c] g5 #[.int .u32 r0, .int .u32 r1, .int .u32 r2, .int .u32 r3, .int .u32 r4, .int .u32 r5, .int .u32 r6, .int .u32 r7, .slice (some ⟨gi, 0, none⟩) s c4] (w.heap.size + 2) (.slice (some ⟨gi, 0, none⟩) (s + 2) c4) (S ++ [9, 9]) (.slice p6 d c6) D wx)
    case first =>
      refine wp_region_noPanic ?_
      refine wp_region_G (fun W => W.cell? ⟨g5, 8, none⟩ = some (.slice p1 s c1) ∧ W.cell? ⟨w.heap.size + 1, 8, none⟩ = some (.slice p s c)) [11] (by kernel_rfl) ?_
      have hS0 : wc.drew.cell? ⟨g5, 8, none⟩ = some (.slice p1 s c1) ∧ wc.drew.cell? ⟨w.heap.size + 1, 8, none⟩ = some (.slice p s c) := ⟨e5, e3⟩
      refine wpAnyG_takeW (i := 0) (v := .pointer (some ⟨g5, 8, none⟩)) rfl (by kernel_rfl) (by kernel_rfl) (by kernel_rfl) (fun _ _ _ h => h) (Closed.start _) (by kernel_rfl) (fun W => by go_simp) ?_
      refine wpAnyG_takeS (i := 1) (v := .slice p1 s c1) rfl (by kernel_rfl) (by kernel_rfl) (by kernel_rfl) (by kernel_rfl) (fun _ _ _ _ _ h => h) (Closed.picked (ex := [11]) [0] _ (by kernel_rfl) (Closed.start _)) (by kernel_rfl) hS0 (fun W hW => by obtain ⟨q5, q3⟩ := hW; go_simp) ?_
      refine wpAnyG_takeW (i := 6) (v := .pointer (some ⟨w.heap.size + 1, 8, none⟩)) rfl (by kernel_rfl) (by kernel_rfl) (by kernel_rfl) (fun _ _ _ h => h) (Closed.picked (ex := [11]) [0, 1] _ (by kernel_rfl) (Closed.start _)) (by kernel_rfl) (fun W => by go_simp) ?_
      refine wpAnyG_takeS (i := 7) (v := .slice p s c) rfl (by kernel_rfl) (by kernel_rfl) (by kernel_rfl) (by kernel_rfl) (fun _ _ _ _ _ h => h) (Closed.picked (ex := [11]) [0, 1, 6] _ (by kernel_rfl) (Closed.start _)) (by kernel_rfl) hS0 (fun W hW => by obtain ⟨q5, q3⟩ := hW; go_simp) ?_
      refine wpAnyG_takeW (i := 8) (v := .int .i64 s) rfl (by kernel_rfl) (by kernel_rfl) (by kernel_rfl) (fun _ _ _ h => h) (Closed.picked (ex := [11]) [0, 1, 6, 7] _ (by kernel_rfl) (Closed.start _)) (by kernel_rfl) (fun W => by go_simp) ?_
      refine wpAnyG_two (i := 2) (j := 4) (by kernel_rfl) rfl rfl (fun K hK => ?_) (fun K hK => ?_)
      · go_simp
        refine hK.out _ _ ⟨HIA.out.bi.cell 8, HIA.out.br.cell 8⟩ (fun _ => ?_)
        clear hK K
        refine wpAnyG_two (i := 3) (j := 4) (by kernel_rfl) rfl rfl (fun K hK => ?_) (fun K hK => ?_)
        · refine step_pushP _ rfl _ _ rfl (w.heap.size + 2) _ S s HS.out rfl HIA.out.oi ⟨wc.heap.size, 0, none⟩ 1 1 [9] rfl rfl (by decide) (World.news_of_block HNA.out) hl1 (by rw [size_drew, size_one]; omega) ?_
          intro g3 cap3 w3 hc3 ho3 hg3
          have HI3 := Hid.in (HIA.out.pushed rfl (by omega) hg3 ho3)
          refine hK.out _ _ ⟨HI3.out.bi.cell 8, HI3.out.br.cell 8⟩ (fun _ => ?_)
          clear hK K
          clear ho3 hg3
          have HI3n := Hid.in (HI3.out.grow (Nat.le_refl _) (new_alloc w3 (.cells #[.int .u32 9] 25)))
          have HN3 := Hid.in (Blk.new w3 25 #[.int .u32 9])
          refine wpAnyG_one (i := 4) (by kernel_rfl) rfl (fun K hK => ?_)
          go_simp
          refine hK.out _ _ ⟨HI3n.out.bi.cell 8, HI3n.out.br.cell 8⟩ (fun _ => ?_)
          clear hK K
          refine wpAnyG_one (i := 5) (by kernel_rfl) rfl (fun K hK => ?_)
          refine step_pushP _ rfl _ _ rfl (w.heap.size + 2) _ (S ++ [9]) (s + 1) HL2.out rfl HI3n.out.oi ⟨w3.heap.size, 0, none⟩ 1 1 [9] rfl rfl (by decide) (World.news_of_block HN3.out) hl2 (by have := HI3.out.lt; rw [size_one]; omega) ?_
          intro g4 cap4 w4 hc4 ho4 hg4
          have HI4 := Hid.in (HI3n.out.pushed rfl (by omega) hg4 ho4)
          refine hK.out _ _ ⟨HI4.out.bi.cell 8, HI4.out.br.cell 8⟩ (fun _ => ?_)
          clear hK K
          clear ho4 hg4
          have hz0 : (0 : Int) ≤ (s : Int) := by omega
          have hz4 : (s : Int) ≤ (cap4 : Int) := by omega
          have hz5 : s ≤ cap4 := by omega
          have q5 : w4.cell? ⟨g5, 8, none⟩ = some (.slice p1 s c1) := HI4.out.bi.cell 8
          have f5 : w4.frozen? ⟨g5, 8, none⟩ = false := HI4.out.bi.free 8
          refine wpAnyG_one (i := 9) (by kernel_rfl) rfl (fun K hK => ?_)
          go_simp
          refine hK.out _ _ ⟨HI4.out.bi.cell 8, HI4.out.br.cell 8⟩ (fun _ => ?_)
          clear hK K
          refine wpAnyG_one (i := 10) (by kernel_rfl) rfl (fun K hK => ?_)
          go_simp
          refine hK.out _ _ ⟨HI4.out.bi.cell 8, HI4.out.br.cell 8⟩ (fun _ => ?_)
          clear hK K
          refine wpAnyG_last (i := 11) (by kernel_rfl) rfl rfl (fun K hK => ?_)
          go_simp
          refine hK.out _ _ ?_
          clear hK K
          refine wpAnyG_done (by kernel_rfl) ?_ _
          refine NoPanic.normal ?_
          go_wp2_with fail
          go_meet
          case rel => exact ⟨g4, cap4, w4.heap.size, by omega, (grown_setCell _ _ _ _).size, by have := HI4.out.head rfl hg5 8 (.slice (some ⟨g4, 0, none⟩) s cap4); rw [List.append_assoc] at this; exact this⟩
        · go_simp
          refine hK.out _ _ ⟨HIB.out.bi.cell 8, HIB.out.br.cell 8⟩ (fun _ => ?_)
          clear hK K
          refine wpAnyG_one (i := 3) (by kernel_rfl) rfl (fun K hK => ?_)
          refine step_pushP _ rfl _ _ rfl (w.heap.size + 2) _ S s HS.out rfl HIB.out.oi ⟨wc.heap.size, 0, none⟩ 1 1 [9] rfl rfl (by decide) (World.news_of_block HNB.out) hl1 (by rw [size_drew, size_one, size_one]; omega) ?_
          intro g3 cap3 w3 hc3 ho3 hg3
          have HI3 := Hid.in (HIB.out.pushed rfl (by omega) hg3 ho3)
          have HN3 := Hid.in (HNC.out.kept hg3 (fun e => by have := HLT.out _ e.symm; omega))
          refine hK.out _ _ ⟨HI3.out.bi.cell 8, HI3.out.br.cell 8⟩ (fun _ => ?_)
          clear hK K
          clear ho3 hg3
          refine wpAnyG_one (i := 5) (by kernel_rfl) rfl (fun K hK => ?_)
          refine step_pushP _ rfl _ _ rfl (w.heap.size + 2) _ (S ++ [9]) (s + 1) HL2.out rfl HI3.out.oi ⟨wc.heap.size + 1, 0, none⟩ 1 1 [9] rfl rfl (by decide) (World.news_of_block HN3.out) hl2 (by have := HI3.out.lt; omega) ?_
          intro g4 cap4 w4 hc4 ho4 hg4
          have HI4 := Hid.in (HI3.out.pushed rfl (by omega) hg4 ho4)
          refine hK.out _ _ ⟨HI4.out.bi.cell 8, HI4.out.br.cell 8⟩ (fun _ => ?_)
          clear hK K
          clear ho4 hg4
          have hz0 : (0 : Int) ≤ (s : Int) := by omega
          have hz4 : (s : Int) ≤ (cap4 : Int) := by omega
          have hz5 : s ≤ cap4 := by omega
          have q5 : w4.cell? ⟨g5, 8, none⟩ = some (.slice p1 s c1) := HI4.out.bi.cell 8
          have f5 : w4.frozen? ⟨g5, 8, none⟩ = false := HI4.out.bi.free 8
          refine wpAnyG_one (i := 9) (by kernel_rfl) rfl (fun K hK => ?_)
          go_simp
          refine hK.out _ _ ⟨HI4.out.bi.cell 8, HI4.out.br.cell 8⟩ (fun _ => ?_)
          clear hK K
          refine wpAnyG_one (i := 10) (by kernel_rfl) rfl (fun K hK => ?_)
          go_simp
          refine hK.out _ _ ⟨HI4.out.bi.cell 8, HI4.out.br.cell 8⟩ (fun _ => ?_)
          clear hK K
          refine wpAnyG_last (i := 11) (by kernel_rfl) rfl rfl (fun K hK => ?_)
          go_simp
          refine hK.out _ _ ?_
          clear hK K
          refine wpAnyG_done (by kernel_rfl) ?_ _
          refine NoPanic.normal ?_
          go_wp2_with fail
          go_meet
          case rel => exact ⟨g4, cap4, w4.heap.size, by omega, (grown_setCell _ _ _ _).size, by have := HI4.out.head rfl hg5 8 (.slice (some ⟨g4, 0, none⟩) s cap4); rw [List.append_assoc] at this; exact this⟩
      · go_simp
        refine hK.out _ _ ⟨HIA.out.bi.cell 8, HIA.out.br.cell 8⟩ (fun _ => ?_)
        clear hK K
        refine wpAnyG_one (i := 2) (by kernel_rfl) rfl (fun K hK => ?_)
        go_simp
        refine hK.out _ _ ⟨HIB.out.bi.cell 8, HIB.out.br.cell 8⟩ (fun _ => ?_)
        clear hK K
        refine wpAnyG_one (i := 3) (by kernel_rfl) rfl (fun K hK => ?_)
        refine step_pushP _ rfl _ _ rfl (w.heap.size + 2) _ S s HS.out rfl HIB.out.oi ⟨wc.heap.size + 1, 0, none⟩ 1 1 [9] rfl rfl (by decide) (World.news_of_block HNC.out) hl1 (by rw [size_drew, size_one, size_one]; omega) ?_
        intro g3 cap3 w3 hc3 ho3 hg3
        have HI3 := Hid.in (HIB.out.pushed rfl (by omega) hg3 ho3)
        have HN3 := Hid.in (HNB.out.kept hg3 (fun e => by have := HLT.out _ e.symm; omega))
        refine hK.out _ _ ⟨HI3.out.bi.cell 8, HI3.out.br.cell 8⟩ (fun _ => ?_)
        clear hK K
        clear ho3 hg3
        refine wpAnyG_one (i := 5) (by kernel_rfl) rfl (fun K hK => ?_)
        refine step_pushP _ rfl _ _ rfl (w.heap.size + 2) _ (S ++ [9]) (s + 1) HL2.out rfl HI3.out.oi ⟨wc.heap.size, 0, none⟩ 1 1 [9] rfl rfl (by decide) (World.news_of_block HN3.out) hl2 (by have := HI3.out.lt; omega) ?_
        intro g4 cap4 w4 hc4 ho4 hg4
        have HI4 := Hid.in (HI3.out.pushed rfl (by omega) hg4 ho4)
        refine hK.out _ _ ⟨HI4.out.bi.cell 8, HI4.out.br.cell 8⟩ (fun _ => ?_)
        clear hK K
        clear ho4 hg4
        have hz0 : (0 : Int) ≤ (s : Int) := by omega
        have hz4 : (s : Int) ≤ (cap4 : Int) := by omega
        have hz5 : s ≤ cap4 := by omega
        have q5 : w4.cell? ⟨g5, 8, none⟩ = some (.slice p1 s c1) := HI4.out.bi.cell 8
        have f5 : w4.frozen? ⟨g5, 8, none⟩ = false := HI4.out.bi.free 8
        refine wpAnyG_one (i := 9) (by kernel_rfl) rfl (fun K hK => ?_)
        go_simp
        refine hK.out _ _ ⟨HI4.out.bi.cell 8, HI4.out.br.cell 8⟩ (fun _ => ?_)
        clear hK K
        refine wpAnyG_one (i := 10) (by kernel_rfl) rfl (fun K hK => ?_)
        go_simp
        refine hK.out _ _ ⟨HI4.out.bi.cell 8, HI4.out.br.cell 8⟩ (fun _ => ?_)
        clear hK K
        refine wpAnyG_last (i := 11) (by kernel_rfl) rfl rfl (fun K hK => ?_)
        go_simp
        refine hK.out _ _ ?_
        clear hK K
        refine wpAnyG_done (by kernel_rfl) ?_ _
        refine NoPanic.normal ?_
        go_wp2_with fail
        go_meet
        case rel => exact ⟨g4, cap4, w4.heap.size, by omega, (grown_setCell _ _ _ _).size, by have := HI4.out.head rfl hg5 8 (.slice (some ⟨g4, 0, none⟩) s cap4); rw [List.append_assoc] at this; exact this⟩
    case rest =>
      obtain ⟨gi, c4, top, hc4, htop, hein⟩ := hcut
      clear e5 e3 hl1 hl2 HL2 hqw HIA HIB HNA HNB HNC HLT HI0 hg5'
      have HI := Hid.in hein
      clear hein
      obtain ⟨n1, HN1⟩ : ∃ n1, Hid (S1.length = n1) := ⟨_, rfl⟩
      have hn1 : n1 ≤ s + 1 := by have := HST.out; rw [HS.out, HN1.out] at this; exact this
      obtain ⟨hRl, hRw⟩ := HRG.out
      have HRW := Hid.in hRw
      obtain ⟨t0, t1, t2, t3, t4, t5, t6, t7, rfl⟩ := eight hRl
      obtain ⟨e0, e1, e2, e3, e4, e5, e6⟩ := E1
      simp only [rgV_eight, effA] at HE HDO
      clear hRl hRw HRG HST
      have HX0 := Hid.in HI.out.bel
      have i0 : wc.cell? ⟨w.heap.size, 0, none⟩ = some (.int .u8 o) := HI.out.bc.cell 0
      have i1 : wc.cell? ⟨w.heap.size, 1, none⟩ = some (.int .u8 a) := HI.out.bc.cell 1
      have i2 : wc.cell? ⟨w.heap.size, 2, none⟩ = some (.int .u8 b) := HI.out.bc.cell 2
      have i3 : wc.cell? ⟨w.heap.size, 3, none⟩ = some (.int .i32 n) := HI.out.bc.cell 3
      have i4 : wc.cell? ⟨w.heap.size, 4, none⟩ = some (.int .u32 pc) := HI.out.bc.cell 4
      have j0 : wc.cell? ⟨g5, 0, none⟩ = some (.int .u32 r0) := HI.out.bi.cell 0
      have j1 : wc.cell? ⟨g5, 1, none⟩ = some (.int .u32 r1) := HI.out.bi.cell 1
      have j2 : wc.cell? ⟨g5, 2, none⟩ = some (.int .u32 r2) := HI.out.bi.cell 2
      have j3 : wc.cell? ⟨g5, 3, none⟩ = some (.int .u32 r3) := HI.out.bi.cell 3
      have j4 : wc.cell? ⟨g5, 4, none⟩ = some (.int .u32 r4) := HI.out.bi.cell 4
      have j5 : wc.cell? ⟨g5, 5, none⟩ = some (.int .u32 r5) := HI.out.bi.cell 5
      have j6 : wc.cell? ⟨g5, 6, none⟩ = some (.int .u32 r6) := HI.out.bi.cell 6
      have j7 : wc.cell? ⟨g5, 7, none⟩ = some (.int .u32 r7) := HI.out.bi.cell 7
      have j8 : wc.cell? ⟨g5, 8, none⟩ = some (.slice (some ⟨gi, 0, none⟩) s c4) := HI.out.bi.cell 8
      have hrw1 := HI.out.oi.prow
      have hrw2 := HI.out.od.rowOf
      go_wp2_with (go_at_call 9; refine Hid.out ?_)
      refine Lib.hid ?_
      refine (HDO.out wc (some ⟨gi, 0, none⟩) c4 p6 c6 hrw1 hrw2).mono ?_
      rintro e w1 ⟨⟨va, rfl, ho⟩, hb⟩
      obtain ⟨pa, ca, rfl, -, -⟩ := ho.slice
      rw [HN1.out] at ho ⊢
      have tt := two_blkT w1 #[.int .u32 t0, .int .u32 t1, .int .u32 t2, .int .u32 t3, .int .u32 t4, .int .u32 t5, .int .u32 t6, .int .u32 t7, .slice pa n1 ca] #[.int .u32 e0, .bool e1, .int .i64 e2, .bool e3, .bool e4, .int .u32 e5, .int .u32 e6] 37
      have hst := below_step hb tt.2.2
      have HI1 := Hid.in (HI.out.keep hst htop)
      have OA1 := Hid.in (ho.below tt.2.2)
      have LA : Hid (∀ g, (Value.slice pa n1 ca).ownBlock = some g → top ≤ g ∧ g < w1.heap.size) := fun g hg => ⟨Nat.le_trans htop (ho.ltBlock g hg).1, (ho.ltBlock g hg).2⟩
      have LZ1 : Hid (wc.heap.size ≤ w1.heap.size ∧ top ≤ w1.heap.size ∧ w1.heap.size + 1 + 1 = ((w1.alloc (.cells #[.int .u32 t0, .int .u32 t1, .int .u32 t2, .int .u32 t3, .int .u32 t4, .int .u32 t5, .int .u32 t6, .int .u32 t7, .slice pa n1 ca] 32)).alloc (.cells #[.int .u32 e0, .bool e1, .int .i64 e2, .bool e3, .bool e4, .int .u32 e5, .int .u32 e6] 37)).heap.size) := ⟨hb.size, Nat.le_trans htop hb.size, by rw [size_one, size_one]⟩
      have TT1 := Hid.in tt
      clear ho hb tt hst i0 i1 i2 i3 i4 j0 j1 j2 j3 j4 j5 j6 j7 j8 hrw1 hrw2 HI
      have i0 : ((w1.alloc (.cells #[.int .u32 t0, .int .u32 t1, .int .u32 t2, .int .u32 t3, .int .u32 t4, .int .u32 t5, .int .u32 t6, .int .u32 t7, .slice pa n1 ca] 32)).alloc (.cells #[.int .u32 e0, .bool e1, .int .i64 e2, .bool e3, .bool e4, .int .u32 e5, .int .u32 e6] 37)).cell? ⟨w.heap.size, 0, none⟩ = some (.int .u8 o) := HI1.out.bc.cell 0
      have i1 : ((w1.alloc (.cells #[.int .u32 t0, .int .u32 t1, .int .u32 t2, .int .u32 t3, .int .u32 t4, .int .u32 t5, .int .u32 t6, .int .u32 t7, .slice pa n1 ca] 32)).alloc (.cells #[.int .u32 e0, .bool e1, .int .i64 e2, .bool e3, .bool e4, .int .u32 e5, .int .u32 e6] 37)).cell? ⟨w.heap.size, 1, none⟩ = some (.int .u8 a) := HI1.out.bc.cell 1
      have i2 : ((w1.alloc (.cells #[.int .u32 t0, .int .u32 t1, .int .u32 t2, .int .u32 t3, .int .u32 t4, .int .u32 t5, .int .u32 t6, .int .u32 t7, .slice pa n1 ca] 32)).alloc (.cells #[.int .u32 e0, .bool e1, .int .i64 e2, .bool e3, .bool e4, .int .u32 e5, .int .u32 e6] 37)).cell? ⟨w.heap.size, 2, none⟩ = some (.int .u8 b) := HI1.out.bc.cell 2
      have i3 : ((w1.alloc (.cells #[.int .u32 t0, .int .u32 t1, .int .u32 t2, .int .u32 t3, .int .u32 t4, .int .u32 t5, .int .u32 t6, .int .u32 t7, .slice pa n1 ca] 32)).alloc (.cells #[.int .u32 e0, .bool e1, .int .i64 e2, .bool e3, .bool e4, .int .u32 e5, .int .u32 e6] 37)).cell? ⟨w.heap.size, 3, none⟩ = some (.int .i32 n) := HI1.out.bc.cell 3
      have i4 : ((w1.alloc (.cells #[.int .u32 t0, .int .u32 t1, .int .u32 t2, .int .u32 t3, .int .u32 t4, .int .u32 t5, .int .u32 t6, .int .u32 t7, .slice pa n1 ca] 32)).alloc (.cells #[.int .u32 e0, .bool e1, .int .i64 e2, .bool e3, .bool e4, .int .u32 e5, .int .u32 e6] 37)).cell? ⟨w.heap.size, 4, none⟩ = some (.int .u32 pc) := HI1.out.bc.cell 4
      have j0 : ((w1.alloc (.cells #[.int .u32 t0, .int .u32 t1, .int .u32 t2, .int .u32 t3, .int .u32 t4, .int .u32 t5, .int .u32 t6, .int .u32 t7, .slice pa n1 ca] 32)).alloc (.cells #[.int .u32 e0, .bool e1, .int .i64 e2, .bool e3, .bool e4, .int .u32 e5, .int .u32 e6] 37)).cell? ⟨g5, 0, none⟩ = some (.int .u32 r0) := HI1.out.bi.cell 0
      have j1 : ((w1.alloc (.cells #[.int .u32 t0, .int .u32 t1, .int .u32 t2, .int .u32 t3, .int .u32 t4, .int .u32 t5, .int .u32 t6, .int .u32 t7, .slice pa n1 ca] 32)).alloc (.cells #[.int .u32 e0, .bool e1, .int .i64 e2, .bool e3, .bool e4, .int .u32 e5, .int .u32 e6] 37)).cell? ⟨g5, 1, none⟩ = some (.int .u32 r1) := HI1.out.bi.cell 1
      have j2 : ((w1.alloc (.cells #[.int .u32 t0, .int .u32 t1, .int .u32 t2, .int .u32 t3, .int .u32 t4, .int .u32 t5, .int .u32 t6, .int .u32 t7, .slice pa n1 ca] 32)).alloc (.cells #[.int .u32 e0, .bool e1, .int .i64 e2, .bool e3, .bool e4, .int .u32 e5, .int .u32 e6] 37)).cell? ⟨g5, 2, none⟩ = some (.int .u32 r2) := HI1.out.bi.cell 2
      have j3 : ((w1.alloc (.cells #[.int .u32 t0, .int .u32 t1, .int .u32 t2, .int .u32 t3, .int .u32 t4, .int .u32 t5, .int .u32 t6, .int .u32 t7, .slice pa n1 ca] 32)).alloc (.cells #[.int .u32 e0, .bool e1, .int .i64 e2, .bool e3, .bool e4, .int .u32 e5, .int .u32 e6] 37)).cell? ⟨g5, 3, none⟩ = some (.int .u32 r3) := HI1.out.bi.cell 3
      have j4 : ((w1.alloc (.cells #[.int .u32 t0, .int .u32 t1, .int .u32 t2, .int .u32 t3, .int .u32 t4, .int .u32 t5, .int .u32 t6, .int .u32 t7, .slice pa n1 ca] 32)).alloc (.cells #[.int .u32 e0, .bool e1, .int .i64 e2, .bool e3, .bool e4, .int .u32 e5, .int .u32 e6] 37)).cell? ⟨g5, 4, none⟩ = some (.int .u32 r4) := HI1.out.bi.cell 4
      have j5 : ((w1.alloc (.cells #[.int .u32 t0, .int .u32 t1, .int .u32 t2, .int .u32 t3, .int .u32 t4, .int .u32 t5, .int .u32 t6, .int .u32 t7, .slice pa n1 ca] 32)).alloc (.cells #[.int .u32 e0, .bool e1, .int .i64 e2, .bool e3, .bool e4, .int .u32 e5, .int .u32 e6] 37)).cell? ⟨g5, 5, none⟩ = some (.int .u32 r5) := HI1.out.bi.cell 5
      have j6 : ((w1.alloc (.cells #[.int .u32 t0, .int .u32 t1, .int .u32 t2, .int .u32 t3, .int .u32 t4, .int .u32 t5, .int .u32 t6, .int .u32 t7, .slice pa n1 ca] 32)).alloc (.cells #[.int .u32 e0, .bool e1, .int .i64 e2, .bool e3, .bool e4, .int .u32 e5, .int .u32 e6] 37)).cell? ⟨g5, 6, none⟩ = some (.int .u32 r6) := HI1.out.bi.cell 6
      have j7 : ((w1.alloc (.cells #[.int .u32 t0, .int .u32 t1, .int .u32 t2, .int .u32 t3, .int .u32 t4, .int .u32 t5, .int .u32 t6, .int .u32 t7, .slice pa n1 ca] 32)).alloc (.cells #[.int .u32 e0, .bool e1, .int .i64 e2, .bool e3, .bool e4, .int .u32 e5, .int .u32 e6] 37)).cell? ⟨g5, 7, none⟩ = some (.int .u32 r7) := HI1.out.bi.cell 7
      have j8 : ((w1.alloc (.cells #[.int .u32 t0, .int .u32 t1, .int .u32 t2, .int .u32 t3, .int .u32 t4, .int .u32 t5, .int .u32 t6, .int .u32 t7, .slice pa n1 ca] 32)).alloc (.cells #[.int .u32 e0, .bool e1, .int .i64 e2, .bool e3, .bool e4, .int .u32 e5, .int .u32 e6] 37)).cell? ⟨g5, 8, none⟩ = some (.slice (some ⟨gi, 0, none⟩) s c4) := HI1.out.bi.cell 8
      go_wp2_with (go_at_call 9; refine Hid.out ?_)
      refine Lib.hid ?_
      generalize (w1.alloc (.cells #[.int .u32 t0, .int .u32 t1, .int .u32 t2, .int .u32 t3, .int .u32 t4, .int .u32 t5, .int .u32 t6, .int .u32 t7, .slice pa n1 ca] 32)).alloc (.cells #[.int .u32 e0, .bool e1, .int .i64 e2, .bool e3, .bool e4, .int .u32 e5, .int .u32 e6] 37) = V1 at *
      have BA1 := Hid.in TT1.out.1
      have BX1 := Hid.in TT1.out.2.1
      clear TT1
      generalize w1.heap.size = g7 at *
      have hrw1 := HI1.out.oi.prow
      have hrw2 := HI1.out.od.rowOf
      refine (HDO.out V1 (some ⟨gi, 0, none⟩) c4 p6 c6 hrw1 hrw2).mono ?_
      rintro e w2 ⟨⟨vb, rfl, ho⟩, hb⟩
      obtain ⟨pb, cb, rfl, -, -⟩ := ho.slice
      rw [HN1.out] at ho ⊢
      have tt := two_blkT w2 #[.int .u32 t0, .int .u32 t1, .int .u32 t2, .int .u32 t3, .int .u32 t4, .int .u32 t5, .int .u32 t6, .int .u32 t7, .slice pb n1 cb] #[.int .u32 e0, .bool e1, .int .i64 e2, .bool e3, .bool e4, .int .u32 e5, .int .u32 e6] 37
      have hst := below_step hb tt.2.2
      have htop1 : top ≤ V1.heap.size := by have := LZ1.out; omega
      have HI2 := Hid.in (HI1.out.keep hst htop1)
      have OA2 := Hid.in (OA1.out.below hst)
      have BA2 := Hid.in (BA1.out.grow hst)
      have BX2 := Hid.in (BX1.out.grow hst)
      have OB2 := Hid.in (ho.below tt.2.2)
      have LZ2 : Hid (g7 + 1 < w2.heap.size ∧ w2.heap.size + 1 + 1 = ((w2.alloc (.cells #[.int .u32 t0, .int .u32 t1, .int .u32 t2, .int .u32 t3, .int .u32 t4, .int .u32 t5, .int .u32 t6, .int .u32 t7, .slice pb n1 cb] 32)).alloc (.cells #[.int .u32 e0, .bool e1, .int .i64 e2, .bool e3, .bool e4, .int .u32 e5, .int .u32 e6] 37)).heap.size) := ⟨by have := LZ1.out; have := hb.size; omega, by rw [size_one, size_one]⟩
      have LB : Hid (∀ g, (Value.slice pb n1 cb).ownBlock = some g → g7 < g) := fun g hg => by have := (ho.ltBlock g hg).1; have := LZ1.out; omega
      have TT2 := Hid.in tt
      clear ho hb tt hst i0 i1 i2 i3 i4 j0 j1 j2 j3 j4 j5 j6 j7 j8 hrw1 hrw2 HI1 OA1 BA1 BX1
      have i0 : ((w2.alloc (.cells #[.int .u32 t0, .int .u32 t1, .int .u32 t2, .int .u32 t3, .int .u32 t4, .int .u32 t5, .int .u32 t6, .int .u32 t7, .slice pb n1 cb] 32)).alloc (.cells #[.int .u32 e0, .bool e1, .int .i64 e2, .bool e3, .bool e4, .int .u32 e5, .int .u32 e6] 37)).cell? ⟨w.heap.size, 0, none⟩ = some (.int .u8 o) := HI2.out.bc.cell 0
      have i1 : ((w2.alloc (.cells #[.int .u32 t0, .int .u32 t1, .int .u32 t2, .int .u32 t3, .int .u32 t4, .int .u32 t5, .int .u32 t6, .int .u32 t7, .slice pb n1 cb] 32)).alloc (.cells #[.int .u32 e0, .bool e1, .int .i64 e2, .bool e3, .bool e4, .int .u32 e5, .int .u32 e6] 37)).cell? ⟨w.heap.size, 1, none⟩ = some (.int .u8 a) := HI2.out.bc.cell 1
      have i2 : ((w2.alloc (.cells #[.int .u32 t0, .int .u32 t1, .int .u32 t2, .int .u32 t3, .int .u32 t4, .int .u32 t5, .int .u32 t6, .int .u32 t7, .slice pb n1 cb] 32)).alloc (.cells #[.int .u32 e0, .bool e1, .int .i64 e2, .bool e3, .bool e4, .int .u32 e5, .int .u32 e6] 37)).cell? ⟨w.heap.size, 2, none⟩ = some (.int .u8 b) := HI2.out.bc.cell 2
      have i3 : ((w2.alloc (.cells #[.int .u32 t0, .int .u32 t1, .int .u32 t2, .int .u32 t3, .int .u32 t4, .int .u32 t5, .int .u32 t6, .int .u32 t7, .slice pb n1 cb] 32)).alloc (.cells #[.int .u32 e0, .bool e1, .int .i64 e2, .bool e3, .bool e4, .int .u32 e5, .int .u32 e6] 37)).cell? ⟨w.heap.size, 3, none⟩ = some (.int .i32 n) := HI2.out.bc.cell 3
      have i4 : ((w2.alloc (.cells #[.int .u32 t0, .int .u32 t1, .int .u32 t2, .int .u32 t3, .int .u32 t4, .int .u32 t5, .int .u32 t6, .int .u32 t7, .slice pb n1 cb] 32)).alloc (.cells #[.int .u32 e0, .bool e1, .int .i64 e2, .bool e3, .bool e4, .int .u32 e5, .int .u32 e6] 37)).cell? ⟨w.heap.size, 4, none⟩ = some (.int .u32 pc) := HI2.out.bc.cell 4
      have i5 : ((w2.alloc (.cells #[.int .u32 t0, .int .u32 t1, .int .u32 t2, .int .u32 t3, .int .u32 t4, .int .u32 t5, .int .u32 t6, .int .u32 t7, .slice pb n1 cb] 32)).alloc (.cells #[.int .u32 e0, .bool e1, .int .i64 e2, .bool e3, .bool e4, .int .u32 e5, .int .u32 e6] 37)).cell? ⟨w.heap.size, 5, none⟩ = some (.slice pq d dc) := HI2.out.bc.cell 5
      have j0 : ((w2.alloc (.cells #[.int .u32 t0, .int .u32 t1, .int .u32 t2, .int .u32 t3, .int .u32 t4, .int .u32 t5, .int .u32 t6, .int .u32 t7, .slice pb n1 cb] 32)).alloc (.cells #[.int .u32 e0, .bool e1, .int .i64 e2, .bool e3, .bool e4, .int .u32 e5, .int .u32 e6] 37)).cell? ⟨w.heap.size + 1, 0, none⟩ = some (.int .u32 r0) := HI2.out.br.cell 0
      have j1 : ((w2.alloc (.cells #[.int .u32 t0, .int .u32 t1, .int .u32 t2, .int .u32 t3, .int .u32 t4, .int .u32 t5, .int .u32 t6, .int .u32 t7, .slice pb n1 cb] 32)).alloc (.cells #[.int .u32 e0, .bool e1, .int .i64 e2, .bool e3, .bool e4, .int .u32 e5, .int .u32 e6] 37)).cell? ⟨w.heap.size + 1, 1, none⟩ = some (.int .u32 r1) := HI2.out.br.cell 1
      have j2 : ((w2.alloc (.cells #[.int .u32 t0, .int .u32 t1, .int .u32 t2, .int .u32 t3, .int .u32 t4, .int .u32 t5, .int .u32 t6, .int .u32 t7, .slice pb n1 cb] 32)).alloc (.cells #[.int .u32 e0, .bool e1, .int .i64 e2, .bool e3, .bool e4, .int .u32 e5, .int .u32 e6] 37)).cell? ⟨w.heap.size + 1, 2, none⟩ = some (.int .u32 r2) := HI2.out.br.cell 2
      have j3 : ((w2.alloc (.cells #[.int .u32 t0, .int .u32 t1, .int .u32 t2, .int .u32 t3, .int .u32 t4, .int .u32 t5, .int .u32 t6, .int .u32 t7, .slice pb n1 cb] 32)).alloc (.cells #[.int .u32 e0, .bool e1, .int .i64 e2, .bool e3, .bool e4, .int .u32 e5, .int .u32 e6] 37)).cell? ⟨w.heap.size + 1, 3, none⟩ = some (.int .u32 r3) := HI2.out.br.cell 3
      have j4 : ((w2.alloc (.cells #[.int .u32 t0, .int .u32 t1, .int .u32 t2, .int .u32 t3, .int .u32 t4, .int .u32 t5, .int .u32 t6, .int .u32 t7, .slice pb n1 cb] 32)).alloc (.cells #[.int .u32 e0, .bool e1, .int .i64 e2, .bool e3, .bool e4, .int .u32 e5, .int .u32 e6] 37)).cell? ⟨w.heap.size + 1, 4, none⟩ = some (.int .u32 r4) := HI2.out.br.cell 4
      have j5 : ((w2.alloc (.cells #[.int .u32 t0, .int .u32 t1, .int .u32 t2, .int .u32 t3, .int .u32 t4, .int .u32 t5, .int .u32 t6, .int .u32 t7, .slice pb n1 cb] 32)).alloc (.cells #[.int .u32 e0, .bool e1, .int .i64 e2, .bool e3, .bool e4, .int .u32 e5, .int .u32 e6] 37)).cell? ⟨w.heap.size + 1, 5, none⟩ = some (.int .u32 r5) := HI2.out.br.cell 5
      have j6 : ((w2.alloc (.cells #[.int .u32 t0, .int .u32 t1, .int .u32 t2, .int .u32 t3, .int .u32 t4, .int .u32 t5, .int .u32 t6, .int .u32 t7, .slice pb n1 cb] 32)).alloc (.cells #[.int .u32 e0, .bool e1, .int .i64 e2, .bool e3, .bool e4, .int .u32 e5, .int .u32 e6] 37)).cell? ⟨w.heap.size + 1, 6, none⟩ = some (.int .u32 r6) := HI2.out.br.cell 6
      have j7 : ((w2.alloc (.cells #[.int .u32 t0, .int .u32 t1, .int .u32 t2, .int .u32 t3, .int .u32 t4, .int .u32 t5, .int .u32 t6, .int .u32 t7, .slice pb n1 cb] 32)).alloc (.cells #[.int .u32 e0, .bool e1, .int .i64 e2, .bool e3, .bool e4, .int .u32 e5, .int .u32 e6] 37)).cell? ⟨w.heap.size + 1, 7, none⟩ = some (.int .u32 r7) := HI2.out.br.cell 7
      have j8 : ((w2.alloc (.cells #[.int .u32 t0, .int .u32 t1, .int .u32 t2, .int .u32 t3, .int .u32 t4, .int .u32 t5, .int .u32 t6, .int .u32 t7, .slice pb n1 cb] 32)).alloc (.cells #[.int .u32 e0, .bool e1, .int .i64 e2, .bool e3, .bool e4, .int .u32 e5, .int .u32 e6] 37)).cell? ⟨w.heap.size + 1, 8, none⟩ = some (.slice p s c) := HI2.out.br.cell 8
      go_wp2_with (go_at_call 10; refine Hid.out ?_)
      refine Lib.hid ?_
      generalize (w2.alloc (.cells #[.int .u32 t0, .int .u32 t1, .int .u32 t2, .int .u32 t3, .int .u32 t4, .int .u32 t5, .int .u32 t6, .int .u32 t7, .slice pb n1 cb] 32)).alloc (.cells #[.int .u32 e0, .bool e1, .int .i64 e2, .bool e3, .bool e4, .int .u32 e5, .int .u32 e6] 37) = V2 at *
      have BB2 := Hid.in TT2.out.1
      clear TT2
      generalize w2.heap.size = g9 at *
      refine (HE.out V2 (HR0.out.below HI2.out.bel) (HD0r.out.below HI2.out.bel)).mono ?_
      rintro e w3 ⟨⟨vw, rfl, ho⟩, hb⟩
      obtain ⟨pw, cw, rfl, -, -⟩ := ho.slice
      rw [HN1.out] at ho ⊢
      have tt := two_blkT w3 #[.int .u32 t0, .int .u32 t1, .int .u32 t2, .int .u32 t3, .int .u32 t4, .int .u32 t5, .int .u32 t6, .int .u32 t7, .slice pw n1 cw] #[.int .u32 e0, .bool e1, .int .i64 e2, .bool e3, .bool e4, .int .u32 e5, .int .u32 e6] 40
      have hst := below_step hb tt.2.2
      have htop2 : top ≤ V2.heap.size := by have := LZ1.out; have := LZ2.out; omega
      have HI3 := Hid.in (HI2.out.keep hst htop2)
      have OA3 := Hid.in (OA2.out.below hst)
      have OB3 := Hid.in (OB2.out.below hst)
      have BA3 := Hid.in (BA2.out.grow hst)
      have BX3 := Hid.in (BX2.out.grow hst)
      have BB3 := Hid.in (BB2.out.grow hst)
      have OW3 := Hid.in (ho.below tt.2.2)
      have LZ3 : Hid (g9 + 1 < w3.heap.size ∧ w3.heap.size + 1 + 1 = ((w3.alloc (.cells #[.int .u32 t0, .int .u32 t1, .int .u32 t2, .int .u32 t3, .int .u32 t4, .int .u32 t5, .int .u32 t6, .int .u32 t7, .slice pw n1 cw] 32)).alloc (.cells #[.int .u32 e0, .bool e1, .int .i64 e2, .bool e3, .bool e4, .int .u32 e5, .int .u32 e6] 40)).heap.size) := ⟨by have := LZ2.out; have := hb.size; omega, by rw [size_one, size_one]⟩
      have LW : Hid (∀ g, (Value.slice pw n1 cw).ownBlock = some g → g9 < g) := fun g hg => by have := (ho.ltBlock g hg).1; have := LZ2.out; omega
      have TT3 := Hid.in tt
      clear ho hb tt hst i0 i1 i2 i3 i4 i5 j0 j1 j2 j3 j4 j5 j6 j7 j8 HI2 OA2 BA2 BX2 OB2 BB2 HE HDO
      go_upto_region 6 with fail
      generalize (w3.alloc (.cells #[.int .u32 t0, .int .u32 t1, .int .u32 t2, .int .u32 t3, .int .u32 t4, .int .u32 t5, .int .u32 t6, .int .u32 t7, .slice pw n1 cw] 32)).alloc (.cells #[.int .u32 e0, .bool e1, .int .i64 e2, .bool e3, .bool e4, .int .u32 e5, .int .u32 e6] 40) = V3 at *
      have BW3 := Hid.in TT3.out.1
      have BY3 := Hid.in TT3.out.2.1
      clear TT3
      generalize w3.heap.size = g11 at *
      have i0 : V3.cell? ⟨w.heap.size, 0, none⟩ = some (.int .u8 o) := HI3.out.bc.cell 0
      have i1 : V3.cell? ⟨w.heap.size, 1, none⟩ = some (.int .u8 a) := HI3.out.bc.cell 1
      have i2 : V3.cell? ⟨w.heap.size, 2, none⟩ = some (.int .u8 b) := HI3.out.bc.cell 2
      have i3 : V3.cell? ⟨w.heap.size, 3, none⟩ = some (.int .i32 n) := HI3.out.bc.cell 3
      have i4 : V3.cell? ⟨w.heap.size, 4, none⟩ = some (.int .u32 pc) := HI3.out.bc.cell 4
      have i5 : V3.cell? ⟨w.heap.size, 5, none⟩ = some (.slice pq d dc) := HI3.out.bc.cell 5
      have j0 : V3.cell? ⟨w.heap.size + 1, 0, none⟩ = some (.int .u32 r0) := HI3.out.br.cell 0
      have j1 : V3.cell? ⟨w.heap.size + 1, 1, none⟩ = some (.int .u32 r1) := HI3.out.br.cell 1
      have j2 : V3.cell? ⟨w.heap.size + 1, 2, none⟩ = some (.int .u32 r2) := HI3.out.br.cell 2
      have j3 : V3.cell? ⟨w.heap.size + 1, 3, none⟩ = some (.int .u32 r3) := HI3.out.br.cell 3
      have j4 : V3.cell? ⟨w.heap.size + 1, 4, none⟩ = some (.int .u32 r4) := HI3.out.br.cell 4
      have j5 : V3.cell? ⟨w.heap.size + 1, 5, none⟩ = some (.int .u32 r5) := HI3.out.br.cell 5
      have j6 : V3.cell? ⟨w.heap.size + 1, 6, none⟩ = some (.int .u32 r6) := HI3.out.br.cell 6
      have j7 : V3.cell? ⟨w.heap.size + 1, 7, none⟩ = some (.int .u32 r7) := HI3.out.br.cell 7
      have j8 : V3.cell? ⟨w.heap.size + 1, 8, none⟩ = some (.slice p s c) := HI3.out.br.cell 8
      have k0 : V3.cell? ⟨g5, 0, none⟩ = some (.int .u32 r0) := HI3.out.bi.cell 0
      have k1 : V3.cell? ⟨g5, 1, none⟩ = some (.int .u32 r1) := HI3.out.bi.cell 1
      have k2 : V3.cell? ⟨g5, 2, none⟩ = some (.int .u32 r2) := HI3.out.bi.cell 2
      have k3 : V3.cell? ⟨g5, 3, none⟩ = some (.int .u32 r3) := HI3.out.bi.cell 3
      have k4 : V3.cell? ⟨g5, 4, none⟩ = some (.int .u32 r4) := HI3.out.bi.cell 4
      have k5 : V3.cell? ⟨g5, 5, none⟩ = some (.int .u32 r5) := HI3.out.bi.cell 5
      have k6 : V3.cell? ⟨g5, 6, none⟩ = some (.int .u32 r6) := HI3.out.bi.cell 6
      have k7 : V3.cell? ⟨g5, 7, none⟩ = some (.int .u32 r7) := HI3.out.bi.cell 7
      have k8 : V3.cell? ⟨g5, 8, none⟩ = some (.slice (some ⟨gi, 0, none⟩) s c4) := HI3.out.bi.cell 8
      have l0 : V3.cell? ⟨g7, 0, none⟩ = some (.int .u32 t0) := BA3.out.cell 0
      have l1 : V3.cell? ⟨g7, 1, none⟩ = some (.int .u32 t1) := BA3.out.cell 1
      have l2 : V3.cell? ⟨g7, 2, none⟩ = some (.int .u32 t2) := BA3.out.cell 2
      have l3 : V3.cell? ⟨g7, 3, none⟩ = some (.int .u32 t3) := BA3.out.cell 3
      have l4 : V3.cell? ⟨g7, 4, none⟩ = some (.int .u32 t4) := BA3.out.cell 4
      have l5 : V3.cell? ⟨g7, 5, none⟩ = some (.int .u32 t5) := BA3.out.cell 5
      have l6 : V3.cell? ⟨g7, 6, none⟩ = some (.int .u32 t6) := BA3.out.cell 6
      have l7 : V3.cell? ⟨g7, 7, none⟩ = some (.int .u32 t7) := BA3.out.cell 7
      have l8 : V3.cell? ⟨g7, 8, none⟩ = some (.slice pa n1 ca) := BA3.out.cell 8
      have m0 : V3.cell? ⟨g11, 0, none⟩ = some (.int .u32 t0) := BW3.out.cell 0
      have m1 : V3.cell? ⟨g11, 1, none⟩ = some (.int .u32 t1) := BW3.out.cell 1
      have m2 : V3.cell? ⟨g11, 2, none⟩ = some (.int .u32 t2) := BW3.out.cell 2
      have m3 : V3.cell? ⟨g11, 3, none⟩ = some (.int .u32 t3) := BW3.out.cell 3
      have m4 : V3.cell? ⟨g11, 4, none⟩ = some (.int .u32 t4) := BW3.out.cell 4
      have m5 : V3.cell? ⟨g11, 5, none⟩ = some (.int .u32 t5) := BW3.out.cell 5
      have m6 : V3.cell? ⟨g11, 6, none⟩ = some (.int .u32 t6) := BW3.out.cell 6
      have m7 : V3.cell? ⟨g11, 7, none⟩ = some (.int .u32 t7) := BW3.out.cell 7
      have m8 : V3.cell? ⟨g11, 8, none⟩ = some (.slice pw n1 cw) := BW3.out.cell 8
      have x0 : V3.cell? ⟨g7 + 1, 0, none⟩ = some (.int .u32 e0) := BX3.out.cell 0
      have x1 : V3.cell? ⟨g7 + 1, 1, none⟩ = some (.bool e1) := BX3.out.cell 1
      have x2 : V3.cell? ⟨g7 + 1, 2, none⟩ = some (.int .i64 e2) := BX3.out.cell 2
      have x3 : V3.cell? ⟨g7 + 1, 3, none⟩ = some (.bool e3) := BX3.out.cell 3
      have x4 : V3.cell? ⟨g7 + 1, 4, none⟩ = some (.bool e4) := BX3.out.cell 4
      have x5 : V3.cell? ⟨g7 + 1, 5, none⟩ = some (.int .u32 e5) := BX3.out.cell 5
      have x6 : V3.cell? ⟨g7 + 1, 6, none⟩ = some (.int .u32 e6) := BX3.out.cell 6
      have y0 : V3.cell? ⟨g11 + 1, 0, none⟩ = some (.int .u32 e0) := BY3.out.cell 0
      have y1 : V3.cell? ⟨g11 + 1, 1, none⟩ = some (.bool e1) := BY3.out.cell 1
      have y2 : V3.cell? ⟨g11 + 1, 2, none⟩ = some (.int .i64 e2) := BY3.out.cell 2
      have y3 : V3.cell? ⟨g11 + 1, 3, none⟩ = some (.bool e3) := BY3.out.cell 3
      have y4 : V3.cell? ⟨g11 + 1, 4, none⟩ = some (.bool e4) := BY3.out.cell 4
      have y5 : V3.cell? ⟨g11 + 1, 5, none⟩ = some (.int .u32 e5) := BY3.out.cell 5
      have y6 : V3.cell? ⟨g11 + 1, 6, none⟩ = some (.int .u32 e6) := BY3.out.cell 6
      have i0' := fun d os => cell_regrown i0 d os
      have i1' := fun d os => cell_regrown i1 d os
      have i2' := fun d os => cell_regrown i2 d os
      have i3' := fun d os => cell_regrown i3 d os
      have i4' := fun d os => cell_regrown i4 d os
      have i5' := fun d os => cell_regrown i5 d os
      have j0' := fun d os => cell_regrown j0 d os
      have j1' := fun d os => cell_regrown j1 d os
      have j2' := fun d os => cell_regrown j2 d os
      have j3' := fun d os => cell_regrown j3 d os
      have j4' := fun d os => cell_regrown j4 d os
      have j5' := fun d os => cell_regrown j5 d os
      have j6' := fun d os => cell_regrown j6 d os
      have j7' := fun d os => cell_regrown j7 d os
      have j8' := fun d os => cell_regrown j8 d os
      have k0' := fun d os => cell_regrown k0 d os
      have k1' := fun d os => cell_regrown k1 d os
      have k2' := fun d os => cell_regrown k2 d os
      have k3' := fun d os => cell_regrown k3 d os
      have k4' := fun d os => cell_regrown k4 d os
      have k5' := fun d os => cell_regrown k5 d os
      have k6' := fun d os => cell_regrown k6 d os
      have k7' := fun d os => cell_regrown k7 d os
      have k8' := fun d os => cell_regrown k8 d os
      have l0' := fun d os => cell_regrown l0 d os
      have l1' := fun d os => cell_regrown l1 d os
      have l2' := fun d os => cell_regrown l2 d os
      have l3' := fun d os => cell_regrown l3 d os
      have l4' := fun d os => cell_regrown l4 d os
      have l5' := fun d os => cell_regrown l5 d os
      have l6' := fun d os => cell_regrown l6 d os
      have l7' := fun d os => cell_regrown l7 d os
      have l8' := fun d os => cell_regrown l8 d os
      have m0' := fun d os => cell_regrown m0 d os
      have m1' := fun d os => cell_regrown m1 d os
      have m2' := fun d os => cell_regrown m2 d os
      have m3' := fun d os => cell_regrown m3 d os
      have m4' := fun d os => cell_regrown m4 d os
      have m5' := fun d os => cell_regrown m5 d os
      have m6' := fun d os => cell_regrown m6 d os
      have m7' := fun d os => cell_regrown m7 d os
      have m8' := fun d os => cell_regrown m8 d os
      have x0' := fun d os => cell_regrown x0 d os
      have x1' := fun d os => cell_regrown x1 d os
      have x2' := fun d os => cell_regrown x2 d os
      have x3' := fun d os => cell_regrown x3 d os
      have x4' := fun d os => cell_regrown x4 d os
      have x5' := fun d os => cell_regrown x5 d os
      have x6' := fun d os => cell_regrown x6 d os
      have y0' := fun d os => cell_regrown y0 d os
      have y1' := fun d os => cell_regrown y1 d os
      have y2' := fun d os => cell_regrown y2 d os
      have y3' := fun d os => cell_regrown y3 d os
      have y4' := fun d os => cell_regrown y4 d os
      have y5' := fun d os => cell_regrown y5 d os
      have y6' := fun d os => cell_regrown y6 d os
      have hnb : n1 ≤ 9223372036854775807 := by omega
      have K1 := fun d os => HSR.out [t0, t1, t2, t3, t4, t5, t6, t7] S1 rfl HRW.out (Go.Sort.grow (redrawn V3 d) os) pa pw n1 ca cw HN1.out hnb (OA3.out.rowOf.below (below_regrown V3 d os)) (OW3.out.rowOf.below (below_regrown V3 d os))
      have K2 := fun d os => sameEff_self ⟨e0, e1, e2, e3, e4, e5, e6⟩ (Go.Sort.grow (redrawn V3 d) os)
      have K3 := fun d os => HP13.out (Go.Sort.grow (redrawn V3 d) os)
      have K4 := fun d os => HP14.out (Go.Sort.grow (redrawn V3 d) os)
      have K5 := fun d os => HSR.out [r0, r1, r2, r3, r4, r5, r6, r7] S rfl HWR.out (Go.Sort.grow (redrawn V3 d) os) (some ⟨gi, 0, none⟩) p s c4 c HS.out (by omega) (HI3.out.oi.prow.below (below_regrown V3 d os)) (HR0.out.below (below_step HI3.out.bel (below_regrown V3 d os)))
      have K6 : ∀ dd os, Calls Try.prog 15 #[.slice p6 d c6, .slice pq d dc] (Go.Sort.grow (redrawn V3 dd) os) fun e w' => e = .returned (.bool true) ∧ Below (Go.Sort.grow (redrawn V3 dd) os).heap.size (Go.Sort.grow (redrawn V3 dd) os) w' := fun dd os => (HSB.out (Go.Sort.grow (redrawn V3 dd) os) p6 c6 (HI3.out.od.rowOf.below (below_regrown V3 dd os)) (HD0r.out.below (below_step HI3.out.bel (below_regrown V3 dd os)))).mono fun e w' h => ⟨h.1, by obtain ⟨m, hm⟩ := h.2; rw [hm]; exact below_draws (below_self _) m⟩
      simp only [rgV_eight, effA] at K1 K2 K5
      generalize spanN o a b n = sp at *
      refine wp_region_quiet_below (by kernel_rfl) (by kernel_rfl) ?_
      iterate 32 (go_big_quiet_step ((first | (go_at_call 11; with_reducible exact Calls.regrown_of (K1 _ _)) | (go_at_call 12; with_reducible exact Calls.regrown_of (K2 _ _)) | (go_at_call 13; with_reducible exact Calls.regrown_of (K3 _ _)) | (go_at_call 14; with_reducible exact Calls.regrown_of (K4 _ _)) | (go_at_call 11; with_reducible exact Calls.regrown_of (K5 _ _)) | (go_at_call 15; with_reducible exact Calls.regrown_of (K6 _ _)))))
      refine wpQuiet_nil ?_
      intro _ hw'
      obtain ⟨⟨dq, osq⟩, hw''⟩ := hw'
      subst hw''
      have hbq := below_regrown V3 dq osq
      have htop3 : top ≤ V3.heap.size := by have := LZ1.out; have := LZ2.out; have := LZ3.out; omega
      have HI4 := Hid.in (HI3.out.keep hbq htop3)
      have OA4 := Hid.in (OA3.out.below hbq)
      have OB4 := Hid.in (OB3.out.below hbq)
      have OW4 := Hid.in (OW3.out.below hbq)
      have BA4 := Hid.in (BA3.out.grow hbq)
      have BB4 := Hid.in (BB3.out.grow hbq)
      have BW4 := Hid.in (BW3.out.grow hbq)
      have LZ4 := Hid.in hbq.size
      clear hbq K1 K2 K3 K4 K5 K6 HI3 OA3 OB3 OW3 BA3 BB3 BW3 BX3 BY3 HP13 HP14 HSB i0 i0' i1 i1' i2 i2' i3 i3' i4 i4' i5 i5' j0 j0' j1 j1' j2 j2' j3 j3' j4 j4' j5 j5' j6 j6' j7 j7' j8 j8' k0 k0' k1 k1' k2 k2' k3 k3' k4 k4' k5 k5' k6 k6' k7 k7' k8 k8' l0 l0' l1 l1' l2 l2' l3 l3' l4 l4' l5 l5' l6 l6' l7 l7' l8 l8' m0 m0' m1 m1' m2 m2' m3 m3' m4 m4' m5 m5' m6 m6' m7 m7' m8 m8' x0 x0' x1 x1' x2 x2' x3 x3' x4 x4' x5 x5' x6 x6' y0 y0' y1 y1' y2 y2' y3 y3' y4 y4' y5 y5' y6 y6'
      generalize Go.Sort.grow (redrawn V3 dq) osq = V4 at *
      have hnb : n1 ≤ 9223372036854775807 := by omega
      have hgt := LZ1.out
      have hgt2 := LZ2.out
      have hgt3 := LZ3.out
      have hgt4 := LZ4.out
      clear LZ1 LZ2 LZ3 LZ4
      have HQN : Hid (∀ (v : Value) (x : List Int) (B g : Nat), POwnV V4 B v x → g7 ≤ g → (∀ k, v.ownBlock = some k → g < k) → v.ownBlock = none ∨ v.ownBlock ≠ (Value.slice pa n1 ca).ownBlock) := fun v x B g _ hg hl => by
        cases h : v.ownBlock with
        | none => exact .inl rfl
        | some k => exact .inr (fun e => by have h1 := hl k h; have h2 := (LA.out k e.symm).2; omega)
      go_wp2_with fail
      go_loopw [13] (fun i wr => ∃ k : Nat, k ≤ n1 ∧ i = .int .i64 k ∧ V4.grownBy wr (Value.slice pa n1 ca).ownBlock ∧ ∃ zs : List Int, zs.length = n1 ∧ POwnV wr wc.heap.size (.slice pa n1 ca) zs) (fun i _ => n1 - (intOf i).toNat)
      case atStart => exact ⟨0, Nat.zero_le _, rfl, World.grownBy.refl _ _, S1, HN1.out, OA4.out⟩
      case round =>
        obtain ⟨k, hk, rfl, hgw, zs, hzl, hoz⟩ := hrel
        have HGW := Hid.in hgw
        have HZL := Hid.in hzl
        have HOZ := Hid.in hoz
        have q7 : wr.cell? ⟨g7, 8, none⟩ = some (.slice pa n1 ca) := (BA4.out.kept hgw (fun e => OA4.out.notAt BA4.out (by decide) e.symm)).cell 8
        clear hgw hzl hoz
        by_cases hlt : k < n1
        · obtain ⟨ga, y, hpa, hga, hy, hfy, hset⟩ := HOZ.out.at77 HZL.out hlt 77
          have HPA := Hid.in hpa
          have HSET := Hid.in hset
          rw [hpa] at q7
          clear hpa hset
          go_wp2_with fail
          go_roundw
          case rel => exact ⟨k + 1, by omega, by go_num, HGW.out.trans (by rw [HPA.out]; exact grown_setCell _ _ _ _), _, by rw [List.length_set]; exact HZL.out, HSET.out⟩
          case measure => simp [intOf]; omega
        · have hl : (zs.length + 1) * 4 ≤ 140737488355328 := by rw [HZL.out]; omega
          have hwq : wc.heap.size ≤ (wr.alloc (.cells #[.int .u32 78] 25)).heap.size := by have h1 := HGW.out.size; have h2 := HX0.out.size; rw [size_one]; omega
          go_wp2_with (at_builtin; refine wp_pushP _ rfl _ _ rfl wc.heap.size _ zs rfl (HOZ.out.alloc _) ⟨wr.heap.size, 0, none⟩ 1 1 [78] rfl rfl (cell_one_new _ _ _) hl hwq ?_; intro v7 w7 ho7 hg7 _ _; refine Hid.out ?_)
          refine Lib.hid ?_
          obtain ⟨p7, c7, rfl, -, -⟩ := ho7.slice
          have HGR := Hid.in ((HGW.out.trans (World.grownBy_alloc wr _ _)).trans hg7)
          have HBA := Hid.in (BA4.out.kept HGR.out (fun e => OA4.out.notAt BA4.out (by decide) e.symm))
          clear ho7 hg7 q7 hl hwq HOZ HGW
          generalize (zs ++ [78]).length = n7 at *
          have c8 : w7.cell? ⟨g7, 8, none⟩ = some (.slice pa n1 ca) := HBA.out.cell 8
          have f8 : w7.frozen? ⟨g7, 8, none⟩ = false := HBA.out.free 8
          go_upto_region 13 with fail
          have hg8 := grown_setCell w7 g7 8 (.slice p7 n7 c7)
          have HBT : Hid (Below top V4 (w7.setCell ⟨g7, 8, none⟩ (.slice p7 n7 c7))) := ((Below.refl top V4).grown HGR.out (by omega) (fun k hk => (LA.out k hk).1)).grown hg8 (by have := HGR.out.size; omega) (fun k hk => by cases hk; omega)
          have HI8 := Hid.in (HI4.out.keep HBT.out (Nat.le_refl _))
          have HTS : Hid (top ≤ (w7.setCell ⟨g7, 8, none⟩ (.slice p7 n7 c7)).heap.size) := Nat.le_trans (show top ≤ V4.heap.size by omega) HBT.out.size
          have OB8 := Hid.in (POwnV.kept (World.ownsRow.kept OB4.out HGR.out (HQN.out _ _ _ g7 OB4.out (Nat.le_refl _) LB.out)) hg8 (POwnV.notAt (World.ownsRow.kept OB4.out HGR.out (HQN.out _ _ _ g7 OB4.out (Nat.le_refl _) LB.out)) HBA.out (by decide)))
          have OW8 := Hid.in (POwnV.kept (World.ownsRow.kept OW4.out HGR.out (HQN.out _ _ _ g9 OW4.out (by omega) LW.out)) hg8 (POwnV.notAt (World.ownsRow.kept OW4.out HGR.out (HQN.out _ _ _ g9 OW4.out (by omega) LW.out)) HBA.out (by decide)))
          have BB8 := Hid.in ((BB4.out.kept HGR.out (fun e => OA4.out.notAt BB4.out (by decide) e.symm)).other (k := g7) (by omega) 8 (.slice p7 n7 c7))
          have BW8 := Hid.in ((BW4.out.kept HGR.out (fun e => OA4.out.notAt BW4.out (by decide) e.symm)).other (k := g7) (by omega) 8 (.slice p7 n7 c7))
          generalize w7.setCell ⟨g7, 8, none⟩ (.slice p7 n7 c7) = w8 at *
          clear c8 f8 hg8 HBA HGR HBT HI4 OA4 OB4 OW4 BA4 BB4 BW4 HQN
          have z9 : w8.cell? ⟨gi, s, none⟩ = some (.int .u32 9) := HI8.out.oi.nine HS.out
          have hz0 : (0 : Int) ≤ (s : Int) + 1 := by omega
          have hz4 : (s : Int) + 1 ≤ (c4 : Int) := by omega
          have hz5 : s + 1 ≤ c4 := by omega
          have u0 : w8.cell? ⟨g9, 0, none⟩ = some (.int .u32 t0) := BB8.out.cell 0
          have u1 : w8.cell? ⟨g9, 1, none⟩ = some (.int .u32 t1) := BB8.out.cell 1
          have u2 : w8.cell? ⟨g9, 2, none⟩ = some (.int .u32 t2) := BB8.out.cell 2
          have u3 : w8.cell? ⟨g9, 3, none⟩ = some (.int .u32 t3) := BB8.out.cell 3
          have u4 : w8.cell? ⟨g9, 4, none⟩ = some (.int .u32 t4) := BB8.out.cell 4
          have u5 : w8.cell? ⟨g9, 5, none⟩ = some (.int .u32 t5) := BB8.out.cell 5
          have u6 : w8.cell? ⟨g9, 6, none⟩ = some (.int .u32 t6) := BB8.out.cell 6
          have u7 : w8.cell? ⟨g9, 7, none⟩ = some (.int .u32 t7) := BB8.out.cell 7
          have u8 : w8.cell? ⟨g9, 8, none⟩ = some (.slice pb n1 cb) := BB8.out.cell 8
          have v0 : w8.cell? ⟨g11, 0, none⟩ = some (.int .u32 t0) := BW8.out.cell 0
          have v1 : w8.cell? ⟨g11, 1, none⟩ = some (.int .u32 t1) := BW8.out.cell 1
          have v2 : w8.cell? ⟨g11, 2, none⟩ = some (.int .u32 t2) := BW8.out.cell 2
          have v3 : w8.cell? ⟨g11, 3, none⟩ = some (.int .u32 t3) := BW8.out.cell 3
          have v4 : w8.cell? ⟨g11, 4, none⟩ = some (.int .u32 t4) := BW8.out.cell 4
          have v5 : w8.cell? ⟨g11, 5, none⟩ = some (.int .u32 t5) := BW8.out.cell 5
          have v6 : w8.cell? ⟨g11, 6, none⟩ = some (.int .u32 t6) := BW8.out.cell 6
          have v7 : w8.cell? ⟨g11, 7, none⟩ = some (.int .u32 t7) := BW8.out.cell 7
          have v8 : w8.cell? ⟨g11, 8, none⟩ = some (.slice pw n1 cw) := BW8.out.cell 8
          have i0 : w8.cell? ⟨g5, 0, none⟩ = some (.int .u32 r0) := HI8.out.bi.cell 0
          have i1 : w8.cell? ⟨g5, 1, none⟩ = some (.int .u32 r1) := HI8.out.bi.cell 1
          have i2 : w8.cell? ⟨g5, 2, none⟩ = some (.int .u32 r2) := HI8.out.bi.cell 2
          have i3 : w8.cell? ⟨g5, 3, none⟩ = some (.int .u32 r3) := HI8.out.bi.cell 3
          have i4 : w8.cell? ⟨g5, 4, none⟩ = some (.int .u32 r4) := HI8.out.bi.cell 4
          have i5 : w8.cell? ⟨g5, 5, none⟩ = some (.int .u32 r5) := HI8.out.bi.cell 5
          have i6 : w8.cell? ⟨g5, 6, none⟩ = some (.int .u32 r6) := HI8.out.bi.cell 6
          have i7 : w8.cell? ⟨g5, 7, none⟩ = some (.int .u32 r7) := HI8.out.bi.cell 7
          have i8 : w8.cell? ⟨g5, 8, none⟩ = some (.slice (some ⟨gi, 0, none⟩) s c4) := HI8.out.bi.cell 8
          have j0 : w8.cell? ⟨w.heap.size + 1, 0, none⟩ = some (.int .u32 r0) := HI8.out.br.cell 0
          have j1 : w8.cell? ⟨w.heap.size + 1, 1, none⟩ = some (.int .u32 r1) := HI8.out.br.cell 1
          have j2 : w8.cell? ⟨w.heap.size + 1, 2, none⟩ = some (.int .u32 r2) := HI8.out.br.cell 2
          have j3 : w8.cell? ⟨w.heap.size + 1, 3, none⟩ = some (.int .u32 r3) := HI8.out.br.cell 3
          have j4 : w8.cell? ⟨w.heap.size + 1, 4, none⟩ = some (.int .u32 r4) := HI8.out.br.cell 4
          have j5 : w8.cell? ⟨w.heap.size + 1, 5, none⟩ = some (.int .u32 r5) := HI8.out.br.cell 5
          have j6 : w8.cell? ⟨w.heap.size + 1, 6, none⟩ = some (.int .u32 r6) := HI8.out.br.cell 6
          have j7 : w8.cell? ⟨w.heap.size + 1, 7, none⟩ = some (.int .u32 r7) := HI8.out.br.cell 7
          have j8 : w8.cell? ⟨w.heap.size + 1, 8, none⟩ = some (.slice p s c) := HI8.out.br.cell 8
          go_wp2_with (go_at_call 11; refine Hid.out ?_)
          refine Lib.hid ?_
          refine (HSR.out [t0, t1, t2, t3, t4, t5, t6, t7] S1 rfl HRW.out w8 pb pw n1 cb cw HN1.out hnb OB8.out.rowOf OW8.out.rowOf).mono ?_
          rintro e w9 ⟨rfl, hb9⟩
          have HI9 := Hid.in (HI8.out.keep hb9 (by have := HI8.out.br.lt; have := HTS.out; omega))
          have HB9 := Hid.in hb9
          clear hb9 u0 u1 u2 u3 u4 u5 u6 u7 u8 v0 v1 v2 v3 v4 v5 v6 v7 v8 i0 i1 i2 i3 i4 i5 i6 i7 i8 j0 j1 j2 j3 j4 j5 j6 j7 j8 z9
          have i0 : w9.cell? ⟨g5, 0, none⟩ = some (.int .u32 r0) := HI9.out.bi.cell 0
          have i1 : w9.cell? ⟨g5, 1, none⟩ = some (.int .u32 r1) := HI9.out.bi.cell 1
          have i2 : w9.cell? ⟨g5, 2, none⟩ = some (.int .u32 r2) := HI9.out.bi.cell 2
          have i3 : w9.cell? ⟨g5, 3, none⟩ = some (.int .u32 r3) := HI9.out.bi.cell 3
          have i4 : w9.cell? ⟨g5, 4, none⟩ = some (.int .u32 r4) := HI9.out.bi.cell 4
          have i5 : w9.cell? ⟨g5, 5, none⟩ = some (.int .u32 r5) := HI9.out.bi.cell 5
          have i6 : w9.cell? ⟨g5, 6, none⟩ = some (.int .u32 r6) := HI9.out.bi.cell 6
          have i7 : w9.cell? ⟨g5, 7, none⟩ = some (.int .u32 r7) := HI9.out.bi.cell 7
          have i8 : w9.cell? ⟨g5, 8, none⟩ = some (.slice (some ⟨gi, 0, none⟩) s c4) := HI9.out.bi.cell 8
          have j0 : w9.cell? ⟨w.heap.size + 1, 0, none⟩ = some (.int .u32 r0) := HI9.out.br.cell 0
          have j1 : w9.cell? ⟨w.heap.size + 1, 1, none⟩ = some (.int .u32 r1) := HI9.out.br.cell 1
          have j2 : w9.cell? ⟨w.heap.size + 1, 2, none⟩ = some (.int .u32 r2) := HI9.out.br.cell 2
          have j3 : w9.cell? ⟨w.heap.size + 1, 3, none⟩ = some (.int .u32 r3) := HI9.out.br.cell 3
          have j4 : w9.cell? ⟨w.heap.size + 1, 4, none⟩ = some (.int .u32 r4) := HI9.out.br.cell 4
          have j5 : w9.cell? ⟨w.heap.size + 1, 5, none⟩ = some (.int .u32 r5) := HI9.out.br.cell 5
          have j6 : w9.cell? ⟨w.heap.size + 1, 6, none⟩ = some (.int .u32 r6) := HI9.out.br.cell 6
          have j7 : w9.cell? ⟨w.heap.size + 1, 7, none⟩ = some (.int .u32 r7) := HI9.out.br.cell 7
          have j8 : w9.cell? ⟨w.heap.size + 1, 8, none⟩ = some (.slice p s c) := HI9.out.br.cell 8
          go_wp2_with (go_at_call 11; refine Hid.out ?_)
          refine Lib.hid ?_
          refine (HSR.out [r0, r1, r2, r3, r4, r5, r6, r7] S rfl HWR.out w9 (some ⟨gi, 0, none⟩) p s c4 c HS.out (by omega) HI9.out.oi.prow (HR0.out.below HI9.out.bel)).mono ?_
          rintro e w10 ⟨rfl, hb10⟩
          go_wp2_with (go_at_call 16; refine Hid.out ?_)
          refine Lib.hid ?_
          refine (haw _).mono ?_
          rintro e w11 ⟨rfl, hb11⟩
          go_wp2_with fail
          go_ret
          exact ⟨rfl, below_step (below_step HI9.out.bel hb10) hb11⟩

end Go.Proofs.Ytdbpeigcnhhpmaa
