/- Texts put together: DoF, RDoL, RDoK, RDoWA. -/
import Derived.Test.YtnpaijbkhmnfpaaGreatKaj

/- exec.Do, where an instruction can't be done. -/
namespace Go.Proofs.YtnpaijbkhmnfpaaGreat
open Go.RowKit

/-- both results are stored -/
theorem DSt.stored {w wr : World} {q : Nat} {o a b n : Int} {R S : List Int} {v : Value} (h : DSt w q o a b n R v S wr) (A F : Array Value) (hA : A.size = 9) (hF : F.size = 7) :
    Blk ((wr.setCells (q + 1 + 1) 0 A.toList).setCells (q + 1 + 1 + 1) 0 F.toList) (q + 1 + 1) 47 A ∧ Blk ((wr.setCells (q + 1 + 1) 0 A.toList).setCells (q + 1 + 1 + 1) 0 F.toList) (q + 1 + 1 + 1) 134 F ∧
      POwnV ((wr.setCells (q + 1 + 1) 0 A.toList).setCells (q + 1 + 1 + 1) 0 F.toList) q v S ∧ Below q w ((wr.setCells (q + 1 + 1) 0 A.toList).setCells (q + 1 + 1 + 1) 0 F.toList) := by
  have g1 := grown_setCells (q + 1 + 1) A.toList 0 wr
  have b1 : Blk (wr.setCells (q + 1 + 1) 0 A.toList) (q + 1 + 1) 47 A := h.b8.setAll A (by rw [hA]; rfl)
  have b2 := h.b9.kept g1 (by intro e; injection e with e; omega)
  have o1 := h.ow.keptFar g1 (by omega)
  have l1 := h.bel.grown g1 (by have := h.bi.lt; omega) (fun k hk => by cases hk; omega)
  generalize wr.setCells (q + 1 + 1) 0 A.toList = w1 at *
  have g2 := grown_setCells (q + 1 + 1 + 1) F.toList 0 w1
  have b3 : Blk (w1.setCells (q + 1 + 1 + 1) 0 F.toList) (q + 1 + 1 + 1) 134 F := b2.setAll F (by rw [hF]; rfl)
  have k1 : Blk (w1.setCells (q + 1 + 1 + 1) 0 F.toList) (q + 1 + 1) 47 A := b1.kept g2 (by intro e; injection e with e; omega)
  exact ⟨k1, b3, (o1.keptFar g2 (by omega)).low (by omega), l1.grown g2 (by have := b1.lt; omega) (fun k hk => by cases hk; omega)⟩

set_option maxHeartbeats 4000000 in
set_option maxRecDepth 8000 in
theorem do_bad (o a b : Nat) (n pc : Int) (R S : List Int) (p q : Option Addr) (s c d dc : Nat) (w : World) (ho : o ≤ 255) (ha : a ≤ 255) (hb : b ≤ 255)
    (lR : R.length = 8) (hS : S.length = s) (hs : s * 4 ≤ 140737488355324) (hd : d ≤ 140737488355328) (hr : PRow w p S)
    (hf : fltL o a b n s d ≠ 0) :
    Calls Tryz.prog 71 #[ins o a b n, .int .u32 pc, rgV R (.slice p s c), .slice q d dc] w fun e w' => (∃ v, e = .returned (.tuple #[rgV R v, .agg (effA { goE pc with fl := fltL o a b n s d })]) ∧ POwnV w' w.heap.size v S) ∧ Below w.heap.size w w' := by
  have h20 := fun W v c => fault_any o a b n v q s c d dc W ho (by omega) (by omega) (by omega) (by omega)
  generalize fltL o a b n s d = f at *
  have h19 := fun W (h : PRow W p S) => xcopied_any p s c S W hS (by omega) h
  have HRW : Hid (∀ W, Below w.heap.size w W → PRow W p S) := fun W h => hr.below h
  have HS := Hid.in hS
  clear hr hS
  show Calls Tryz.prog 71 #[ins o a b n, .int .u32 pc, .agg (rgA R (.slice p s c)), .slice q d dc] w _
  go_enter Tryz.func71, Tryz.ntmps71
  go_upto_region 1 with fail
  obtain ⟨hst, hsz, hc8, hb0, hbr⟩ := DSt.start w _ o a b n R S p s c lR rfl
  generalize (((w.alloc (.cells #[.int .u8 o, .int .u8 a, .int .u8 b, .int .i32 n] 117)).alloc (.cells (rgA R (.slice p s c)) 47)).alloc (.cells noRegs 47)).alloc (.cells (efA 0) 134) = w0 at *
  have h19' := h19 w0 (HRW.out _ hb0)
  clear h19 HRW
  go_wp2_with (go_at_call 101; refine Hid.out ?_)
  refine Lib.hid ?_
  refine h19'.mono ?_
  rintro e w1 ⟨g, rfl, ho1, hb1⟩
  have hB1 := hbr w1 hb1
  have HG : Hid (w.heap.size + 4 ≤ g) := by have := ho1.base; rw [hsz] at this; exact this
  have HST := Hid.in (hst w1 _ (by rw [← hsz]; exact ho1.val) hb1)
  rw [HS.out] at HST
  have c8 : w1.cell? ⟨w.heap.size + 1, 8, none⟩ = some (.slice p s c) := by rw [hB1.cell, rgA_last R _ lR]
  have f8 : w1.frozen? ⟨w.heap.size + 1, 8, none⟩ = false := hB1.free 8
  clear hst hbr hB1 hb1 ho1 h19' hc8 hb0
  go_upto_region 2 with fail
  generalize w1.setCell ⟨w.heap.size + 1, 8, none⟩ (.slice (some ⟨g, 0, none⟩) s s) = w2 at *
  clear c8 f8
  have i0 : w2.cell? ⟨w.heap.size, 0, none⟩ = some (.int .u8 o) := HST.out.bi.cell 0
  have i1 : w2.cell? ⟨w.heap.size, 1, none⟩ = some (.int .u8 a) := HST.out.bi.cell 1
  have i2 : w2.cell? ⟨w.heap.size, 2, none⟩ = some (.int .u8 b) := HST.out.bi.cell 2
  have i3 : w2.cell? ⟨w.heap.size, 3, none⟩ = some (.int .i32 n) := HST.out.bi.cell 3
  have r8 : w2.cell? ⟨w.heap.size + 1, 8, none⟩ = some (.slice (some ⟨g, 0, none⟩) s s) := by rw [HST.out.br.cell, rgA_last R _ lR]
  have h20' := h20 w2 (some ⟨g, 0, none⟩) s
  clear h20
  go_wp2_with (go_at_call 102; refine Hid.out ?_)
  refine Lib.hid ?_
  refine h20'.mono ?_
  rintro e w3 ⟨rfl, hb3⟩
  have HST3 := Hid.in (HST.out.below hb3)
  clear h20' hb3 HST i0 i1 i2 i3 r8
  have hfn : (f != 0) = true := by rw [bne_iff_ne]; exact hf
  obtain ⟨r0, r1, r2, r3, r4, r5, r6, r7, rfl⟩ := eight lR
  have B1 : Hid (Blk w3 (w.heap.size + 1) 47 #[.int .u32 r0, .int .u32 r1, .int .u32 r2, .int .u32 r3, .int .u32 r4, .int .u32 r5, .int .u32 r6, .int .u32 r7, .slice (some ⟨g, 0, none⟩) s s]) := HST3.out.br
  have B8 := Hid.in HST3.out.b8
  have B9 := Hid.in HST3.out.b9
  have a0 : w3.cell? ⟨w.heap.size + 1, 0, none⟩ = some (.int .u32 r0) := B1.out.cell 0
  have a1 : w3.cell? ⟨w.heap.size + 1, 1, none⟩ = some (.int .u32 r1) := B1.out.cell 1
  have a2 : w3.cell? ⟨w.heap.size + 1, 2, none⟩ = some (.int .u32 r2) := B1.out.cell 2
  have a3 : w3.cell? ⟨w.heap.size + 1, 3, none⟩ = some (.int .u32 r3) := B1.out.cell 3
  have a4 : w3.cell? ⟨w.heap.size + 1, 4, none⟩ = some (.int .u32 r4) := B1.out.cell 4
  have a5 : w3.cell? ⟨w.heap.size + 1, 5, none⟩ = some (.int .u32 r5) := B1.out.cell 5
  have a6 : w3.cell? ⟨w.heap.size + 1, 6, none⟩ = some (.int .u32 r6) := B1.out.cell 6
  have a7 : w3.cell? ⟨w.heap.size + 1, 7, none⟩ = some (.int .u32 r7) := B1.out.cell 7
  have a8 : w3.cell? ⟨w.heap.size + 1, 8, none⟩ = some (.slice (some ⟨g, 0, none⟩) s s) := B1.out.cell 8
  have y0 : w3.cell? ⟨w.heap.size + 1 + 1, 0, none⟩ = some (.int .u32 0) := B8.out.cell 0
  have y1 : w3.cell? ⟨w.heap.size + 1 + 1, 1, none⟩ = some (.int .u32 0) := B8.out.cell 1
  have y2 : w3.cell? ⟨w.heap.size + 1 + 1, 2, none⟩ = some (.int .u32 0) := B8.out.cell 2
  have y3 : w3.cell? ⟨w.heap.size + 1 + 1, 3, none⟩ = some (.int .u32 0) := B8.out.cell 3
  have y4 : w3.cell? ⟨w.heap.size + 1 + 1, 4, none⟩ = some (.int .u32 0) := B8.out.cell 4
  have y5 : w3.cell? ⟨w.heap.size + 1 + 1, 5, none⟩ = some (.int .u32 0) := B8.out.cell 5
  have y6 : w3.cell? ⟨w.heap.size + 1 + 1, 6, none⟩ = some (.int .u32 0) := B8.out.cell 6
  have y7 : w3.cell? ⟨w.heap.size + 1 + 1, 7, none⟩ = some (.int .u32 0) := B8.out.cell 7
  have y8 : w3.cell? ⟨w.heap.size + 1 + 1, 8, none⟩ = some (.slice none 0 0) := B8.out.cell 8
  have z0 : w3.cell? ⟨w.heap.size + 1 + 1 + 1, 0, none⟩ = some (.int .u32 0) := B9.out.cell 0
  have z1 : w3.cell? ⟨w.heap.size + 1 + 1 + 1, 1, none⟩ = some (.bool false) := B9.out.cell 1
  have z2 : w3.cell? ⟨w.heap.size + 1 + 1 + 1, 2, none⟩ = some (.int .i64 0) := B9.out.cell 2
  have z3 : w3.cell? ⟨w.heap.size + 1 + 1 + 1, 3, none⟩ = some (.bool false) := B9.out.cell 3
  have z4 : w3.cell? ⟨w.heap.size + 1 + 1 + 1, 4, none⟩ = some (.bool false) := B9.out.cell 4
  have z5 : w3.cell? ⟨w.heap.size + 1 + 1 + 1, 5, none⟩ = some (.int .u32 0) := B9.out.cell 5
  have z6 : w3.cell? ⟨w.heap.size + 1 + 1 + 1, 6, none⟩ = some (.int .u32 0) := B9.out.cell 6
  have f8 : ∀ i, w3.frozen? ⟨w.heap.size + 1 + 1, i, none⟩ = false := fun i => B8.out.free i
  have f9 : ∀ i, w3.frozen? ⟨w.heap.size + 1 + 1 + 1, i, none⟩ = false := fun i => B9.out.free i
  go_wp2_with fail
  have HD : Hid (Blk ((((((((((((((((w3.setCell ⟨w.heap.size + 1 + 1, 0, none⟩ (.int .u32 r0)).setCell ⟨w.heap.size + 1 + 1, 1, none⟩ (.int .u32 r1)).setCell ⟨w.heap.size + 1 + 1, 2, none⟩ (.int .u32 r2)).setCell ⟨w.heap.size + 1 + 1, 3, none⟩ (.int .u32 r3)).setCell ⟨w.heap.size + 1 + 1, 4, none⟩ (.int .u32 r4)).setCell ⟨w.heap.size + 1 + 1, 5, none⟩ (.int .u32 r5)).setCell ⟨w.heap.size + 1 + 1, 6, none⟩ (.int .u32 r6)).setCell ⟨w.heap.size + 1 + 1, 7, none⟩ (.int .u32 r7)).setCell ⟨w.heap.size + 1 + 1, 8, none⟩ (.slice (some ⟨g, 0, none⟩) s s)).setCell ⟨w.heap.size + 1 + 1 + 1, 0, none⟩ (.int .u32 pc)).setCell ⟨w.heap.size + 1 + 1 + 1, 1, none⟩ (.bool false)).setCell ⟨w.heap.size + 1 + 1 + 1, 2, none⟩ (.int .i64 f)).setCell ⟨w.heap.size + 1 + 1 + 1, 3, none⟩ (.bool false)).setCell ⟨w.heap.size + 1 + 1 + 1, 4, none⟩ (.bool false)).setCell ⟨w.heap.size + 1 + 1 + 1, 5, none⟩ (.int .u32 0)).setCell ⟨w.heap.size + 1 + 1 + 1, 6, none⟩ (.int .u32 0)) (w.heap.size + 1 + 1) 47 #[.int .u32 r0, .int .u32 r1, .int .u32 r2, .int .u32 r3, .int .u32 r4, .int .u32 r5, .int .u32 r6, .int .u32 r7, .slice (some ⟨g, 0, none⟩) s s] ∧ Blk ((((((((((((((((w3.setCell ⟨w.heap.size + 1 + 1, 0, none⟩ (.int .u32 r0)).setCell ⟨w.heap.size + 1 + 1, 1, none⟩ (.int .u32 r1)).setCell ⟨w.heap.size + 1 + 1, 2, none⟩ (.int .u32 r2)).setCell ⟨w.heap.size + 1 + 1, 3, none⟩ (.int .u32 r3)).setCell ⟨w.heap.size + 1 + 1, 4, none⟩ (.int .u32 r4)).setCell ⟨w.heap.size + 1 + 1, 5, none⟩ (.int .u32 r5)).setCell ⟨w.heap.size + 1 + 1, 6, none⟩ (.int .u32 r6)).setCell ⟨w.heap.size + 1 + 1, 7, none⟩ (.int .u32 r7)).setCell ⟨w.heap.size + 1 + 1, 8, none⟩ (.slice (some ⟨g, 0, none⟩) s s)).setCell ⟨w.heap.size + 1 + 1 + 1, 0, none⟩ (.int .u32 pc)).setCell ⟨w.heap.size + 1 + 1 + 1, 1, none⟩ (.bool false)).setCell ⟨w.heap.size + 1 + 1 + 1, 2, none⟩ (.int .i64 f)).setCell ⟨w.heap.size + 1 + 1 + 1, 3, none⟩ (.bool false)).setCell ⟨w.heap.size + 1 + 1 + 1, 4, none⟩ (.bool false)).setCell ⟨w.heap.size + 1 + 1 + 1, 5, none⟩ (.int .u32 0)).setCell ⟨w.heap.size + 1 + 1 + 1, 6, none⟩ (.int .u32 0)) (w.heap.size + 1 + 1 + 1) 134 #[.int .u32 pc, .bool false, .int .i64 f, .bool false, .bool false, .int .u32 0, .int .u32 0] ∧ POwnV ((((((((((((((((w3.setCell ⟨w.heap.size + 1 + 1, 0, none⟩ (.int .u32 r0)).setCell ⟨w.heap.size + 1 + 1, 1, none⟩ (.int .u32 r1)).setCell ⟨w.heap.size + 1 + 1, 2, none⟩ (.int .u32 r2)).setCell ⟨w.heap.size + 1 + 1, 3, none⟩ (.int .u32 r3)).setCell ⟨w.heap.size + 1 + 1, 4, none⟩ (.int .u32 r4)).setCell ⟨w.heap.size + 1 + 1, 5, none⟩ (.int .u32 r5)).setCell ⟨w.heap.size + 1 + 1, 6, none⟩ (.int .u32 r6)).setCell ⟨w.heap.size + 1 + 1, 7, none⟩ (.int .u32 r7)).setCell ⟨w.heap.size + 1 + 1, 8, none⟩ (.slice (some ⟨g, 0, none⟩) s s)).setCell ⟨w.heap.size + 1 + 1 + 1, 0, none⟩ (.int .u32 pc)).setCell ⟨w.heap.size + 1 + 1 + 1, 1, none⟩ (.bool false)).setCell ⟨w.heap.size + 1 + 1 + 1, 2, none⟩ (.int .i64 f)).setCell ⟨w.heap.size + 1 + 1 + 1, 3, none⟩ (.bool false)).setCell ⟨w.heap.size + 1 + 1 + 1, 4, none⟩ (.bool false)).setCell ⟨w.heap.size + 1 + 1 + 1, 5, none⟩ (.int .u32 0)).setCell ⟨w.heap.size + 1 + 1 + 1, 6, none⟩ (.int .u32 0)) w.heap.size (.slice (some ⟨g, 0, none⟩) s s) S ∧ Below w.heap.size w ((((((((((((((((w3.setCell ⟨w.heap.size + 1 + 1, 0, none⟩ (.int .u32 r0)).setCell ⟨w.heap.size + 1 + 1, 1, none⟩ (.int .u32 r1)).setCell ⟨w.heap.size + 1 + 1, 2, none⟩ (.int .u32 r2)).setCell ⟨w.heap.size + 1 + 1, 3, none⟩ (.int .u32 r3)).setCell ⟨w.heap.size + 1 + 1, 4, none⟩ (.int .u32 r4)).setCell ⟨w.heap.size + 1 + 1, 5, none⟩ (.int .u32 r5)).setCell ⟨w.heap.size + 1 + 1, 6, none⟩ (.int .u32 r6)).setCell ⟨w.heap.size + 1 + 1, 7, none⟩ (.int .u32 r7)).setCell ⟨w.heap.size + 1 + 1, 8, none⟩ (.slice (some ⟨g, 0, none⟩) s s)).setCell ⟨w.heap.size + 1 + 1 + 1, 0, none⟩ (.int .u32 pc)).setCell ⟨w.heap.size + 1 + 1 + 1, 1, none⟩ (.bool false)).setCell ⟨w.heap.size + 1 + 1 + 1, 2, none⟩ (.int .i64 f)).setCell ⟨w.heap.size + 1 + 1 + 1, 3, none⟩ (.bool false)).setCell ⟨w.heap.size + 1 + 1 + 1, 4, none⟩ (.bool false)).setCell ⟨w.heap.size + 1 + 1 + 1, 5, none⟩ (.int .u32 0)).setCell ⟨w.heap.size + 1 + 1 + 1, 6, none⟩ (.int .u32 0))) := HST3.out.stored #[.int .u32 r0, .int .u32 r1, .int .u32 r2, .int .u32 r3, .int .u32 r4, .int .u32 r5, .int .u32 r6, .int .u32 r7, .slice (some ⟨g, 0, none⟩) s s] #[.int .u32 pc, .bool false, .int .i64 f, .bool false, .bool false, .int .u32 0, .int .u32 0] rfl rfl
  generalize ((((((((((((((((w3.setCell ⟨w.heap.size + 1 + 1, 0, none⟩ (.int .u32 r0)).setCell ⟨w.heap.size + 1 + 1, 1, none⟩ (.int .u32 r1)).setCell ⟨w.heap.size + 1 + 1, 2, none⟩ (.int .u32 r2)).setCell ⟨w.heap.size + 1 + 1, 3, none⟩ (.int .u32 r3)).setCell ⟨w.heap.size + 1 + 1, 4, none⟩ (.int .u32 r4)).setCell ⟨w.heap.size + 1 + 1, 5, none⟩ (.int .u32 r5)).setCell ⟨w.heap.size + 1 + 1, 6, none⟩ (.int .u32 r6)).setCell ⟨w.heap.size + 1 + 1, 7, none⟩ (.int .u32 r7)).setCell ⟨w.heap.size + 1 + 1, 8, none⟩ (.slice (some ⟨g, 0, none⟩) s s)).setCell ⟨w.heap.size + 1 + 1 + 1, 0, none⟩ (.int .u32 pc)).setCell ⟨w.heap.size + 1 + 1 + 1, 1, none⟩ (.bool false)).setCell ⟨w.heap.size + 1 + 1 + 1, 2, none⟩ (.int .i64 f)).setCell ⟨w.heap.size + 1 + 1 + 1, 3, none⟩ (.bool false)).setCell ⟨w.heap.size + 1 + 1 + 1, 4, none⟩ (.bool false)).setCell ⟨w.heap.size + 1 + 1 + 1, 5, none⟩ (.int .u32 0)).setCell ⟨w.heap.size + 1 + 1 + 1, 6, none⟩ (.int .u32 0)) = wd at *
  obtain ⟨d1, d2, d3, d4⟩ := HD.out
  have l1 := d1.load 47 _ Tryz.underlying47 rfl Tryz.sz47
  have l2 := d2.load 134 _ Tryz.underlying134 rfl Tryz.sz134
  exact bodyPost_ret (v := .tuple #[.agg #[.int .u32 r0, .int .u32 r1, .int .u32 r2, .int .u32 r3, .int .u32 r4, .int .u32 r5, .int .u32 r6, .int .u32 r7, .slice (some ⟨g, 0, none⟩) s s], .agg #[.int .u32 pc, .bool false, .int .i64 f, .bool false, .bool false, .int .u32 0, .int .u32 0]]) (by simp [results, Tryz.results71, asAddr, l1, l2]) rfl ⟨⟨_, rfl, d3⟩, d4⟩

end Go.Proofs.YtnpaijbkhmnfpaaGreat

/- switchyardref14.Do: how its variables lie in memory. -/
namespace Go.Proofs.YtnpaijbkhmnfpaaGreat
open Go.RowKit

/-- Do's variables: the instruction, the registers, both results; q: the first block -/
structure RSt (w : World) (q : Nat) (o a b n : Int) (R : List Int) (v : Value) (S : List Int) (wr : World) : Prop where
  bi : Blk wr q 117 #[.int .u8 o, .int .u8 a, .int .u8 b, .int .i32 n]
  br : Blk wr (q + 1) 47 (rgA R v)
  b8 : Blk wr (q + 1 + 1) 47 noRegs
  b9 : Blk wr (q + 1 + 1 + 1) 121 (efA 0)
  ow : POwnV wr (q + 4) v S
  bel : Below q w wr
  len : R.length = 8

theorem RSt.below {w wr wr' : World} {q : Nat} {o a b n : Int} {R S : List Int} {v : Value} (h : RSt w q o a b n R v S wr) (hb : Below wr.heap.size wr wr') : RSt w q o a b n R v S wr' :=
  ⟨h.bi.grow hb, h.br.grow hb, h.b8.grow hb, h.b9.grow hb, h.ow.below hb, h.bel.trans (hb.mono (by have := h.bi.lt; omega)), h.len⟩
theorem RSt.drewN {w wr : World} {q : Nat} {o a b n : Int} {R S : List Int} {v : Value} (h : RSt w q o a b n R v S wr) (k : Nat) : RSt w q o a b n R v S (wr.drewN k) :=
  ⟨h.bi, h.br, h.b8, h.b9, h.ow, below_drewN h.bel k, h.len⟩
theorem RSt.setR {w wr : World} {q : Nat} {o a b n : Int} {R S : List Int} {v : Value} (h : RSt w q o a b n R v S wr) (i : Nat) (hi : i < 8) (x : Int) : RSt w q o a b n (R.set i x) v S (wr.setCell ⟨q + 1, i, none⟩ (.int .u32 x)) :=
  ⟨h.bi.other (by omega) _ _, by have := h.br.set i (.int .u32 x); rw [rgA_set R v i (by rw [h.len]; exact hi)] at this; exact this, h.b8.other (by omega) _ _, h.b9.other (by omega) _ _,
    h.ow.keptFar (grown_setCell _ _ _ _) (by omega), h.bel.grown (grown_setCell _ _ _ _) (by have := h.bi.lt; omega) (fun k hk => by cases hk; omega), by rw [List.length_set]; exact h.len⟩
/-- .. and the effect's -/
structure RSx (w : World) (q : Nat) (o a b n : Int) (R : List Int) (v : Value) (S : List Int) (gx : Nat) (E : Array Value) (wr : World) : Prop where
  st : RSt w q o a b n R v S wr
  bx : Blk wr gx 121 E
  ge : q + 4 ≤ gx
  ne : v.ownBlock ≠ some gx
theorem RSx.setR {w wr : World} {q gx : Nat} {o a b n : Int} {R S : List Int} {v : Value} {E : Array Value} (h : RSx w q o a b n R v S gx E wr) (i : Nat) (hi : i < 8) (x : Int) : RSx w q o a b n (R.set i x) v S gx E (wr.setCell ⟨q + 1, i, none⟩ (.int .u32 x)) :=
  ⟨h.st.setR i hi x, h.bx.other (by have := h.ge; omega) _ _, h.ge, h.ne⟩
theorem RSx.drewN {w wr : World} {q gx : Nat} {o a b n : Int} {R S : List Int} {v : Value} {E : Array Value} (h : RSx w q o a b n R v S gx E wr) (k : Nat) : RSx w q o a b n R v S gx E (wr.drewN k) :=
  ⟨h.st.drewN k, h.bx, h.ge, h.ne⟩
theorem RSt.far {w wr wr' : World} {q gx : Nat} {o a b n : Int} {R S : List Int} {v : Value} (h : RSt w q o a b n R v S wr) (hg : wr.grownBy wr' (some gx)) (hq : q + 4 ≤ gx) (hne : v.ownBlock ≠ some gx) : RSt w q o a b n R v S wr' :=
  ⟨h.bi.kept hg (by intro e; injection e with e; omega), h.br.kept hg (by intro e; injection e with e; omega), h.b8.kept hg (by intro e; injection e with e; omega), h.b9.kept hg (by intro e; injection e with e; omega),
    h.ow.kept hg hne, h.bel.grown hg (by have := h.bi.lt; omega) (fun k hk => by cases hk; omega), h.len⟩
theorem RSx.setE {w wr : World} {q gx : Nat} {o a b n : Int} {R S : List Int} {v : Value} {E : Array Value} (h : RSx w q o a b n R v S gx E wr) (i : Nat) (x : Value) : RSx w q o a b n R v S gx (E.setIfInBounds i x) (wr.setCell ⟨gx, i, none⟩ x) :=
  ⟨h.st.far (grown_setCell _ _ _ _) h.ge h.ne, h.bx.set i x, h.ge, h.ne⟩

theorem RSx.to {w wr : World} {q gx : Nat} {o a b n : Int} {R R' S S' : List Int} {v : Value} {E E' : Array Value} (h : RSx w q o a b n R v S gx E wr) (h1 : R' = R) (h2 : S' = S) (h3 : E' = E) : RSx w q o a b n R' v S' gx E' wr := by
  subst h1 h2 h3; exact h
theorem RSx.below {w wr wr' : World} {q gx : Nat} {o a b n : Int} {R S : List Int} {v : Value} {E : Array Value} (h : RSx w q o a b n R v S gx E wr) (hb : Below wr.heap.size wr wr') : RSx w q o a b n R v S gx E wr' :=
  ⟨h.st.below hb, h.bx.grow hb, h.ge, h.ne⟩
theorem RSx.reg {w wr : World} {q gx : Nat} {o a b n : Int} {R S : List Int} {v : Value} {E : Array Value} (h : RSx w q o a b n R v S gx E wr) {i : Nat} (hi : i < 8) : wr.cell? ⟨q + 1, i, none⟩ = some (.int .u32 (R.getD i 0)) := by
  rw [h.st.br.cell, rgA_cell R v i (by rw [h.st.len]; exact hi)]
theorem RSt.withE {w wr : World} {q : Nat} {o a b n : Int} {R S : List Int} {v : Value} (ob : Obj) {E : Array Value} (h : RSt w q o a b n R v S wr) (hob : ob = .cells E 121) :
    RSx w q o a b n R v S wr.heap.size E (wr.alloc ob) := by
  subst hob
  exact ⟨h.below (new_alloc _ _), Blk.new _ _ _, by have := h.b9.lt; omega, fun e => by have := (World.ownsRow.lt h.ow _ e).2; omega⟩
theorem POwnV.notType40 {w : World} {B g : Nat} {v : Value} {xs : List Int} {E : Array Value} (h : POwnV w B v xs) (hb : Blk w g 121 E) : v.ownBlock ≠ some g := by
  rcases h.shape with ⟨rfl, _⟩ | ⟨g', cap, rfl, ho⟩
  · intro e; cases e
  · intro e
    have e' : some g' = some g := e
    injection e' with e'
    obtain ⟨cur, _, h2, _⟩ := ho.parts
    rw [e', show w.heap[g]? = _ from hb] at h2
    simp at h2
theorem RSx.pushed {w wr w6 : World} {q gx : Nat} {o a b n bh : Int} {R S : List Int} {E : Array Value} {v : Value} {p' : Option Addr} {l' c' : Nat} (h : RSx w q o a b n R v S gx E wr)
    (ho : POwnV w6 (q + 4) (.slice p' l' c') (S ++ [bh])) (hgr : (wr.alloc (.cells #[.int .u32 bh] 31)).grownBy w6 v.ownBlock) :
    w6.cell? ⟨q + 1, 8, none⟩ = some v ∧ w6.frozen? ⟨q + 1, 8, none⟩ = false ∧ (w6.setCell ⟨q + 1, 8, none⟩ (.slice p' l' c')).cell? ⟨gx, 0, none⟩ = E[0]? ∧ (∀ i, (w6.setCell ⟨q + 1, 8, none⟩ (.slice p' l' c')).frozen? ⟨gx, i, none⟩ = false) ∧
      RSx w q o a b n R (.slice p' l' c') (S ++ [bh]) gx E (w6.setCell ⟨q + 1, 8, none⟩ (.slice p' l' c')) := by
  have h5 := h.below (new_alloc wr (.cells #[.int .u32 bh] 31))
  have hv : ∀ k, v.ownBlock = some k → q + 4 ≤ k := fun k hk => (World.ownsRow.lt h.st.ow k hk).1
  have hk : ∀ k, k < q + 4 → some k ≠ v.ownBlock := fun k hk e => by have := hv k e.symm; omega
  have k1 := h5.st.br.kept hgr (hk _ (by omega))
  have kx := h5.bx.kept hgr (by intro e; exact h.ne e.symm)
  have kx' := kx.other (k := q + 1) (by have := h.ge; omega) 8 (.slice p' l' c')
  refine ⟨by rw [k1.cell, rgA_last R _ h.st.len], k1.free 8, by rw [kx'.cell], fun i => kx'.free i, ⟨⟨?_, ?_, ?_, ?_, ?_, ?_, h.st.len⟩, kx', h.ge, ho.notType40 kx⟩⟩
  · exact (h5.st.bi.kept hgr (hk _ (by omega))).other (by omega) _ _
  · have := k1.set 8 (.slice p' l' c'); rw [rgA_stack R _ _ h.st.len] at this; exact this
  · exact (h5.st.b8.kept hgr (hk _ (by omega))).other (by omega) _ _
  · exact (h5.st.b9.kept hgr (hk _ (by omega))).other (by omega) _ _
  · exact ho.keptFar (grown_setCell _ _ _ _) (by omega)
  · exact (h5.st.bel.grown hgr (by have := h5.st.bi.lt; omega) (fun k hk => by have := hv k hk; omega)).grown (grown_setCell _ _ _ _) (by have := (h5.st.bi.kept hgr (hk _ (by omega))).lt; omega) (fun k hk => by cases hk; omega)
theorem RSx.cells {w wr : World} {q gx : Nat} {o a b n bh : Int} {R S : List Int} {v : Value} (h : RSx w q o a b n R v S gx (efA bh) wr) :
    wr.cell? ⟨q + 1, 8, none⟩ = some v ∧ wr.frozen? ⟨q + 1, 8, none⟩ = false ∧ wr.cell? ⟨gx, 0, none⟩ = some (.int .u32 bh) ∧ wr.cell? ⟨gx, 1, none⟩ = some (.bool false) ∧ wr.cell? ⟨gx, 2, none⟩ = some (.int .i64 0) ∧ wr.cell? ⟨gx, 3, none⟩ = some (.bool false) ∧ wr.cell? ⟨gx, 4, none⟩ = some (.bool false) ∧ wr.cell? ⟨gx, 5, none⟩ = some (.int .u32 0) ∧ wr.cell? ⟨gx, 6, none⟩ = some (.int .u32 0) ∧ (∀ i, wr.frozen? ⟨gx, i, none⟩ = false) ∧
      ∀ v' S', v'.ownBlock ≠ some gx → (POwnV wr (q + 4) v S → POwnV wr (q + 4) v' S') → RSx w q o a b n R v' S' gx (efA bh) (wr.setCell ⟨q + 1, 8, none⟩ v') := by
  refine ⟨by rw [h.st.br.cell, rgA_last R _ h.st.len], h.st.br.free 8, h.bx.cell 0, h.bx.cell 1, h.bx.cell 2, h.bx.cell 3, h.bx.cell 4, h.bx.cell 5, h.bx.cell 6, fun i => h.bx.free i, fun v' S' hne ho => ⟨⟨h.st.bi.other (by omega) _ _, ?_, h.st.b8.other (by omega) _ _, h.st.b9.other (by omega) _ _, (ho h.st.ow).keptFar (grown_setCell _ _ _ _) (by omega), ?_, h.st.len⟩, h.bx.other (by have := h.ge; omega) _ _, h.ge, hne⟩⟩
  · have := h.st.br.set 8 v'; rw [rgA_stack R _ _ h.st.len] at this; exact this
  · exact h.st.bel.grown (grown_setCell _ _ _ _) (by have := h.st.bi.lt; omega) (fun k hk => by cases hk; omega)
theorem RSx.setAll {w wr : World} {q gx : Nat} {o a b n : Int} {R S : List Int} {v : Value} {E : Array Value} (h : RSx w q o a b n R v S gx E wr) (E' : Array Value) (hs : E'.size = E.size) : RSx w q o a b n R v S gx E' (wr.setCells gx 0 E'.toList) :=
  ⟨h.st.far (grown_setCells gx _ _ _) h.ge h.ne, h.bx.setAll E' hs, h.ge, h.ne⟩
theorem RSx.stored {w wr : World} {q gx : Nat} {o a b n : Int} {R S : List Int} {v : Value} {E : Array Value} (h : RSx w q o a b n R v S gx E wr) (A F : Array Value) (hA : A.size = 9) (hF : F.size = 7) :
    Blk ((wr.setCells (q + 1 + 1) 0 A.toList).setCells (q + 1 + 1 + 1) 0 F.toList).drew (q + 1 + 1) 47 A ∧ Blk ((wr.setCells (q + 1 + 1) 0 A.toList).setCells (q + 1 + 1 + 1) 0 F.toList).drew (q + 1 + 1 + 1) 121 F ∧
      POwnV ((wr.setCells (q + 1 + 1) 0 A.toList).setCells (q + 1 + 1 + 1) 0 F.toList).drew q v S ∧ Below q w ((wr.setCells (q + 1 + 1) 0 A.toList).setCells (q + 1 + 1 + 1) 0 F.toList).drew := by
  have g1 := grown_setCells (q + 1 + 1) A.toList 0 wr
  have b1 : Blk (wr.setCells (q + 1 + 1) 0 A.toList) (q + 1 + 1) 47 A := h.st.b8.setAll A (by rw [hA]; rfl)
  have b2 := h.st.b9.kept g1 (by intro e; injection e with e; omega)
  have o1 := h.st.ow.keptFar g1 (by omega)
  have l1 := h.st.bel.grown g1 (by have := h.st.bi.lt; omega) (fun k hk => by cases hk; omega)
  generalize wr.setCells (q + 1 + 1) 0 A.toList = w1 at *
  have g2 := grown_setCells (q + 1 + 1 + 1) F.toList 0 w1
  have b3 : Blk (w1.setCells (q + 1 + 1 + 1) 0 F.toList) (q + 1 + 1 + 1) 121 F := b2.setAll F (by rw [hF]; rfl)
  have k1 : Blk (w1.setCells (q + 1 + 1 + 1) 0 F.toList) (q + 1 + 1) 47 A := b1.kept g2 (by intro e; injection e with e; omega)
  have o2 : POwnV (w1.setCells (q + 1 + 1 + 1) 0 F.toList) q v S := (o1.keptFar g2 (by omega)).low (by omega)
  exact ⟨k1, b3, o2, (l1.grown g2 (by have := b1.lt; omega) (fun k hk => by cases hk; omega)).drew⟩
/-- how its variables lie when it begins -/
theorem RSt.start (w w0 : World) (o a b n : Int) (R S : List Int) (v0 : Value) (lR : R.length = 8) (h0 : w0 = (((w.alloc (.cells #[.int .u8 o, .int .u8 a, .int .u8 b, .int .i32 n] 117)).alloc (.cells (rgA R v0) 47)).alloc (.cells noRegs 47)).alloc (.cells (efA 0) 121)) :
    (∀ w1 w2 v, POwnV w1 (w.heap.size + 4) v S → Below w0.heap.size w0 w1 → w1.grownBy w2 (some (w.heap.size + 1)) → Blk w2 (w.heap.size + 1) 47 (rgA R v) → RSt w w.heap.size o a b n R v S w2) ∧ w0.heap.size = w.heap.size + 4 ∧ Below w.heap.size w w0 ∧ (∀ w1, Below w0.heap.size w0 w1 → Blk w1 (w.heap.size + 1) 47 (rgA R v0)) := by
  have b1 : Blk (w.alloc (.cells #[.int .u8 o, .int .u8 a, .int .u8 b, .int .i32 n] 117)) w.heap.size 117 #[.int .u8 o, .int .u8 a, .int .u8 b, .int .i32 n] := Blk.new _ _ _
  have s1 := size_one w (.cells #[.int .u8 o, .int .u8 a, .int .u8 b, .int .i32 n] 117)
  have g1 := new_alloc w (.cells #[.int .u8 o, .int .u8 a, .int .u8 b, .int .i32 n] 117)
  generalize w.alloc (.cells #[.int .u8 o, .int .u8 a, .int .u8 b, .int .i32 n] 117) = W1 at *
  have b2 := Blk.new W1 47 (rgA R v0)
  have s2 := size_one W1 (.cells (rgA R v0) 47)
  have g2 := new_alloc W1 (.cells (rgA R v0) 47)
  generalize W1.alloc (.cells (rgA R v0) 47) = W2 at *
  have b3 := Blk.new W2 47 noRegs
  have s3 := size_one W2 (.cells noRegs 47)
  have g3 := new_alloc W2 (.cells noRegs 47)
  generalize W2.alloc (.cells noRegs 47) = W3 at *
  have b4 := Blk.new W3 121 (efA 0)
  have s4 := size_one W3 (.cells (efA 0) 121)
  have g4 := new_alloc W3 (.cells (efA 0) 121)
  rw [← h0] at b4 s4 g4
  rw [s1] at b2
  rw [s2, s1] at b3
  rw [s3, s2, s1] at b4
  have e0 : w0.heap.size = w.heap.size + 4 := by omega
  have B1 := ((b1.grow g2).grow g3).grow g4
  have B2 := (b2.grow g3).grow g4
  have B3 := b3.grow g4
  have hb : Below w.heap.size w w0 := below_step (below_step (below_step g1 g2) g3) g4
  refine ⟨fun w1 w2 v ho h1 hg hbr => ?_, e0, hb, fun w1 h1 => B2.grow h1⟩
  exact ⟨(B1.grow h1).kept hg (by intro e; injection e with e; omega), hbr, (B3.grow h1).kept hg (by intro e; injection e with e; omega), (b4.grow h1).kept hg (by intro e; injection e with e; omega), ho.keptFar hg (by omega), (below_step hb h1).grown hg (by have := h1.size; omega) (fun k hk => by cases hk; omega), lR⟩

/-- both results are stored -/
theorem RSt.stored {w wr : World} {q : Nat} {o a b n : Int} {R S : List Int} {v : Value} (h : RSt w q o a b n R v S wr) (A F : Array Value) (hA : A.size = 9) (hF : F.size = 7) :
    Blk ((wr.setCells (q + 1 + 1) 0 A.toList).setCells (q + 1 + 1 + 1) 0 F.toList) (q + 1 + 1) 47 A ∧ Blk ((wr.setCells (q + 1 + 1) 0 A.toList).setCells (q + 1 + 1 + 1) 0 F.toList) (q + 1 + 1 + 1) 121 F ∧
      POwnV ((wr.setCells (q + 1 + 1) 0 A.toList).setCells (q + 1 + 1 + 1) 0 F.toList) q v S ∧ Below q w ((wr.setCells (q + 1 + 1) 0 A.toList).setCells (q + 1 + 1 + 1) 0 F.toList) := by
  have g1 := grown_setCells (q + 1 + 1) A.toList 0 wr
  have b1 : Blk (wr.setCells (q + 1 + 1) 0 A.toList) (q + 1 + 1) 47 A := h.b8.setAll A (by rw [hA]; rfl)
  have b2 := h.b9.kept g1 (by intro e; injection e with e; omega)
  have o1 := h.ow.keptFar g1 (by omega)
  have l1 := h.bel.grown g1 (by have := h.bi.lt; omega) (fun k hk => by cases hk; omega)
  generalize wr.setCells (q + 1 + 1) 0 A.toList = w1 at *
  have g2 := grown_setCells (q + 1 + 1 + 1) F.toList 0 w1
  have b3 : Blk (w1.setCells (q + 1 + 1 + 1) 0 F.toList) (q + 1 + 1 + 1) 121 F := b2.setAll F (by rw [hF]; rfl)
  have k1 : Blk (w1.setCells (q + 1 + 1 + 1) 0 F.toList) (q + 1 + 1) 47 A := b1.kept g2 (by intro e; injection e with e; omega)
  exact ⟨k1, b3, (o1.keptFar g2 (by omega)).low (by omega), l1.grown g2 (by have := b1.lt; omega) (fun k hk => by cases hk; omega)⟩


end Go.Proofs.YtnpaijbkhmnfpaaGreat

/- switchyardref14.Do: small steps. -/
namespace Go.Proofs.YtnpaijbkhmnfpaaGreat
open Go.RowKit

theorem Tryz.sz121 : (Tryz.prog.info? 121).map (·.size) = some 7 := by kernel_rfl
theorem rgA_one (R : List Int) (v : Value) (h : v.oneCell' = true) : (rgA R v).all (·.oneCell') = true := by
  rw [Array.all_eq_true']
  intro x hx
  simp only [rgA, List.mem_toArray, List.mem_append, List.mem_singleton] at hx
  rcases hx with hx | rfl
  · exact one_wrds R x hx
  · exact h
theorem POwnV.some_ {w : World} {B k c : Nat} {p : Option Addr} {S : List Int} (h : POwnV w B (.slice p (k + 1) c) S) (hS : S.length = k + 1) : ∃ g, k < c ∧ c ≤ maxLen ∧ p = some ⟨g, 0, none⟩ := by
  rcases h.shape with ⟨e, _⟩ | ⟨g', cap, e, ho⟩
  · cases e
  · injection e with e _ e3
    obtain ⟨cur, _, _, h3, h4, _⟩ := ho.parts
    exact ⟨g', by omega, by omega, e⟩
theorem RSx.stack {w wr : World} {q gx : Nat} {o a b n : Int} {R S : List Int} {v : Value} {E : Array Value} (h : RSx w q o a b n R v S gx E wr) (v' : Value) (S' : List Int) (hne : v'.ownBlock ≠ some gx) (ho : POwnV wr (q + 4) v S → POwnV wr (q + 4) v' S') :
    RSx w q o a b n R v' S' gx E (wr.setCell ⟨q + 1, 8, none⟩ v') := by
  refine ⟨⟨h.st.bi.other (by omega) _ _, ?_, h.st.b8.other (by omega) _ _, h.st.b9.other (by omega) _ _, (ho h.st.ow).keptFar (grown_setCell _ _ _ _) (by omega), ?_, h.st.len⟩, h.bx.other (by have := h.ge; omega) _ _, h.ge, hne⟩
  · have := h.st.br.set 8 v'; rw [rgA_stack R _ _ h.st.len] at this; exact this
  · exact h.st.bel.grown (grown_setCell _ _ _ _) (by have := h.st.bi.lt; omega) (fun k hk => by cases hk; omega)

end Go.Proofs.YtnpaijbkhmnfpaaGreat

/- switchyardref14.Do, for every instruction that is done. -/
namespace Go.Proofs.YtnpaijbkhmnfpaaGreat
open Go.RowKit

set_option maxHeartbeats 40000000 in
set_option maxRecDepth 8000 in
theorem rdo_okA (o a b : Nat) (n pc : Int) (R S D : List Int) (p q : Option Addr) (s c d dc : Nat) (w : World) (ha : a ≤ 255) (hb : b ≤ 255) (_hpc : 0 ≤ pc ∧ pc ≤ 4294967295) (_hn : -2147483648 ≤ n ∧ n ≤ 2147483647)
    (lR : R.length = 8) (hS : S.length = s) (hs : s * 4 ≤ 140737488355324) (hD : D.length = d) (_hd : d ≤ 140737488355328) (hr : PRow w p S) (hrd : Row w q D) (hbd : Byt D)
    (hf : fltL o a b n s d = 0) (hset : o = 1 ∨ o = 2 ∨ o = 3 ∨ o = 5 ∨ o = 6 ∨ o = 7 ∨ o = 8 ∨ o = 9) :
    Calls Tryz.prog 58 #[ins o a b n, .int .u32 pc, rgV R (.slice p s c), .slice q d dc] w fun e w' => (∃ v, e = .returned (.tuple #[rgV (doR o a b n R D) v, .agg (effA (doE o a n pc R S))]) ∧ POwnV w' w.heap.size v (doS o pc S)) ∧ Below w.heap.size w w' := by
  have HSET := Hid.in hset
  clear hset
  have hR := flt_right hf
  obtain ⟨ha8, hb8⟩ := right_reg hR
  have ho17 := (rightB_parts hR).1
  have h14 := fun W => rspan_any o a b n W (by omega) (by omega)
  rw [spanN_right hR] at h14
  have h7 := fun W (h : PRow W p S) => copyRegs_any R p s c S W lR hS (by omega) h
  have hlen := lenN_in o ho17.1 ho17.2
  have HRW : Hid (∀ W, Below w.heap.size w W → PRow W p S) := fun W h => hr.below h
  have HRD : Hid (∀ W, Below w.heap.size w W → Row W q D) := fun W h => hrd.below h
  have HS := Hid.in hS
  have HD := Hid.in hD
  have HBY := Hid.in hbd
  have sz9 : ∀ v, (Tryz.prog.info? 47).map (·.size) = some (rgA R v).size := fun v => by rw [rgA_size R _ lR]; exact Tryz.sz47
  have SZ := Hid.in sz9
  have ON : Hid (∀ v, v.oneCell' = true → (rgA R v).all (·.oneCell') = true) := fun v hv => rgA_one R v hv
  clear hr hrd hS hD hbd sz9
  show Calls Tryz.prog 58 #[ins o a b n, .int .u32 pc, .agg (rgA R (.slice p s c)), .slice q d dc] w _
  go_enter Tryz.func58, Tryz.ntmps58
  go_upto_region 1 with fail
  obtain ⟨hst, hsz, hb0, hbr⟩ := RSt.start w _ o a b n R S (.slice p s c) lR rfl
  generalize (((w.alloc (.cells #[.int .u8 o, .int .u8 a, .int .u8 b, .int .i32 n] 117)).alloc (.cells (rgA R (.slice p s c)) 47)).alloc (.cells noRegs 47)).alloc (.cells (efA 0) 121) = w0 at *
  have h7' := h7 w0 (HRW.out _ hb0)
  have HB0 := Hid.in (hbr w0 (below_self _))
  clear h7 HRW
  go_wp2_with (first | (go_at_call 35; refine Hid.out ?_) | (refine step_load_blk HB0.out rfl 47 _ rfl rfl (rgA R (.slice p s c)) (List.prefix_refl _) _ Tryz.underlying47 rfl (SZ.out _) ?_))
  refine Lib.hid ?_
  refine h7'.mono ?_
  rintro e w1 ⟨⟨v, rfl, ho1⟩, hb1⟩
  obtain ⟨pv, cv, rfl, -, -⟩ := ho1.slice
  rw [HS.out] at ho1 ⊢
  have HB1 := Hid.in (hbr w1 hb1)
  have HST : Hid (∀ w2, w1.grownBy w2 (some (w.heap.size + 1)) → Blk w2 (w.heap.size + 1) 47 (rgA R (.slice pv s cv)) → RSt w w.heap.size o a b n R (.slice pv s cv) S w2) := fun w2 k1 k2 => hst w1 w2 _ (by rw [← hsz]; exact ho1) hb1 k1 k2
  clear hst hbr hb1 ho1 h7' hb0 HB0
  go_wp2_with (first | (go_at_call 94; refine Hid.out ?_) | (refine step_store_blk HB1.out rfl 47 _ _ rfl rfl rfl (rgA R (.slice pv s cv)) rfl (SZ.out _) (by rw [rgA_size R _ lR, rgA_size R _ lR]) (ON.out _ rfl) ?_; intro w2 hk2 hg2; have HST2 := Hid.in (HST.out w2 hg2 hk2); have i0 : w2.cell? ⟨w.heap.size, 0, none⟩ = some (.int .u8 o) := HST2.out.bi.cell 0; have i1 : w2.cell? ⟨w.heap.size, 1, none⟩ = some (.int .u8 a) := HST2.out.bi.cell 1; have i2 : w2.cell? ⟨w.heap.size, 2, none⟩ = some (.int .u8 b) := HST2.out.bi.cell 2; have i3 : w2.cell? ⟨w.heap.size, 3, none⟩ = some (.int .i32 n) := HST2.out.bi.cell 3; clear hk2 hg2 HB1))
  refine Lib.hid ?_
  refine (h14 _).mono ?_
  rintro e w3 ⟨rfl, hb3⟩
  have HST3 := Hid.in (HST2.out.below hb3)
  clear h14 hb3 HST HST2 i0 i1 i2 i3
  have i0 : w3.cell? ⟨w.heap.size, 0, none⟩ = some (.int .u8 o) := HST3.out.bi.cell 0
  have i3 : w3.cell? ⟨w.heap.size, 3, none⟩ = some (.int .i32 n) := HST3.out.bi.cell 3
  have o4 : ((o : Int) == 4) = false := by
    simp; intro e; have e' : o = 4 := by omega
    subst e'; simp [fltL, hR] at hf
  have l0 : ((lenN o : Int) == 0) = false := by simp; omega
  go_upto_region 8 with fail
  have HX5 := Hid.in (HST3.out.withE (.cells (efA ((pc + (lenN o : Int)) % 4294967296)) 121) rfl)
  have HBH : Hid (behL o pc = (pc + (lenN o : Int)) % 4294967296) := rfl
  have HWY : Hid (wayL o n pc = ((pc + (lenN o : Int)) % 4294967296 + n % 4294967296) % 4294967296) := rfl
  generalize (pc + (lenN o : Int)) % 4294967296 = bh at *
  generalize (bh + n % 4294967296) % 4294967296 = wy at *
  generalize w3.alloc (.cells (efA bh) 121) = w5 at *
  generalize w3.heap.size = gx at *
  have HX : Hid (RSx w w.heap.size o a b n R (.slice pv s cv) S gx (efA bh) w5) := HX5.out
  clear HX5 HST3 i0 i3 hlen l0
  obtain ⟨x, HRA⟩ : ∃ x, Hid (R.getD a 0 = x) := ⟨_, rfl⟩
  obtain ⟨y, HRB⟩ : ∃ y, Hid (R.getD b 0 = y) := ⟨_, rfl⟩
  have ra : w5.cell? ⟨w.heap.size + 1, a, none⟩ = some (.int .u32 x) := by rw [← HRA.out]; exact HX.out.reg ha8
  have rb : w5.cell? ⟨w.heap.size + 1, b, none⟩ = some (.int .u32 y) := by rw [← HRB.out]; exact HX.out.reg hb8
  have fr : ∀ i, w5.frozen? ⟨w.heap.size + 1, i, none⟩ = false := fun i => HX.out.st.br.free i
  have fx : ∀ i, w5.frozen? ⟨gx, i, none⟩ = false := fun i => HX.out.bx.free i
  have i0 : w5.cell? ⟨w.heap.size, 0, none⟩ = some (.int .u8 o) := HX.out.st.bi.cell 0
  have i1 : w5.cell? ⟨w.heap.size, 1, none⟩ = some (.int .u8 a) := HX.out.st.bi.cell 1
  have i2 : w5.cell? ⟨w.heap.size, 2, none⟩ = some (.int .u8 b) := HX.out.st.bi.cell 2
  have i3 : w5.cell? ⟨w.heap.size, 3, none⟩ = some (.int .i32 n) := HX.out.st.bi.cell 3
  have hgx : w.heap.size + 4 ≤ gx := HX.out.ge
  go_upto_block 0 with fail
  go_cut [41] from 42 to 220 (fun _ wx => ∃ v', RSx w w.heap.size o a b n (doR o a b n R D) v' (doS o pc S) gx (effA (doE o a n pc R S)) wx)
  case first =>
    clear o4
    rcases HSET.out with rfl | rfl | rfl | rfl | rfl | rfl | rfl | rfl
    ·   have e1 : w5.cell? ⟨gx, 1, none⟩ = some (.bool false) := HX.out.bx.cell 1
        go_wp2_with fail
        go_meet
        case rel => exact ⟨_, (HX.out.setE 1 _).to (by simp [doR]) (by simp [doS]) (by simp [doE, effA, goE, HBH.out])⟩
    ·   go_wp2_with fail
        go_meet
        case rel => exact ⟨_, HX.out.to (by simp [doR]) (by simp [doS]) (by simp [doE, effA, goE, HBH.out])⟩
    ·   go_wp2_with fail
        go_meet
        case rel => exact ⟨_, HX.out.to (by simp [doR]) (by simp [doS]) (by simp [doE, effA, goE, HBH.out])⟩
    ·   go_wp2_with fail
        go_meet
        case rel => exact ⟨_, (HX.out.setR a ha8 _).to (by simp [doR]) (by simp [doS]) (by simp [doE, effA, goE, HBH.out])⟩
    ·   go_wp2_with fail
        go_region
        all_goals
          go_wp2_with fail
          go_meet
          case rel => exact ⟨_, ((HX.out.drewN 1).setR a ha8 _).to (by rw [← HRB.out]; simp [doR]) (by simp [doS]) (by simp [doE, effA, goE, HBH.out])⟩
    ·   go_wp2_with fail
        go_region
        all_goals
          go_wp2_with fail
          go_meet
          case rel => exact ⟨_, ((HX.out.drewN 1).setR a ha8 _).to (by rw [← HRB.out, ← HRA.out]; simp [doR]) (by simp [doS]) (by simp [doE, effA, goE, HBH.out])⟩
    ·   go_wp2_with fail
        go_region
        all_goals
          go_wp2_with fail
          go_meet
          case rel => exact ⟨_, ((HX.out.drewN 1).setR a ha8 _).to (by rw [← HRB.out, ← HRA.out]; simp [doR]) (by simp [doS]) (by simp [doE, effA, goE, HBH.out])⟩
    ·   have e0 : w5.cell? ⟨gx, 0, none⟩ = some (.int .u32 bh) := HX.out.bx.cell 0
        cases hx0 : (x == 0)
        · go_wp2_with fail
          go_meet
          case rel => exact ⟨_, HX.out.to (by simp [doR]) (by simp [doS]) (by rw [beq_eq_false_iff_ne, ← HRA.out] at hx0; simp only [doE, effA, goE, HBH.out, HWY.out, hx0]; rfl)⟩
        · go_wp2_with fail
          go_meet
          case rel => exact ⟨_, (HX.out.setE 0 _).to (by simp [doR]) (by simp [doS]) (by rw [beq_iff_eq, ← HRA.out] at hx0; simp only [doE, effA, goE, HBH.out, HWY.out, hx0]; rfl)⟩
  case rest =>
    obtain ⟨v', hx⟩ := hcut
    clear ra rb fr fx i0 i1 i2 i3 HX HRA HRB
    obtain ⟨r0, r1, r2, r3, r4, r5, r6, r7, hR8⟩ := eight hx.st.len
    obtain ⟨⟨e0, e1, e2, e3, e4, e5, e6⟩, hE⟩ : ∃ E, doE o a n pc R S = E := ⟨_, rfl⟩
    obtain ⟨p1, c1, hv, -, -⟩ := hx.st.ow.slice
    subst hv
    have HRR := Hid.in hR8
    have HEE := Hid.in hE
    have HXX := Hid.in hx
    rw [hR8, hE] at HXX
    clear hx hR8 hE
    generalize (doS o pc S).length = n1 at *
    have B1 : Hid (Blk wc (w.heap.size + 1) 47 #[.int .u32 r0, .int .u32 r1, .int .u32 r2, .int .u32 r3, .int .u32 r4, .int .u32 r5, .int .u32 r6, .int .u32 r7, .slice p1 n1 c1]) := HXX.out.st.br
    have BE : Hid (Blk wc gx 121 #[.int .u32 e0, .bool e1, .int .i64 e2, .bool e3, .bool e4, .int .u32 e5, .int .u32 e6]) := HXX.out.bx
    have B8 := Hid.in HXX.out.st.b8
    have B9 := Hid.in HXX.out.st.b9
    have a0 : wc.cell? ⟨w.heap.size + 1, 0, none⟩ = some (.int .u32 r0) := B1.out.cell 0
    have a1 : wc.cell? ⟨w.heap.size + 1, 1, none⟩ = some (.int .u32 r1) := B1.out.cell 1
    have a2 : wc.cell? ⟨w.heap.size + 1, 2, none⟩ = some (.int .u32 r2) := B1.out.cell 2
    have a3 : wc.cell? ⟨w.heap.size + 1, 3, none⟩ = some (.int .u32 r3) := B1.out.cell 3
    have a4 : wc.cell? ⟨w.heap.size + 1, 4, none⟩ = some (.int .u32 r4) := B1.out.cell 4
    have a5 : wc.cell? ⟨w.heap.size + 1, 5, none⟩ = some (.int .u32 r5) := B1.out.cell 5
    have a6 : wc.cell? ⟨w.heap.size + 1, 6, none⟩ = some (.int .u32 r6) := B1.out.cell 6
    have a7 : wc.cell? ⟨w.heap.size + 1, 7, none⟩ = some (.int .u32 r7) := B1.out.cell 7
    have a8 : wc.cell? ⟨w.heap.size + 1, 8, none⟩ = some (.slice p1 n1 c1) := B1.out.cell 8
    have x0 : wc.cell? ⟨gx, 0, none⟩ = some (.int .u32 e0) := BE.out.cell 0
    have x1 : wc.cell? ⟨gx, 1, none⟩ = some (.bool e1) := BE.out.cell 1
    have x2 : wc.cell? ⟨gx, 2, none⟩ = some (.int .i64 e2) := BE.out.cell 2
    have x3 : wc.cell? ⟨gx, 3, none⟩ = some (.bool e3) := BE.out.cell 3
    have x4 : wc.cell? ⟨gx, 4, none⟩ = some (.bool e4) := BE.out.cell 4
    have x5 : wc.cell? ⟨gx, 5, none⟩ = some (.int .u32 e5) := BE.out.cell 5
    have x6 : wc.cell? ⟨gx, 6, none⟩ = some (.int .u32 e6) := BE.out.cell 6
    have y0 : wc.cell? ⟨w.heap.size + 1 + 1, 0, none⟩ = some (.int .u32 0) := B8.out.cell 0
    have y1 : wc.cell? ⟨w.heap.size + 1 + 1, 1, none⟩ = some (.int .u32 0) := B8.out.cell 1
    have y2 : wc.cell? ⟨w.heap.size + 1 + 1, 2, none⟩ = some (.int .u32 0) := B8.out.cell 2
    have y3 : wc.cell? ⟨w.heap.size + 1 + 1, 3, none⟩ = some (.int .u32 0) := B8.out.cell 3
    have y4 : wc.cell? ⟨w.heap.size + 1 + 1, 4, none⟩ = some (.int .u32 0) := B8.out.cell 4
    have y5 : wc.cell? ⟨w.heap.size + 1 + 1, 5, none⟩ = some (.int .u32 0) := B8.out.cell 5
    have y6 : wc.cell? ⟨w.heap.size + 1 + 1, 6, none⟩ = some (.int .u32 0) := B8.out.cell 6
    have y7 : wc.cell? ⟨w.heap.size + 1 + 1, 7, none⟩ = some (.int .u32 0) := B8.out.cell 7
    have y8 : wc.cell? ⟨w.heap.size + 1 + 1, 8, none⟩ = some (.slice none 0 0) := B8.out.cell 8
    have z0 : wc.cell? ⟨w.heap.size + 1 + 1 + 1, 0, none⟩ = some (.int .u32 0) := B9.out.cell 0
    have z1 : wc.cell? ⟨w.heap.size + 1 + 1 + 1, 1, none⟩ = some (.bool false) := B9.out.cell 1
    have z2 : wc.cell? ⟨w.heap.size + 1 + 1 + 1, 2, none⟩ = some (.int .i64 0) := B9.out.cell 2
    have z3 : wc.cell? ⟨w.heap.size + 1 + 1 + 1, 3, none⟩ = some (.bool false) := B9.out.cell 3
    have z4 : wc.cell? ⟨w.heap.size + 1 + 1 + 1, 4, none⟩ = some (.bool false) := B9.out.cell 4
    have z5 : wc.cell? ⟨w.heap.size + 1 + 1 + 1, 5, none⟩ = some (.int .u32 0) := B9.out.cell 5
    have z6 : wc.cell? ⟨w.heap.size + 1 + 1 + 1, 6, none⟩ = some (.int .u32 0) := B9.out.cell 6
    have f8 : ∀ i, wc.frozen? ⟨w.heap.size + 1 + 1, i, none⟩ = false := fun i => B8.out.free i
    have f9 : ∀ i, wc.frozen? ⟨w.heap.size + 1 + 1 + 1, i, none⟩ = false := fun i => B9.out.free i
    go_upto_region 49 with fail
    go_region
    have HD : Hid (Blk ((((((((((((((((wc.setCell ⟨w.heap.size + 1 + 1, 0, none⟩ (.int .u32 r0)).setCell ⟨w.heap.size + 1 + 1, 1, none⟩ (.int .u32 r1)).setCell ⟨w.heap.size + 1 + 1, 2, none⟩ (.int .u32 r2)).setCell ⟨w.heap.size + 1 + 1, 3, none⟩ (.int .u32 r3)).setCell ⟨w.heap.size + 1 + 1, 4, none⟩ (.int .u32 r4)).setCell ⟨w.heap.size + 1 + 1, 5, none⟩ (.int .u32 r5)).setCell ⟨w.heap.size + 1 + 1, 6, none⟩ (.int .u32 r6)).setCell ⟨w.heap.size + 1 + 1, 7, none⟩ (.int .u32 r7)).setCell ⟨w.heap.size + 1 + 1, 8, none⟩ (.slice p1 n1 c1)).setCell ⟨w.heap.size + 1 + 1 + 1, 0, none⟩ (.int .u32 e0)).setCell ⟨w.heap.size + 1 + 1 + 1, 1, none⟩ (.bool e1)).setCell ⟨w.heap.size + 1 + 1 + 1, 2, none⟩ (.int .i64 e2)).setCell ⟨w.heap.size + 1 + 1 + 1, 3, none⟩ (.bool e3)).setCell ⟨w.heap.size + 1 + 1 + 1, 4, none⟩ (.bool e4)).setCell ⟨w.heap.size + 1 + 1 + 1, 5, none⟩ (.int .u32 e5)).setCell ⟨w.heap.size + 1 + 1 + 1, 6, none⟩ (.int .u32 e6)).drew (w.heap.size + 1 + 1) 47 #[.int .u32 r0, .int .u32 r1, .int .u32 r2, .int .u32 r3, .int .u32 r4, .int .u32 r5, .int .u32 r6, .int .u32 r7, .slice p1 n1 c1] ∧ Blk ((((((((((((((((wc.setCell ⟨w.heap.size + 1 + 1, 0, none⟩ (.int .u32 r0)).setCell ⟨w.heap.size + 1 + 1, 1, none⟩ (.int .u32 r1)).setCell ⟨w.heap.size + 1 + 1, 2, none⟩ (.int .u32 r2)).setCell ⟨w.heap.size + 1 + 1, 3, none⟩ (.int .u32 r3)).setCell ⟨w.heap.size + 1 + 1, 4, none⟩ (.int .u32 r4)).setCell ⟨w.heap.size + 1 + 1, 5, none⟩ (.int .u32 r5)).setCell ⟨w.heap.size + 1 + 1, 6, none⟩ (.int .u32 r6)).setCell ⟨w.heap.size + 1 + 1, 7, none⟩ (.int .u32 r7)).setCell ⟨w.heap.size + 1 + 1, 8, none⟩ (.slice p1 n1 c1)).setCell ⟨w.heap.size + 1 + 1 + 1, 0, none⟩ (.int .u32 e0)).setCell ⟨w.heap.size + 1 + 1 + 1, 1, none⟩ (.bool e1)).setCell ⟨w.heap.size + 1 + 1 + 1, 2, none⟩ (.int .i64 e2)).setCell ⟨w.heap.size + 1 + 1 + 1, 3, none⟩ (.bool e3)).setCell ⟨w.heap.size + 1 + 1 + 1, 4, none⟩ (.bool e4)).setCell ⟨w.heap.size + 1 + 1 + 1, 5, none⟩ (.int .u32 e5)).setCell ⟨w.heap.size + 1 + 1 + 1, 6, none⟩ (.int .u32 e6)).drew (w.heap.size + 1 + 1 + 1) 121 #[.int .u32 e0, .bool e1, .int .i64 e2, .bool e3, .bool e4, .int .u32 e5, .int .u32 e6] ∧ POwnV ((((((((((((((((wc.setCell ⟨w.heap.size + 1 + 1, 0, none⟩ (.int .u32 r0)).setCell ⟨w.heap.size + 1 + 1, 1, none⟩ (.int .u32 r1)).setCell ⟨w.heap.size + 1 + 1, 2, none⟩ (.int .u32 r2)).setCell ⟨w.heap.size + 1 + 1, 3, none⟩ (.int .u32 r3)).setCell ⟨w.heap.size + 1 + 1, 4, none⟩ (.int .u32 r4)).setCell ⟨w.heap.size + 1 + 1, 5, none⟩ (.int .u32 r5)).setCell ⟨w.heap.size + 1 + 1, 6, none⟩ (.int .u32 r6)).setCell ⟨w.heap.size + 1 + 1, 7, none⟩ (.int .u32 r7)).setCell ⟨w.heap.size + 1 + 1, 8, none⟩ (.slice p1 n1 c1)).setCell ⟨w.heap.size + 1 + 1 + 1, 0, none⟩ (.int .u32 e0)).setCell ⟨w.heap.size + 1 + 1 + 1, 1, none⟩ (.bool e1)).setCell ⟨w.heap.size + 1 + 1 + 1, 2, none⟩ (.int .i64 e2)).setCell ⟨w.heap.size + 1 + 1 + 1, 3, none⟩ (.bool e3)).setCell ⟨w.heap.size + 1 + 1 + 1, 4, none⟩ (.bool e4)).setCell ⟨w.heap.size + 1 + 1 + 1, 5, none⟩ (.int .u32 e5)).setCell ⟨w.heap.size + 1 + 1 + 1, 6, none⟩ (.int .u32 e6)).drew w.heap.size (.slice p1 n1 c1) (doS o pc S) ∧ Below w.heap.size w ((((((((((((((((wc.setCell ⟨w.heap.size + 1 + 1, 0, none⟩ (.int .u32 r0)).setCell ⟨w.heap.size + 1 + 1, 1, none⟩ (.int .u32 r1)).setCell ⟨w.heap.size + 1 + 1, 2, none⟩ (.int .u32 r2)).setCell ⟨w.heap.size + 1 + 1, 3, none⟩ (.int .u32 r3)).setCell ⟨w.heap.size + 1 + 1, 4, none⟩ (.int .u32 r4)).setCell ⟨w.heap.size + 1 + 1, 5, none⟩ (.int .u32 r5)).setCell ⟨w.heap.size + 1 + 1, 6, none⟩ (.int .u32 r6)).setCell ⟨w.heap.size + 1 + 1, 7, none⟩ (.int .u32 r7)).setCell ⟨w.heap.size + 1 + 1, 8, none⟩ (.slice p1 n1 c1)).setCell ⟨w.heap.size + 1 + 1 + 1, 0, none⟩ (.int .u32 e0)).setCell ⟨w.heap.size + 1 + 1 + 1, 1, none⟩ (.bool e1)).setCell ⟨w.heap.size + 1 + 1 + 1, 2, none⟩ (.int .i64 e2)).setCell ⟨w.heap.size + 1 + 1 + 1, 3, none⟩ (.bool e3)).setCell ⟨w.heap.size + 1 + 1 + 1, 4, none⟩ (.bool e4)).setCell ⟨w.heap.size + 1 + 1 + 1, 5, none⟩ (.int .u32 e5)).setCell ⟨w.heap.size + 1 + 1 + 1, 6, none⟩ (.int .u32 e6)).drew) := HXX.out.stored #[.int .u32 r0, .int .u32 r1, .int .u32 r2, .int .u32 r3, .int .u32 r4, .int .u32 r5, .int .u32 r6, .int .u32 r7, .slice p1 n1 c1] #[.int .u32 e0, .bool e1, .int .i64 e2, .bool e3, .bool e4, .int .u32 e5, .int .u32 e6] rfl rfl
    generalize ((((((((((((((((wc.setCell ⟨w.heap.size + 1 + 1, 0, none⟩ (.int .u32 r0)).setCell ⟨w.heap.size + 1 + 1, 1, none⟩ (.int .u32 r1)).setCell ⟨w.heap.size + 1 + 1, 2, none⟩ (.int .u32 r2)).setCell ⟨w.heap.size + 1 + 1, 3, none⟩ (.int .u32 r3)).setCell ⟨w.heap.size + 1 + 1, 4, none⟩ (.int .u32 r4)).setCell ⟨w.heap.size + 1 + 1, 5, none⟩ (.int .u32 r5)).setCell ⟨w.heap.size + 1 + 1, 6, none⟩ (.int .u32 r6)).setCell ⟨w.heap.size + 1 + 1, 7, none⟩ (.int .u32 r7)).setCell ⟨w.heap.size + 1 + 1, 8, none⟩ (.slice p1 n1 c1)).setCell ⟨w.heap.size + 1 + 1 + 1, 0, none⟩ (.int .u32 e0)).setCell ⟨w.heap.size + 1 + 1 + 1, 1, none⟩ (.bool e1)).setCell ⟨w.heap.size + 1 + 1 + 1, 2, none⟩ (.int .i64 e2)).setCell ⟨w.heap.size + 1 + 1 + 1, 3, none⟩ (.bool e3)).setCell ⟨w.heap.size + 1 + 1 + 1, 4, none⟩ (.bool e4)).setCell ⟨w.heap.size + 1 + 1 + 1, 5, none⟩ (.int .u32 e5)).setCell ⟨w.heap.size + 1 + 1 + 1, 6, none⟩ (.int .u32 e6)).drew = wd at *
    obtain ⟨d1, d2, d3, d4⟩ := HD.out
    clear a0 a1 a2 a3 a4 a5 a6 a7 a8 x0 x1 x2 x3 x4 x5 x6 y0 y1 y2 y3 y4 y5 y6 y7 y8 z0 z1 z2 z3 z4 z5 z6 f8 f9 HD
    go_wp2_with fail
    have l1 := d1.load 47 _ Tryz.underlying47 rfl Tryz.sz47
    have l2 := d2.load 121 _ Tryz.underlying134 rfl Tryz.sz134
    refine bodyPost_ret (v := .tuple #[.agg #[.int .u32 r0, .int .u32 r1, .int .u32 r2, .int .u32 r3, .int .u32 r4, .int .u32 r5, .int .u32 r6, .int .u32 r7, .slice p1 n1 c1], .agg #[.int .u32 e0, .bool e1, .int .i64 e2, .bool e3, .bool e4, .int .u32 e5, .int .u32 e6]]) (by simp [results, Tryz.results58, asAddr, l1, l2]) rfl ⟨⟨_, ?_, d3⟩, d4⟩
    rw [HRR.out, HEE.out]
    rfl

end Go.Proofs.YtnpaijbkhmnfpaaGreat
