/- exec.Do, where an instruction can't be done. -/
import Derived.Test.YtdbpeigcnhhpmaaDoM
namespace Go.Proofs.Ytdbpeigcnhhpmaa
open Go.RowKit

/-- both results are stored -/
theorem DSt.stored {w wr : World} {q : Nat} {o a b n : Int} {R S : List Int} {v : Value} (h : DSt w q o a b n R v S wr) (A F : Array Value) (hA : A.size = 9) (hF : F.size = 7) :
    Blk ((wr.setCells (q + 1 + 1) 0 A.toList).setCells (q + 1 + 1 + 1) 0 F.toList) (q + 1 + 1) 32 A ∧ Blk ((wr.setCells (q + 1 + 1) 0 A.toList).setCells (q + 1 + 1 + 1) 0 F.toList) (q + 1 + 1 + 1) 37 F ∧
      POwnV ((wr.setCells (q + 1 + 1) 0 A.toList).setCells (q + 1 + 1 + 1) 0 F.toList) q v S ∧ Below q w ((wr.setCells (q + 1 + 1) 0 A.toList).setCells (q + 1 + 1 + 1) 0 F.toList) := by
  have g1 := grown_setCells (q + 1 + 1) A.toList 0 wr
  have b1 : Blk (wr.setCells (q + 1 + 1) 0 A.toList) (q + 1 + 1) 32 A := h.b8.setAll A (by rw [hA]; rfl)
  have b2 := h.b9.kept g1 (by intro e; injection e with e; omega)
  have o1 := h.ow.keptFar g1 (by omega)
  have l1 := h.bel.grown g1 (by have := h.bi.lt; omega) (fun k hk => by cases hk; omega)
  generalize wr.setCells (q + 1 + 1) 0 A.toList = w1 at *
  have g2 := grown_setCells (q + 1 + 1 + 1) F.toList 0 w1
  have b3 : Blk (w1.setCells (q + 1 + 1 + 1) 0 F.toList) (q + 1 + 1 + 1) 37 F := b2.setAll F (by rw [hF]; rfl)
  have k1 : Blk (w1.setCells (q + 1 + 1 + 1) 0 F.toList) (q + 1 + 1) 32 A := b1.kept g2 (by intro e; injection e with e; omega)
  exact ⟨k1, b3, (o1.keptFar g2 (by omega)).low (by omega), l1.grown g2 (by have := b1.lt; omega) (fun k hk => by cases hk; omega)⟩

set_option maxHeartbeats 4000000 in
set_option maxRecDepth 8000 in
theorem do_bad (o a b : Nat) (n pc : Int) (R S : List Int) (p q : Option Addr) (s c d dc : Nat) (w : World) (ho : o ≤ 255) (ha : a ≤ 255) (hb : b ≤ 255)
    (lR : R.length = 8) (hS : S.length = s) (hs : s * 4 ≤ 140737488355324) (hd : d ≤ 140737488355328) (hr : PRow w p S)
    (hf : fltL o a b n s d ≠ 0) :
    Calls Try.prog 9 #[ins o a b n, .int .u32 pc, rgV R (.slice p s c), .slice q d dc] w fun e w' => (∃ v, e = .returned (.tuple #[rgV R v, .agg (effA { goE pc with fl := fltL o a b n s d })]) ∧ POwnV w' w.heap.size v S) ∧ Below w.heap.size w w' := by
  have h20 := fun W v c => fault_any o a b n v q s c d dc W ho (by omega) (by omega) (by omega) (by omega)
  generalize fltL o a b n s d = f at *
  have h19 := fun W (h : PRow W p S) => copied_any p s c S W hS (by omega) h
  have HRW : Hid (∀ W, Below w.heap.size w W → PRow W p S) := fun W h => hr.below h
  have HS := Hid.in hS
  clear hr hS
  show Calls Try.prog 9 #[ins o a b n, .int .u32 pc, .agg (rgA R (.slice p s c)), .slice q d dc] w _
  go_enter Try.func9, Try.ntmps9
  go_upto_region 1 with fail
  obtain ⟨hst, hsz, hc8, hb0, hbr⟩ := DSt.start w _ o a b n R S p s c lR rfl
  generalize (((w.alloc (.cells #[.int .u8 o, .int .u8 a, .int .u8 b, .int .i32 n] 24)).alloc (.cells (rgA R (.slice p s c)) 32)).alloc (.cells noRegs 32)).alloc (.cells (efA 0) 37) = w0 at *
  have h19' := h19 w0 (HRW.out _ hb0)
  clear h19 HRW
  go_wp2_with (go_at_call 19; refine Hid.out ?_)
  refine Lib.hid ?_
  refine h19'.mono ?_
  rintro e w1 ⟨g, rfl, ho1, hb1⟩
  have hB1 := hbr w1 hb1
  have HG : Hid (w.heap.size + 4 ≤ g) := by have := ho1.base; rw [hsz] at this; exact this
  have HST := Hid.in (hst w1 _ (by rw [← hsz]; exact ho1.val) hb1)
  rw [HS.out] at HST
  have c8 : w1.cell? ⟨w.heap.size + 1, 8, none⟩ = some (.slice p s c) := by rw [hB1.cell, rgA_last R _ lR]
  have f8 : w1.frozen? ⟨w.heap.size + 1, 8, none⟩ = false := hB1.free 8
  clear hst hbr hB1 hb1 ho1 h19' hc8 hb0
  go_upto_region 2 with fail
  generalize w1.setCell ⟨w.heap.size + 1, 8, none⟩ (.slice (some ⟨g, 0, none⟩) s s) = w2 at *
  clear c8 f8
  have i0 : w2.cell? ⟨w.heap.size, 0, none⟩ = some (.int .u8 o) := HST.out.bi.cell 0
  have i1 : w2.cell? ⟨w.heap.size, 1, none⟩ = some (.int .u8 a) := HST.out.bi.cell 1
  have i2 : w2.cell? ⟨w.heap.size, 2, none⟩ = some (.int .u8 b) := HST.out.bi.cell 2
  have i3 : w2.cell? ⟨w.heap.size, 3, none⟩ = some (.int .i32 n) := HST.out.bi.cell 3
  have r8 : w2.cell? ⟨w.heap.size + 1, 8, none⟩ = some (.slice (some ⟨g, 0, none⟩) s s) := by rw [HST.out.br.cell, rgA_last R _ lR]
  have h20' := h20 w2 (some ⟨g, 0, none⟩) s
  clear h20
  go_wp2_with (go_at_call 20; refine Hid.out ?_)
  refine Lib.hid ?_
  refine h20'.mono ?_
  rintro e w3 ⟨rfl, hb3⟩
  have HST3 := Hid.in (HST.out.below hb3)
  clear h20' hb3 HST i0 i1 i2 i3 r8
  have hfn : (f != 0) = true := by rw [bne_iff_ne]; exact hf
  obtain ⟨r0, r1, r2, r3, r4, r5, r6, r7, rfl⟩ := eight lR
  have B1 : Hid (Blk w3 (w.heap.size + 1) 32 #[.int .u32 r0, .int .u32 r1, .int .u32 r2, .int .u32 r3, .int .u32 r4, .int .u32 r5, .int .u32 r6, .int .u32 r7, .slice (some ⟨g, 0, none⟩) s s]) := HST3.out.br
  have B8 := Hid.in HST3.out.b8
  have B9 := Hid.in HST3.out.b9
  have a0 : w3.cell? ⟨w.heap.size + 1, 0, none⟩ = some (.int .u32 r0) := B1.out.cell 0
  have a1 : w3.cell? ⟨w.heap.size + 1, 1, none⟩ = some (.int .u32 r1) := B1.out.cell 1
  have a2 : w3.cell? ⟨w.heap.size + 1, 2, none⟩ = some (.int .u32 r2) := B1.out.cell 2
  have a3 : w3.cell? ⟨w.heap.size + 1, 3, none⟩ = some (.int .u32 r3) := B1.out.cell 3
  have a4 : w3.cell? ⟨w.heap.size + 1, 4, none⟩ = some (.int .u32 r4) := B1.out.cell 4
  have a5 : w3.cell? ⟨w.heap.size + 1, 5, none⟩ = some (.int .u32 r5) := B1.out.cell 5
  have a6 : w3.cell? ⟨w.heap.size + 1, 6, none⟩ = some (.int .u32 r6) := B1.out.cell 6
  have a7 : w3.cell? ⟨w.heap.size + 1, 7, none⟩ = some (.int .u32 r7) := B1.out.cell 7
  have a8 : w3.cell? ⟨w.heap.size + 1, 8, none⟩ = some (.slice (some ⟨g, 0, none⟩) s s) := B1.out.cell 8
  have y0 : w3.cell? ⟨w.heap.size + 1 + 1, 0, none⟩ = some (.int .u32 0) := B8.out.cell 0
  have y1 : w3.cell? ⟨w.heap.size + 1 + 1, 1, none⟩ = some (.int .u32 0) := B8.out.cell 1
  have y2 : w3.cell? ⟨w.heap.size + 1 + 1, 2, none⟩ = some (.int .u32 0) := B8.out.cell 2
  have y3 : w3.cell? ⟨w.heap.size + 1 + 1, 3, none⟩ = some (.int .u32 0) := B8.out.cell 3
  have y4 : w3.cell? ⟨w.heap.size + 1 + 1, 4, none⟩ = some (.int .u32 0) := B8.out.cell 4
  have y5 : w3.cell? ⟨w.heap.size + 1 + 1, 5, none⟩ = some (.int .u32 0) := B8.out.cell 5
  have y6 : w3.cell? ⟨w.heap.size + 1 + 1, 6, none⟩ = some (.int .u32 0) := B8.out.cell 6
  have y7 : w3.cell? ⟨w.heap.size + 1 + 1, 7, none⟩ = some (.int .u32 0) := B8.out.cell 7
  have y8 : w3.cell? ⟨w.heap.size + 1 + 1, 8, none⟩ = some (.slice none 0 0) := B8.out.cell 8
  have z0 : w3.cell? ⟨w.heap.size + 1 + 1 + 1, 0, none⟩ = some (.int .u32 0) := B9.out.cell 0
  have z1 : w3.cell? ⟨w.heap.size + 1 + 1 + 1, 1, none⟩ = some (.bool false) := B9.out.cell 1
  have z2 : w3.cell? ⟨w.heap.size + 1 + 1 + 1, 2, none⟩ = some (.int .i64 0) := B9.out.cell 2
  have z3 : w3.cell? ⟨w.heap.size + 1 + 1 + 1, 3, none⟩ = some (.bool false) := B9.out.cell 3
  have z4 : w3.cell? ⟨w.heap.size + 1 + 1 + 1, 4, none⟩ = some (.bool false) := B9.out.cell 4
  have z5 : w3.cell? ⟨w.heap.size + 1 + 1 + 1, 5, none⟩ = some (.int .u32 0) := B9.out.cell 5
  have z6 : w3.cell? ⟨w.heap.size + 1 + 1 + 1, 6, none⟩ = some (.int .u32 0) := B9.out.cell 6
  have f8 : ∀ i, w3.frozen? ⟨w.heap.size + 1 + 1, i, none⟩ = false := fun i => B8.out.free i
  have f9 : ∀ i, w3.frozen? ⟨w.heap.size + 1 + 1 + 1, i, none⟩ = false := fun i => B9.out.free i
  go_wp2_with fail
  have HD : Hid (Blk ((((((((((((((((w3.setCell ⟨w.heap.size + 1 + 1, 0, none⟩ (.int .u32 r0)).setCell ⟨w.heap.size + 1 + 1, 1, none⟩ (.int .u32 r1)).setCell ⟨w.heap.size + 1 + 1, 2, none⟩ (.int .u32 r2)).setCell ⟨w.heap.size + 1 + 1, 3, none⟩ (.int .u32 r3)).setCell ⟨w.heap.size + 1 + 1, 4, none⟩ (.int .u32 r4)).setCell ⟨w.heap.size + 1 + 1, 5, none⟩ (.int .u32 r5)).setCell ⟨w.heap.size + 1 + 1, 6, none⟩ (.int .u32 r6)).setCell ⟨w.heap.size + 1 + 1, 7, none⟩ (.int .u32 r7)).setCell ⟨w.heap.size + 1 + 1, 8, none⟩ (.slice (some ⟨g, 0, none⟩) s s)).setCell ⟨w.heap.size + 1 + 1 + 1, 0, none⟩ (.int .u32 pc)).setCell ⟨w.heap.size + 1 + 1 + 1, 1, none⟩ (.bool false)).setCell ⟨w.heap.size + 1 + 1 + 1, 2, none⟩ (.int .i64 f)).setCell ⟨w.heap.size + 1 + 1 + 1, 3, none⟩ (.bool false)).setCell ⟨w.heap.size + 1 + 1 + 1, 4, none⟩ (.bool false)).setCell ⟨w.heap.size + 1 + 1 + 1, 5, none⟩ (.int .u32 0)).setCell ⟨w.heap.size + 1 + 1 + 1, 6, none⟩ (.int .u32 0)) (w.heap.size + 1 + 1) 32 #[.int .u32 r0, .int .u32 r1, .int .u32 r2, .int .u32 r3, .int .u32 r4, .int .u32 r5, .int .u32 r6, .int .u32 r7, .slice (some ⟨g, 0, none⟩) s s] ∧ Blk ((((((((((((((((w3.setCell ⟨w.heap.size + 1 + 1, 0, none⟩ (.int .u32 r0)).setCell ⟨w.heap.size + 1 + 1, 1, none⟩ (.int .u32 r1)).setCell ⟨w.heap.size + 1 + 1, 2, none⟩ (.int .u32 r2)).setCell ⟨w.heap.size + 1 + 1, 3, none⟩ (.int .u32 r3)).setCell ⟨w.heap.size + 1 + 1, 4, none⟩ (.int .u32 r4)).setCell ⟨w.heap.size + 1 + 1, 5, none⟩ (.int .u32 r5)).setCell ⟨w.heap.size + 1 + 1, 6, none⟩ (.int .u32 r6)).setCell ⟨w.heap.size + 1 + 1, 7, none⟩ (.int .u32 r7)).setCell ⟨w.heap.size + 1 + 1, 8, none⟩ (.slice (some ⟨g, 0, none⟩) s s)).setCell ⟨w.heap.size + 1 + 1 + 1, 0, none⟩ (.int .u32 pc)).setCell ⟨w.heap.size + 1 + 1 + 1, 1, none⟩ (.bool false)).setCell ⟨w.heap.size + 1 + 1 + 1, 2, none⟩ (.int .i64 f)).setCell ⟨w.heap.size + 1 + 1 + 1, 3, none⟩ (.bool false)).setCell ⟨w.heap.size + 1 + 1 + 1, 4, none⟩ (.bool false)).setCell ⟨w.heap.size + 1 + 1 + 1, 5, none⟩ (.int .u32 0)).setCell ⟨w.heap.size + 1 + 1 + 1, 6, none⟩ (.int .u32 0)) (w.heap.size + 1 + 1 + 1) 37 #[.int .u32 pc, .bool false, .int .i64 f, .bool false, .bool false, .int .u32 0, .int .u32 0] ∧ POwnV ((((((((((((((((w3.setCell ⟨w.heap.size + 1 + 1, 0, none⟩ (.int .u32 r0)).setCell ⟨w.heap.size + 1 + 1, 1, none⟩ (.int .u32 r1)).setCell ⟨w.heap.size + 1 + 1, 2, none⟩ (.int .u32 r2)).setCell ⟨w.heap.size + 1 + 1, 3, none⟩ (.int .u32 r3)).setCell ⟨w.heap.size + 1 + 1, 4, none⟩ (.int .u32 r4)).setCell ⟨w.heap.size + 1 + 1, 5, none⟩ (.int .u32 r5)).setCell ⟨w.heap.size + 1 + 1, 6, none⟩ (.int .u32 r6)).setCell ⟨w.heap.size + 1 + 1, 7, none⟩ (.int .u32 r7)).setCell ⟨w.heap.size + 1 + 1, 8, none⟩ (.slice (some ⟨g, 0, none⟩) s s)).setCell ⟨w.heap.size + 1 + 1 + 1, 0, none⟩ (.int .u32 pc)).setCell ⟨w.heap.size + 1 + 1 + 1, 1, none⟩ (.bool false)).setCell ⟨w.heap.size + 1 + 1 + 1, 2, none⟩ (.int .i64 f)).setCell ⟨w.heap.size + 1 + 1 + 1, 3, none⟩ (.bool false)).setCell ⟨w.heap.size + 1 + 1 + 1, 4, none⟩ (.bool false)).setCell ⟨w.heap.size + 1 + 1 + 1, 5, none⟩ (.int .u32 0)).setCell ⟨w.heap.size + 1 + 1 + 1, 6, none⟩ (.int .u32 0)) w.heap.size (.slice (some ⟨g, 0, none⟩) s s) S ∧ Below w.heap.size w ((((((((((((((((w3.setCell ⟨w.heap.size + 1 + 1, 0, none⟩ (.int .u32 r0)).setCell ⟨w.heap.size + 1 + 1, 1, none⟩ (.int .u32 r1)).setCell ⟨w.heap.size + 1 + 1, 2, none⟩ (.int .u32 r2)).setCell ⟨w.heap.size + 1 + 1, 3, none⟩ (.int .u32 r3)).setCell ⟨w.heap.size + 1 + 1, 4, none⟩ (.int .u32 r4)).setCell ⟨w.heap.size + 1 + 1, 5, none⟩ (.int .u32 r5)).setCell ⟨w.heap.size + 1 + 1, 6, none⟩ (.int .u32 r6)).setCell ⟨w.heap.size + 1 + 1, 7, none⟩ (.int .u32 r7)).setCell ⟨w.heap.size + 1 + 1, 8, none⟩ (.slice (some ⟨g, 0, none⟩) s s)).setCell ⟨w.heap.size + 1 + 1 + 1, 0, none⟩ (.int .u32 pc)).setCell ⟨w.heap.size + 1 + 1 + 1, 1, none⟩ (.bool false)).setCell ⟨w.heap.size + 1 + 1 + 1, 2, none⟩ (.int .i64 f)).setCell ⟨w.heap.size + 1 + 1 + 1, 3, none⟩ (.bool false)).setCell ⟨w.heap.size + 1 + 1 + 1, 4, none⟩ (.bool false)).setCell ⟨w.heap.size + 1 + 1 + 1, 5, none⟩ (.int .u32 0)).setCell ⟨w.heap.size + 1 + 1 + 1, 6, none⟩ (.int .u32 0))) := HST3.out.stored #[.int .u32 r0, .int .u32 r1, .int .u32 r2, .int .u32 r3, .int .u32 r4, .int .u32 r5, .int .u32 r6, .int .u32 r7, .slice (some ⟨g, 0, none⟩) s s] #[.int .u32 pc, .bool false, .int .i64 f, .bool false, .bool false, .int .u32 0, .int .u32 0] rfl rfl
  generalize ((((((((((((((((w3.setCell ⟨w.heap.size + 1 + 1, 0, none⟩ (.int .u32 r0)).setCell ⟨w.heap.size + 1 + 1, 1, none⟩ (.int .u32 r1)).setCell ⟨w.heap.size + 1 + 1, 2, none⟩ (.int .u32 r2)).setCell ⟨w.heap.size + 1 + 1, 3, none⟩ (.int .u32 r3)).setCell ⟨w.heap.size + 1 + 1, 4, none⟩ (.int .u32 r4)).setCell ⟨w.heap.size + 1 + 1, 5, none⟩ (.int .u32 r5)).setCell ⟨w.heap.size + 1 + 1, 6, none⟩ (.int .u32 r6)).setCell ⟨w.heap.size + 1 + 1, 7, none⟩ (.int .u32 r7)).setCell ⟨w.heap.size + 1 + 1, 8, none⟩ (.slice (some ⟨g, 0, none⟩) s s)).setCell ⟨w.heap.size + 1 + 1 + 1, 0, none⟩ (.int .u32 pc)).setCell ⟨w.heap.size + 1 + 1 + 1, 1, none⟩ (.bool false)).setCell ⟨w.heap.size + 1 + 1 + 1, 2, none⟩ (.int .i64 f)).setCell ⟨w.heap.size + 1 + 1 + 1, 3, none⟩ (.bool false)).setCell ⟨w.heap.size + 1 + 1 + 1, 4, none⟩ (.bool false)).setCell ⟨w.heap.size + 1 + 1 + 1, 5, none⟩ (.int .u32 0)).setCell ⟨w.heap.size + 1 + 1 + 1, 6, none⟩ (.int .u32 0)) = wd at *
  obtain ⟨d1, d2, d3, d4⟩ := HD.out
  have l1 := d1.load 32 _ Try.underlying32 rfl Try.sz32
  have l2 := d2.load 37 _ Try.underlying37 rfl Try.sz37
  exact bodyPost_ret (v := .tuple #[.agg #[.int .u32 r0, .int .u32 r1, .int .u32 r2, .int .u32 r3, .int .u32 r4, .int .u32 r5, .int .u32 r6, .int .u32 r7, .slice (some ⟨g, 0, none⟩) s s], .agg #[.int .u32 pc, .bool false, .int .i64 f, .bool false, .bool false, .int .u32 0, .int .u32 0]]) (by simp [results, Try.results9, asAddr, l1, l2]) rfl ⟨⟨_, rfl, d3⟩, d4⟩

end Go.Proofs.Ytdbpeigcnhhpmaa
