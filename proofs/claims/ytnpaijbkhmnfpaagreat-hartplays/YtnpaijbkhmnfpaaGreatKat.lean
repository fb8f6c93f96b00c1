/- Texts put together: RHa, RHc, RHd, QThen, QSink, QPick, QSkL. -/
import Derived.Test.YtnpaijbkhmnfpaaGreatKas
import Derived.Test.YtnpaijbkhmnfpaaGreatKaa
import Derived.Lib.QuietBelow
import Derived.Deep.RegionHeld3
import Derived.BigQuiet

/- Ours: the reference's New and Sync (switchyardref15). -/
namespace Go.Proofs.YtnpaijbkhmnfpaaGreat
open Go.RowKit Go.Maps

section
variable (W : World) (g : Nat) (v0 v1 v2 v3 v4 v5 v6 v7 v8 v9 v10 v11 v12 : Value)
theorem st13_blk {c : Array Value} (h : Blk W g 50 c) (hs : c.size = 13) : Blk (((((((((((((W.setCell ⟨g, 0, none⟩ v0).setCell ⟨g, 1, none⟩ v1).setCell ⟨g, 2, none⟩ v2).setCell ⟨g, 3, none⟩ v3).setCell ⟨g, 4, none⟩ v4).setCell ⟨g, 5, none⟩ v5).setCell ⟨g, 6, none⟩ v6).setCell ⟨g, 7, none⟩ v7).setCell ⟨g, 8, none⟩ v8).setCell ⟨g, 9, none⟩ v9).setCell ⟨g, 10, none⟩ v10).setCell ⟨g, 11, none⟩ v11).setCell ⟨g, 12, none⟩ v12) g 50 #[v0, v1, v2, v3, v4, v5, v6, v7, v8, v9, v10, v11, v12] :=
  h.setAll #[v0, v1, v2, v3, v4, v5, v6, v7, v8, v9, v10, v11, v12] hs.symm
theorem st13_grown : W.grownBy (((((((((((((W.setCell ⟨g, 0, none⟩ v0).setCell ⟨g, 1, none⟩ v1).setCell ⟨g, 2, none⟩ v2).setCell ⟨g, 3, none⟩ v3).setCell ⟨g, 4, none⟩ v4).setCell ⟨g, 5, none⟩ v5).setCell ⟨g, 6, none⟩ v6).setCell ⟨g, 7, none⟩ v7).setCell ⟨g, 8, none⟩ v8).setCell ⟨g, 9, none⟩ v9).setCell ⟨g, 10, none⟩ v10).setCell ⟨g, 11, none⟩ v11).setCell ⟨g, 12, none⟩ v12) (some g) :=
  grown_setCells g [v0, v1, v2, v3, v4, v5, v6, v7, v8, v9, v10, v11, v12] 0 W
end

set_option maxHeartbeats 400000 in
theorem rnew_any (pc : Nat) (w : World) : Calls Tryz.prog 22 #[.int .u32 pc] w fun e w' => ∃ V, e = .returned V ∧ HvV w' (newH pc) V ∧ Below w.heap.size w w' := by
  have HZ := Hid.in (Blk.new w 50 #[.int .u8 0, .int .u32 0, .int .u32 0, .int .u32 0, .int .u32 0, .int .u32 0, .int .u32 0, .int .u32 0, .int .u32 0, .int .u32 0, .slice none 0 0, .slice none 0 0, .slice none 0 0])
  have HN := Hid.in (new_alloc w (.cells #[.int .u8 0, .int .u32 0, .int .u32 0, .int .u32 0, .int .u32 0, .int .u32 0, .int .u32 0, .int .u32 0, .int .u32 0, .int .u32 0, .slice none 0 0, .slice none 0 0, .slice none 0 0] 50))
  go_enter Tryz.func22, Tryz.ntmps22
  go_upto_region 1 with fail
  generalize w.alloc (.cells #[.int .u8 0, .int .u32 0, .int .u32 0, .int .u32 0, .int .u32 0, .int .u32 0, .int .u32 0, .int .u32 0, .int .u32 0, .int .u32 0, .slice none 0 0, .slice none 0 0, .slice none 0 0] 50) = w1 at *
  have z0 : w1.cell? ⟨w.heap.size, 0, none⟩ = some (.int .u8 0) := HZ.out.cell 0
  have z1 : w1.cell? ⟨w.heap.size, 1, none⟩ = some (.int .u32 0) := HZ.out.cell 1
  have z2 : w1.cell? ⟨w.heap.size, 2, none⟩ = some (.int .u32 0) := HZ.out.cell 2
  have z3 : w1.cell? ⟨w.heap.size, 3, none⟩ = some (.int .u32 0) := HZ.out.cell 3
  have z4 : w1.cell? ⟨w.heap.size, 4, none⟩ = some (.int .u32 0) := HZ.out.cell 4
  have z5 : w1.cell? ⟨w.heap.size, 5, none⟩ = some (.int .u32 0) := HZ.out.cell 5
  have z6 : w1.cell? ⟨w.heap.size, 6, none⟩ = some (.int .u32 0) := HZ.out.cell 6
  have z7 : w1.cell? ⟨w.heap.size, 7, none⟩ = some (.int .u32 0) := HZ.out.cell 7
  have z8 : w1.cell? ⟨w.heap.size, 8, none⟩ = some (.int .u32 0) := HZ.out.cell 8
  have z9 : w1.cell? ⟨w.heap.size, 9, none⟩ = some (.int .u32 0) := HZ.out.cell 9
  have z10 : w1.cell? ⟨w.heap.size, 10, none⟩ = some (.slice none 0 0) := HZ.out.cell 10
  have z11 : w1.cell? ⟨w.heap.size, 11, none⟩ = some (.slice none 0 0) := HZ.out.cell 11
  have z12 : w1.cell? ⟨w.heap.size, 12, none⟩ = some (.slice none 0 0) := HZ.out.cell 12
  have zf : ∀ i, w1.frozen? ⟨w.heap.size, i, none⟩ = false := HZ.out.free
  have HB := Hid.in (st13_blk w1 w.heap.size (.int .u8 0) (.int .u32 pc) (.int .u32 0) (.int .u32 0) (.int .u32 0) (.int .u32 0) (.int .u32 0) (.int .u32 0) (.int .u32 0) (.int .u32 0) (.slice none 0 0) (.slice none 0 0) (.slice none 0 0) HZ.out rfl)
  have HG := Hid.in (st13_grown w1 w.heap.size (.int .u8 0) (.int .u32 pc) (.int .u32 0) (.int .u32 0) (.int .u32 0) (.int .u32 0) (.int .u32 0) (.int .u32 0) (.int .u32 0) (.int .u32 0) (.slice none 0 0) (.slice none 0 0) (.slice none 0 0))
  go_wp2_with fail
  generalize (((((((((((((w1.setCell ⟨w.heap.size, 0, none⟩ (.int .u8 0)).setCell ⟨w.heap.size, 1, none⟩ (.int .u32 pc)).setCell ⟨w.heap.size, 2, none⟩ (.int .u32 0)).setCell ⟨w.heap.size, 3, none⟩ (.int .u32 0)).setCell ⟨w.heap.size, 4, none⟩ (.int .u32 0)).setCell ⟨w.heap.size, 5, none⟩ (.int .u32 0)).setCell ⟨w.heap.size, 6, none⟩ (.int .u32 0)).setCell ⟨w.heap.size, 7, none⟩ (.int .u32 0)).setCell ⟨w.heap.size, 8, none⟩ (.int .u32 0)).setCell ⟨w.heap.size, 9, none⟩ (.int .u32 0)).setCell ⟨w.heap.size, 10, none⟩ (.slice none 0 0)).setCell ⟨w.heap.size, 11, none⟩ (.slice none 0 0)).setCell ⟨w.heap.size, 12, none⟩ (.slice none 0 0)) = w2 at *
  have hld := HB.out.load 50 _ Tryz.underlying50 rfl Tryz.sz50
  have hbb := HN.out.grown HG.out HN.out.size (fun k hk => by cases hk; exact Nat.le_refl _)
  exact bodyPost_ret (v := .agg #[.int .u8 0, .int .u32 pc, .int .u32 0, .int .u32 0, .int .u32 0, .int .u32 0, .int .u32 0, .int .u32 0, .int .u32 0, .int .u32 0, .slice none 0 0, .slice none 0 0, .slice none 0 0]) (by simp [results, Tryz.results22, asAddr, hld]) rfl ⟨_, rfl, ⟨none, 0, none, 0, none, 0, rfl, fun h => absurd h (Nat.lt_irrefl 0), fun h => absurd h (Nat.lt_irrefl 0), fun h => absurd h (Nat.lt_irrefl 0)⟩, hbb⟩
set_option maxHeartbeats 1000000 in
theorem rsync_any {H : Hs} {V : Value} (w : World) (lR : H.R.length = 8) (k : HvV w H V) : Calls Tryz.prog 25 #[V] w fun e w' => ∃ V', e = .returned (.tuple #[V', .int .i64 H.L.length]) ∧ HvV w' { H with hv := [], L := [] } V' ∧ Below w.heap.size w w' := by
  obtain ⟨st, pc, R, S, hv, L⟩ := H
  obtain ⟨pS, cS, pH, cH, pL, cL, rfl, s1, -, -⟩ := k
  dsimp only at lR s1 ⊢
  obtain ⟨r0, r1, r2, r3, r4, r5, r6, r7, rfl⟩ := eight lR
  simp only [stA, List.getD_cons_zero, List.getD_cons_succ]
  have HS := Hid.in s1
  have HA0 := Hid.in ((Blk.new w 50 #[.int .u8 st, .int .u32 pc, .int .u32 r0, .int .u32 r1, .int .u32 r2, .int .u32 r3, .int .u32 r4, .int .u32 r5, .int .u32 r6, .int .u32 r7, .slice pS S.length cS, .slice pH hv.length cH, .slice pL L.length cL]).grow (new_alloc _ (.cells #[.int .u8 0, .int .u32 0, .int .u32 0, .int .u32 0, .int .u32 0, .int .u32 0, .int .u32 0, .int .u32 0, .int .u32 0, .int .u32 0, .slice none 0 0, .slice none 0 0, .slice none 0 0] 50)))
  have HZ0 := Hid.in (blk_two w 50 50 #[.int .u8 st, .int .u32 pc, .int .u32 r0, .int .u32 r1, .int .u32 r2, .int .u32 r3, .int .u32 r4, .int .u32 r5, .int .u32 r6, .int .u32 r7, .slice pS S.length cS, .slice pH hv.length cH, .slice pL L.length cL] #[.int .u8 0, .int .u32 0, .int .u32 0, .int .u32 0, .int .u32 0, .int .u32 0, .int .u32 0, .int .u32 0, .int .u32 0, .int .u32 0, .slice none 0 0, .slice none 0 0, .slice none 0 0])
  have HN := Hid.in (below_alloc (new_alloc w (.cells #[.int .u8 st, .int .u32 pc, .int .u32 r0, .int .u32 r1, .int .u32 r2, .int .u32 r3, .int .u32 r4, .int .u32 r5, .int .u32 r6, .int .u32 r7, .slice pS S.length cS, .slice pH hv.length cH, .slice pL L.length cL] 50)) (.cells #[.int .u8 0, .int .u32 0, .int .u32 0, .int .u32 0, .int .u32 0, .int .u32 0, .int .u32 0, .int .u32 0, .int .u32 0, .int .u32 0, .slice none 0 0, .slice none 0 0, .slice none 0 0] 50))
  clear s1 lR
  go_enter Tryz.func25, Tryz.ntmps25
  go_upto_region 1 with fail
  generalize (w.alloc (.cells #[.int .u8 st, .int .u32 pc, .int .u32 r0, .int .u32 r1, .int .u32 r2, .int .u32 r3, .int .u32 r4, .int .u32 r5, .int .u32 r6, .int .u32 r7, .slice pS S.length cS, .slice pH hv.length cH, .slice pL L.length cL] 50)).alloc (.cells #[.int .u8 0, .int .u32 0, .int .u32 0, .int .u32 0, .int .u32 0, .int .u32 0, .int .u32 0, .int .u32 0, .int .u32 0, .int .u32 0, .slice none 0 0, .slice none 0 0, .slice none 0 0] 50) = w1 at *
  have c12 : w1.cell? ⟨w.heap.size, 12, none⟩ = some (.slice pL L.length cL) := HA0.out.cell 12
  have c11 : w1.cell? ⟨w.heap.size, 11, none⟩ = some (.slice pH hv.length cH) := HA0.out.cell 11
  have f11 : w1.frozen? ⟨w.heap.size, 11, none⟩ = false := HA0.out.free 11
  have f12 : w1.frozen? ⟨w.heap.size, 12, none⟩ = false := HA0.out.free 12
  have HA2 : Hid (Blk ((w1.setCell ⟨w.heap.size, 11, none⟩ (.slice none 0 0)).setCell ⟨w.heap.size, 12, none⟩ (.slice none 0 0)) w.heap.size 50 #[.int .u8 st, .int .u32 pc, .int .u32 r0, .int .u32 r1, .int .u32 r2, .int .u32 r3, .int .u32 r4, .int .u32 r5, .int .u32 r6, .int .u32 r7, .slice pS S.length cS, .slice none 0 0, .slice none 0 0]) := (HA0.out.set 11 (.slice none 0 0)).set 12 (.slice none 0 0)
  have HZ2 := Hid.in ((HZ0.out.other (k := w.heap.size) (by omega) 11 (.slice none 0 0)).other (k := w.heap.size) (by omega) 12 (.slice none 0 0))
  have HG2 := Hid.in ((HN.out.grown (grown_setCell w1 w.heap.size 11 (.slice none 0 0)) HN.out.size (fun k hk => by cases hk; exact Nat.le_refl _)).grown (grown_setCell _ w.heap.size 12 (.slice none 0 0)) (Nat.le_trans HN.out.size (grown_setCell w1 w.heap.size 11 (.slice none 0 0)).size) (fun k hk => by cases hk; exact Nat.le_refl _))
  go_upto_region 4 with fail
  generalize (w1.setCell ⟨w.heap.size, 11, none⟩ (.slice none 0 0)).setCell ⟨w.heap.size, 12, none⟩ (.slice none 0 0) = w2 at *
  clear c11 c12 f11 f12 HA0 HZ0 HN
  have a0 : w2.cell? ⟨w.heap.size, 0, none⟩ = some (.int .u8 st) := HA2.out.cell 0
  have a1 : w2.cell? ⟨w.heap.size, 1, none⟩ = some (.int .u32 pc) := HA2.out.cell 1
  have a2 : w2.cell? ⟨w.heap.size, 2, none⟩ = some (.int .u32 r0) := HA2.out.cell 2
  have a3 : w2.cell? ⟨w.heap.size, 3, none⟩ = some (.int .u32 r1) := HA2.out.cell 3
  have a4 : w2.cell? ⟨w.heap.size, 4, none⟩ = some (.int .u32 r2) := HA2.out.cell 4
  have a5 : w2.cell? ⟨w.heap.size, 5, none⟩ = some (.int .u32 r3) := HA2.out.cell 5
  have a6 : w2.cell? ⟨w.heap.size, 6, none⟩ = some (.int .u32 r4) := HA2.out.cell 6
  have a7 : w2.cell? ⟨w.heap.size, 7, none⟩ = some (.int .u32 r5) := HA2.out.cell 7
  have a8 : w2.cell? ⟨w.heap.size, 8, none⟩ = some (.int .u32 r6) := HA2.out.cell 8
  have a9 : w2.cell? ⟨w.heap.size, 9, none⟩ = some (.int .u32 r7) := HA2.out.cell 9
  have a10 : w2.cell? ⟨w.heap.size, 10, none⟩ = some (.slice pS S.length cS) := HA2.out.cell 10
  have a11 : w2.cell? ⟨w.heap.size, 11, none⟩ = some (.slice none 0 0) := HA2.out.cell 11
  have a12 : w2.cell? ⟨w.heap.size, 12, none⟩ = some (.slice none 0 0) := HA2.out.cell 12
  have z0 : w2.cell? ⟨w.heap.size + 1, 0, none⟩ = some (.int .u8 0) := HZ2.out.cell 0
  have z1 : w2.cell? ⟨w.heap.size + 1, 1, none⟩ = some (.int .u32 0) := HZ2.out.cell 1
  have z2 : w2.cell? ⟨w.heap.size + 1, 2, none⟩ = some (.int .u32 0) := HZ2.out.cell 2
  have z3 : w2.cell? ⟨w.heap.size + 1, 3, none⟩ = some (.int .u32 0) := HZ2.out.cell 3
  have z4 : w2.cell? ⟨w.heap.size + 1, 4, none⟩ = some (.int .u32 0) := HZ2.out.cell 4
  have z5 : w2.cell? ⟨w.heap.size + 1, 5, none⟩ = some (.int .u32 0) := HZ2.out.cell 5
  have z6 : w2.cell? ⟨w.heap.size + 1, 6, none⟩ = some (.int .u32 0) := HZ2.out.cell 6
  have z7 : w2.cell? ⟨w.heap.size + 1, 7, none⟩ = some (.int .u32 0) := HZ2.out.cell 7
  have z8 : w2.cell? ⟨w.heap.size + 1, 8, none⟩ = some (.int .u32 0) := HZ2.out.cell 8
  have z9 : w2.cell? ⟨w.heap.size + 1, 9, none⟩ = some (.int .u32 0) := HZ2.out.cell 9
  have z10 : w2.cell? ⟨w.heap.size + 1, 10, none⟩ = some (.slice none 0 0) := HZ2.out.cell 10
  have z11 : w2.cell? ⟨w.heap.size + 1, 11, none⟩ = some (.slice none 0 0) := HZ2.out.cell 11
  have z12 : w2.cell? ⟨w.heap.size + 1, 12, none⟩ = some (.slice none 0 0) := HZ2.out.cell 12
  have zf : ∀ i, w2.frozen? ⟨w.heap.size + 1, i, none⟩ = false := HZ2.out.free
  have HB := Hid.in (st13_blk w2 (w.heap.size + 1) (.int .u8 st) (.int .u32 pc) (.int .u32 r0) (.int .u32 r1) (.int .u32 r2) (.int .u32 r3) (.int .u32 r4) (.int .u32 r5) (.int .u32 r6) (.int .u32 r7) (.slice pS S.length cS) (.slice none 0 0) (.slice none 0 0) HZ2.out rfl)
  have HG := Hid.in (st13_grown w2 (w.heap.size + 1) (.int .u8 st) (.int .u32 pc) (.int .u32 r0) (.int .u32 r1) (.int .u32 r2) (.int .u32 r3) (.int .u32 r4) (.int .u32 r5) (.int .u32 r6) (.int .u32 r7) (.slice pS S.length cS) (.slice none 0 0) (.slice none 0 0))
  go_wp2_with fail
  generalize (((((((((((((w2.setCell ⟨w.heap.size + 1, 0, none⟩ (.int .u8 st)).setCell ⟨w.heap.size + 1, 1, none⟩ (.int .u32 pc)).setCell ⟨w.heap.size + 1, 2, none⟩ (.int .u32 r0)).setCell ⟨w.heap.size + 1, 3, none⟩ (.int .u32 r1)).setCell ⟨w.heap.size + 1, 4, none⟩ (.int .u32 r2)).setCell ⟨w.heap.size + 1, 5, none⟩ (.int .u32 r3)).setCell ⟨w.heap.size + 1, 6, none⟩ (.int .u32 r4)).setCell ⟨w.heap.size + 1, 7, none⟩ (.int .u32 r5)).setCell ⟨w.heap.size + 1, 8, none⟩ (.int .u32 r6)).setCell ⟨w.heap.size + 1, 9, none⟩ (.int .u32 r7)).setCell ⟨w.heap.size + 1, 10, none⟩ (.slice pS S.length cS)).setCell ⟨w.heap.size + 1, 11, none⟩ (.slice none 0 0)).setCell ⟨w.heap.size + 1, 12, none⟩ (.slice none 0 0)) = w3 at *
  have hld := HB.out.load 50 _ Tryz.underlying50 rfl Tryz.sz50
  have hbb := HG2.out.grown HG.out HG2.out.size (fun k hk => by cases hk; exact Nat.le_succ _)
  exact bodyPost_ret (v := .tuple #[.agg #[.int .u8 st, .int .u32 pc, .int .u32 r0, .int .u32 r1, .int .u32 r2, .int .u32 r3, .int .u32 r4, .int .u32 r5, .int .u32 r6, .int .u32 r7, .slice pS S.length cS, .slice none 0 0, .slice none 0 0], .int .i64 L.length]) (by simp [results, Tryz.results25, asAddr, hld]) rfl ⟨_, rfl, ⟨pS, cS, none, 0, none, 0, rfl, HS.out.below hbb, fun h => absurd h (Nat.lt_irrefl 0), fun h => absurd h (Nat.lt_irrefl 0)⟩, hbb⟩
end Go.Proofs.YtnpaijbkhmnfpaaGreat

/- Ours: what the reference hands a load or store. -/
namespace Go.Proofs.YtnpaijbkhmnfpaaGreat
open Go.RowKit Go.Maps

set_option maxHeartbeats 800000 in
theorem rdata_no (p : Option Addr) (len c : Nat) (o a b n : Int) (w : World) (h1 : o ≠ 14) (h2 : o ≠ 15) :
    Calls Tryz.prog 59 #[.slice p len c, ins o a b n] w fun e w' => e = .returned (.slice none 0 0) ∧ Below w.heap.size w w' := by
  have g1 : (o == 14) = false := by simpa using h1
  have g2 : (o == 15) = false := by simpa using h2
  go_enter Tryz.func59, Tryz.ntmps59
  go_wp2
  go_ret
  exact ⟨rfl, new_alloc w _⟩

theorem drop_take_snoc (xs : List Int) (n j : Nat) (h : n + j < xs.length) : (xs.drop n).take (j + 1) = (xs.drop n).take j ++ [xs.getD (n + j) 0] := by
  rw [take_getD (xs.drop n) j (by rw [List.length_drop]; omega)]
  simp [List.getD, List.getElem?_drop]
theorem drop_take_end (xs : List Int) (n j : Nat) (hj : j ≤ 4) (h : j = 4 ∨ xs.length ≤ n + j) : (xs.drop n).take j = (xs.drop n).take 4 := by
  rcases h with rfl | h
  · rfl
  · rw [List.take_of_length_le (i := 4) (by rw [List.length_drop]; omega), List.take_of_length_le (by rw [List.length_drop]; omega)]

set_option maxHeartbeats 1600000 in
theorem rdata_yes (p : Option Addr) (len c n : Nat) (o a b : Int) (xs : List Int) (w : World) (hr : Row w p xs) (hx : xs.length = len) (hl : len ≤ 65536) (ho : o = 14 ∨ o = 15) (hn : n ≤ 2147483647) :
    Calls Tryz.prog 59 #[.slice p len c, ins o a b n] w fun e w' => ∃ v, e = .returned v ∧ OwnV w' w.heap.size v ((xs.drop n).take 4) ∧ Below w.heap.size w w' := by
  have HN := Hid.in (new_alloc w (.cells #[.int .u8 o, .int .u8 a, .int .u8 b, .int .i32 n] 117))
  have HI := Hid.in (Blk.new w 117 #[.int .u8 o, .int .u8 a, .int .u8 b, .int .i32 n])
  have HR := Hid.in (hr.below HN.out)
  have HX := Hid.in hx
  clear hr hx
  have e1 : (n : Int) % 18446744073709551616 = n := by omega
  have g12 : (o == 14) = false ∧ (o == 15) = true ∨ (o == 14) = true := by
    rcases ho with rfl | rfl
    · exact .inr rfl
    · exact .inl ⟨rfl, rfl⟩
  clear ho
  rcases g12 with ⟨g1, g2⟩ | g1
  all_goals
    go_enter Tryz.func59, Tryz.ntmps59
    go_upto_region 4 with fail
    generalize w.alloc (.cells #[.int .u8 o, .int .u8 a, .int .u8 b, .int .i32 n] 117) = w1 at *
    go_loopw [5, 6] (fun v i wr => ∃ j : Nat, j ≤ 4 ∧ (j = 0 ∨ n + j ≤ len) ∧ i = .int .i64 ((n + j : Nat) : Int) ∧ OwnV wr w1.heap.size v ((xs.drop n).take j) ∧ Below w1.heap.size w1 wr) (fun _ i _ => n + 4 - (intOf i).toNat)
    case atStart => exact ⟨0, Nat.zero_le _, .inl rfl, rfl, OwnV.nil _ _, Below.refl _ _⟩
    case round =>
      obtain ⟨j, hj, hjl, rfl, hown, hbk⟩ := hrel
      have hc3 : wr.cell? ⟨w.heap.size, 3, none⟩ = some (.int .i32 n) := (HI.out.grow hbk).cell 3
      have hsz := hbk.size
      obtain ⟨i, hi⟩ : ∃ i, i = n + j := ⟨_, rfl⟩
      rw [← hi] at hjl
      rw [← hi]
      by_cases h1 : i < len
      · by_cases h2 : i < n + 4
        · obtain ⟨pb, po, rfl, hc⟩ := HR.out (by rw [HX.out]; omega)
          have hcd := hc i (by rw [HX.out]; exact h1)
          have c1 : wr.cell? ⟨pb, po + i, none⟩ = some (.int .u8 (xs.getD i 0)) := by rw [hbk.cell (p := ⟨pb, po + i, none⟩) (cell_lt hcd)]; exact hcd
          have hlq : ((xs.drop n).take j).length + 1 ≤ 140737488355328 := by rw [List.length_take]; omega
          have HT : Hid ((xs.drop n).take (j + 1) = (xs.drop n).take j ++ [xs.getD i 0]) := by rw [hi]; exact drop_take_snoc xs n j (by rw [HX.out]; omega)
          have HJ : Hid (i = n + j ∧ j ≤ 4) := ⟨hi, hj⟩
          clear hcd hc hi hj hjl HR
          generalize xs.getD i 0 = z at *
          generalize (xs.drop n).take j = ys at *
          go_wp2_with (at_builtin; refine wp_push _ rfl _ _ rfl w1.heap.size _ ys rfl (hown.alloc _) ⟨wr.heap.size, 0, none⟩ 1 1 [z] rfl rfl (cell_one_new _ _ _) hlq (by simp; omega) ?_; intro v' w2 hown' _hgrow hbel _hnil)
          go_roundw
          case rel => exact ⟨j + 1, by have := HJ.out; omega, by have := HJ.out; omega, by have := HJ.out; go_num, by rw [HT.out]; exact hown', hbel _ (hbk.alloc hsz _)⟩
          case measure => simp [intOf]; omega
        · have HE : Hid ((xs.drop n).take j = (xs.drop n).take 4) := drop_take_end xs n j hj (by omega)
          clear hi hj hjl
          go_wp2_with fail
          go_ret
          exact ⟨_, rfl, by rw [← HE.out]; exact rowLower hown HN.out.size, below_step HN.out hbk⟩
      · have HE : Hid ((xs.drop n).take j = (xs.drop n).take 4) := drop_take_end xs n j hj (by rw [HX.out]; omega)
        clear hi hj hjl
        go_wp2_with fail
        go_ret
        exact ⟨_, rfl, by rw [← HE.out]; exact rowLower hown HN.out.size, below_step HN.out hbk⟩
end Go.Proofs.YtnpaijbkhmnfpaaGreat

/- Ours: the reference's four bytes. -/
namespace Go.Proofs.YtnpaijbkhmnfpaaGreat
open Go.RowKit Go.Maps

set_option maxHeartbeats 800000 in
theorem rfour_any (v : Int) (w : World) (hv : 0 ≤ v ∧ v ≤ 4294967295) : Calls Tryz.prog 60 #[.int .u32 v] w fun e w' => ∃ g, e = .returned (.slice (some ⟨g, 0, none⟩) 4 4) ∧ Own w' w.heap.size g 4 (le4 v) ∧ Below w.heap.size w w' := by
  have hO := Own.lit w (le4 v) (by simp [le4, maxLen])
  have e0 : v % 4294967296 = v := by omega
  have t1 : v.tmod 256 = v % 256 := by rw [Int.tmod_eq_emod_of_nonneg hv.1]
  have t2 : v.tdiv 256 = v / 256 := by rw [Int.tdiv_eq_ediv_of_nonneg hv.1]
  have t3 : (v / 256).tmod 256 = v / 256 % 256 := by rw [Int.tmod_eq_emod_of_nonneg (by omega)]
  have t4 : v.tdiv 65536 = v / 65536 := by rw [Int.tdiv_eq_ediv_of_nonneg hv.1]
  have t5 : (v / 65536).tmod 256 = v / 65536 % 256 := by rw [Int.tmod_eq_emod_of_nonneg (by omega)]
  have t6 : v.tdiv 16777216 = v / 16777216 := by rw [Int.tdiv_eq_ediv_of_nonneg hv.1]
  have m1 : v % 256 % 256 = v % 256 := by omega
  have m2 : v / 16777216 % 256 = v / 16777216 := by omega
  have m3 : v / 256 % 256 % 256 = v / 256 % 256 := by omega
  have m4 : v / 65536 % 256 % 256 = v / 65536 % 256 := by omega
  simp only [le4, e0] at hO
  have HO := Hid.in hO
  clear hO
  go_enter Tryz.func60, Tryz.ntmps60
  go_wp2
  go_ret
  simp only [le4, e0]
  exact ⟨_, rfl, HO.out, new_alloc _ _⟩
end Go.Proofs.YtnpaijbkhmnfpaaGreat

/- A region that draws its order: its first operations only read; what stands behind them may make memory. -/
namespace Go.Proofs.YtnpaijbkhmnfpaaGreat
open Go.RowKit Go.Sort

/-- an operation whose answer is a value -/
def plainOp (o : Oper) : Bool := match o.op with
  | .move _ | .assign _ | .pick _ _ _ | .load _ _ | .binOp _ _ _ _ _ | .unOp _ _ _ | .slice _ _ _ _ _ | .fieldAddr _ _ _ | .field _ _ _ | .indexAddr _ _ _ | .index _ _ _ | .extract _ _ | .convert _ _ _ => true
  | .call c => match c.callee with
    | .builtin .len => true
    | _ => false
  | _ => false
theorem value_only {P : Program} (s : Sem Value) (w w' : World) (n : Next) (h : (do pure (.value (← s)) : Sem Next).run P w = .ok n w') : ∃ v, n = .value v := by
  rw [Sem.run_bind] at h
  cases hs : s.run P w with
  | ok x w1 =>
    rw [hs] at h
    simp only [Result.andThen_ok, Sem.run_pure] at h
    injection h with h1 h2
    exact ⟨x, h1.symm⟩
  | halt x w1 =>
    rw [hs] at h
    simp [Result.andThen] at h
theorem plain_value {P : Program} {o : Oper} (hp : plainOp o = true) {ρ : Operand → Value} {w w' : World} {n : Next} (h : (execOp ρ o).run P w = .ok n w') : ∃ v, n = .value v := by
  unfold plainOp at hp
  unfold execOp at h
  obtain ⟨dst, op, ty, pos, aft, gd⟩ := o
  cases op <;> simp only at hp h
  case move => injection h with h1 _; exact ⟨_, h1.symm⟩
  case assign => injection h with h1 _; exact ⟨_, h1.symm⟩
  case pick c x y =>
    rw [Sem.run_bind] at h
    cases hs : (asBool (ρ c)).run P w with
    | ok b w1 =>
      rw [hs] at h
      simp only [Result.andThen_ok, Sem.run_pure] at h
      injection h with h1 _
      exact ⟨_, h1.symm⟩
    | halt x w1 =>
      rw [hs] at h
      simp [Result.andThen] at h
  case call c =>
    cases hc : c.callee with
    | builtin b =>
      rw [hc] at hp
      cases b <;> simp at hp
      simp only [resolve, hc, pure_bind, invoke, builtin] at h
      exact value_only _ _ _ _ h
    | _ => rw [hc] at hp; simp at hp
  all_goals first
    | exact value_only _ _ _ _ h
    | (cases hp; done)

section
variable {P : Program} {ops : Array Oper} {md : Region.Mode} {C : World → Prop} {Q : Exit → Act → World → Prop}
theorem yieldsIf_of_plain {o : Oper} {v : Value} {a : Act} (hp : plainOp o = true) (h : YieldsIn P ops C o v a) : YieldsIf P ops C o v a := by
  rcases h with ⟨hw, hv⟩ | h
  · refine .inl ⟨hw, fun w hC => ?_⟩
    have h1 := hv w hC
    unfold Oper.quietAt at h1
    cases hr : (execOp a.eval o).run P w with
    | ok n w' =>
      obtain ⟨u, rfl⟩ := plain_value hp hr
      rw [hr] at h1
      obtain ⟨rfl, rfl⟩ := h1
      rfl
    | halt x w' =>
      rw [hr] at h1
      exact h1.elim
  · exact .inr h
/-- the first n operations come up in the order of the text -/
def lexUp (md : Region.Mode) (ops : Array Oper) : Nat → Nat → Array Bool → Bool
  | 0, _, _ => true
  | n + 1, k, listed => (Region.ready md ops listed).contains k && Region.free md ops listed k && lexUp md ops n (k + 1) (listed.setIfInBounds k true)
def listedUp : Nat → Nat → Array Bool → Array Bool
  | 0, _, listed => listed
  | n + 1, k, listed => listedUp n (k + 1) (listed.setIfInBounds k true)
theorem wpAnyH_lex (hs : Region.noSelect ops = true) (hQ : ∀ c a d v w, Q (.panic c) (Act.put a d v) w → Q (.panic c) a w) (m : Nat) :
    ∀ (l : List Oper) (k : Nat) (listed : Array Bool) (a : Act) (w : World), (∀ j, j < l.length → l[j]? = ops[k + j]?) → l.all plainOp = true → lexUp md ops l.length k listed = true → C w →
      wpQuiet P ops C (fun a' => ∀ w', C w' → wpAnyH P md ops Q C m (listedUp l.length k listed) a' w') l a → wpAnyH P md ops Q C (l.length + m) listed a w
  | [], _, _, _, w, _, _, _, hC, h => by
    have := h w hC
    rw [List.length_nil, Nat.zero_add]
    exact this
  | o :: l, k, listed, a, w, hl, hp, hB, hC, h => by
    have h0 : ops[k]? = some o := by simpa using (hl 0 (by simp)).symm
    simp only [List.length_cons, lexUp, Bool.and_eq_true] at hB
    obtain ⟨⟨hr, hf⟩, hB'⟩ := hB
    rw [List.all_cons, Bool.and_eq_true] at hp
    have hst : qOp P ops C k (wpQuiet P ops C (fun a' => ∀ w', C w' → wpAnyH P md ops Q C m (listedUp (o :: l).length k listed) a' w') l) a := by unfold qOp; simp only [h0]; exact h
    obtain ⟨v, hy, hK⟩ := yieldsIn_of_qOp h0 hst
    rw [List.length_cons, show l.length + 1 + m = l.length + m + 1 by omega]
    exact wpAnyH_take h0 hs hf hr (fun c a w => hQ c a _ _ w) (yieldsIf_of_plain hp.1 hy) hC
      (wpAnyH_lex hs hQ m l (k + 1) _ _ w (fun j hj => by have := hl (j + 1) (by simpa using hj); simpa [Nat.add_assoc, Nat.add_comm 1 j] using this) hp.2 hB' hC hK)
/-- **the first n operations only read; the rest in whatever order** -/
theorem wp_region_first (n m : Nat) {id : Nat} {a : Act} {w : World} {l : List Oper} (hm : P.follows .mixedOrders = true) (hs : Region.noSelect l.toArray = true) (hn : (l.length == n + m) = true) (hp : (l.take n).all plainOp = true)
    (hB : lexUp .any l.toArray n 0 (Array.replicate l.length false) = true) (hQ : ∀ c a d v w, Q (.panic c) (Act.put a d v) w → Q (.panic c) a w) (hC : C { w with drawn := w.drawn + 1 })
    (h : wpQuiet P l.toArray C (fun a' => ∀ w', C w' → wpAnyH P .any l.toArray Q C m (listedUp n 0 (Array.replicate l.length false)) a' w') (l.take n) a) :
    (Code.region id l.toArray true).wp P Q a w := by
  refine wp_region_held (S := C) hm ?_
  have hn' : l.length = n + m := by simpa using hn
  have hl : (l.take n).length = n := by rw [List.length_take]; omega
  have := wpAnyH_lex (P := P) (md := .any) (C := C) (Q := Q) hs hQ m (l.take n) 0 (Array.replicate l.length false) a _ (fun j hj => by rw [hl] at hj; simp [hj]) hp (by rw [hl]; exact hB) hC (by rw [hl]; exact h)
  rw [hl, ← hn'] at this
  simpa using this
/-- .. at the worlds in which of what was there nothing has turned -/
theorem wp_region_first_below (n m : Nat) {id : Nat} {a : Act} {w : World} {l : List Oper} (hm : P.follows .mixedOrders = true) (hs : Region.noSelect l.toArray = true) (hn : (l.length == n + m) = true) (hp : (l.take n).all plainOp = true)
    (hB : lexUp .any l.toArray n 0 (Array.replicate l.length false) = true) (hQ : ∀ c a d v w, Q (.panic c) (Act.put a d v) w → Q (.panic c) a w)
    (h : wpQuiet P l.toArray (fun w' => ∃ p : Regrown, w' = grow (redrawn w p.d) p.os) (fun a' => ∀ w', (∃ p : Regrown, w' = grow (redrawn w p.d) p.os) → wpAnyH P .any l.toArray Q (fun w' => ∃ p : Regrown, w' = grow (redrawn w p.d) p.os) m (listedUp n 0 (Array.replicate l.length false)) a' w') (l.take n) a) :
    (Code.region id l.toArray true).wp P Q a w :=
  wp_region_first n m hm hs hn hp hB hQ ⟨⟨w.drawn + 1, #[]⟩, by rw [grow_empty]; rfl⟩ h
/-- one operation alone may come up -/
theorem wpAnyH_one {S : World → Prop} {i : Nat} {o : Oper} {fuel : Nat} {listed : Array Bool} {a : Act} {w : World} (hr : Region.ready md ops listed = [i]) (ho : ops[i]? = some o)
    (h : ∀ K' : Act → World → Prop, Shut (∀ a w, S w → (S w → wpAnyH P md ops Q S fuel (listed.setIfInBounds i true) a w) → K' a w) → if Region.wanted o (yielded ops a.tmps) = true then Oper.wp P o a w K' Q else K' (a.put o.dst undef) w) :
    wpAnyH P md ops Q S (fuel + 1) listed a w :=
  wpAnyH_ready hr (by simp) (AllReadyH.cons ho h AllReadyH.nil)
end

end Go.Proofs.YtnpaijbkhmnfpaaGreat

/- A region that draws its order: operations that only read are taken first; behind those that wait for all of them nothing need be kept. -/
namespace Go.Proofs.YtnpaijbkhmnfpaaGreat
open Go.RowKit Go.Sort

section
variable {P : Program} {ops : Array Oper} {md : Region.Mode} {S : World → Prop} {Q : Exit → Act → World → Prop} {ex : List Nat}
/-- whatever order is picked, and every operation but those of ex keeps S -/
def wpAnyG (P : Program) (md : Region.Mode) (ops : Array Oper) (Q : Exit → Act → World → Prop) (S : World → Prop) (ex : List Nat) : Nat → Array Bool → Act → World → Prop
  | 0, listed, a, w => Region.ready md ops listed = [] ∧ Q .normal a w
  | fuel + 1, listed, a, w =>
    (Region.ready md ops listed = [] → Q .normal a w) ∧
    ∀ i ∈ Region.ready md ops listed, wpOp P ops Q i (fun a' w' => (ex.contains i = false → S w → S w') ∧ wpAnyG P md ops Q S ex fuel (listed.setIfInBounds i true) a' w') a w
theorem wpAny_of_G : ∀ (fuel : Nat) (listed : Array Bool) (a : Act) (w : World), wpAnyG P md ops Q S ex fuel listed a w → wpAny P md ops Q fuel listed a w
  | 0, _, _, _, h => h
  | fuel + 1, _, _, _, h => ⟨h.1, fun i hi => wpOp_mono (fun a' w' h' => wpAny_of_G fuel _ a' w' h'.2) (h.2 i hi)⟩
/-- what has come up: with each operation those that it waits for -/
def Closed (md : Region.Mode) (ops : Array Oper) (listed : Array Bool) : Prop := ∀ j o, ops[j]? = some o → listed.getD j false = true → ∀ e ∈ o.after, Region.binds md e = true → listed.getD e.on false = true
theorem Closed.set {listed : Array Bool} {j : Nat} (h : Closed md ops listed) (hj : j ∈ Region.ready md ops listed) : Closed md ops (listed.setIfInBounds j true) := by
  intro k o ho hk e he hb
  obtain ⟨h0, oj, hoj, hall⟩ := mem_ready.1 hj
  by_cases hjk : j = k
  · subst hjk
    rw [hoj] at ho
    injection ho with ho
    subst ho
    exact getD_set_true (hall e he hb)
  · rw [getD_set_ne false hjk] at hk
    exact getD_set_true (h k o ho hk e he hb)
theorem Closed.start (m : Nat) : Closed md ops (Array.replicate m false) := fun j o _ hj => by
  have : (Array.replicate m false).getD j false = false := by
    simp only [Array.getD_eq_getD_getElem?, Array.getElem?_replicate]
    split <;> rfl
  rw [this] at hj
  cases hj
/-- operation n waits for i -/
def waits (md : Region.Mode) (ops : Array Oper) (i : Nat) : Nat → Nat → Bool
  | 0, _ => false
  | f + 1, n => match ops[n]? with
    | none => false
    | some o => o.after.toList.any fun e => Region.binds md e && (e.on == i || waits md ops i f e.on)
theorem waits_listed {listed : Array Bool} {i : Nat} (hc : Closed md ops listed) : ∀ (f n : Nat), waits md ops i f n = true → (∀ o, ops[n]? = some o → ∀ e ∈ o.after, Region.binds md e = true → listed.getD e.on false = true) → listed.getD i false = true
  | 0, _, h, _ => by simp [waits] at h
  | f + 1, n, h, hd => by
    unfold waits at h
    cases ho : ops[n]? with
    | none => rw [ho] at h; simp at h
    | some o =>
      rw [ho] at h
      simp only [List.any_eq_true, Bool.and_eq_true, Bool.or_eq_true, beq_iff_eq] at h
      obtain ⟨e, he', hb, h1 | h1⟩ := h
      all_goals have he : e ∈ o.after := by simpa using he'
      · rw [← h1]; exact hd o ho e he hb
      · exact waits_listed hc f e.on h1 (fun o' ho' => hc e.on o' ho' (hd o ho e he hb))
theorem waits_not {listed : Array Bool} {i n f : Nat} (hc : Closed md ops listed) (h : waits md ops i f n = true) (hn : n ∈ Region.ready md ops listed) (hi : i ∈ Region.ready md ops listed) : False := by
  obtain ⟨_, o, ho, hall⟩ := mem_ready.1 hn
  have h1 := waits_listed hc f n h (fun o' ho' => by rw [ho] at ho'; injection ho' with ho'; subst ho'; exact hall)
  have h2 := (mem_ready.1 hi).1
  rcases Nat.lt_or_ge i listed.size with h' | h'
  · simp [h'] at h1 h2; rw [h1] at h2; cases h2
  · simp [Array.getElem?_eq_none h'] at h1
theorem wpAnyG_first {T : World → Prop} {i : Nat} {oi : Oper} {v : Value} (hi : ops[i]? = some oi) (hsel : ∀ (j : Nat) (o : Oper) cs b, ops[j]? = some o → o.op ≠ .select cs b)
    (hQ : ∀ c a w, Q (.panic c) (a.put oi.dst v) w → Q (.panic c) a w)
    (hT : ∀ (listed : Array Bool) (j : Nat) (w w' : World), Closed md ops listed → j ∈ Region.ready md ops listed → i ∈ Region.ready md ops listed → T w → (ex.contains j = false → S w → S w') → T w') :
    ∀ (fuel : Nat) (listed : Array Bool) (a : Act) (w : World), Closed md ops listed →
      (∀ j oj, ops[j]? = some oj → j ≠ i → listed.getD j true = false → (∀ e ∈ oj.after, Region.binds md e = true → e.on ≠ i) → oi.apart ops oj = true) →
      i ∈ Region.ready md ops listed → YieldsIf P ops T oi v a → T w →
      wpAnyG P md ops Q S ex fuel (listed.setIfInBounds i true) (a.put oi.dst v) w → wpAnyG P md ops Q S ex (fuel + 1) listed a w := by
  intro fuel
  induction fuel with
  | zero =>
    intro listed a w hc _ hr hy hS H
    refine ⟨fun h => (by rw [h] at hr; cases hr), fun j hj => ?_⟩
    by_cases hji : j = i
    · subst hji; exact hy.wpOp hi hS ⟨fun _ h => h, H⟩
    · have := ready_mono hj hji
      rw [H.1] at this
      cases this
  | succ fuel ih =>
    intro listed a w hc hfree hr hy hS H
    refine ⟨fun h => (by rw [h] at hr; cases hr), fun j hj => ?_⟩
    by_cases hji : j = i
    · subst hji; exact hy.wpOp hi hS ⟨fun _ h => h, H⟩
    · have h1 := H.2 j (ready_mono hj hji)
      obtain ⟨hjun, oj, hoj, hall⟩ := mem_ready.1 hj
      have hnot : ∀ e ∈ oj.after, Region.binds md e = true → e.on ≠ i := fun e he hb heq => by
        have h1 := hall e he hb
        have h0 := (mem_ready.1 hr).1
        rw [heq] at h1
        rcases Nat.lt_or_ge i listed.size with h' | h'
        · simp [h'] at h0 h1; rw [h0] at h1; cases h1
        · simp [Array.getElem?_eq_none h'] at h1
      have h2 := wpOp_putIf hoj (hfree j oj hoj hji hjun hnot) (fun cs b => hsel i oi cs b hi) (fun cs b => hsel j oj cs b hoj) hQ hy h1
      have hfree' : ∀ k ok, ops[k]? = some ok → k ≠ i → (listed.setIfInBounds j true).getD k true = false →
          (∀ e ∈ ok.after, Region.binds md e = true → e.on ≠ i) → oi.apart ops ok = true := fun k ok hk hki hun hno => by
        refine hfree k ok hk hki ?_ hno
        by_cases hjk : j = k
        · subst hjk; exact hjun
        · rw [getD_set_ne true hjk] at hun; exact hun
      refine wpOp_mono (fun a' w' h3 => ⟨h3.2.1, ih (listed.setIfInBounds j true) a' w' (hc.set hj) hfree' (ready_mono hr (Ne.symm hji)) h3.1 (hT listed j w w' hc hj hr hS h3.2.1) ?_⟩) h2
      rw [Array.setIfInBounds_comm _ _ hji]
      exact h3.2.2
/-- the operations that are taken first, in the order of the list -/
def pickUp (md : Region.Mode) (ops : Array Oper) (ex : List Nat) : List Nat → Array Bool → Bool
  | [], _ => true
  | i :: is, listed => (Region.ready md ops listed).contains i && Region.free md ops listed i && (ex.all fun n => waits md ops i ops.size n) && pickUp md ops ex is (listed.setIfInBounds i true)
def picked : List Nat → Array Bool → Array Bool
  | [], listed => listed
  | i :: is, listed => picked is (listed.setIfInBounds i true)
theorem Closed.picked {ex : List Nat} : ∀ (is : List Nat) (listed : Array Bool), pickUp md ops ex is listed = true → Closed md ops listed → Closed md ops (picked is listed)
  | [], _, _, h => h
  | i :: is, listed, hB, h => by
    simp only [pickUp, Bool.and_eq_true] at hB
    exact Closed.picked is _ hB.2 (h.set (by simpa using hB.1.1.1))
theorem wpAnyG_pick (hs : Region.noSelect ops = true) (hQ : ∀ c a d v w, Q (.panic c) (Act.put a d v) w → Q (.panic c) a w) (m : Nat) :
    ∀ (is : List Nat) (l : List Oper) (listed : Array Bool) (a : Act) (w : World), is.length = l.length → (∀ j, j < l.length → l[j]? = (is[j]?).bind fun i => ops[i]?) → l.all plainOp = true → pickUp md ops ex is listed = true → Closed md ops listed → S w →
      wpQuiet P ops S (fun a' => ∀ w', S w' → wpAnyG P md ops Q S ex m (picked is listed) a' w') l a → wpAnyG P md ops Q S ex (l.length + m) listed a w
  | [], [], _, _, w, _, _, _, _, _, hC, h => by
    have := h w hC
    rw [List.length_nil, Nat.zero_add]
    exact this
  | [], _ :: _, _, _, _, hl, _, _, _, _, _, _ => by simp at hl
  | _ :: _, [], _, _, _, hl, _, _, _, _, _, _ => by simp at hl
  | i :: is, o :: l, listed, a, w, hlen, hl, hp, hB, hcl, hC, h => by
    have h0 : ops[i]? = some o := by simpa using (hl 0 (by simp)).symm
    simp only [pickUp, Bool.and_eq_true] at hB
    obtain ⟨⟨⟨hr, hf⟩, hw⟩, hB'⟩ := hB
    rw [List.all_cons, Bool.and_eq_true] at hp
    have hst : qOp P ops S i (wpQuiet P ops S (fun a' => ∀ w', S w' → wpAnyG P md ops Q S ex m (picked (i :: is) listed) a' w') l) a := by unfold qOp; simp only [h0]; exact h
    obtain ⟨v, hy, hK⟩ := yieldsIn_of_qOp h0 hst
    have hri : i ∈ Region.ready md ops listed := by simpa using hr
    rw [List.length_cons, show l.length + 1 + m = l.length + m + 1 by omega]
    refine wpAnyG_first (T := S) h0 (Region.noSelect_spec hs) (fun c a w => hQ c a _ _ w) (fun listed' j w0 w' hc hj hi' hS0 hx => ?_) (l.length + m) listed a w hcl (Region.free_spec h0 hf) hri (yieldsIf_of_plain hp.1 hy) hC
      (wpAnyG_pick hs hQ m is l _ _ w (by simpa using hlen) (fun j hj => by have := hl (j + 1) (by simpa using hj); simpa using this) hp.2 hB' (hcl.set hri) hC hK)
    cases hxj : ex.contains j with
    | false => exact hx hxj hS0
    | true =>
      have hm : j ∈ ex := by simpa using hxj
      exact (waits_not hc (List.all_eq_true.1 hw j hm) hj hi').elim
/-- **the first n operations only read, in the worlds in which of what was there nothing has turned; the rest in whatever order; behind those of ex nothing is kept** -/
theorem wp_region_sink (n : Nat) (ex : List Nat) (m : Nat) {id : Nat} {a : Act} {w : World} {l : List Oper} (hm : P.follows .mixedOrders = true) (hs : Region.noSelect l.toArray = true) (hn : (l.length == n + m) = true) (hp : (l.take n).all plainOp = true)
    (hB : pickUp .any l.toArray ex (List.range n) (Array.replicate l.length false) = true) (hQ : ∀ c a d v w, Q (.panic c) (Act.put a d v) w → Q (.panic c) a w)
    (h : wpQuiet P l.toArray (fun w' => ∃ p : Regrown, w' = grow (redrawn w p.d) p.os) (fun a' => ∀ w', (∃ p : Regrown, w' = grow (redrawn w p.d) p.os) → wpAnyG P .any l.toArray Q (fun w' => ∃ p : Regrown, w' = grow (redrawn w p.d) p.os) ex m (picked (List.range n) (Array.replicate l.length false)) a' w') (l.take n) a) :
    (Code.region id l.toArray true).wp P Q a w := by
  have hn' : l.length = n + m := by simpa using hn
  have hl : (l.take n).length = n := by rw [List.length_take]; omega
  have := wpAnyG_pick (P := P) (md := .any) (S := fun w' => ∃ p : Regrown, w' = grow (redrawn w p.d) p.os) (Q := Q) (ex := ex) hs hQ m (List.range n) (l.take n) (Array.replicate l.length false) a { w with drawn := w.drawn + 1 } (by rw [hl, List.length_range])
    (fun j hj => by rw [hl] at hj; simp [hj]) hp hB (Closed.start _) ⟨⟨w.drawn + 1, #[]⟩, by rw [grow_empty]; rfl⟩ h
  refine wp_region_any hm (wpAny_of_G (S := fun w' => ∃ p : Regrown, w' = grow (redrawn w p.d) p.os) (ex := ex) _ _ _ _ ?_)
  rw [hl, ← hn'] at this
  simpa using this
/-- one operation alone may come up -/
theorem wpAnyG_one {i : Nat} {o : Oper} {fuel : Nat} {listed : Array Bool} {a : Act} {w : World} (hr : Region.ready md ops listed = [i]) (ho : ops[i]? = some o)
    (h : ∀ K' : Act → World → Prop, Shut (∀ a w, S w → (S w → wpAnyG P md ops Q S ex fuel (listed.setIfInBounds i true) a w) → K' a w) → if Region.wanted o (yielded ops a.tmps) = true then Oper.wp P o a w K' Q else K' (a.put o.dst undef) w) :
    wpAnyG P md ops Q S ex (fuel + 1) listed a w := by
  refine ⟨fun h0 => absurd (hr ▸ h0) (by simp), fun j hj => ?_⟩
  rw [hr] at hj
  obtain rfl : j = i := by simpa using hj
  exact wpOp_step ho (fun K' hK => h K' (fun a w hS hW => hK a w ⟨fun _ _ => hS, hW hS⟩))
/-- .. and nothing is kept behind it -/
theorem wpAnyG_last {i : Nat} {o : Oper} {fuel : Nat} {listed : Array Bool} {a : Act} {w : World} (hr : Region.ready md ops listed = [i]) (ho : ops[i]? = some o) (hx : ex.contains i = true)
    (h : ∀ K' : Act → World → Prop, Shut (∀ a w, wpAnyG P md ops Q S ex fuel (listed.setIfInBounds i true) a w → K' a w) → if Region.wanted o (yielded ops a.tmps) = true then Oper.wp P o a w K' Q else K' (a.put o.dst undef) w) :
    wpAnyG P md ops Q S ex (fuel + 1) listed a w := by
  refine ⟨fun h0 => absurd (hr ▸ h0) (by simp), fun j hj => ?_⟩
  rw [hr] at hj
  obtain rfl : j = i := by simpa using hj
  exact wpOp_step ho (fun K' hK => h K' (fun a w hW => hK a w ⟨(fun e _ => by rw [hx] at e; cases e), hW⟩))
/-- an operation that no world turns is taken -/
theorem wpAnyG_takeW {i : Nat} {oi : Oper} {v : Value} {fuel : Nat} {listed : Array Bool} {a : Act} {w : World} (hi : ops[i]? = some oi) (hs : Region.noSelect ops = true) (hf : Region.free md ops listed i = true) (hr : (Region.ready md ops listed).contains i = true)
    (hQ : ∀ c a w, Q (.panic c) (a.put oi.dst v) w → Q (.panic c) a w) (hc : Closed md ops listed) (hw : Region.wanted oi (yielded ops a.tmps) = true) (hy : ∀ w, (execOp a.eval oi).run P w = .ok (.value v) w)
    (h : wpAnyG P md ops Q S ex fuel (listed.setIfInBounds i true) (a.put oi.dst v) w) : wpAnyG P md ops Q S ex (fuel + 1) listed a w :=
  wpAnyG_first (T := fun _ => True) hi (Region.noSelect_spec hs) hQ (fun _ _ _ _ _ _ _ _ _ => trivial) fuel listed a w hc (Region.free_spec hi hf) (by simpa using hr) (.inl ⟨hw, fun w _ => hy w⟩) trivial h
theorem wpAnyG_done {listed : Array Bool} {a : Act} {w : World} (hr : Region.ready md ops listed = []) (h : Q .normal a w) : ∀ fuel, wpAnyG P md ops Q S ex fuel listed a w
  | 0 => ⟨hr, h⟩
  | _ + 1 => ⟨fun _ => h, by rw [hr]; simp⟩
end

end Go.Proofs.YtnpaijbkhmnfpaaGreat

/- A region that draws its order: operations that read what S says are picked first, wherever they stand; behind the operations of ex, which wait for all of these, nothing need be kept. -/
namespace Go.Proofs.YtnpaijbkhmnfpaaGreat
open Go.RowKit Go.Sort

theorem wp_region_pick {P : Program} {Q : Exit → Act → World → Prop} (S : World → Prop) (is ex : List Nat) (m : Nat) (ps : List Oper) {id : Nat} {a : Act} {w : World} {l : List Oper} (hm : P.follows .mixedOrders = true) (hs : Region.noSelect l.toArray = true)
    (hn : (l.length == ps.length + m) = true) (hi : is.length = ps.length) (hps : ∀ j, j < ps.length → ps[j]? = (is[j]?).bind fun i => l.toArray[i]?) (hp : ps.all plainOp = true)
    (hB : pickUp .any l.toArray ex is (Array.replicate l.length false) = true) (hQ : ∀ c a d v w, Q (.panic c) (Act.put a d v) w → Q (.panic c) a w) (hS : S w.drew)
    (h : wpQuiet P l.toArray S (fun a' => ∀ w', S w' → wpAnyG P .any l.toArray Q S ex m (picked is (Array.replicate l.length false)) a' w') ps a) :
    (Code.region id l.toArray true).wp P Q a w := by
  have hn' : l.length = ps.length + m := by simpa using hn
  have := wpAnyG_pick (P := P) (md := .any) (S := S) (Q := Q) (ex := ex) hs hQ m is ps (Array.replicate l.length false) a w.drew hi hps hp hB (Closed.start _) hS h
  refine wp_region_any hm (wpAny_of_G (S := S) (ex := ex) _ _ _ _ ?_)
  rw [← hn'] at this
  simpa using this

/-- two operations may come up -/
theorem wpAnyG_two {P : Program} {md : Region.Mode} {ops : Array Oper} {Q : Exit → Act → World → Prop} {S : World → Prop} {ex : List Nat} {i j : Nat} {oi oj : Oper} {fuel : Nat} {listed : Array Bool} {a : Act} {w : World} (hr : Region.ready md ops listed = [i, j]) (hi : ops[i]? = some oi) (hj : ops[j]? = some oj)
    (h1 : ∀ K' : Act → World → Prop, Shut (∀ a w, S w → (S w → wpAnyG P md ops Q S ex fuel (listed.setIfInBounds i true) a w) → K' a w) → if Region.wanted oi (yielded ops a.tmps) = true then Oper.wp P oi a w K' Q else K' (a.put oi.dst undef) w)
    (h2 : ∀ K' : Act → World → Prop, Shut (∀ a w, S w → (S w → wpAnyG P md ops Q S ex fuel (listed.setIfInBounds j true) a w) → K' a w) → if Region.wanted oj (yielded ops a.tmps) = true then Oper.wp P oj a w K' Q else K' (a.put oj.dst undef) w) :
    wpAnyG P md ops Q S ex (fuel + 1) listed a w := by
  refine ⟨fun h0 => absurd (hr ▸ h0) (by simp), fun k hk => ?_⟩
  rw [hr] at hk
  simp only [List.mem_cons, List.not_mem_nil, or_false] at hk
  rcases hk with rfl | rfl
  · exact wpOp_step hi (fun K' hK => h1 K' (fun a w hS hW => hK a w ⟨fun _ _ => hS, hW hS⟩))
  · exact wpOp_step hj (fun K' hK => h2 K' (fun a w hS hW => hK a w ⟨fun _ _ => hS, hW hS⟩))

section
variable {P : Program} {ops : Array Oper} {md : Region.Mode} {S : World → Prop} {Q : Exit → Act → World → Prop} {ex : List Nat}
/-- an operation that reads what S says is taken, the world stays as it is -/
theorem wpAnyG_takeS {i : Nat} {oi : Oper} {v : Value} {fuel : Nat} {listed : Array Bool} {a : Act} {w : World} (hi : ops[i]? = some oi) (hs : Region.noSelect ops = true) (hf : Region.free md ops listed i = true) (hr : (Region.ready md ops listed).contains i = true) (hx : (ex.all fun n => waits md ops i ops.size n) = true)
    (hQ : ∀ c a d v w, Q (.panic c) (Act.put a d v) w → Q (.panic c) a w) (hc : Closed md ops listed) (hw : Region.wanted oi (yielded ops a.tmps) = true) (hS : S w) (hy : ∀ w, S w → (execOp a.eval oi).run P w = .ok (.value v) w)
    (h : wpAnyG P md ops Q S ex fuel (listed.setIfInBounds i true) (a.put oi.dst v) w) : wpAnyG P md ops Q S ex (fuel + 1) listed a w :=
  wpAnyG_first (T := S) hi (Region.noSelect_spec hs) (fun c a w => hQ c a oi.dst v w) (fun l j w w' hcl hj hir hT hk => hk (by
    cases e : ex.contains j
    · rfl
    · have hw' := List.all_eq_true.1 hx j (by simpa using e)
      exact (waits_not hcl hw' hj hir).elim) hT) fuel listed a w hc (Region.free_spec hi hf) (by simpa using hr) (.inl ⟨hw, hy⟩) hS h
theorem wp_region_G (S : World → Prop) (ex : List Nat) {id : Nat} {a : Act} {w : World} {l : List Oper} (hm : P.follows .mixedOrders = true) (h : wpAnyG P .any l.toArray Q S ex l.length (Array.replicate l.length false) a w.drew) : (Code.region id l.toArray true).wp P Q a w := by
  refine wp_region_any hm (wpAny_of_G (S := S) (ex := ex) _ _ _ _ ?_)
  simpa using h
end

end Go.Proofs.YtnpaijbkhmnfpaaGreat

/- Ours: a region that draws its order: the operations of a list, which only read, are taken first; behind those of ex nothing is kept. -/
namespace Go.Proofs.YtnpaijbkhmnfpaaGreat
open Go.RowKit Go.Sort

theorem wp_region_sinkL {P : Program} {Q : Exit → Act → World → Prop} (is ex : List Nat) (m : Nat) (ps : List Oper) {id : Nat} {a : Act} {w : World} {l : List Oper} (hm : P.follows .mixedOrders = true) (hs : Region.noSelect l.toArray = true)
    (hn : (l.length == ps.length + m) = true) (hi : is.length = ps.length) (hps : ps.map some = is.map fun i => l[i]?) (hp : ps.all plainOp = true)
    (hB : pickUp .any l.toArray ex is (Array.replicate l.length false) = true) (hQ : ∀ c a d v w, Q (.panic c) (Act.put a d v) w → Q (.panic c) a w)
    (h : wpQuiet P l.toArray (fun w' => ∃ p : Regrown, w' = grow (redrawn w p.d) p.os) (fun a' => ∀ w', (∃ p : Regrown, w' = grow (redrawn w p.d) p.os) → wpAnyG P .any l.toArray Q (fun w' => ∃ p : Regrown, w' = grow (redrawn w p.d) p.os) ex m (picked is (Array.replicate l.length false)) a' w') ps a) :
    (Code.region id l.toArray true).wp P Q a w := by
  refine wp_region_pick (fun w' => ∃ p : Regrown, w' = grow (redrawn w p.d) p.os) is ex m ps hm hs hn hi (fun j hj => ?_) hp hB hQ ⟨⟨w.drawn + 1, #[]⟩, by rw [grow_empty]; rfl⟩ h
  have e := congrArg (fun z => z[j]?) hps
  simp only [List.getElem?_map] at e
  rw [List.getElem?_eq_getElem hj] at e ⊢
  simp only [Option.map_some] at e
  have hj' : j < is.length := by omega
  rw [List.getElem?_eq_getElem hj'] at e ⊢
  simp only [Option.map_some, Option.some.injEq] at e
  simp only [Option.bind_some, List.getElem?_toArray]
  exact e
theorem Closed.step {md : Region.Mode} {ops : Array Oper} {listed : Array Bool} {j : Nat} (h : Closed md ops listed) (hr : (Region.ready md ops listed).contains j = true) : Closed md ops (listed.setIfInBounds j true) := h.set (by simpa using hr)
/-- the same, the operations read off the region -/
theorem wp_region_sinkF {P : Program} {Q : Exit → Act → World → Prop} (is ex : List Nat) (m : Nat) {id : Nat} {a : Act} {w : World} {l : List Oper} (hm : P.follows .mixedOrders = true) (hs : Region.noSelect l.toArray = true)
    (hn : (l.length == (is.filterMap fun i => l[i]?).length + m) = true) (hi : is.length = (is.filterMap fun i => l[i]?).length) (hps : (is.filterMap fun i => l[i]?).map some = is.map fun i => l[i]?) (hp : (is.filterMap fun i => l[i]?).all plainOp = true)
    (hB : pickUp .any l.toArray ex is (Array.replicate l.length false) = true) (hQ : ∀ c a d v w, Q (.panic c) (Act.put a d v) w → Q (.panic c) a w)
    (h : wpQuiet P l.toArray (fun w' => ∃ p : Regrown, w' = grow (redrawn w p.d) p.os) (fun a' => ∀ w', (∃ p : Regrown, w' = grow (redrawn w p.d) p.os) → wpAnyG P .any l.toArray Q (fun w' => ∃ p : Regrown, w' = grow (redrawn w p.d) p.os) ex m (picked is (Array.replicate l.length false)) a' w') (is.filterMap fun i => l[i]?) a) :
    (Code.region id l.toArray true).wp P Q a w := wp_region_sinkL is ex m _ hm hs hn hi hps hp hB hQ h
end Go.Proofs.YtnpaijbkhmnfpaaGreat
