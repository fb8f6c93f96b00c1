/- Texts put together: RHe, RWr, RefF, PushRow, RefS. -/
import Derived.Test.YtnpaijbkhmnfpaaGreatKat
import Derived.Test.YtnpaijbkhmnfpaaGreatKas
import Derived.Test.YtnpaijbkhmnfpaaGreatKad
import Derived.Test.YtnpaijbkhmnfpaaGreatKar
import Derived.Test.YtnpaijbkhmnfpaaGreatKah
import Derived.Test.YtnpaijbkhmnfpaaGreatKab
import Derived.Laws.AppendOwnNone
import Derived.Deep.DeepCutAuto

/- Ours: the reference's fault (switchyardref15). -/
namespace Go.Proofs.YtnpaijbkhmnfpaaGreat
open Go.RowKit Go.Maps

/-- a hart's value, whoever made it; no bytes behind nil -/
def HvN (G : Nat → Prop) (w : World) (H : Hs) (V : Value) : Prop := ∃ pS cS pH cH pL cL, V = .agg (stA H.st H.pc H.R (.slice pS H.S.length cS) (.slice pH H.hv.length cH) (.slice pL H.L.length cL)) ∧ PRow w pS H.S ∧ Row w pH H.hv ∧ LRow w pL H.L ∧ (pH = none → cH = 0) ∧ Off G pS H.S.length ∧ Off G pH H.hv.length
theorem HvN.hv {G : Nat → Prop} {w : World} {H : Hs} {V : Value} (k : HvN G w H V) : HvV w H V := by
  obtain ⟨pS, cS, pH, cH, pL, cL, rfl, h1, h2, h3, -, -, -⟩ := k
  exact ⟨pS, cS, pH, cH, pL, cL, rfl, h1, h2, h3⟩
theorem HvN.below {G : Nat → Prop} {w w' : World} {H : Hs} {V : Value} (k : HvN G w H V) (hb : Below w.heap.size w w') : HvN G w' H V := by
  obtain ⟨pS, cS, pH, cH, pL, cL, rfl, h1, h2, h3, h4⟩ := k
  exact ⟨pS, cS, pH, cH, pL, cL, rfl, h1.below hb, h2.below hb, h3.below hb, h4⟩
/-- the list of the one event of a fault -/
theorem EOwn.at (w : World) (q : Ev) {w' : World} (hb : Blk w' w.heap.size 41 (evA q)) : EOwn 41 w' w.heap.size (.slice (some ⟨w.heap.size, 0, none⟩) 1 1) [q] :=
  ⟨rfl, .inr ⟨w.heap.size, 1, evA q, rfl, Nat.le_refl _, hb, Nat.le_refl _, by unfold maxLen; decide, rfl, rfl⟩⟩
set_option maxHeartbeats 4000000 in
set_option maxRecDepth 8000 in
theorem rfault_at (id e st : Int) (pc : Nat) (r0 r1 r2 r3 r4 r5 r6 r7 : Int) (pS pH pL : Option Addr) (nS cS nH cH nL cL : Nat) (w : World) (hpc : pc ≤ 4294967295) :
    Calls Tryz.prog 56 #[.agg #[.int .u8 st, .int .u32 pc, .int .u32 r0, .int .u32 r1, .int .u32 r2, .int .u32 r3, .int .u32 r4, .int .u32 r5, .int .u32 r6, .int .u32 r7, .slice pS nS cS, .slice pH nH cH, .slice pL nL cL], .int .i64 id, .int .i64 e] w fun E w' => ∃ v, E = .returned (.tuple #[.agg #[.int .u8 2, .int .u32 pc, .int .u32 r0, .int .u32 r1, .int .u32 r2, .int .u32 r3, .int .u32 r4, .int .u32 r5, .int .u32 r6, .int .u32 r7, .slice pS nS cS, .slice pH nH cH, .slice pL nL cL], v]) ∧ EOwn 41 w' w.heap.size v [⟨4, id, pc, 0, e⟩] ∧ Below w.heap.size w w' := by
  have HA0 := Hid.in ((Blk.new w 50 #[.int .u8 st, .int .u32 pc, .int .u32 r0, .int .u32 r1, .int .u32 r2, .int .u32 r3, .int .u32 r4, .int .u32 r5, .int .u32 r6, .int .u32 r7, .slice pS nS cS, .slice pH nH cH, .slice pL nL cL]).grow (new_alloc _ (.cells #[.int .u8 0, .int .u32 0, .int .u32 0, .int .u32 0, .int .u32 0, .int .u32 0, .int .u32 0, .int .u32 0, .int .u32 0, .int .u32 0, .slice none 0 0, .slice none 0 0, .slice none 0 0] 50)))
  have HZ0 := Hid.in (blk_two w 50 50 #[.int .u8 st, .int .u32 pc, .int .u32 r0, .int .u32 r1, .int .u32 r2, .int .u32 r3, .int .u32 r4, .int .u32 r5, .int .u32 r6, .int .u32 r7, .slice pS nS cS, .slice pH nH cH, .slice pL nL cL] #[.int .u8 0, .int .u32 0, .int .u32 0, .int .u32 0, .int .u32 0, .int .u32 0, .int .u32 0, .int .u32 0, .int .u32 0, .int .u32 0, .slice none 0 0, .slice none 0 0, .slice none 0 0])
  have HN := Hid.in (below_alloc (new_alloc w (.cells #[.int .u8 st, .int .u32 pc, .int .u32 r0, .int .u32 r1, .int .u32 r2, .int .u32 r3, .int .u32 r4, .int .u32 r5, .int .u32 r6, .int .u32 r7, .slice pS nS cS, .slice pH nH cH, .slice pL nL cL] 50)) (.cells #[.int .u8 0, .int .u32 0, .int .u32 0, .int .u32 0, .int .u32 0, .int .u32 0, .int .u32 0, .int .u32 0, .int .u32 0, .int .u32 0, .slice none 0 0, .slice none 0 0, .slice none 0 0] 50))
  have hw64 : IntKind.i64.wrap (pc : Int) = pc := by rw [IntKind.wrap_i64]; omega
  go_enter Tryz.func56, Tryz.ntmps56
  go_upto_region 1 with fail
  generalize (w.alloc (.cells #[.int .u8 st, .int .u32 pc, .int .u32 r0, .int .u32 r1, .int .u32 r2, .int .u32 r3, .int .u32 r4, .int .u32 r5, .int .u32 r6, .int .u32 r7, .slice pS nS cS, .slice pH nH cH, .slice pL nL cL] 50)).alloc (.cells #[.int .u8 0, .int .u32 0, .int .u32 0, .int .u32 0, .int .u32 0, .int .u32 0, .int .u32 0, .int .u32 0, .int .u32 0, .int .u32 0, .slice none 0 0, .slice none 0 0, .slice none 0 0] 50) = w1 at *
  have c0 : w1.cell? ⟨w.heap.size, 0, none⟩ = some (.int .u8 st) := HA0.out.cell 0
  have f0 : w1.frozen? ⟨w.heap.size, 0, none⟩ = false := HA0.out.free 0
  have HA2 : Hid (Blk (w1.setCell ⟨w.heap.size, 0, none⟩ (.int .u8 2)) w.heap.size 50 #[.int .u8 2, .int .u32 pc, .int .u32 r0, .int .u32 r1, .int .u32 r2, .int .u32 r3, .int .u32 r4, .int .u32 r5, .int .u32 r6, .int .u32 r7, .slice pS nS cS, .slice pH nH cH, .slice pL nL cL]) := HA0.out.set 0 (.int .u8 2)
  have HZ2 := Hid.in (HZ0.out.other (k := w.heap.size) (by omega) 0 (.int .u8 2))
  have HG2 := Hid.in (HN.out.grown (grown_setCell w1 w.heap.size 0 (.int .u8 2)) HN.out.size (fun k hk => by cases hk; exact Nat.le_refl _))
  go_upto_region 2 with fail
  generalize w1.setCell ⟨w.heap.size, 0, none⟩ (.int .u8 2) = w2 at *
  clear c0 f0 HA0 HZ0 HN
  refine wp_region_noPanic ?_
  refine wp_region_G (fun W => Blk W w.heap.size 50 #[.int .u8 2, .int .u32 pc, .int .u32 r0, .int .u32 r1, .int .u32 r2, .int .u32 r3, .int .u32 r4, .int .u32 r5, .int .u32 r6, .int .u32 r7, .slice pS nS cS, .slice pH nH cH, .slice pL nL cL]) [] (by kernel_rfl) ?_
  have HW2 : Hid (Blk w2.drew w.heap.size 50 #[.int .u8 2, .int .u32 pc, .int .u32 r0, .int .u32 r1, .int .u32 r2, .int .u32 r3, .int .u32 r4, .int .u32 r5, .int .u32 r6, .int .u32 r7, .slice pS nS cS, .slice pH nH cH, .slice pL nL cL]) := HA2.out
  refine wpAnyG_takeS (i := 0) (v := .agg #[.int .u8 2, .int .u32 pc, .int .u32 r0, .int .u32 r1, .int .u32 r2, .int .u32 r3, .int .u32 r4, .int .u32 r5, .int .u32 r6, .int .u32 r7, .slice pS nS cS, .slice pH nH cH, .slice pL nL cL]) rfl (by kernel_rfl) (by kernel_rfl) (by kernel_rfl) (by kernel_rfl) (fun _ _ _ _ _ h => h) (Closed.start _) (by kernel_rfl) HW2.out (fun W hW => by
    have c0 : W.cell? ⟨w.heap.size, 0, none⟩ = some (.int .u8 2) := hW.cell 0
    have c1 : W.cell? ⟨w.heap.size, 1, none⟩ = some (.int .u32 pc) := hW.cell 1
    have c2 : W.cell? ⟨w.heap.size, 2, none⟩ = some (.int .u32 r0) := hW.cell 2
    have c3 : W.cell? ⟨w.heap.size, 3, none⟩ = some (.int .u32 r1) := hW.cell 3
    have c4 : W.cell? ⟨w.heap.size, 4, none⟩ = some (.int .u32 r2) := hW.cell 4
    have c5 : W.cell? ⟨w.heap.size, 5, none⟩ = some (.int .u32 r3) := hW.cell 5
    have c6 : W.cell? ⟨w.heap.size, 6, none⟩ = some (.int .u32 r4) := hW.cell 6
    have c7 : W.cell? ⟨w.heap.size, 7, none⟩ = some (.int .u32 r5) := hW.cell 7
    have c8 : W.cell? ⟨w.heap.size, 8, none⟩ = some (.int .u32 r6) := hW.cell 8
    have c9 : W.cell? ⟨w.heap.size, 9, none⟩ = some (.int .u32 r7) := hW.cell 9
    have c10 : W.cell? ⟨w.heap.size, 10, none⟩ = some (.slice pS nS cS) := hW.cell 10
    have c11 : W.cell? ⟨w.heap.size, 11, none⟩ = some (.slice pH nH cH) := hW.cell 11
    have c12 : W.cell? ⟨w.heap.size, 12, none⟩ = some (.slice pL nL cL) := hW.cell 12
    clear hW
    go_simp) ?_
  refine wpAnyG_takeW (i := 1) (v := .int .i64 id) rfl (by kernel_rfl) (by kernel_rfl) (by kernel_rfl) (fun _ _ _ h => h) ((Closed.start _).step (j := 0) (by kernel_rfl)) (by kernel_rfl) (fun W => by go_simp) ?_
  refine wpAnyG_takeW (i := 2) (v := .pointer (some ⟨w.heap.size, 1, none⟩)) rfl (by kernel_rfl) (by kernel_rfl) (by kernel_rfl) (fun _ _ _ h => h) (((Closed.start _).step (j := 0) (by kernel_rfl)).step (j := 1) (by kernel_rfl)) (by kernel_rfl) (fun W => by go_simp) ?_
  refine wpAnyG_takeS (i := 3) (v := .int .u32 pc) rfl (by kernel_rfl) (by kernel_rfl) (by kernel_rfl) (by kernel_rfl) (fun _ _ _ _ _ h => h) ((((Closed.start _).step (j := 0) (by kernel_rfl)).step (j := 1) (by kernel_rfl)).step (j := 2) (by kernel_rfl)) (by kernel_rfl) HW2.out (fun W hW => by
    have hcc : W.cell? ⟨w.heap.size, 1, none⟩ = some (.int .u32 pc) := hW.cell 1
    clear hW
    go_simp) ?_
  refine wpAnyG_takeW (i := 4) (v := .int .i64 pc) rfl (by kernel_rfl) (by kernel_rfl) (by kernel_rfl) (fun _ _ _ h => h) (((((Closed.start _).step (j := 0) (by kernel_rfl)).step (j := 1) (by kernel_rfl)).step (j := 2) (by kernel_rfl)).step (j := 3) (by kernel_rfl)) (by kernel_rfl) (fun W => by go_simp) ?_
  refine wpAnyG_takeW (i := 5) (v := .int .i64 e) rfl (by kernel_rfl) (by kernel_rfl) (by kernel_rfl) (fun _ _ _ h => h) ((((((Closed.start _).step (j := 0) (by kernel_rfl)).step (j := 1) (by kernel_rfl)).step (j := 2) (by kernel_rfl)).step (j := 3) (by kernel_rfl)).step (j := 4) (by kernel_rfl)) (by kernel_rfl) (fun W => by go_simp) ?_
  refine wpAnyG_takeW (i := 6) (v := .agg #[.int .u8 4, .int .i64 0, .int .i64 id, .int .i64 pc, .int .u8 0, .int .i64 0, .int .i64 e]) rfl (by kernel_rfl) (by kernel_rfl) (by kernel_rfl) (fun _ _ _ h => h) (((((((Closed.start _).step (j := 0) (by kernel_rfl)).step (j := 1) (by kernel_rfl)).step (j := 2) (by kernel_rfl)).step (j := 3) (by kernel_rfl)).step (j := 4) (by kernel_rfl)).step (j := 5) (by kernel_rfl)) (by kernel_rfl) (fun W => by go_simp) ?_
  have HZ3 : Hid (Blk w2.drew (w.heap.size + 1) 50 #[.int .u8 0, .int .u32 0, .int .u32 0, .int .u32 0, .int .u32 0, .int .u32 0, .int .u32 0, .int .u32 0, .int .u32 0, .int .u32 0, .slice none 0 0, .slice none 0 0, .slice none 0 0]) := HZ2.out
  have HG3 : Hid (Below w.heap.size w w2.drew) := below_draws HG2.out 1
  generalize w2.drew = w3 at *
  clear HA2 HZ2 HG2
  refine wpAnyG_two (i := 7) (j := 8) (by kernel_rfl) rfl rfl (fun K hK => ?_) (fun K hK => ?_)
  · go_simp
    refine hK.out _ _ (HW2.out.grow (new_alloc w3 _)) (fun _ => ?_)
    clear hK K
    have HW4 := Hid.in (HW2.out.grow (new_alloc w3 (.cells #[.int .u8 4, .int .i64 0, .int .i64 id, .int .i64 pc, .int .u8 0, .int .i64 0, .int .i64 e] 41)))
    have HZ := Hid.in (HZ3.out.grow (new_alloc w3 (.cells #[.int .u8 4, .int .i64 0, .int .i64 id, .int .i64 pc, .int .u8 0, .int .i64 0, .int .i64 e] 41)))
    have HE := Hid.in (Blk.new w3 41 #[.int .u8 4, .int .i64 0, .int .i64 id, .int .i64 pc, .int .u8 0, .int .i64 0, .int .i64 e])
    have HG4 := Hid.in (below_alloc HG3.out (.cells #[.int .u8 4, .int .i64 0, .int .i64 id, .int .i64 pc, .int .u8 0, .int .i64 0, .int .i64 e] 41))
    generalize w3.alloc (.cells #[.int .u8 4, .int .i64 0, .int .i64 id, .int .i64 pc, .int .u8 0, .int .i64 0, .int .i64 e] 41) = w4 at *
    have z0 : w4.cell? ⟨w.heap.size + 1, 0, none⟩ = some (.int .u8 0) := HZ.out.cell 0
    have z1 : w4.cell? ⟨w.heap.size + 1, 1, none⟩ = some (.int .u32 0) := HZ.out.cell 1
    have z2 : w4.cell? ⟨w.heap.size + 1, 2, none⟩ = some (.int .u32 0) := HZ.out.cell 2
    have z3 : w4.cell? ⟨w.heap.size + 1, 3, none⟩ = some (.int .u32 0) := HZ.out.cell 3
    have z4 : w4.cell? ⟨w.heap.size + 1, 4, none⟩ = some (.int .u32 0) := HZ.out.cell 4
    have z5 : w4.cell? ⟨w.heap.size + 1, 5, none⟩ = some (.int .u32 0) := HZ.out.cell 5
    have z6 : w4.cell? ⟨w.heap.size + 1, 6, none⟩ = some (.int .u32 0) := HZ.out.cell 6
    have z7 : w4.cell? ⟨w.heap.size + 1, 7, none⟩ = some (.int .u32 0) := HZ.out.cell 7
    have z8 : w4.cell? ⟨w.heap.size + 1, 8, none⟩ = some (.int .u32 0) := HZ.out.cell 8
    have z9 : w4.cell? ⟨w.heap.size + 1, 9, none⟩ = some (.int .u32 0) := HZ.out.cell 9
    have z10 : w4.cell? ⟨w.heap.size + 1, 10, none⟩ = some (.slice none 0 0) := HZ.out.cell 10
    have z11 : w4.cell? ⟨w.heap.size + 1, 11, none⟩ = some (.slice none 0 0) := HZ.out.cell 11
    have z12 : w4.cell? ⟨w.heap.size + 1, 12, none⟩ = some (.slice none 0 0) := HZ.out.cell 12
    have zf : ∀ i, w4.frozen? ⟨w.heap.size + 1, i, none⟩ = false := HZ.out.free
    have HB := Hid.in (st13_blk w4 (w.heap.size + 1) (.int .u8 2) (.int .u32 pc) (.int .u32 r0) (.int .u32 r1) (.int .u32 r2) (.int .u32 r3) (.int .u32 r4) (.int .u32 r5) (.int .u32 r6) (.int .u32 r7) (.slice pS nS cS) (.slice pH nH cH) (.slice pL nL cL) HZ.out rfl)
    have HG := Hid.in (st13_grown w4 (w.heap.size + 1) (.int .u8 2) (.int .u32 pc) (.int .u32 r0) (.int .u32 r1) (.int .u32 r2) (.int .u32 r3) (.int .u32 r4) (.int .u32 r5) (.int .u32 r6) (.int .u32 r7) (.slice pS nS cS) (.slice pH nH cH) (.slice pL nL cL))
    have HW5 := Hid.in (HW4.out.kept HG.out (by intro e; injection e with e; omega))
    refine wpAnyG_one (i := 8) (by kernel_rfl) rfl (fun K hK => ?_)
    go_simp
    refine hK.out _ _ HW5.out (fun _ => ?_)
    clear hK K
    generalize (((((((((((((w4.setCell ⟨w.heap.size + 1, 0, none⟩ (.int .u8 2)).setCell ⟨w.heap.size + 1, 1, none⟩ (.int .u32 pc)).setCell ⟨w.heap.size + 1, 2, none⟩ (.int .u32 r0)).setCell ⟨w.heap.size + 1, 3, none⟩ (.int .u32 r1)).setCell ⟨w.heap.size + 1, 4, none⟩ (.int .u32 r2)).setCell ⟨w.heap.size + 1, 5, none⟩ (.int .u32 r3)).setCell ⟨w.heap.size + 1, 6, none⟩ (.int .u32 r4)).setCell ⟨w.heap.size + 1, 7, none⟩ (.int .u32 r5)).setCell ⟨w.heap.size + 1, 8, none⟩ (.int .u32 r6)).setCell ⟨w.heap.size + 1, 9, none⟩ (.int .u32 r7)).setCell ⟨w.heap.size + 1, 10, none⟩ (.slice pS nS cS)).setCell ⟨w.heap.size + 1, 11, none⟩ (.slice pH nH cH)).setCell ⟨w.heap.size + 1, 12, none⟩ (.slice pL nL cL)) = w5 at *
    have HE5 := Hid.in (HE.out.kept HG.out (by intro e; injection e with e; have := HZ3.out.lt; omega))
    have HG5 := Hid.in (HG4.out.grown HG.out HG4.out.size (fun k hk => by injection hk with hk; omega))
    replace HW4 := HW5
    have HB5 := HB
    refine wpAnyG_one (i := 9) (by kernel_rfl) rfl (fun K hK => ?_)
    go_simp
    refine hK.out _ _ HW4.out (fun _ => ?_)
    clear hK K
    refine wpAnyG_done (by kernel_rfl) ?_ _
    refine NoPanic.normal ?_
    go_wp2_with fail
    have hld := HB5.out.load 50 _ Tryz.underlying50 rfl Tryz.sz50
    exact bodyPost_ret (v := .tuple #[.agg #[.int .u8 2, .int .u32 pc, .int .u32 r0, .int .u32 r1, .int .u32 r2, .int .u32 r3, .int .u32 r4, .int .u32 r5, .int .u32 r6, .int .u32 r7, .slice pS nS cS, .slice pH nH cH, .slice pL nL cL], .slice (some ⟨w3.heap.size, 0, none⟩) 1 1]) (by simp [results, Tryz.results56, asAddr, hld]) rfl ⟨_, rfl, (EOwn.at w3 _ HE5.out).lower HG3.out.size, HG5.out⟩
  · have HZ := HZ3
    have z0 : w3.cell? ⟨w.heap.size + 1, 0, none⟩ = some (.int .u8 0) := HZ.out.cell 0
    have z1 : w3.cell? ⟨w.heap.size + 1, 1, none⟩ = some (.int .u32 0) := HZ.out.cell 1
    have z2 : w3.cell? ⟨w.heap.size + 1, 2, none⟩ = some (.int .u32 0) := HZ.out.cell 2
    have z3 : w3.cell? ⟨w.heap.size + 1, 3, none⟩ = some (.int .u32 0) := HZ.out.cell 3
    have z4 : w3.cell? ⟨w.heap.size + 1, 4, none⟩ = some (.int .u32 0) := HZ.out.cell 4
    have z5 : w3.cell? ⟨w.heap.size + 1, 5, none⟩ = some (.int .u32 0) := HZ.out.cell 5
    have z6 : w3.cell? ⟨w.heap.size + 1, 6, none⟩ = some (.int .u32 0) := HZ.out.cell 6
    have z7 : w3.cell? ⟨w.heap.size + 1, 7, none⟩ = some (.int .u32 0) := HZ.out.cell 7
    have z8 : w3.cell? ⟨w.heap.size + 1, 8, none⟩ = some (.int .u32 0) := HZ.out.cell 8
    have z9 : w3.cell? ⟨w.heap.size + 1, 9, none⟩ = some (.int .u32 0) := HZ.out.cell 9
    have z10 : w3.cell? ⟨w.heap.size + 1, 10, none⟩ = some (.slice none 0 0) := HZ.out.cell 10
    have z11 : w3.cell? ⟨w.heap.size + 1, 11, none⟩ = some (.slice none 0 0) := HZ.out.cell 11
    have z12 : w3.cell? ⟨w.heap.size + 1, 12, none⟩ = some (.slice none 0 0) := HZ.out.cell 12
    have zf : ∀ i, w3.frozen? ⟨w.heap.size + 1, i, none⟩ = false := HZ.out.free
    have HB := Hid.in (st13_blk w3 (w.heap.size + 1) (.int .u8 2) (.int .u32 pc) (.int .u32 r0) (.int .u32 r1) (.int .u32 r2) (.int .u32 r3) (.int .u32 r4) (.int .u32 r5) (.int .u32 r6) (.int .u32 r7) (.slice pS nS cS) (.slice pH nH cH) (.slice pL nL cL) HZ.out rfl)
    have HG := Hid.in (st13_grown w3 (w.heap.size + 1) (.int .u8 2) (.int .u32 pc) (.int .u32 r0) (.int .u32 r1) (.int .u32 r2) (.int .u32 r3) (.int .u32 r4) (.int .u32 r5) (.int .u32 r6) (.int .u32 r7) (.slice pS nS cS) (.slice pH nH cH) (.slice pL nL cL))
    have HW5 := Hid.in (HW2.out.kept HG.out (by intro e; injection e with e; omega))
    go_simp
    refine hK.out _ _ HW5.out (fun _ => ?_)
    clear hK K
    have hsz : ((((((((((((((w3.setCell ⟨w.heap.size + 1, 0, none⟩ (.int .u8 2)).setCell ⟨w.heap.size + 1, 1, none⟩ (.int .u32 pc)).setCell ⟨w.heap.size + 1, 2, none⟩ (.int .u32 r0)).setCell ⟨w.heap.size + 1, 3, none⟩ (.int .u32 r1)).setCell ⟨w.heap.size + 1, 4, none⟩ (.int .u32 r2)).setCell ⟨w.heap.size + 1, 5, none⟩ (.int .u32 r3)).setCell ⟨w.heap.size + 1, 6, none⟩ (.int .u32 r4)).setCell ⟨w.heap.size + 1, 7, none⟩ (.int .u32 r5)).setCell ⟨w.heap.size + 1, 8, none⟩ (.int .u32 r6)).setCell ⟨w.heap.size + 1, 9, none⟩ (.int .u32 r7)).setCell ⟨w.heap.size + 1, 10, none⟩ (.slice pS nS cS)).setCell ⟨w.heap.size + 1, 11, none⟩ (.slice pH nH cH)).setCell ⟨w.heap.size + 1, 12, none⟩ (.slice pL nL cL))).heap.size = w3.heap.size := by simp
    generalize (((((((((((((w3.setCell ⟨w.heap.size + 1, 0, none⟩ (.int .u8 2)).setCell ⟨w.heap.size + 1, 1, none⟩ (.int .u32 pc)).setCell ⟨w.heap.size + 1, 2, none⟩ (.int .u32 r0)).setCell ⟨w.heap.size + 1, 3, none⟩ (.int .u32 r1)).setCell ⟨w.heap.size + 1, 4, none⟩ (.int .u32 r2)).setCell ⟨w.heap.size + 1, 5, none⟩ (.int .u32 r3)).setCell ⟨w.heap.size + 1, 6, none⟩ (.int .u32 r4)).setCell ⟨w.heap.size + 1, 7, none⟩ (.int .u32 r5)).setCell ⟨w.heap.size + 1, 8, none⟩ (.int .u32 r6)).setCell ⟨w.heap.size + 1, 9, none⟩ (.int .u32 r7)).setCell ⟨w.heap.size + 1, 10, none⟩ (.slice pS nS cS)).setCell ⟨w.heap.size + 1, 11, none⟩ (.slice pH nH cH)).setCell ⟨w.heap.size + 1, 12, none⟩ (.slice pL nL cL)) = w4 at *
    have HG4 := Hid.in (HG3.out.grown HG.out HG3.out.size (fun k hk => by injection hk with hk; omega))
    refine wpAnyG_one (i := 7) (by kernel_rfl) rfl (fun K hK => ?_)
    go_simp
    refine hK.out _ _ (HW5.out.grow (new_alloc w4 _)) (fun _ => ?_)
    clear hK K
    have HW4 := Hid.in (HW5.out.grow (new_alloc w4 (.cells #[.int .u8 4, .int .i64 0, .int .i64 id, .int .i64 pc, .int .u8 0, .int .i64 0, .int .i64 e] 41)))
    have HB5 := Hid.in (HB.out.grow (new_alloc w4 (.cells #[.int .u8 4, .int .i64 0, .int .i64 id, .int .i64 pc, .int .u8 0, .int .i64 0, .int .i64 e] 41)))
    have HE5 : Hid (Blk (w4.alloc (.cells #[.int .u8 4, .int .i64 0, .int .i64 id, .int .i64 pc, .int .u8 0, .int .i64 0, .int .i64 e] 41)) w3.heap.size 41 #[.int .u8 4, .int .i64 0, .int .i64 id, .int .i64 pc, .int .u8 0, .int .i64 0, .int .i64 e]) := by rw [← hsz]; exact Blk.new w4 41 _
    have HG5 := Hid.in (below_alloc HG4.out (.cells #[.int .u8 4, .int .i64 0, .int .i64 id, .int .i64 pc, .int .u8 0, .int .i64 0, .int .i64 e] 41))

    clear hsz
    generalize w4.alloc (.cells #[.int .u8 4, .int .i64 0, .int .i64 id, .int .i64 pc, .int .u8 0, .int .i64 0, .int .i64 e] 41) = w5 at *
    refine wpAnyG_one (i := 9) (by kernel_rfl) rfl (fun K hK => ?_)
    go_simp
    refine hK.out _ _ HW4.out (fun _ => ?_)
    clear hK K
    refine wpAnyG_done (by kernel_rfl) ?_ _
    refine NoPanic.normal ?_
    go_wp2_with fail
    have hld := HB5.out.load 50 _ Tryz.underlying50 rfl Tryz.sz50
    exact bodyPost_ret (v := .tuple #[.agg #[.int .u8 2, .int .u32 pc, .int .u32 r0, .int .u32 r1, .int .u32 r2, .int .u32 r3, .int .u32 r4, .int .u32 r5, .int .u32 r6, .int .u32 r7, .slice pS nS cS, .slice pH nH cH, .slice pL nL cL], .slice (some ⟨w3.heap.size, 0, none⟩) 1 1]) (by simp [results, Tryz.results56, asAddr, hld]) rfl ⟨_, rfl, (EOwn.at w3 _ HE5.out).lower HG3.out.size, HG5.out⟩
set_option maxHeartbeats 400000 in
theorem rnewN_any (G : Nat → Prop) (pc : Nat) (w : World) : Calls Tryz.prog 22 #[.int .u32 pc] w fun e w' => ∃ V, e = .returned V ∧ HvN G w' (newH pc) V ∧ Below w.heap.size w w' := by
  have HZ := Hid.in (Blk.new w 50 #[.int .u8 0, .int .u32 0, .int .u32 0, .int .u32 0, .int .u32 0, .int .u32 0, .int .u32 0, .int .u32 0, .int .u32 0, .int .u32 0, .slice none 0 0, .slice none 0 0, .slice none 0 0])
  have HN := Hid.in (new_alloc w (.cells #[.int .u8 0, .int .u32 0, .int .u32 0, .int .u32 0, .int .u32 0, .int .u32 0, .int .u32 0, .int .u32 0, .int .u32 0, .int .u32 0, .slice none 0 0, .slice none 0 0, .slice none 0 0] 50))
  go_enter Tryz.func22, Tryz.ntmps22
  go_upto_region 1 with fail
  generalize w.alloc (.cells #[.int .u8 0, .int .u32 0, .int .u32 0, .int .u32 0, .int .u32 0, .int .u32 0, .int .u32 0, .int .u32 0, .int .u32 0, .int .u32 0, .slice none 0 0, .slice none 0 0, .slice none 0 0] 50) = w1 at *
  have z0 : w1.cell? ⟨w.heap.size, 0, none⟩ = some (.int .u8 0) := HZ.out.cell 0
  have z1 : w1.cell? ⟨w.heap.size, 1, none⟩ = some (.int .u32 0) := HZ.out.cell 1
  have z2 : w1.cell? ⟨w.heap.size, 2, none⟩ = some (.int .u32 0) := HZ.out.cell 2
  have z3 : w1.cell? ⟨w.heap.size, 3, none⟩ = some (.int .u32 0) := HZ.out.cell 3
  have z4 : w1.cell? ⟨w.heap.size, 4, none⟩ = some (.int .u32 0) := HZ.out.cell 4
  have z5 : w1.cell? ⟨w.heap.size, 5, none⟩ = some (.int .u32 0) := HZ.out.cell 5
  have z6 : w1.cell? ⟨w.heap.size, 6, none⟩ = some (.int .u32 0) := HZ.out.cell 6
  have z7 : w1.cell? ⟨w.heap.size, 7, none⟩ = some (.int .u32 0) := HZ.out.cell 7
  have z8 : w1.cell? ⟨w.heap.size, 8, none⟩ = some (.int .u32 0) := HZ.out.cell 8
  have z9 : w1.cell? ⟨w.heap.size, 9, none⟩ = some (.int .u32 0) := HZ.out.cell 9
  have z10 : w1.cell? ⟨w.heap.size, 10, none⟩ = some (.slice none 0 0) := HZ.out.cell 10
  have z11 : w1.cell? ⟨w.heap.size, 11, none⟩ = some (.slice none 0 0) := HZ.out.cell 11
  have z12 : w1.cell? ⟨w.heap.size, 12, none⟩ = some (.slice none 0 0) := HZ.out.cell 12
  have zf : ∀ i, w1.frozen? ⟨w.heap.size, i, none⟩ = false := HZ.out.free
  have HB := Hid.in (st13_blk w1 w.heap.size (.int .u8 0) (.int .u32 pc) (.int .u32 0) (.int .u32 0) (.int .u32 0) (.int .u32 0) (.int .u32 0) (.int .u32 0) (.int .u32 0) (.int .u32 0) (.slice none 0 0) (.slice none 0 0) (.slice none 0 0) HZ.out rfl)
  have HG := Hid.in (st13_grown w1 w.heap.size (.int .u8 0) (.int .u32 pc) (.int .u32 0) (.int .u32 0) (.int .u32 0) (.int .u32 0) (.int .u32 0) (.int .u32 0) (.int .u32 0) (.int .u32 0) (.slice none 0 0) (.slice none 0 0) (.slice none 0 0))
  go_wp2_with fail
  generalize (((((((((((((w1.setCell ⟨w.heap.size, 0, none⟩ (.int .u8 0)).setCell ⟨w.heap.size, 1, none⟩ (.int .u32 pc)).setCell ⟨w.heap.size, 2, none⟩ (.int .u32 0)).setCell ⟨w.heap.size, 3, none⟩ (.int .u32 0)).setCell ⟨w.heap.size, 4, none⟩ (.int .u32 0)).setCell ⟨w.heap.size, 5, none⟩ (.int .u32 0)).setCell ⟨w.heap.size, 6, none⟩ (.int .u32 0)).setCell ⟨w.heap.size, 7, none⟩ (.int .u32 0)).setCell ⟨w.heap.size, 8, none⟩ (.int .u32 0)).setCell ⟨w.heap.size, 9, none⟩ (.int .u32 0)).setCell ⟨w.heap.size, 10, none⟩ (.slice none 0 0)).setCell ⟨w.heap.size, 11, none⟩ (.slice none 0 0)).setCell ⟨w.heap.size, 12, none⟩ (.slice none 0 0)) = w2 at *
  have hld := HB.out.load 50 _ Tryz.underlying50 rfl Tryz.sz50
  have hbb := HN.out.grown HG.out HN.out.size (fun k hk => by cases hk; exact Nat.le_refl _)
  exact bodyPost_ret (v := .agg #[.int .u8 0, .int .u32 pc, .int .u32 0, .int .u32 0, .int .u32 0, .int .u32 0, .int .u32 0, .int .u32 0, .int .u32 0, .int .u32 0, .slice none 0 0, .slice none 0 0, .slice none 0 0]) (by simp [results, Tryz.results22, asAddr, hld]) rfl ⟨_, rfl, ⟨none, 0, none, 0, none, 0, rfl, fun h => absurd h (Nat.lt_irrefl 0), fun h => absurd h (Nat.lt_irrefl 0), fun h => absurd h (Nat.lt_irrefl 0), fun _ => rfl, Off.zero _ _, Off.zero _ _⟩, hbb⟩
set_option maxHeartbeats 1000000 in
theorem rsyncN_any {G : Nat → Prop} {H : Hs} {V : Value} (w : World) (lR : H.R.length = 8) (k : HvN G w H V) : Calls Tryz.prog 25 #[V] w fun e w' => ∃ V', e = .returned (.tuple #[V', .int .i64 H.L.length]) ∧ HvN G w' { H with hv := [], L := [] } V' ∧ Below w.heap.size w w' := by
  obtain ⟨st, pc, R, S, hv, L⟩ := H
  obtain ⟨pS, cS, pH, cH, pL, cL, rfl, s1, -, -, -, s5, -⟩ := k
  dsimp only at lR s1 s5 ⊢
  obtain ⟨r0, r1, r2, r3, r4, r5, r6, r7, rfl⟩ := eight lR
  simp only [stA, List.getD_cons_zero, List.getD_cons_succ]
  have HS := Hid.in s1
  have HOF := Hid.in s5
  have HA0 := Hid.in ((Blk.new w 50 #[.int .u8 st, .int .u32 pc, .int .u32 r0, .int .u32 r1, .int .u32 r2, .int .u32 r3, .int .u32 r4, .int .u32 r5, .int .u32 r6, .int .u32 r7, .slice pS S.length cS, .slice pH hv.length cH, .slice pL L.length cL]).grow (new_alloc _ (.cells #[.int .u8 0, .int .u32 0, .int .u32 0, .int .u32 0, .int .u32 0, .int .u32 0, .int .u32 0, .int .u32 0, .int .u32 0, .int .u32 0, .slice none 0 0, .slice none 0 0, .slice none 0 0] 50)))
  have HZ0 := Hid.in (blk_two w 50 50 #[.int .u8 st, .int .u32 pc, .int .u32 r0, .int .u32 r1, .int .u32 r2, .int .u32 r3, .int .u32 r4, .int .u32 r5, .int .u32 r6, .int .u32 r7, .slice pS S.length cS, .slice pH hv.length cH, .slice pL L.length cL] #[.int .u8 0, .int .u32 0, .int .u32 0, .int .u32 0, .int .u32 0, .int .u32 0, .int .u32 0, .int .u32 0, .int .u32 0, .int .u32 0, .slice none 0 0, .slice none 0 0, .slice none 0 0])
  have HN := Hid.in (below_alloc (new_alloc w (.cells #[.int .u8 st, .int .u32 pc, .int .u32 r0, .int .u32 r1, .int .u32 r2, .int .u32 r3, .int .u32 r4, .int .u32 r5, .int .u32 r6, .int .u32 r7, .slice pS S.length cS, .slice pH hv.length cH, .slice pL L.length cL] 50)) (.cells #[.int .u8 0, .int .u32 0, .int .u32 0, .int .u32 0, .int .u32 0, .int .u32 0, .int .u32 0, .int .u32 0, .int .u32 0, .int .u32 0, .slice none 0 0, .slice none 0 0, .slice none 0 0] 50))
  clear s1 s5 lR
  go_enter Tryz.func25, Tryz.ntmps25
  go_upto_region 1 with fail
  generalize (w.alloc (.cells #[.int .u8 st, .int .u32 pc, .int .u32 r0, .int .u32 r1, .int .u32 r2, .int .u32 r3, .int .u32 r4, .int .u32 r5, .int .u32 r6, .int .u32 r7, .slice pS S.length cS, .slice pH hv.length cH, .slice pL L.length cL] 50)).alloc (.cells #[.int .u8 0, .int .u32 0, .int .u32 0, .int .u32 0, .int .u32 0, .int .u32 0, .int .u32 0, .int .u32 0, .int .u32 0, .int .u32 0, .slice none 0 0, .slice none 0 0, .slice none 0 0] 50) = w1 at *
  have c12 : w1.cell? ⟨w.heap.size, 12, none⟩ = some (.slice pL L.length cL) := HA0.out.cell 12
  have c11 : w1.cell? ⟨w.heap.size, 11, none⟩ = some (.slice pH hv.length cH) := HA0.out.cell 11
  have f11 : w1.frozen? ⟨w.heap.size, 11, none⟩ = false := HA0.out.free 11
  have f12 : w1.frozen? ⟨w.heap.size, 12, none⟩ = false := HA0.out.free 12
  have HA2 : Hid (Blk ((w1.setCell ⟨w.heap.size, 11, none⟩ (.slice none 0 0)).setCell ⟨w.heap.size, 12, none⟩ (.slice none 0 0)) w.heap.size 50 #[.int .u8 st, .int .u32 pc, .int .u32 r0, .int .u32 r1, .int .u32 r2, .int .u32 r3, .int .u32 r4, .int .u32 r5, .int .u32 r6, .int .u32 r7, .slice pS S.length cS, .slice none 0 0, .slice none 0 0]) := (HA0.out.set 11 (.slice none 0 0)).set 12 (.slice none 0 0)
  have HZ2 := Hid.in ((HZ0.out.other (k := w.heap.size) (by omega) 11 (.slice none 0 0)).other (k := w.heap.size) (by omega) 12 (.slice none 0 0))
  have HG2 := Hid.in ((HN.out.grown (grown_setCell w1 w.heap.size 11 (.slice none 0 0)) HN.out.size (fun k hk => by cases hk; exact Nat.le_refl _)).grown (grown_setCell _ w.heap.size 12 (.slice none 0 0)) (Nat.le_trans HN.out.size (grown_setCell w1 w.heap.size 11 (.slice none 0 0)).size) (fun k hk => by cases hk; exact Nat.le_refl _))
  go_upto_region 4 with fail
  generalize (w1.setCell ⟨w.heap.size, 11, none⟩ (.slice none 0 0)).setCell ⟨w.heap.size, 12, none⟩ (.slice none 0 0) = w2 at *
  clear c11 c12 f11 f12 HA0 HZ0 HN
  have a0 : w2.cell? ⟨w.heap.size, 0, none⟩ = some (.int .u8 st) := HA2.out.cell 0
  have a1 : w2.cell? ⟨w.heap.size, 1, none⟩ = some (.int .u32 pc) := HA2.out.cell 1
  have a2 : w2.cell? ⟨w.heap.size, 2, none⟩ = some (.int .u32 r0) := HA2.out.cell 2
  have a3 : w2.cell? ⟨w.heap.size, 3, none⟩ = some (.int .u32 r1) := HA2.out.cell 3
  have a4 : w2.cell? ⟨w.heap.size, 4, none⟩ = some (.int .u32 r2) := HA2.out.cell 4
  have a5 : w2.cell? ⟨w.heap.size, 5, none⟩ = some (.int .u32 r3) := HA2.out.cell 5
  have a6 : w2.cell? ⟨w.heap.size, 6, none⟩ = some (.int .u32 r4) := HA2.out.cell 6
  have a7 : w2.cell? ⟨w.heap.size, 7, none⟩ = some (.int .u32 r5) := HA2.out.cell 7
  have a8 : w2.cell? ⟨w.heap.size, 8, none⟩ = some (.int .u32 r6) := HA2.out.cell 8
  have a9 : w2.cell? ⟨w.heap.size, 9, none⟩ = some (.int .u32 r7) := HA2.out.cell 9
  have a10 : w2.cell? ⟨w.heap.size, 10, none⟩ = some (.slice pS S.length cS) := HA2.out.cell 10
  have a11 : w2.cell? ⟨w.heap.size, 11, none⟩ = some (.slice none 0 0) := HA2.out.cell 11
  have a12 : w2.cell? ⟨w.heap.size, 12, none⟩ = some (.slice none 0 0) := HA2.out.cell 12
  have z0 : w2.cell? ⟨w.heap.size + 1, 0, none⟩ = some (.int .u8 0) := HZ2.out.cell 0
  have z1 : w2.cell? ⟨w.heap.size + 1, 1, none⟩ = some (.int .u32 0) := HZ2.out.cell 1
  have z2 : w2.cell? ⟨w.heap.size + 1, 2, none⟩ = some (.int .u32 0) := HZ2.out.cell 2
  have z3 : w2.cell? ⟨w.heap.size + 1, 3, none⟩ = some (.int .u32 0) := HZ2.out.cell 3
  have z4 : w2.cell? ⟨w.heap.size + 1, 4, none⟩ = some (.int .u32 0) := HZ2.out.cell 4
  have z5 : w2.cell? ⟨w.heap.size + 1, 5, none⟩ = some (.int .u32 0) := HZ2.out.cell 5
  have z6 : w2.cell? ⟨w.heap.size + 1, 6, none⟩ = some (.int .u32 0) := HZ2.out.cell 6
  have z7 : w2.cell? ⟨w.heap.size + 1, 7, none⟩ = some (.int .u32 0) := HZ2.out.cell 7
  have z8 : w2.cell? ⟨w.heap.size + 1, 8, none⟩ = some (.int .u32 0) := HZ2.out.cell 8
  have z9 : w2.cell? ⟨w.heap.size + 1, 9, none⟩ = some (.int .u32 0) := HZ2.out.cell 9
  have z10 : w2.cell? ⟨w.heap.size + 1, 10, none⟩ = some (.slice none 0 0) := HZ2.out.cell 10
  have z11 : w2.cell? ⟨w.heap.size + 1, 11, none⟩ = some (.slice none 0 0) := HZ2.out.cell 11
  have z12 : w2.cell? ⟨w.heap.size + 1, 12, none⟩ = some (.slice none 0 0) := HZ2.out.cell 12
  have zf : ∀ i, w2.frozen? ⟨w.heap.size + 1, i, none⟩ = false := HZ2.out.free
  have HB := Hid.in (st13_blk w2 (w.heap.size + 1) (.int .u8 st) (.int .u32 pc) (.int .u32 r0) (.int .u32 r1) (.int .u32 r2) (.int .u32 r3) (.int .u32 r4) (.int .u32 r5) (.int .u32 r6) (.int .u32 r7) (.slice pS S.length cS) (.slice none 0 0) (.slice none 0 0) HZ2.out rfl)
  have HG := Hid.in (st13_grown w2 (w.heap.size + 1) (.int .u8 st) (.int .u32 pc) (.int .u32 r0) (.int .u32 r1) (.int .u32 r2) (.int .u32 r3) (.int .u32 r4) (.int .u32 r5) (.int .u32 r6) (.int .u32 r7) (.slice pS S.length cS) (.slice none 0 0) (.slice none 0 0))
  go_wp2_with fail
  generalize (((((((((((((w2.setCell ⟨w.heap.size + 1, 0, none⟩ (.int .u8 st)).setCell ⟨w.heap.size + 1, 1, none⟩ (.int .u32 pc)).setCell ⟨w.heap.size + 1, 2, none⟩ (.int .u32 r0)).setCell ⟨w.heap.size + 1, 3, none⟩ (.int .u32 r1)).setCell ⟨w.heap.size + 1, 4, none⟩ (.int .u32 r2)).setCell ⟨w.heap.size + 1, 5, none⟩ (.int .u32 r3)).setCell ⟨w.heap.size + 1, 6, none⟩ (.int .u32 r4)).setCell ⟨w.heap.size + 1, 7, none⟩ (.int .u32 r5)).setCell ⟨w.heap.size + 1, 8, none⟩ (.int .u32 r6)).setCell ⟨w.heap.size + 1, 9, none⟩ (.int .u32 r7)).setCell ⟨w.heap.size + 1, 10, none⟩ (.slice pS S.length cS)).setCell ⟨w.heap.size + 1, 11, none⟩ (.slice none 0 0)).setCell ⟨w.heap.size + 1, 12, none⟩ (.slice none 0 0)) = w3 at *
  have hld := HB.out.load 50 _ Tryz.underlying50 rfl Tryz.sz50
  have hbb := HG2.out.grown HG.out HG2.out.size (fun k hk => by cases hk; exact Nat.le_succ _)
  exact bodyPost_ret (v := .tuple #[.agg #[.int .u8 st, .int .u32 pc, .int .u32 r0, .int .u32 r1, .int .u32 r2, .int .u32 r3, .int .u32 r4, .int .u32 r5, .int .u32 r6, .int .u32 r7, .slice pS S.length cS, .slice none 0 0, .slice none 0 0], .int .i64 L.length]) (by simp [results, Tryz.results25, asAddr, hld]) rfl ⟨_, rfl, ⟨pS, cS, none, 0, none, 0, rfl, HS.out.below hbb, fun h => absurd h (Nat.lt_irrefl 0), fun h => absurd h (Nat.lt_irrefl 0), fun _ => rfl, HOF.out, Off.zero _ _⟩, hbb⟩
end Go.Proofs.YtnpaijbkhmnfpaaGreat

/- Ours: switchyardref11.Write (turned from stage 11's). -/
namespace Go.Proofs.YtnpaijbkhmnfpaaGreat
open Go.RowKit

set_option maxHeartbeats 400000 in
theorem refWrite_out (p r : Option Addr) (c l d m : Nat) (a : Int) (w : World) (hl : l ≤ 9223372036854775807) (hm : m ≤ 9223372036854775807) (ho : ¬ (0 ≤ a ∧ a ≤ (l : Int) - m)) :
    Calls Tryz.prog 27 #[.slice p l c, .int .i64 a, .slice r m d] w fun e w' => e = .returned (.tuple #[.slice p l c, .int .i64 210]) ∧ w' = w := by
  rcases (by omega : a < 0 ∨ (0 ≤ a ∧ l < m) ∨ (0 ≤ a ∧ m ≤ l ∧ (l : Int) - m < a)) with h1 | ⟨h1, h2⟩ | ⟨h1, h2, h3⟩
  all_goals
    go_enter Tryz.func27, Tryz.ntmps27
    go_wp2
    go_ret2
    exact ⟨rfl, rfl⟩

set_option maxHeartbeats 1000000 in
theorem refWrite_ok (p r : Option Addr) (c d a : Nat) (xs ys : List Int) (w : World) (hr : Row w p xs) (hs : Row w r ys) (hl : xs.length ≤ 65536) (hfit : a + ys.length ≤ xs.length) :
    Calls Tryz.prog 27 #[.slice p xs.length c, .int .i64 a, .slice r ys.length d] w fun e w' => ∃ v, e = .returned (.tuple #[v, .int .i64 0]) ∧ OwnV w' w.heap.size v (putA xs a ys) ∧ Below w.heap.size w w' := by
  obtain ⟨zs, hzs⟩ : ∃ zs, zs = putA xs a ys := ⟨_, rfl⟩
  have hzl : zs.length = xs.length := by rw [hzs]; exact putA_len hfit
  have HG : Hid (∀ i, a ≤ i → i - a < ys.length → zs.getD i 0 = ys.getD (i - a) 0) := by rw [hzs]; exact fun i h1 h2 => putA_get xs ys a i hfit h1 h2
  have HN : Hid (∀ i, i < a ∨ a + ys.length ≤ i → zs.getD i 0 = xs.getD i 0) := by rw [hzs]; exact fun i hi => putA_not xs ys a i hfit hi
  rw [← hzs]
  have HZL := Hid.in hzl
  clear hzs hzl
  have HR : Hid (∀ W, Below w.heap.size w W → Row W p xs) := fun W hW => hr.below hW
  have HS : Hid (∀ W, Below w.heap.size w W → Row W r ys) := fun W hW => hs.below hW
  clear hr hs
  have g0 : decide ((a : Int) < 0) = false := decide_eq_false (by omega)
  have g1 : decide (xs.length < ys.length) = false := decide_eq_false (by omega)
  have g2 : decide ((xs.length : Int) < (ys.length : Int)) = false := decide_eq_false (by omega)
  have g3 : decide ((xs.length : Int) - (ys.length : Int) < (a : Int)) = false := decide_eq_false (by omega)
  go_enter Tryz.func27, Tryz.ntmps27
  go_wp2
  go_loopw [8, 9] (fun v i wr => ∃ k : Nat, k ≤ xs.length ∧ i = .int .i64 k ∧ OwnV wr w.heap.size v (zs.take k) ∧ Below w.heap.size w wr) (fun _ i _ => xs.length - (intOf i).toNat)
  case atStart => exact ⟨0, Nat.zero_le _, rfl, OwnV.nil _ _, Below.refl _ _⟩
  case round =>
    obtain ⟨k, hk, rfl, hown, hbk⟩ := hrel
    by_cases hlt : k < xs.length
    · have hsz := hbk.size
      have hl2 : (zs.take k).length + 1 ≤ 140737488355328 := by rw [List.length_take]; omega
      have HT : Hid (zs.take (k + 1) = zs.take k ++ [zs.getD k 0]) := take_getD zs k (by rw [HZL.out]; exact hlt)
      by_cases hA : a ≤ k ∧ k - a < ys.length
      · obtain ⟨b0, o0, rfl, hc⟩ := HS.out wr hbk (by omega)
        have c1 := hc (k - a) hA.2
        rw [← HG.out k hA.1 hA.2] at c1
        have hwr : IntKind.i64.wrap ((k : Int) - (a : Int)) = ((k - a : Nat) : Int) := by rw [IntKind.wrap_i64]; omega
        have h1 : a ≤ k := hA.1
        have h2 : k - a < ys.length := hA.2
        clear hc hA HS HR
        generalize zs.getD k 0 = z at *
        generalize zs.take k = us at *
        go_wp2_with (at_builtin; refine wp_push _ rfl _ _ rfl w.heap.size _ us rfl (hown.alloc _) ⟨wr.heap.size, 0, none⟩ 1 1 [z] rfl rfl (cell_one_new _ _ _) hl2 (by simp; omega) ?_; intro v' w1 hown' _hgrow hbel _hnil)
        go_roundw
        case rel => exact ⟨k + 1, by omega, by go_num, by rw [HT.out]; exact hown', hbel _ (hbk.alloc hsz _)⟩
        case measure => simp [intOf]; omega
      · obtain ⟨b0, o0, rfl, hc⟩ := HR.out wr hbk (by omega)
        have c1 := hc k hlt
        rw [← HN.out k (by omega)] at c1
        clear hc HS HR
        generalize zs.getD k 0 = z at *
        generalize zs.take k = us at *
        by_cases h1 : a ≤ k
        · have hwr : IntKind.i64.wrap ((k : Int) - (a : Int)) = ((k - a : Nat) : Int) := by rw [IntKind.wrap_i64]; omega
          have h2 : ys.length ≤ k - a := by omega
          clear hA
          go_wp2_with (at_builtin; refine wp_push _ rfl _ _ rfl w.heap.size _ us rfl (hown.alloc _) ⟨wr.heap.size, 0, none⟩ 1 1 [z] rfl rfl (cell_one_new _ _ _) hl2 (by simp; omega) ?_; intro v' w1 hown' _hgrow hbel _hnil)
          go_roundw
          case rel => exact ⟨k + 1, by omega, by go_num, by rw [HT.out]; exact hown', hbel _ (hbk.alloc hsz _)⟩
          case measure => simp [intOf]; omega
        · clear hA
          go_wp2_with (at_builtin; refine wp_push _ rfl _ _ rfl w.heap.size _ us rfl (hown.alloc _) ⟨wr.heap.size, 0, none⟩ 1 1 [z] rfl rfl (cell_one_new _ _ _) hl2 (by simp; omega) ?_; intro v' w1 hown' _hgrow hbel _hnil)
          go_roundw
          case rel => exact ⟨k + 1, by omega, by go_num, by rw [HT.out]; exact hown', hbel _ (hbk.alloc hsz _)⟩
          case measure => simp [intOf]; omega
    · have HT : Hid (zs.take k = zs) := List.take_of_length_le (by rw [HZL.out]; omega)
      go_wp2
      go_ret2
      exact ⟨_, rfl, by rw [HT.out] at hown; exact hown, hbk⟩

end Go.Proofs.YtnpaijbkhmnfpaaGreat

/- What switchyardref13's Place and Done answer. -/
namespace Go.Proofs.YtnpaijbkhmnfpaaGreat
open Go.RowKit Go.Maps

theorem rlen_any (y : Int) (w : World) : Calls Tryz.prog 89 #[.int .u8 y] w fun e w' => e = .returned (.int .i64 (lenB y)) ∧ Below w.heap.size w w' := by
  rcases opB_cases y with ⟨o, h1, h2, rfl⟩ | h
  · rw [lenB_fb o h1 h2]; exact rlen_yes o w h1 h2
  · rw [lenB_no y h]; exact rlen_no y w h

set_option maxHeartbeats 400000 in
theorem rplace_any (a : Int) (p : Option Addr) (n c : Nat) (w : World) (h0 : 0 ≤ a) (h1 : a ≤ 4294967295) (hn : n ≤ 140737488355328) :
    Calls Tryz.prog 54 #[.int .u32 a, .slice p n c] w fun e w' => e = .returned (.int .i64 (a + n)) ∧ w' = w := by
  go_enter Tryz.func54, Tryz.ntmps54
  go_wp2
  go_ret
  exact ⟨rfl, rfl⟩

set_option maxHeartbeats 400000 in
theorem rdone_any (p : Option Addr) (n c : Nat) (xs : List Int) (w : World) (hx : xs.length = n) (hn : n ≤ 140737488355328) (hr : Row w p xs) :
    Calls Tryz.prog 53 #[.slice p n c] w fun e w' => e = .returned (.bool (doneB xs)) ∧ Below w.heap.size w w' := by
  by_cases h0 : n = 0
  · subst h0
    obtain rfl := List.eq_nil_of_length_eq_zero hx
    go_enter Tryz.func53, Tryz.ntmps53
    go_wp2
    go_ret
    exact ⟨rfl, below_self _⟩
  · obtain ⟨b, o, rfl, hc⟩ := hr (by omega)
    have c0 := hc 0 (by omega)
    rw [Nat.add_zero] at c0
    have hpos : 0 < n := by omega
    have hl := rlen_any (xs.getD 0 0) w
    have hi := lenB_in (xs.getD 0 0)
    have hb : doneB xs = decide (lenB (xs.getD 0 0) ≤ n) := by unfold doneB; rw [hx, decide_eq_true hpos, Bool.true_and]
    rw [hb]
    generalize xs.getD 0 0 = y at *
    generalize lenB y = K at *
    clear hc hr hb hx
    go_enter Tryz.func53, Tryz.ntmps53
    go_wp2_with (go_at_call 89; refine hl.mono ?_; rintro e w1 ⟨rfl, hb1⟩)
    go_ret
    exact ⟨ret_bool (by simp), hb1⟩

end Go.Proofs.YtnpaijbkhmnfpaaGreat

/- append of a whole slice of bytes that came in, nil or not. -/
namespace Go.Proofs.YtnpaijbkhmnfpaaGreat
open Go.RowKit

/-- 'append(out, b...)', b whatever slice of bytes that came in -/
theorem wp_push_row {ops : Array Oper} {rest : List Oper} {o : Oper} {a : Act} {Q : Exit → Act → World → Prop} (w : World) (hgd : o.guard = none) (s x : Operand)
    (ho : o.op = .call { callee := .builtin .append, args := #[s, x], argTypes := #[26, 26] }) (B : Nat) (v : Value) (xs : List Int) (hs : a.eval s = v) (hown : OwnV w B v xs)
    (q : Option Addr) (m d : Nat) (ys : List Int) (hx : a.eval x = .slice q m d) (hl : ys.length = m) (hrow : Row w q ys) (hq : q = none → m = 0 ∧ d = 0)
    (hlen : xs.length + m ≤ 140737488355328) (hB : B ≤ w.heap.size)
    (h : ∀ v' w', OwnV w' B v' (xs ++ ys) → (∀ w0, Below B w0 w → Below B w0 w') → wpList Tryz.prog ops Q rest (a.put o.dst v') w') :
    wpList Tryz.prog ops Q (o :: rest) a w := by
  cases q with
  | none =>
    obtain ⟨rfl, rfl⟩ := hq rfl
    obtain rfl : ys = [] := List.eq_nil_of_length_eq_zero hl
    obtain ⟨i0, hi, hz0, hz1, hz2⟩ := info_parts Tryz.info5
    exact wpList_append_own_none hgd s x 26 ho B 5 i0 1 Tryz.underlying26 hi v xs.length (byts xs) hs hown hx (h v w (by rw [List.append_nil]; exact hown) fun _ hb => hb)
  | some ad =>
    refine wp_push w hgd s x ho B v xs hs hown ad m d ys hx hl (fun j u hj => ?_) hlen hB fun v' w' h1 _ h3 _ => h v' w' h1 h3
    have hjl : j < ys.length := by
      rcases Nat.lt_or_ge j ys.length with h | h
      · exact h
      · rw [List.getElem?_eq_none (by simpa using h)] at hj; cases hj
    obtain ⟨b, off, e, hc⟩ := hrow (by omega)
    cases e
    rw [getD_byts ys j hjl] at hj
    rw [← hj, ← hc j hjl, Go.WideShapes.add_plain]

end Go.Proofs.YtnpaijbkhmnfpaaGreat

/- switchyardref13.Step. -/
namespace Go.Proofs.YtnpaijbkhmnfpaaGreat
open Go.RowKit Go.Maps

theorem row_lowerB {w : World} {B B' : Nat} {v : Value} {xs : List Int} (h : OwnV w B v xs) (hB : B' ≤ B) : OwnV w B' v xs := by
  rcases h.shape with ⟨rfl, rfl⟩ | ⟨g, cap, rfl, ho⟩
  · exact OwnV.nil _ _
  · exact (ho.lower hB).val
theorem rtake_row (p9 p8 : Option Addr) (c9 d g : Nat) (R : List Ln) (ys : List Int) (hold : Bool) (w : World) (hr : Ris R) (hl : R.length ≤ 1000000) (h9 : LRow w p9 R) (hy : ys.length ≤ 65536) (h8 : Row w p8 ys) (hg : g < 16384) :
    Calls Tryz.prog 90 #[.slice p9 R.length c9, .slice p8 ys.length d, .int .i64 g, .bool hold] w fun e w' => ∃ p' c', e = .returned (.tuple #[.slice p' (takR R ys g hold).L.length c', fV (takR R ys g hold).f, .bool (takR R ys g hold).is, .int .i64 0]) ∧ LRow w' p' (takR R ys g hold).L ∧ Below w.heap.size w w' := by
  rcases takR_cases R g hold with ⟨f, hf, rfl⟩ | hno
  · rw [takR_held hf]
    refine (rtake_held p9 p8 _ c9 _ d R g f w rfl (by omega) h9 hf).mono ?_
    rintro e w' ⟨rfl, hb⟩
    exact ⟨_, _, rfl, h9.below hb, hb⟩
  · rw [takR_in hno (by omega)]
    refine (rtake_new p9 p8 _ c9 _ d R ys g hold w hr rfl hl h9 rfl hy h8 hno hg).mono ?_
    rintro e w' ⟨v, rfl, ho, hb⟩
    obtain ⟨p', c', rfl, -, -, hrow⟩ := ho.row5
    exact ⟨_, _, rfl, hrow, hb⟩

set_option maxHeartbeats 1000000 in
theorem rstep_done (p8 p9 p : Option Addr) (d c9 c pc : Nat) (R : List Ln) (ys hv : List Int) (hold : Bool) (w : World) (hn : hv.length ≤ 140737488355328) (hrow : Row w p hv) (hd : doneB hv = true) :
    Calls Tryz.prog 55 #[.slice p8 ys.length d, .slice p9 R.length c9, .int .u32 pc, .slice p hv.length c, .bool hold] w fun e w' => e = .returned (.tuple #[.slice none 0 0, .int .i64 0, .bool false, .int .i64 2, .slice p9 R.length c9]) ∧ Below w.heap.size w w' := by
  have h18 := rdone_any p hv.length c hv w rfl hn hrow
  rw [hd] at h18
  clear hrow hd
  go_enter Tryz.func55, Tryz.ntmps55
  go_wp2_with (go_at_call 53; refine Hid.out ?_)
  refine Lib.hid ?_
  refine h18.mono ?_
  rintro e w1 ⟨rfl, hb1⟩
  have HB := Hid.in hb1
  clear hb1 h18
  go_wp2_with fail
  refine bodyPost_ret (v := .tuple #[.slice none 0 0, .int .i64 0, .bool false, .int .i64 2, .slice p9 R.length c9]) (by simp [results, Tryz.results55, go_sem]) rfl ⟨rfl, HB.out⟩

set_option maxHeartbeats 1000000 in
theorem rstep_out (p8 p9 p : Option Addr) (d c9 c pc : Nat) (R : List Ln) (ys hv : List Int) (hold : Bool) (w : World) (hpc : pc ≤ 4294967295) (hn : hv.length ≤ 140737488355328) (hrow : Row w p hv) (hd : doneB hv = false) (hx : ys.length ≤ pc + hv.length) :
    Calls Tryz.prog 55 #[.slice p8 ys.length d, .slice p9 R.length c9, .int .u32 pc, .slice p hv.length c, .bool hold] w fun e w' => e = .returned (.tuple #[.slice none 0 0, .int .i64 0, .bool false, .int .i64 210, .slice p9 R.length c9]) ∧ Below w.heap.size w w' := by
  have h18 := rdone_any p hv.length c hv w rfl hn hrow
  rw [hd] at h18
  have h17 := fun W => rplace_any pc p hv.length c W (by omega) (by omega) hn
  have hge : decide ((ys.length : Int) ≤ (pc : Int) + hv.length) = true := decide_eq_true (by omega)
  clear hrow hd
  go_enter Tryz.func55, Tryz.ntmps55
  go_wp2_with (go_at_call 53; refine Hid.out ?_)
  refine Lib.hid ?_
  refine h18.mono ?_
  rintro e w1 ⟨rfl, hb1⟩
  have HB := Hid.in hb1
  have h17' := h17 w1
  clear hb1 h18 h17
  go_wp2_with (go_at_call 54; refine Hid.out ?_)
  refine Lib.hid ?_
  refine h17'.mono ?_
  rintro e w2 ⟨rfl, rfl⟩
  clear h17'
  go_wp2_with fail
  refine bodyPost_ret (v := .tuple #[.slice none 0 0, .int .i64 0, .bool false, .int .i64 210, .slice p9 R.length c9]) (by simp [results, Tryz.results55, go_sem]) rfl ⟨rfl, HB.out⟩

set_option maxHeartbeats 1000000 in
theorem rstep_ok (p8 p9 p : Option Addr) (d c9 c pc : Nat) (R : List Ln) (ys hv : List Int) (hold : Bool) (w : World) (hr : Ris R) (hl : R.length ≤ 1000000) (h9 : LRow w p9 R) (hy : ys.length ≤ 65536) (h8 : Row w p8 ys) (hpc : pc ≤ 4294967295) (hrow : Row w p hv) (hpn : p = none → c = 0) (hd : doneB hv = false) (hx : pc + hv.length < ys.length) :
    Calls Tryz.prog 55 #[.slice p8 ys.length d, .slice p9 R.length c9, .int .u32 pc, .slice p hv.length c, .bool hold] w fun e w' => ∃ v p' c', e = .returned (.tuple #[v, .int .i64 ((pc + hv.length) / 4 : Nat), .bool (takR R ys (((pc + hv.length) / 4 : Nat) : Int) hold).is, .int .i64 0, .slice p' (takR R ys (((pc + hv.length) / 4 : Nat) : Int) hold).L.length c']) ∧
      OwnV w' w.heap.size v (outF hv (takR R ys (((pc + hv.length) / 4 : Nat) : Int) hold).f ((pc + hv.length) % 4)) ∧ LRow w' p' (takR R ys (((pc + hv.length) / 4 : Nat) : Int) hold).L ∧ Below w.heap.size w w' := by
  have hn6 : hv.length ≤ 6 := by
    by_cases h0 : hv.length = 0
    · omega
    · have := lt_of_not_done hd (by omega)
      have := (lenB_in (hv.getD 0 0)).2
      omega
  have h18 := rdone_any p hv.length c hv w rfl (by omega) hrow
  rw [hd] at h18
  have h17 := fun W => rplace_any pc p hv.length c W (by omega) (by omega) (by omega)
  have hg4 : (pc + hv.length) / 4 < 16384 := by omega
  have hr4 : (pc + hv.length) % 4 < 4 := Nat.mod_lt _ (by decide)
  have h38 := fun W (hW : Below w.heap.size w W) => rtake_row p9 p8 c9 d ((pc + hv.length) / 4) R ys hold W hr hl (h9.below hW) hy (h8.below hW) hg4
  obtain ⟨t, ht'⟩ : ∃ t, takR R ys (((pc + hv.length) / 4 : Nat) : Int) hold = t := ⟨_, rfl⟩
  rw [ht'] at h38 ⊢
  clear ht'
  obtain ⟨f, is, e0, L2⟩ := t
  dsimp only at h38 ⊢
  have HR : Hid (∀ W, Below w.heap.size w W → Row W p hv) := fun W hW => hrow.below hW
  have hA : (pc : Int) + hv.length = ((pc + hv.length : Nat) : Int) := by omega
  rw [hA] at h17
  obtain ⟨A, hA2⟩ : ∃ A, pc + hv.length = A := ⟨_, rfl⟩
  rw [hA2] at h17 h38 hx hr4 hg4 ⊢
  have hqu : (A : Int) / 4 = ((A / 4 : Nat) : Int) := by omega
  have hrm : (A : Int) % 4 = ((A % 4 : Nat) : Int) := by omega
  have hge : decide (ys.length ≤ A) = false := decide_eq_false (by omega)
  have hAm : A ≤ 65536 := by omega
  clear hA hA2 h9 h8 hrow
  generalize A / 4 = gq at *
  generalize A % 4 = r at *
  have HFL : Hid (hv.length < lenB (fstB hv f r)) := fst_lt hd f r
  have hK6 := lenB_in (fstB hv f r)
  have HD := Hid.in hd
  clear hd
  go_enter Tryz.func55, Tryz.ntmps55
  go_wp2_with (go_at_call 53; refine Hid.out ?_)
  refine Lib.hid ?_
  refine h18.mono ?_
  rintro e w1 ⟨rfl, hb1⟩
  have h17' := h17 w1
  have h38' := h38 w1 hb1
  have HB1 := Hid.in hb1
  clear hb1 h18 h17 h38
  go_wp2_with (go_at_call 54; refine Hid.out ?_)
  refine Lib.hid ?_
  refine h17'.mono ?_
  rintro e w2 ⟨rfl, hw2⟩
  rw [hw2]
  clear h17' hw2
  simp only [fV] at h38'
  go_wp2_with (go_at_call 90; refine Hid.out ?_)
  refine Lib.hid ?_
  refine h38'.mono ?_
  rintro e w3 ⟨p3, c3, rfl, hl3, hb3⟩
  have HN4 := Hid.in (Blk.new w3 92 #[.int .u8 f.a, .int .u8 f.b, .int .u8 f.c, .int .u8 f.d])
  have HB4 := Hid.in (below_alloc (below_step HB1.out hb3) (.cells #[.int .u8 f.a, .int .u8 f.b, .int .u8 f.c, .int .u8 f.d] 92))
  have HL4 := Hid.in (hl3.below (new_alloc w3 (.cells #[.int .u8 f.a, .int .u8 f.b, .int .u8 f.c, .int .u8 f.d] 92)))
  clear hl3 hb3 h38' HB1
  go_upto_region 7 with fail
  obtain ⟨fa, hfa⟩ : ∃ x, f.a = x := ⟨_, rfl⟩
  obtain ⟨fb, hfb⟩ : ∃ x, f.b = x := ⟨_, rfl⟩
  obtain ⟨fc, hfc⟩ : ∃ x, f.c = x := ⟨_, rfl⟩
  obtain ⟨fd, hfd⟩ : ∃ x, f.d = x := ⟨_, rfl⟩
  generalize hw4 : w3.alloc (.cells #[.int .u8 f.a, .int .u8 f.b, .int .u8 f.c, .int .u8 f.d] 92) = w4 at *
  generalize w3.heap.size = g4 at *
  have HFC : Hid (∀ W, Below w4.heap.size w4 W → ∀ j, j < 4 → W.cell? ⟨g4, j, none⟩ = some (.int .u8 ((f4L f).getD j 0))) := fun W hW j hj => f4_cell (HN4.out.grow hW) hj
  have HLC : Hid (∀ W, Below w4.heap.size w4 W → LRow W p3 L2) := fun W hW => HL4.out.below hW
  rw [hfa, hfb, hfc, hfd]
  clear HN4 HL4 hw4 hfa hfb hfc hfd
  have hpn' : p = none → hv.length = 0 ∧ c = 0 := fun e => ⟨by
    by_cases h0 : 0 < hv.length
    · obtain ⟨b, o, e2, -⟩ := HR.out w (below_self w) h0
      rw [e] at e2; cases e2
    · omega, hpn e⟩
  have hr5 := HR.out _ HB4.out
  have hs4 : w4.heap.size ≤ w4.heap.size := Nat.le_refl _
  go_upto_region 9 with (at_builtin; refine wp_push_row _ rfl _ _ rfl w4.heap.size (.slice none 0 0) [] rfl (OwnV.nil _ _) p hv.length c hv rfl rfl hr5 hpn' (by simp; omega) hs4 ?_; intro v5 w5 ho5 hbel5; rw [List.nil_append] at ho5; have HO5 := Hid.in ho5; have HB5 := Hid.in (hbel5 _ (below_self w4)); clear ho5 hbel5)
  clear hr5 hs4 hpn' hpn HR
  go_wp2_with fail
  rw [hrm]
  clear hrm
  go_loopw [20, 21] (fun v vi wx => ∃ i : Nat, vi = .int .i64 i ∧ r ≤ i ∧ i ≤ 4 ∧ OwnV wx w4.heap.size v (outI hv f r i) ∧ hv.length + (i - r) ≤ lenB (fstB hv f r) ∧ Below w4.heap.size w4 wx) (fun _ vi _ => 4 - (intOf vi).toNat)
  case atStart => exact ⟨r, rfl, Nat.le_refl _, by omega, by rw [outI_start]; exact HO5.out, by have := HFL.out; omega, HB5.out⟩
  case round =>
    obtain ⟨i, rfl, hri, hi4, ho, hlen, hbx⟩ := hrel
    obtain ⟨y, hy⟩ : ∃ y, fstB hv f r = y := ⟨_, rfl⟩
    obtain ⟨K, hK⟩ : ∃ K, lenB y = K := ⟨_, rfl⟩
    rw [hy, hK] at hlen hK6
    have HY := Hid.in hy
    have HK := Hid.in hK
    have hol := outI_len hv f hri hi4
    have hfi := fun h => outI_fst (hv := hv) (f := f) (r := r) (i := i) hri hi4 h
    rw [hy] at hfi
    have hnx := fun h => outI_next hv f hri (i := i) h
    have hal := fun (e : i = 4) (h : (outI hv f r i).length ≤ lenB (fstB hv f r)) => (show outI hv f r i = outF hv f r by subst e; exact outI_all hr4 h)
    have hen := fun h => outI_end (hv := hv) (f := f) (r := r) (i := i) hri hi4 (Nat.le_of_lt HFL.out) h
    rw [hy, hK] at hal hen
    generalize outI hv f r i = X at *
    have HX := Hid.in hol
    have HNX := Hid.in hnx
    have HAL := Hid.in hal
    have HEN := Hid.in hen
    have HO := Hid.in ho
    have HBX := Hid.in hbx
    obtain ⟨po, co, rfl, hrx, hpo⟩ := ho.slice
    have HRX := Hid.in hrx
    have HFI := Hid.in hfi
    have hX6 : X.length ≤ 10 := by omega
    have hXK : X.length ≤ K := by omega
    clear ho hbx hol hfi hnx hal hen hrx hy hK HO5 HB5
    by_cases hi : i < 4
    · have hdi : decide ((i : Int) < 4) = true := decide_eq_true (by omega)
      by_cases h0 : X.length = 0
      · have hb0 : ((X.length : Int) == 0) = true := by rw [h0]; rfl
        have hlt0 : X.length < K := by omega
        clear h0 HRX hpo HFI
        have hsz := (HBX.out).size
        have cI := HFC.out wr HBX.out i hi
        have HNZ : Hid (outI hv f r (i + 1) = X ++ [(f4L f).getD i 0]) := HNX.out hi
        generalize (f4L f).getD i 0 = z at *
        have hl1 : X.length + 1 ≤ 140737488355328 := by omega
        go_wp2_with (at_builtin; refine wp_push _ rfl _ _ rfl w4.heap.size _ X rfl (HO.out.alloc _) ⟨wr.heap.size, 0, none⟩ 1 1 [z] rfl rfl (cell_one_new _ _ _) hl1 (by simp; omega) ?_; intro v' w7 hown' _hgrow hbel _hnil; have HOW := Hid.in hown'; have HBW := Hid.in (hbel _ (HBX.out.alloc hsz _)); clear hown' _hgrow hbel _hnil)
        go_roundw
        case rel => exact ⟨i + 1, by go_num, by omega, by omega, by rw [HNZ.out]; exact HOW.out, by rw [HY.out, HK.out]; have := HX.out; omega, HBW.out⟩
        case measure => simp [intOf]; omega
      · have hb0 : ((X.length : Int) == 0) = false := by rw [beq_eq_false_iff_ne]; omega
        have hp0 : 0 < X.length := by omega
        obtain ⟨bx, ox, rfl, hcx⟩ := HRX.out hp0
        have cx := hcx 0 hp0
        rw [Nat.add_zero, HFI.out hp0] at cx
        have h37 := rlen_any y wr
        rw [HK.out] at h37
        clear hcx h0 hpo HFI
        by_cases hlt : X.length < K
        · have hdl : decide (X.length < K) = true := decide_eq_true hlt
          go_wp2_with (go_at_call 89; refine Hid.out ?_)
          refine Lib.hid ?_
          refine h37.mono ?_
          rintro e w6 ⟨rfl, hb6⟩
          have HB6 := Hid.in (below_step HBX.out hb6)
          have HO6 := Hid.in (HO.out.below hb6)
          clear h37 hb6 HO HBX cx
          have hsz := (HB6.out).size
          have cI := HFC.out w6 HB6.out i hi
          have HNZ : Hid (outI hv f r (i + 1) = X ++ [(f4L f).getD i 0]) := HNX.out hi
          generalize (f4L f).getD i 0 = z at *
          have hl1 : X.length + 1 ≤ 140737488355328 := by omega
          go_wp2_with (at_builtin; refine wp_push _ rfl _ _ rfl w4.heap.size _ X rfl (HO6.out.alloc _) ⟨w6.heap.size, 0, none⟩ 1 1 [z] rfl rfl (cell_one_new _ _ _) hl1 (by simp; omega) ?_; intro v' w7 hown' _hgrow hbel _hnil; have HOW := Hid.in hown'; have HBW := Hid.in (hbel _ (HB6.out.alloc hsz _)); clear hown' _hgrow hbel _hnil)
          go_roundw
          case rel => exact ⟨i + 1, by go_num, by omega, by omega, by rw [HNZ.out]; exact HOW.out, by rw [HY.out, HK.out]; have := HX.out; omega, HBW.out⟩
          case measure => simp [intOf]; omega
        · have hdl : decide (X.length < K) = false := decide_eq_false hlt
          go_wp2_with (go_at_call 89; refine Hid.out ?_)
          refine Lib.hid ?_
          refine h37.mono ?_
          rintro e w6 ⟨rfl, hb6⟩
          have HB6 := Hid.in (below_step HBX.out hb6)
          have HO6 := Hid.in (HO.out.below hb6)
          clear h37 hb6 HO HBX cx
          have HLW := Hid.in (HLC.out _ HB6.out)
          have HE : Hid (X = outF hv f r) := HEN.out (by omega)
          go_wp2_with fail
          refine bodyPost_ret (v := .tuple #[.slice (some ⟨bx, ox, none⟩) X.length co, .int .i64 gq, .bool is, .int .i64 0, .slice p3 L2.length c3]) (by simp [results, Tryz.results55, go_sem]) rfl ⟨_, _, _, rfl, by rw [← HE.out]; exact row_lowerB HO6.out HB4.out.size, HLW.out, below_step HB4.out HB6.out⟩
    · have hdi : decide ((i : Int) < 4) = false := decide_eq_false (by omega)
      have HLW := Hid.in (HLC.out _ HBX.out)
      have HE : Hid (X = outF hv f r) := HAL.out (by omega) hXK
      go_wp2_with fail
      refine bodyPost_ret (v := .tuple #[.slice po X.length co, .int .i64 gq, .bool is, .int .i64 0, .slice p3 L2.length c3]) (by simp [results, Tryz.results55, go_sem]) rfl ⟨_, _, _, rfl, by rw [← HE.out]; exact row_lowerB HO.out HB4.out.size, HLW.out, below_step HB4.out HBX.out⟩

/-- the reference's Step, whatever it answers -/
theorem rstep_any (p8 p9 p : Option Addr) (d c9 c pc : Nat) (R : List Ln) (ys hv : List Int) (hold : Bool) (w : World) (hr : Ris R) (hl : R.length ≤ 1000000) (h9 : LRow w p9 R) (hy : ys.length ≤ 65536) (h8 : Row w p8 ys) (hpc : pc ≤ 4294967295) (hn : hv.length ≤ 140737488355328) (hrow : Row w p hv) (hpn : p = none → c = 0) :
    Calls Tryz.prog 55 #[.slice p8 ys.length d, .slice p9 R.length c9, .int .u32 pc, .slice p hv.length c, .bool hold] w fun e w' => ∃ v p' c', e = .returned (.tuple #[v, .int .i64 (stpR R ys pc hv hold).g, .bool (stpR R ys pc hv hold).is, .int .i64 (stpR R ys pc hv hold).e, .slice p' (stpR R ys pc hv hold).L.length c']) ∧
      OwnV w' w.heap.size v (stpR R ys pc hv hold).out ∧ LRow w' p' (stpR R ys pc hv hold).L ∧ Below w.heap.size w w' := by
  unfold stpR
  by_cases hd : doneB hv = true
  · rw [if_pos hd]
    refine (rstep_done p8 p9 p d c9 c pc R ys hv hold w hn hrow hd).mono ?_
    rintro e w' ⟨rfl, hb⟩
    exact ⟨_, _, _, rfl, OwnV.nil _ _, h9.below hb, hb⟩
  · rw [if_neg hd]
    have hd : doneB hv = false := by simpa using hd
    by_cases hx : ys.length ≤ pc + hv.length
    · rw [if_pos hx]
      refine (rstep_out p8 p9 p d c9 c pc R ys hv hold w hpc hn hrow hd hx).mono ?_
      rintro e w' ⟨rfl, hb⟩
      exact ⟨_, _, _, rfl, OwnV.nil _ _, h9.below hb, hb⟩
    · rw [if_neg hx]
      exact rstep_ok p8 p9 p d c9 c pc R ys hv hold w hr hl h9 hy h8 hpc hrow hpn hd (by omega)

end Go.Proofs.YtnpaijbkhmnfpaaGreat
