/- Texts put together: RHf, PlyM, PlyO, PlyP, Far4. -/
import Derived.Test.YtnpaijbkhmnfpaaGreatKau
import Derived.Test.YtnpaijbkhmnfpaaGreatKas
import Derived.Test.YtnpaijbkhmnfpaaGreatKaa
import Derived.Test.YtnpaijbkhmnfpaaGreatKao

/- Ours: the reference's Step (switchyardref15): it fetches, or does nothing. -/
namespace Go.Proofs.YtnpaijbkhmnfpaaGreat
open Go.RowKit Go.Maps

/-- what the reference's Step answers -/
def RsIs (G : Nat → Prop) (w : World) (s : St) (e : Ending) (w' : World) : Prop := ∃ V' p' c' v, e = .returned (.tuple #[V', .slice p' s.xs.length c', v]) ∧ HvN G w' s.h V' ∧ Row w' p' s.xs ∧ Off G p' s.xs.length ∧ EOwn 41 w' w.heap.size v s.ev ∧ Below w.heap.size w w'
/-- a struct of thirteen cells is read -/
theorem load13 {ops : Array Oper} {rest : List Oper} {o : Oper} {a : Act} {w : World} {Q : Exit → Act → World → Prop} {g : Nat} {c : Array Value} (hB : Blk w g 50 c) (hs : c.size = 13) (hg : o.guard = none) (p : Operand) (ho : o.op = .load 50 p)
    (hp : a.eval p = .pointer (some ⟨g, 0, none⟩)) (h : wpList Tryz.prog ops Q rest (a.put o.dst (.agg c)) w) : wpList Tryz.prog ops Q (o :: rest) a w :=
  step_load_blk hB hg 50 p ho hp c (List.prefix_refl _) _ Tryz.underlying50 rfl (by rw [hs]; exact Tryz.sz50) h
/-- .. and stored -/
theorem store13 {ops : Array Oper} {rest : List Oper} {o : Oper} {a : Act} {w : World} {Q : Exit → Act → World → Prop} {g : Nat} {c : Array Value} (hB : Blk w g 50 c) (hs : c.size = 13) (hg : o.guard = none) (p x : Operand) (ho : o.op = .store 50 p x) (hd : o.dst = none)
    (hp : a.eval p = .pointer (some ⟨g, 0, none⟩)) {v0 v1 v2 v3 v4 v5 v6 v7 v8 v9 v10 v11 v12 : Value} (hx : a.eval x = .agg #[v0, v1, v2, v3, v4, v5, v6, v7, v8, v9, v10, v11, v12]) (h1 : ([v0, v1, v2, v3, v4, v5, v6, v7, v8, v9, v10, v11, v12].all (·.oneCell')) = true)
    (h : ∀ w', Blk w' g 50 #[v0, v1, v2, v3, v4, v5, v6, v7, v8, v9, v10, v11, v12] → w.grownBy w' (some g) → wpList Tryz.prog ops Q rest a w') : wpList Tryz.prog ops Q (o :: rest) a w :=
  step_store_blk hB hg 50 p x ho hd hp _ hx Tryz.sz50 hs.symm (by rw [List.all_toArray]; exact h1) h

theorem LRow.off {G : Nat → Prop} {w w' : World} {p : Option Addr} {L : List Ln} (h : LRow w p L) (ho : Off G p L.length) (hk : Keeps G w w') : LRow w' p L := fun h0 => by
  obtain ⟨g, o, rfl, hc⟩ := h h0
  obtain ⟨g', o', e, hg⟩ := ho h0
  injection e with e; injection e with e1 e2; subst e1 e2
  refine ⟨g, o, rfl, fun i hi j hj => ?_⟩
  have h1 := hc i hi j hj
  have hlt : g < w.heap.size := by
    have h2 := hc 0 h0 0 (by decide)
    exact cell_lt (v := .int .i64 L[0].g) h2
  have h2 := hk.block g hlt hg
  unfold World.cell? at h1 ⊢
  dsimp only at h1 ⊢
  rw [h2]; exact h1
/-- a hart's cells: no int64 among them -/
theorem no64 (s0 s1 a0 a1 a2 a3 a4 a5 a6 a7 : Int) (p0 p1 p2 : Option Addr) (n0 n1 n2 c0 c1 c2 : Nat) : ∀ (k : Nat) (x : Int), (#[Value.int .u8 s0, .int .u32 s1, .int .u32 a0, .int .u32 a1, .int .u32 a2, .int .u32 a3, .int .u32 a4, .int .u32 a5, .int .u32 a6, .int .u32 a7, .slice p0 n0 c0, .slice p1 n1 c1, .slice p2 n2 c2])[k]? ≠ some (Value.int .i64 x)
  | 0, x => by simp
  | 1, x => by simp
  | 2, x => by simp
  | 3, x => by simp
  | 4, x => by simp
  | 5, x => by simp
  | 6, x => by simp
  | 7, x => by simp
  | 8, x => by simp
  | 9, x => by simp
  | 10, x => by simp
  | 11, x => by simp
  | 12, x => by simp
  | k + 13, x => by simp
/-- a list of lines lies apart from two harts -/
theorem LRow.offH {w : World} {p : Option Addr} {L : List Ln} {g g' : Nat} {A Z : Array Value} (h : LRow w p L) (hA : Blk w g 50 A) (hZ : Blk w g' 50 Z) (nA : ∀ (k : Nat) (x : Int), A[k]? ≠ some (Value.int .i64 x)) (nZ : ∀ (k : Nat) (x : Int), Z[k]? ≠ some (Value.int .i64 x)) : Off (fun j => j = g ∨ j = g') p L.length := fun h0 => by
  obtain ⟨b, o, rfl, hc⟩ := h h0
  have h2 : w.cell? ⟨b, o + 0 * 5 + 0, none⟩ = some (.int .i64 L[0].g) := hc 0 h0 0 (by decide)
  refine ⟨b, o, rfl, ?_⟩
  rintro (rfl | rfl)
  · rw [hA.cell] at h2
    exact nA _ _ h2
  · rw [hZ.cell] at h2
    exact nZ _ _ h2
set_option maxHeartbeats 4000000 in
set_option maxRecDepth 8000 in
theorem rstepH_idle {H : Hs} {V : Value} (id t : Int) (p8 : Option Addr) (d : Nat) (xs : List Int) (hold : Bool) (w : World) (hok : HsOk 1000000 H) (G : Nat → Prop) (hG : ∀ j, G j → j < w.heap.size) (k : HvN G w H V) (hx : Row w p8 xs) (hxo : Off G p8 xs.length) (h0 : H.st ≠ 0) :
    Calls Tryz.prog 23 #[V, .int .i64 id, .slice p8 xs.length d, .bool hold, .int .i64 t] w fun e w' => RsIs G w ⟨H, xs, []⟩ e w' := by
  obtain ⟨st, pc, R, S, hv, L⟩ := H
  obtain ⟨hpc, lR, wR, wS, lS, bH, lH, wL, lL⟩ := hok
  obtain ⟨pS, cS, pH, cH, pL, cL, rfl, s1, s2, s3, s4, s5, s6⟩ := k
  dsimp only at *
  obtain ⟨r0, r1, r2, r3, r4, r5, r6, r7, rfl⟩ := eight lR
  simp only [stA, List.getD_cons_zero, List.getD_cons_succ]
  have HS := Hid.in (And.intro s1 (And.intro s2 (And.intro s3 s4)))
  have HX := Hid.in hx
  have HXO := Hid.in hxo
  have HO5 := Hid.in (And.intro s5 s6)
  have HGG := Hid.in hG
  have HA := Hid.in ((Blk.new w 50 #[.int .u8 st, .int .u32 pc, .int .u32 r0, .int .u32 r1, .int .u32 r2, .int .u32 r3, .int .u32 r4, .int .u32 r5, .int .u32 r6, .int .u32 r7, .slice pS S.length cS, .slice pH hv.length cH, .slice pL L.length cL]).grow (new_alloc _ (.cells #[.int .u8 0, .int .u32 0, .int .u32 0, .int .u32 0, .int .u32 0, .int .u32 0, .int .u32 0, .int .u32 0, .int .u32 0, .int .u32 0, .slice none 0 0, .slice none 0 0, .slice none 0 0] 50)))
  have HZ := Hid.in (blk_two w 50 50 #[.int .u8 st, .int .u32 pc, .int .u32 r0, .int .u32 r1, .int .u32 r2, .int .u32 r3, .int .u32 r4, .int .u32 r5, .int .u32 r6, .int .u32 r7, .slice pS S.length cS, .slice pH hv.length cH, .slice pL L.length cL] #[.int .u8 0, .int .u32 0, .int .u32 0, .int .u32 0, .int .u32 0, .int .u32 0, .int .u32 0, .int .u32 0, .int .u32 0, .int .u32 0, .slice none 0 0, .slice none 0 0, .slice none 0 0])
  have HN := Hid.in (below_alloc (new_alloc w (.cells #[.int .u8 st, .int .u32 pc, .int .u32 r0, .int .u32 r1, .int .u32 r2, .int .u32 r3, .int .u32 r4, .int .u32 r5, .int .u32 r6, .int .u32 r7, .slice pS S.length cS, .slice pH hv.length cH, .slice pL L.length cL] 50)) (.cells #[.int .u8 0, .int .u32 0, .int .u32 0, .int .u32 0, .int .u32 0, .int .u32 0, .int .u32 0, .int .u32 0, .int .u32 0, .int .u32 0, .slice none 0 0, .slice none 0 0, .slice none 0 0] 50))
  clear s1 s2 s3 s4 s5 s6 lR hx hxo hG
  go_enter Tryz.func23, Tryz.ntmps23
  go_upto_region 1 with fail
  generalize (w.alloc (.cells #[.int .u8 st, .int .u32 pc, .int .u32 r0, .int .u32 r1, .int .u32 r2, .int .u32 r3, .int .u32 r4, .int .u32 r5, .int .u32 r6, .int .u32 r7, .slice pS S.length cS, .slice pH hv.length cH, .slice pL L.length cL] 50)).alloc (.cells #[.int .u8 0, .int .u32 0, .int .u32 0, .int .u32 0, .int .u32 0, .int .u32 0, .int .u32 0, .int .u32 0, .int .u32 0, .int .u32 0, .slice none 0 0, .slice none 0 0, .slice none 0 0] 50) = w1 at *
  have c0 : w1.cell? ⟨w.heap.size, 0, none⟩ = some (.int .u8 st) := HA.out.cell 0
  have e0 : (st != 0) = true := by simpa using h0
  go_wp2_with (first
    | (refine load13 HA.out rfl rfl _ rfl rfl ?_)
    | (refine store13 HZ.out rfl rfl _ _ rfl rfl rfl rfl rfl ?_; intro w2 hb2 hg2; have HB := Hid.in hb2; have HG := Hid.in hg2; clear hb2 hg2))
  have hld := HB.out.load 50 _ Tryz.underlying50 rfl Tryz.sz50
  have hbb := HN.out.grown HG.out HN.out.size (fun k hk => by injection hk with hk; omega)
  exact bodyPost_ret (v := .tuple #[.agg #[.int .u8 st, .int .u32 pc, .int .u32 r0, .int .u32 r1, .int .u32 r2, .int .u32 r3, .int .u32 r4, .int .u32 r5, .int .u32 r6, .int .u32 r7, .slice pS S.length cS, .slice pH hv.length cH, .slice pL L.length cL], .slice p8 xs.length d, .slice none 0 0]) (by simp [results, Tryz.results23, asAddr, hld]) rfl ⟨_, p8, d, _, rfl, ⟨pS, cS, pH, cH, pL, cL, rfl, HS.out.1.below hbb, HS.out.2.1.below hbb, HS.out.2.2.1.below hbb, HS.out.2.2.2, HO5.out.1, HO5.out.2⟩, HX.out.below hbb, HXO.out, EOwn.nil _ _ _, hbb⟩
set_option maxHeartbeats 4000000 in
set_option maxRecDepth 8000 in
theorem rstepH_fetch {H : Hs} {V : Value} (id t : Int) (p8 : Option Addr) (d : Nat) (xs : List Int) (hold : Bool) (w : World) (hok : HsOk 1000000 H) (G : Nat → Prop) (hG : ∀ j, G j → j < w.heap.size) (k : HvN G w H V) (hx : Row w p8 xs) (hxo : Off G p8 xs.length) (hxl : xs.length ≤ 65536) (h0 : H.st = 0) (hd : doneB H.hv = false) (hri : Ris H.L) :
    Calls Tryz.prog 23 #[V, .int .i64 id, .slice p8 xs.length d, .bool hold, .int .i64 t] w fun e w' => RsIs G w (movH id H xs (stpR H.L xs H.pc H.hv hold)) e w' := by
  obtain ⟨st, pc, R, S, hv, L⟩ := H
  obtain ⟨hpc, lR, wR, wS, lS, bH, lH, wL, lL⟩ := hok
  obtain ⟨pS, cS, pH, cH, pL, cL, rfl, s1, s2, s3, s4, s5, s6⟩ := k
  dsimp only at *
  subst h0
  obtain ⟨r0, r1, r2, r3, r4, r5, r6, r7, rfl⟩ := eight lR
  simp only [stA, List.getD_cons_zero, List.getD_cons_succ]
  have HS := Hid.in (And.intro s1 (And.intro s2 (And.intro s3 s4)))
  have HX := Hid.in hx
  have HXO := Hid.in hxo
  have HO5 := Hid.in (And.intro s5 s6)
  have HGG := Hid.in hG
  have HA := Hid.in ((Blk.new w 50 #[.int .u8 0, .int .u32 pc, .int .u32 r0, .int .u32 r1, .int .u32 r2, .int .u32 r3, .int .u32 r4, .int .u32 r5, .int .u32 r6, .int .u32 r7, .slice pS S.length cS, .slice pH hv.length cH, .slice pL L.length cL]).grow (new_alloc _ (.cells #[.int .u8 0, .int .u32 0, .int .u32 0, .int .u32 0, .int .u32 0, .int .u32 0, .int .u32 0, .int .u32 0, .int .u32 0, .int .u32 0, .slice none 0 0, .slice none 0 0, .slice none 0 0] 50)))
  have HZ := Hid.in (blk_two w 50 50 #[.int .u8 0, .int .u32 pc, .int .u32 r0, .int .u32 r1, .int .u32 r2, .int .u32 r3, .int .u32 r4, .int .u32 r5, .int .u32 r6, .int .u32 r7, .slice pS S.length cS, .slice pH hv.length cH, .slice pL L.length cL] #[.int .u8 0, .int .u32 0, .int .u32 0, .int .u32 0, .int .u32 0, .int .u32 0, .int .u32 0, .int .u32 0, .int .u32 0, .int .u32 0, .slice none 0 0, .slice none 0 0, .slice none 0 0])
  have HN := Hid.in (below_alloc (new_alloc w (.cells #[.int .u8 0, .int .u32 pc, .int .u32 r0, .int .u32 r1, .int .u32 r2, .int .u32 r3, .int .u32 r4, .int .u32 r5, .int .u32 r6, .int .u32 r7, .slice pS S.length cS, .slice pH hv.length cH, .slice pL L.length cL] 50)) (.cells #[.int .u8 0, .int .u32 0, .int .u32 0, .int .u32 0, .int .u32 0, .int .u32 0, .int .u32 0, .int .u32 0, .int .u32 0, .int .u32 0, .slice none 0 0, .slice none 0 0, .slice none 0 0] 50))
  clear s1 s2 s3 s4 s5 s6 lR hx hxo hG
  have hSt := fun (W : World) (h1 : LRow W pL L) (h2 : Row W p8 xs) (h3 : Row W pH hv) => rstep_any p8 pL pH d cL cH pc L xs hv hold W hri lL h1 hxl h2 hpc (by omega) h3 HS.out.2.2.2
  generalize stpR L xs pc hv hold = s at hSt ⊢
  obtain ⟨so, sg, si, se, sL⟩ := s
  dsimp only at hSt
  have HSt := Hid.in hSt
  clear hSt
  by_cases he : se = 0
  · subst he
    rw [movH_ok rfl]
    cases si with
    | false =>
      dsimp only
      go_enter Tryz.func23, Tryz.ntmps23
      go_upto_region 1 with fail
      generalize (w.alloc (.cells #[.int .u8 0, .int .u32 pc, .int .u32 r0, .int .u32 r1, .int .u32 r2, .int .u32 r3, .int .u32 r4, .int .u32 r5, .int .u32 r6, .int .u32 r7, .slice pS S.length cS, .slice pH hv.length cH, .slice pL L.length cL] 50)).alloc (.cells #[.int .u8 0, .int .u32 0, .int .u32 0, .int .u32 0, .int .u32 0, .int .u32 0, .int .u32 0, .int .u32 0, .int .u32 0, .int .u32 0, .slice none 0 0, .slice none 0 0, .slice none 0 0] 50) = w1 at *
      have c0 : w1.cell? ⟨w.heap.size, 0, none⟩ = some (.int .u8 0) := HA.out.cell 0
      have c11 : w1.cell? ⟨w.heap.size, 11, none⟩ = some (.slice pH hv.length cH) := HA.out.cell 11
      have hD := rdone_any pH hv.length cH hv w1 rfl (by omega) (HS.out.2.1.below HN.out)
      rw [hd] at hD
      go_wp2_with (go_at_call 53; refine Hid.out ?_)
      refine Lib.hid ?_
      (with_reducible refine hD.mono ?_)
      rintro e w2 ⟨rfl, hb2⟩
      have HA2 := Hid.in (HA.out.grow hb2)
      have HZ2 := Hid.in (HZ.out.grow hb2)
      have HN2 := Hid.in (below_step HN.out hb2)
      clear hD hb2 HA HZ HN c0 c11
      have c1 : w2.cell? ⟨w.heap.size, 1, none⟩ = some (.int .u32 pc) := HA2.out.cell 1
      have c11 : w2.cell? ⟨w.heap.size, 11, none⟩ = some (.slice pH hv.length cH) := HA2.out.cell 11
      have c12 : w2.cell? ⟨w.heap.size, 12, none⟩ = some (.slice pL L.length cL) := HA2.out.cell 12
      have hPl := rplace_any (pc : Int) pH hv.length cH w2 (by omega) (by omega) (by omega)
      go_wp2_with (go_at_call 54; refine Hid.out ?_)
      refine Lib.hid ?_
      (with_reducible refine hPl.mono ?_)
      rintro e w3 ⟨rfl, hw3⟩
      subst hw3
      clear hPl
      have hSt := HSt.out w3 (HS.out.2.2.1.below HN2.out) (HX.out.below HN2.out) (HS.out.2.1.below HN2.out)
      go_wp2_with (go_at_call 55; refine Hid.out ?_)
      refine Lib.hid ?_
      (with_reducible refine hSt.mono ?_)
      rintro e w4 ⟨v4, p4, c4, rfl, ho4, hr4, hb4⟩
      have HA4 := Hid.in (HA2.out.grow hb4)
      have HZ4 := Hid.in (HZ2.out.grow hb4)
      have HN4 := Hid.in (below_step HN2.out hb4)
      have HO4 := Hid.in ho4
      have HR4 := Hid.in hr4
      have HL3 : Hid (w.heap.size + 1 < w3.heap.size) := HZ2.out.lt
      clear hSt hb4 ho4 hr4 HA2 HZ2 HN2 c1 c11 c12 HSt

      obtain ⟨pO, cO, eO, hrO, hnO⟩ := HO4.out.slice
      subst eO
      have HRO := Hid.in hrO
      have HNO := Hid.in hnO
      clear hrO hnO
      have HOf : Hid (Off (fun j => j = w.heap.size ∨ j = w.heap.size + 1) pO so.length) := by
        rcases HO4.out.shape with ⟨e1, e2⟩ | ⟨g, cap, e1, ho⟩
        · rw [e2]; exact Off.zero _ _
        · have e3 : pO = some ⟨g, 0, none⟩ := by injection e1
          rw [e3]
          have := ho.base
          have := HZ4.out.lt
          have := HL3.out
          exact fun _ => ⟨g, 0, rfl, by rintro (e | e) <;> omega⟩
      have HOG : Hid (Off G pO so.length) := by
        rcases HO4.out.shape with ⟨e1, e2⟩ | ⟨g, cap, e1, ho⟩
        · rw [e2]; exact Off.zero _ _
        · have e3 : pO = some ⟨g, 0, none⟩ := by injection e1
          rw [e3]
          have h1 := ho.base
          have h3 := HL3.out
          exact Off.own HGG.out (by omega)
      have HLf := Hid.in (HR4.out.offH HA4.out HZ4.out (no64 _ _ _ _ _ _ _ _ _ _ _ _ _ _ _ _ _ _ _) (no64 _ _ _ _ _ _ _ _ _ _ _ _ _ _ _ _ _ _ _))
      have c11 : w4.cell? ⟨w.heap.size, 11, none⟩ = some (.slice pH hv.length cH) := HA4.out.cell 11
      have f11 : w4.frozen? ⟨w.heap.size, 11, none⟩ = false := HA4.out.free 11
      have c12 : w4.cell? ⟨w.heap.size, 12, none⟩ = some (.slice pL L.length cL) := HA4.out.cell 12
      have f12 : w4.frozen? ⟨w.heap.size, 12, none⟩ = false := HA4.out.free 12
      have HA5 : Hid (Blk ((w4.setCell ⟨w.heap.size, 11, none⟩ (.slice pO so.length cO)).setCell ⟨w.heap.size, 12, none⟩ (.slice p4 sL.length c4)) w.heap.size 50 #[.int .u8 0, .int .u32 pc, .int .u32 r0, .int .u32 r1, .int .u32 r2, .int .u32 r3, .int .u32 r4, .int .u32 r5, .int .u32 r6, .int .u32 r7, .slice pS S.length cS, .slice pO so.length cO, .slice p4 sL.length c4]) := (HA4.out.set 11 (.slice pO so.length cO)).set 12 (.slice p4 sL.length c4)
      have HZ5 := Hid.in ((HZ4.out.other (k := w.heap.size) (by omega) 11 (.slice pO so.length cO)).other (k := w.heap.size) (by omega) 12 (.slice p4 sL.length c4))
      have HG5 := Hid.in ((grown_setCell w4 w.heap.size 11 (.slice pO so.length cO)).trans (grown_setCell _ w.heap.size 12 (.slice p4 sL.length c4)))
      have HN5 := Hid.in (HN4.out.grown HG5.out HN4.out.size (fun k hk => by injection hk with hk; omega))
      go_upto_region 14 with fail
      generalize (w4.setCell ⟨w.heap.size, 11, none⟩ (.slice pO so.length cO)).setCell ⟨w.heap.size, 12, none⟩ (.slice p4 sL.length c4) = w5 at *
      clear c11 f11 c12 f12
      have HEv := Hid.in (Blk.new w5 41 #[.int .u8 1, .int .i64 0, .int .i64 id, .int .i64 ((pc : Int) + hv.length), .int .u8 0, .int .i64 0, .int .i64 0])
      have HZ6 := Hid.in (HZ5.out.grow (new_alloc w5 (.cells #[.int .u8 1, .int .i64 0, .int .i64 id, .int .i64 ((pc : Int) + hv.length), .int .u8 0, .int .i64 0, .int .i64 0] 41)))
      have HA6 := Hid.in (HA5.out)
      have HN6 := Hid.in (below_alloc HN5.out (.cells #[.int .u8 1, .int .i64 0, .int .i64 id, .int .i64 ((pc : Int) + hv.length), .int .u8 0, .int .i64 0, .int .i64 0] 41))
      go_wp2_with (first
        | (refine load13 HA5.out rfl rfl _ rfl rfl ?_)
        | (refine store13 HZ6.out rfl rfl _ _ rfl rfl rfl rfl rfl ?_; intro w7 hb7 hg7; have HB := Hid.in hb7; have HG := Hid.in hg7; clear hb7 hg7))
      have hld := HB.out.load 50 _ Tryz.underlying50 rfl Tryz.sz50
      have hbb := HN6.out.grown HG.out HN6.out.size (fun k hk => by injection hk with hk; omega)
      have hE7 := HEv.out.kept HG.out (by intro e; injection e with e; have := HZ5.out.lt; omega)
      have hkp : Keeps (fun j => j = w.heap.size ∨ j = w.heap.size + 1) w4 w7 := (((Keeps.refl _ w4).grown HG5.out (fun k e => by injection e with e; exact .inl (.inl e.symm))).alloc _).grown HG.out (fun k e => by injection e with e; exact .inl (.inr e.symm))
      exact bodyPost_ret (v := .tuple #[.agg #[.int .u8 0, .int .u32 pc, .int .u32 r0, .int .u32 r1, .int .u32 r2, .int .u32 r3, .int .u32 r4, .int .u32 r5, .int .u32 r6, .int .u32 r7, .slice pS S.length cS, .slice pO so.length cO, .slice p4 sL.length c4], .slice p8 xs.length d, .slice (some ⟨w5.heap.size, 0, none⟩) 1 1]) (by simp [results, Tryz.results23, asAddr, hld]) rfl ⟨_, p8, d, _, rfl, ⟨pS, cS, pO, cO, p4, c4, rfl, HS.out.1.below hbb, HRO.out.off HOf.out hkp, HR4.out.off HLf.out hkp, HNO.out, HO5.out.1, HOG.out⟩, HX.out.below hbb, HXO.out, (EOwn.at w5 _ hE7).lower HN5.out.size, hbb⟩
    | true =>
      dsimp only
      go_enter Tryz.func23, Tryz.ntmps23
      go_upto_region 1 with fail
      generalize (w.alloc (.cells #[.int .u8 0, .int .u32 pc, .int .u32 r0, .int .u32 r1, .int .u32 r2, .int .u32 r3, .int .u32 r4, .int .u32 r5, .int .u32 r6, .int .u32 r7, .slice pS S.length cS, .slice pH hv.length cH, .slice pL L.length cL] 50)).alloc (.cells #[.int .u8 0, .int .u32 0, .int .u32 0, .int .u32 0, .int .u32 0, .int .u32 0, .int .u32 0, .int .u32 0, .int .u32 0, .int .u32 0, .slice none 0 0, .slice none 0 0, .slice none 0 0] 50) = w1 at *
      have c0 : w1.cell? ⟨w.heap.size, 0, none⟩ = some (.int .u8 0) := HA.out.cell 0
      have c11 : w1.cell? ⟨w.heap.size, 11, none⟩ = some (.slice pH hv.length cH) := HA.out.cell 11
      have hD := rdone_any pH hv.length cH hv w1 rfl (by omega) (HS.out.2.1.below HN.out)
      rw [hd] at hD
      go_wp2_with (go_at_call 53; refine Hid.out ?_)
      refine Lib.hid ?_
      (with_reducible refine hD.mono ?_)
      rintro e w2 ⟨rfl, hb2⟩
      have HA2 := Hid.in (HA.out.grow hb2)
      have HZ2 := Hid.in (HZ.out.grow hb2)
      have HN2 := Hid.in (below_step HN.out hb2)
      clear hD hb2 HA HZ HN c0 c11
      have c1 : w2.cell? ⟨w.heap.size, 1, none⟩ = some (.int .u32 pc) := HA2.out.cell 1
      have c11 : w2.cell? ⟨w.heap.size, 11, none⟩ = some (.slice pH hv.length cH) := HA2.out.cell 11
      have c12 : w2.cell? ⟨w.heap.size, 12, none⟩ = some (.slice pL L.length cL) := HA2.out.cell 12
      have hPl := rplace_any (pc : Int) pH hv.length cH w2 (by omega) (by omega) (by omega)
      go_wp2_with (go_at_call 54; refine Hid.out ?_)
      refine Lib.hid ?_
      (with_reducible refine hPl.mono ?_)
      rintro e w3 ⟨rfl, hw3⟩
      subst hw3
      clear hPl
      have hSt := HSt.out w3 (HS.out.2.2.1.below HN2.out) (HX.out.below HN2.out) (HS.out.2.1.below HN2.out)
      go_wp2_with (go_at_call 55; refine Hid.out ?_)
      refine Lib.hid ?_
      (with_reducible refine hSt.mono ?_)
      rintro e w4 ⟨v4, p4, c4, rfl, ho4, hr4, hb4⟩
      have HA4 := Hid.in (HA2.out.grow hb4)
      have HZ4 := Hid.in (HZ2.out.grow hb4)
      have HN4 := Hid.in (below_step HN2.out hb4)
      have HO4 := Hid.in ho4
      have HR4 := Hid.in hr4
      have HL3 : Hid (w.heap.size + 1 < w3.heap.size) := HZ2.out.lt
      clear hSt hb4 ho4 hr4 HA2 HZ2 HN2 c1 c11 c12 HSt

      obtain ⟨pO, cO, eO, hrO, hnO⟩ := HO4.out.slice
      subst eO
      have HRO := Hid.in hrO
      have HNO := Hid.in hnO
      clear hrO hnO
      have HOf : Hid (Off (fun j => j = w.heap.size ∨ j = w.heap.size + 1) pO so.length) := by
        rcases HO4.out.shape with ⟨e1, e2⟩ | ⟨g, cap, e1, ho⟩
        · rw [e2]; exact Off.zero _ _
        · have e3 : pO = some ⟨g, 0, none⟩ := by injection e1
          rw [e3]
          have := ho.base
          have := HZ4.out.lt
          have := HL3.out
          exact fun _ => ⟨g, 0, rfl, by rintro (e | e) <;> omega⟩
      have HOG : Hid (Off G pO so.length) := by
        rcases HO4.out.shape with ⟨e1, e2⟩ | ⟨g, cap, e1, ho⟩
        · rw [e2]; exact Off.zero _ _
        · have e3 : pO = some ⟨g, 0, none⟩ := by injection e1
          rw [e3]
          have h1 := ho.base
          have h3 := HL3.out
          exact Off.own HGG.out (by omega)
      have HLf := Hid.in (HR4.out.offH HA4.out HZ4.out (no64 _ _ _ _ _ _ _ _ _ _ _ _ _ _ _ _ _ _ _) (no64 _ _ _ _ _ _ _ _ _ _ _ _ _ _ _ _ _ _ _))
      have c11 : w4.cell? ⟨w.heap.size, 11, none⟩ = some (.slice pH hv.length cH) := HA4.out.cell 11
      have f11 : w4.frozen? ⟨w.heap.size, 11, none⟩ = false := HA4.out.free 11
      have c12 : w4.cell? ⟨w.heap.size, 12, none⟩ = some (.slice pL L.length cL) := HA4.out.cell 12
      have f12 : w4.frozen? ⟨w.heap.size, 12, none⟩ = false := HA4.out.free 12
      have HA5 : Hid (Blk ((w4.setCell ⟨w.heap.size, 11, none⟩ (.slice pO so.length cO)).setCell ⟨w.heap.size, 12, none⟩ (.slice p4 sL.length c4)) w.heap.size 50 #[.int .u8 0, .int .u32 pc, .int .u32 r0, .int .u32 r1, .int .u32 r2, .int .u32 r3, .int .u32 r4, .int .u32 r5, .int .u32 r6, .int .u32 r7, .slice pS S.length cS, .slice pO so.length cO, .slice p4 sL.length c4]) := (HA4.out.set 11 (.slice pO so.length cO)).set 12 (.slice p4 sL.length c4)
      have HZ5 := Hid.in ((HZ4.out.other (k := w.heap.size) (by omega) 11 (.slice pO so.length cO)).other (k := w.heap.size) (by omega) 12 (.slice p4 sL.length c4))
      have HG5 := Hid.in ((grown_setCell w4 w.heap.size 11 (.slice pO so.length cO)).trans (grown_setCell _ w.heap.size 12 (.slice p4 sL.length c4)))
      have HN5 := Hid.in (HN4.out.grown HG5.out HN4.out.size (fun k hk => by injection hk with hk; omega))
      go_upto_region 14 with fail
      generalize (w4.setCell ⟨w.heap.size, 11, none⟩ (.slice pO so.length cO)).setCell ⟨w.heap.size, 12, none⟩ (.slice p4 sL.length c4) = w5 at *
      clear c11 f11 c12 f12
      have HEv := Hid.in (Blk.new w5 41 #[.int .u8 1, .int .i64 0, .int .i64 id, .int .i64 ((pc : Int) + hv.length), .int .u8 0, .int .i64 0, .int .i64 1])
      have HZ6 := Hid.in (HZ5.out.grow (new_alloc w5 (.cells #[.int .u8 1, .int .i64 0, .int .i64 id, .int .i64 ((pc : Int) + hv.length), .int .u8 0, .int .i64 0, .int .i64 1] 41)))
      have HA6 := Hid.in (HA5.out)
      have HN6 := Hid.in (below_alloc HN5.out (.cells #[.int .u8 1, .int .i64 0, .int .i64 id, .int .i64 ((pc : Int) + hv.length), .int .u8 0, .int .i64 0, .int .i64 1] 41))
      go_wp2_with (first
        | (refine load13 HA5.out rfl rfl _ rfl rfl ?_)
        | (refine store13 HZ6.out rfl rfl _ _ rfl rfl rfl rfl rfl ?_; intro w7 hb7 hg7; have HB := Hid.in hb7; have HG := Hid.in hg7; clear hb7 hg7))
      have hld := HB.out.load 50 _ Tryz.underlying50 rfl Tryz.sz50
      have hbb := HN6.out.grown HG.out HN6.out.size (fun k hk => by injection hk with hk; omega)
      have hE7 := HEv.out.kept HG.out (by intro e; injection e with e; have := HZ5.out.lt; omega)
      have hkp : Keeps (fun j => j = w.heap.size ∨ j = w.heap.size + 1) w4 w7 := (((Keeps.refl _ w4).grown HG5.out (fun k e => by injection e with e; exact .inl (.inl e.symm))).alloc _).grown HG.out (fun k e => by injection e with e; exact .inl (.inr e.symm))
      exact bodyPost_ret (v := .tuple #[.agg #[.int .u8 0, .int .u32 pc, .int .u32 r0, .int .u32 r1, .int .u32 r2, .int .u32 r3, .int .u32 r4, .int .u32 r5, .int .u32 r6, .int .u32 r7, .slice pS S.length cS, .slice pO so.length cO, .slice p4 sL.length c4], .slice p8 xs.length d, .slice (some ⟨w5.heap.size, 0, none⟩) 1 1]) (by simp [results, Tryz.results23, asAddr, hld]) rfl ⟨_, p8, d, _, rfl, ⟨pS, cS, pO, cO, p4, c4, rfl, HS.out.1.below hbb, HRO.out.off HOf.out hkp, HR4.out.off HLf.out hkp, HNO.out, HO5.out.1, HOG.out⟩, HX.out.below hbb, HXO.out, (EOwn.at w5 _ hE7).lower HN5.out.size, hbb⟩
  · rw [movH_bad he]
    go_enter Tryz.func23, Tryz.ntmps23
    go_upto_region 1 with fail
    generalize (w.alloc (.cells #[.int .u8 0, .int .u32 pc, .int .u32 r0, .int .u32 r1, .int .u32 r2, .int .u32 r3, .int .u32 r4, .int .u32 r5, .int .u32 r6, .int .u32 r7, .slice pS S.length cS, .slice pH hv.length cH, .slice pL L.length cL] 50)).alloc (.cells #[.int .u8 0, .int .u32 0, .int .u32 0, .int .u32 0, .int .u32 0, .int .u32 0, .int .u32 0, .int .u32 0, .int .u32 0, .int .u32 0, .slice none 0 0, .slice none 0 0, .slice none 0 0] 50) = w1 at *
    have c0 : w1.cell? ⟨w.heap.size, 0, none⟩ = some (.int .u8 0) := HA.out.cell 0
    have c11 : w1.cell? ⟨w.heap.size, 11, none⟩ = some (.slice pH hv.length cH) := HA.out.cell 11
    have hD := rdone_any pH hv.length cH hv w1 rfl (by omega) (HS.out.2.1.below HN.out)
    rw [hd] at hD
    go_wp2_with (go_at_call 53; refine Hid.out ?_)
    refine Lib.hid ?_
    (with_reducible refine hD.mono ?_)
    rintro e w2 ⟨rfl, hb2⟩
    have HA2 := Hid.in (HA.out.grow hb2)
    have HZ2 := Hid.in (HZ.out.grow hb2)
    have HN2 := Hid.in (below_step HN.out hb2)
    clear hD hb2 HA HZ HN c0 c11
    have c1 : w2.cell? ⟨w.heap.size, 1, none⟩ = some (.int .u32 pc) := HA2.out.cell 1
    have c11 : w2.cell? ⟨w.heap.size, 11, none⟩ = some (.slice pH hv.length cH) := HA2.out.cell 11
    have c12 : w2.cell? ⟨w.heap.size, 12, none⟩ = some (.slice pL L.length cL) := HA2.out.cell 12
    have hPl := rplace_any (pc : Int) pH hv.length cH w2 (by omega) (by omega) (by omega)
    go_wp2_with (go_at_call 54; refine Hid.out ?_)
    refine Lib.hid ?_
    (with_reducible refine hPl.mono ?_)
    rintro e w3 ⟨rfl, hw3⟩
    subst hw3
    clear hPl
    have hSt := HSt.out w3 (HS.out.2.2.1.below HN2.out) (HX.out.below HN2.out) (HS.out.2.1.below HN2.out)
    go_wp2_with (go_at_call 55; refine Hid.out ?_)
    refine Lib.hid ?_
    (with_reducible refine hSt.mono ?_)
    rintro e w4 ⟨v4, p4, c4, rfl, ho4, hr4, hb4⟩
    have HA4 := Hid.in (HA2.out.grow hb4)
    have HZ4 := Hid.in (HZ2.out.grow hb4)
    have HN4 := Hid.in (below_step HN2.out hb4)
    have HO4 := Hid.in ho4
    have HR4 := Hid.in hr4
    have HL3 : Hid (w.heap.size + 1 < w3.heap.size) := HZ2.out.lt
    clear hSt hb4 ho4 hr4 HA2 HZ2 HN2 c1 c11 c12 HSt
    have n0 : (se != 0) = true := by simpa using he
    have hF := rfault_at id se 0 pc r0 r1 r2 r3 r4 r5 r6 r7 pS pH pL S.length cS hv.length cH L.length cL w4 hpc
    go_wp2_with (first
      | (refine load13 HA4.out rfl rfl _ rfl rfl ?_)
      | (go_at_call 56; refine Hid.out ?_))
    refine Lib.hid ?_
    (with_reducible refine hF.mono ?_)
    rintro e w5 ⟨v', rfl, hE', hb5⟩
    obtain ⟨g', c', rfl, -⟩ := hE'.one7
    have HE := Hid.in hE'
    have HZ5 := Hid.in (HZ4.out.grow hb5)
    have HN5 := Hid.in (below_step HN4.out hb5)
    clear hF hE' hb5
    go_upto_region 8 with fail
    have HA6 := Hid.in (Blk.new w5 50 #[.int .u8 2, .int .u32 pc, .int .u32 r0, .int .u32 r1, .int .u32 r2, .int .u32 r3, .int .u32 r4, .int .u32 r5, .int .u32 r6, .int .u32 r7, .slice pS S.length cS, .slice pH hv.length cH, .slice pL L.length cL])
    have HZ6 := Hid.in (HZ5.out.grow (new_alloc w5 (.cells #[.int .u8 2, .int .u32 pc, .int .u32 r0, .int .u32 r1, .int .u32 r2, .int .u32 r3, .int .u32 r4, .int .u32 r5, .int .u32 r6, .int .u32 r7, .slice pS S.length cS, .slice pH hv.length cH, .slice pL L.length cL] 50)))
    have HN6 := Hid.in (below_alloc HN5.out (.cells #[.int .u8 2, .int .u32 pc, .int .u32 r0, .int .u32 r1, .int .u32 r2, .int .u32 r3, .int .u32 r4, .int .u32 r5, .int .u32 r6, .int .u32 r7, .slice pS S.length cS, .slice pH hv.length cH, .slice pL L.length cL] 50))
    have HE6 := Hid.in (HE.out.alloc (.cells #[.int .u8 2, .int .u32 pc, .int .u32 r0, .int .u32 r1, .int .u32 r2, .int .u32 r3, .int .u32 r4, .int .u32 r5, .int .u32 r6, .int .u32 r7, .slice pS S.length cS, .slice pH hv.length cH, .slice pL L.length cL] 50))
    generalize w5.alloc (.cells #[.int .u8 2, .int .u32 pc, .int .u32 r0, .int .u32 r1, .int .u32 r2, .int .u32 r3, .int .u32 r4, .int .u32 r5, .int .u32 r6, .int .u32 r7, .slice pS S.length cS, .slice pH hv.length cH, .slice pL L.length cL] 50) = w6 at *
    go_wp2_with (first
      | (refine load13 HA6.out rfl rfl _ rfl rfl ?_)
      | (refine store13 HZ6.out rfl rfl _ _ rfl rfl rfl rfl rfl ?_; intro w7 hb7 hg7; have HB := Hid.in hb7; have HG := Hid.in hg7; clear hb7 hg7))
    have hld := HB.out.load 50 _ Tryz.underlying50 rfl Tryz.sz50
    have hbb := HN6.out.grown HG.out HN6.out.size (fun k hk => by injection hk with hk; omega)
    have hE7 : EOwn 41 w7 w4.heap.size (.slice (some ⟨g', 0, none⟩) 1 c') _ := rowOther HE6.out HG.out HZ6.out (by decide)
    exact bodyPost_ret (v := .tuple #[.agg #[.int .u8 2, .int .u32 pc, .int .u32 r0, .int .u32 r1, .int .u32 r2, .int .u32 r3, .int .u32 r4, .int .u32 r5, .int .u32 r6, .int .u32 r7, .slice pS S.length cS, .slice pH hv.length cH, .slice pL L.length cL], .slice p8 xs.length d, .slice (some ⟨g', 0, none⟩) 1 c']) (by simp [results, Tryz.results23, asAddr, hld]) rfl ⟨_, p8, d, _, rfl, ⟨pS, cS, pH, cH, pL, cL, rfl, HS.out.1.below hbb, HS.out.2.1.below hbb, HS.out.2.2.1.below hbb, HS.out.2.2.2, HO5.out.1, HO5.out.2⟩, HX.out.below hbb, HXO.out, hE7.lower HN4.out.size, hbb⟩
end Go.Proofs.YtnpaijbkhmnfpaaGreat

/- Ours: the reference's side beside two harts, and the law's own variables: HartPlays' parts. -/
namespace Go.Proofs.YtnpaijbkhmnfpaaGreat
open Go.RowKit Go.Maps

theorem Off.less {G G' : Nat → Prop} {p : Option Addr} {n : Nat} (h : Off G p n) (hG : ∀ j, G' j → G j) : Off G' p n := fun h0 => by
  obtain ⟨g, o, e, hg⟩ := h h0
  exact ⟨g, o, e, fun hj => hg (hG g hj)⟩
theorem Off.wideB {G : Nat → Prop} {w : World} {p : Option Addr} {n x y : Nat} (h : Off G p n) (hp : ∀ g o, 0 < n → p = some ⟨g, o, none⟩ → g < w.heap.size) (g1 : w.heap.size ≤ x) (g2 : w.heap.size ≤ y) : Off (fun j => G j ∨ j = x ∨ j = y) p n := fun h0 => by
  obtain ⟨g, o, e, hg⟩ := h h0
  have := hp g o h0 e
  exact ⟨g, o, e, by rintro (e | e | e); exact hg e; all_goals omega⟩
theorem Row.lt0 {w : World} {p : Option Addr} {xs : List Int} (h : Row w p xs) : ∀ g o, 0 < xs.length → p = some ⟨g, o, none⟩ → g < w.heap.size := fun g o h0 e => by
  obtain ⟨b, o', e', hc⟩ := h h0
  rw [e] at e'
  injection e' with e'; injection e' with e1 e2; subst e1 e2
  exact cell_in (hc 0 h0)
theorem PRow.lt0 {w : World} {p : Option Addr} {xs : List Int} (h : PRow w p xs) : ∀ g o, 0 < xs.length → p = some ⟨g, o, none⟩ → g < w.heap.size := fun g o h0 e => by
  obtain ⟨b, o', e', hc⟩ := h h0
  rw [e] at e'
  injection e' with e'; injection e' with e1 e2; subst e1 e2
  exact cell_in (hc 0 h0)
/-- a hart's cells: an int64 stands first only -/
theorem hr64 (id st pc : Int) (R : List Int) (p0 p1 : Option Addr) (n0 n1 c0 c1 l : Nat) : ∀ (k : Nat) (x : Int), (hrA id st pc R (.slice p0 n0 c0) (.slice p1 n1 c1) l)[k]? = some (Value.int .i64 x) → k = 0
  | 0, x => by simp
  | 1, x => by simp [hrA]
  | 2, x => by simp [hrA]
  | 3, x => by simp [hrA]
  | 4, x => by simp [hrA]
  | 5, x => by simp [hrA]
  | 6, x => by simp [hrA]
  | 7, x => by simp [hrA]
  | 8, x => by simp [hrA]
  | 9, x => by simp [hrA]
  | 10, x => by simp [hrA]
  | 11, x => by simp [hrA]
  | 12, x => by simp [hrA]
  | 13, x => by simp [hrA]
  | k + 14, x => by simp [hrA]
/-- a list of lines lies apart from what a hart's step turns -/
theorem HM.offL {w0 w : World} {G : Nat → Prop} {q mg h l b : Nat} {id : Int} {H : Hs} {xs : List Int} (k : HM w0 w G q mg h l b id H xs) {p : Option Addr} {L : List Ln} (hr : LRow w p L) : Off (G3 h b mg) p L.length := fun h0 => by
  obtain ⟨b', o, rfl, hc⟩ := hr.five h0
  obtain ⟨c0, -, c2, -, -⟩ := hc 0 h0
  refine ⟨b', o, rfl, ?_⟩
  obtain ⟨pS, cS, pH, cH, hB, -⟩ := k.hat.blk
  rintro (rfl | rfl | rfl)
  · rw [hB.cell] at c0 c2
    have e := hr64 _ _ _ _ _ _ _ _ _ _ _ _ _ c0
    rw [show o + 0 * 5 + 2 = 2 by omega] at c2
    simp [hrA] at c2
  · obtain ⟨es, c, hM⟩ := k.hat.lin.isMap
    simp [World.cell?, hM] at c0
  · obtain ⟨cur, _, e', _, _, e5, _⟩ := k.mem.own.parts
    have c0' : cur[o + 0 * 5]? = some (.int .i64 L[0].g) := by simpa [World.cell?, e'] using c0
    have hi := (Array.getElem?_eq_some_iff.1 c0').1
    have h1 := k.mem.own.cell (o + 0 * 5) (by omega)
    rw [c0] at h1
    simp at h1
theorem HM.g3 {w0 w : World} {G : Nat → Prop} {q mg h l b : Nat} {id : Int} {H : Hs} {xs : List Int} (k : HM w0 w G q mg h l b id H xs) : ∀ j, G3 h b mg j → G j := by
  rintro j (rfl | rfl | rfl)
  · exact k.hat.gh
  · exact k.hat.gb
  · exact k.gm
/-- the reference's hart stays while the program's steps -/
theorem HvN.keeps {w0 w w' : World} {G : Nat → Prop} {q mg h l b : Nat} {id : Int} {H H' : Hs} {xs : List Int} {V : Value} (v : HvN G w H' V) (k : HM w0 w G q mg h l b id H xs) (hk : Keeps (G3 h b mg) w w') : HvN G w' H' V := by
  obtain ⟨pS, cS, pH, cH, pL, cL, rfl, s1, s2, s3, s4, s5, s6⟩ := v
  exact ⟨pS, cS, pH, cH, pL, cL, rfl, s1.off (s5.less k.g3) hk, s2.off (s6.less k.g3) hk, s3.off (k.offL s3) hk, s4, s5, s6⟩
theorem HvN.wide {w w' : World} {G : Nat → Prop} {x y : Nat} {H : Hs} {V : Value} (v : HvN G w H V) (hb : Below w.heap.size w w') (g1 : w.heap.size ≤ x) (g2 : w.heap.size ≤ y) : HvN (fun j => G j ∨ j = x ∨ j = y) w' H V := by
  obtain ⟨pS, cS, pH, cH, pL, cL, rfl, s1, s2, s3, s4, s5, s6⟩ := v
  exact ⟨pS, cS, pH, cH, pL, cL, rfl, s1.below hb, s2.below hb, s3.below hb, s4, s5.wideB s1.lt0 g1 g2, s6.wideB s2.lt0 g1 g2⟩
/-- .. and while a variable of the law is written that holds no int64 -/
theorem HvN.at_ {w w' : World} {G : Nat → Prop} {g : Nat} {T : TypeId} {c : Array Value} {H : Hs} {V : Value} (v : HvN G w H V) (hg : G g) (hB : Blk w g T c) (nc : ∀ (k : Nat) (x : Int), c[k]? ≠ some (Value.int .i64 x)) (hk : Keeps (fun j => j = g) w w') : HvN G w' H V := by
  obtain ⟨pS, cS, pH, cH, pL, cL, rfl, s1, s2, s3, s4, s5, s6⟩ := v
  have hs : ∀ j, j = g → G j := fun j e => e ▸ hg
  refine ⟨pS, cS, pH, cH, pL, cL, rfl, s1.off (s5.less hs) hk, s2.off (s6.less hs) hk, s3.off (fun h0 => ?_) hk, s4, s5, s6⟩
  obtain ⟨b', o, rfl, hc⟩ := s3.five h0
  refine ⟨b', o, rfl, ?_⟩
  rintro rfl
  have c0 := (hc 0 h0).1
  rw [hB.cell] at c0
  exact nc _ _ c0
theorem HvN.size {w : World} {G : Nat → Prop} {H : Hs} {S : Array Value} (v : HvN G w H (.agg S)) : S.size = 13 ∧ ∀ (k : Nat) (x : Int), S[k]? ≠ some (Value.int .i64 x) := by
  obtain ⟨pS, cS, pH, cH, pL, cL, e, -⟩ := v
  injection e with e
  subst e
  exact ⟨rfl, no64 _ _ _ _ _ _ _ _ _ _ _ _ _ _ _ _ _ _ _⟩
theorem two64 {A B : Array Value} (h1 : ∀ (k : Nat) (x : Int), A[k]? ≠ some (Value.int .i64 x)) (h2 : ∀ (k : Nat) (x : Int), B[k]? ≠ some (Value.int .i64 x)) : ∀ (k : Nat) (x : Int), (A ++ B)[k]? ≠ some (Value.int .i64 x) := fun k x => by
  rw [Array.getElem?_append]
  split
  · exact h1 _ _
  · exact h2 _ _
theorem ptr64 (a b : Option Addr) : ∀ (k : Nat) (x : Int), (#[Value.pointer a, .pointer b])[k]? ≠ some (Value.int .i64 x)
  | 0, x => by simp
  | 1, x => by simp
  | k + 2, x => by simp
/-- a variable of the law is written: harts and memory stay -/
theorem HM.at_ {w0 w w' : World} {G : Nat → Prop} {q mg h l b g : Nat} {id : Int} {H : Hs} {xs : List Int} {T : TypeId} {c : Array Value} (k : HM w0 w G q mg h l b id H xs) (hg : G g) (hB : Blk w g T c) (h1 : T ≠ 56) (h2 : T ≠ 5) (hb : w0.heap.size ≤ g) (hk : Keeps (fun j => j = g) w w') : HM w0 w' G q mg h l b id H xs := by
  have n := k.no3 (show w.heap[g]? = some (.cells c T (0, 0)) from hB) h1 h2
  refine ⟨k.hat.keeps hk (fun j e => e ▸ hg) (fun e => n (.inl e.symm)) (fun e => n (.inr (.inl e.symm))), k.mem.keepsG hk (fun e => k.gq (e ▸ hg)) (fun e => n (.inr (.inr e.symm))), k.bel.trans (hk.below k.bel.size (fun j e => e ▸ hb)), k.gm, k.gq, fun j hj => Nat.lt_of_lt_of_le (k.lt j hj) hk.size⟩
theorem TH.at_ {w0 w w' : World} {G : Nat → Prop} {q mg h l b h2 l2 b2 g : Nat} {id id2 : Int} {H H2 : Hs} {xs : List Int} {T : TypeId} {c : Array Value} (k : TH w0 w G q mg h l b id H h2 l2 b2 id2 H2 xs) (hg : G g) (hB : Blk w g T c) (t1 : T ≠ 56) (t2 : T ≠ 5) (hb : w0.heap.size ≤ g) (hk : Keeps (fun j => j = g) w w') : TH w0 w' G q mg h l b id H h2 l2 b2 id2 H2 xs :=
  ⟨k.k1.at_ hg hB t1 t2 hb hk, k.k2.at_ hg hB t1 t2 hb hk, k.n1, k.n2⟩
theorem keeps_grown {w w' : World} {g : Nat} (h : w.grownBy w' (some g)) : Keeps (fun j => j = g) w w' :=
  ⟨h.os, h.tape, h.output, h.size, fun j hj hn => h.block j hj (fun e => hn (by injection e))⟩

/-- the law's two arrays, the reference's two harts and its memory -/
structure RF (w0 w : World) (G : Nat → Prop) (h1 h2 ga gs : Nat) (H1 H2 : Hs) (xs : List Int) (S1 S2 : Array Value) (p : Option Addr) : Prop where
  arr : Blk w ga 63 #[.pointer (some ⟨h1, 0, none⟩), .pointer (some ⟨h2, 0, none⟩)]
  sb : Blk w gs 65 (S1 ++ S2)
  s1 : HvN G w H1 (.agg S1)
  s2 : HvN G w H2 (.agg S2)
  row : Row w p xs
  off : Off G p xs.length
  ia : G ga
  is_ : G gs
  ba : w0.heap.size ≤ ga
  bs : w0.heap.size ≤ gs
section
variable {w0 w w' : World} {G : Nat → Prop} {q mg h l b h1 h2 ga gs : Nat} {id : Int} {H H1 H2 : Hs} {xs ys : List Int} {S1 S2 : Array Value} {p : Option Addr}
theorem RF.ne (k : RF w0 w G h1 h2 ga gs H1 H2 xs S1 S2 p) : ga ≠ gs := fun e => by
  have e1 := k.arr
  rw [e] at e1
  have e2 : w.heap[gs]? = _ := k.sb
  rw [show w.heap[gs]? = _ from e1] at e2
  injection e2 with e2
  injection e2 with _ e2 _
  exact absurd e2 (by decide)
theorem RF.below (k : RF w0 w G h1 h2 ga gs H1 H2 xs S1 S2 p) (hb : Below w.heap.size w w') : RF w0 w' G h1 h2 ga gs H1 H2 xs S1 S2 p :=
  ⟨k.arr.grow hb, k.sb.grow hb, k.s1.below hb, k.s2.below hb, k.row.below hb, k.off, k.ia, k.is_, k.ba, k.bs⟩
/-- the program's step, sync, write -/
theorem RF.keeps (k : RF w0 w G h1 h2 ga gs H1 H2 xs S1 S2 p) (m : HM w0 w G q mg h l b id H ys) (hk : Keeps (G3 h b mg) w w') : RF w0 w' G h1 h2 ga gs H1 H2 xs S1 S2 p :=
  ⟨(hk.block ga k.arr.lt (m.no3 (show w.heap[ga]? = some (.cells _ 63 (0, 0)) from k.arr) (by decide) (by decide))).trans k.arr, (hk.block gs k.sb.lt (m.no3 (show w.heap[gs]? = some (.cells _ 65 (0, 0)) from k.sb) (by decide) (by decide))).trans k.sb, k.s1.keeps m hk, k.s2.keeps m hk, k.row.off (k.off.less m.g3) hk, k.off, k.ia, k.is_, k.ba, k.bs⟩
/-- the reference's answer is stored: the first hart's, the second's -/
theorem RF.put1 {H1' : Hs} {xs' : List Int} {S1' : Array Value} {p' : Option Addr} (k : RF w0 w G h1 h2 ga gs H1 H2 xs S1 S2 p) (hv : HvN G w H1' (.agg S1')) (hr : Row w p' xs') (ho : Off G p' xs'.length) (hB : Blk w' gs 65 (S1' ++ S2)) (hg : w.grownBy w' (some gs)) : RF w0 w' G h1 h2 ga gs H1' H2 xs' S1' S2 p' := by
  have hk := keeps_grown hg
  have nc := two64 k.s1.size.2 k.s2.size.2
  exact ⟨k.arr.kept hg (fun e => k.ne (by injection e)), hB, hv.at_ k.is_ k.sb nc hk, k.s2.at_ k.is_ k.sb nc hk, hr.off (ho.less (fun j (e : j = gs) => e ▸ k.is_)) hk, ho, k.ia, k.is_, k.ba, k.bs⟩
theorem RF.put2 {H2' : Hs} {xs' : List Int} {S2' : Array Value} {p' : Option Addr} (k : RF w0 w G h1 h2 ga gs H1 H2 xs S1 S2 p) (hv : HvN G w H2' (.agg S2')) (hr : Row w p' xs') (ho : Off G p' xs'.length) (hB : Blk w' gs 65 (S1 ++ S2')) (hg : w.grownBy w' (some gs)) : RF w0 w' G h1 h2 ga gs H1 H2' xs' S1 S2' p' := by
  have hk := keeps_grown hg
  have nc := two64 k.s1.size.2 k.s2.size.2
  exact ⟨k.arr.kept hg (fun e => k.ne (by injection e)), hB, k.s1.at_ k.is_ k.sb nc hk, hv.at_ k.is_ k.sb nc hk, hr.off (ho.less (fun j (e : j = gs) => e ▸ k.is_)) hk, ho, k.ia, k.is_, k.ba, k.bs⟩
/-- the reference's memory is written -/
theorem RF.mem {xs' : List Int} {p' : Option Addr} (k : RF w0 w G h1 h2 ga gs H1 H2 xs S1 S2 p) (hr : Row w p' xs') (ho : Off G p' xs'.length) : RF w0 w G h1 h2 ga gs H1 H2 xs' S1 S2 p' := ⟨k.arr, k.sb, k.s1, k.s2, hr, ho, k.ia, k.is_, k.ba, k.bs⟩
/-- a copy was made -/
theorem RF.wide {x y : Nat} (k : RF w0 w G h1 h2 ga gs H1 H2 xs S1 S2 p) (hb : Below w.heap.size w w') (g1 : w.heap.size ≤ x) (g2 : w.heap.size ≤ y) : RF w0 w' (fun j => G j ∨ j = x ∨ j = y) h1 h2 ga gs H1 H2 xs S1 S2 p :=
  ⟨k.arr.grow hb, k.sb.grow hb, k.s1.wide hb g1 g2, k.s2.wide hb g1 g2, k.row.below hb, k.off.wideB k.row.lt0 g1 g2, .inl k.ia, .inl k.is_, k.ba, k.bs⟩
/-- .. and put in its hart's place -/
theorem RF.turn {h1' h2' : Nat} (k : RF w0 w G h1 h2 ga gs H1 H2 xs S1 S2 p) (hB : Blk w' ga 63 #[.pointer (some ⟨h1', 0, none⟩), .pointer (some ⟨h2', 0, none⟩)]) (hg : w.grownBy w' (some ga)) : RF w0 w' G h1' h2' ga gs H1 H2 xs S1 S2 p := by
  have hk := keeps_grown hg
  have nc := ptr64 (some ⟨h1, 0, none⟩) (some ⟨h2, 0, none⟩)
  exact ⟨hB, k.sb.kept hg (fun e => k.ne (by injection e with e; exact e.symm)), k.s1.at_ k.ia k.arr nc hk, k.s2.at_ k.ia k.arr nc hk, k.row.off (k.off.less (fun j (e : j = ga) => e ▸ k.ia)) hk, k.off, k.ia, k.is_, k.ba, k.bs⟩
end
end Go.Proofs.YtnpaijbkhmnfpaaGreat

/- Ours: an array of two harts: one of them is read, one is stored. -/
namespace Go.Proofs.YtnpaijbkhmnfpaaGreat
open Go.RowKit Go.Maps

theorem Blk.lo {w : World} {g : Nat} {T : TypeId} {A B : Array Value} (h : Blk w g T (A ++ B)) : w.rangeAt g 0 A.toList := fun j v hv => by
  refine h.range j v ?_
  rw [Array.toList_append, List.getElem?_append_left (List.getElem?_eq_some_iff.1 hv).1]
  exact hv
theorem Blk.hi {w : World} {g : Nat} {T : TypeId} {A B : Array Value} (h : Blk w g T (A ++ B)) : w.rangeAt g A.size B.toList := fun j v hv => by
  have := h.range (A.size + j) v (by
    rw [Array.toList_append, List.getElem?_append_right (by simp)]
    simpa using hv)
  rwa [Nat.zero_add] at this
/-- a block is what its two ranges say -/
theorem Blk.ofTwo {w w' : World} {g : Nat} {T : TypeId} {A B A' B' : Array Value} (vs : List Value) (o : Nat) (h : Blk w g T (A ++ B)) (e : w' = w.setCells g o vs) (h1 : w'.rangeAt g 0 A'.toList) (h2 : w'.rangeAt g A'.size B'.toList) (ha : A'.size = A.size) (hb : B'.size = B.size) : Blk w' g T (A' ++ B') := by
  obtain ⟨c2, k1, k2⟩ := Blk.some_after g T vs o w _ h
  rw [← e] at k1
  have : c2 = A' ++ B' := by
    apply Array.ext (by rw [k2, Array.size_append, Array.size_append]; omega)
    intro i hi hi'
    by_cases hlt : i < A'.size
    · have hr := h1 i A'[i] (by simp [hlt])
      rw [Nat.zero_add, k1.cell, Array.getElem?_eq_getElem hi] at hr
      injection hr with hr
      rw [hr, Array.getElem_append_left hlt]
    · have hi2 : i - A'.size < B'.size := by rw [Array.size_append] at hi'; omega
      have hr := h2 (i - A'.size) B'[i - A'.size] (by simp [hi2])
      rw [show A'.size + (i - A'.size) = i by omega, k1.cell, Array.getElem?_eq_getElem hi] at hr
      injection hr with hr
      rw [hr, Array.getElem_append_right (by omega)]
  rw [← this]
  exact k1
theorem load_lo {ops : Array Oper} {rest : List Oper} {o : Oper} {a : Act} {w : World} {Q : Exit → Act → World → Prop} {g : Nat} {A B : Array Value} (hB : Blk w g 65 (A ++ B)) (hs : A.size = 13) (hg : o.guard = none) (p : Operand) (ho : o.op = .load 50 p)
    (hp : a.eval p = .pointer (some ⟨g, 0, none⟩)) (h : wpList Tryz.prog ops Q rest (a.put o.dst (.agg A)) w) : wpList Tryz.prog ops Q (o :: rest) a w :=
  wpList_load_mid hg 50 p ho g 0 hp A.toList _ hB.lo Tryz.underlying50 rfl (by rw [Array.length_toList, hs]; exact Tryz.sz50) (by simpa using h)
theorem load_hi {ops : Array Oper} {rest : List Oper} {o : Oper} {a : Act} {w : World} {Q : Exit → Act → World → Prop} {g : Nat} {A B : Array Value} (hB : Blk w g 65 (A ++ B)) (ha : A.size = 13) (hs : B.size = 13) (hg : o.guard = none) (p : Operand) (ho : o.op = .load 50 p)
    (hp : a.eval p = .pointer (some ⟨g, 13, none⟩)) (h : wpList Tryz.prog ops Q rest (a.put o.dst (.agg B)) w) : wpList Tryz.prog ops Q (o :: rest) a w :=
  wpList_load_mid hg 50 p ho g 13 hp B.toList _ (ha ▸ hB.hi) Tryz.underlying50 rfl (by rw [Array.length_toList, hs]; exact Tryz.sz50) (by simpa using h)
theorem store_lo {ops : Array Oper} {rest : List Oper} {o : Oper} {a : Act} {w : World} {Q : Exit → Act → World → Prop} {g : Nat} {A B A' : Array Value} (hB : Blk w g 65 (A ++ B)) (ha : A.size = 13) (hs : A'.size = 13) (hg : o.guard = none) (p x : Operand) (ho : o.op = .store 50 p x) (hd : o.dst = none)
    (hp : a.eval p = .pointer (some ⟨g, 0, none⟩)) (hx : a.eval x = .agg A') (h1 : A'.all (·.oneCell') = true)
    (h : ∀ w', Blk w' g 65 (A' ++ B) → w.grownBy w' (some g) → wpList Tryz.prog ops Q rest a w') : wpList Tryz.prog ops Q (o :: rest) a w := by
  have ht : w.there g 0 A'.size := hB.there 0 _ (by rw [Array.size_append]; omega)
  refine wpList_store_mid hg 50 p x ho g 0 A' hp hx ht (by rw [hs]; exact Tryz.sz50) h1 ?_
  rw [hd]
  refine h _ (Blk.ofTwo A'.toList 0 hB rfl (World.rangeAt_setCells_same w g 0 _ (by rw [Array.length_toList]; exact ht)) (World.rangeAt_setCells_apart (hs ▸ ha ▸ hB.hi) _ _ _ (.inr (.inr (by rw [Array.length_toList]; omega)))) (by omega) rfl) (grown_setCells g _ _ _)
theorem store_hi {ops : Array Oper} {rest : List Oper} {o : Oper} {a : Act} {w : World} {Q : Exit → Act → World → Prop} {g : Nat} {A B B' : Array Value} (hB : Blk w g 65 (A ++ B)) (ha : A.size = 13) (hb : B.size = 13) (hs : B'.size = 13) (hg : o.guard = none) (p x : Operand) (ho : o.op = .store 50 p x) (hd : o.dst = none)
    (hp : a.eval p = .pointer (some ⟨g, 13, none⟩)) (hx : a.eval x = .agg B') (h1 : B'.all (·.oneCell') = true)
    (h : ∀ w', Blk w' g 65 (A ++ B') → w.grownBy w' (some g) → wpList Tryz.prog ops Q rest a w') : wpList Tryz.prog ops Q (o :: rest) a w := by
  have ht : w.there g 13 B'.size := hB.there 13 _ (by rw [Array.size_append]; omega)
  refine wpList_store_mid hg 50 p x ho g 13 B' hp hx ht (by rw [hs]; exact Tryz.sz50) h1 ?_
  rw [hd]
  refine h _ (Blk.ofTwo B'.toList 13 hB rfl (World.rangeAt_setCells_apart hB.lo _ _ _ (.inr (.inl (by rw [Array.length_toList]; omega)))) ?_ rfl (by omega)) (grown_setCells g _ _ _)
  rw [ha]
  exact World.rangeAt_setCells_same w g 13 _ (by rw [Array.length_toList]; exact ht)
/-- a hart's value: each of its cells is one -/
theorem HvN.one {w : World} {G : Nat → Prop} {H : Hs} {S : Array Value} (v : HvN G w H (.agg S)) : S.all (·.oneCell') = true := by
  obtain ⟨pS, cS, pH, cH, pL, cL, e, -⟩ := v
  injection e with e
  subst e
  unfold stA
  rw [List.all_toArray]
  rfl
end Go.Proofs.YtnpaijbkhmnfpaaGreat

/- Ours: the cells of one of two harts in an array. -/
namespace Go.Proofs.YtnpaijbkhmnfpaaGreat
open Go.RowKit Go.Maps

theorem cells_lo {W : World} {gs : Nat} {B : Array Value} {v0 v1 v2 v3 v4 v5 v6 v7 v8 v9 v10 v11 v12 : Value} (h : Blk W gs 65 (#[v0, v1, v2, v3, v4, v5, v6, v7, v8, v9, v10, v11, v12] ++ B)) : W.cell? ⟨gs, 0, none⟩ = some v0 ∧ W.cell? ⟨gs, 1, none⟩ = some v1 ∧ W.cell? ⟨gs, 2, none⟩ = some v2 ∧ W.cell? ⟨gs, 3, none⟩ = some v3 ∧ W.cell? ⟨gs, 4, none⟩ = some v4 ∧ W.cell? ⟨gs, 5, none⟩ = some v5 ∧ W.cell? ⟨gs, 6, none⟩ = some v6 ∧ W.cell? ⟨gs, 7, none⟩ = some v7 ∧ W.cell? ⟨gs, 8, none⟩ = some v8 ∧ W.cell? ⟨gs, 9, none⟩ = some v9 ∧ W.cell? ⟨gs, 10, none⟩ = some v10 ∧ W.cell? ⟨gs, 11, none⟩ = some v11 ∧ W.cell? ⟨gs, 12, none⟩ = some v12 :=
  ⟨h.lo 0 v0 rfl, h.lo 1 v1 rfl, h.lo 2 v2 rfl, h.lo 3 v3 rfl, h.lo 4 v4 rfl, h.lo 5 v5 rfl, h.lo 6 v6 rfl, h.lo 7 v7 rfl, h.lo 8 v8 rfl, h.lo 9 v9 rfl, h.lo 10 v10 rfl, h.lo 11 v11 rfl, h.lo 12 v12 rfl⟩
theorem cells_hi {W : World} {gs : Nat} {A : Array Value} {v0 v1 v2 v3 v4 v5 v6 v7 v8 v9 v10 v11 v12 : Value} (h : Blk W gs 65 (A ++ #[v0, v1, v2, v3, v4, v5, v6, v7, v8, v9, v10, v11, v12])) (ha : A.size = 13) : W.cell? ⟨gs, 13, none⟩ = some v0 ∧ W.cell? ⟨gs, 14, none⟩ = some v1 ∧ W.cell? ⟨gs, 15, none⟩ = some v2 ∧ W.cell? ⟨gs, 16, none⟩ = some v3 ∧ W.cell? ⟨gs, 17, none⟩ = some v4 ∧ W.cell? ⟨gs, 18, none⟩ = some v5 ∧ W.cell? ⟨gs, 19, none⟩ = some v6 ∧ W.cell? ⟨gs, 20, none⟩ = some v7 ∧ W.cell? ⟨gs, 21, none⟩ = some v8 ∧ W.cell? ⟨gs, 22, none⟩ = some v9 ∧ W.cell? ⟨gs, 23, none⟩ = some v10 ∧ W.cell? ⟨gs, 24, none⟩ = some v11 ∧ W.cell? ⟨gs, 25, none⟩ = some v12 := by
  have k := h.hi
  rw [ha] at k
  exact ⟨k 0 v0 rfl, k 1 v1 rfl, k 2 v2 rfl, k 3 v3 rfl, k 4 v4 rfl, k 5 v5 rfl, k 6 v6 rfl, k 7 v7 rfl, k 8 v8 rfl, k 9 v9 rfl, k 10 v10 rfl, k 11 v11 rfl, k 12 v12 rfl⟩
theorem HvN.cells {w : World} {G : Nat → Prop} {H : Hs} {S : Array Value} (v : HvN G w H (.agg S)) (lR : H.R.length = 8) : ∃ (r0 r1 r2 r3 r4 r5 r6 r7 : Int) (pS : Option Addr) (cS : Nat) (pH : Option Addr) (cH : Nat) (pL : Option Addr) (cL : Nat), S = #[.int .u8 H.st, .int .u32 H.pc, .int .u32 r0, .int .u32 r1, .int .u32 r2, .int .u32 r3, .int .u32 r4, .int .u32 r5, .int .u32 r6, .int .u32 r7, .slice pS H.S.length cS, .slice pH H.hv.length cH, .slice pL H.L.length cL] := by
  obtain ⟨pS, cS, pH, cH, pL, cL, e, -⟩ := v
  injection e with e
  obtain ⟨st, pc, R, SS, hv, L⟩ := H
  obtain ⟨r0, r1, r2, r3, r4, r5, r6, r7, rfl⟩ := eight lR
  exact ⟨r0, r1, r2, r3, r4, r5, r6, r7, pS, cS, pH, cH, pL, cL, by rw [e]; rfl⟩
end Go.Proofs.YtnpaijbkhmnfpaaGreat

/- Four stores into one variable. -/
namespace Go.Proofs.YtnpaijbkhmnfpaaGreat
open Go.RowKit

theorem Own.far {w : World} {B g h i cap : Nat} {v : Value} {xs : List Int} (ho : Own w B g cap xs) (hne : h ≠ g) : Own (w.setCell ⟨h, i, none⟩ v) B g cap xs := by
  obtain ⟨cur, h1, h2, h3, h4, h5, h6⟩ := ho.parts
  exact Own.mk h1 ((Below.heap_setCell _ _ _ _ (fun e => hne e.symm)).trans h2) h3 h4 h5 h6
theorem Var4.far {w : World} {g h i : Nat} {v x0 x1 x2 x3 : Value} (hv : Var4 w g x0 x1 x2 x3) (hne : h ≠ g) : Var4 (w.setCell ⟨h, i, none⟩ v) g x0 x1 x2 x3 :=
  ⟨hv.1.store hne, fun j => by rw [World.frozen?_setCell]; exact hv.2 j⟩

/-- four stores into one variable -/
abbrev set4 (w : World) (g : Nat) (x0 x1 x2 x3 : Value) : World := (((w.setCell ⟨g, 0, none⟩ x0).setCell ⟨g, 1, none⟩ x1).setCell ⟨g, 2, none⟩ x2).setCell ⟨g, 3, none⟩ x3
theorem Own.far4 {w : World} {B g h cap : Nat} {x0 x1 x2 x3 : Value} {xs : List Int} (ho : Own w B g cap xs) (hne : h ≠ g) : Own (set4 w h x0 x1 x2 x3) B g cap xs := (((ho.far hne).far hne).far hne).far hne
theorem Var4.far4 {w : World} {g h : Nat} {z0 z1 z2 z3 x0 x1 x2 x3 : Value} (hv : Var4 w g x0 x1 x2 x3) (hne : h ≠ g) : Var4 (set4 w h z0 z1 z2 z3) g x0 x1 x2 x3 := (((hv.far hne).far hne).far hne).far hne

end Go.Proofs.YtnpaijbkhmnfpaaGreat
