/- Texts put together: PrgF. -/
import Derived.Test.YtnpaijbkhmnfpaaGreatGs
import Derived.Test.YtnpaijbkhmnfpaaGreatGv
import Derived.Test.YtnpaijbkhmnfpaaGreatGa
import Derived.Deep.DeepCutAuto

/- Ours: switchyardmade.Program. -/
namespace Go.Proofs.YtnpaijbkhmnfpaaGreat
open Go.RowKit

/-- append of bytes in a region that draws -/
theorem step_pushB {ops : Array Oper} {o : Oper} {a : Act} {K : Act → World → Prop} {Q : Exit → Act → World → Prop} {E : Prop} (w : World) (hgd : o.guard = none) (s x : Operand)
    (ho : o.op = .call { callee := .builtin .append, args := #[s, x], argTypes := #[26, 26] }) (B : Nat) (v : Value) (xs : List Int) (hs : a.eval s = v) (hown : OwnV w B v xs)
    (ad : Addr) (m c : Nat) (ns : List Int) (hx : a.eval x = .slice (some ad) m c) (hl : ns.length = m) (h0 : 0 < m) (hrow : Row w (some ad) ns) (hlen : xs.length + m ≤ 140737488355328) (hB : B ≤ w.heap.size)
    (h : ∀ g cap w', OwnV w' B (.slice (some ⟨g, 0, none⟩) (xs.length + m) cap) (xs ++ ns) → w.grownBy w' v.ownBlock → K (a.put o.dst (.slice (some ⟨g, 0, none⟩) (xs.length + m) cap)) w') :
    if Region.wanted o (yielded ops a.tmps) = true then Oper.wp Tryz.prog o a w K Q else E := by
  obtain ⟨i0, hi, hz0, hz1, hz2⟩ := info_parts Tryz.info5
  refine step_append_lies w hgd s x 26 ho B 5 i0 (.int .u8 0) 1 1 Tryz.underlying26 hi hz0 hz1 hz2 rfl (by decide) v xs.length (byts xs) hs hown ad m c (byts ns) hx (by simp [hl]) (fun j u hj => ?_) (fun u hu => ?_) h0 (by unfold maxLen; omega) (by omega) hB w.heap.size rfl ?_
  · have hjl : j < ns.length := by simpa using (List.getElem?_eq_some_iff.1 hj).1
    obtain ⟨b, off, e, hc⟩ := hrow (by omega)
    cases e
    rw [getD_byts ns j hjl] at hj
    rw [← hj, ← hc j hjl, Go.WideShapes.add_plain]
  · simp only [byts, List.mem_map] at hu
    obtain ⟨z, _, rfl⟩ := hu
    rfl
  · intro g cap w' h2 h3 _ _
    refine h g cap w' ?_ h3
    unfold OwnV
    rw [List.length_append, hl]
    simpa [byts] using h2
section
variable (W : World) (g : Nat) (v0 v1 v2 v3 : Value)
theorem st4_blk {c : Array Value} (h : Blk W g 83 c) (hs : c.size = 4) : Blk ((((W.setCell ⟨g, 0, none⟩ v0).setCell ⟨g, 1, none⟩ v1).setCell ⟨g, 2, none⟩ v2).setCell ⟨g, 3, none⟩ v3) g 83 #[v0, v1, v2, v3] :=
  h.setAll #[v0, v1, v2, v3] hs.symm
theorem st4_grown : W.grownBy ((((W.setCell ⟨g, 0, none⟩ v0).setCell ⟨g, 1, none⟩ v1).setCell ⟨g, 2, none⟩ v2).setCell ⟨g, 3, none⟩ v3) (some g) :=
  grown_setCells g [v0, v1, v2, v3] 0 W
end
theorem Tryz.sz83 : (Tryz.prog.info? 83).map (·.size) = some 4 := by kernel_rfl
theorem row_one (w : World) (a : Int) : Row (w.alloc (.cells #[.int .u8 a] 5)) (some ⟨w.heap.size, 0, none⟩) [a] := (Own.lit w [a] (by unfold maxLen; simp)).row
/-- what Program answers -/
structure PI (w : World) (B : Nat) (vB vK vS vU : Value) (l : List Int) : Prop where
  by_ : OwnV w B vB (bytesP l)
  kk : GOwnV 9 w B vK ((txtP (keydP l).1.length).map Value.string)
  st : TOwn 86 w B vS ((tblP l).map z3V)
  un : GOwnV 3 w B vU (numZ [0])

set_option maxHeartbeats 8000000 in
set_option maxRecDepth 20000 in
theorem program_any (p : Option Addr) (n c : Nat) (L : List Int) (w : World) (hL : L.length = n) (hn : n ≤ 140737488355328) (hnc : n ≤ c) (hr : GRow w p (numZ L)) :
    Calls Tryz.prog 31 #[.slice p n c] w fun e w' => ∃ vB vK vS vU, e = .returned (.agg #[vB, vK, vS, vU]) ∧ PI w' w.heap.size vB vK vS vU (L.take 24) ∧ Below w.heap.size w w' := by
  have hall : ∃ (mm : Nat), (L.take 24).length = mm ∧ mm ≤ 24 ∧ (24 < n → mm = 24) ∧ (¬ 24 < n → mm = n) ∧ (24 < n → ∃ b0 o0, p = some ⟨b0, o0, none⟩) := by
    refine ⟨_, rfl, ?_, fun h => ?_, fun h => ?_, fun h => ?_⟩
    · rw [List.length_take]; omega
    · rw [List.length_take]; omega
    · rw [List.length_take]; omega
    · obtain ⟨b0, o0, e, -⟩ := hr (by simp; omega)
      exact ⟨b0, o0, e⟩
  obtain ⟨mm, hzl, hmm, hv1, hv2, hp8⟩ := hall
  have HZ : Hid (∀ W, Below w.heap.size w W → GRow W p (numZ (L.take 24))) := fun W hW h0 => by
    have hl0 : 0 < L.length := by
      have : 0 < (L.take 24).length := by simpa using h0
      rw [List.length_take] at this
      omega
    obtain ⟨b, o, e, hc⟩ := (hr.below hW).num hl0
    refine ⟨b, o, e, fun i hi => ?_⟩
    have hi' : i < (L.take 24).length := by simpa using hi
    have hi2 : i < L.length ∧ i < 24 := by rw [List.length_take] at hi'; omega
    rw [hc i hi2.1, numZ_at _ _ hi']
    simp [List.getD, List.getElem?_take_of_lt hi2.2]
  generalize L.take 24 = l at *
  have HX := Hid.in hzl
  have HV1 := Hid.in hv1
  have HV2 := Hid.in hv2
  have HP8 := Hid.in hp8
  have HRs := Hid.in (Blk.new w 83 #[.slice none 0 0, .slice none 0 0, .slice none 0 0, .slice none 0 0])
  have HB0 := Hid.in (new_alloc w (.cells #[.slice none 0 0, .slice none 0 0, .slice none 0 0, .slice none 0 0] 83))
  clear hzl hv1 hv2 hL hr hp8
  go_enter Tryz.func31, Tryz.ntmps31
  go_upto_if 21 with fail
  generalize w.alloc (.cells #[.slice none 0 0, .slice none 0 0, .slice none 0 0, .slice none 0 0] 83) = w0 at *
  go_cut [0] (fun v wx => v = .slice p mm c ∧ wx = w0)
  case first =>
    by_cases h8 : 24 < n
    · have e := HV1.out h8
      obtain ⟨b0, o0, rfl⟩ := HP8.out h8
      have g2 : decide (24 < n) = true := decide_eq_true h8
      clear HV1 HV2 HP8 HZ
      go_wp2_with fail
      go_meet
      case rel => exact ⟨by rw [e], rfl⟩
    · have HE := Hid.in (HV2.out h8)
      have g2 : decide (24 < n) = false := decide_eq_false h8
      go_wp2_with fail
      go_meet
      case rel => exact ⟨by rw [HE.out], rfl⟩
  case rest =>
    obtain ⟨rfl, hw0⟩ := hcut
    subst hw0
    clear HV1 HV2 HP8
    have HR0 := Hid.in (HZ.out _ HB0.out)
    clear HZ
    go_wp2_with fail
    go_loopw [3, 4, 5, 6] (fun v3 v4 va vi wr => ∃ i : Nat, i ≤ mm ∧ vi = .int .i64 i ∧ va = .int .i64 ((plcK (kindL l) i : Nat) : Int) ∧ KS wc wr v3 v4 (kdI l i) (plI l i)) (fun _ _ _ vi _ => mm - (intOf vi).toNat)
    case atStart => exact ⟨0, Nat.zero_le _, rfl, by simp [plcK], GOwnV.nil _ _ _, GOwnV.nil _ _ _, Ap.nilL _, Below.refl _ _⟩
    case round =>
      obtain ⟨i, hi, rfl, rfl, hk⟩ := hrel
      have HK := Hid.in hk
      have hpl := plcK_le (kindL l) i
      clear hk
      by_cases hlt : i < mm
      · obtain ⟨b, o, rfl, hc⟩ := HR0.out.num (by rw [HX.out]; omega)
        have hci := hc i (by rw [HX.out]; exact hlt)
        have c1 : wr.cell? ⟨b, o + i, none⟩ = some (.int .i64 (l.getD i 0)) := (HK.out.bel.cell (p := ⟨b, o + i, none⟩) (cell_lt hci)).trans hci
        have hP : Calls Tryz.prog 32 #[.int .i64 (l.getD i 0), .int .i64 16] wr fun E w' => E = .returned (.int .i64 ((pickZ (l.getD i 0) 16 : Nat) : Int)) ∧ w' = wr := pick_any (l.getD i 0) 16 (by decide) (by decide) wr
        have HSk := Hid.in (kdI_succ (l := l) (i := i) (by rw [HX.out]; exact hlt))
        have HSp := Hid.in (plI_succ l i)
        have HSq := Hid.in (plc_step16 l i (by rw [HX.out]; exact hlt))
        have hk16 := pickZ_lt (l.getD i 0) 16 (by decide)
        have hKl := kdI_len l (i := i) (by rw [HX.out]; exact hi)
        have hPl := plI_len l i
        clear hci hc
        generalize l.getD i 0 = y at *
        generalize pickZ y 16 = k at *
        generalize kdI l i = A at *
        generalize plI l i = C at *
        generalize plcK (kindL l) i = pa at *
        have hA1 : A.length ≤ 1048576 := by omega
        have hC1 : C.length ≤ 1048576 := by omega
        clear hKl hPl
        go_wp2_with (go_at_call 32; refine Hid.out ?_)
        refine Lib.hid ?_
        (with_reducible refine hP.mono ?_)
        rintro e w1 ⟨rfl, rfl⟩
        clear hP c1
        have HK1 := Hid.in (HK.out.below (new_alloc w1 (.cells #[.int .i64 k] 3)))
        have hC0 : (w1.alloc (.cells #[.int .i64 k] 3)).cell? ⟨w1.heap.size, 0, none⟩ = some (.int .i64 k) := (Blk.new w1 3 #[.int .i64 k]).cell 0
        go_wp2_with (at_builtin; refine gpush1 _ rfl _ _ rfl wc.heap.size _ A rfl HK1.out.a ⟨w1.heap.size, 0, none⟩ k rfl hC0 rfl hA1 HK1.out.bel.size ?_; intro g2 c2 w2 ho2 hg2 hv2 hl2; have HK2 := Hid.in (HK1.out.push4 ho2 hg2 hv2); clear ho2 hg2 hv2 hl2; refine Hid.out ?_)
        refine Lib.hid ?_
        have HK3 := Hid.in (HK2.out.below (new_alloc w2 (.cells #[.int .i64 pa] 3)))
        have hC3 : (w2.alloc (.cells #[.int .i64 pa] 3)).cell? ⟨w2.heap.size, 0, none⟩ = some (.int .i64 pa) := (Blk.new w2 3 #[.int .i64 pa]).cell 0
        clear hC0 HK1
        go_wp2_with (at_builtin; refine gpush1 _ rfl _ _ rfl wc.heap.size _ C rfl HK3.out.c ⟨w2.heap.size, 0, none⟩ pa rfl hC3 rfl hC1 HK3.out.bel.size ?_; intro g4 c4 w4 ho4 hg4 hv4 hl4; have HK4 := Hid.in (HK3.out.push5 ho4 hg4 hv4); clear ho4 hg4 hv4 hl4; refine Hid.out ?_)
        refine Lib.hid ?_
        clear hC3 HK3
        have hLn := lengthP_any k hk16 w4
        have hlk := lenK_le k
        generalize lenK k = lk at *
        go_wp2_with (go_at_call 63; refine Hid.out ?_)
        refine Lib.hid ?_
        (with_reducible refine hLn.mono ?_)
        rintro e w5 ⟨rfl, rfl⟩
        clear hLn
        go_wp2_with fail
        go_roundw
        case rel => exact ⟨i + 1, by omega, by go_num, by rw [HSq.out]; go_num, by rw [HSk.out, HSp.out]; exact HK4.out⟩
        case measure => simp [intOf]; omega
      · obtain rfl : i = mm := by omega
        have HSp := Hid.in (plI_succ l i)
        have hKl := kdI_len l (i := i) (by rw [HX.out]; exact hi)
        have hPl := plI_len l i
        have HPC := Hid.in (And.intro (Eq.refl (kdI l i)) (Eq.refl (plcK (kindL l) i)))
        have hC1 : (plI l i).length ≤ 1048576 := by omega
        have hC3 : (wr.alloc (.cells #[.int .i64 ((plcK (kindL l) i : Nat) : Int)] 3)).cell? ⟨wr.heap.size, 0, none⟩ = some (.int .i64 ((plcK (kindL l) i : Nat) : Int)) := (Blk.new wr 3 #[.int .i64 ((plcK (kindL l) i : Nat) : Int)]).cell 0
        have HK3 := Hid.in (HK.out.below (new_alloc wr (.cells #[.int .i64 ((plcK (kindL l) i : Nat) : Int)] 3)))
        clear hKl hPl
        generalize hpa : plcK (kindL l) i = pa at *
        go_wp2_with (at_builtin; refine gpush1 _ rfl _ _ rfl wc.heap.size _ (plI l i) rfl HK3.out.c ⟨wr.heap.size, 0, none⟩ pa rfl hC3 rfl hC1 HK3.out.bel.size ?_; intro g4 c4 w4 ho4 hg4 hv4 hl4; have HK4 := Hid.in (HK3.out.push5 ho4 hg4 hv4); clear ho4 hg4 hv4 hl4; refine Hid.out ?_)
        refine Lib.hid ?_
        rw [← HSp.out] at HK4
        obtain ⟨p3, cc3, e3, hr3⟩ := HK4.out.sl4
        subst e3
        have hKl := kdI_len l (i := i) (by rw [HX.out]; exact hi)
        have HR3 := Hid.in hr3
        have HR4 : Hid (GRow w4 (some ⟨g4, 0, none⟩) (numZ (plI l (i + 1)))) := by
          obtain ⟨pq, cq, eq, hrq, -, -⟩ := HK4.out.c.slice
          have e1 : some (⟨g4, 0, none⟩ : Addr) = pq := by injection eq
          rw [← e1] at hrq
          exact hrq
        have HRl := Hid.in (HR0.out.below HK4.out.bel)
        have HBA := Hid.in (below_step HB0.out HK4.out.bel)
        have HRs4 := Hid.in (HRs.out.grow HK4.out.bel)
        clear hr3 HK HK3 HK4 HR0 hC3 HPC HSp
        rw [hKl, plI_len]
        clear hKl
        obtain ⟨rm, hrm, HRM⟩ : ∃ rm : Nat, ((pa : Int) + 5 + 3) / 4 * 4 = (rm : Int) ∧ Hid (rm = roomN pa) := ⟨roomN pa, by unfold roomN; omega, rfl⟩
        have hrb : rm ≤ 200 := by have := HRM.out; unfold roomN at this; omega
        obtain ⟨m1, HM1⟩ : ∃ m1, Hid (m1 = i + 1) := ⟨_, rfl⟩
        rw [← HM1.out] at HR4 ⊢
        go_upto_region 17 with fail
        have HPM : Hid (PM w4 ((w4.alloc (.cells #[.int .i64 0] 3)).alloc (.cells #[.slice none 0 0, .slice none 0 0, .slice none 0 0, .slice (some ⟨w4.heap.size, 0, none⟩) 1 1] 83)) (.slice none 0 0) (.slice none 0 0) (.slice none 0 0) (.slice none 0 0) (bodyP l 0) [] (rawI l 0) (keysP l 0)) := by
          refine ⟨?_, (Blk.new w4 3 _).grow (new_alloc _ _), OwnV.nil _ _, GOwnV.nil _ _ _, TOwn.nil _ _ _, GOwnV.nil _ _ _, below_alloc (new_alloc _ _) _⟩
          have := Blk.new (w4.alloc (.cells #[.int .i64 0] 3)) 83 #[.slice none 0 0, .slice none 0 0, .slice none 0 0, .slice (some ⟨w4.heap.size, 0, none⟩) 1 1]
          rw [size_one] at this
          exact this
        generalize (w4.alloc (.cells #[.int .i64 0] 3)).alloc (.cells #[.slice none 0 0, .slice none 0 0, .slice none 0 0, .slice (some ⟨w4.heap.size, 0, none⟩) 1 1] 83) = w5 at *
        go_wp2_with fail
        go_loopw [10, 11, 12] (fun v10 v11 vi wr => ∃ (j : Nat) (vB : Value), j ≤ i ∧ vi = .int .i64 j ∧ PM w4 wr vB (.slice none 0 0) v10 v11 (bodyP l j) [] (rawI l j) (keysP l j)) (fun _ _ vi _ => i - (intOf vi).toNat)
        case atStart => exact ⟨0, _, Nat.zero_le _, rfl, HPM.out⟩
        case round =>
          obtain ⟨j, vB, hj, rfl, hk⟩ := hrel
          have HK := Hid.in hk
          clear hk HPM
          by_cases hlt2 : j < i
          · obtain ⟨b, o, rfl, hc⟩ := HRl.out.num (by rw [HX.out]; omega)
            have hci := hc j (by rw [HX.out]; exact hlt2)
            have c1 : wr.cell? ⟨b, o + j, none⟩ = some (.int .i64 (l.getD j 0)) := (HK.out.bel.cell (p := ⟨b, o + j, none⟩) (cell_lt hci)).trans hci
            obtain ⟨yq, hyq⟩ : ∃ yq, IntKind.i64.wrap ((l.getD j 0).tdiv 16) = yq := ⟨_, rfl⟩
            have hnum : numP l j = pickZ yq 1000003 := by rw [← hyq]; rfl
            have hn3 := pickZ_lt yq 1000003 (by decide)
            have hP : Calls Tryz.prog 32 #[.int .i64 yq, .int .i64 1000003] wr fun E w' => E = .returned (.int .i64 ((pickZ yq 1000003 : Nat) : Int)) ∧ w' = wr := pick_any yq 1000003 (by decide) (by decide) wr
            have htg : tgtP l j = plcK (kindL l) (pickZ ((pickZ yq 1000003 / 8 : Nat) : Int) m1) := by rw [← hnum, HM1.out]; unfold tgtP; rw [HX.out]
            have hm1p : 0 < m1 := by have := HM1.out; omega
            have hkl := pickZ_lt ((pickZ yq 1000003 / 8 : Nat) : Int) m1 hm1p
            have hP2 : Calls Tryz.prog 32 #[.int .i64 ((pickZ yq 1000003 : Nat) / 8 : Int), .int .i64 m1] wr fun E w' => E = .returned (.int .i64 ((pickZ ((pickZ yq 1000003 / 8 : Nat) : Int) m1 : Nat) : Int)) ∧ w' = wr := pick_any ((pickZ yq 1000003 / 8 : Nat) : Int) m1 hm1p (by have := HM1.out; omega) wr
            have hst := @site_step l j
            have hco := @code_step l j
            rw [hnum] at hst hco
            rw [htg] at hst hco
            rw [HX.out, hpa, ← HRM.out] at hco
            have HST := Hid.in hst
            have HCO := Hid.in hco
            clear hst hco hnum htg hci hc
            generalize l.getD j 0 = y at *
            generalize pickZ yq 1000003 = nn at *
            generalize pickZ ((nn / 8 : Nat) : Int) m1 = k2 at *
            go_wp2_with (go_at_call 32; refine Hid.out ?_)
            refine Lib.hid ?_
            (with_reducible refine hP.mono ?_)
            rintro e w6 ⟨rfl, hw6⟩
            subst hw6
            clear hP c1 hyq
            go_wp2_with (go_at_call 32; refine Hid.out ?_)
            refine Lib.hid ?_
            (with_reducible refine hP2.mono ?_)
            rintro e w7 ⟨rfl, hw7⟩
            subst hw7
            clear hP2
            have hnn : nn ≤ 1000002 := by omega
            obtain ⟨b4, o4, e4, hc4⟩ := HR4.out.num (by rw [plI_len]; omega)
            have e41 : g4 = b4 ∧ 0 = o4 := by injection e4 with e4; injection e4 with e4 e5 _; exact ⟨e4, e5⟩
            obtain ⟨rfl, rfl⟩ := e41
            obtain ⟨b3, o3, rfl, hc3⟩ := HR3.out.num (by rw [kdI_len l (by rw [HX.out]; exact Nat.le_refl _)]; omega)
            have kt0 := hc4 k2 (by rw [plI_len]; exact hkl)
            have kp0 := hc4 j (by rw [plI_len]; have := HM1.out; omega)
            have kk0 := hc3 j (by rw [kdI_len l (by rw [HX.out]; exact Nat.le_refl _)]; exact hlt2)
            rw [plI_at hkl, Nat.zero_add] at kt0
            rw [plI_at (by have := HM1.out; omega), Nat.zero_add] at kp0
            rw [kdI_at hlt2 (by rw [HX.out]; exact Nat.le_refl _)] at kk0
            have htb := plcK_le (kindL l) k2
            have hpb := plcK_le (kindL l) j
            have hkb := kindL_lt l j
            have hm24 : m1 ≤ 25 := by have := HM1.out; omega
            have hjm : j < m1 := by have := HM1.out; omega
            have HKL := Hid.in (keysP_len l j)
            have hbl := bodyP_len l j (by rw [HX.out]; exact hj)
            have hrl := rawI_len l j
            clear hc3 hc4 e4
            generalize plcK (kindL l) k2 = tg at *
            generalize (kindL l).getD j 0 = kd at *
            generalize plcK (kindL l) j = pj at *
            have HKT := Hid.in kt0
            have HKP := Hid.in kp0
            have HKK := Hid.in kk0
            have HKB : ∀ W, Below w4.heap.size w4 W → W.cell? ⟨g4, k2, none⟩ = some (.int .i64 tg) ∧ W.cell? ⟨g4, j, none⟩ = some (.int .i64 pj) ∧ W.cell? ⟨b3, o3 + j, none⟩ = some (.int .i64 kd) := fun W hW => ⟨(hW.cell (p := ⟨g4, k2, none⟩) (cell_lt HKT.out)).trans HKT.out, (hW.cell (p := ⟨g4, j, none⟩) (cell_lt HKP.out)).trans HKP.out, (hW.cell (p := ⟨b3, o3 + j, none⟩) (cell_lt HKK.out)).trans HKK.out⟩
            have HKB' := Hid.in HKB
            obtain ⟨kt, kp, kk⟩ := HKB w7 HK.out.bel
            clear kt0 kp0 kk0 HKT HKP HKK HKB
            obtain ⟨pB, cB, eB, -, -⟩ := HK.out.by_.slice
            subst eB
            have HBL : Hid ((bodyP l j).length = pj) := hbl
            have HRL : Hid ((rawI l j).length ≤ 24 ∧ (keysP l j).length ≤ 24) := by have := HKL.out; exact ⟨by omega, by omega⟩
            clear hbl hrl
            by_cases h5 : kd < 5
            · obtain ⟨s1, s2, s3⟩ := HST.out h5
              have HS := Hid.in (And.intro s1 (And.intro s2 s3))
              have d5 : decide ((kd : Int) < 5) = true := by simp; omega
              clear s1 s2 s3 HST HCO
              generalize keysP l j = ks at *
              generalize rawI l j = S at *
              generalize bodyP l j = bs at *
              have HK1 := Hid.in (HK.out.below (new_alloc w7 (.cells #[.int .i64 nn] 3)))
              have hC0 : (w7.alloc (.cells #[.int .i64 nn] 3)).cell? ⟨w7.heap.size, 0, none⟩ = some (.int .i64 nn) := (Blk.new w7 3 #[.int .i64 nn]).cell 0
              have hk24 : ks.length ≤ 1048576 := by have := HRL.out; omega
              go_wp2_with (at_builtin; refine gpush1 _ rfl _ _ rfl (w4.heap.size + 2) _ ks rfl HK1.out.ky ⟨w7.heap.size, 0, none⟩ nn rfl hC0 rfl hk24 HK1.out.size ?_; intro g8 c8 w8 ho8 hg8 hv8 hl8; have HK8 := Hid.in (HK1.out.key ho8 hg8); clear ho8 hg8 hv8 hl8; refine Hid.out ?_)
              refine Lib.hid ?_
              clear hC0 HK1 kt kp kk
              obtain ⟨-, kp, -⟩ := HKB'.out w8 HK8.out.bel
              have HN0 := Hid.in (HK8.out.below (new_alloc w8 (.cells #[.int .i64 0, .int .i64 pj, .int .i64 tg] 86)))
              have hS1 : (S.map z3V).length ≤ 1048576 := by rw [List.length_map]; have := HRL.out; omega
              go_wp2_with (at_builtin; refine tpush Tryz.elemSite _ rfl _ _ rfl (w4.heap.size + 2) _ (S.map z3V) rfl HN0.out.st ⟨w8.heap.size, 0, none⟩ 1 (z3V (0, (pj : Int), (tg : Int))) (z3V_one _) rfl (news3 w8 (z3V (0, (pj : Int), (tg : Int))) 86) hS1 (by decide) HN0.out.size ?_; intro v9 w9 ho9 hg9 hb9; have HK9 : Hid (PM w4 w9 _ _ v9 _ bs [] (S ++ [(0, (pj : Int), (tg : Int))]) _) := HN0.out.site (by rw [List.map_append]; exact ho9) hg9; clear ho9 hg9 hb9; refine Hid.out ?_)
              refine Lib.hid ?_
              clear HN0 hS1 kp
              go_upto_region 25 with fail
              have q0 : w9.cell? ⟨w4.heap.size + 1, 0, none⟩ = some (.slice pB bs.length cB) := HK9.out.mb.cell 0
              have q0r := fun d os => cell_regrown q0 d os
              refine wp_region_noPanic ?_
              refine wp_region_sink 2 [3, 4, 5] 4 (by kernel_rfl) (by kernel_rfl) (by kernel_rfl) (by kernel_rfl) (by kernel_rfl) (fun _ _ _ _ _ h => h) ?_
              simp only [List.take_succ_cons, List.take_zero]
              iterate 2 (go_big_quiet_step (fail))
              refine wpQuiet_nil ?_
              rintro _ ⟨⟨dq, osq⟩, rfl⟩
              have hbq : Below w9.heap.size w9 (Go.Sort.grow (redrawn w9 dq) osq) := below_regrown w9 dq osq
              generalize Go.Sort.grow (redrawn w9 dq) osq = w17 at hbq ⊢
              clear q0 q0r
              refine wpAnyG_one (i := 2) (by kernel_rfl) rfl (fun K hK => ?_)
              go_simp
              go_at_call 64
              refine (quiet_any _).mono ?_
              rintro e w18 ⟨gq, rfl, hoq, hbq2⟩
              refine hK.out _ _ (regrown_of_below (below_step hbq hbq2)) (fun _ => ?_)
              clear hK K
              have HK18 := Hid.in (HK9.out.below (below_step hbq hbq2))
              have HOQ := Hid.in hoq
              clear hoq hbq2 hbq HK9
              have hbs : bs.length + 5 ≤ 140737488355328 := by have := HBL.out; omega
              refine wpAnyG_last (i := 3) (by kernel_rfl) rfl rfl (fun K hK => ?_)
              refine step_pushB _ (by rfl) _ _ (by rfl) (w4.heap.size + 2) (.slice pB bs.length cB) bs (by rfl) HK18.out.by_ ⟨gq, 0, none⟩ 5 5 quietL (by rfl) (by rfl) (by decide) HOQ.out.row hbs HK18.out.size ?_
              intro g19 c19 w19 ho19 hg19
              have q19 : w19.cell? ⟨w4.heap.size + 1, 0, none⟩ = some (.slice pB bs.length cB) := (HK18.out.mb.rowStay HK18.out.by_ hg19 (by omega)).cell 0
              have f19 : w19.frozen? ⟨w4.heap.size + 1, 0, none⟩ = false := (HK18.out.mb.rowStay HK18.out.by_ hg19 (by omega)).free 0
              have HK20 := Hid.in (HK18.out.bytes ho19 hg19)
              clear ho19 hg19
              refine hK.out _ _ ?_
              clear hK K
              refine wpAnyG_last (i := 4) (by kernel_rfl) rfl rfl (fun K hK => ?_)
              go_simp
              refine hK.out _ _ ?_
              clear hK K
              refine wpAnyG_last (i := 5) (by kernel_rfl) rfl rfl (fun K hK => ?_)
              go_simp
              refine hK.out _ _ ?_
              clear hK K
              refine wpAnyG_done (by kernel_rfl) ?_ _
              refine NoPanic.normal ?_
              generalize w19.setCell ⟨w4.heap.size + 1, 0, none⟩ (.slice (some ⟨g19, 0, none⟩) (bs.length + 5) c19) = w20 at *
              clear q19 f19 HK18 HOQ
              go_wp2_with fail
              go_roundw
              case rel => exact ⟨j + 1, _, by omega, by go_num, by rw [HS.out.1, HS.out.2.1, HS.out.2.2]; exact HK20.out⟩
              case measure => simp [intOf]; omega
            · obtain ⟨s1, s2, s3⟩ := HCO.out h5
              have HS := Hid.in (And.intro s1 (And.intro s2 s3))
              have d5 : decide ((kd : Int) < 5) = false := by simp; omega
              have hnl := codeL_len kd (nn : Int) (pj : Int) (tg : Int) (rm : Int) (by omega) hkb
              have hlk := lenK_le kd
              have hcode := fun W => code_any kd (nn : Int) (pj : Int) (tg : Int) (rm : Int) W ⟨by omega, hkb⟩ ⟨by omega, by omega⟩ ⟨by omega, by omega⟩ ⟨by omega, by omega⟩ ⟨by omega, by omega⟩
              clear s1 s2 s3 HST HCO
              generalize keysP l j = ks at *
              generalize rawI l j = S at *
              generalize bodyP l j = bs at *
              generalize codeL kd (nn : Int) (pj : Int) (tg : Int) (rm : Int) = cl at *
              have HCL : Hid (1 ≤ cl.length ∧ cl.length ≤ 6) := by rw [hnl]; exact hlk
              clear hnl hlk
              go_upto_region 26 with fail
              have q0 : w7.cell? ⟨w4.heap.size + 1, 0, none⟩ = some (.slice pB bs.length cB) := HK.out.mb.cell 0
              have q0r := fun d os => cell_regrown q0 d os
              have q1r := fun d os => cell_regrown kk d os
              have q2r := fun d os => cell_regrown kp d os
              refine wp_region_noPanic ?_
              refine wp_region_sink 13 [14, 15, 16] 4 (by kernel_rfl) (by kernel_rfl) (by kernel_rfl) (by kernel_rfl) (by kernel_rfl) (fun _ _ _ _ _ h => h) ?_
              simp only [List.take_succ_cons, List.take_zero]
              iterate 13 (go_big_quiet_step (fail))
              refine wpQuiet_nil ?_
              rintro _ ⟨⟨dq, osq⟩, rfl⟩
              have hbq : Below w7.heap.size w7 (Go.Sort.grow (redrawn w7 dq) osq) := below_regrown w7 dq osq
              generalize Go.Sort.grow (redrawn w7 dq) osq = w17 at hbq ⊢
              clear q0 q0r q1r q2r kt kp kk
              refine wpAnyG_one (i := 13) (by kernel_rfl) rfl (fun K hK => ?_)
              go_simp
              go_at_call 65
              refine (hcode _).mono ?_
              rintro e w18 ⟨vq, rfl, hoq, hbq2⟩
              obtain ⟨pq, cq, eq, hrq, -⟩ := hoq.slice
              subst eq
              obtain ⟨bq, oq, rfl, -⟩ := hrq (by have := HCL.out; omega)
              refine hK.out _ _ (regrown_of_below (below_step hbq hbq2)) (fun _ => ?_)
              clear hK K
              have HK18 := Hid.in (HK.out.below (below_step hbq hbq2))
              have HOQ := Hid.in hrq
              clear hoq hbq2 hbq hrq hcode
              have hbs : bs.length + cl.length ≤ 140737488355328 := by have := HBL.out; have := HCL.out; omega
              have hcl0 : 0 < cl.length := HCL.out.1
              refine wpAnyG_last (i := 14) (by kernel_rfl) rfl rfl (fun K hK => ?_)
              refine step_pushB _ (by rfl) _ _ (by rfl) (w4.heap.size + 2) (.slice pB bs.length cB) bs (by rfl) HK18.out.by_ ⟨bq, oq, none⟩ cl.length cq cl (by rfl) (by rfl) hcl0 HOQ.out hbs HK18.out.size ?_
              intro g19 c19 w19 ho19 hg19
              have q19 : w19.cell? ⟨w4.heap.size + 1, 0, none⟩ = some (.slice pB bs.length cB) := (HK18.out.mb.rowStay HK18.out.by_ hg19 (by omega)).cell 0
              have f19 : w19.frozen? ⟨w4.heap.size + 1, 0, none⟩ = false := (HK18.out.mb.rowStay HK18.out.by_ hg19 (by omega)).free 0
              have HK20 := Hid.in (HK18.out.bytes ho19 hg19)
              clear ho19 hg19
              refine hK.out _ _ ?_
              clear hK K
              refine wpAnyG_last (i := 15) (by kernel_rfl) rfl rfl (fun K hK => ?_)
              go_simp
              refine hK.out _ _ ?_
              clear hK K
              refine wpAnyG_last (i := 16) (by kernel_rfl) rfl rfl (fun K hK => ?_)
              go_simp
              refine hK.out _ _ ?_
              clear hK K
              refine wpAnyG_done (by kernel_rfl) ?_ _
              refine NoPanic.normal ?_
              generalize w19.setCell ⟨w4.heap.size + 1, 0, none⟩ (.slice (some ⟨g19, 0, none⟩) (bs.length + cl.length) c19) = w20 at *
              clear q19 f19 HK18 HOQ
              go_wp2_with fail
              go_roundw
              case rel => exact ⟨j + 1, _, by omega, by go_num, by rw [HS.out.1, HS.out.2.1, HS.out.2.2]; exact HK20.out⟩
              case measure => simp [intOf]; omega
          · obtain rfl : j = i := by omega
            obtain ⟨pB, cB, eB, -, -⟩ := HK.out.by_.slice
            subst eB
            have hbl := bodyP_len l j (by rw [HX.out]; exact Nat.le_refl _)
            rw [hpa] at hbl
            have HKL := Hid.in (keysP_len l j)
            have HRW := Hid.in (rawI_len l j)
            have HBY : Hid (bytesP l = bodyP l j ++ [233] ++ le4 (-((pa : Int) + 5)) ++ List.replicate (rm + 16 - (pa + 5)) 0) := by
              show bytesP l = _
              unfold bytesP
              rw [HX.out, hpa, HRM.out]
            have HKD : Hid (keydP l = kdS (keysP l j) (keysP l j).length) := by
              show keydP l = _
              unfold keydP
              rw [HX.out]
            have HTB : Hid (tblP l = sortZ (setKs (rawI l j) (keydP l).2 (rawI l j).length) (rawI l j).length) := by
              show tblP l = _
              unfold tblP rawP
              rw [HX.out, setKs_len]
            have hpar : pa ≤ 144 ∧ pa + 5 ≤ rm ∧ rm ≤ pa + 8 := by
              have := HRM.out
              unfold roomN at this
              omega
            clear HR3 HR4 HRl HX
            generalize bodyP l j = bs at *
            rw [hbl] at HK
            have q0 : wr.cell? ⟨w4.heap.size + 1, 0, none⟩ = some (.slice pB pa cB) := by have := HK.out.mb.cell 0; exact this
            have HK1 := Hid.in (HK.out.below (new_alloc wr (.cells #[.int .u8 233] 5)))
            have hb1 : bs.length + 1 ≤ 140737488355328 := by omega
            have HBl := Hid.in hbl
            have HL1 : Hid ((bs ++ [233]).length = pa + 1) := by show _ = _; simp; omega
            have HL2 : Hid ((bs ++ [233] ++ le4 (-((pa : Int) + 5))).length = pa + 5) := by show _ = _; rw [List.length_append, HL1.out]; rfl
            clear hbl
            go_wp2_with (at_builtin; refine wp_push _ rfl _ _ rfl (w4.heap.size + 2) _ bs rfl HK1.out.by_ ⟨wr.heap.size, 0, none⟩ 1 1 [233] rfl rfl (cell_one_new _ _ _) hb1 HK1.out.size ?_; intro v6 w6 ho6 hg6 hb6 hn6; obtain ⟨p6, c6, e6, -, -⟩ := ho6.slice; rw [HL1.out] at e6; subst e6; have q6 : w6.cell? ⟨w4.heap.size + 1, 0, none⟩ = some (.slice pB pa cB) := (HK1.out.mb.rowStay HK1.out.by_ hg6 (by omega)).cell 0; have f6 : w6.frozen? ⟨w4.heap.size + 1, 0, none⟩ = false := (HK1.out.mb.rowStay HK1.out.by_ hg6 (by omega)).free 0; have HK6 := Hid.in (HK1.out.bytes ho6 hg6); clear ho6 hg6 hb6 hn6; refine Hid.out ?_)
            refine Lib.hid ?_
            go_upto_region 28 with fail
            generalize w6.setCell ⟨w4.heap.size + 1, 0, none⟩ (.slice p6 (pa + 1) c6) = w7 at *
            clear q0 q6 f6 HK HK1 hb1
            have q0 : w7.cell? ⟨w4.heap.size + 1, 0, none⟩ = some (.slice p6 (pa + 1) c6) := HK6.out.mb.cell 0
            have q0r := fun d os => cell_regrown q0 d os
            have h32 : IntKind.i32.wrap (-((pa : Int) + 5)) = -((pa : Int) + 5) := by rw [IntKind.wrap_i32]; omega
            refine wp_region_noPanic ?_
            refine wp_region_sink 6 [7, 8, 9] 4 (by kernel_rfl) (by kernel_rfl) (by kernel_rfl) (by kernel_rfl) (by kernel_rfl) (fun _ _ _ _ _ h => h) ?_
            simp only [List.take_succ_cons, List.take_zero]
            iterate 6 (go_big_quiet_step (fail))
            refine wpQuiet_nil ?_
            rintro _ ⟨⟨dq, osq⟩, rfl⟩
            have hbq : Below w7.heap.size w7 (Go.Sort.grow (redrawn w7 dq) osq) := below_regrown w7 dq osq
            generalize Go.Sort.grow (redrawn w7 dq) osq = w17 at hbq ⊢
            clear q0 q0r
            refine wpAnyG_one (i := 6) (by kernel_rfl) rfl (fun K hK => ?_)
            go_simp
            go_at_call 66
            refine (four_any (-((pa : Int) + 5)) _).mono ?_
            rintro e w18 ⟨gq, rfl, hoq, hbq2⟩
            refine hK.out _ _ (regrown_of_below (below_step hbq hbq2)) (fun _ => ?_)
            clear hK K
            have HK18 := Hid.in (HK6.out.below (below_step hbq hbq2))
            have HOQ := Hid.in hoq
            clear hoq hbq2 hbq HK6
            have hbs : (bs ++ [233]).length + 4 ≤ 140737488355328 := by rw [HL1.out]; omega
            refine wpAnyG_last (i := 7) (by kernel_rfl) rfl rfl (fun K hK => ?_)
            refine step_pushB _ (by rfl) _ _ (by rfl) (w4.heap.size + 2) (.slice p6 (pa + 1) c6) (bs ++ [233]) (by rfl) HK18.out.by_ ⟨gq, 0, none⟩ 4 4 (le4 (-((pa : Int) + 5))) (by rfl) (by rfl) (by decide) HOQ.out.row hbs HK18.out.size ?_
            rw [HL1.out]
            intro g19 c19 w19 ho19 hg19
            have q19 : w19.cell? ⟨w4.heap.size + 1, 0, none⟩ = some (.slice p6 (pa + 1) c6) := (HK18.out.mb.rowStay HK18.out.by_ hg19 (by omega)).cell 0
            have f19 : w19.frozen? ⟨w4.heap.size + 1, 0, none⟩ = false := (HK18.out.mb.rowStay HK18.out.by_ hg19 (by omega)).free 0
            have HK20 := Hid.in (HK18.out.bytes ho19 hg19)
            clear ho19 hg19
            refine hK.out _ _ ?_
            clear hK K
            refine wpAnyG_last (i := 8) (by kernel_rfl) rfl rfl (fun K hK => ?_)
            go_simp
            refine hK.out _ _ ?_
            clear hK K
            refine wpAnyG_last (i := 9) (by kernel_rfl) rfl rfl (fun K hK => ?_)
            go_simp
            refine hK.out _ _ ?_
            clear hK K
            refine wpAnyG_done (by kernel_rfl) ?_ _
            refine NoPanic.normal ?_
            generalize w19.setCell ⟨w4.heap.size + 1, 0, none⟩ (.slice (some ⟨g19, 0, none⟩) (pa + 1 + 4) c19) = w20 at *
            clear q19 f19 HK18 HOQ h32 hbs
            have HO20 : Hid (Own w20 (w4.heap.size + 2) g19 c19 (bs ++ [233] ++ le4 (-((pa : Int) + 5)))) := by
              have h := HK20.out.by_
              have e : pa + 1 + 4 = (bs ++ [233] ++ le4 (-((pa : Int) + 5))).length := by rw [HL2.out]
              rw [e] at h
              exact h
            obtain ⟨pz, hpz⟩ : ∃ pz, pz = pa + 1 + 4 := ⟨_, rfl⟩
            rw [← hpz] at HK20
            have HLz : Hid ((bs ++ [233] ++ le4 (-((pa : Int) + 5))).length = pz) := by show _ = _; rw [HL2.out]; omega
            obtain ⟨nz, HNZ, hzz⟩ : ∃ nz : Nat, Hid (nz = rm + 16 - (pa + 5)) ∧ (rm : Int) + 16 - (pz : Int) = (nz : Int) := ⟨rm + 16 - (pa + 5), rfl, by omega⟩
            have hnz : 0 < nz ∧ nz ≤ 1000 := by have := HNZ.out; omega
            rw [← HNZ.out] at HBY
            have hz1000 : (bs ++ [233] ++ le4 (-((pa : Int) + 5))).length ≤ 1000 := by rw [HLz.out]; omega
            generalize bs ++ [233] ++ le4 (-((pa : Int) + 5)) = b2 at *
            have q20 : w20.cell? ⟨w4.heap.size + 1, 0, none⟩ = some (.slice (some ⟨g19, 0, none⟩) pz c19) := HK20.out.mb.cell 0
            have hpz2 : pz ≤ 200 := by omega
            have HZ2 := Hid.in hz1000
            clear hpz hz1000
            go_wp2_with (at_builtin; refine wp_zeros _ rfl _ _ rfl (w4.heap.size + 2) g19 c19 b2 pz nz HLz.out rfl HO20.out rfl hnz.1 hnz.2 HZ2.out HK20.out.size ?_; intro g21 c21 w21 ho21 hg21; have q21 : w21.cell? ⟨w4.heap.size + 1, 0, none⟩ = some (.slice (some ⟨g19, 0, none⟩) pz c19) := (HK20.out.mb.rowStay HK20.out.by_ hg21 (by omega)).cell 0; have f21 : w21.frozen? ⟨w4.heap.size + 1, 0, none⟩ = false := (HK20.out.mb.rowStay HK20.out.by_ hg21 (by omega)).free 0; have HK21 := Hid.in (HK20.out.bytes ho21 hg21); clear ho21 hg21; refine Hid.out ?_)
            refine Lib.hid ?_
            go_upto_region 30 with fail
            generalize w21.setCell ⟨w4.heap.size + 1, 0, none⟩ (.slice (some ⟨g21, 0, none⟩) (pz + nz) c21) = w22 at *
            clear q20 q21 f21 HO20 HK20 hzz
            rw [← HBY.out] at HK21
            have HNK := Hid.in (bytesP_len l)
            generalize pz + nz = bl at *
            obtain ⟨p11, c11, e11, hr11, -, -⟩ := HK21.out.ky.slice
            obtain ⟨p10, c10, e10, hr10⟩ := HK21.out.st.trow
            rw [List.length_map] at e11
            rw [HRW.out] at e10
            subst e11 e10
            have hks : (keysP l j).length ≤ 24 := by have := HKL.out.2; omega
            have hKy := keyed_any p11 (keysP l j).length c11 (keysP l j) w22 rfl hks hr11
            rw [← HKD.out] at hKy
            have hKm : (keydP l).1.length ≤ 24 := by rw [HKD.out]; have := (kdS_len (keysP l j) (keysP l j).length).2; omega
            have hKo : (keydP l).2.length = (keysP l j).length := by rw [HKD.out]; exact (kdS_len (keysP l j) (keysP l j).length).1
            have HRW2 := Hid.in HRW.out
            rw [HRW.out] at HTB
            clear hr11 hr10 HBY HNK HKD
            generalize hkd : keydP l = kd at *
            have HKE := Hid.in hkd
            clear hkd
            generalize keysP l j = ks at *
            generalize rawI l j = S at *
            obtain ⟨met, of⟩ := kd
            dsimp only at *
            have HKo := Hid.in hKo
            clear hKo
            go_wp2_with (go_at_call 67; refine Hid.out ?_)
            refine Lib.hid ?_
            (with_reducible refine hKy.mono ?_)
            rintro e w23 ⟨v15, rfl, ho15, hb23⟩
            have HK23 := Hid.in (HK21.out.below hb23)
            obtain ⟨p15, c15, e15, -, -, -⟩ := ho15.slice
            rw [List.length_map, HKo.out] at e15
            subst e15
            have HO15 : Hid (GOwnV 3 w23 (w4.heap.size + 2) (.slice p15 ks.length c15) (numZ of)) := ho15.lowerV HK21.out.size
            clear ho15 hb23 hKy HK21
            go_wp2_with fail
            go_loopw [17] (fun vi wz => ∃ k : Nat, k ≤ ks.length ∧ vi = .int .i64 k ∧ PM w4 wz (.slice (some ⟨g21, 0, none⟩) bl c21) (.slice none 0 0) (.slice p10 ks.length c10) (.slice p11 ks.length c11) (bytesP l) [] (setKs S of k) ks ∧ GOwnV 3 wz (w4.heap.size + 2) (.slice p15 ks.length c15) (numZ of)) (fun vi _ => ks.length - (intOf vi).toNat)
            case atStart => exact ⟨0, Nat.zero_le _, rfl, HK23.out, HO15.out⟩
            case round =>
              obtain ⟨k, hk, rfl, hp, ho⟩ := hrel
              have HP := Hid.in hp
              have HO := Hid.in ho
              clear hp ho HK23 HO15
              by_cases hlk : k < ks.length
              · obtain ⟨pq, cq, eq, hrq, -, -⟩ := HO.out.slice
                have e1 : p15 = pq := by injection eq
                subst e1
                obtain ⟨b15, o15, rfl, hc15⟩ := hrq.num (by rw [HKo.out]; omega)
                have c1 := hc15 k (by rw [HKo.out]; exact hlk)
                have hsl : (setKs S of k).length = ks.length := by rw [setKs_len, HRW2.out]
                obtain ⟨ps, cs, es, hrs⟩ := HP.out.st.trow
                have e2 : p10 = ps := by injection es
                subst e2
                obtain ⟨ps', cs', es', -, -, hss⟩ := HP.out.st.shape
                have e3 : p10 = ps' := by injection es'
                subst e3
                obtain ⟨g10, rfl, -, -, -⟩ := hss (by rw [List.length_map, hsl]; omega)
                obtain ⟨n0, -, -⟩ := HP.out.st.cells k (by rw [hsl]; exact hlk)
                have f0 := HP.out.st.freeAt (k * 3)
                have hs1 := HP.out.st.set1 (x := k) (by rw [hsl]; exact hlk) (of.getD k 0)
                have hst : (setKs S of k).set k (of.getD k 0, ((setKs S of k).getD k (0, 0, 0)).2) = setKs S of (k + 1) := by rw [setKs_behind S of k k (Nat.le_refl _)]; rfl
                rw [hst] at hs1
                have HPn := Hid.in (HP.out.site hs1.1 hs1.2)
                have HOn : Hid (GOwnV 3 (wr.setCell ⟨g10, k * 3, none⟩ (.int .i64 (of.getD k 0))) (w4.heap.size + 2) (.slice (some ⟨b15, o15, none⟩) ks.length c15) (numZ of)) := row_stay HO.out hs1.2 (fun g e e' => rows_ap HO.out HP.out.st (by decide) g e e')
                clear hs1 hst hss es es' hrs hsl hrq eq hc15
                generalize ((setKs S of k).getD k (0, 0, 0)).1 = old at *
                generalize of.getD k 0 = y at *
                go_wp2_with fail
                go_roundw
                case rel => exact ⟨k + 1, by omega, by go_num, HPn.out, HOn.out⟩
                case measure => simp [intOf]; omega
              · obtain rfl : k = ks.length := by omega
                clear HO
                have hml : met.length ≤ 24 := hKm
                have HML := Hid.in (txtP_len met.length)
                go_wp2_with fail
                go_loopw [18] (fun vi wz => ∃ (k : Nat) (vK : Value), k ≤ met.length ∧ vi = .int .i64 k ∧ PM w4 wz (.slice (some ⟨g21, 0, none⟩) bl c21) vK (.slice p10 ks.length c10) (.slice p11 ks.length c11) (bytesP l) (txtP k) (setKs S of ks.length) ks) (fun vi _ => met.length - (intOf vi).toNat)
                case atStart => exact ⟨0, _, Nat.zero_le _, rfl, HP.out⟩
                case round =>
                  obtain ⟨k, vK, hk, rfl, hp⟩ := hrel
                  have HQ := Hid.in hp
                  obtain ⟨pK, cK, eK, -, -, -⟩ := hp.kk.slice
                  rw [List.length_map, txtP_len] at eK
                  subst eK
                  clear hp HP
                  by_cases hlk : k < met.length
                  · have qk : wr.cell? ⟨w4.heap.size + 1, 1, none⟩ = some (.slice pK k cK) := HQ.out.mb.cell 1
                    have hcv : (convert 26 9 (.slice (some ⟨wr.heap.size, 0, none⟩) 1 1)).run Tryz.prog (wr.alloc (.cells #[.int .u8 (97 + (k : Int))] 5)) = .ok (.string (strOfNums [97 + (k : Int)])) (wr.alloc (.cells #[.int .u8 (97 + (k : Int))] 5)) := (row_one wr (97 + (k : Int))).convert rfl 1
                    have HTX := Hid.in (txtP_succ k)
                    have HTL := Hid.in (txtP_len k)
                    have hm256 : (97 + (k : Int)) % 256 = 97 + (k : Int) := by omega
                    have HQ1 := Hid.in (HQ.out.below (new_alloc wr (.cells #[.int .u8 (97 + (k : Int))] 5)))
                    generalize strOfNums [97 + (k : Int)] = sk at *
                    have HQ2 := Hid.in (HQ1.out.below (new_alloc _ (.cells #[.string sk] 9)))
                    have hC2 : ∀ jx ux, ([Value.string sk] : List Value)[jx]? = some ux → ((wr.alloc (.cells #[.int .u8 (97 + (k : Int))] 5)).alloc (.cells #[.string sk] 9)).cell? ((⟨wr.heap.size + 1, 0, none⟩ : Addr).add jx) = some ux := by
                      have h := cell_one_new (wr.alloc (.cells #[.int .u8 (97 + (k : Int))] 5)) (.string sk) 9
                      rw [size_one] at h
                      exact h
                    have HTN : Hid (((txtP k).map Value.string ++ [Value.string sk]).length = k + 1) := by show _ = _; rw [List.length_append, List.length_map, HTL.out]; rfl
                    have hl1 : ((txtP k).map Value.string).length + 1 ≤ 140737488355328 := by rw [List.length_map, HTL.out]; omega
                    have hl2 : (((txtP k).map Value.string).length + 1) * 16 ≤ 140737488355328 := by rw [List.length_map, HTL.out]; omega
                    go_wp2_with (at_builtin; refine gpush Tryz.elemT _ rfl _ _ rfl (w4.heap.size + 2) _ ((txtP k).map Value.string) rfl HQ2.out.kk ⟨wr.heap.size + 1, 0, none⟩ 1 1 [.string sk] rfl rfl hC2 (fun u hu => by simp only [List.mem_cons, List.not_mem_nil, or_false] at hu; subst hu; rfl) hl1 hl2 HQ2.out.size ?_; intro v24 w24 ho24 hg24 hb24 hn24; obtain ⟨p24, c24, e24, -, -, -⟩ := ho24.slice; rw [HTN.out] at e24; subst e24; have q24 : w24.cell? ⟨w4.heap.size + 1, 1, none⟩ = some (.slice pK k cK) := (HQ2.out.mb.rowStay HQ2.out.kk hg24 (by omega)).cell 1; have f24 : w24.frozen? ⟨w4.heap.size + 1, 1, none⟩ = false := (HQ2.out.mb.rowStay HQ2.out.kk hg24 (by omega)).free 1; have HQ3 : Hid (PM w4 _ _ _ _ _ _ (txtP (k + 1)) _ _) := HQ2.out.text (by rw [HTX.out, List.map_append]; exact ho24) hg24; clear ho24 hg24 hb24 hn24; refine Hid.out ?_)
                    refine Lib.hid ?_
                    clear hcv hC2 HQ1 HQ2 qk
                    go_wp2_with fail
                    go_roundw
                    case rel => exact ⟨k + 1, _, by omega, by go_num, HQ3.out⟩
                    case measure => simp [intOf]; omega
                  · obtain rfl : k = met.length := by omega
                    have hsl : (setKs S of ks.length).length = ks.length := by rw [setKs_len, HRW2.out]
                    obtain ⟨ps, cs, es, hrs⟩ := HQ.out.st.trow
                    have e2 : p10 = ps := by injection es
                    subst e2
                    have hSo := sortedP_any p10 ks.length c10 (setKs S of ks.length) wr hsl (by omega) hrs
                    rw [← HTB.out] at hSo
                    clear es hrs hsl
                    go_wp2_with (go_at_call 68; refine Hid.out ?_)
                    refine Lib.hid ?_
                    (with_reducible refine hSo.mono ?_)
                    rintro e w25 ⟨v25, rfl, ho25, hb25⟩
                    obtain ⟨p25, c25, e25, -, -, -⟩ := ho25.shape
                    subst e25
                    have HQ5 := Hid.in (HQ.out.below hb25)
                    have HO25 : Hid (TOwn 86 w25 (w4.heap.size + 2) (.slice p25 ((tblP l).map z3V).length c25) ((tblP l).map z3V)) := by
                      obtain ⟨h0, h1⟩ := ho25
                      refine ⟨h0, h1.imp id ?_⟩
                      rintro ⟨g, cap, cur, x1, x2, x3⟩
                      exact ⟨g, cap, cur, x1, Nat.le_trans HQ.out.size x2, x3⟩
                    have q25 : w25.cell? ⟨w4.heap.size + 1, 2, none⟩ = some (.slice none 0 0) := HQ5.out.mb.cell 2
                    have f25 : w25.frozen? ⟨w4.heap.size + 1, 2, none⟩ = false := HQ5.out.mb.free 2
                    have HM6 := Hid.in (HQ5.out.mb.set 2 (.slice p25 ((tblP l).map z3V).length c25))
                    have HG6 := Hid.in (grown_setCell w25 (w4.heap.size + 1) 2 (.slice p25 ((tblP l).map z3V).length c25))
                    clear ho25 hb25 hSo HQ
                    generalize ((tblP l).map z3V).length = tl at *
                    go_upto_region 40 with fail
                    generalize w25.setCell ⟨w4.heap.size + 1, 2, none⟩ (.slice p25 tl c25) = w26 at *
                    clear q25 f25
                    have HM7 : Hid (Blk w26 (w4.heap.size + 1) 83 #[.slice (some ⟨g21, 0, none⟩) bl c21, .slice pK met.length cK, .slice p25 tl c25, .slice (some ⟨w4.heap.size, 0, none⟩) 1 1]) := HM6.out
                    have HR5 := Hid.in (HRs4.out.grow HQ5.out.bel)
                    have hlt4 := HRs4.out.lt
                    have HR6 := Hid.in (HR5.out.kept HG6.out (by intro e; injection e with e; omega))
                    have far : Hid (∀ {T : TypeId} {z n : Nat} {v : Value} {vs : List Value} {W : World} (q : Nat), q < w4.heap.size + 2 → W.ownsRow (w4.heap.size + 2) T z v n vs → ∀ g, v.ownBlock = some g → some q ≠ some g) := fun {T z n v vs W} q hq hr g e e' => by
                      have := (World.ownsRow.lt hr g e).1
                      injection e' with e'
                      omega
                    have HY6 : Hid (OwnV w26 (w4.heap.size + 2) (.slice (some ⟨g21, 0, none⟩) bl c21) (bytesP l)) := row_stay HQ5.out.by_ HG6.out (far.out _ (by omega) HQ5.out.by_)
                    have HK6 : Hid (GOwnV 9 w26 (w4.heap.size + 2) (.slice pK met.length cK) ((txtP met.length).map Value.string)) := row_stay HQ5.out.kk HG6.out (far.out _ (by omega) HQ5.out.kk)
                    have HS6 : Hid (TOwn 86 w26 (w4.heap.size + 2) (.slice p25 tl c25) ((tblP l).map z3V)) := row_stay HO25.out HG6.out (far.out _ (by omega) HO25.out)
                    have HU6 := Hid.in (HQ5.out.un.kept HG6.out (by intro e; injection e with e; omega))
                    have HB6 : Hid (Below w.heap.size w w26) := (below_step HBA.out HQ5.out.bel).grown HG6.out (below_step HBA.out HQ5.out.bel).size (fun k hk => by injection hk with hk; have := HBA.out.size; omega)
                    clear HM6 HR5 HG6 HQ5 HO25 HRs4
                    have a0 : w26.cell? ⟨w4.heap.size + 1, 0, none⟩ = some (.slice (some ⟨g21, 0, none⟩) bl c21) := HM7.out.cell 0
                    have a1 : w26.cell? ⟨w4.heap.size + 1, 1, none⟩ = some (.slice pK met.length cK) := HM7.out.cell 1
                    have a2 : w26.cell? ⟨w4.heap.size + 1, 2, none⟩ = some (.slice p25 tl c25) := HM7.out.cell 2
                    have a3 : w26.cell? ⟨w4.heap.size + 1, 3, none⟩ = some (.slice (some ⟨w4.heap.size, 0, none⟩) 1 1) := HM7.out.cell 3
                    have z0 : w26.cell? ⟨w.heap.size, 0, none⟩ = some (.slice none 0 0) := HR6.out.cell 0
                    have z1 : w26.cell? ⟨w.heap.size, 1, none⟩ = some (.slice none 0 0) := HR6.out.cell 1
                    have z2 : w26.cell? ⟨w.heap.size, 2, none⟩ = some (.slice none 0 0) := HR6.out.cell 2
                    have z3 : w26.cell? ⟨w.heap.size, 3, none⟩ = some (.slice none 0 0) := HR6.out.cell 3
                    have zf : ∀ i, w26.frozen? ⟨w.heap.size, i, none⟩ = false := HR6.out.free
                    have HB7 := Hid.in (st4_blk w26 w.heap.size (.slice (some ⟨g21, 0, none⟩) bl c21) (.slice pK met.length cK) (.slice p25 tl c25) (.slice (some ⟨w4.heap.size, 0, none⟩) 1 1) HR6.out rfl)
                    have HG7 := Hid.in (st4_grown w26 w.heap.size (.slice (some ⟨g21, 0, none⟩) bl c21) (.slice pK met.length cK) (.slice p25 tl c25) (.slice (some ⟨w4.heap.size, 0, none⟩) 1 1))
                    go_wp2_with fail
                    generalize (((w26.setCell ⟨w.heap.size, 0, none⟩ (.slice (some ⟨g21, 0, none⟩) bl c21)).setCell ⟨w.heap.size, 1, none⟩ (.slice pK met.length cK)).setCell ⟨w.heap.size, 2, none⟩ (.slice p25 tl c25)).setCell ⟨w.heap.size, 3, none⟩ (.slice (some ⟨w4.heap.size, 0, none⟩) 1 1) = w27 at *
                    have hld := HB7.out.load 83 _ Tryz.underlying83 rfl Tryz.sz83
                    have hs4 : w.heap.size ≤ w4.heap.size + 2 := by omega
                    have hq : ∀ {T : TypeId} {z n : Nat} {v : Value} {vs : List Value}, w26.ownsRow (w4.heap.size + 2) T z v n vs → w27.ownsRow w.heap.size T z v n vs := fun {T z n v vs} hr => by
                      obtain ⟨h0, h1⟩ := row_stay hr HG7.out (far.out w.heap.size (by omega) hr)
                      refine ⟨h0, h1.imp id ?_⟩
                      rintro ⟨g, cap, cur, x1, x2, x3⟩
                      exact ⟨g, cap, cur, x1, Nat.le_trans hs4 x2, x3⟩
                    have hU : GOwnV 3 w27 w.heap.size (.slice (some ⟨w4.heap.size, 0, none⟩) 1 1) (numZ [0]) := by
                      have hb : Blk w27 w4.heap.size 3 #[.int .i64 0] := HU6.out.kept HG7.out (by intro e; injection e with e; omega)
                      exact (GOwn.mk (vs := numZ [0]) (by omega) hb (by simp) (by decide) rfl rfl).val
                    have hE : Below w.heap.size w w27 := HB6.out.grown HG7.out HB6.out.size (fun k hk => by injection hk with hk; omega)
                    exact bodyPost_ret (v := .agg #[.slice (some ⟨g21, 0, none⟩) bl c21, .slice pK met.length cK, .slice p25 tl c25, .slice (some ⟨w4.heap.size, 0, none⟩) 1 1]) (by simp [results, Tryz.results31, asAddr, hld]) rfl ⟨_, _, _, _, rfl, ⟨hq HY6.out, by rw [HKE.out]; exact hq HK6.out, hq HS6.out, hU⟩, hE⟩
end Go.Proofs.YtnpaijbkhmnfpaaGreat
