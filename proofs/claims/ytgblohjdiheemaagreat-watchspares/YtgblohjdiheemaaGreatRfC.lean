/- Ours: append of a row as an equation; switchyardref23.Switches. -/
import Derived.Test.YtgblohjdiheemaaGreatKai
namespace Go.Proofs.YtgblohjdiheemaaGreat
open Go.RowKit Go.Maps

/-- 'append(l, more...)', as an equation: more lies in memory, or is nil -/
theorem krun_row {α : Type} {F : Fm α} {t T ty : TypeId} {by_ : Nat} (he : ElemK F t T by_) (w : World) (B : Nat) (v : Value) (L M : List α) (hown : KOwn F T w B v L) (p : Option Addr) (m c : Nat) (hM : M.length = m) (hrow : KRow F w p M) (hnil : p = none → c = 0)
    (hl : L.length + M.length ≤ 1048576) (hby : by_ ≤ 100) (hB : B ≤ w.heap.size) :
    ∃ v' w', (Builtin.append_ #[t, t] ty #[v, .slice p m c]).run Tryz.prog w = .ok v' w' ∧ KOwn F T w' B v' (L ++ M) ∧ w.grownBy w' v.ownBlock := by
  subst hM
  obtain ⟨hu, z, hzc, hinfo⟩ := he
  obtain ⟨i0, hi, hz0, hz1, hz2⟩ := info_parts hinfo
  cases p with
  | none =>
    have e0 : M = [] := by
      rcases Nat.eq_zero_or_pos M.length with h | h
      · exact List.eq_nil_of_length_eq_zero h
      · obtain ⟨_, _, e, _⟩ := hrow h; cases e
    obtain rfl := hnil rfl
    subst e0
    refine ⟨v, w, run_append_owned_none (P := Tryz.prog) (w := w) B t ty T i0 F.k hu hi v L.length (F.cs L) hown, ?_, World.grownBy.refl _ _⟩
    rw [List.append_nil]; exact hown
  | some ad =>
    have hcell : ∀ j u, (F.cs M)[j]? = some u → w.cell? (ad.add j) = some u := fun j u hj => by
      have hjl : j < M.length * F.k := by rw [← F.cs_len]; exact (List.getElem?_eq_some_iff.1 hj).1
      have hq : j / F.k < M.length := Nat.div_lt_of_lt_mul (by rw [Nat.mul_comm]; exact hjl)
      obtain ⟨b, o', e0, hc⟩ := hrow (Nat.lt_of_le_of_lt (Nat.zero_le _) hq)
      obtain rfl : ad = ⟨b, o', none⟩ := Option.some.inj e0
      rw [Go.WideShapes.add_plain]
      have h1 := hc (j / F.k) hq (j % F.k) (Nat.mod_lt _ F.pos)
      have h2 := F.cs_at M (j / F.k) hq (j % F.k) (Nat.mod_lt _ F.pos)
      have e : j / F.k * F.k + j % F.k = j := Nat.div_add_mod' j F.k
      rw [e] at h2
      rw [Nat.add_assoc, e] at h1
      rw [← h2, hj] at h1
      exact h1
    obtain ⟨v', w', h3, h4, h5, -, -⟩ := run_append_own_at (P := Tryz.prog) w B t ty T i0 z F.k by_ hu hi hz0 hz1 hz2 hzc F.pos v L.length (F.cs L) hown ad M.length c (F.cs M) (F.cs_len M) hcell (F.cs_mem M) (by unfold maxLen; omega)
      (Nat.le_trans (Nat.mul_le_mul hl hby) (by decide)) hB
    refine ⟨v', w', h3, ?_, h5⟩
    unfold KOwn
    rw [List.length_append, F.cs_two]
    exact h4
theorem wpList_krun {ops : Array Oper} {rest : List Oper} {o : Oper} {a : Act} {w : World} {Q : Exit → Act → World → Prop} {t : TypeId} (hgd : o.guard = none) (s x : Operand)
    (ho : o.op = .call { callee := .builtin .append, args := #[s, x], argTypes := #[t, t] }) (v v2 : Value) (hs : a.eval s = v) (hx : a.eval x = v2) (v' : Value) (w' : World)
    (hr : (Builtin.append_ #[t, t] o.type #[v, v2]).run Tryz.prog w = .ok v' w') (h : wpList Tryz.prog ops Q rest (a.put o.dst v') w') :
    wpList Tryz.prog ops Q (o :: rest) a w := by
  refine wpList_plain hgd fun K hK => ?_
  unfold Oper.wp execOp
  simp only [ho, resolve, invoke, builtin, Sem.run_bind, Sem.run_pure, Result.andThen_ok, List.map_toArray, List.map_cons, List.map_nil, hs, hx, hr]
  exact hK _ _ h
/-- what a switch costs up to the next call -/
def cnS (c : Cn) : List Fv → Cn
  | [] => c
  | x :: l => if x.k = 8 then c else cnS (chg c x) l
def rSw : List Fv → List Cn
  | [] => []
  | x :: l => if x.k = 8 then cnS ⟨0, 0, 0⟩ l :: rSw l else rSw l
theorem set_last (A : List Cn) (c d : Cn) : (A ++ [c]).set (A.length) d = A ++ [d] := by
  rw [List.set_append_right _ _ (Nat.le_refl _), Nat.sub_self]; rfl
theorem rSw_fold : ∀ (L : List Fv) (A : List Cn) (c : Cn), L.foldl swStep (A ++ [c]) = A ++ cnS c L :: rSw L
  | [], A, c => rfl
  | x :: L, A, c => by
    rw [List.foldl_cons]
    have hne : A ++ [c] ≠ [] := by simp
    by_cases h8 : x.k = 8
    · rw [show swStep (A ++ [c]) x = (A ++ [c]) ++ [⟨0, 0, 0⟩] by unfold swStep; rw [if_pos h8], rSw_fold L (A ++ [c]) ⟨0, 0, 0⟩, cnS, rSw, if_pos h8, if_pos h8, List.append_assoc]
      rfl
    · have e : swStep (A ++ [c]) x = A ++ [chg c x] := by
        unfold swStep
        rw [if_neg h8, if_neg hne, List.length_append, List.length_singleton, Nat.add_sub_cancel, set_last]
        congr 2
        rw [List.getD, List.getElem?_append_right (Nat.le_refl _), Nat.sub_self]; rfl
      rw [e, rSw_fold L A (chg c x), cnS, rSw, if_neg h8, if_neg h8]
theorem rSw_eq : ∀ L : List Fv, switchL L = rSw L
  | [] => rfl
  | x :: L => by
    have ih := rSw_eq L
    unfold switchL at *
    rw [List.foldl_cons]
    by_cases h8 : x.k = 8
    · rw [show swStep [] x = [] ++ [⟨0, 0, 0⟩] by unfold swStep; rw [if_pos h8], rSw_fold, rSw, if_pos h8]; rfl
    · rw [show swStep [] x = [] by unfold swStep; rw [if_neg h8, if_pos rfl], ih, rSw, if_neg h8]
theorem cnS_at (c : Cn) (L : List Fv) (k : Nat) (hk : k < L.length) : cnS c (L.drop k) = if L[k].k = 8 then c else cnS (chg c L[k]) (L.drop (k + 1)) := by
  rw [List.drop_eq_getElem_cons hk]; rfl
theorem rSw_at (L : List Fv) (k : Nat) (hk : k < L.length) : rSw (L.drop k) = if L[k].k = 8 then cnS ⟨0, 0, 0⟩ (L.drop (k + 1)) :: rSw (L.drop (k + 1)) else rSw (L.drop (k + 1)) := by
  rw [List.drop_eq_getElem_cons hk]; rfl
abbrev cnA (c : Cn) : Array Value := #[.int .i64 (c.s : Int), .int .i64 (c.w : Int), .int .i64 (c.r : Int), .int .i64 0, .int .i64 0]
/-- what stands within a switch's own loop -/
structure CS (w W : World) (V : Nat) (v : Value) (out : List Cn) (cc : Cn) : Prop where
  c : Blk W V 49 (cnA cc)
  o : KOwn fC 49 W w.heap.size v out
  ne : v.ownBlock ≠ some V
  b : Below w.heap.size w W
  lt : w.heap.size ≤ V
theorem CS.set {w W : World} {V : Nat} {v : Value} {out : List Cn} {x y : Cn} (h : CS w W V v out x) (i : Nat) (u : Value) (e : (cnA x).setIfInBounds i u = cnA y) : CS w (W.setCell ⟨V, i, none⟩ u) V v out y :=
  ⟨e ▸ h.c.set i u, h.o.kept (grown_setCell _ _ _ _) (.inr h.ne), h.ne, h.b.setCell h.lt u, h.lt⟩
set_option maxRecDepth 8000 in
set_option maxHeartbeats 8000000 in
theorem rswitches_any (p : Option Addr) (n c : Nat) (L : List Fv) (w : World) (hn : L.length = n) (hn2 : n ≤ 1000000) (hr : KRow fE w p L) :
    Calls Tryz.prog 21 #[.slice p n c] w fun e w' => ∃ v, e = .returned v ∧ KOwn fC 49 w' w.heap.size v (switchL L) ∧ Below w.heap.size w w' := by
  have HN := Hid.in hn
  have HR := Hid.in hr
  clear hn hr
  go_enter Tryz.func21, Tryz.ntmps21
  go_wp2_with fail
  go_loopw [3, 4] (fun v vi wr => ∃ (j : Nat) (out : List Cn), vi = .int .i64 j ∧ j ≤ n ∧ KOwn fC 49 wr w.heap.size v out ∧ out ++ rSw (L.drop j) = rSw L ∧ out.length ≤ j ∧ Below w.heap.size w wr) (fun _ vi _ => n - (intOf vi).toNat)
  case atStart => exact ⟨0, [], rfl, Nat.zero_le _, KOwn.nil _ _ _ _, rfl, Nat.le_refl _, Below.refl _ _⟩
  case round =>
    obtain ⟨j, out, rfl, hj, hO, hL, hoj, hB⟩ := hrel
    have HO := Hid.in hO
    have HL := Hid.in hL
    have HB := Hid.in hB
    have HOJ := Hid.in hoj
    clear hO hL hB hoj
    by_cases hlt : j < n
    · have hjL : j < L.length := by rw [HN.out]; exact hlt
      have HRr : Hid (KRow fE wr p L) := HR.out.below HB.out
      obtain ⟨b, o, rfl, hc⟩ := ev7 HRr.out (by omega)
      obtain ⟨c0, -, -, -, -, -, -⟩ := hc j hjL
      have HX := Hid.in (rSw_at L j hjL)
      have HOL : Hid (out.length ≤ 1048576) := Nat.le_trans HOJ.out (by omega)
      generalize L[j] = x at *
      obtain ⟨pv, cv, ev, -⟩ := HO.out.shape
      subst ev
      obtain ⟨xk, xst, xh, xp, xo, xky, xn⟩ := x
      dsimp only at *
      have g1 : decide ((j : Int) < (n : Int)) = true := decide_eq_true (by omega)
      have w3 : IntKind.i64.wrap ((j : Int) + 1) = (j : Int) + 1 := by rw [IntKind.wrap_i64]; omega
      clear hc HRr
      by_cases h8 : xk = 8
      · subst h8
        have hE := HL.out
        rw [HX.out, if_pos rfl] at hE
        have HL2 := Hid.in hE
        clear HX hE HL
        go_upto_region 7 with fail
        have HC1 : Hid (CS w (wr.alloc (.cells (cnA ⟨0, 0, 0⟩) 49)) wr.heap.size (.slice pv out.length cv) out ⟨0, 0, 0⟩) :=
          ⟨Blk.new wr 49 _, HO.out.alloc _, fun e => by
            have h1 := HO.out.ownB e
            have h2 := (h1.2.choose_spec).lt
            omega, below_alloc HB.out _, HB.out.size⟩
        generalize wr.alloc (.cells (cnA ⟨0, 0, 0⟩) 49) = w1 at *
        generalize wr.heap.size = V at *
        clear c0 HO HB
        go_wp2_with fail
        go_loopw [6] (fun vk wx => ∃ (k : Nat) (cc : Cn), vk = .int .i64 k ∧ j + 1 ≤ k ∧ k ≤ n ∧ CS w wx V (.slice pv out.length cv) out cc ∧ cnS cc (L.drop k) = cnS ⟨0, 0, 0⟩ (L.drop (j + 1)) ∧ cc.s ≤ k ∧ cc.w ≤ k ∧ cc.r ≤ k) (fun vk _ => n - (intOf vk).toNat)
        case atStart => exact ⟨j + 1, ⟨0, 0, 0⟩, by go_num, Nat.le_refl _, by omega, HC1.out, rfl, Nat.zero_le _, Nat.zero_le _, Nat.zero_le _⟩
        case round =>
          obtain ⟨k, ⟨cs, cw, cr⟩, rfl, hjk, hkn, hcs, hK, l1, l2, l3⟩ := hrel
          have HC := Hid.in hcs
          have HK := Hid.in hK
          dsimp only at *
          clear hcs hK HC1
          by_cases hk : k < n
          · have hkL : k < L.length := by rw [HN.out]; exact hk
            have HRr : Hid (KRow fE wr (some ⟨b, o, none⟩) L) := HR.out.below HC.out.b
            obtain ⟨b', o', e1, hc⟩ := ev7 HRr.out (by omega)
            have e2 := Option.some.inj e1
            injection e2 with e3 e4
            subst e3 e4
            obtain ⟨c0, -, -, -, -, -, c6⟩ := hc k hkL
            have HX := Hid.in (cnS_at ⟨cs, cw, cr⟩ L k hkL)
            obtain ⟨⟨yk, yst, yh, yp, yo, yky, yn⟩, hy⟩ : ∃ y, L[k] = y := ⟨_, rfl⟩
            have HYE := Hid.in hy
            rw [hy] at c0 c6 HX
            clear hy
            dsimp only at *
            have g2 : decide ((k : Int) < (n : Int)) = true := decide_eq_true (by omega)
            have g3 : (0 : Int) ≤ (k : Int) := by omega
            have g4 : (k : Int) < (n : Int) := by omega
            have w4 : IntKind.i64.wrap ((k : Int) + 1) = (k : Int) + 1 := by rw [IntKind.wrap_i64]; omega
            have w5 : IntKind.i64.wrap ((cs : Int) + 1) = (cs : Int) + 1 := by rw [IntKind.wrap_i64]; omega
            have w6 : IntKind.i64.wrap ((cw : Int) + 1) = (cw : Int) + 1 := by rw [IntKind.wrap_i64]; omega
            have w7 : IntKind.i64.wrap ((cr : Int) + 1) = (cr : Int) + 1 := by rw [IntKind.wrap_i64]; omega
            clear hc HRr e1
            by_cases h8 : yk = 8
            · subst h8
              have HE : Hid ((out ++ [⟨cs, cw, cr⟩]) ++ rSw (L.drop (j + 1)) = rSw L) := by
                show _ = _
                have h1 := HK.out
                rw [HX.out, if_pos rfl] at h1
                rw [← HL2.out, ← h1, List.append_assoc]; rfl
              clear HK HX HL2 w4 w5 w6 w7
              have k0 : wr.cell? ⟨V, 0, none⟩ = some (.int .i64 (cs : Int)) := HC.out.c.cell 0
              have k1 : wr.cell? ⟨V, 1, none⟩ = some (.int .i64 (cw : Int)) := HC.out.c.cell 1
              have k2 : wr.cell? ⟨V, 2, none⟩ = some (.int .i64 (cr : Int)) := HC.out.c.cell 2
              have k3 : wr.cell? ⟨V, 3, none⟩ = some (.int .i64 0) := HC.out.c.cell 3
              have k4 : wr.cell? ⟨V, 4, none⟩ = some (.int .i64 0) := HC.out.c.cell 4
              go_wp2_with (at_builtin; refine Hid.out ?_)
              refine Lib.hid ?_
              refine kpush elemC _ rfl _ _ rfl w.heap.size _ out rfl (HC.out.o.alloc _) ⟨wr.heap.size, 0, none⟩ 1 ⟨cs, cw, cr⟩ rfl (fC.news wr ⟨cs, cw, cr⟩ 49 #[.int .i64 (cs : Int), .int .i64 (cw : Int), .int .i64 (cr : Int), .int .i64 0, .int .i64 0] rfl) HOL.out (by decide) (Nat.le_trans HC.out.b.size (new_alloc _ _).size) ?_
              intro v' w5 ho5 hg5 hb5
              have HO5 := Hid.in ho5
              have HB5 := Hid.in (hb5 w (below_alloc HC.out.b _))
              clear ho5 hg5 hb5 k0 k1 k2 k3 k4 HC
              go_wp2_with fail
              go_roundw
              case rel => exact ⟨j + 1, out ++ [⟨cs, cw, cr⟩], by go_num, by omega, HO5.out, HE.out, by rw [List.length_append]; show _ ≤ j + 1; have := HOJ.out; simp; omega, HB5.out⟩
              case measure => simp [intOf]; omega
            · have e8 : (yk == 8) = false := by simpa using h8
              have k0 : wr.cell? ⟨V, 0, none⟩ = some (.int .i64 (cs : Int)) := HC.out.c.cell 0
              have k1 : wr.cell? ⟨V, 1, none⟩ = some (.int .i64 (cw : Int)) := HC.out.c.cell 1
              have k2 : wr.cell? ⟨V, 2, none⟩ = some (.int .i64 (cr : Int)) := HC.out.c.cell 2
              have f1 : wr.frozen? ⟨V, 1, none⟩ = false := HC.out.c.free 1
              have f2 : wr.frozen? ⟨V, 2, none⟩ = false := HC.out.c.free 2
              have hX := HX.out
              rw [if_neg h8, HK.out] at hX
              have HX2 := Hid.in hX
              clear HX HK hX
              by_cases h11 : yk = 11
              · subst h11
                have HE2 : Hid (cnS ⟨cs, cw, cr + 1⟩ (L.drop (k + 1)) = cnS ⟨0, 0, 0⟩ (L.drop (j + 1))) := HX2.out.symm
                clear HX2
                have HC2 : Hid (CS w (wr.setCell ⟨V, 2, none⟩ (.int .i64 ((cr : Int) + 1))) V (.slice pv out.length cv) out ⟨cs, cw, cr + 1⟩) := HC.out.set 2 _ rfl
                go_wp2_with fail
                go_roundw
                case rel => exact ⟨k + 1, ⟨cs, cw, cr + 1⟩, by go_num, by omega, by omega, HC2.out, HE2.out, by show cs ≤ k + 1; omega, by show cw ≤ k + 1; omega, by show cr + 1 ≤ k + 1; omega⟩
                case measure => simp [intOf]; omega
              · have e11 : (yk == 11) = false := by simpa using h11
                by_cases h10 : yk = 10
                · subst h10
                  by_cases h4 : yn = 4
                  · subst h4
                    have HE2 : Hid (cnS ⟨cs + 1, cw + 1, cr⟩ (L.drop (k + 1)) = cnS ⟨0, 0, 0⟩ (L.drop (j + 1))) := HX2.out.symm
                    clear HX2
                    have HC2 : Hid (CS w (wr.setCell ⟨V, 1, none⟩ (.int .i64 ((cw : Int) + 1))) V (.slice pv out.length cv) out ⟨cs, cw + 1, cr⟩) := HC.out.set 1 _ rfl
                    go_upto_region 12 with fail
                    have HR2 : Hid (KRow fE (wr.setCell ⟨V, 1, none⟩ (.int .i64 ((cw : Int) + 1))) (some ⟨b, o, none⟩) L) := HR.out.below HC2.out.b
                    generalize wr.setCell ⟨V, 1, none⟩ (.int .i64 ((cw : Int) + 1)) = w8 at *
                    have d0 : w8.cell? ⟨V, 0, none⟩ = some (.int .i64 (cs : Int)) := HC2.out.c.cell 0
                    have fd0 : w8.frozen? ⟨V, 0, none⟩ = false := HC2.out.c.free 0
                    obtain ⟨b', o', e1, hc⟩ := ev7 HR2.out (by have := HN.out; omega)
                    have e2 := Option.some.inj e1
                    injection e2 with e3 e4
                    subst e3 e4
                    obtain ⟨z0, -, -, -, -, -, z6⟩ := hc k hkL
                    have HG := Hid.in HYE.out
                    rw [HYE.out] at z0 z6
                    dsimp only at z0 z6
                    clear hc e1 HR2 k0 k1 k2 f1 f2 c0 c6 HG
                    have HC3 : Hid (CS w (w8.setCell ⟨V, 0, none⟩ (.int .i64 ((cs : Int) + 1))) V (.slice pv out.length cv) out ⟨cs + 1, cw + 1, cr⟩) := HC2.out.set 0 _ rfl
                    go_wp2_with fail
                    go_roundw
                    case rel => exact ⟨k + 1, ⟨cs + 1, cw + 1, cr⟩, by go_num, by omega, by omega, HC3.out, HE2.out, by show cs + 1 ≤ k + 1; omega, by show cw + 1 ≤ k + 1; omega, by show cr ≤ k + 1; omega⟩
                    case measure => simp [intOf]; omega
                  · have e4 : (yn == 4) = false := by simpa using h4
                    have HE2 : Hid (cnS ⟨cs, cw + 1, cr⟩ (L.drop (k + 1)) = cnS ⟨0, 0, 0⟩ (L.drop (j + 1))) := by
                      show _ = _
                      rw [HX2.out]
                      congr 1
                      show _ = chg _ _
                      unfold chg
                      rw [if_neg (show ¬ ((10 : Int) = 11) by decide), if_pos rfl, if_neg h4]
                    clear HX2
                    have HC2 : Hid (CS w (wr.setCell ⟨V, 1, none⟩ (.int .i64 ((cw : Int) + 1))) V (.slice pv out.length cv) out ⟨cs, cw + 1, cr⟩) := HC.out.set 1 _ rfl
                    go_upto_region 12 with fail
                    have HR2 : Hid (KRow fE (wr.setCell ⟨V, 1, none⟩ (.int .i64 ((cw : Int) + 1))) (some ⟨b, o, none⟩) L) := HR.out.below HC2.out.b
                    generalize wr.setCell ⟨V, 1, none⟩ (.int .i64 ((cw : Int) + 1)) = w8 at *
                    obtain ⟨b', o', e1, hc⟩ := ev7 HR2.out (by have := HN.out; omega)
                    have e2 := Option.some.inj e1
                    injection e2 with e3 e4
                    subst e3 e4
                    obtain ⟨z0, -, -, -, -, -, z6⟩ := hc k hkL
                    rw [HYE.out] at z0 z6
                    dsimp only at z0 z6
                    clear hc e1 HR2 k0 k1 k2 f1 f2 c0 c6
                    go_wp2_with fail
                    go_roundw
                    case rel => exact ⟨k + 1, ⟨cs, cw + 1, cr⟩, by go_num, by omega, by omega, HC2.out, HE2.out, by show cs ≤ k + 1; omega, by show cw + 1 ≤ k + 1; omega, by show cr ≤ k + 1; omega⟩
                    case measure => simp [intOf]; omega
                · have e10 : (yk == 10) = false := by simpa using h10
                  have HE2 : Hid (cnS ⟨cs, cw, cr⟩ (L.drop (k + 1)) = cnS ⟨0, 0, 0⟩ (L.drop (j + 1))) := by
                    show _ = _
                    rw [HX2.out]
                    congr 1
                    show _ = chg _ _
                    unfold chg
                    rw [if_neg h11, if_neg h10]
                  clear HX2
                  go_wp2_with fail
                  go_roundw
                  case rel => exact ⟨k + 1, ⟨cs, cw, cr⟩, by go_num, by omega, by omega, HC.out, HE2.out, by show cs ≤ k + 1; omega, by show cw ≤ k + 1; omega, by show cr ≤ k + 1; omega⟩
                  case measure => simp [intOf]; omega
          · obtain rfl : k = n := by omega
            have HE : Hid ((out ++ [⟨cs, cw, cr⟩]) ++ rSw (L.drop (j + 1)) = rSw L) := by
              show _ = _
              have h1 := HK.out
              rw [List.drop_of_length_le (by rw [HN.out]; exact Nat.le_refl _)] at h1
              have h2 : cnS ⟨cs, cw, cr⟩ [] = ⟨cs, cw, cr⟩ := rfl
              rw [← HL2.out, ← h1, h2, List.append_assoc]; rfl
            clear HK HL2
            have k0 : wr.cell? ⟨V, 0, none⟩ = some (.int .i64 (cs : Int)) := HC.out.c.cell 0
            have k1 : wr.cell? ⟨V, 1, none⟩ = some (.int .i64 (cw : Int)) := HC.out.c.cell 1
            have k2 : wr.cell? ⟨V, 2, none⟩ = some (.int .i64 (cr : Int)) := HC.out.c.cell 2
            have k3 : wr.cell? ⟨V, 3, none⟩ = some (.int .i64 0) := HC.out.c.cell 3
            have k4 : wr.cell? ⟨V, 4, none⟩ = some (.int .i64 0) := HC.out.c.cell 4
            go_wp2_with (at_builtin; refine Hid.out ?_)
            refine Lib.hid ?_
            refine kpush elemC _ rfl _ _ rfl w.heap.size _ out rfl (HC.out.o.alloc _) ⟨wr.heap.size, 0, none⟩ 1 ⟨cs, cw, cr⟩ rfl (fC.news wr ⟨cs, cw, cr⟩ 49 #[.int .i64 (cs : Int), .int .i64 (cw : Int), .int .i64 (cr : Int), .int .i64 0, .int .i64 0] rfl) HOL.out (by decide) (Nat.le_trans HC.out.b.size (new_alloc _ _).size) ?_
            intro v' w5 ho5 hg5 hb5
            have HO5 := Hid.in ho5
            have HB5 := Hid.in (hb5 w (below_alloc HC.out.b _))
            clear ho5 hg5 hb5 k0 k1 k2 k3 k4 HC
            go_wp2_with fail
            go_roundw
            case rel => exact ⟨j + 1, out ++ [⟨cs, cw, cr⟩], by go_num, by omega, HO5.out, HE.out, by rw [List.length_append]; show _ ≤ j + 1; have := HOJ.out; simp; omega, HB5.out⟩
            case measure => simp [intOf]; omega
      · have e8 : (xk == 8) = false := by simpa using h8
        have hE := HL.out
        rw [HX.out, if_neg h8] at hE
        have HL2 := Hid.in hE
        clear HX hE HL
        go_wp2_with fail
        go_roundw
        case rel => exact ⟨j + 1, out, by go_num, by omega, HO.out, HL2.out, by have := HOJ.out; omega, HB.out⟩
        case measure => simp [intOf]; omega
    · obtain rfl : j = n := by omega
      have HE : Hid (out = switchL L) := by
        have h1 := HL.out
        rw [List.drop_of_length_le (by rw [HN.out]; exact Nat.le_refl _)] at h1
        show out = _
        rw [rSw_eq, ← h1]
        exact (List.append_nil out).symm
      go_wp2_with fail
      go_ret
      exact ⟨_, rfl, by rw [← HE.out]; exact HO.out, HB.out⟩
end Go.Proofs.YtgblohjdiheemaaGreat
