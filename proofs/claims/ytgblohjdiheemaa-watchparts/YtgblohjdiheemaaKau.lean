/- Texts put together: PrtW. -/
import Derived.Test.YtgblohjdiheemaaKat
import Derived.Deep.QuietTactic
import Derived.BigQuiet
import Derived.Deep.DeepCutAuto

/- Ours: the walk of WatchParts. -/
namespace Go.Proofs.Ytgblohjdiheemaa
open Go.RowKit Go.Maps

/-- what stands through the walk -/
structure PS (w W : World) (M : Nat) (A4 : Array Value) (qs : Option Addr) (si : List Si) (qv : Option Addr) (V : List Vw) (p : Option Addr) (L : List Fv) : Prop where
  a : Blk W M 29 A4
  s : Row3 W qs (si.map siV)
  v : KRow fW W qv V
  e : KRow fE W p L
  b : Below w.heap.size w W
theorem PS.grow {w W W' : World} {M : Nat} {A4 : Array Value} {qs : Option Addr} {si : List Si} {qv : Option Addr} {V : List Vw} {p : Option Addr} {L : List Fv} (h : PS w W M A4 qs si qv V p L) (hb : Below W.heap.size W W') : PS w W' M A4 qs si qv V p L :=
  ⟨h.a.grow hb, h.s.below hb, h.v.below hb, h.e.below hb, below_step h.b hb⟩
theorem sliceE_to (p : Option Addr) (n c k : Nat) (hk : k ≤ c) (W : World) : (Instr.sliceAt 23 (.slice p n c) none (some (.int .i64 k)) none).run Try.prog W = .ok (.slice p k c) W := by
  have h2 : (k : Int) ≤ (c : Int) := by omega
  have h3 : (0 : Int) ≤ (k : Int) := by omega
  simp [Instr.sliceAt, Instr.slice, Instr.sliceBounds, go_sem, h2, h3]
theorem sliceE_from (p : Option Addr) (n c k : Nat) (_ : n ≤ c) (hk : k ≤ n) (W : World) : (Instr.sliceAt 23 (.slice p n c) (some (.int .i64 k)) none none).run Try.prog W = .ok (.slice (if c = k then p else p.map (·.add (k * 7))) (n - k) (c - k)) W := by
  have h2 : (k : Int) ≤ (n : Int) := by omega
  have h3 : (0 : Int) ≤ (k : Int) := by omega
  simp [Instr.sliceAt, Instr.slice, Instr.sliceBounds, go_sem, h2, h3]
theorem KRow.dropK {w : World} {p : Option Addr} {L : List Fv} (h : KRow fE w p L) (c k : Nat) (hc : L.length ≤ c) : KRow fE w (if c = k then p else p.map (·.add (k * 7))) (L.drop k) := fun h0 => by
  rw [List.length_drop] at h0
  rw [if_neg (by omega)]
  obtain ⟨b, o, rfl, hcl⟩ := h (by omega)
  refine ⟨b, o + k * 7, by rw [Option.map_some]; rw [show (⟨b, o, none⟩ : Addr).add (k * 7) = ⟨b, o + k * 7, none⟩ from Go.WideShapes.add_plain _ _ _], fun i hi j hj => ?_⟩
  rw [List.length_drop] at hi
  have := hcl (k + i) (by omega) j hj
  rw [List.getElem_drop, ← this]
  congr 2
  show o + k * 7 + i * 7 + j = o + (k + i) * 7 + j
  omega
theorem KRow.takeK {α : Type} {F : Fm α} {w : World} {p : Option Addr} {L : List α} (h : KRow F w p L) (k : Nat) : KRow F w p (L.take k) := fun h0 => by
  rw [List.length_take] at h0
  obtain ⟨b, o, e, hcl⟩ := h (by omega)
  refine ⟨b, o, e, fun i hi j hj => ?_⟩
  rw [List.length_take] at hi
  rw [List.getElem_take]
  exact hcl i (by omega) j hj
theorem hit_le (x : Fv) (si : List Si) : sumB (hit x) si ≤ si.length := by
  induction si with
  | nil => exact Nat.le_refl _
  | cons s si ih =>
    rw [sumB_cons, List.length_cons]
    have : hit x s ≤ 1 := by unfold hit; split <;> omega
    omega
theorem allL_le (si : List Si) (L : List Fv) : allL si L ≤ L.length * si.length := by
  induction L with
  | nil => exact Nat.zero_le _
  | cons x L ih =>
    unfold allL at *
    rw [sumB_cons, List.length_cons, Nat.succ_mul]
    have := hit_le x si
    omega
theorem sumB_drop {α : Type} (f : α → Nat) (l : List α) (i : Nat) (h : i < l.length) : sumB f (l.drop i) = f l[i] + sumB f (l.drop (i + 1)) := by
  rw [List.drop_eq_getElem_cons h, sumB_cons]
theorem sumB_take {α : Type} (f : α → Nat) (l : List α) (i : Nat) (h : i < l.length) : sumB f (l.take (i + 1)) = sumB f (l.take i) + f l[i] := by
  rw [take_snoc l i h, sumB_app, sumB_cons, sumB_nil]; omega
/-- 'append(l, more...)' of two rows of a call's own, as an equation -/
theorem krun_app {α : Type} {F : Fm α} {t T ty : TypeId} {by_ : Nat} (he : ElemK F t T by_) (w : World) (B B2 : Nat) (v v2 : Value) (L M : List α) (hown : KOwn F T w B v L) (h2 : KOwn F T w B2 v2 M)
    (hl : L.length + M.length ≤ 1048576) (hby : by_ ≤ 100) (hB : B ≤ w.heap.size) :
    ∃ v' w', (Builtin.append_ #[t, t] ty #[v, v2]).run Try.prog w = .ok v' w' ∧ KOwn F T w' B v' (L ++ M) ∧ w.grownBy w' v.ownBlock := by
  obtain ⟨hu, z, hzc, hinfo⟩ := he
  obtain ⟨i0, hi, hz0, hz1, hz2⟩ := info_parts hinfo
  rcases h2.2 with ⟨rfl, e0⟩ | ⟨g, cap, cur, e1, -⟩
  · obtain rfl := List.eq_nil_of_length_eq_zero e0
    refine ⟨v, w, run_append_owned_none (P := Try.prog) (w := w) B t ty T i0 F.k hu hi v L.length (F.cs L) hown, ?_, World.grownBy.refl _ _⟩
    rw [List.append_nil]; exact hown
  · subst e1
    have hcell : ∀ j u, (F.cs M)[j]? = some u → w.cell? ((⟨g, 0, none⟩ : Addr).add j) = some u := fun j u hj => by
      have hjl : j < M.length * F.k := by rw [← F.cs_len]; exact (List.getElem?_eq_some_iff.1 hj).1
      rw [Go.WideShapes.add_plain, Nat.zero_add]
      have hr : w.ownsRow B2 T F.k (.slice (some ⟨g, 0, none⟩) M.length cap) M.length (F.cs M) := h2
      rw [hr.cellAt j hjl, hj]
    obtain ⟨v', w', h3, h4, h5, -, -⟩ := run_append_own_at (P := Try.prog) w B t ty T i0 z F.k by_ hu hi hz0 hz1 hz2 hzc F.pos v L.length (F.cs L) hown ⟨g, 0, none⟩ M.length cap (F.cs M) (F.cs_len M) hcell (F.cs_mem M) (by unfold maxLen; omega)
      (Nat.le_trans (Nat.mul_le_mul hl hby) (by decide)) hB
    refine ⟨v', w', h3, ?_, h5⟩
    unfold KOwn
    rw [List.length_append, F.cs_two]
    exact h4
/-- .. at a step of a region that draws -/
theorem step_krun {ops : Array Oper} {o : Oper} {a : Act} {w : World} {K : Act → World → Prop} {Q : Exit → Act → World → Prop} {E : Prop} {t : TypeId} (hgd : o.guard = none) (s x : Operand)
    (ho : o.op = .call { callee := .builtin .append, args := #[s, x], argTypes := #[t, t] }) (v v2 : Value) (hs : a.eval s = v) (hx : a.eval x = v2) (v' : Value) (w' : World)
    (hr : (Builtin.append_ #[t, t] o.type #[v, v2]).run Try.prog w = .ok v' w') (h : K (a.put o.dst v') w') :
    if Region.wanted o (yielded ops a.tmps) = true then Oper.wp Try.prog o a w K Q else E := by
  have hw : Region.wanted o (yielded ops a.tmps) = true := by simp [Region.wanted, hgd]
  rw [if_pos hw]
  unfold Oper.wp execOp
  simp only [ho, resolve, invoke, builtin, Sem.run_bind, Sem.run_pure, Result.andThen_ok, List.map_toArray, List.map_cons, List.map_nil, hs, hx, hr]
  exact h
set_option maxRecDepth 20000 in
set_option maxHeartbeats 16000000 in
theorem parts_walk (ps : Option Addr) (nS cS : Nat) (zs : List Int) (p : Option Addr) (n c : Nat) (L : List Fv) (cut : Int) (w : World) (hz : zs.length = nS) (hnS : nS ≤ 140737488355328) (hcS : nS ≤ cS) (hzr : GRow w ps (numZ zs))
    (hn : L.length = n) (hnc : n ≤ c) (_ : c ≤ 9223372036854775807) (hr : KRow fE w p L) (hok : ∀ x ∈ L, FvOk x) :
    Calls Try.prog 3 #[.slice ps nS cS, .slice p n c, .int .i64 cut] w fun e w' => e = .returned (.bool true) ∧ Below w.heap.size w w' := by
  have HAW : Hid (∀ W : World, Calls Try.prog 5 #[] W _) := fun W => awake_any W
  by_cases hbig : (400 : Int) < (n : Int)
  · have g0 : decide ((400 : Int) < (n : Int)) = true := decide_eq_true hbig
    clear hn hnc hr hok hz hnS hcS hzr
    go_enter Try.func3, Try.ntmps3
    go_wp2_with (go_at_call 5; refine Hid.out ?_)
    refine Lib.hid ?_
    (with_reducible refine (HAW.out _).mono ?_)
    rintro e w2 ⟨rfl, hb⟩
    have HB := Hid.in hb
    clear hb
    go_wp2_with fail
    go_ret
    exact ⟨rfl, HB.out⟩
  have g0 : decide ((400 : Int) < (n : Int)) = false := decide_eq_false hbig
  have hn4 : n ≤ 400 := by omega
  have hI := image_any ps nS cS zs w hz hnS hcS hzr
  have HN := Hid.in hn
  have HR := Hid.in hr
  have HOK := Hid.in hok
  have HNC := Hid.in hnc
  clear hn hr hok hz hnS hcS hzr hnc hbig
  go_enter Try.func3, Try.ntmps3
  go_wp2_with (go_at_call 6; refine Hid.out ?_)
  refine Lib.hid ?_
  (with_reducible refine hI.mono ?_)
  rintro e w1 ⟨vB, vK, vS, vU, rfl, ho, hb⟩
  have HB1 := Hid.in hb
  have hm20 : (zs.take 20).length ≤ 20 := by rw [List.length_take]; omega
  have hokm := imM_ok (zs.take 20) hm20
  obtain ⟨qb, qk, qs, qu, db, dk, ds, du, rfl, rfl, rfl, rfl, hin, -⟩ := ho.inOk hokm (imM_byt _)
  have HI1 := Hid.in hin
  have HOM := Hid.in hokm
  have HS256 : Hid ((imM (zs.take 20)).si.length ≤ 256) := (okI_im hokm).si
  clear hI ho hb hin hokm hm20
  generalize imM (zs.take 20) = m at *
  generalize hlb : m.bs.length = nb at *
  generalize hlk : m.ks.length = nk at *
  generalize hls : m.si.length = ns at *
  generalize hlu : m.un.length = nu at *
  clear hlb hlk hlu
  go_upto_region 4 with fail
  have HA2 := Hid.in (Blk.new w1 29 #[.slice qb nb db, .slice qk nk dk, .slice qs ns ds, .slice qu nu du])
  have HB2 := Hid.in (below_alloc HB1.out (.cells #[.slice qb nb db, .slice qk nk dk, .slice qs ns ds, .slice qu nu du] 29))
  have HI2 := Hid.in (HI1.out.below (new_alloc w1 (.cells #[.slice qb nb db, .slice qk nk dk, .slice qs ns ds, .slice qu nu du] 29)))
  generalize w1.alloc (.cells #[.slice qb nb db, .slice qk nk dk, .slice qs ns ds, .slice qu nu du] 29) = w2 at *
  generalize w1.heap.size = M at *
  clear HI1 HB1
  have w3 : IntKind.i64.wrap ((n : Int) + 1) = (n : Int) + 1 := by rw [IntKind.wrap_i64]; omega
  have hp := pick_any cut (n + 1) (by omega) (by omega) w2
  rw [show ((n + 1 : Nat) : Int) = (n : Int) + 1 by omega] at hp
  have hkn : pickZ cut (n + 1) < n + 1 := pickZ_lt cut (n + 1) (by omega)
  go_wp2_with (go_at_call 7; refine Hid.out ?_)
  refine Lib.hid ?_
  (with_reducible refine hp.mono ?_)
  rintro e w2' ⟨rfl, e2⟩
  have e3 := e2.symm
  clear e2
  subst e3
  generalize pickZ cut (n + 1) = k at *
  clear hp w3
  go_upto_region 5 with fail
  have a0 : w2.cell? ⟨M, 0, none⟩ = some (.slice qb nb db) := HA2.out.cell 0
  have a1 : w2.cell? ⟨M, 1, none⟩ = some (.slice qk nk dk) := HA2.out.cell 1
  have a2 : w2.cell? ⟨M, 2, none⟩ = some (.slice qs ns ds) := HA2.out.cell 2
  have a3 : w2.cell? ⟨M, 3, none⟩ = some (.slice qu nu du) := HA2.out.cell 3
  have hv := views_any m qb qk qs qu nb db nk dk ns ds nu du p n c L w2 HI2.out HN.out (by omega) (HR.out.below HB2.out) HOK.out
  have hVe : viewsA m L = viewsL m.si L := by unfold viewsA; rw [if_pos HOM.out]
  rw [hVe] at hv
  clear hVe
  go_wp2_with (go_at_call 8; refine Hid.out ?_)
  refine Lib.hid ?_
  (with_reducible refine hv.mono ?_)
  rintro e wv ⟨v, rfl, ho, hb⟩
  obtain ⟨qv, cv, rfl, hcvl, hcvm, hrv⟩ := ho.row
  have HP : Hid (PS w wv M #[.slice qb nb db, .slice qk nk dk, .slice qs ns ds, .slice qu nu du] qs m.si qv (viewsL m.si L) p L) :=
    ⟨HA2.out.grow hb, (HI2.out.below hb).rs, hrv, (HR.out.below HB2.out).below hb, below_step HB2.out hb⟩
  have hvl : (viewsL m.si L).length ≤ 9223372036854775807 := by unfold maxLen at hcvm; omega
  have HVA := Hid.in (views_at m.si L)
  have HVR := Hid.in (views_rise m.si L)
  have HVS := Hid.in (views_sum m.si L)
  generalize m.si = si at *
  generalize viewsL si L = V at *
  generalize hnv : V.length = nv at *
  have HNV := Hid.in hnv
  have HLS := Hid.in hls
  clear hv ho hb hrv hcvm hcvl a0 a1 a2 a3 HA2 HB2 HI2 HOM hnv hls
  go_wp2_with fail
  go_loopw [10] (fun vi wr => ∃ i : Nat, vi = .int .i64 i ∧ i ≤ nv ∧ PS w wr M #[.slice qb nb db, .slice qk nk dk, .slice qs ns ds, .slice qu nu du] qs si qv V p L) (fun vi _ => nv - (intOf vi).toNat)
  case atStart => exact ⟨0, rfl, Nat.zero_le _, HP.out⟩
  case round =>
    obtain ⟨i, rfl, hi, hps⟩ := hrel
    have HQ := Hid.in hps
    clear hps HP
    by_cases hlt : i < nv
    · as_aux_lemma =>
      have hiV : i < V.length := by rw [HNV.out]; exact hlt
      obtain ⟨h, s, hs, ev, h0⟩ := HVA.out V[i] (List.getElem_mem hiV)
      obtain ⟨b, o, rfl, hc⟩ := HQ.out.v (by omega)
      have hk := fun j (hj : j < 5) => hc i hiV j hj
      have hRI : Hid (∀ j : Nat, i = j + 1 → ∃ u : Vw, (u.h < h ∨ u.h = h ∧ u.s < (s : Int)) ∧ wr.cell? ⟨b, o + j * 5, none⟩ = some (.int .i64 u.h) ∧ wr.cell? ⟨b, o + j * 5 + 1, none⟩ = some (.int .i64 u.s)) := fun j hj => by
        have hjV : j < V.length := by omega
        have h1 := List.pairwise_iff_getElem.1 HVR.out j i hjV hiV (by omega)
        rw [ev] at h1
        exact ⟨V[j], h1, hc j hjV 0 (by decide), hc j hjV 1 (by decide)⟩
      have HC1 := Hid.in (cnt_ind (callL L (si.getD s default).key) h (si.getD s default).at_ L)
      have HC2 := Hid.in (cntC_mixed (callL L (si.getD s default).key) h (si.getD s default).at_ L)
      have HC3 := Hid.in (cntC_le (callL L (si.getD s default).key) h (si.getD s default).at_ L)
      rw [ev] at hk
      have hct : vw1 si L h s = ⟨h, s, (ctS si L h s).o, (ctS si L h s).n, (ctS si L h s).m⟩ := rfl
      rw [hct] at hk
      have hcs : ctS si L h s = cntC (callL L (si.getD s default).key) h (si.getD s default).at_ L := rfl
      rw [hcs] at hk h0
      clear hct hcs hc ev
      generalize cntC (callL L (si.getD s default).key) h (si.getD s default).at_ L = ct at *
      obtain ⟨co, cn, cm⟩ := ct
      dsimp only at *
      have c0 : wr.cell? ⟨b, o + i * 5, none⟩ = some (.int .i64 h) := hk 0 (by omega)
      have c1 : wr.cell? ⟨b, o + i * 5 + 1, none⟩ = some (.int .i64 (s : Int)) := hk 1 (by omega)
      have c2 : wr.cell? ⟨b, o + i * 5 + 2, none⟩ = some (.int .i64 (co : Int)) := hk 2 (by omega)
      have c3 : wr.cell? ⟨b, o + i * 5 + 3, none⟩ = some (.int .i64 (cn : Int)) := hk 3 (by omega)
      have c4 : wr.cell? ⟨b, o + i * 5 + 4, none⟩ = some (.bool cm) := hk 4 (by omega)
      clear hk
      have g1 : decide ((i : Int) < (nv : Int)) = true := decide_eq_true (by omega)
      have w3 : IntKind.i64.wrap ((i : Int) + 1) = (i : Int) + 1 := by rw [IntKind.wrap_i64]; omega
      go_upto_region 10 with fail
      have HR5 := Hid.in (Blk.new wr 35 #[.int .i64 h, .int .i64 s, .int .i64 co, .int .i64 cn, .bool cm])
      have HQ5 := Hid.in (HQ.out.grow (new_alloc wr (.cells #[.int .i64 h, .int .i64 s, .int .i64 co, .int .i64 cn, .bool cm] 35)))
      have HRI5 : Hid (∀ j : Nat, i = j + 1 → ∃ u : Vw, (u.h < h ∨ u.h = h ∧ u.s < (s : Int)) ∧ (wr.alloc (.cells #[.int .i64 h, .int .i64 s, .int .i64 co, .int .i64 cn, .bool cm] 35)).cell? ⟨b, o + j * 5, none⟩ = some (.int .i64 u.h) ∧ (wr.alloc (.cells #[.int .i64 h, .int .i64 s, .int .i64 co, .int .i64 cn, .bool cm] 35)).cell? ⟨b, o + j * 5 + 1, none⟩ = some (.int .i64 u.s)) := fun j hj => by
        obtain ⟨u, h1, h2, h3⟩ := hRI.out j hj
        have hb := new_alloc wr (.cells #[.int .i64 h, .int .i64 s, .int .i64 co, .int .i64 cn, .bool cm] 35)
        exact ⟨u, h1, (hb.cell (cell_lt h2)).trans h2, (hb.cell (cell_lt h3)).trans h3⟩
      generalize wr.alloc (.cells #[.int .i64 h, .int .i64 s, .int .i64 co, .int .i64 cn, .bool cm] 35) = w5 at *
      generalize wr.heap.size = R at *
      clear hRI HQ c0 c1 c2 c3 c4
      have a2 : w5.cell? ⟨M, 2, none⟩ = some (.slice qs ns ds) := HQ5.out.a.cell 2
      have r0 : w5.cell? ⟨R, 0, none⟩ = some (.int .i64 h) := HR5.out.cell 0
      have r1 : w5.cell? ⟨R, 1, none⟩ = some (.int .i64 (s : Int)) := HR5.out.cell 1
      have r2 : w5.cell? ⟨R, 2, none⟩ = some (.int .i64 (co : Int)) := HR5.out.cell 2
      have r3 : w5.cell? ⟨R, 3, none⟩ = some (.int .i64 (cn : Int)) := HR5.out.cell 3
      have r4 : w5.cell? ⟨R, 4, none⟩ = some (.bool cm) := HR5.out.cell 4
      have hL4 : co + cn ≤ 400 := by have h1 := HC3.out; have h2 := HN.out; rw [h2] at h1; exact Nat.le_trans h1 hn4
      have hsn : s < ns := by have := HLS.out; omega
      have f1 : decide ((s : Int) < 0) = false := decide_eq_false (by omega)
      have f2 : decide ((ns : Int) ≤ (s : Int)) = false := decide_eq_false (by omega)
      have f3 : decide (ns ≤ s) = false := decide_eq_false (by omega)
      have f4 : IntKind.i64.wrap ((co : Int) + (cn : Int)) = (co : Int) + (cn : Int) := by rw [IntKind.wrap_i64]; omega
      have f5 : ((co : Int) + (cn : Int) == 0) = false := by simp; omega
      have f6 : decide ((co : Int) < 0) = false := decide_eq_false (by omega)
      have f7 : decide ((cn : Int) < 0) = false := decide_eq_false (by omega)
      have HIA : Hid (i = 0 ∨ (∃ j us, i = j + 1 ∧ us < (s : Int) ∧ w5.cell? ⟨b, o + j * 5, none⟩ = some (.int .i64 h) ∧ w5.cell? ⟨b, o + j * 5 + 1, none⟩ = some (.int .i64 us)) ∨ ∃ j uh us, i = j + 1 ∧ uh < h ∧ w5.cell? ⟨b, o + j * 5, none⟩ = some (.int .i64 uh) ∧ w5.cell? ⟨b, o + j * 5 + 1, none⟩ = some (.int .i64 us)) := by
        cases i with
        | zero => exact .inl rfl
        | succ j =>
          obtain ⟨u, h1 | ⟨h1, h1'⟩, h2, h3⟩ := HRI5.out j rfl
          · exact .inr (.inr ⟨j, u.h, u.s, rfl, h1, h2, h3⟩)
          · rw [h1] at h2; exact .inr (.inl ⟨j, u.s, rfl, h1', h2, h3⟩)
      clear HRI5 h0 hs
      have a2' := fun d os => cell_regrown a2 d os
      have r0' := fun d os => cell_regrown r0 d os
      have r1' := fun d os => cell_regrown r1 d os
      have r2' := fun d os => cell_regrown r2 d os
      have r3' := fun d os => cell_regrown r3 d os
      go_cut [114] (fun v wx => v = .bool false ∧ Below w5.heap.size w5 wx)
      case first =>
        rcases HIA.out with rfl | ⟨j, us, rfl, hus, d0, d1⟩ | ⟨j, uh, us, rfl, huh, d0, d1⟩
        · as_aux_lemma =>
          clear HIA HVA HVR HVS HOK HR HAW HC1 HC2 HC3
          refine wp_region_quiet_below (by kernel_rfl) (by kernel_rfl) ?_
          simp only [List.append_eq, List.cons_append, List.nil_append]
          iterate 66 (go_big_quiet_step (fail))
          refine wpQuiet_nil ?_
          intro _ hw'
          obtain ⟨⟨dq, osq⟩, hw''⟩ := hw'
          subst hw''
          have HQX := below_regrown w5 dq osq
          generalize Go.Sort.grow (redrawn w5 dq) osq = w6 at *
          go_wp2_with fail
          go_meet
          case rel => exact ⟨rfl, HQX⟩
        · as_aux_lemma =>
          have e1 : decide ((0 : Int) < ((j : Int) + 1)) = true := decide_eq_true (by omega)
          have e2 : IntKind.i64.wrap ((j : Int) + 1 - 1) = (j : Int) := by rw [IntKind.wrap_i64]; omega
          have e3 : decide (h < h) = false := decide_eq_false (by omega)
          have e4 : (h == h) = true := by simp
          have e5 : decide ((s : Int) ≤ us) = false := decide_eq_false (by omega)
          have e6 : (j : Int) < (nv : Int) := by omega
          have e7 : (0 : Int) ≤ (j : Int) := by omega
          have d0' := fun d os => cell_regrown d0 d os
          have d1' := fun d os => cell_regrown d1 d os
          clear HIA HVA HVR HVS HOK HR HAW HC1 HC2 HC3
          refine wp_region_quiet_below (by kernel_rfl) (by kernel_rfl) ?_
          simp only [List.append_eq, List.cons_append, List.nil_append]
          iterate 66 (go_big_quiet_step (fail))
          refine wpQuiet_nil ?_
          intro _ hw'
          obtain ⟨⟨dq, osq⟩, hw''⟩ := hw'
          subst hw''
          have HQX := below_regrown w5 dq osq
          generalize Go.Sort.grow (redrawn w5 dq) osq = w6 at *
          go_wp2_with fail
          go_meet
          case rel => exact ⟨rfl, HQX⟩
        · as_aux_lemma =>
          have e1 : decide ((0 : Int) < ((j : Int) + 1)) = true := decide_eq_true (by omega)
          have e2 : IntKind.i64.wrap ((j : Int) + 1 - 1) = (j : Int) := by rw [IntKind.wrap_i64]; omega
          have e3 : decide (h < uh) = false := decide_eq_false (by omega)
          have e4 : (uh == h) = false := by simp; omega
          have e6 : (j : Int) < (nv : Int) := by omega
          have e7 : (0 : Int) ≤ (j : Int) := by omega
          have d0' := fun d os => cell_regrown d0 d os
          have d1' := fun d os => cell_regrown d1 d os
          clear HIA HVA HVR HVS HOK HR HAW HC1 HC2 HC3
          refine wp_region_quiet_below (by kernel_rfl) (by kernel_rfl) ?_
          simp only [List.append_eq, List.cons_append, List.nil_append]
          iterate 66 (go_big_quiet_step (fail))
          refine wpQuiet_nil ?_
          intro _ hw'
          obtain ⟨⟨dq, osq⟩, hw''⟩ := hw'
          subst hw''
          have HQX := below_regrown w5 dq osq
          generalize Go.Sort.grow (redrawn w5 dq) osq = w6 at *
          go_wp2_with fail
          go_meet
          case rel => exact ⟨rfl, HQX⟩
      case rest =>
        as_aux_lemma =>
        obtain ⟨rfl, hb⟩ := hcut
        have HQ6 := Hid.in (HQ5.out.grow hb)
        have HR6 := Hid.in (HR5.out.grow hb)
        clear hb HIA HQ5 HR5 a2 r0 r1 r2 r3 r4 a2' r0' r1' r2' r3' f1 f2 f3 f6 f7
        have hsl : s < si.length := by rw [HLS.out]; exact hsn
        obtain ⟨bs, os, rfl, hsc⟩ := Row3.at3 HQ6.out.s (by omega)
        obtain ⟨-, k1, -⟩ := hsc s hsl
        have egd : si.getD s default = si[s] := by rw [List.getD, List.getElem?_eq_getElem hsl]; rfl
        rw [egd] at HC1
        generalize si[s].at_ = at_ at *
        clear egd hsc HC3
        have a2 : wc.cell? ⟨M, 2, none⟩ = some (.slice (some ⟨bs, os, none⟩) ns ds) := HQ6.out.a.cell 2
        have r0 : wc.cell? ⟨R, 0, none⟩ = some (.int .i64 h) := HR6.out.cell 0
        have r1 : wc.cell? ⟨R, 1, none⟩ = some (.int .i64 (s : Int)) := HR6.out.cell 1
        have q2 : (0 : Int) ≤ (s : Int) := by omega
        have q3 : (s : Int) < (ns : Int) := by omega
        go_upto_region 13 with fail
        have hpa := part_all L
        have hpt := part_take L k
        have hpd := part_drop L k
        rw [HN.out] at hpa hpd
        have HBF : Hid (∀ W : World, KRow fE W p L → Calls Try.prog 9 #[.slice p n c, .int .i64 h, .int .i64 at_, .int .i64 0, .int .i64 (n : Int)] W fun e w' => e = .returned (.tuple #[.int .i64 (btwL h at_ L).1, .int .i64 (btwL h at_ L).2]) ∧ Below W.heap.size W w') := fun W hr => by
          have hx := between_any p n c L h at_ 0 (n : Int) W HN.out (by omega) hr
          rwa [hpa] at hx
        have HBT : Hid (∀ W : World, KRow fE W p L → Calls Try.prog 9 #[.slice p k c, .int .i64 h, .int .i64 at_, .int .i64 0, .int .i64 (k : Int)] W fun e w' => e = .returned (.tuple #[.int .i64 (btwL h at_ (L.take k)).1, .int .i64 (btwL h at_ (L.take k)).2]) ∧ Below W.heap.size W w') := fun W hr => by
          have hx := between_any p k c (L.take k) h at_ 0 (k : Int) W (by rw [List.length_take, HN.out]; omega) (by omega) (hr.takeK k)
          rwa [hpt] at hx
        have HBD : Hid (∀ W : World, KRow fE W p L → Calls Try.prog 9 #[.slice p n c, .int .i64 h, .int .i64 at_, .int .i64 (k : Int), .int .i64 (n : Int)] W fun e w' => e = .returned (.tuple #[.int .i64 (btwL h at_ (L.drop k)).1, .int .i64 (btwL h at_ (L.drop k)).2]) ∧ Below W.heap.size W w') := fun W hr => by
          have hx := between_any p n c L h at_ (k : Int) (n : Int) W HN.out (by omega) hr
          rwa [hpd] at hx
        have HAB := Hid.in ((btw_ind h at_ L).trans HC1.out.symm)
        have HAP := Hid.in (btw_app h at_ (L.take k) (L.drop k))
        rw [List.take_append_drop] at HAP
        generalize (btwL h at_ L).1 = A at *
        generalize (btwL h at_ L).2 = B at *
        generalize (btwL h at_ (L.take k)).1 = C at *
        generalize (btwL h at_ (L.take k)).2 = D at *
        generalize (btwL h at_ (L.drop k)).1 = E at *
        generalize (btwL h at_ (L.drop k)).2 = F at *
        clear hpa hpt hpd HC1 k1 a2 r1 q2 q3 hsl hsn f4 f5
        go_wp2_with (go_at_call 9; refine Hid.out ?_)
        refine Lib.hid ?_
        (with_reducible refine (HBF.out _ HQ6.out.e).mono ?_)
        rintro e w7 ⟨rfl, hb⟩
        have HQ7 := Hid.in (HQ6.out.grow hb)
        have HR7 := Hid.in (HR6.out.grow hb)
        clear hb HQ6 HR6 r0
        go_upto_region 14 with fail
        have r0 : w7.cell? ⟨R, 0, none⟩ = some (.int .i64 h) := HR7.out.cell 0
        have hs1 := sliceE_to p n c k (by have := HNC.out; omega)
        have x7 : (k : Int) ≤ (c : Int) := by have := HNC.out; omega
        have x8 : (0 : Int) ≤ (k : Int) := by omega
        have HQd : Hid (PS w w7.drew M #[.slice qb nb db, .slice qk nk dk, .slice (some ⟨bs, os, none⟩) ns ds, .slice qu nu du] (some ⟨bs, os, none⟩) si (some ⟨b, o, none⟩) V p L) := HQ7.out.grow (below_draws (below_self _) 1)
        have HRd : Hid (Blk w7.drew R 35 #[.int .i64 h, .int .i64 s, .int .i64 co, .int .i64 cn, .bool cm]) := HR7.out.grow (below_draws (below_self _) 1)
        go_region_held3 (fun W => W.cell? ⟨R, 0, none⟩ = some (.int .i64 h))
          (first | assumption | go_keep)
          (first
            | (go_at_call 9; (with_reducible refine (HBT.out _ HQd.out.e).mono ?_); rintro e w8 ⟨rfl, hb8⟩; have HQ8 := Hid.in (HQd.out.grow hb8); have HR8 := Hid.in (HRd.out.grow hb8); have hr0 : w8.cell? ⟨R, 0, none⟩ = some (.int .i64 h) := HR8.out.cell 0; clear hb8))
        clear hs1 x7 x8 hr0 HQ7 HR7 HQd HRd
        go_upto_region 15 with fail
        have r0 : w8.cell? ⟨R, 0, none⟩ = some (.int .i64 h) := HR8.out.cell 0
        go_wp2_with (go_at_call 9; refine Hid.out ?_)
        refine Lib.hid ?_
        (with_reducible refine (HBD.out _ HQ8.out.e).mono ?_)
        rintro e w9 ⟨rfl, hb⟩
        have HQ9 := Hid.in (HQ8.out.grow hb)
        have HR9 := Hid.in (HR8.out.grow hb)
        clear hb HQ8 HR8 r0 HBF HBT HBD
        go_upto_region 16 with fail
        have r2 : w9.cell? ⟨R, 2, none⟩ = some (.int .i64 (co : Int)) := HR9.out.cell 2
        have r3 : w9.cell? ⟨R, 3, none⟩ = some (.int .i64 (cn : Int)) := HR9.out.cell 3
        have r4 : w9.cell? ⟨R, 4, none⟩ = some (.bool cm) := HR9.out.cell 4
        have hab := HAB.out
        have hap := HAP.out
        have x1 : IntKind.i64.wrap ((A : Int) + (B : Int)) = (A : Int) + (B : Int) := by rw [IntKind.wrap_i64]; omega
        have x2 : IntKind.i64.wrap ((co : Int) + (cn : Int)) = (A : Int) + (B : Int) := by rw [IntKind.wrap_i64]; omega
        have x3 : IntKind.i64.wrap ((C : Int) + (E : Int)) = (A : Int) := by rw [IntKind.wrap_i64]; omega
        have x4 : IntKind.i64.wrap ((D : Int) + (F : Int)) = (B : Int) := by rw [IntKind.wrap_i64]; omega
        clear hab hap HAB HAP
        cases cm with
        | false =>
          clear HC2
          go_wp2_with fail
          go_roundw
          case rel => exact ⟨i + 1, by go_num, by omega, HQ9.out⟩
          case measure => simp [intOf]; omega
        | true =>
          have x5 : ((co : Int) == 0) = false := by have := (HC2.out rfl).1; simp; omega
          have x6 : ((cn : Int) == 0) = false := by have := (HC2.out rfl).2; simp; omega
          clear HC2
          go_wp2_with fail
          go_roundw
          case rel => exact ⟨i + 1, by go_num, by omega, HQ9.out⟩
          case measure => simp [intOf]; omega
    · as_aux_lemma =>
      obtain rfl : i = nv := by omega
      have HS := Hid.in HQ.out
      clear HQ hlt HVR
      go_wp2_with fail
      go_loopw [20, 19] (fun vi va wx => ∃ j a : Nat, vi = .int .i64 j ∧ j ≤ n ∧ va = .int .i64 a ∧ a = allL si (L.take j) ∧ PS w wx M #[.slice qb nb db, .slice qk nk dk, .slice qs ns ds, .slice qu nu du] qs si qv V p L) (fun vi _ _ => n - (intOf vi).toNat)
      case atStart => exact ⟨0, 0, rfl, Nat.zero_le _, rfl, rfl, HS.out⟩
      case round =>
        obtain ⟨j, a, rfl, hj, rfl, ha, hps⟩ := hrel
        have HQ := Hid.in hps
        have HA := Hid.in ha
        clear hps ha HS
        by_cases hlt : j < n
        · as_aux_lemma =>
          have hjL : j < L.length := by rw [HN.out]; exact hlt
          obtain ⟨b, o, rfl, hc⟩ := ev7 HQ.out.e (by omega)
          obtain ⟨c0, c1, c2, c3, c4, c5, c6⟩ := hc j hjL
          have HT : Hid (allL si (L.take (j + 1)) = a + sumB (hit L[j]) si) := by
            show _ = _
            rw [HA.out]
            unfold allL
            exact sumB_take _ L j hjL
          have hA4 : a ≤ 102400 := by
            have h1 := allL_le si (L.take j)
            rw [HLS.out, ← HA.out] at h1
            have h2 : (L.take j).length * ns ≤ 400 * 256 := Nat.mul_le_mul (by rw [List.length_take]; omega) HS256.out
            omega
          clear hc
          generalize L[j] = x at *
          have g1 : decide ((j : Int) < (n : Int)) = true := decide_eq_true (by omega)
          have w3 : IntKind.i64.wrap ((j : Int) + 1) = (j : Int) + 1 := by rw [IntKind.wrap_i64]; omega
          go_wp2_with fail
          have HX := Hid.in (Blk.new wr 43 (evA x))
          have HQ5 := Hid.in (HQ.out.grow (new_alloc wr (.cells (evA x) 43)))
          generalize wr.alloc (.cells (evA x) 43) = w5 at *
          generalize wr.heap.size = R at *
          clear c0 c1 c2 c3 c4 c5 c6 HQ
          go_wp2_with fail
          go_loopw [22, 19] (fun vs va wx => ∃ s d : Nat, vs = .int .i64 s ∧ s ≤ ns ∧ va = .int .i64 d ∧ d = a + sumB (hit x) (si.take s) ∧ (PS w wx M #[.slice qb nb db, .slice qk nk dk, .slice qs ns ds, .slice qu nu du] qs si qv V (some ⟨b, o, none⟩) L) ∧ Blk wx R 43 (evA x)) (fun vs _ _ => ns - (intOf vs).toNat)
          case atStart => exact ⟨0, a, rfl, Nat.zero_le _, rfl, rfl, HQ5.out, HX.out⟩
          case round =>
            obtain ⟨s, d, rfl, hs, rfl, hd, hps, hx⟩ := hrel
            have HQ := Hid.in hps
            have HE := Hid.in hx
            have HD := Hid.in hd
            clear hps hx hd HQ5 HX
            have a2 : wr.cell? ⟨M, 2, none⟩ = some (.slice qs ns ds) := HQ.out.a.cell 2
            by_cases hst : s < ns
            · as_aux_lemma =>
              have hsl : s < si.length := by rw [HLS.out]; exact hst
              obtain ⟨bs, os, rfl, hsc⟩ := Row3.at3 HQ.out.s (by omega)
              obtain ⟨-, k1, -⟩ := hsc s hsl
              have HZ := Hid.in (sumB_take (hit x) si s hsl)
              generalize si[s] = sx at *
              obtain ⟨sk, sa, st⟩ := sx
              dsimp only at *
              have hd4 : d ≤ 103000 := by
                have h1 := hit_le x (si.take s)
                have h2 := HD.out
                have h3 := HS256.out
                rw [List.length_take] at h1
                omega
              clear hsc
              have g2 : decide ((s : Int) < (ns : Int)) = true := decide_eq_true (by omega)
              have g3 : decide (s < ns) = true := decide_eq_true (by omega)
              have w4 : IntKind.i64.wrap ((s : Int) + 1) = (s : Int) + 1 := by have := HS256.out; rw [IntKind.wrap_i64]; omega
              have w5' : IntKind.i64.wrap ((d : Int) + 1) = (d : Int) + 1 := by rw [IntKind.wrap_i64]; omega
              have q2 : (0 : Int) ≤ (s : Int) := by omega
              have q3 : (s : Int) < (ns : Int) := by omega
              have HN1 : Hid (∀ d' : Nat, d' = d + hit x ⟨sk, sa, st⟩ → d' = a + sumB (hit x) (si.take (s + 1))) := fun d' h => by rw [h, HZ.out, HD.out]; omega
              obtain ⟨xk, xst, xh, xp, xo, xky, xn⟩ := x
              have e0 : wr.cell? ⟨R, 0, none⟩ = some (.int .u8 xk) := HE.out.cell 0
              have e3 : wr.cell? ⟨R, 3, none⟩ = some (.int .i64 xp) := HE.out.cell 3
              have e4 : wr.cell? ⟨R, 4, none⟩ = some (.int .u8 xo) := HE.out.cell 4
              clear HZ HD
              by_cases hp : xp = sa
              · subst hp
                have e9 : (xp == xp) = true := by simp
                by_cases h3 : xk = 3
                · subst h3
                  have HH : Hid (hit ⟨3, xst, xh, xp, xo, xky, xn⟩ ⟨sk, xp, st⟩ = 1) := by show _ = _; simp [hit, dd]
                  go_wp2_with fail
                  go_quiet (fail)
                  go_wp2_with fail
                  go_roundw
                  case rel => exact ⟨s + 1, d + 1, by go_num, by omega, by go_num, HN1.out _ (by rw [HH.out]), HQ.out.grow (below_draws (below_self _) _), HE.out.grow (below_draws (below_self _) _)⟩
                  case measure => simp [intOf]; omega
                · have e5 : (xk == 3) = false := by simpa using h3
                  by_cases h2 : xk = 2
                  · subst h2
                    by_cases ho3 : xo = 3
                    · subst ho3
                      have HH : Hid (hit ⟨2, xst, xh, xp, 3, xky, xn⟩ ⟨sk, xp, st⟩ = 1) := by show _ = _; simp [hit, dd]
                      go_wp2_with fail
                      go_quiet (fail)
                      go_wp2_with fail
                      go_roundw
                      case rel => exact ⟨s + 1, d + 1, by go_num, by omega, by go_num, HN1.out _ (by rw [HH.out]), HQ.out.grow (below_draws (below_self _) _), HE.out.grow (below_draws (below_self _) _)⟩
                      case measure => simp [intOf]; omega
                    · have e6 : (xo == 3) = false := by simpa using ho3
                      by_cases ho11 : xo = 11
                      · subst ho11
                        have HH : Hid (hit ⟨2, xst, xh, xp, 11, xky, xn⟩ ⟨sk, xp, st⟩ = 1) := by show _ = _; simp [hit, dd]
                        go_wp2_with fail
                        go_quiet (fail)
                        go_wp2_with fail
                        go_roundw
                        case rel => exact ⟨s + 1, d + 1, by go_num, by omega, by go_num, HN1.out _ (by rw [HH.out]), HQ.out.grow (below_draws (below_self _) _), HE.out.grow (below_draws (below_self _) _)⟩
                        case measure => simp [intOf]; omega
                      · have e7 : (xo == 11) = false := by simpa using ho11
                        have HH : Hid (hit ⟨2, xst, xh, xp, xo, xky, xn⟩ ⟨sk, xp, st⟩ = 0) := by show _ = _; simp [hit, dd, ho3, ho11]
                        go_wp2_with fail
                        go_quiet (fail)
                        go_wp2_with fail
                        go_roundw
                        case rel => exact ⟨s + 1, d, by go_num, by omega, rfl, HN1.out _ (by rw [HH.out]; rfl), HQ.out.grow (below_draws (below_self _) _), HE.out.grow (below_draws (below_self _) _)⟩
                        case measure => simp [intOf]; omega
                  · have e6 : (xk == 2) = false := by simpa using h2
                    have HH : Hid (hit ⟨xk, xst, xh, xp, xo, xky, xn⟩ ⟨sk, xp, st⟩ = 0) := by show _ = _; simp [hit, dd, h3, h2]
                    go_wp2_with fail
                    go_quiet (fail)
                    go_wp2_with fail
                    go_roundw
                    case rel => exact ⟨s + 1, d, by go_num, by omega, rfl, HN1.out _ (by rw [HH.out]; rfl), HQ.out.grow (below_draws (below_self _) _), HE.out.grow (below_draws (below_self _) _)⟩
                    case measure => simp [intOf]; omega
              · have e9 : (xp == sa) = false := by simpa using hp
                have HH : Hid (hit ⟨xk, xst, xh, xp, xo, xky, xn⟩ ⟨sk, sa, st⟩ = 0) := by show _ = _; simp [hit, hp]
                go_wp2_with fail
                go_quiet (fail)
                go_wp2_with fail
                go_roundw
                case rel => exact ⟨s + 1, d, by go_num, by omega, rfl, HN1.out _ (by rw [HH.out]; rfl), HQ.out.grow (below_draws (below_self _) _), HE.out.grow (below_draws (below_self _) _)⟩
                case measure => simp [intOf]; omega
            · obtain rfl : s = ns := by omega
              have HE2 : Hid (d = allL si (L.take (j + 1))) := by
                show _ = _
                rw [HT.out, HD.out, List.take_of_length_le (by rw [HLS.out]; exact Nat.le_refl _)]
              clear HD hst
              go_wp2_with fail
              go_roundw
              case rel => exact ⟨j + 1, d, by go_num, by omega, rfl, HE2.out, HQ.out⟩
              case measure => simp [intOf]; omega
        · as_aux_lemma =>
          obtain rfl : j = n := by omega
          have HA2 : Hid (a = sumB vN V) := by
            show _ = _
            rw [HA.out, List.take_of_length_le (by rw [HN.out]; exact Nat.le_refl _), HVS.out]
          have hA4 : a ≤ 102400 := by
            have h1 := allL_le si (L.take j)
            rw [HLS.out, ← HA.out] at h1
            have h2 : (L.take j).length * ns ≤ 400 * 256 := Nat.mul_le_mul (by rw [List.length_take]; omega) HS256.out
            omega
          clear HA hlt HVS
          have HS := Hid.in HQ.out
          clear HQ
          go_wp2_with fail
          go_loopw [23, 19] (fun vi va wx => ∃ e d : Nat, vi = .int .i64 e ∧ e ≤ i ∧ va = .int .i64 d ∧ d = sumB vN (V.drop e) ∧ d ≤ 102400 ∧ PS w wx M #[.slice qb nb db, .slice qk nk dk, .slice qs ns ds, .slice qu nu du] qs si qv V p L) (fun vi _ _ => i - (intOf vi).toNat)
          case atStart => exact ⟨0, a, rfl, Nat.zero_le _, rfl, HA2.out, hA4, HS.out⟩
          case round =>
            obtain ⟨e, d, rfl, he, rfl, hd, hd4, hps⟩ := hrel
            have HQ := Hid.in hps
            have HD := Hid.in hd
            clear hps hd HS HA2 hA4
            by_cases hlt : e < i
            · as_aux_lemma =>
              have hiV : e < V.length := by rw [HNV.out]; exact hlt
              obtain ⟨h, s, hs, ev, h0⟩ := HVA.out V[e] (List.getElem_mem hiV)
              obtain ⟨b, o, rfl, hc⟩ := HQ.out.v (by omega)
              have hk := fun j (hj : j < 5) => hc e hiV j hj
              have HZ := Hid.in (sumB_drop vN V e hiV)
              rw [ev] at hk HZ
              have hct : vw1 si L h s = ⟨h, s, (ctS si L h s).o, (ctS si L h s).n, (ctS si L h s).m⟩ := rfl
              rw [hct] at hk HZ
              generalize ctS si L h s = ct at *
              obtain ⟨co, cn, cm⟩ := ct
              dsimp only at *
              have c2 : wr.cell? ⟨b, o + e * 5 + 2, none⟩ = some (.int .i64 (co : Int)) := hk 2 (by omega)
              have c3 : wr.cell? ⟨b, o + e * 5 + 3, none⟩ = some (.int .i64 (cn : Int)) := hk 3 (by omega)
              have hvn : vN ⟨h, s, co, cn, cm⟩ = co + cn := by show ((co : Int)).toNat + ((cn : Int)).toNat = _; omega
              clear hk hc ev hct h0 hs
              obtain ⟨d2, hd2⟩ : ∃ d2, d2 = sumB vN (V.drop (e + 1)) := ⟨_, rfl⟩
              have hds : d = co + (cn + d2) := by rw [HD.out, HZ.out, hvn, hd2]; omega
              have HD2 := Hid.in hd2
              have g1 : decide ((e : Int) < (i : Int)) = true := decide_eq_true (by omega)
              have w3 : IntKind.i64.wrap ((e : Int) + 1) = (e : Int) + 1 := by rw [IntKind.wrap_i64]; omega
              obtain ⟨z, hz⟩ : ∃ z, z = cn + d2 := ⟨_, rfl⟩
              have y1 : IntKind.i64.wrap ((d : Int) - (co : Int)) = (z : Int) := by rw [IntKind.wrap_i64]; omega
              have y2 : IntKind.i64.wrap ((z : Int) - (cn : Int)) = (d2 : Int) := by rw [IntKind.wrap_i64]; omega
              have hd24 : d2 ≤ 102400 := by omega
              have q2 : (0 : Int) ≤ (e : Int) := by omega
              have q3 : (e : Int) < (i : Int) := by omega
              clear HZ hvn hd2 hds hz HD
              go_wp2_with fail
              go_quiet (fail)
              go_wp2_with fail
              go_roundw
              case rel => exact ⟨e + 1, d2, by go_num, by omega, rfl, HD2.out, hd24, HQ.out.grow (below_draws (below_self _) _)⟩
              case measure => simp [intOf]; omega
            · as_aux_lemma =>
              obtain rfl : e = i := by omega
              obtain rfl : d = 0 := by rw [HD.out, List.drop_of_length_le (by rw [HNV.out]; exact Nat.le_refl _)]; rfl
              clear HD hd4 hlt HVA HNV HLS HS256
              go_upto_region 32 with fail
              have hjc := HNC.out
              have hrow := HQ.out.e
              have hs1 := sliceE_to p j c k (by omega)
              have hs2 := sliceE_from p j c k (by omega) (by omega)
              have hrd := hrow.dropK c k (by rw [HN.out]; exact hjc)
              obtain ⟨p2, hp2⟩ : ∃ p2, p2 = (if c = k then p else p.map (·.add (k * 7))) := ⟨_, rfl⟩
              rw [← hp2] at hrd
              simp only [← hp2] at hs2
              clear hp2
              have HO1 : Hid (∀ W : World, Below wr.heap.size wr W → Calls Try.prog 10 #[.slice p k c, .int .i64 1] W fun e w' => ∃ v, e = .returned v ∧ KOwn fU 55 w' wr.heap.size v (outsL (L.take k) 1) ∧ Below W.heap.size W w') := fun W hB => by
                refine (outs_any p k c (L.take k) 1 W (by rw [List.length_take, HN.out]; omega) (by omega) ((hrow.takeK k).below hB)).mono ?_
                rintro e w' ⟨v, rfl, h1, h2⟩
                exact ⟨v, rfl, h1.lower hB.size, h2⟩
              have HO2 : Hid (∀ W : World, Below wr.heap.size wr W → Calls Try.prog 10 #[.slice p2 (j - k) (c - k), .int .i64 1] W fun e w' => ∃ v, e = .returned v ∧ KOwn fU 55 w' wr.heap.size v (outsL (L.drop k) 1) ∧ Below W.heap.size W w') := fun W hB => by
                refine (outs_any p2 (j - k) (c - k) (L.drop k) 1 W (by rw [List.length_drop, HN.out]) (by omega) (hrd.below hB)).mono ?_
                rintro e w' ⟨v, rfl, h1, h2⟩
                exact ⟨v, rfl, h1.lower hB.size, h2⟩
              have HLO : Hid ((outsL (L.take k) 1).length + (outsL (L.drop k) 1).length ≤ 1048576) := by
                have h1 := outsL_len (L.take k) 1
                have h2 := outsL_len (L.drop k) 1
                rw [List.length_take] at h1
                rw [List.length_drop, HN.out] at h2
                show _ ≤ _
                omega
              have hI0 : Below wr.heap.size wr wr.drew := below_draws (Below.refl _ _) 1
              have x7 : (k : Int) ≤ (c : Int) := by omega
              have x8 : (0 : Int) ≤ (k : Int) := by omega
              have x9 : (k : Int) ≤ (j : Int) := by omega
              clear hrow hrd
              go_region_held3 (fun W => Below wr.heap.size wr W)
                (first | assumption | go_keep)
                (first
                  | (go_at_call 10; (with_reducible refine (HO1.out _ (by assumption)).mono ?_); rintro e w7 ⟨v7, rfl, ho7, hb7⟩; have hk7 := below_step (by assumption) hb7; have HV7 := Hid.in ho7; clear ho7)
                  | (go_at_call 10; (with_reducible refine (HO2.out _ (by assumption)).mono ?_); rintro e w8 ⟨v8, rfl, ho8, hb8⟩; have hk8 := below_step (by assumption) hb8; obtain ⟨v9, w9, hrun, ho9, hg9⟩ := krun_app (ty := 44) elemU w8 _ _ v7 v8 _ _ (HV7.out.below hb8) ho8 HLO.out (by decide) hk8.size; have hk9 : Below wr.heap.size wr w9 := hk8.grown hg9 hk8.size (fun k' ek => (HV7.out.ownB ek).1); have HV9 := Hid.in ho9; clear ho8 ho9 hg9)
                  | (refine step_krun rfl _ _ rfl _ _ rfl rfl _ _ hrun ?_))
              all_goals
                have HQ9 := Hid.in (HQ.out.grow hk9)
                have hv9 := HV9.out
                rw [← outs_app, List.take_append_drop] at hv9
                obtain ⟨p9, c9, e9, -, -, hr9⟩ := hv9.row
                subst e9
                have HR9 := Hid.in hr9
                have HLL : Hid ((outsL L 1).length ≤ 9223372036854775807) := Nat.le_trans (outsL_len L 1) (by rw [HN.out]; omega)
                have hou := outs_any p j c L 1 w9 HN.out (by omega) HQ9.out.e
                clear hv9 hr9 hrun hk9 HV9 HO1 HO2 HLO hs1 hs2 HQ
                go_wp2_with (go_at_call 10; refine Hid.out ?_)
                refine Lib.hid ?_
                (with_reducible refine hou.mono ?_)
                rintro e w10 ⟨v10, rfl, ho10, hb⟩
                obtain ⟨p10, c10, rfl, -, -, hr10⟩ := ho10.row
                have hsp := samePlaces_self p9 p10 _ c9 c10 (outsL L 1) w10 rfl HLL.out (HR9.out.below hb) hr10
                have HB10 := Hid.in (below_step HQ9.out.b hb)
                clear hou hb ho10 hr10 HR9 HQ9
                go_wp2_with (go_at_call 11; refine Hid.out ?_)
                refine Lib.hid ?_
                (with_reducible refine hsp.mono ?_)
                rintro e w11 ⟨rfl, m11, rfl⟩
                have HB11 := Hid.in (below_draws HB10.out m11)
                generalize w10.drewN m11 = w11 at *
                clear hsp HB10
                go_wp2_with (go_at_call 5; refine Hid.out ?_)
                refine Lib.hid ?_
                (with_reducible refine (HAW.out _).mono ?_)
                rintro e w12 ⟨rfl, hb⟩
                have HB12 := Hid.in (below_step HB11.out hb)
                clear hb
                go_wp2_with fail
                go_ret
                exact ⟨rfl, HB12.out⟩
end Go.Proofs.Ytgblohjdiheemaa
