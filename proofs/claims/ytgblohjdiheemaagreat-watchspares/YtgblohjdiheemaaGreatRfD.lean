/- Ours: switchyardref23.harts. -/
import Derived.Test.YtgblohjdiheemaaGreatRfC
import Derived.Deep.QuietTactic
import Derived.BigQuiet
namespace Go.Proofs.YtgblohjdiheemaaGreat
open Go.RowKit Go.Maps

def fI : Fm Int where
  k := 1
  f := fun x => [.int .i64 x]
  pos := by decide
  len := fun _ => rfl
  one := fun x u hu => by
    simp only [List.mem_cons, List.not_mem_nil, or_false] at hu
    subst hu; rfl
theorem elemI : ElemK fI 25 3 8 := ⟨Tryz.underlying25, .int .i64 0, rfl, by kernel_rfl⟩
theorem insH_at : ∀ (l : List Int) (z : Int) (i : Nat), i ≤ l.length → (∀ t, t < i → l.getD t 0 < z) → (i < l.length → ¬ l.getD i 0 < z) → insH l z = if i < l.length ∧ l.getD i 0 = z then l else l.take i ++ z :: l.drop i
  | [], z, i, hi, _, _ => by
    obtain rfl : i = 0 := by simpa using hi
    rfl
  | y :: l, z, 0, _, _, h => by
    have h0 : ¬ y < z := h (by simp)
    unfold insH
    rw [if_neg h0]
    by_cases e : y = z
    · rw [if_pos e, if_pos ⟨by simp, e⟩]
    · rw [if_neg e, if_neg (fun h => e h.2)]; rfl
  | y :: l, z, i + 1, hi, h1, h2 => by
    have h0 : y < z := h1 0 (by omega)
    have ih := insH_at l z i (by simpa using hi) (fun t ht => h1 (t + 1) (by omega)) (fun h => h2 (by simpa using h))
    unfold insH
    rw [if_pos h0, ih]
    by_cases e : i < l.length ∧ l.getD i 0 = z
    · rw [if_pos e, if_pos ⟨by simpa using e.1, e.2⟩]
    · rw [if_neg e, if_neg (fun h => e ⟨by simpa using h.1, h.2⟩)]; rfl
theorem insH_len : ∀ (l : List Int) (z : Int), (insH l z).length ≤ l.length + 1
  | [], z => by simp [insH]
  | y :: l, z => by
    have ih := insH_len l z
    unfold insH
    split
    · simpa using ih
    · split <;> simp
def hartsP (L : List Fv) : List Int := L.foldl (fun a x => insH a x.h) []
theorem hartsP_snoc (L : List Fv) (x : Fv) : hartsP (L ++ [x]) = insH (hartsP L) x.h := by simp [hartsP]
theorem hartsP_len (L : List Fv) : (hartsP L).length ≤ L.length := by
  suffices H : ∀ (L : List Fv) (a : List Int), (L.foldl (fun a x => insH a x.h) a).length ≤ a.length + L.length by
    have := H L []
    simpa [hartsP] using this
  intro L
  induction L with
  | nil => intro a; exact Nat.le_refl _
  | cons x L ih =>
    intro a
    have := ih (insH a x.h)
    have h2 := insH_len a x.h
    rw [List.foldl_cons, List.length_cons]
    omega
theorem sliceI_to (p : Option Addr) (n c k : Nat) (hk : k ≤ c) (W : World) : (Instr.sliceAt 25 (.slice p n c) none (some (.int .i64 k)) none).run Tryz.prog W = .ok (.slice p k c) W := by
  have h2 : (k : Int) ≤ (c : Int) := by omega
  have h3 : (0 : Int) ≤ (k : Int) := by omega
  simp [Instr.sliceAt, Instr.slice, Instr.sliceBounds, go_sem, h2, h3]
theorem sliceI_from (p : Option Addr) (n c k : Nat) (_ : n ≤ c) (hk : k ≤ n) (W : World) : (Instr.sliceAt 25 (.slice p n c) (some (.int .i64 k)) none none).run Tryz.prog W = .ok (.slice (if c = k then p else p.map (·.add (k * 1))) (n - k) (c - k)) W := by
  have h2 : (k : Int) ≤ (n : Int) := by omega
  have h3 : (0 : Int) ≤ (k : Int) := by omega
  simp [Instr.sliceAt, Instr.slice, Instr.sliceBounds, go_sem, h2, h3]
theorem KRow.dropF {α : Type} {F : Fm α} {w : World} {p : Option Addr} {L : List α} (h : KRow F w p L) (c k : Nat) (hc : L.length ≤ c) : KRow F w (if c = k then p else p.map (·.add (k * F.k))) (L.drop k) := fun h0 => by
  rw [List.length_drop] at h0
  rw [if_neg (by omega)]
  obtain ⟨b, o, rfl, hcl⟩ := h (by omega)
  refine ⟨b, o + k * F.k, by rw [Option.map_some]; rw [show (⟨b, o, none⟩ : Addr).add (k * F.k) = ⟨b, o + k * F.k, none⟩ from Go.WideShapes.add_plain _ _ _], fun i hi j hj => ?_⟩
  rw [List.length_drop] at hi
  have := hcl (k + i) (by omega) j hj
  rw [List.getElem_drop, ← this]
  congr 2
  rw [Nat.add_mul]
  omega
theorem KRow.takeK {α : Type} {F : Fm α} {w : World} {p : Option Addr} {L : List α} (h : KRow F w p L) (k : Nat) : KRow F w p (L.take k) := fun h0 => by
  rw [List.length_take] at h0
  obtain ⟨b, o, e, hcl⟩ := h (by omega)
  refine ⟨b, o, e, fun i hi j hj => ?_⟩
  rw [List.length_take] at hi
  rw [List.getElem_take]
  exact hcl i (by omega) j hj
theorem KOwn.nil0 {α : Type} {F : Fm α} {T : TypeId} {w : World} {B n c : Nat} {p : Option Addr} {L : List α} (h : KOwn F T w B (.slice p n c) L) : p = none → c = 0 := fun e => by
  rcases h.2 with ⟨e1, -⟩ | ⟨g, cap, cur, e1, -⟩
  · injection e1
  · injection e1 with e1
    rw [e] at e1; cases e1
theorem KOwn.row2 {α : Type} {F : Fm α} {T : TypeId} {w : World} {B n c : Nat} {p : Option Addr} {L : List α} (h : KOwn F T w B (.slice p n c) L) : KRow F w p L := by
  obtain ⟨p', c', e, -, -, hr⟩ := h.row
  injection e with e
  rw [e]; exact hr
theorem ifmap_none {P : Prop} [Decidable P] {p : Option Addr} {f : Addr → Addr} (h : (if P then p else p.map f) = none) : p = none := by
  split at h
  · exact h
  · cases p with
    | none => rfl
    | some _ => cases h
set_option maxRecDepth 8000 in
set_option maxHeartbeats 8000000 in
theorem rharts_any (p : Option Addr) (n c : Nat) (L : List Fv) (w : World) (hn : L.length = n) (hn2 : n ≤ 1000000) (hr : KRow fE w p L) :
    Calls Tryz.prog 45 #[.slice p n c] w fun e w' => ∃ v, e = .returned v ∧ KOwn fI 3 w' w.heap.size v (hartsL L) ∧ Below w.heap.size w w' := by
  have HN := Hid.in hn
  have HR := Hid.in hr
  clear hn hr
  go_enter Tryz.func45, Tryz.ntmps45
  go_wp2_with fail
  go_loopw [3, 4] (fun v vi wr => ∃ j : Nat, vi = .int .i64 j ∧ j ≤ n ∧ KOwn fI 3 wr w.heap.size v (hartsP (L.take j)) ∧ Below w.heap.size w wr) (fun _ vi _ => n - (intOf vi).toNat)
  case atStart => exact ⟨0, rfl, Nat.zero_le _, KOwn.nil _ _ _ _, Below.refl _ _⟩
  case round =>
    obtain ⟨j, rfl, hj, hO, hB⟩ := hrel
    have HO := Hid.in hO
    have HB := Hid.in hB
    clear hO hB
    by_cases hlt : j < n
    · have hjL : j < L.length := by rw [HN.out]; exact hlt
      have HT : Hid (hartsP (L.take (j + 1)) = insH (hartsP (L.take j)) L[j].h) := by show _ = _; rw [take_snoc L j hjL, hartsP_snoc]
      have hol : (hartsP (L.take j)).length ≤ 1000000 := Nat.le_trans (hartsP_len _) (by rw [List.length_take]; omega)
      obtain ⟨⟨xk, xst, xh, xp, xo, xky, xn⟩, hx⟩ : ∃ x, L[j] = x := ⟨_, rfl⟩
      have HXE := Hid.in hx
      rw [hx] at HT
      dsimp only at HT
      clear hx
      generalize hartsP (L.take j) = out at *
      have hrb : 0 < L.length → ∃ b o, p = some ⟨b, o, none⟩ := fun h => by obtain ⟨b, o, e, -⟩ := HR.out h; exact ⟨b, o, e⟩
      obtain ⟨b, o, rfl⟩ := hrb (by omega)
      have HL1 : Hid (∀ W : World, Below w.heap.size w W → W.cell? ⟨b, o + j * 7 + 2, none⟩ = some (.int .i64 xh)) := fun W hW => by
        obtain ⟨b', o', e1, hc⟩ := ev7 (HR.out.below hW) (by omega)
        have e2 := Option.some.inj e1
        injection e2 with e3 e4
        subst e3 e4
        have h2 := (hc j hjL).2.2.1
        rw [HXE.out] at h2
        exact h2
      obtain ⟨pv, cv, ev, hcl, hcm, -⟩ := HO.out.shape
      subst ev
      have HNIL := Hid.in HO.out.nil0
      have g1 : decide ((j : Int) < (n : Int)) = true := decide_eq_true (by omega)
      have w3 : IntKind.i64.wrap ((j : Int) + 1) = (j : Int) + 1 := by rw [IntKind.wrap_i64]; omega
      have g2 : (0 : Int) ≤ (j : Int) := by omega
      have g3 : (j : Int) < (n : Int) := by omega
      clear hrb
      go_wp2_with fail
      go_loopw [5] (fun va wx => ∃ a : Nat, va = .int .i64 a ∧ a ≤ out.length ∧ (∀ t, t < a → out.getD t 0 < xh) ∧ KOwn fI 3 wx w.heap.size (.slice pv out.length cv) out ∧ Below w.heap.size w wx) (fun va _ => out.length - (intOf va).toNat)
      case atStart => exact ⟨0, rfl, Nat.zero_le _, fun t ht => absurd ht (Nat.not_lt_zero _), HO.out, HB.out⟩
      case round =>
        obtain ⟨a, rfl, ha, hall, hO, hB⟩ := hrel
        have HA := Hid.in hall
        have HOx := Hid.in hO
        have HBx := Hid.in hB
        clear hall hO hB HO HB
        have l0 := HL1.out wr HBx.out
        have w4 : IntKind.i64.wrap ((a : Int) + 1) = (a : Int) + 1 := by rw [IntKind.wrap_i64]; omega
        by_cases hal : a < out.length
        · obtain ⟨g, e0, hgc⟩ : ∃ g, pv = some ⟨g, 0, none⟩ ∧ wr.cell? ⟨g, 0 + a, none⟩ = some (.int .i64 (out.getD a 0)) := by
            obtain ⟨g, o', e, hc⟩ := HOx.out.row2 (by omega)
            obtain ⟨g', e', -⟩ := HOx.out.some (by omega)
            rw [e'] at e
            have e2 := Option.some.inj e
            injection e2 with e3 e4
            subst e3 e4
            refine ⟨g', e', ?_⟩
            have := hc a hal 0 (by decide)
            rw [List.getD, List.getElem?_eq_getElem hal]
            show _ = (fI.f out[a])[0]?
            rw [← this]
            congr 2
            show 0 + a = 0 + a * 1 + 0
            omega
          subst e0
          rw [Nat.zero_add] at hgc
          generalize hz : out.getD a 0 = z at *
          have q1 : decide ((a : Int) < (out.length : Int)) = true := decide_eq_true (by omega)
          have q2 : (0 : Int) ≤ (a : Int) := by omega
          have q3 : (a : Int) < (out.length : Int) := by omega
          by_cases hzx : z < xh
          · have q4 : decide (z < xh) = true := decide_eq_true hzx
            have HA2 : Hid (∀ t, t < a + 1 → out.getD t 0 < xh) := fun t ht => by
              rcases Nat.lt_or_ge t a with h | h
              · exact HA.out t h
              · obtain rfl : t = a := by omega
                rw [hz]; exact hzx
            go_wp2_with fail
            go_quiet (fail)
            go_wp2_with fail
            go_roundw
            case rel => exact ⟨a + 1, by go_num, by omega, HA2.out, HOx.out.drewN _, below_draws HBx.out _⟩
            case measure => simp [intOf]; omega
          · have q4 : decide (z < xh) = false := decide_eq_false hzx
            by_cases hze : z = xh
            · have HI : Hid (insH out xh = out) := by
                show _ = _
                rw [insH_at out xh a ha HA.out (fun _ => by rw [hz]; exact hzx), if_pos ⟨hal, hz.trans hze⟩]
              subst hze
              have q5 : (z == z) = true := by simp
              clear hz HA
              go_wp2_with fail
              go_quiet (fail)
              go_wp2_with fail
              go_quiet (fail)
              go_wp2_with fail
              go_roundw
              case rel => exact ⟨j + 1, by go_num, by omega, by rw [HT.out, HI.out]; exact (HOx.out.drewN _), below_draws HBx.out _⟩
              case measure => simp [intOf]; omega
            · have HI : Hid (insH out xh = out.take a ++ xh :: out.drop a) := by
                show _ = _
                rw [insH_at out xh a ha HA.out (fun _ => by rw [hz]; exact hzx), if_neg (fun h => hze (hz.symm.trans h.2))]
              have q5 : (z == xh) = false := by simpa using hze
              clear hz HA
              go_wp2_with fail
              go_quiet (fail)
              have hgq : (wr.drewN nq).cell? ⟨g, a, none⟩ = some (.int .i64 z) := hgc
              have hlq : (wr.drewN nq).cell? ⟨b, o + j * 7 + 2, none⟩ = some (.int .i64 xh) := l0
              have HOq := Hid.in (HOx.out.drewN nq)
              have HBq := Hid.in (below_draws HBx.out nq)
              generalize wr.drewN nq = wq at *
              clear HOx HBx hgc l0
              go_wp2_with fail
              go_quiet (fail)
              have l1 : (wq.drewN nq).cell? ⟨b, o + j * 7 + 2, none⟩ = some (.int .i64 xh) := hlq
              have HO6 := Hid.in (HOq.out.drewN nq)
              have HB6 := Hid.in (below_draws HBq.out nq)
              generalize wq.drewN nq = w6 at *
              clear HOq HBq hgq hlq q1 q4 q5
              go_upto_region 10 with fail
              -- the new list, in three steps
              have hn0 := HNIL.out
              have hrow := HO6.out.row2
              have ht1 := sliceI_to (some ⟨g, 0, none⟩) out.length cv a (by omega)
              have ht2 := sliceI_from (some ⟨g, 0, none⟩) out.length cv a (by omega) (by omega)
              have hrd := hrow.dropF cv a (by omega)
              obtain ⟨p2, hp2⟩ : ∃ p2, p2 = (if cv = a then (some ⟨g, 0, none⟩ : Option Addr) else (some ⟨g, 0, none⟩ : Option Addr).map (·.add (a * 1))) := ⟨_, rfl⟩
              have hk1 : fI.k = 1 := rfl
              rw [hk1, ← hp2] at hrd
              simp only [← hp2] at ht2
              have hp2n : p2 = none → cv - a = 0 := fun e => by have := hn0 (ifmap_none (hp2.symm.trans e)); omega
              have HP2 := Hid.in hp2n
              have HRT := Hid.in (hrow.takeK a)
              have HRD := Hid.in hrd
              clear hp2 hp2n hrow hrd hk1
              have x7 : (a : Int) ≤ (cv : Int) := by omega
              have x8 : (0 : Int) ≤ (a : Int) := by omega
              have x9 : (a : Int) ≤ (out.length : Int) := by omega
              obtain ⟨v1, w7, hr1, ho1, hg1⟩ := krun_row (ty := 25) elemI w6 w6.heap.size (.slice none 0 0) [] (out.take a) (KOwn.nil _ _ _ _) (some ⟨g, 0, none⟩) a cv (by rw [List.length_take]; omega) HRT.out hn0 (by rw [List.length_take]; simp; omega) (by decide) (Nat.le_refl _)
              have HB7 : Hid (Below w6.heap.size w6 w7) := (Below.refl _ _).grown hg1 (Nat.le_refl _) (fun k e => by cases e)
              have HO7 := Hid.in ho1
              clear ho1 hg1
              go_wp2_with (at_builtin; refine Hid.out ?_)
              refine Lib.hid ?_
              refine wpList_krun rfl _ _ rfl _ _ rfl rfl _ _ hr1 ?_
              clear hr1
              go_upto_region 11 with fail
              have l2 : w7.cell? ⟨b, o + j * 7 + 2, none⟩ = some (.int .i64 xh) := (HB7.out.cell (cell_lt l1)).trans l1
              go_wp2_with (at_builtin; refine Hid.out ?_)
              refine Lib.hid ?_
              refine kpush elemI _ rfl _ _ rfl w6.heap.size v1 ([] ++ out.take a) rfl (HO7.out.alloc _) ⟨w7.heap.size, 0, none⟩ 1 xh rfl (fI.news w7 xh 3 #[.int .i64 xh] rfl) (by rw [List.nil_append, List.length_take]; omega) (by decide) (Nat.le_trans HB7.out.size (new_alloc _ _).size) ?_
              intro v2 w8 ho2 hg2 hb2
              have HO8 := Hid.in ho2
              have HB8 := Hid.in (hb2 w6 (below_alloc HB7.out _))
              clear ho2 hg2 hb2 l2 HO7 HB7
              go_upto_region 12 with fail
              obtain ⟨v3, w9, hr3, ho3, hg3⟩ := krun_row (ty := 25) elemI w8 w6.heap.size v2 (([] ++ out.take a) ++ [xh]) (out.drop a) HO8.out p2 (out.length - a) (cv - a) (by rw [List.length_drop]) (HRD.out.below HB8.out) HP2.out (by simp; omega) (by decide) HB8.out.size
              have HB9 : Hid (Below w6.heap.size w6 w9) := HB8.out.grown hg3 HB8.out.size (fun k e => (HO8.out.ownB e).1)
              have HO9 := Hid.in (ho3.lower HB6.out.size)
              clear ho3 hg3 HO8 HB8
              go_wp2_with (at_builtin; refine Hid.out ?_)
              refine Lib.hid ?_
              refine wpList_krun rfl _ _ rfl _ _ rfl rfl _ _ hr3 ?_
              clear hr3 ht1 ht2
              go_wp2_with fail
              go_roundw
              case rel =>
                refine ⟨j + 1, by go_num, by omega, ?_, below_step HB6.out HB9.out⟩
                rw [HT.out, HI.out]
                have h9 := HO9.out
                rw [List.nil_append, List.append_assoc] at h9
                exact h9
              case measure => simp [intOf]; omega
        · have hae : a = out.length := by omega
          have HI : Hid (insH out xh = out.take a ++ xh :: out.drop a) := by
            show _ = _
            rw [insH_at out xh a ha HA.out (fun h => absurd h hal), if_neg (fun h => absurd h.1 hal)]
          have q1 : decide ((a : Int) < (out.length : Int)) = false := decide_eq_false (by omega)
          have q2 : decide (a < out.length) = false := decide_eq_false hal
          clear HA hae
          go_wp2_with fail
          go_quiet (fail)
          have hlq : (wr.drewN nq).cell? ⟨b, o + j * 7 + 2, none⟩ = some (.int .i64 xh) := l0
          have HOq := Hid.in (HOx.out.drewN nq)
          have HBq := Hid.in (below_draws HBx.out nq)
          generalize wr.drewN nq = wq at *
          clear HOx HBx l0
          go_wp2_with fail
          go_quiet (fail)
          have l1 : (wq.drewN nq).cell? ⟨b, o + j * 7 + 2, none⟩ = some (.int .i64 xh) := hlq
          have HO6 := Hid.in (HOq.out.drewN nq)
          have HB6 := Hid.in (below_draws HBq.out nq)
          generalize wq.drewN nq = w6 at *
          clear HOq HBq hlq q1 q2
          go_upto_region 10 with fail
          -- the new list, in three steps
          have hn0 := HNIL.out
          have hrow := HO6.out.row2
          have ht1 := sliceI_to pv out.length cv a (by omega)
          have ht2 := sliceI_from pv out.length cv a (by omega) (by omega)
          have hrd := hrow.dropF cv a (by omega)
          obtain ⟨p2, hp2⟩ : ∃ p2, p2 = (if cv = a then pv else pv.map (·.add (a * 1))) := ⟨_, rfl⟩
          have hk1 : fI.k = 1 := rfl
          rw [hk1, ← hp2] at hrd
          simp only [← hp2] at ht2
          have hp2n : p2 = none → cv - a = 0 := fun e => by have := hn0 (ifmap_none (hp2.symm.trans e)); omega
          have HP2 := Hid.in hp2n
          have HRT := Hid.in (hrow.takeK a)
          have HRD := Hid.in hrd
          clear hp2 hp2n hrow hrd hk1
          have x7 : (a : Int) ≤ (cv : Int) := by omega
          have x8 : (0 : Int) ≤ (a : Int) := by omega
          have x9 : (a : Int) ≤ (out.length : Int) := by omega
          obtain ⟨v1, w7, hr1, ho1, hg1⟩ := krun_row (ty := 25) elemI w6 w6.heap.size (.slice none 0 0) [] (out.take a) (KOwn.nil _ _ _ _) pv a cv (by rw [List.length_take]; omega) HRT.out hn0 (by rw [List.length_take]; simp; omega) (by decide) (Nat.le_refl _)
          have HB7 : Hid (Below w6.heap.size w6 w7) := (Below.refl _ _).grown hg1 (Nat.le_refl _) (fun k e => by cases e)
          have HO7 := Hid.in ho1
          clear ho1 hg1
          go_wp2_with (at_builtin; refine Hid.out ?_)
          refine Lib.hid ?_
          refine wpList_krun rfl _ _ rfl _ _ rfl rfl _ _ hr1 ?_
          clear hr1
          go_upto_region 11 with fail
          have l2 : w7.cell? ⟨b, o + j * 7 + 2, none⟩ = some (.int .i64 xh) := (HB7.out.cell (cell_lt l1)).trans l1
          go_wp2_with (at_builtin; refine Hid.out ?_)
          refine Lib.hid ?_
          refine kpush elemI _ rfl _ _ rfl w6.heap.size v1 ([] ++ out.take a) rfl (HO7.out.alloc _) ⟨w7.heap.size, 0, none⟩ 1 xh rfl (fI.news w7 xh 3 #[.int .i64 xh] rfl) (by rw [List.nil_append, List.length_take]; omega) (by decide) (Nat.le_trans HB7.out.size (new_alloc _ _).size) ?_
          intro v2 w8 ho2 hg2 hb2
          have HO8 := Hid.in ho2
          have HB8 := Hid.in (hb2 w6 (below_alloc HB7.out _))
          clear ho2 hg2 hb2 l2 HO7 HB7
          go_upto_region 12 with fail
          obtain ⟨v3, w9, hr3, ho3, hg3⟩ := krun_row (ty := 25) elemI w8 w6.heap.size v2 (([] ++ out.take a) ++ [xh]) (out.drop a) HO8.out p2 (out.length - a) (cv - a) (by rw [List.length_drop]) (HRD.out.below HB8.out) HP2.out (by simp; omega) (by decide) HB8.out.size
          have HB9 : Hid (Below w6.heap.size w6 w9) := HB8.out.grown hg3 HB8.out.size (fun k e => (HO8.out.ownB e).1)
          have HO9 := Hid.in (ho3.lower HB6.out.size)
          clear ho3 hg3 HO8 HB8
          go_wp2_with (at_builtin; refine Hid.out ?_)
          refine Lib.hid ?_
          refine wpList_krun rfl _ _ rfl _ _ rfl rfl _ _ hr3 ?_
          clear hr3 ht1 ht2
          go_wp2_with fail
          go_roundw
          case rel =>
            refine ⟨j + 1, by go_num, by omega, ?_, below_step HB6.out HB9.out⟩
            rw [HT.out, HI.out]
            have h9 := HO9.out
            rw [List.nil_append, List.append_assoc] at h9
            exact h9
          case measure => simp [intOf]; omega
    · obtain rfl : j = n := by omega
      have HE : Hid (hartsP (L.take j) = hartsL L) := by
        show _ = _
        rw [List.take_of_length_le (by rw [HN.out]; exact Nat.le_refl _), hartsL_eq]; rfl
      go_wp2_with fail
      go_ret
      exact ⟨_, rfl, by rw [← HE.out]; exact HO.out, HB.out⟩
end Go.Proofs.YtgblohjdiheemaaGreat
