/- Texts put together: ImgW, AwkW. -/
import Derived.Test.YtgblohjdiheemaaGreatKar
import Derived.Test.YtgblohjdiheemaaGreatKaa
import Derived.Deep.DeepCutAuto
import Derived.Lib.Hide
import Derived.Test.YtgblohjdiheemaaGreatKak
import Derived.Test.YtgblohjdiheemaaGreatKao

/- Ours: switchyardmade.Image makes what ImgL says. -/
namespace Go.Proofs.YtgblohjdiheemaaGreat
open Go.RowKit

theorem slice_noI {a : Addr} {n c m d : Nat} (h : Value.slice (some a) n c = .slice none m d) : False := by
  injection h with h
  cases h
theorem slice_inj {g g' n c n' c' : Nat} (h : Value.slice (some ⟨g, 0, none⟩) n c = .slice (some ⟨g', 0, none⟩) n' c') : g = g' ∧ c = c' := by
  injection h with h1 _ h2
  injection h1 with h1
  injection h1 with h1
  exact ⟨h1, h2⟩
theorem wp_makeY {ops : Array Oper} {rest : List Oper} {o : Oper} {a : Act} {w : World} {Q : Exit → Act → World → Prop} (hg : o.guard = none) (s1 s2 : Operand) (ho : o.op = .makeSlice 22 s1 s2) (n : Nat) (x y : Int) (h1 : a.eval s1 = .int .i64 x) (h2 : a.eval s2 = .int .i64 y) (hx : x = n) (hy : y = n) (hn : n ≤ 1048576)
    (h : ∀ w1, Hid (Blk w1 w.heap.size 5 (byts (List.replicate n 0)).toArray) → Hid (Below w.heap.size w w1) → wpList Tryz.prog ops Q rest (a.put o.dst (.slice (some ⟨w.heap.size, 0, none⟩) n n)) w1) : wpList Tryz.prog ops Q (o :: rest) a w := by
  obtain ⟨i0, hi, hz0, hz1, hz2⟩ := info_parts Tryz.info5
  refine wpList_make_full _ hg s1 s2 22 ho _ 5 i0 (.int .u8 0) 1 Tryz.underlying22 hi hz0 hz1 _ _ _ _ n h1 h2 hx hy (by rw [hz2]; omega) (by unfold maxLen; omega) (Nat.le_refl _) ?_
  intro w1 hown hgrow
  refine h w1 ?_ ((Below.refl w.heap.size w).grown hgrow (Nat.le_refl _) (by simp))
  rw [show (Value.int .u8 0).cells = #[Value.int .u8 0] from rfl, toList_madeCells_one] at hown
  rcases hown.2 with ⟨e1, _⟩ | ⟨g, cap, cur, e1, e2, e3, e4, e5, e6, e7⟩
  · exact absurd e1 (fun e => slice_noI e)
  · obtain ⟨e1, e1'⟩ := slice_inj e1
    subst e1 e1'
    show Blk _ _ _ _
    unfold Blk
    rw [e3]
    have e : cur = (byts (List.replicate n 0)).toArray := by
      apply Array.toList_inj.1
      rw [← List.take_of_length_le (l := cur.toList) (i := n * 1) (by rw [Array.length_toList]; omega), e7]
      simp [byts]
    rw [e]
/-- copy of the no-op's bytes -/
theorem step_copyQ {ops : Array Oper} {o : Oper} {a : Act} {w : World} {K : Act → World → Prop} {Q : Exit → Act → World → Prop} {E : Prop} (hgd : o.guard = none) (d s : Operand)
    (ho : o.op = .call { callee := .builtin .copy, args := #[d, s], argTypes := #[22, 22] }) (g off dLen dCap : Nat) (ad : Addr) (xs ys : List Int) (hd : a.eval d = .slice (some ⟨g, off, none⟩) dLen dCap) (hs : a.eval s = .slice (some ad) ys.length ys.length) (h5 : ys.length ≤ dLen)
    (hg : Blk w g 5 (byts xs).toArray) (hr : Row w (some ad) ys) (h0 : 0 < ys.length) (hfit : off + ys.length ≤ xs.length)
    (h : ∀ w', Hid (Blk w' g 5 (byts (splice xs off ys)).toArray) → Hid (w.grownBy w' (some g)) → K (a.put o.dst (goInt ys.length)) w') :
    if Region.wanted o (yielded ops a.tmps) = true then Oper.wp Tryz.prog o a w K Q else E := by
  have hw : Region.wanted o (yielded ops a.tmps) = true := by simp [Region.wanted, hgd]
  rw [if_pos hw]
  have hl : (byts ys).length = ys.length := by simp
  have hsrc : ∀ j v, (byts ys)[j]? = some v → w.cell? (ad.add j) = some v := fun j v hj => by
    obtain ⟨b, of, e, hc⟩ := hr h0
    have hjl : j < ys.length := by simpa using (List.getElem?_eq_some_iff.1 hj).1
    injection e with e
    subst e
    rw [Go.WideShapes.add_plain, hc j hjl]
    rw [getD_byts ys j hjl] at hj
    exact hj
  have hrun := run_copy_row (P := Tryz.prog) w 22 22 o.type 5 g off dLen dCap ad ys.length ys.length (byts xs).toArray 5 (byts ys) Tryz.underlying22 Tryz.size5 hg (by rw [hl]; exact (Nat.min_eq_left h5).symm) hsrc (by simp; omega) (fun v hv => by
    simp only [byts, List.mem_map] at hv
    obtain ⟨z, -, rfl⟩ := hv
    rfl)
  unfold Oper.wp
  simp [execOp, ho, resolve, invoke, builtin, hd, hs, hrun, Result.andThen]
  refine h _ ?_ ⟨rfl, rfl, rfl, by simp, fun k _ hk => setRow_other w g k _ (fun e => hk (by rw [e]))⟩
  have e : (byts (splice xs off ys)) = (byts xs).take off ++ (byts ys ++ (byts xs).drop (off + ys.length)) := by simp [splice, byts]
  show Blk _ _ _ _
  unfold Blk
  rw [e]
  have := setRow_heap w g (byts xs).toArray ((byts xs).take off ++ (byts ys ++ (byts xs).drop (off + ys.length))).toArray 5 _ hg
  simpa using this

/-- Image's memory, behind wA: the bytes are in block g; the units are made first, then the image -/
structure IA (wA w : World) (g nb : Nat) (vK v7 : Value) (bs : List Int) (ss : List ByteArray) (S : List Z3) : Prop where
  mb : Blk w (wA.heap.size + 1) 27 #[.slice (some ⟨g, 0, none⟩) nb nb, vK, .slice none 0 0, .slice (some ⟨wA.heap.size, 0, none⟩) 1 1]
  un : Blk w wA.heap.size 3 #[.int .i64 0]
  by_ : Blk w g 5 (byts bs).toArray
  lt : g < wA.heap.size
  kk : GOwnV 9 w (wA.heap.size + 2) vK (ss.map Value.string)
  st : TOwn 68 w (wA.heap.size + 2) v7 (S.map z3V)
  bel : Keeps (fun j => j = g) wA w
section
variable {wA w w' : World} {g nb : Nat} {vK v7 v' : Value} {bs bs' : List Int} {ss ss' : List ByteArray} {S S' : List Z3}
theorem IA.below (h : IA wA w g nb vK v7 bs ss S) (hb : Below w.heap.size w w') : IA wA w' g nb vK v7 bs ss S :=
  ⟨h.mb.grow hb, h.un.grow hb, h.by_.grow hb, h.lt, h.kk.below hb, h.st.below hb, h.bel.thenB hb⟩
theorem IA.size (h : IA wA w g nb vK v7 bs ss S) : wA.heap.size + 2 ≤ w.heap.size := h.mb.lt
theorem row_farI {T : TypeId} {z n q B : Nat} {v : Value} {vs : List Value} {W : World} (hr : W.ownsRow B T z v n vs) (hq : q < B) : ∀ g, v.ownBlock = some g → some q ≠ some g := fun g e e' => by
  have := (World.ownsRow.lt hr g e).1
  injection e' with e'
  omega
/-- a key's text is appended -/
theorem IA.text (h : IA wA w g nb vK v7 bs ss S) (ho : GOwnV 9 w' (wA.heap.size + 2) v' (ss'.map Value.string)) (hg : w.grownBy w' vK.ownBlock) : IA wA (w'.setCell ⟨wA.heap.size + 1, 1, none⟩ v') g nb v' v7 bs ss' S := by
  have hl := h.lt
  have hm := h.mb.rowStay h.kk hg (by omega)
  have hu := h.un.rowStay h.kk hg (by omega)
  have hy := h.by_.rowStay h.kk hg (by omega)
  have hs := grown_setCell w' (wA.heap.size + 1) 1 v'
  have k2 : TOwn 68 w' (wA.heap.size + 2) v7 (S.map z3V) := row_stay h.st hg (fun g e => rows_ap h.st h.kk (by decide) g e)
  exact ⟨hm.set 1 v', hu.other (by omega) 1 v', hy.other (by omega) 1 v', hl, row_stay ho hs (row_farI ho (by omega)), row_stay k2 hs (row_farI k2 (by omega)),
    (h.bel.grown hg fun k hk => by have := (World.ownsRow.lt h.kk k hk).1; exact .inr (by omega)).grown hs fun k hk => by injection hk with hk; exact .inr (by omega)⟩
/-- a site is appended -/
theorem IA.site (h : IA wA w g nb vK v7 bs ss S) (ho : TOwn 68 w' (wA.heap.size + 2) v' (S'.map z3V)) (hg : w.grownBy w' v7.ownBlock) : IA wA w' g nb vK v' bs ss S' :=
  have hl := h.lt
  ⟨h.mb.rowStay h.st hg (by omega), h.un.rowStay h.st hg (by omega), h.by_.rowStay h.st hg (by omega), hl, row_stay h.kk hg (fun g e => rows_ap h.kk h.st (by decide) g e), ho,
    h.bel.grown hg fun k hk => by have := (World.ownsRow.lt h.st k hk).1; exact .inr (by omega)⟩
/-- bytes are written -/
theorem IA.bytes (h : IA wA w g nb vK v7 bs ss S) (ho : Blk w' g 5 (byts bs').toArray) (hg : w.grownBy w' (some g)) : IA wA w' g nb vK v7 bs' ss S :=
  have hl := h.lt
  ⟨h.mb.kept hg (by intro e; injection e with e; omega), h.un.kept hg (by intro e; injection e with e; omega), ho, hl, row_stay h.kk hg (row_farI h.kk (by omega)), row_stay h.st hg (row_farI h.st (by omega)),
    h.bel.grown hg fun k hk => by injection hk with hk; exact .inl hk.symm⟩
end
section
variable (W : World) (g : Nat) (v0 v1 v2 v3 : Value)
theorem st4_blk {c : Array Value} (h : Blk W g 27 c) (hs : c.size = 4) : Blk ((((W.setCell ⟨g, 0, none⟩ v0).setCell ⟨g, 1, none⟩ v1).setCell ⟨g, 2, none⟩ v2).setCell ⟨g, 3, none⟩ v3) g 27 #[v0, v1, v2, v3] :=
  h.setAll #[v0, v1, v2, v3] hs.symm
theorem st4_grown : W.grownBy ((((W.setCell ⟨g, 0, none⟩ v0).setCell ⟨g, 1, none⟩ v1).setCell ⟨g, 2, none⟩ v2).setCell ⟨g, 3, none⟩ v3) (some g) :=
  grown_setCells g [v0, v1, v2, v3] 0 W
end
theorem row_one (w : World) (a : Int) : Row (w.alloc (.cells #[.int .u8 a] 5)) (some ⟨w.heap.size, 0, none⟩) [a] := (Own.lit w [a] (by unfold maxLen; simp)).row
theorem Tryz.results6 : Tryz.f6.results = #[.cell 2 27] := rfl
theorem siV_zS (S : List Z3) : (S.map zS).map siV = S.map z3V := by rw [List.map_map]; rfl
set_option maxHeartbeats 8000000 in
set_option maxRecDepth 20000 in
theorem image_any (p : Option Addr) (n c : Nat) (L : List Int) (w : World) (hL : L.length = n) (hn : n ≤ 140737488355328) (hnc : n ≤ c) (hr : GRow w p (numZ L)) :
    Calls Tryz.prog 6 #[.slice p n c] w fun e w' => ∃ vB vK vS vU, e = .returned (.agg #[vB, vK, vS, vU]) ∧ ImOwn w' w.heap.size (imM (L.take 20)) vB vK vS vU ∧ Below w.heap.size w w' := by
  have hall : ∃ (mm : Nat), (L.take 20).length = mm ∧ mm ≤ 20 ∧ (20 < n → mm = 20) ∧ (¬ 20 < n → mm = n) ∧ (20 < n → ∃ b0 o0, p = some ⟨b0, o0, none⟩) := by
    refine ⟨_, rfl, ?_, fun h => ?_, fun h => ?_, fun h => ?_⟩
    · rw [List.length_take]; omega
    · rw [List.length_take]; omega
    · rw [List.length_take]; omega
    · obtain ⟨b0, o0, e, -⟩ := hr (by simp; omega)
      exact ⟨b0, o0, e⟩
  obtain ⟨mm, hzl, hmm, hv1, hv2, hp8⟩ := hall
  have HZ : Hid (∀ W, Below w.heap.size w W → GRow W p (numZ (L.take 20))) := fun W hW h0 => by
    have hl0 : 0 < L.length := by
      have : 0 < (L.take 20).length := by simpa using h0
      rw [List.length_take] at this
      omega
    obtain ⟨b, o, e, hc⟩ := (hr.below hW).num hl0
    refine ⟨b, o, e, fun i hi => ?_⟩
    have hi' : i < (L.take 20).length := by simpa using hi
    have hi2 : i < L.length ∧ i < 20 := by rw [List.length_take] at hi'; omega
    rw [hc i hi2.1, numZ_at _ _ hi']
    simp [List.getD, List.getElem?_take_of_lt hi2.2]
  generalize L.take 20 = l at *
  have HX := Hid.in hzl
  have HV1 := Hid.in hv1
  have HV2 := Hid.in hv2
  have HP8 := Hid.in hp8
  have HRs := Hid.in (Blk.new w 27 nil4)
  have HB0 := Hid.in (new_alloc w (.cells nil4 27))
  clear hzl hv1 hv2 hL hr hp8
  go_enter Tryz.func6, Tryz.ntmps6
  go_upto_if 12 with fail
  generalize w.alloc (.cells nil4 27) = w0 at *
  go_cut [0] (fun v wx => v = .slice p mm c ∧ wx = w0)
  case first =>
    by_cases h8 : 20 < n
    · have e := HV1.out h8
      obtain ⟨b0, o0, rfl⟩ := HP8.out h8
      have g2 : decide (20 < n) = true := decide_eq_true h8
      clear HV1 HV2 HP8 HZ
      go_wp2_with fail
      go_meet
      case rel => exact ⟨by rw [e], rfl⟩
    · have HE := Hid.in (HV2.out h8)
      have g2 : decide (20 < n) = false := decide_eq_false h8
      go_wp2_with fail
      go_meet
      case rel => exact ⟨by rw [HE.out], rfl⟩
  case rest =>
    obtain ⟨rfl, hw0⟩ := hcut
    subst hw0
    clear HV1 HV2 HP8
    have HR0 := Hid.in (HZ.out _ HB0.out)
    have hKy := keyed_any p mm c l wc HX.out (by omega) HR0.out
    have HKL := Hid.in (kdS_len l mm)
    clear HZ
    go_wp2_with (go_at_call 28; refine Hid.out ?_)
    refine Lib.hid ?_
    (with_reducible refine hKy.mono ?_)
    rintro e w1 ⟨v3, rfl, ho3, hb1⟩
    obtain ⟨p3, c3', e3, -, -, -⟩ := ho3.slice
    rw [List.length_map, HKL.out.1] at e3
    subst e3
    have HO3 := Hid.in ho3
    have HBW1 := Hid.in (below_step HB0.out hb1)
    have HRs1 := Hid.in (HRs.out.grow hb1)
    have HS1 : Hid (wc.heap.size ≤ w1.heap.size) := hb1.size
    have hkl := HKL.out.2
    have HMT : Hid (imN l = (kdS l mm).1.length) := by show (kdS l l.length).1.length = _; rw [HX.out]
    clear ho3 hb1 hKy HR0
    generalize (kdS l mm).1.length = kn at *
    obtain ⟨ofs, hofs⟩ : ∃ ofs, (kdS l mm).2 = ofs := ⟨_, rfl⟩
    have HOF := Hid.in hofs
    rw [hofs] at HO3
    clear hofs
    have hbn : (8 + 12 * mm) ≤ 1048576 := by omega
    go_wp2_with (at_make; refine wp_makeY rfl _ _ rfl (8 + 12 * mm) _ _ rfl rfl (by omega) (by omega) hbn ?_; intro w2 HY2 HB2; refine Hid.out ?_)
    refine Lib.hid ?_
    have HIA : Hid (IA w2 ((w2.alloc (.cells #[.int .i64 0] 3)).alloc (.cells #[.slice (some ⟨w1.heap.size, 0, none⟩) (8 + 12 * mm) (8 + 12 * mm), .slice none 0 0, .slice none 0 0, .slice (some ⟨w2.heap.size, 0, none⟩) 1 1] 27)) w1.heap.size (8 + 12 * mm) (.slice none 0 0) (.slice none 0 0) (imB mm 0) [] (imR l 0)) := by
      refine ⟨?_, (Blk.new w2 3 _).grow (new_alloc _ _), (HY2.out.grow (new_alloc _ _)).grow (new_alloc _ _), HY2.out.lt, GOwnV.nil _ _ _, TOwn.nil _ _ _, Keeps.ofBelow (below_alloc (new_alloc _ _) _)⟩
      have := Blk.new (w2.alloc (.cells #[.int .i64 0] 3)) 27 #[.slice (some ⟨w1.heap.size, 0, none⟩) (8 + 12 * mm) (8 + 12 * mm), .slice none 0 0, .slice none 0 0, .slice (some ⟨w2.heap.size, 0, none⟩) 1 1]
      rw [size_one] at this
      exact this
    have HOk : Hid (∀ W, Keeps (fun j => j = w1.heap.size) w2 W → GRow W p3 (numZ ofs)) := fun W hW h0 => by
      obtain ⟨pq, cq, eq, hrq, -, -⟩ := HO3.out.slice
      have e1 : p3 = pq := by injection eq
      subst e1
      obtain ⟨b, o, e, hc⟩ := hrq h0
      refine ⟨b, o, e, fun i hi => ?_⟩
      have h1 := hc i hi
      have hlt : b < w1.heap.size := by
        rw [List.getElem?_eq_getElem hi] at h1
        exact cell_lt h1
      have hk := (Keeps.ofBelow (G := fun j => j = w1.heap.size) HB2.out).trans' hW
      rw [← h1]
      have := hk.block b hlt (by omega)
      unfold World.cell?
      dsimp only
      rw [this]
    have HLB := Hid.in (imB_len mm)
    have HBW2 := Hid.in (below_step HBW1.out HB2.out)
    have HRs2 := Hid.in (HRs1.out.grow HB2.out)
    have HG0 : Hid (w.heap.size ≤ w1.heap.size) := HBW1.out.size
    have HG2 : Hid (w.heap.size < w1.heap.size) := HRs1.out.lt
    clear HY2 HB2 HO3 HRs HRs1 HB0 HBW1
    generalize hgB : w1.heap.size = gB at *
    clear hgB
    go_upto_region 5 with fail
    generalize (w2.alloc (.cells #[.int .i64 0] 3)).alloc (.cells #[.slice (some ⟨gB, 0, none⟩) (8 + 12 * mm) (8 + 12 * mm), .slice none 0 0, .slice none 0 0, .slice (some ⟨w2.heap.size, 0, none⟩) 1 1] 27) = w5 at *
    obtain ⟨bl, HBL⟩ : ∃ bl, Hid (bl = 8 + 12 * mm) := ⟨_, rfl⟩
    rw [← HBL.out] at HIA ⊢
    go_wp2_with fail
    go_loopw [6] (fun vi wz => ∃ (k : Nat) (vK : Value), k ≤ kn ∧ vi = .int .i64 k ∧ IA w2 wz gB bl vK (.slice none 0 0) (imB mm 0) (txtP k) (imR l 0)) (fun vi _ => kn - (intOf vi).toNat)
    case atStart => exact ⟨0, _, Nat.zero_le _, rfl, HIA.out⟩
    case round =>
      obtain ⟨k, vK, hk, rfl, hp⟩ := hrel
      have HQ := Hid.in hp
      obtain ⟨pK, cK, eK, -, -, -⟩ := hp.kk.slice
      rw [List.length_map, txtP_len] at eK
      subst eK
      clear hp HIA
      by_cases hlk : k < kn
      · have qk : wr.cell? ⟨w2.heap.size + 1, 1, none⟩ = some (.slice pK k cK) := HQ.out.mb.cell 1
        have hcv : (convert 22 9 (.slice (some ⟨wr.heap.size, 0, none⟩) 1 1)).run Tryz.prog (wr.alloc (.cells #[.int .u8 (97 + (k : Int))] 5)) = .ok (.string (strOfNums [97 + (k : Int)])) (wr.alloc (.cells #[.int .u8 (97 + (k : Int))] 5)) := (row_one wr (97 + (k : Int))).convert rfl 1
        have HTX := Hid.in (txtP_succ k)
        have HTL := Hid.in (txtP_len k)
        have hm256 : (97 + (k : Int)) % 256 = 97 + (k : Int) := by omega
        have HQ1 := Hid.in (HQ.out.below (new_alloc wr (.cells #[.int .u8 (97 + (k : Int))] 5)))
        generalize strOfNums [97 + (k : Int)] = sk at *
        have HQ2 := Hid.in (HQ1.out.below (new_alloc _ (.cells #[.string sk] 9)))
        have hC2 : ∀ jx ux, ([Value.string sk] : List Value)[jx]? = some ux → ((wr.alloc (.cells #[.int .u8 (97 + (k : Int))] 5)).alloc (.cells #[.string sk] 9)).cell? ((⟨wr.heap.size + 1, 0, none⟩ : Addr).add jx) = some ux := by
          have h := cell_one_new (wr.alloc (.cells #[.int .u8 (97 + (k : Int))] 5)) (.string sk) 9
          rw [size_one] at h
          exact h
        have HTN : Hid (((txtP k).map Value.string ++ [Value.string sk]).length = k + 1) := by show _ = _; rw [List.length_append, List.length_map, HTL.out]; rfl
        have hl1 : ((txtP k).map Value.string).length + 1 ≤ 140737488355328 := by rw [List.length_map, HTL.out]; omega
        have hl2 : (((txtP k).map Value.string).length + 1) * 16 ≤ 140737488355328 := by rw [List.length_map, HTL.out]; omega
        go_wp2_with (at_builtin; refine gpush Tryz.elemT _ rfl _ _ rfl (w2.heap.size + 2) _ ((txtP k).map Value.string) rfl HQ2.out.kk ⟨wr.heap.size + 1, 0, none⟩ 1 1 [.string sk] rfl rfl hC2 (fun u hu => by simp only [List.mem_cons, List.not_mem_nil, or_false] at hu; subst hu; rfl) hl1 hl2 HQ2.out.size ?_; intro v24 w24 ho24 hg24 hb24 hn24; obtain ⟨p24, c24, e24, -, -, -⟩ := ho24.slice; rw [HTN.out] at e24; subst e24; have q24 : w24.cell? ⟨w2.heap.size + 1, 1, none⟩ = some (.slice pK k cK) := (HQ2.out.mb.rowStay HQ2.out.kk hg24 (by omega)).cell 1; have f24 : w24.frozen? ⟨w2.heap.size + 1, 1, none⟩ = false := (HQ2.out.mb.rowStay HQ2.out.kk hg24 (by omega)).free 1; have HQ3 : Hid (IA w2 (w24.setCell ⟨w2.heap.size + 1, 1, none⟩ (.slice p24 (k + 1) c24)) gB bl (.slice p24 (k + 1) c24) _ _ (txtP (k + 1)) _) := (HQ2.out.text (by rw [HTX.out, List.map_append]; exact ho24) hg24); clear ho24 hg24 hb24 hn24; refine Hid.out ?_)
        refine Lib.hid ?_
        clear hcv hC2 HQ1 HQ2 qk
        go_wp2_with fail
        go_roundw
        case rel => exact ⟨k + 1, _, by omega, by go_num, HQ3.out⟩
        case measure => simp [intOf]; omega
      · obtain rfl : k = kn := by omega
        go_wp2_with fail
        go_loopw [7, 8] (fun v7 vi wz => ∃ (j : Nat), j ≤ mm ∧ vi = .int .i64 j ∧ IA w2 wz gB bl (.slice pK k cK) v7 (imB mm j) (txtP k) (imR l j)) (fun _ vi _ => mm - (intOf vi).toNat)
        case atStart => exact ⟨0, Nat.zero_le _, rfl, HQ.out⟩
        case round =>
          obtain ⟨j, hj, rfl, hp⟩ := hrel
          have HK := Hid.in hp
          clear hp HQ
          by_cases hlj : j < mm
          · have hLj := HLB.out j (by omega)
            have q0 : wr.cell? ⟨w2.heap.size + 1, 0, none⟩ = some (.slice (some ⟨gB, 0, none⟩) bl bl) := HK.out.mb.cell 0
            go_upto_region 14 with fail
            obtain ⟨at_, hat, HAT⟩ : ∃ at_ : Nat, 8 + 12 * (j : Int) = (at_ : Int) ∧ Hid (at_ = 8 + 12 * j) := ⟨8 + 12 * j, by omega, rfl⟩
            have hab : at_ + 5 ≤ bl := by have := HBL.out; have := HAT.out; omega
            have hsl : ∀ W, (Instr.sliceAt 22 (.slice (some ⟨gB, 0, none⟩) bl bl) (some (.int .i64 (at_ : Int))) none none).run Tryz.prog W = .ok (.slice (some ⟨gB, at_, none⟩) (bl - at_) (bl - at_)) W := fun W => by
              rw [slice_lo _ _ _ _ _ (by omega), if_neg (by omega)]
              simp [Addr.add_mid]
            have hsl' : ∀ W, (Instr.slice 22 (.slice (some ⟨gB, 0, none⟩) bl bl) (some (.int .i64 (at_ : Int))) none none).run Tryz.prog W = .ok (.slice (some ⟨gB, at_, none⟩) (bl - at_) (bl - at_)) W := fun W => by
              rw [slice_lo' _ _ _ _ _ (by omega), if_neg (by omega)]
              simp [Addr.add_mid]
            have q0r := fun d os => cell_regrown q0 d os
            simp only [hat]
            refine wp_region_noPanic ?_
            refine wp_region_sink 4 [5] 2 (by kernel_rfl) (by kernel_rfl) (by kernel_rfl) (by kernel_rfl) (by kernel_rfl) (fun _ _ _ _ _ h => h) ?_
            simp only [List.take_succ_cons, List.take_zero]
            iterate 4 (go_big_quiet_step (fail))
            refine wpQuiet_nil ?_
            rintro _ ⟨⟨dq, osq⟩, rfl⟩
            have hbq : Below wr.heap.size wr (Go.Sort.grow (redrawn wr dq) osq) := below_regrown wr dq osq
            generalize Go.Sort.grow (redrawn wr dq) osq = w17 at hbq ⊢
            clear q0 q0r hsl hsl'
            refine wpAnyG_one (i := 4) (by kernel_rfl) rfl (fun K hK => ?_)
            go_simp
            go_at_call 29
            refine (mquiet_any _).mono ?_
            rintro e w18 ⟨gq, rfl, hoq, hbq2⟩
            refine hK.out _ _ (regrown_of_below (below_step hbq hbq2)) (fun _ => ?_)
            clear hK K
            have HK18 := Hid.in (HK.out.below (below_step hbq hbq2))
            have HOQ := Hid.in hoq
            clear hoq hbq2 hbq HK
            refine wpAnyG_last (i := 5) (by kernel_rfl) rfl rfl (fun K hK => ?_)
            refine step_copyQ (by rfl) _ _ (by rfl) gB at_ (bl - at_) (bl - at_) ⟨gq, 0, none⟩ (imB mm j) quietL (by rfl) (by rfl) (by show 5 ≤ _; omega) HK18.out.by_ HOQ.out.row (by decide) (by show at_ + 5 ≤ _; rw [hLj, ← HBL.out]; exact hab) ?_
            intro w19 HY19 hg19
            have HK19 : Hid (IA w2 w19 gB bl (.slice pK k cK) _ (imB mm (j + 1)) (txtP k) (imR l j)) := HK18.out.bytes (by show Blk w19 gB 5 (byts (Go.splice (imB mm j) (8 + 12 * j) quietL)).toArray; rw [← HAT.out]; exact HY19.out) hg19.out
            clear HY19 hg19 HK18 HOQ
            refine hK.out _ _ ?_
            clear hK K
            refine wpAnyG_done (by kernel_rfl) ?_ _
            refine NoPanic.normal ?_
            have HR3 := Hid.in (HOk.out w19 HK19.out.bel)
            have hofl : ofs.length = mm := by have := HKL.out.1; rw [HOF.out] at this; exact this
            obtain ⟨b3, o3, rfl, hc3⟩ := HR3.out.num (by omega)
            have c1 := hc3 j (by omega)
            have HIR := Hid.in (imR_succ l j)
            have HIZ : Hid (imZ l j = (ofs.getD j 0, (at_ : Int), (at_ : Int) + 9)) := by
              show _ = _
              unfold imZ
              rw [HX.out, HOF.out, HAT.out]
              simp only [Prod.mk.injEq, true_and]
              omega
            clear hc3 HR3
            generalize ofs.getD j 0 = key at *
            have hRl := imR_len l j
            obtain ⟨p7, c7, e7, -, -, -⟩ := HK19.out.st.shape
            rw [List.length_map, hRl] at e7
            subst e7
            generalize imR l j = S at *
            have HN0 := Hid.in (HK19.out.below (new_alloc w19 (.cells #[.int .i64 key, .int .i64 at_, .int .i64 ((at_ : Int) + 9)] 68)))
            have hS1 : (S.map z3V).length ≤ 1048576 := by rw [List.length_map]; omega
            go_simp
            go_wp2_with (at_builtin; refine tpush Tryz.elemSite _ rfl _ _ rfl (w2.heap.size + 2) _ (S.map z3V) rfl HN0.out.st ⟨w19.heap.size, 0, none⟩ 1 (z3V (key, (at_ : Int), (at_ : Int) + 9)) (z3V_one _) rfl (news3 w19 (z3V (key, (at_ : Int), (at_ : Int) + 9)) 68) hS1 (by decide) HN0.out.size ?_; intro v9 w9 ho9 hg9 hb9; have HK9 : Hid (IA w2 w9 gB bl _ v9 _ _ (S ++ [(key, (at_ : Int), (at_ : Int) + 9)])) := HN0.out.site (by rw [List.map_append]; exact ho9) hg9; clear ho9 hg9 hb9; refine Hid.out ?_)
            refine Lib.hid ?_
            clear HN0 hS1 c1
            go_wp2_with fail
            go_roundw
            case rel => exact ⟨j + 1, by omega, by go_num, by rw [HIR.out, HIZ.out]; exact HK9.out⟩
            case measure => simp [intOf]; omega
          · obtain rfl : j = mm := by omega
            obtain ⟨p7, c7, e7, hrs⟩ := HK.out.st.trow
            rw [imR_len] at e7
            subst e7
            have hSo := sortedP_any p7 j c7 (imR l j) wr (imR_len l j) (by omega) hrs
            have HTB : Hid (sortZ (imR l j) j = imS l) := by show _ = sortZ (imR l l.length) l.length; rw [HX.out]
            rw [HTB.out] at hSo
            clear hrs
            go_wp2_with (go_at_call 30; refine Hid.out ?_)
            refine Lib.hid ?_
            (with_reducible refine hSo.mono ?_)
            rintro e w25 ⟨v25, rfl, ho25, hb25⟩
            obtain ⟨p25, c25, e25, -, -, -⟩ := ho25.shape
            subst e25
            have HQ5 := Hid.in (HK.out.below hb25)
            have HO25 : Hid (TOwn 68 w25 (w2.heap.size + 2) (.slice p25 ((imS l).map z3V).length c25) ((imS l).map z3V)) := own_lower ho25 HK.out.size
            have q25 : w25.cell? ⟨w2.heap.size + 1, 2, none⟩ = some (.slice none 0 0) := HQ5.out.mb.cell 2
            have f25 : w25.frozen? ⟨w2.heap.size + 1, 2, none⟩ = false := HQ5.out.mb.free 2
            have HM6 := Hid.in (HQ5.out.mb.set 2 (.slice p25 ((imS l).map z3V).length c25))
            have HG6 := Hid.in (grown_setCell w25 (w2.heap.size + 1) 2 (.slice p25 ((imS l).map z3V).length c25))
            clear ho25 hb25 hSo HK
            generalize ((imS l).map z3V).length = tl at *
            go_upto_region 17 with fail
            generalize w25.setCell ⟨w2.heap.size + 1, 2, none⟩ (.slice p25 tl c25) = w26 at *
            clear q25 f25
            have HM7 : Hid (Blk w26 (w2.heap.size + 1) 27 #[.slice (some ⟨gB, 0, none⟩) bl bl, .slice pK k cK, .slice p25 tl c25, .slice (some ⟨w2.heap.size, 0, none⟩) 1 1]) := HM6.out
            have hgB2 := HQ5.out.lt
            have hlt2 := HRs2.out.lt
            have hwg := HG2.out
            have HR6 : Hid (Blk w26 w.heap.size 27 nil4) := by
              have h1 : Blk w25 w.heap.size 27 nil4 := (HQ5.out.bel.block w.heap.size hlt2 (by omega)).trans HRs2.out
              exact h1.kept HG6.out (by intro e; injection e with e; omega)
            have HY6 := Hid.in (HQ5.out.by_.kept HG6.out (by intro e; injection e with e; omega))
            have HK6 : Hid (GOwnV 9 w26 (w2.heap.size + 2) (.slice pK k cK) ((txtP k).map Value.string)) := row_stay HQ5.out.kk HG6.out (row_farI HQ5.out.kk (by omega))
            have HS6 : Hid (TOwn 68 w26 (w2.heap.size + 2) (.slice p25 tl c25) ((imS l).map z3V)) := row_stay HO25.out HG6.out (row_farI HO25.out (by omega))
            have HU6 := Hid.in (HQ5.out.un.kept HG6.out (by intro e; injection e with e; omega))
            have HB6 : Hid (Below w.heap.size w w26) := by
              have h1 : Below w.heap.size w w25 := HBW2.out.trans (HQ5.out.bel.below (Nat.le_of_lt hlt2) (fun j hj => by omega))
              exact h1.grown HG6.out h1.size (fun k hk => by injection hk with hk; omega)
            have HSz : Hid (w2.heap.size + 2 ≤ w26.heap.size) := HM7.out.lt
            clear HM6 HG6 HQ5 HO25 HRs2
            have a0 : w26.cell? ⟨w2.heap.size + 1, 0, none⟩ = some (.slice (some ⟨gB, 0, none⟩) bl bl) := HM7.out.cell 0
            have a1 : w26.cell? ⟨w2.heap.size + 1, 1, none⟩ = some (.slice pK k cK) := HM7.out.cell 1
            have a2 : w26.cell? ⟨w2.heap.size + 1, 2, none⟩ = some (.slice p25 tl c25) := HM7.out.cell 2
            have a3 : w26.cell? ⟨w2.heap.size + 1, 3, none⟩ = some (.slice (some ⟨w2.heap.size, 0, none⟩) 1 1) := HM7.out.cell 3
            have z0 : w26.cell? ⟨w.heap.size, 0, none⟩ = some (.slice none 0 0) := HR6.out.cell 0
            have z1 : w26.cell? ⟨w.heap.size, 1, none⟩ = some (.slice none 0 0) := HR6.out.cell 1
            have z2 : w26.cell? ⟨w.heap.size, 2, none⟩ = some (.slice none 0 0) := HR6.out.cell 2
            have z3 : w26.cell? ⟨w.heap.size, 3, none⟩ = some (.slice none 0 0) := HR6.out.cell 3
            have zf : ∀ i, w26.frozen? ⟨w.heap.size, i, none⟩ = false := HR6.out.free
            have HB7 := Hid.in (st4_blk w26 w.heap.size (.slice (some ⟨gB, 0, none⟩) bl bl) (.slice pK k cK) (.slice p25 tl c25) (.slice (some ⟨w2.heap.size, 0, none⟩) 1 1) HR6.out rfl)
            have HG7 := Hid.in (st4_grown w26 w.heap.size (.slice (some ⟨gB, 0, none⟩) bl bl) (.slice pK k cK) (.slice p25 tl c25) (.slice (some ⟨w2.heap.size, 0, none⟩) 1 1))
            go_wp2_with fail
            generalize (((w26.setCell ⟨w.heap.size, 0, none⟩ (.slice (some ⟨gB, 0, none⟩) bl bl)).setCell ⟨w.heap.size, 1, none⟩ (.slice pK k cK)).setCell ⟨w.heap.size, 2, none⟩ (.slice p25 tl c25)).setCell ⟨w.heap.size, 3, none⟩ (.slice (some ⟨w2.heap.size, 0, none⟩) 1 1) = w27 at *
            have hld := load_im HB7.out
            have hs4 : w.heap.size ≤ w2.heap.size + 2 := by omega
            have hq : ∀ {T : TypeId} {z n : Nat} {v : Value} {vs : List Value}, w26.ownsRow (w2.heap.size + 2) T z v n vs → w27.ownsRow w.heap.size T z v n vs := fun {T z n v vs} hr => own_lower (row_stay hr HG7.out (row_farI hr (by omega))) hs4
            have hU : GOwnV 3 w27 w.heap.size (.slice (some ⟨w2.heap.size, 0, none⟩) 1 1) (numZ [0]) := by
              have hb : Blk w27 w2.heap.size 3 #[.int .i64 0] := HU6.out.kept HG7.out (by intro e; injection e with e; omega)
              exact (GOwn.mk (vs := numZ [0]) (by omega) hb (by simp) (by decide) rfl rfl).val
            have hYb : OwnV w27 w.heap.size (.slice (some ⟨gB, 0, none⟩) bl bl) (imB j j) := by
              have hb : Blk w27 gB 5 (byts (imB j j)).toArray := HY6.out.kept HG7.out (by intro e; injection e with e; omega)
              have hl := HLB.out j (Nat.le_refl _)
              rw [← HBL.out] at hl
              have hbl : bl ≤ 1048576 := by have := HBL.out; omega
              unfold OwnV
              rw [hl]
              refine ⟨by simp [hl], .inr ⟨gB, bl, _, rfl, by omega, hb, Nat.le_refl _, by unfold maxLen; omega, by simp [hl], ?_⟩⟩
              rw [Nat.mul_one]
              exact List.take_of_length_le (by simp [hl])
            have hE : Below w.heap.size w w27 := HB6.out.grown HG7.out HB6.out.size (fun k hk => by injection hk with hk; omega)
            have hbs : (imM l).bs = imB j j := by show imB l.length l.length = _; rw [HX.out]
            have hks : (imM l).ks = txtP k := by show txtP (imN l) = _; rw [HMT.out]
            have hsi : (imM l).si.map siV = (imS l).map z3V := siV_zS _
            exact bodyPost_ret (v := .agg #[.slice (some ⟨gB, 0, none⟩) bl bl, .slice pK k cK, .slice p25 tl c25, .slice (some ⟨w2.heap.size, 0, none⟩) 1 1]) (by simp [results, asAddr, hld]) rfl ⟨_, _, _, _, rfl, ⟨by rw [hbs]; exact hYb, by show GOwnV 9 _ _ _ ((imM l).ks.map Value.string); rw [hks]; exact hq HK6.out, by rw [hsi]; exact hq HS6.out, hU⟩, hE⟩
end Go.Proofs.YtgblohjdiheemaaGreat

/- Ours: switchyardlaw23's six events, awake. -/
namespace Go.Proofs.YtgblohjdiheemaaGreat
open Go.RowKit Go.Maps

def sixL : List Fv := [⟨8, 0, 0, 0, 0, 0, 1⟩, ⟨2, 0, 1, 8, 3, 0, 0⟩, ⟨3, 0, 1, 8, 0, 0, 0⟩, ⟨2, 0, 1, 8, 11, 0, 0⟩, ⟨5, 0, 1, 0, 0, 0, 7⟩, ⟨2, 0, 0, 8, 3, 0, 0⟩]
theorem elemE : ElemK fE 29 34 56 := ⟨Tryz.underlying29, .agg #[.int .u8 0, .int .i64 0, .int .i64 0, .int .i64 0, .int .u8 0, .int .i64 0, .int .i64 0], rfl, by kernel_rfl⟩
/-- a literal list -/
theorem KOwn.lit {α : Type} {F : Fm α} {T : TypeId} (w : World) (L : List α) (A : Array Value) (n : Nat) (hn : L.length = n) (hA : A.toList = F.cs L) (hm : n ≤ 1048576) : KOwn F T (w.alloc (.cells A T)) w.heap.size (.slice (Option.some ⟨w.heap.size, 0, Option.none⟩) n n) L := by
  subst hn
  refine ⟨by rw [F.cs_len], .inr ⟨w.heap.size, L.length, A, rfl, Nat.le_refl _, Blk.new w T A, Nat.le_refl _, Nat.le_trans hm (Nat.le_of_lt small_maxLen |> Nat.le_trans (by decide)), ?_, ?_⟩⟩
  · rw [← Array.length_toList, hA, F.cs_len]
  · rw [List.take_of_length_le (by rw [hA, F.cs_len]; exact Nat.le_refl _), hA]
theorem KRow.lit {α : Type} {F : Fm α} {T : TypeId} (w : World) (L : List α) (A : Array Value) (hA : A.toList = F.cs L) (hm : L.length ≤ 1048576) : KRow F (w.alloc (.cells A T)) (some ⟨w.heap.size, 0, none⟩) L := by
  obtain ⟨p, c, e, -, -, h⟩ := (KOwn.lit (T := T) w L A _ rfl hA hm).row
  injection e with e _ _
  rw [e]
  exact h
set_option maxRecDepth 20000 in
set_option maxHeartbeats 4000000 in
theorem six_any (w : World) : Calls Tryz.prog 7 #[] w fun e w' => ∃ p, e = .returned (.slice p 6 6) ∧ KOwn fE 34 w' w.heap.size (.slice p 6 6) sixL ∧ KRow fE w' p sixL ∧ Below w.heap.size w w' := by
  go_enter Tryz.func7, Tryz.ntmps7
  go_wp2_with fail
  go_ret
  exact ⟨_, rfl, KOwn.lit w sixL _ 6 rfl rfl (by decide), KRow.lit w sixL _ rfl (by decide), new_alloc _ _⟩
theorem six_ok : ∀ x ∈ sixL, FvOk x := by
  intro x hx
  unfold sixL at hx
  simp only [List.mem_cons, List.not_mem_nil, or_false] at hx
  rcases hx with rfl | rfl | rfl | rfl | rfl | rfl <;> exact ⟨by unfold i64P; decide, by unfold i64P; decide, by unfold i64P; decide, by unfold i64P; decide⟩
theorem KRow.drew {α : Type} {F : Fm α} {w : World} {p : Option Addr} {L : List α} (h : KRow F w p L) : KRow F w.drew p L := h
theorem ex_btw : btwL 1 8 (partL sixL 0 100) = (1, 2) := by kernel_rfl
theorem ex_outs : outsL sixL 1 = [7] := by kernel_rfl
theorem ex_views : viewsA (imM [0]) sixL = [⟨0, 0, 1, 0, false⟩, ⟨1, 0, 1, 2, false⟩] := by kernel_rfl
set_option maxRecDepth 20000 in
set_option maxHeartbeats 8000000 in
theorem awake_any (w : World) : Calls Tryz.prog 15 #[] w fun e w' => e = .returned (.bool true) ∧ Below w.heap.size w w' := by
  have hz : GRow (w.alloc (.cells #[.int .i64 0] 3)) (some ⟨w.heap.size, 0, none⟩) (numZ [0]) := fun _ => ⟨w.heap.size, 0, rfl, fun i hi => by
    have hi : i < 1 := hi
    obtain rfl : i = 0 := by omega
    exact (Blk.new w 3 #[.int .i64 0]).cell 0⟩
  have hI := image_any (some ⟨w.heap.size, 0, none⟩) 1 1 [0] (w.alloc (.cells #[.int .i64 0] 3)) rfl (by decide) (Nat.le_refl _) hz
  have HB0 := Hid.in (new_alloc w (.cells #[.int .i64 0] 3))
  have HSX : Hid (∀ W : World, Calls Tryz.prog 7 #[] W _) := fun W => six_any W
  clear hz
  go_enter Tryz.func15, Tryz.ntmps15
  go_wp2_with (go_at_call 6; refine Hid.out ?_)
  generalize w.alloc (.cells #[.int .i64 0] 3) = w0 at *
  refine Lib.hid ?_
  (with_reducible refine hI.mono ?_)
  rintro e w1 ⟨vB, vK, vS, vU, rfl, ho, hb⟩
  have HB1 := Hid.in (below_step HB0.out hb)
  obtain ⟨qb, qk, qs, qu, db, dk, ds, du, rfl, rfl, rfl, rfl, hin, -⟩ := ho.inOk (imM_ok [0] (by decide)) (imM_byt [0])
  have HI1 := Hid.in hin
  clear hI ho hb hin HB0
  go_upto_region 2 with fail
  have HA2 := Hid.in (Blk.new w1 27 #[.slice qb (imM [0]).bs.length db, .slice qk (imM [0]).ks.length dk, .slice qs (imM [0]).si.length ds, .slice qu (imM [0]).un.length du])
  have HB2 := Hid.in (below_alloc HB1.out (.cells #[.slice qb (imM [0]).bs.length db, .slice qk (imM [0]).ks.length dk, .slice qs (imM [0]).si.length ds, .slice qu (imM [0]).un.length du] 27))
  have HI2 := Hid.in (HI1.out.below (new_alloc w1 (.cells #[.slice qb (imM [0]).bs.length db, .slice qk (imM [0]).ks.length dk, .slice qs (imM [0]).si.length ds, .slice qu (imM [0]).un.length du] 27)))
  generalize w1.alloc (.cells #[.slice qb (imM [0]).bs.length db, .slice qk (imM [0]).ks.length dk, .slice qs (imM [0]).si.length ds, .slice qu (imM [0]).un.length du] 27) = w2 at *
  clear HI1
  have hs := HSX.out w2
  go_wp2_with (go_at_call 7; refine Hid.out ?_)
  refine Lib.hid ?_
  (with_reducible refine hs.mono ?_)
  rintro e w3 ⟨p3, rfl, ho3, hr3, hb⟩
  have HB3 := Hid.in (below_step HB2.out hb)
  have HA3 := Hid.in (HA2.out.grow hb)
  have HI3 := Hid.in (HI2.out.below hb)
  have hbt := between_any p3 6 6 sixL 1 8 0 100 w3 rfl (by decide) hr3
  rw [ex_btw] at hbt
  clear hs hb ho3 hr3 HB2 HA2 HI2
  go_wp2_with (go_at_call 11; refine Hid.out ?_)
  refine Lib.hid ?_
  (with_reducible refine hbt.mono ?_)
  rintro e w4 ⟨rfl, hb⟩
  have HB4 := Hid.in (below_step HB3.out hb)
  have HA4 := Hid.in (HA3.out.grow hb)
  have HI4 := Hid.in (HI3.out.below hb)
  clear hbt hb HB3 HA3 HI3
  go_upto_region 3 with fail
  have a0 : w4.cell? ⟨w1.heap.size, 0, none⟩ = some (.slice qb (imM [0]).bs.length db) := HA4.out.cell 0
  have a1 : w4.cell? ⟨w1.heap.size, 1, none⟩ = some (.slice qk (imM [0]).ks.length dk) := HA4.out.cell 1
  have a2 : w4.cell? ⟨w1.heap.size, 2, none⟩ = some (.slice qs (imM [0]).si.length ds) := HA4.out.cell 2
  have a3 : w4.cell? ⟨w1.heap.size, 3, none⟩ = some (.slice qu (imM [0]).un.length du) := HA4.out.cell 3
  have HVW := Hid.in (fun (W : World) (p : Option Addr) (hi : ImIn W (imM [0]) qb qk qs qu (imM [0]).bs.length db (imM [0]).ks.length dk (imM [0]).si.length ds (imM [0]).un.length du) (hr : KRow fE W p sixL) => views_any (imM [0]) qb qk qs qu (imM [0]).bs.length db (imM [0]).ks.length dk (imM [0]).si.length ds (imM [0]).un.length du p 6 6 sixL W hi rfl (by decide) hr six_ok)
  rw [ex_views] at HVW
  have HOU := Hid.in (fun (W : World) (p : Option Addr) (hr : KRow fE W p sixL) => outs_any p 6 6 sixL 1 W rfl (by decide) hr)
  rw [ex_outs] at HOU
  have HSV := Hid.in (fun (W : World) (p q : Option Addr) c d h1 h2 => sameViews_self p q 2 c d [⟨0, 0, 1, 0, false⟩, ⟨1, 0, 1, 2, false⟩] W rfl (by decide) h1 h2)
  have HSP := Hid.in (fun (W : World) (p q : Option Addr) c d h1 h2 => samePlaces_self p q 1 c d [7] W rfl (by decide) h1 h2)
  have HLV := Hid.in (fun (W : World) (q : Nat) (hq : W.heap.size = q) => hq ▸ KRow.lit (F := fW) (T := 39) W [⟨0, 0, 1, 0, false⟩, ⟨1, 0, 1, 2, false⟩] #[.int .i64 0, .int .i64 0, .int .i64 1, .int .i64 0, .bool false, .int .i64 1, .int .i64 0, .int .i64 1, .int .i64 2, .bool false] rfl (by decide))
  have HLP := Hid.in (fun (W : World) (q : Nat) (hq : W.heap.size = q) => hq ▸ KRow.lit (F := fU) (T := 87) W [7] #[.int .u32 7] rfl (by decide))
  have HI5 : Hid (∀ W : World, Below w4.heap.size w4 W → ImIn W (imM [0]) qb qk qs qu (imM [0]).bs.length db (imM [0]).ks.length dk (imM [0]).si.length ds (imM [0]).un.length du) := fun W hW => HI4.out.below hW
  have HSK : Hid (∀ W W' : World, (W.cell? ⟨w1.heap.size, 0, none⟩ = some (.slice qb (imM [0]).bs.length db) ∧ W.cell? ⟨w1.heap.size, 1, none⟩ = some (.slice qk (imM [0]).ks.length dk) ∧ W.cell? ⟨w1.heap.size, 2, none⟩ = some (.slice qs (imM [0]).si.length ds) ∧ W.cell? ⟨w1.heap.size, 3, none⟩ = some (.slice qu (imM [0]).un.length du) ∧ Below w4.heap.size w4 W) → Below W.heap.size W W' → (W'.cell? ⟨w1.heap.size, 0, none⟩ = some (.slice qb (imM [0]).bs.length db) ∧ W'.cell? ⟨w1.heap.size, 1, none⟩ = some (.slice qk (imM [0]).ks.length dk) ∧ W'.cell? ⟨w1.heap.size, 2, none⟩ = some (.slice qs (imM [0]).si.length ds) ∧ W'.cell? ⟨w1.heap.size, 3, none⟩ = some (.slice qu (imM [0]).un.length du) ∧ Below w4.heap.size w4 W')) := by
    intro W W' ⟨h0, h1, h2, h3, hB⟩ hb
    exact ⟨(hb.cell (cell_lt h0)).trans h0, (hb.cell (cell_lt h1)).trans h1, (hb.cell (cell_lt h2)).trans h2, (hb.cell (cell_lt h3)).trans h3, below_step hB hb⟩
  have hI0 : Below w4.heap.size w4 w4.drew := below_draws (Below.refl _ _) 1
  have t1 : ((1 : Int) == 1) = true := rfl
  go_region_held3 (fun W => (W.cell? ⟨w1.heap.size, 0, none⟩ = some (.slice qb (imM [0]).bs.length db) ∧ W.cell? ⟨w1.heap.size, 1, none⟩ = some (.slice qk (imM [0]).ks.length dk) ∧ W.cell? ⟨w1.heap.size, 2, none⟩ = some (.slice qs (imM [0]).si.length ds) ∧ W.cell? ⟨w1.heap.size, 3, none⟩ = some (.slice qu (imM [0]).un.length du) ∧ Below w4.heap.size w4 W))
    (first | assumption | (exact HSK.out _ _ (by assumption) (new_alloc _ _)) | (exact HSK.out _ _ (by assumption) (below_draws (below_self _) _)) | (refine ⟨?_, ?_, ?_, ?_, ?_⟩ <;> assumption) | go_keep)
    (first
      | (go_at_call 7; refine (HSX.out _).mono ?_; rintro e w7 ⟨p7, rfl, ho7, hr7, hb7⟩; have hk7 := HSK.out _ _ (by assumption) hb7; clear ho7)
      | (go_at_call 9; refine (HVW.out _ _ (HI5.out _ (And.right (And.right (And.right (And.right (by assumption)))))) (by first | exact hr7 | exact hr7.below (new_alloc _ _))).mono ?_; rintro e w9 ⟨v9, rfl, ho9, hb9⟩; have hk9 := HSK.out _ _ (by assumption) hb9; obtain ⟨p9, c9, rfl, -, -, hr9⟩ := ho9.row; clear ho9)
      | (go_at_call 12; refine (HOU.out _ _ (by first | exact hr7 | exact hr7.below (new_alloc _ _))).mono ?_; rintro e wo ⟨vo, rfl, hoo, hbo⟩; have hko := HSK.out _ _ (by assumption) hbo; obtain ⟨po, co, rfl, -, -, hro⟩ := hoo.row; clear hoo)
      | (go_at_call 19; refine (HSP.out _ _ _ _ _ (by first | exact hro | exact hro.below (new_alloc _ _)) (by first | exact HLP.out _ _ (by simp) | exact (HLP.out _ _ (by simp)).below hbo | exact ((HLP.out _ _ (by simp)).below hb7).below hbo | exact ((HLP.out _ _ (by simp)).drew.below hb7).below hbo)).mono ?_; rintro e wl ⟨rfl, ml, rfl⟩; have hkl := HSK.out _ _ (by assumption) (below_draws (below_self _) ml))
      | (go_at_call 8; refine (HSV.out _ _ _ _ _ (by first | exact hr9 | exact hr9.below (new_alloc _ _)) (by first | exact HLV.out _ _ (by simp) | exact (HLV.out _ _ (by simp)).below hb9 | exact ((HLV.out _ _ (by simp)).below hb7).below hb9 | exact ((HLV.out _ _ (by simp)).drew.below hb7).below hb9)).mono ?_; rintro e w8 ⟨rfl, m8, rfl⟩; have hk8 := HSK.out _ _ (by assumption) (below_draws (below_self _) m8)))
  all_goals
    have hBZ := below_step HB4.out (And.right (And.right (And.right (And.right hkl))))
    go_wp2_with fail
    go_ret
    exact ⟨rfl, hBZ⟩
end Go.Proofs.YtgblohjdiheemaaGreat
