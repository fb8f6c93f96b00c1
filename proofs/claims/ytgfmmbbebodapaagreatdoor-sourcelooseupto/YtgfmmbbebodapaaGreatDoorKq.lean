/- Texts put together: Par1, Parse. -/
import Derived.Test.YtgfmmbbebodapaaGreatDoorKo
import Derived.Test.YtgfmmbbebodapaaGreatDoorKp

/- How memory lies in source.Parse. -/
namespace Go.Proofs.YtgfmmbbebodapaaGreatDoor
open Go.RowKit

def fault0 : Array Value := #[.int .i64 0, .int .i64 0, .int .i64 0]
def faultC (f : Int × Nat × Nat) : Array Value := #[.int .i64 f.1, .int .i64 f.2.1, .int .i64 f.2.2]
def lnV (ln : List Nat) : List Value := ln.map fun (n : Nat) => Value.int .i64 (n : Int)
theorem Tryz.und37 : ∃ d, Tryz.prog.underlying 37 = some d ∧ d.isRow = true := ⟨_, Tryz.underlying37, rfl⟩
theorem Tryz.sz37 : (Tryz.prog.info? 37).map (·.size) = some 3 := by kernel_rfl
theorem load37 {w : World} {g : Nat} {c : Array Value} (h : Blk w g 37 c) (hs : c.size = 3) : (loadVar 37 ⟨g, 0, none⟩).run Tryz.prog w = .ok (.agg c) w := by
  obtain ⟨d, hu, hd⟩ := Tryz.und37
  exact h.load 37 d hu hd (by rw [hs]; exact Tryz.sz37)
/-- rows of unlike elements lie apart -/
theorem row_apart {w : World} {T T' : TypeId} {B B' : Nat} {d v : Value} {vs : List Value} {z n : Nat} {xs : List Value} (h : GOwnV T w B d vs) (h' : w.ownsRow B' T' z v n xs) (hne : T ≠ T') : d = .slice none 0 0 ∨ d.ownBlock ≠ v.ownBlock := by
  rcases h.block with e | ⟨g', cur', e1, _, e3⟩
  · exact .inl e
  · refine .inr ?_
    rcases h'.2 with ⟨e, _⟩ | ⟨g2, cap2, cur2, e, _, e5, _⟩
    · rw [e1, e]; simp [Value.ownBlock]
    · rw [e1, e]
      simp only [Value.ownBlock]
      intro ee; injection ee with ee; subst ee
      rw [e3] at e5
      simp at e5
      exact hne e5.2
/-- the variables of Parse: r the fault's block, vt the lines, v the items, vl their lines' numbers -/
structure QSt (w0 W : World) (r : Nat) (vt v vl : Value) (ts : List (List UInt8)) (L : List (Src × Value)) (ln : List Nat) : Prop where
  res : Blk W r 37 fault0
  txt : GOwnV 9 W (r + 1) vt (strs (texts ts))
  itm : IOwn W (r + 1) v L
  lns : GOwnV 3 W (r + 1) vl (lnV ln)
  env : Env W
  low : Below r w0 W
  r5 : 5 < r
theorem QSt.grow {w0 W W' : World} {r : Nat} {vt v vl : Value} {ts : List (List UInt8)} {L : List (Src × Value)} {ln : List Nat} (h : QSt w0 W r vt v vl ts L ln) (hb : Below W.heap.size W W') : QSt w0 W' r vt v vl ts L ln :=
  ⟨h.res.grow hb, h.txt.below hb, h.itm.below hb, h.lns.below hb, h.env.below hb, h.low.trans (hb.mono (Nat.le_of_lt h.res.lt)), h.r5⟩
theorem QSt.push {w0 W W' : World} {r : Nat} {vt v v' vl : Value} {ts : List (List UInt8)} {L L' : List (Src × Value)} {ln : List Nat} (h : QSt w0 W r vt v vl ts L ln) (hI : IOwn W' (r + 1) v' L') (hg : W.grownBy W' v.ownBlock) (hb : Below (r + 1) W W') : QSt w0 W' r vt v' vl ts L' ln where
  res := h.res.below hb (Nat.lt_succ_self _)
  txt := h.txt.grownOther hg (row_apart h.txt h.itm.row (by decide))
  itm := hI
  lns := h.lns.grownOther hg (row_apart h.lns h.itm.row (by decide))
  env := h.env.keep hb (by have := h.r5; omega)
  low := h.low.trans (hb.mono (Nat.le_succ _))
  r5 := h.r5
theorem QSt.pushLn {w0 W W' : World} {r : Nat} {vt v vl vl' : Value} {ts : List (List UInt8)} {L : List (Src × Value)} {ln ln' : List Nat} (h : QSt w0 W r vt v vl ts L ln) (hL : GOwnV 3 W' (r + 1) vl' (lnV ln')) (hg : W.grownBy W' vl.ownBlock) (hb : Below (r + 1) W W') : QSt w0 W' r vt v vl' ts L ln' where
  res := h.res.below hb (Nat.lt_succ_self _)
  txt := h.txt.grownOther hg (GOwnV.apart (by decide) h.txt h.lns)
  itm := ⟨by
      refine World.ownsRow.kept h.itm.row hg ?_
      rcases row_apart h.lns h.itm.row (by decide) with e | e
      · rw [e]
        rcases h.itm.row.2 with ⟨e2, _⟩ | ⟨g, cap, cur, e2, _⟩
        · rw [e2]; exact .inl rfl
        · rw [e2]; exact .inr (by simp [Value.ownBlock])
      · exact .inr e.symm, fun q hq => (h.itm.dat q hq).grownOther hg (GOwnV.apart (by decide) (h.itm.dat q hq) h.lns)⟩
  lns := hL
  env := h.env.keep hb (by have := h.r5; omega)
  low := h.low.trans (hb.mono (Nat.le_succ _))
  r5 := h.r5

/-- the lines in their order: a fault, or the items and their lines -/
def goP (i : Nat) (acc : List Src) (ln : List Nat) : List (List UInt8) → (Int × Nat × Nat) ⊕ (List Src × List Nat)
  | [] => .inr (acc, ln)
  | l :: ls => if (lineL l).2.2.1 = 0 then
      (if (lineL l).2.1 = true then (if acc.length = 4096 then .inl (3, i + 1, 1) else goP (i + 1) (acc ++ [(lineL l).1]) (ln ++ [i + 1]) ls) else goP (i + 1) acc ln ls)
    else .inl ((lineL l).2.2.1, i + 1, (lineL l).2.2.2)
def parseL (l : List UInt8) : List Src × (Int × Nat × Nat) :=
  if 65536 < l.length then ([], (3, 0, 0)) else match goP 0 [] [] (linesL l) with
    | .inl f => ([], f)
    | .inr (xs, ln) => if (checkL xs).1 = 0 then (xs, (0, 0, 0)) else ([], ((checkL xs).1, ln.getD (checkL xs).2 0, 1))
theorem goP_step (acc : List Src) (ln : List Nat) (ts : List (List UInt8)) (k : Nat) (h : k < ts.length) : goP k acc ln (ts.drop k) =
    if (lineL ts[k]).2.2.1 = 0 then
      (if (lineL ts[k]).2.1 = true then (if acc.length = 4096 then .inl (3, k + 1, 1) else goP (k + 1) (acc ++ [(lineL ts[k]).1]) (ln ++ [k + 1]) (ts.drop (k + 1))) else goP (k + 1) acc ln (ts.drop (k + 1)))
    else .inl ((lineL ts[k]).2.2.1, k + 1, (lineL ts[k]).2.2.2) := by
  rw [List.drop_eq_getElem_cons h]; rfl
theorem chk_idx (xs : List Src) : ∀ i, (chkAt i xs).1 ≠ 0 → i ≤ (chkAt i xs).2 ∧ (chkAt i xs).2 < i + xs.length := by
  induction xs with
  | nil => intro i h; simp [chkAt] at h
  | cons y ys ih =>
    intro i h
    simp only [chkAt] at h ⊢
    split
    · simp
    rename_i h1
    rw [if_neg h1] at h
    split
    · simp
    rename_i h2
    rw [if_neg h2] at h
    have := ih (i + 1) h
    simp only [List.length_cons]
    omega

end Go.Proofs.YtgfmmbbebodapaaGreatDoor

/- What source.Parse answers, for every text. -/
namespace Go.Proofs.YtgfmmbbebodapaaGreatDoor
open Go.RowKit

theorem linesL_fit (l : List UInt8) : ∀ x ∈ linesL l, x.length ≤ l.length := by
  induction l with
  | nil => intro x hx; simp [linesL] at hx
  | cons c cs ih =>
    intro x hx
    simp only [linesL] at hx
    split at hx
    · rcases List.mem_cons.1 hx with rfl | hx
      · simp
      · have := ih x hx; simp; omega
    · split at hx
      · rw [List.mem_singleton] at hx; rw [hx]; simp
      · rename_i l ls hl
        rcases List.mem_cons.1 hx with rfl | hx
        · have := ih l (by rw [hl]; simp); simp; omega
        · have := ih x (by rw [hl]; simp [hx]); simp; omega
theorem texts_l (ts : List (List UInt8)) : (strs (texts ts)).length = ts.length := by simp [texts]
theorem build9 (x : Src) (d : Value) : Array.foldl (fun cs x => cs.setIfInBounds x.snd x.fst) #[Value.int IntKind.u8 0, Value.string { data := #[] }, Value.string { data := #[] }, Value.int IntKind.u8 0, Value.int IntKind.u8 0, Value.int IntKind.u8 0, Value.int IntKind.i32 0, Value.int IntKind.i64 0, Value.slice none 0 0] (cellsOf x d).zipIdx 0 (cellsOf x d).size = cellsOf x d := by
  simp [cellsOf]
theorem build9b (x : Src) (d : Value) : Array.foldl (fun cs x => cs.setIfInBounds x.snd x.fst) #[Value.int IntKind.u8 0, Value.string { data := #[] }, Value.string { data := #[] }, Value.int IntKind.u8 0, Value.int IntKind.u8 0, Value.int IntKind.u8 0, Value.int IntKind.i32 0, Value.int IntKind.i64 0, Value.slice none 0 0] (cellsOf x d).zipIdx 0 9 = cellsOf x d := by
  simp [cellsOf]
theorem set3 {w : World} {g : Nat} {c : Array Value} (hc : c.size = 3) (h : Blk w g 37 c) (f : Int × Nat × Nat) :
    ∃ w4, (((w.setCell ⟨g, 0, none⟩ (.int .i64 f.1)).setCell ⟨g, 1, none⟩ (.int .i64 f.2.1)).setCell ⟨g, 2, none⟩ (.int .i64 f.2.2)) = w4 ∧ Blk w4 g 37 (faultC f) ∧ w.grownBy w4 (some g) :=
  ⟨_, rfl, h.setAll (faultC f) (by rw [hc]; rfl), grown_setCells g (faultC f).toList 0 w⟩
theorem lnV_snoc (ln : List Nat) (k : Nat) : lnV (ln ++ [k]) = lnV ln ++ [.int .i64 (k : Int)] := by simp [lnV]
theorem lnV_at (ln : List Nat) (k : Nat) (h : k < ln.length) : (lnV ln)[k]? = some (.int .i64 ((ln.getD k 0 : Nat) : Int)) := by simp [lnV, h]
theorem IOwn.lower {w : World} {B B' : Nat} {v : Value} {L : List (Src × Value)} (h : IOwn w B v L) (hB : B' ≤ B) : IOwn w B' v L := by
  refine ⟨?_, fun q hq => (h.dat q hq).lowerV hB⟩
  obtain ⟨h0, h1⟩ := h.row
  refine ⟨h0, h1.imp id ?_⟩
  rintro ⟨g, cap, cur, e1, e2, e3⟩
  exact ⟨g, cap, cur, e1, Nat.le_trans hB e2, e3⟩
/-- what Parse answers -/
def ParseIs (r : List Src × (Int × Nat × Nat)) (w : World) (E : Ending) (w' : World) : Prop :=
  ∃ v L, E = .returned (.tuple #[v, .agg (faultC r.2)]) ∧ L.map Prod.fst = r.1 ∧ IOwn w' w.heap.size v L ∧ (∀ q ∈ L, Fit q.1) ∧ Below w.heap.size w w'
theorem ParseIs.none {f : Int × Nat × Nat} {w w' : World} (hb : Below w.heap.size w w') : ParseIs ([], f) w (.returned (.tuple #[nilV, .agg (faultC f)])) w' := ⟨nilV, [], rfl, rfl, IOwn.nil _ _, fun q hq => by simp at hq, hb⟩
theorem fault_one (f : Int × Nat × Nat) : (faultC f).all (·.oneCell') = true := by simp [faultC, Value.oneCell']

set_option maxRecDepth 20000 in
set_option maxHeartbeats 1000000 in
theorem parse_long (s : ByteArray) (w : World) (hs : 65536 < s.size) (hm : s.size ≤ 9223372036854775807) : Calls Tryz.prog 12 #[.string s] w (ParseIs ([], (3, 0, 0)) w) := by
  have HB := Hid.in (Blk.new w 37 (faultC (3, 0, 0)))
  have HW := Hid.in (new_alloc w (.cells (faultC (3, 0, 0)) 37))
  go_enter Tryz.func12, Tryz.ntmps12
  go_wp2_with (refine step_store_new rfl 37 (.tmp 3) (.tmp 17) rfl rfl rfl (faultC (3, 0, 0)) rfl Tryz.sz37 rfl (fault_one _) ?_)
  have hld := load37 HB.out rfl
  exact bodyPost_ret (v := .tuple #[nilV, .agg (faultC (3, 0, 0))]) (by simp [results, Tryz.results12, asAddr, hld]) rfl (ParseIs.none HW.out)

set_option maxRecDepth 100000 in
set_option maxHeartbeats 1000000 in
theorem parse_short (s : ByteArray) (w : World) (he : Env w) (hs : ¬ 65536 < s.size) : Calls Tryz.prog 12 #[.string s] w (ParseIs (parseL s.data.toList) w) := by
  have hsz := Lib.size_eq s
  have hL := fun W => lines_any s W (by omega)
  have hfitL := linesL_fit s.data.toList
  have hcnt := linesL_length s.data.toList
  have HPL : Hid (parseL s.data.toList = match goP 0 [] [] (linesL s.data.toList) with
    | .inl f => ([], f)
    | .inr (xs, ln) => if (checkL xs).1 = 0 then (xs, (0, 0, 0)) else ([], ((checkL xs).1, ln.getD (checkL xs).2 0, 1))) := by
    have : parseL s.data.toList = _ := if_neg (by rw [← hsz]; exact hs)
    exact this
  rw [← hsz] at hfitL hcnt
  clear hsz
  generalize parseL s.data.toList = R at *
  generalize linesL s.data.toList = ts at *
  have hE1 := Hid.in (he.below (new_alloc w (.cells fault0 37)))
  have h5 := he.lt
  go_enter Tryz.func12, Tryz.ntmps12
  go_wp2_with (go_at_call 35; refine (hL _).mono ?_; rintro E w1 ⟨vt, rfl, hvt, hb1⟩; have HQ : Hid (QSt w w1 w.heap.size vt nilV nilV ts [] []) := ⟨(Blk.new w 37 fault0).grow hb1, by rw [size_one] at hvt; exact hvt, IOwn.nil _ _, GOwnV.nil _ _ _, hE1.out.below hb1, below_step (new_alloc w (.cells fault0 37)) hb1, h5⟩; obtain ⟨pt, ct, hpt0, -, -, -⟩ := hvt.slice; rw [texts_l] at hpt0; subst hpt0; clear hvt hb1)
  have hsm : s.size ≤ 65536 := by omega
  clear hs
  generalize decide ((65536 : Int) < (s.size : Int)) = bb
  clear hL hE1 he h5
  go_loopw [4, 5, 21] (fun v vl i wr => ∃ (k : Nat) (L : List (Src × Value)) (ln : List Nat), k ≤ ts.length ∧ i = .int .i64 k ∧ QSt w wr w.heap.size (.slice pt ts.length ct) v vl ts L ln ∧ goP 0 [] [] ts = goP k (L.map Prod.fst) ln (ts.drop k) ∧ L.length = ln.length ∧ L.length ≤ 4096 ∧ ∀ q ∈ L, Fit q.1) (fun _ _ i _ => ts.length - (intOf i).toNat)
  case atStart => exact ⟨0, [], [], Nat.zero_le _, rfl, HQ.out, rfl, rfl, by simp, fun q hq => by simp at hq⟩
  case round =>
    obtain ⟨k, L, ln, hk, rfl, hQ, hgo, hll, hl4, hfq⟩ := hrel
    have HGO := Hid.in hgo
    have HQK := Hid.in hQ
    have HFQ := Hid.in hfq
    have HLL := Hid.in hll
    obtain ⟨pv, cv, hv, hcv1, hcv2, -⟩ := hQ.itm.shape
    subst hv
    clear hgo hQ hfq hll
    by_cases hlt : k < ts.length
    · obtain ⟨pt', ct', ept, hrow, -, -⟩ := HQK.out.txt.slice
      injection ept with ept e2 e3
      clear e2 e3
      obtain ⟨tb, to', hpt, hcc⟩ := hrow (by rw [texts_l]; omega)
      have hpt2 := ept.trans hpt
      clear ept hpt hrow
      subst hpt2
      have hck : wr.cell? ⟨tb, to' + k, none⟩ = some (.string (bytesOf ts[k])) := by
        rw [hcc k (by rw [texts_l]; omega)]; simp [texts, hlt]
      clear hcc
      have hlk := hfitL ts[k] (List.getElem_mem hlt)
      have hLn := line_any (bytesOf ts[k]) wr HQK.out.env.vars (by rw [bytesOf_size]; omega)
      rw [bytesOf_list] at hLn
      have hfy := lineL_fit ts[k] (by omega)
      have HST := Hid.in (goP_step (L.map Prod.fst) ln ts k hlt)
      generalize lineL ts[k] = r0 at *
      obtain ⟨y, ok, er, col⟩ := r0
      simp only at hfy
      have hrs := HQK.out.res.lt
      generalize bytesOf ts[k] = tk at *
      go_wp2_with (first
        | (go_at_call 8; refine hLn.mono ?_; rintro E w5 ⟨d, rfl, hd, hb5⟩; obtain ⟨qd, cd, rfl, -⟩ := hd.rowB; have HQ5 := Hid.in (HQK.out.grow hb5); have HD5 := Hid.in (hd.lowerV (B' := w.heap.size + 1) hrs); clear hd hb5; unfold LineV; dsimp only)
        | (refine step_store_new rfl 28 (.tmp 8) (.tmp 29) rfl rfl rfl (cellsOf y (.slice qd y.d.length cd)) rfl Tryz.sz28 rfl (cells_one _ _ _ _) ?_; have HQ6 := Hid.in (HQ5.out.grow (new_alloc w5 (.cells (cellsOf y (.slice qd y.d.length cd)) 28))); have HX6 := Hid.in (Blk.new w5 28 (cellsOf y (.slice qd y.d.length cd))); have HD6 := Hid.in (HD5.out.alloc (.cells (cellsOf y (.slice qd y.d.length cd)) 28)); generalize w5.alloc (.cells (cellsOf y (.slice qd y.d.length cd)) 28) = w6 at *; refine Hid.out ?_))
      refine Lib.hid ?_
      clear hLn HQ5 HD5 HQK
      by_cases her : er = 0
      · subst her
        cases ok with
        | false =>
          go_wp2
          go_roundw
          case rel => exact ⟨k + 1, L, ln, by omega, by go_num, HQ6.out, by rw [HGO.out, HST.out, if_pos rfl, if_neg (by simp)], HLL.out, hl4, HFQ.out⟩
          case measure => simp [intOf]; omega
        | true =>
          by_cases h4096 : L.length = 4096
          · have HRR : Hid (R = ([], (3, k + 1, 1))) := by
              have : R = _ := HPL.out
              rw [this, HGO.out, HST.out, if_pos rfl, if_pos rfl, if_pos (by rw [List.length_map]; exact h4096)]; exact rfl
            go_wp2_with (refine step_store_blk HQ6.out.res rfl 37 (.tmp 3) (.tmp 47) rfl rfl rfl (faultC (3, k + 1, 1)) rfl Tryz.sz37 rfl (fault_one _) ?_; intro w7 hB7 hg7; refine Hid.out ?_)
            refine Lib.hid ?_
            have hld := load37 hB7 rfl
            go_wp2
            rw [HRR.out]
            exact bodyPost_ret (v := .tuple #[nilV, .agg (faultC (3, k + 1, 1))]) (by simp [results, Tryz.results12, asAddr, hld]) rfl (ParseIs.none (HQ6.out.low.trans (below_grown hg7 (Nat.le_refl _) (Nat.le_of_lt HQ6.out.res.lt))))
          · obtain ⟨pl, cl, hvl, -, -, -⟩ := HQ6.out.lns.slice
            have hll2 : (lnV ln).length = ln.length := List.length_map _
            rw [hll2] at hvl
            subst hvl
            have HL2 := Hid.in hll2
            clear hll2
            have hln4 : ln.length ≤ 4096 := by rw [← HLL.out]; exact hl4
            have hrs6 := HQ6.out.res.lt
            have HNX : Hid (goP 0 [] [] ts = goP (k + 1) ((L ++ [(y, Value.slice qd y.d.length cd)]).map Prod.fst) (ln ++ [k + 1]) (ts.drop (k + 1))) := by
              have : goP 0 [] [] ts = _ := HGO.out
              rw [this, HST.out, if_pos rfl, if_pos rfl, if_neg (by rw [List.length_map]; exact h4096), List.map_append]; exact rfl
            have hc9 : (cellsOf y (.slice qd y.d.length cd)).size = 9 := rfl
            go_wp2_with (first
              | (refine step_load_blk HX6.out rfl 28 (.tmp 8) rfl rfl (cellsOf y (.slice qd y.d.length cd)) (List.prefix_refl _) _ Tryz.underlying28 rfl Tryz.sz28 ?_)
              | (at_builtin; refine Hid.out ?_))
            all_goals refine Lib.hid ?_
            all_goals first | rw [build9] | rw [build9b]
            all_goals refine gpush9 _ rfl _ _ rfl (w.heap.size + 1) _ L rfl (HQ6.out.grow (new_alloc w6 _)).itm w6.heap.size y qd y.d.length cd rfl (Blk.new w6 28 _) (HD6.out.alloc _) (by omega) (by simp; omega) ?_
            all_goals intro v' w7 hI7 hg7 hb7
            all_goals obtain ⟨p7, c7, hv7, -, -, -⟩ := hI7.shape
            all_goals have HQ7 := Hid.in ((HQ6.out.grow (new_alloc w6 (.cells (cellsOf y (.slice qd y.d.length cd)) 28))).push hI7 hg7 (hb7 _ (Below.refl _ _)))
            all_goals have hr7 := HQ7.out.res.lt
            all_goals rw [List.length_append, List.length_singleton] at hv7
            all_goals subst hv7
            all_goals clear hI7 hg7 hb7
            all_goals go_wp2_with (at_builtin; refine gpush Tryz.elemI _ rfl _ _ rfl (w.heap.size + 1) _ (lnV ln) rfl (HQ7.out.lns.alloc _) ⟨w7.heap.size, 0, none⟩ 1 1 [.int .i64 ((k : Int) + 1)] rfl rfl (cell_one_new _ _ _) (by simp [Value.oneCell']) (by rw [HL2.out]; omega) (by rw [HL2.out]; omega) (by simp; omega) ?_; intro vl' w8 hown8 hg8 hbel8 _hnil8; refine Hid.out ?_)
            all_goals refine Lib.hid ?_
            all_goals have HQ8 : Hid (QSt w w8 w.heap.size (.slice (some ⟨tb, to', none⟩) ts.length ct) (.slice p7 (L.length + 1) c7) vl' ts (L ++ [(y, .slice qd y.d.length cd)]) (ln ++ [k + 1])) := (HQ7.out.grow (new_alloc w7 _)).pushLn (by rw [lnV_snoc]; exact hown8) hg8 (hbel8 _ (Below.refl _ _))
            all_goals clear hown8 hg8 hbel8
            all_goals go_wp2
            all_goals go_roundw
            all_goals first
              | (simp [intOf]; omega)
              | exact ⟨k + 1, L ++ [(y, .slice qd y.d.length cd)], ln ++ [k + 1], by omega, by go_num, HQ8.out, HNX.out, by rw [List.length_append, List.length_append, HLL.out]; rfl, by rw [List.length_append, List.length_singleton]; omega, fun q hq => by
                  rcases List.mem_append.1 hq with hq | hq
                  · exact HFQ.out q hq
                  · rw [List.mem_singleton] at hq; subst hq; exact hfy⟩
      · have HRR : Hid (R = ([], (er, k + 1, col))) := by
          have : R = _ := HPL.out
          rw [this, HGO.out, HST.out, if_neg her]; exact rfl
        go_wp2_with (refine step_store_blk HQ6.out.res rfl 37 (.tmp 3) (.tmp 39) rfl rfl rfl (faultC (er, k + 1, col)) rfl Tryz.sz37 rfl (fault_one _) ?_; intro w7 hB7 hg7; refine Hid.out ?_)
        refine Lib.hid ?_
        have hld := load37 hB7 rfl
        go_wp2
        rw [HRR.out]
        exact bodyPost_ret (v := .tuple #[nilV, .agg (faultC (er, k + 1, col))]) (by simp [results, Tryz.results12, asAddr, hld]) rfl (ParseIs.none (HQ6.out.low.trans (below_grown hg7 (Nat.le_refl _) (Nat.le_of_lt HQ6.out.res.lt))))
    · have hkn : ts.drop k = [] := List.drop_eq_nil_of_le (by omega)
      have HRE : Hid (R = if (checkL (L.map Prod.fst)).1 = 0 then (L.map Prod.fst, (0, 0, 0)) else ([], ((checkL (L.map Prod.fst)).1, ln.getD (checkL (L.map Prod.fst)).2 0, 1))) := by
        have : R = _ := HPL.out
        rw [this, HGO.out, hkn]; exact rfl
      have hml : (L.map Prod.fst).length = L.length := List.length_map _
      have hC := check_any pv L.length cv (L.map Prod.fst) wr HQK.out.env hml hcv1 (by unfold maxLen at hcv2; omega) (HQK.out.itm.items HFQ.out rfl)
      have HIX : Hid ((checkL (L.map Prod.fst)).1 ≠ 0 → (checkL (L.map Prod.fst)).2 < ln.length) := fun h => by
        have h2 : ¬ 4096 < (L.map Prod.fst).length := by rw [hml]; omega
        unfold checkL at h ⊢
        rw [if_neg h2] at h ⊢
        have := chk_idx (L.map Prod.fst) 0 h
        rw [hml, HLL.out] at this
        omega
      generalize checkL (L.map Prod.fst) = ck at *
      obtain ⟨ce, ci⟩ := ck
      simp only at hC
      clear hml hkn
      by_cases hce : ce = 0
      · subst hce
        have HRR : Hid (R = (L.map Prod.fst, (0, 0, 0))) := by
          have : R = _ := HRE.out
          rw [this]; exact rfl
        go_wp2_with (first
          | (go_at_call 16; refine hC.mono ?_; rintro E w5 ⟨rfl, hb5⟩; have HQ5 := Hid.in (HQK.out.grow hb5); clear hb5)
          | (refine step_store_blk HQ5.out.res rfl 37 (.tmp 3) (.tmp 72) rfl rfl rfl (faultC (0, 0, 0)) rfl Tryz.sz37 rfl (fault_one _) ?_; intro w7 hB7 hg7; refine Hid.out ?_))
        refine Lib.hid ?_
        have hld := load37 hB7 rfl
        have HI7 : Hid (IOwn w7 w.heap.size (.slice pv L.length cv) L) := by
          have h5 := HQ5.out.itm
          have : IOwn w7 (w.heap.size + 1) (.slice pv L.length cv) L := ⟨by
            refine World.ownsRow.kept h5.row hg7 ?_
            rcases h5.row.2 with ⟨e, _⟩ | ⟨g, c', cur, e, e2, _⟩
            · rw [e]; exact .inl rfl
            · rw [e]; refine .inr ?_; simp only [Value.ownBlock]; intro ee; injection ee with ee; omega, fun q hq => (h5.dat q hq).grownOther hg7 (.inr ((h5.dat q hq).not_low (Nat.lt_succ_self _)).symm)⟩
          exact this.lower (Nat.le_succ _)
        go_wp2
        rw [HRR.out]
        exact bodyPost_ret (v := .tuple #[.slice pv L.length cv, .agg (faultC (0, 0, 0))]) (by simp [results, Tryz.results12, asAddr, hld]) rfl ⟨_, L, rfl, rfl, HI7.out, HFQ.out, HQ5.out.low.trans (below_grown hg7 (Nat.le_refl _) (Nat.le_of_lt HQ5.out.res.lt))⟩
      · have hix := HIX.out hce
        have HRR : Hid (R = ([], (ce, ln.getD ci 0, 1))) := by
          have : R = _ := HRE.out
          rw [this, if_neg hce]; exact rfl
        rcases HQK.out.lns.shape with ⟨_, en⟩ | ⟨g, cap, hvl, ho⟩
        · have := congrArg List.length en
          rw [show (lnV ln).length = ln.length from List.length_map _] at this
          rw [List.length_nil] at this; omega
        rw [show (lnV ln).length = ln.length from List.length_map _] at hvl
        subst hvl
        have hgr := ho.base
        have HOC := Hid.in ((ho.cell ci (by rw [show (lnV ln).length = ln.length from List.length_map _]; exact hix)).trans (lnV_at ln ci hix))
        have hgl := ho.lt
        have hlnv := HLL.out
        generalize ln.getD ci 0 = lv at *
        clear ho HRE HIX
        have HLL2 := Hid.in hlnv
        have hl0 : ln.length ≤ 4096 := by omega
        clear hlnv
        go_wp2_with (go_at_call 16; refine hC.mono ?_; rintro E w5 ⟨rfl, hb5⟩; have HQ5 := Hid.in (HQK.out.grow hb5); have hcl := (hb5.cell (p := ⟨g, ci, none⟩) hgl).trans HOC.out; clear hb5)
        have c0 : w5.cell? ⟨w.heap.size, 0, none⟩ = some (.int .i64 0) := HQ5.out.res.cell 0
        have c1 : w5.cell? ⟨w.heap.size, 1, none⟩ = some (.int .i64 0) := HQ5.out.res.cell 1
        have c2 : w5.cell? ⟨w.heap.size, 2, none⟩ = some (.int .i64 0) := HQ5.out.res.cell 2
        have z0 := HQ5.out.res.free 0
        have z1 := HQ5.out.res.free 1
        have z2 := HQ5.out.res.free 2
        have hne : ¬ g = w.heap.size := by omega
        have hne' : ¬ w.heap.size = g := by omega
        go_region
        all_goals
          go_wp2
          obtain ⟨w6, he6, hB6, hg6⟩ := set3 rfl HQ5.out.res (ce, lv, 1)
          have he7 : (((w5.setCell ⟨w.heap.size, 0, none⟩ (.int .i64 ce)).setCell ⟨w.heap.size, 1, none⟩ (.int .i64 (lv : Int))).setCell ⟨w.heap.size, 2, none⟩ (.int .i64 1)) = w6 := he6
          rw [he7]
          have hld := load37 (w := w6.drew) hB6 rfl
          rw [HRR.out]
          exact bodyPost_ret (v := .tuple #[nilV, .agg (faultC (ce, lv, 1))]) (by simp [results, Tryz.results12, asAddr, hld]) rfl (ParseIs.none (below_draws (HQ5.out.low.trans (below_grown hg6 (Nat.le_refl _) (Nat.le_of_lt HQ5.out.res.lt))) 1))

theorem parse_any (s : ByteArray) (w : World) (he : Env w) (hm : s.size ≤ 9223372036854775807) : Calls Tryz.prog 12 #[.string s] w (ParseIs (parseL s.data.toList) w) := by
  by_cases h : 65536 < s.size
  · have hp : parseL s.data.toList = ([], (3, 0, 0)) := if_pos (by rw [← Lib.size_eq]; exact h)
    rw [hp]
    exact parse_long s w h hm
  · exact parse_short s w he h

end Go.Proofs.YtgfmmbbebodapaaGreatDoor
