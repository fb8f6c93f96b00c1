/- insert, All, Add. -/
import Derived.Test.YtekggimgobeggaaBatC
namespace Go.Proofs.Ytekggimgobeggaa
open Go.RowKit Go.Sort

theorem ins_cells (s : Si) : ∀ (L : List Si) (i : Nat), L.length < 4 → i ≤ L.length → (splice (splice (batL L) (2 + (i + 1) * 3) (siR (L.drop i))) (2 + i * 3) (siC s)).set 1 (.int .i64 ((L.length : Int) + 1)) = batL (L.take i ++ s :: L.drop i)
  | [], i, _, h => by
    obtain rfl : i = 0 := by simpa using h
    rfl
  | [a], i, _, h => by
    rcases (by simp at h; omega : i = 0 ∨ i = 1) with rfl | rfl <;> rfl
  | [a, b], i, _, h => by
    rcases (by simp at h; omega : i = 0 ∨ i = 1 ∨ i = 2) with rfl | rfl | rfl <;> rfl
  | [a, b, c], i, _, h => by
    rcases (by simp at h; omega : i = 0 ∨ i = 1 ∨ i = 2 ∨ i = 3) with rfl | rfl | rfl | rfl <;> rfl
  | _ :: _ :: _ :: _ :: _, i, h, _ => by simp at h; omega
theorem ins_one (s : Si) (L : List Si) (i : Nat) (h4 : L.length < 4) (hi : i ≤ L.length) : (splice (splice (batL L) (2 + (i + 1) * 3) (siR (L.drop i))) (2 + i * 3) (siC s))[1]? = some (.int .i64 L.length) := by
  match L, h4, hi with
  | [], _, h =>
    obtain rfl : i = 0 := by simpa using h
    rfl
  | [a], _, h => rcases (by simp at h; omega : i = 0 ∨ i = 1) with rfl | rfl <;> rfl
  | [a, b], _, h => rcases (by simp at h; omega : i = 0 ∨ i = 1 ∨ i = 2) with rfl | rfl | rfl <;> rfl
  | [a, b, c], _, h => rcases (by simp at h; omega : i = 0 ∨ i = 1 ∨ i = 2 ∨ i = 3) with rfl | rfl | rfl | rfl <;> rfl
  | _ :: _ :: _ :: _ :: _, h, _ => simp at h; omega
theorem bat_drop {w : World} {q : Nat} {L : List Si} (h : Bat w q L) (i : Nat) : ∀ j v, (siR (L.drop i))[j]? = some v → w.cell? ((⟨q, 2 + i * 3, none⟩ : Addr).add j) = some v := by
  intro j v hj
  rw [Go.WideShapes.add_plain]
  have hl : j < (siR (L.drop i)).length := (List.getElem?_eq_some_iff.1 hj).1
  rw [siR_len, List.length_drop] at hl
  have e := siR_at (L.drop i) (j / 3) (by simp; omega) (j % 3) (Nat.mod_lt _ (by decide))
  rw [show j / 3 * 3 + j % 3 = j by omega, hj] at e
  have h2 := h.at (i + j / 3) (by omega) (j % 3) (Nat.mod_lt _ (by decide))
  rw [show 2 + (i + j / 3) * 3 + j % 3 = 2 + i * 3 + j by omega] at h2
  show w.cell? ⟨q, 2 + i * 3 + j, none⟩ = _
  rw [h2]
  have e3 : (L.drop i)[j / 3]'(by simp; omega) = L[i + j / 3]'(by omega) := List.getElem_drop
  rw [← e3, ← e]
/-- a struct stored into a part of a block, in a region that draws -/
theorem step_store_part {ops : Array Oper} {o : Oper} {A : Act} {w : World} {K : Act → World → Prop} {Q : Exit → Act → World → Prop} {E : Prop} (hgd : o.guard = none) (t : TypeId) (p x : Operand) (ho : o.op = .store t p x) (hd : o.dst = none)
    {g : Nat} {T : TypeId} {c : Array Value} (hB : Blk w g T c) (off : Nat) (c' : Array Value) (hp : A.eval p = .pointer (some ⟨g, off, none⟩)) (hx : A.eval x = .agg c') (hi : (Try.prog.info? t).map (·.size) = some c'.size) (hf : off + c'.size ≤ c.size) (h1 : c'.all (·.oneCell') = true)
    (h : ∀ w', Hid (Blk w' g T (splice c.toList off c'.toList).toArray) → Hid (w.grownBy w' (some g)) → K A w') :
    if Region.wanted o (yielded ops A.tmps) = true then Oper.wp Try.prog o A w K Q else E := by
  have hw : Region.wanted o (yielded ops A.tmps) = true := by simp [Region.wanted, hgd]
  rw [if_pos hw]
  refine wp_store_mid t p x ho g off c' hp hx (hB.there off _ hf) hi h1 ?_
  rw [hd]
  exact h _ (hB.setAt off c'.toList (by simpa using hf)) (grown_setCells g _ _ _)
theorem grown_of_below {w w' : World} (h : Below w.heap.size w w') (r : Option Nat) : w.grownBy w' r := ⟨h.os, h.tape, h.output, h.size, fun k hk _ => h.block k hk⟩

set_option maxRecDepth 20000 in
set_option maxHeartbeats 1000000 in
theorem insert_any (q : Nat) (L : List Si) (i : Nat) (s : Si) (w : World) (h : Bat w q L) (h4 : L.length < 4) (hi : i ≤ L.length) :
    Calls Try.prog 93 #[.pointer (some ⟨q, 0, none⟩), .int .i64 i, .agg #[.int .i64 s.key, .int .i64 s.at_, .int .i64 s.to_]] w fun e w' => e = .returned undef ∧ Blk w' q 141 (batL (L.take i ++ s :: L.drop i)).toArray ∧ w.grownBy w' (some q) := by
  have hqw : q < w.heap.size := h.lt
  have hC := Hid.in (ins_cells s L i h4 hi)
  have hO := Hid.in (ins_one s L i h4 hi)
  have hsz : (batL L).length = 14 := batL_len h.le
  have hdl : (siR (L.drop i)).length = (L.length - i) * 3 := by rw [siR_len]; simp
  have hi4 : i < 4 := by omega
  have HS := Hid.in hsz
  have HD := Hid.in hdl
  have HB := Hid.in h
  have HLn : Hid ((splice (batL L) (2 + (i + 1) * 3) (siR (L.drop i))).length = 14) := by show _ = 14; rw [length_splice _ _ _ (by rw [hdl, hsz]; omega), hsz]
  clear h hsz hdl
  go_enter Try.func93, Try.ntmps93
  go_upto_region 1 with fail
  obtain ⟨w1, hw1⟩ : ∃ w1, w1 = w.alloc (.cells #[.int .i64 s.key, .int .i64 s.at_, .int .i64 s.to_] 48) := ⟨_, rfl⟩
  rw [← hw1]
  have HB1 : Hid (Bat w1 q L) := by rw [hw1]; exact HB.out.below (new_alloc _ _)
  have HX1 : Hid (Blk w1 w.heap.size 48 #[.int .i64 s.key, .int .i64 s.at_, .int .i64 s.to_]) := by rw [hw1]; exact Blk.new _ _ _
  have HG1 : Hid (w.grownBy w1 (some q)) := by rw [hw1]; exact grown_of_below (new_alloc _ _) _
  clear hw1
  have c1r := fun d os => cell_regrown HB1.out.c1 d os
  have hsA : ∀ W, (Instr.sliceAt 139 (.pointer (some ⟨q, 2, none⟩)) (some (.int .i64 ((i : Int) + 1))) none none).run Try.prog W = .ok (.slice (some ⟨q, if i + 1 = 4 then 2 else 2 + (i + 1) * 3, none⟩) (4 - (i + 1)) (4 - (i + 1))) W := fun W => by
    have := arr_lo q (i + 1) (by omega) W
    simpa using this
  have hsB := fun W => arr_mid q i L.length hi (by omega) W
  have HP1 : Hid (i < L.length → (if i + 1 = 4 then 2 else 2 + (i + 1) * 3) = 2 + (i + 1) * 3) := fun _ => if_neg (by omega)
  have HP2 : Hid (i < L.length → (if i = 4 then 2 else 2 + i * 3) = 2 + i * 3) := fun _ => if_neg (by omega)
  generalize (if i + 1 = 4 then 2 else 2 + (i + 1) * 3) = r1 at *
  generalize (if i = 4 then 2 else 2 + i * 3) = r2 at *
  have HM : Hid (Nat.min (L.length - i) (3 - i) = L.length - i) := Nat.min_eq_left (by omega)
  refine wp_region_noPanic ?_
  refine wp_region_sink 15 [15] 1 (by kernel_rfl) (by kernel_rfl) (by kernel_rfl) (by kernel_rfl) (by kernel_rfl) (fun _ _ _ _ _ h => h) ?_
  simp only [List.take_succ_cons, List.take_zero]
  iterate 15 (go_big_quiet_step (fail))
  refine wpQuiet_nil ?_
  rintro _ ⟨⟨dq, osq⟩, rfl⟩
  have HQ := Hid.in (below_regrown w1 dq osq)
  generalize Go.Sort.grow (redrawn w1 dq) osq = w2 at HQ ⊢
  have HB2 := Hid.in (HB1.out.below HQ.out)
  have HX2 := Hid.in (HX1.out.below HQ.out HX1.out.lt)
  have HG2 : Hid (w.grownBy w2 (some q)) := HG1.out.trans (grown_of_below HQ.out _)
  clear HB1 HX1 HG1 HQ c1r hsA hsB
  refine wpAnyG_last (i := 15) (by kernel_rfl) rfl (by kernel_rfl) (fun K hK => ?_)
  refine step_copy_sites rfl _ _ rfl HB2.out.blk (2 + (i + 1) * 3) (L.length - i) (siR (L.drop i)) (some ⟨q, r1, none⟩) (some ⟨q, r2, none⟩) (3 - i) (3 - i) (L.length - i) (4 - i) rfl rfl HM.out HD.out (fun hp => ⟨by rw [HP1.out (by omega)], ⟨q, r2, none⟩, rfl, by rw [HP2.out (by omega)]; exact bat_drop HB2.out i⟩) (by rw [HD.out, List.size_toArray, HS.out]; omega) (one_siR _) ?_
  intro w3 HB3 HG3
  refine hK.out _ _ (wpAnyG_done (by kernel_rfl) ?_ _)
  refine NoPanic.normal ?_
  go_simp
  have HX3 := Hid.in (HX2.out.kept HG3.out (fun e => by injection e with e; omega))
  have HG3' : Hid (w.grownBy w3 (some q)) := HG2.out.trans HG3.out
  clear HG3 HX2 HG2 HB2 hK
  go_upto_region 2 with fail
  have x0r := fun d os => cell_regrown (show w3.cell? ⟨w.heap.size, 0, none⟩ = some (.int .i64 s.key) by rw [HX3.out.cell]; rfl) d os
  have x1r := fun d os => cell_regrown (show w3.cell? ⟨w.heap.size, 1, none⟩ = some (.int .i64 s.at_) by rw [HX3.out.cell]; rfl) d os
  have x2r := fun d os => cell_regrown (show w3.cell? ⟨w.heap.size, 2, none⟩ = some (.int .i64 s.to_) by rw [HX3.out.cell]; rfl) d os
  refine wp_region_noPanic ?_
  refine wp_region_sink 6 [6] 1 (by kernel_rfl) (by kernel_rfl) (by kernel_rfl) (by kernel_rfl) (by kernel_rfl) (fun _ _ _ _ _ h => h) ?_
  simp only [List.take_succ_cons, List.take_zero]
  iterate 6 (go_big_quiet_step (fail))
  refine wpQuiet_nil ?_
  rintro _ ⟨⟨dq, osq⟩, rfl⟩
  have HQ := Hid.in (below_regrown w3 dq osq)
  generalize Go.Sort.grow (redrawn w3 dq) osq = w4 at HQ ⊢
  have HB4 := Hid.in (HB3.out.below HQ.out HB3.out.lt)
  have HG4 : Hid (w.grownBy w4 (some q)) := HG3'.out.trans (grown_of_below HQ.out _)
  clear HB3 HX3 HG3' HQ x0r x1r x2r
  refine wpAnyG_last (i := 6) (by kernel_rfl) rfl (by kernel_rfl) (fun K hK => ?_)
  refine step_store_part rfl _ _ _ rfl rfl HB4.out (2 + i * 3) #[.int .i64 s.key, .int .i64 s.at_, .int .i64 s.to_] rfl rfl (by kernel_rfl) (by
    rw [List.size_toArray]; refine Nat.le_trans ?_ (Nat.le_of_eq HLn.out.symm); show 2 + i * 3 + 3 ≤ 14; omega) (by kernel_rfl) ?_
  intro w5 HB5 HG5
  refine hK.out _ _ (wpAnyG_done (by kernel_rfl) ?_ _)
  refine NoPanic.normal ?_
  have HG5' : Hid (w.grownBy w5 (some q)) := HG4.out.trans HG5.out
  have HB6 : Hid (Blk w5 q 141 (splice (splice (batL L) (2 + (i + 1) * 3) (siR (L.drop i))) (2 + i * 3) (siC s)).toArray) := HB5.out
  have c1 : w5.cell? ⟨q, 1, none⟩ = some (.int .i64 L.length) := by rw [HB6.out.cell, List.getElem?_toArray]; exact hO.out
  have f1 : w5.frozen? ⟨q, 1, none⟩ = false := HB6.out.free 1
  clear HB5 HG5 HG4 HB4 hK hO
  go_simp
  go_wp2_with fail
  go_end0
  refine ⟨rfl, ?_, HG5'.out.trans (grown_setCell _ _ _ _)⟩
  have := HB6.out.set 1 (.int .i64 ((L.length : Int) + 1))
  rw [← hC.out]
  simpa using this

/-- a site as three values -/
def siV (s : Si) : V3 := (.int .i64 s.key, .int .i64 s.at_, .int .i64 s.to_)
theorem c3_siV (L : List Si) : c3 (L.map siV) = siR L := by
  induction L with
  | nil => rfl
  | cons a L ih =>
    unfold c3 siR at *
    rw [List.map_cons, List.flatMap_cons, List.flatMap_cons, ih]; rfl
theorem Try.info48 : (Try.prog.info? 48).map (fun i => (i.zero, i.size, i.bytes)) = some (some (.agg #[.int .i64 0, .int .i64 0, .int .i64 0]), 3, 24) := by kernel_rfl
theorem wp_makeS {ops : Array Oper} {rest : List Oper} {o : Oper} {a : Act} {w : World} {Q : Exit → Act → World → Prop} (hg : o.guard = none) (s1 s2 : Operand) (ho : o.op = .makeSlice 49 s1 s2) (n : Nat) (x y : Int) (h1 : a.eval s1 = .int .i64 x) (h2 : a.eval s2 = .int .i64 y) (hx : x = n) (hy : y = n) (hn : n ≤ 1048576)
    (h : ∀ w1 c, Hid (Blk w1 w.heap.size 48 c ∧ c.size = n * 3) → Hid (Below w.heap.size w w1) → wpList Try.prog ops Q rest (a.put o.dst (.slice (some ⟨w.heap.size, 0, none⟩) n n)) w1) : wpList Try.prog ops Q (o :: rest) a w := by
  obtain ⟨i0, hi, hz0, hz1, hz2⟩ := info_parts Try.info48
  refine wpList_make_full _ hg s1 s2 49 ho _ 48 i0 (.agg #[.int .i64 0, .int .i64 0, .int .i64 0]) 3 Try.under49 hi hz0 hz1 _ _ _ _ n h1 h2 hx hy (by rw [hz2]; omega) (by unfold maxLen; omega) (Nat.le_refl _) ?_
  intro w1 hown hgrow
  rcases hown.2 with ⟨h', _⟩ | ⟨g', cap', cur, h', h1, h2, h3, h4, h5, h6⟩
  · simp at h'
  · simp only [Value.slice.injEq, Option.some.injEq, Addr.mk.injEq, and_true, true_and] at h'
    obtain ⟨rfl, rfl⟩ := h'
    exact h w1 cur ⟨h2, by simpa using h5⟩ ((Below.refl w.heap.size w).grown hgrow (Nat.le_refl _) (by simp))
theorem ssplice_all {α : Type} (c cs : List α) (h : c.length = cs.length) : splice c 0 cs = cs := by simp [splice, ← h]
set_option maxRecDepth 20000 in
set_option maxHeartbeats 1000000 in
theorem ball_any (q : Nat) (L : List Si) (w : World) (h : Bat w q L) :
    Calls Try.prog 59 #[.pointer (some ⟨q, 0, none⟩)] w fun e w' => ∃ v, e = .returned v ∧ TOwn 48 w' w.heap.size v (L.map siV) ∧ Below w.heap.size w w' := by
  have h24 := bnone_no q w h.c0
  have c1 := h.c1
  have hle := h.le
  have hqw : q < w.heap.size := h.lt
  have HB := Hid.in h
  clear h
  go_enter Try.func59, Try.ntmps59
  go_wp2_with (go_at_call 85; refine Hid.out ?_)
  refine Lib.hid ?_
  refine h24.mono ?_
  rintro e w1 ⟨rfl, hw⟩
  rw [hw]
  clear hw
  go_wp2_with (refine wp_makeS rfl _ _ rfl L.length _ _ rfl rfl rfl rfl (by omega) ?_; intro w1 c HC HB1; refine Hid.out ?_)
  refine Lib.hid ?_
  have HB2 := Hid.in (HB.out.below HB1.out)
  have c1r := fun d os => cell_regrown HB2.out.c1 d os
  have hsB := fun W => arr_hi q L.length hle W
  have HM : Hid (Nat.min L.length L.length = L.length) := Nat.min_self _
  have HG : Hid (w.heap.size < w1.heap.size) := HC.out.1.lt
  go_upto_region 4 with fail
  refine wp_region_noPanic ?_
  refine wp_region_sink 9 [9] 1 (by kernel_rfl) (by kernel_rfl) (by kernel_rfl) (by kernel_rfl) (by kernel_rfl) (fun _ _ _ _ _ h => h) ?_
  simp only [List.take_succ_cons, List.take_zero]
  iterate 9 (go_big_quiet_step (fail))
  refine wpQuiet_nil ?_
  rintro _ ⟨⟨dq, osq⟩, rfl⟩
  have HQ := Hid.in (below_regrown w1 dq osq)
  generalize Go.Sort.grow (redrawn w1 dq) osq = w2 at HQ ⊢
  have HB3 := Hid.in (HB2.out.below HQ.out)
  have HC2 := Hid.in (HC.out.1.below HQ.out HG.out)
  have HCS := Hid.in HC.out.2
  have HBW : Hid (Below w.heap.size w w2) := below_step HB1.out HQ.out
  clear HB2 HB1 HC HQ c1r hsB
  refine wpAnyG_last (i := 9) (by kernel_rfl) rfl (by kernel_rfl) (fun K hK => ?_)
  refine step_copy_sites rfl _ _ rfl HC2.out 0 L.length (siR L) (some ⟨w.heap.size, 0, none⟩) (some ⟨q, 2, none⟩) L.length L.length L.length 4 rfl rfl HM.out (siR_len L) (fun hp => ⟨rfl, ⟨q, 2, none⟩, rfl, bat_drop HB3.out 0⟩) (by rw [HCS.out, siR_len]; omega) (one_siR _) ?_
  intro w3 HB4 HG4
  refine hK.out _ _ (wpAnyG_done (by kernel_rfl) ?_ _)
  refine NoPanic.normal ?_
  have HF : Hid (TOwn 48 w3 w.heap.size (.slice (some ⟨w.heap.size, 0, none⟩) L.length L.length) (L.map siV)) := by
    have hb := HB4.out
    rw [ssplice_all _ _ (by rw [siR_len, Array.length_toList]; exact HCS.out)] at hb
    show World.ownsRow _ _ _ _ _ _ _
    rw [c3_siV, List.length_map]
    exact ⟨by rw [siR_len], .inr ⟨_, _, _, rfl, Nat.le_refl _, hb, Nat.le_refl _, by unfold maxLen; omega, by simp [siR_len], List.take_of_length_le (by simp [siR_len])⟩⟩
  have HBL : Hid (Below w.heap.size w w3) := HBW.out.trans (below_grown HG4.out (Nat.le_refl _) HBW.out.size)
  clear HB4 HG4 hK HBW HC2 HB3
  go_simp
  go_wp2_with fail
  go_ret
  exact ⟨_, rfl, HF.out, HBL.out⟩

end Go.Proofs.Ytekggimgobeggaa
