/-
  Proved here: the law KeysSpares (switchyardlaw21) answers true for every input, and each argument reads afterwards as it read before. No condition of ours: the row's own reach alone (each slice and text takes at most 2^47 - 4096 bytes).
-/
import Derived.Test.YtkpieeldoielgaaGf
import Derived.Test.YtkpieeldoielgaaTexts
import Derived.Test.YtkpieeldoielgaaGq
import Derived.Test.YtkpieeldoielgaaW3
import Derived.Test.YtkpieeldoielgaaGc

/- Ours: KeysBusy answers true. -/
namespace Go.Proofs.Ytkpieeldoielgaa
open Go.RowKit

theorem i64_nat {k : Nat} (h : k ≤ 1048576) : i64P (k : Int) := by unfold i64P; omega
/-- the calls of KeysBusy, on counts -/
theorem bsy_up (n k : Nat) (hk : k < n) : calL (zerosC n) false k true = ⟨(zerosC n).set k 1, true, true, 0⟩ := by
  unfold calL
  rw [if_neg (by rw [zerosC_len]; omega), if_neg (by decide), if_pos rfl, Int.toNat_natCast, zerosC_at, if_neg (by decide)]
  rfl
theorem bsy_busy (n k : Nat) (cs : List Int) (hl : cs.length = n) (up : Bool) (hk : k < n) : calL cs true k up = ⟨cs, true, false, 310⟩ := by
  unfold calL
  rw [if_neg (by rw [hl]; omega), if_pos rfl]
theorem bsy_none (n : Nat) (cs : List Int) (hl : cs.length = n) (op up : Bool) : calL cs op n up = ⟨cs, op, false, 311⟩ := by
  unfold calL
  rw [if_pos (by rw [hl]; omega)]
theorem bsy_down (n k : Nat) (hk : k < n) : calL ((zerosC n).set k 1) false k false = ⟨((zerosC n).set k 1).set k 0, true, true, 0⟩ := by
  have e : ((zerosC n).set k 1).getD k 0 = 1 := by simp [List.getD, zerosC_len, hk]
  unfold calL
  rw [if_neg (by rw [List.length_set, zerosC_len]; omega), if_neg (by decide), if_neg (by decide), Int.toNat_natCast, e, if_neg (by decide)]
  rfl
set_option maxRecDepth 20000 in
set_option maxHeartbeats 16000000 in
theorem busy_walk (p : Option Addr) (n c : Nat) (L : List Int) (key other : Int) (up : Bool) (w : World) (hL : L.length = n) (hn : n ≤ 140737488355328) (hnc : n ≤ c) (hr : GRow w p (numZ L)) :
    Calls Try.prog 7 #[.slice p n c, .int .i64 key, .int .i64 other, .bool up] w fun e w' => e = .returned (.bool true) ∧ Below w.heap.size w w' := by
  have hIm := image_sl p n c L w hL hn hnc hr
  clear hL hn hnc hr
  go_enter Try.func7, Try.ntmps7
  go_wp2_with (go_at_call 16; refine Hid.out ?_)
  refine Lib.hid ?_
  (with_reducible refine hIm.mono ?_)
  rintro e w1 ⟨l, qb, qk, qs, qu, nb, db, dk, ns, ds, nu, du, hl, rfl, hI, -, hb1⟩
  have h20 : l.length ≤ 20 := by rw [hl, List.length_take]; omega
  clear hl hIm
  have HB1 := Hid.in hb1
  have HV0 := Hid.in (Blk.new w1 31 #[.slice qb nb db, .slice qk (imN l) dk, .slice qs ns ds, .slice qu nu du])
  have HN0 := Hid.in (new_alloc w1 (.cells #[.slice qb nb db, .slice qk (imN l) dk, .slice qs ns ds, .slice qu nu du] 31))
  obtain ⟨z0, z1, z2, z3⟩ := HV0.out.cells4
  have hT1 := tnew_im l h20 _ _ _ _ _ _ (hI.below HN0.out)
  clear hI hb1
  go_wp2_with (go_at_call 9; refine Hid.out ?_)
  refine Lib.hid ?_
  generalize w1.alloc (.cells #[.slice qb nb db, .slice qk (imN l) dk, .slice qs ns ds, .slice qu nu du] 31) = w2 at *
  (with_reducible refine hT1.mono ?_)
  rintro e w3 ⟨h, b, p', c', rfl, hT, hb3, hh, hb, -⟩
  have HB3 := Hid.in (below_step (below_step HB1.out HN0.out) hb3)
  have HV3 := Hid.in (HV0.out.grow hb3)
  have HS := Hid.in imM_some
  have HT3 := Hid.in hT
  have HG : Hid (∀ j, G2 h b j → w.heap.size ≤ j ∧ w2.heap.size ≤ j) := fun j hj => by
    have := HB1.out.size
    have := HN0.out.size
    rcases hj with rfl | rfl <;> omega
  have HLV := Hid.in HV0.out.lt
  have hN20 : imN l ≤ 20 := Nat.le_trans (imN_le l) h20
  have HOF := Hid.in (fun (k : Nat) (hk : k < imN l) => imM_some l h20 k hk)
  clear hT1 hT hb3 z0 z1 z2 z3 HV0 HN0 HB1 hh hb HS
  obtain ⟨z0, z1, z2, z3⟩ := HV3.out.cells4
  generalize (imM l).si = si at *
  generalize imN l = kn at *
  by_cases h0 : kn = 0
  · subst h0
    go_wp2_with (go_at_call 15; refine (awake_any _).mono ?_; rintro e w5 ⟨rfl, hb5⟩; have HB5 := Hid.in (below_step HB3.out hb5); clear hb5)
    go_ret
    exact ⟨rfl, HB5.out⟩
  · have hk0 : ((kn : Int) == 0) = false := by simp; omega
    have hP1 := fun W => pick_any key kn (by omega) (by omega) W
    have hP2 := fun W => pick_any other kn (by omega) (by omega) W
    have hp1 := pickZ_lt key kn (by omega)
    have hp2 := pickZ_lt other kn (by omega)
    generalize pickZ key kn = k1 at *
    generalize pickZ other kn = k2 at *
    go_upto_region 7 with fail
    go_quiet ((go_at_call 28; first | (with_reducible exact Calls.quiet_of_same (hP1 _)) | (with_reducible exact Calls.quiet_of_same (hP2 _))))
    clear hP1 hP2 z0 z1 z2 z3
    have HT4 := Hid.in (HT3.out.drewN nq)
    have HV4 : Hid (Blk (w3.drewN nq) w1.heap.size 31 #[.slice qb nb db, .slice qk kn dk, .slice qs ns ds, .slice qu nu du]) := HV3.out
    have HB4 := Hid.in (below_draws HB3.out nq)
    clear HT3 HV3 HB3
    generalize w3.drewN nq = w4 at *
    have hC4 := call_sl h b kn (zerosC kn) p' c' si w4 false HT4.out k1 (i64_nat (by omega)) true (by omega) _ (bsy_up kn k1 hp1) _ rfl
    have HLn : Hid (((zerosC kn).set k1 1).length = kn) := by show _ = _; rw [List.length_set, zerosC_len]
    have HDn := Hid.in (bsy_down kn k1 hp1)
    generalize (zerosC kn).set k1 1 = cs1 at *
    go_wp2_with (go_at_call 11; refine Hid.out ?_)
    refine Lib.hid ?_
    (with_reducible refine hC4.mono ?_)
    rintro e w5 ⟨q5, cq5, n5, rfl, -, hT5, hn5, hK5⟩
    have HB5 : Hid (Below w.heap.size w w5) := HB4.out.trans (hK5.below HB4.out.size (fun j hj => (HG.out j hj).1))
    have HV5 : Hid (Blk w5 w1.heap.size 31 #[.slice qb nb db, .slice qk kn dk, .slice qs ns ds, .slice qu nu du]) := (hK5.block w1.heap.size HV4.out.lt (fun hj => by have := (HG.out _ hj).2; have := HLV.out; omega)).trans HV4.out
    have HT5 := Hid.in hT5
    clear hT5 hK5 hC4 HT4 HV4 HB4
    have hC5 := count_any h b n5 cs1 true p' c' si w5 HT5.out k2 (i64_nat (by omega))
    obtain ⟨ct, hct⟩ : ∃ ct, cntL cs1 k2 = ct := ⟨_, rfl⟩
    rw [hct] at hC5
    have HCT := Hid.in hct
    clear hct
    go_wp2_with (go_at_call 14; refine Hid.out ?_)
    refine Lib.hid ?_
    (with_reducible refine hC5.mono ?_)
    rintro e w6 ⟨rfl, rfl⟩
    have hC6 := call_sl h b n5 cs1 p' c' si w6 true HT5.out k2 (i64_nat (by omega)) up (by omega) _ (bsy_busy kn k2 cs1 HLn.out up hp2) [] rfl
    go_wp2_with (go_at_call 11; refine Hid.out ?_)
    refine Lib.hid ?_
    (with_reducible refine hC6.mono ?_)
    rintro e w7 ⟨q7, cq7, n7, rfl, -, hT7, hn7, hK7⟩
    have HB7 : Hid (Below w.heap.size w w7) := HB5.out.trans (hK7.below HB5.out.size (fun j hj => (HG.out j hj).1))
    have HV7 : Hid (Blk w7 w1.heap.size 31 #[.slice qb nb db, .slice qk kn dk, .slice qs ns ds, .slice qu nu du]) := (hK7.block w1.heap.size HV5.out.lt (fun hj => by have := (HG.out _ hj).2; have := HLV.out; omega)).trans HV5.out
    have HT7 := Hid.in hT7
    clear hT7 hK7 hC6 hC5 HT5 HV5 HB5
    obtain ⟨z0, z1, z2, z3⟩ := HV7.out.cells4
    have hC7 := count_any h b n7 cs1 true p' c' si w7 HT7.out k2 (i64_nat (by omega))
    rw [HCT.out] at hC7
    go_wp2_with (go_at_call 14; refine Hid.out ?_)
    refine Lib.hid ?_
    (with_reducible refine hC7.mono ?_)
    rintro e w8 ⟨rfl, rfl⟩
    have hC8 := call_sl h b n7 cs1 p' c' si w8 true HT7.out kn (i64_nat (by omega)) up (by omega) _ (bsy_none kn cs1 HLn.out true up) [] rfl
    go_wp2_with (go_at_call 11; refine Hid.out ?_)
    refine Lib.hid ?_
    (with_reducible refine hC8.mono ?_)
    rintro e w9 ⟨q9, cq9, n9, rfl, -, hT9, hn9, hK9⟩
    have HB9 : Hid (Below w.heap.size w w9) := HB7.out.trans (hK9.below HB7.out.size (fun j hj => (HG.out j hj).1))
    have HT9 := Hid.in hT9
    clear hT9 hK9 hC7 hC8 HT7 HV7 HB7 z0 z1 z2 z3
    have hBu := busy_any h b n9 cs1 true p' c' si w9 HT9.out
    go_wp2_with (go_at_call 27; refine hBu.mono ?_; rintro e w10 ⟨rfl, rfl⟩)
    have hR1 := return_any h b n9 cs1 true p' c' si w10 HT9.out
    go_wp2_with (go_at_call 12; refine Hid.out ?_)
    refine Lib.hid ?_
    (with_reducible refine hR1.mono ?_)
    rintro e w11 ⟨rfl, hT11, hK11⟩
    have HB11 : Hid (Below w.heap.size w w11) := HB9.out.trans (hK11.below HB9.out.size (fun j hj => (HG.out j hj).1))
    have HT11 := Hid.in hT11
    clear hT11 hK11 hR1 HT9 HB9 hBu
    have hR2 := return_any h b n9 cs1 false p' c' si w11 HT11.out
    go_wp2_with (go_at_call 12; refine Hid.out ?_)
    refine Lib.hid ?_
    (with_reducible refine hR2.mono ?_)
    rintro e w12 ⟨rfl, hT12, hK12⟩
    have HB12 : Hid (Below w.heap.size w w12) := HB11.out.trans (hK12.below HB11.out.size (fun j hj => (HG.out j hj).1))
    have HT12 := Hid.in hT12
    clear hT12 hK12 hR2 HT11 HB11
    have hC12 := call_sl h b n9 cs1 p' c' si w12 false HT12.out k1 (i64_nat (by omega)) false (by omega) _ HDn.out _ rfl
    have hof : 0 < (toldR si k1 ⟨cs1.set k1 0, true, true, 0⟩).length := HOF.out k1 hp1
    generalize (toldR si k1 ⟨cs1.set k1 0, true, true, 0⟩) = tl at *
    generalize hcs2 : cs1.set k1 0 = cs2 at *
    clear hcs2
    go_wp2_with (go_at_call 11; refine Hid.out ?_)
    refine Lib.hid ?_
    (with_reducible refine hC12.mono ?_)
    rintro e w13 ⟨q13, cq13, n13, rfl, -, -, -, hK13⟩
    have HB13 : Hid (Below w.heap.size w w13) := HB12.out.trans (hK13.below HB12.out.size (fun j hj => (HG.out j hj).1))
    have hd : decide ((0 : Int) < (tl.length : Int)) = true := decide_eq_true (by omega)
    clear hK13 hC12 HT12 HB12
    go_wp2_with (go_at_call 15; refine (awake_any _).mono ?_; rintro e w14 ⟨rfl, hb14⟩; have HB14 := Hid.in (below_step HB13.out hb14); clear hb14)
    go_ret
    exact ⟨rfl, HB14.out⟩
end Go.Proofs.Ytkpieeldoielgaa

/- Lists of one-cell elements (or nil) that lie apart: what stores and appends leave as it was. Plain facts on worlds, for every element type T, slice type e and every mark. -/
namespace Go.Proofs.Ytkpieeldoielgaa
open Go.RowKit

theorem grown_of_below {w w' : World} (h : Below w.heap.size w w') : w.grownBy w' none := ⟨h.os, h.tape, h.output, h.size, fun k hk _ => h.block k hk⟩

/-- the slice that begins at a block's first cell, or nil -/
def slA (p : Option Nat) (n c : Nat) : Value := .slice (p.map fun b => ⟨b, 0, none⟩) n c
theorem sl_block (p : Option Nat) (n c : Nat) : (slA p n c).ownBlock = p := by cases p <;> rfl
theorem sl_none (n c : Nat) : slA none n c = .slice none n c := rfl
theorem sl_some (g n c : Nat) : slA (some g) n c = .slice (some ⟨g, 0, none⟩) n c := rfl

theorem GOwnV.kept {T : TypeId} {w w' : World} {B : Nat} {v : Value} {vs : List Value} {row : Option Nat} (h : GOwnV T w B v vs) (hg : w.grownBy w' row) (hne : v.ownBlock = none ∨ v.ownBlock ≠ row) : GOwnV T w' B v vs := World.ownsRow.kept h hg hne
theorem GOwnV.store_other {T : TypeId} {w : World} {B : Nat} {v : Value} {vs : List Value} (h : GOwnV T w B v vs) (b i : Nat) (u : Value) (hne : v.ownBlock ≠ some b) : GOwnV T (w.setCell ⟨b, i, none⟩ u) B v vs :=
  h.kept (row := some b) ⟨rfl, rfl, rfl, by simp, fun k _ hk => heap_setCell_other w ⟨b, i, none⟩ k u (fun e => hk (by simp [e]))⟩ (.inr hne)
theorem GOwnV.filled {T : TypeId} {w : World} {B : Nat} {p : Option Nat} {n c : Nat} {vs : List Value} (h : GOwnV T w B (slA p n c) vs) (h0 : 0 < vs.length) : ∃ g, p = some g ∧ n = vs.length ∧ GOwn T w B g c vs := by
  rcases h.shape with ⟨_, e⟩ | ⟨g, cap, e, ho⟩
  · rw [e] at h0; exact absurd h0 (Nat.lt_irrefl 0)
  · cases p with
    | none => simp [slA] at e
    | some b =>
      simp [slA] at e
      obtain ⟨rfl, rfl, rfl⟩ := e
      exact ⟨b, rfl, rfl, ho⟩
theorem GOwnV.full {T : TypeId} {w : World} {B g n c : Nat} {vs : List Value} (h : GOwnV T w B (slA (some g) n c) vs) : n = vs.length ∧ GOwn T w B g c vs := by
  rcases h.shape with ⟨e, _⟩ | ⟨g', cap, e, ho⟩
  · simp [slA] at e
  · simp [slA] at e
    obtain ⟨rfl, rfl, rfl⟩ := e
    exact ⟨rfl, ho⟩
theorem GOwn.caps {T T' : TypeId} {w : World} {B B' g cap cap' : Nat} {xs ys : List Value} (h : GOwn T w B g cap xs) (h' : GOwn T' w B' g cap' ys) : cap = cap' := by
  obtain ⟨cur, _, h2, _, _, h5, _⟩ := h.parts
  obtain ⟨cur', _, h2', _, _, h5', _⟩ := h'.parts
  rw [h2] at h2'
  cases h2'
  omega
theorem GOwn.front {T : TypeId} {w : World} {B g cap : Nat} {xs ys : List Value} (h : GOwn T w B g cap (xs ++ ys)) : GOwn T w B g cap xs := by
  obtain ⟨cur, h1, h2, h3, h4, h5, h6⟩ := h.parts
  rw [List.length_append] at h3
  refine GOwn.mk h1 h2 (by omega) h4 h5 ?_
  have e : cur.toList.take xs.length = (cur.toList.take (xs ++ ys).length).take xs.length := by
    rw [List.take_take, List.length_append, Nat.min_eq_left (by omega)]
  rw [e, h6]
  simp

/-- a table of K slices (of the type e) in a block of its own -/
def TabOf (e : TypeId) (w : World) (L K : Nat) (f : Nat → Value) : Prop := w.heap[L]? = some (.cells ((List.range K).map f).toArray e (0, 0))
theorem TabOf.cell {e : TypeId} {w : World} {L K : Nat} {f : Nat → Value} (h : TabOf e w L K f) (k : Nat) (hk : k < K) : w.cell? ⟨L, k, none⟩ = some (f k) := by
  rw [cell_of_row w L k _ e (0, 0) h]
  simp [hk]
theorem TabOf.free {e : TypeId} {w : World} {L K : Nat} {f : Nat → Value} (h : TabOf e w L K f) (k : Nat) : w.frozen? ⟨L, k, none⟩ = false := frozen_of_row w L k _ e h
theorem TabOf.lt {e : TypeId} {w : World} {L K : Nat} {f : Nat → Value} (h : TabOf e w L K f) : L < w.heap.size := by
  rcases Nat.lt_or_ge L w.heap.size with h' | h'
  · exact h'
  · unfold TabOf at h; rw [Array.getElem?_eq_none h'] at h; cases h
theorem TabOf.ne {e T : TypeId} (hT : T ≠ e) {w : World} {L K : Nat} {f : Nat → Value} (h : TabOf e w L K f) {B n c : Nat} {p : Option Nat} {vs : List Value} (ho : GOwnV T w B (slA p n c) vs) : p ≠ some L := fun he => by
  subst he
  obtain ⟨cur, _, h2, _⟩ := ho.full.2.parts
  unfold TabOf at h
  rw [h2] at h
  injection h with h
  injection h with _ h
  exact hT h
theorem TabOf.kept {e : TypeId} {w w' : World} {L K : Nat} {f : Nat → Value} {row : Option Nat} (h : TabOf e w L K f) (hg : w.grownBy w' row) (hne : some L ≠ row) : TabOf e w' L K f := by
  unfold TabOf; rw [hg.block L h.lt hne]; exact h
theorem TabOf.drewN {e : TypeId} {w : World} {L K : Nat} {f : Nat → Value} (h : TabOf e w L K f) (n : Nat) : TabOf e (w.drewN n) L K f := h
theorem TabOf.drew {e : TypeId} {w : World} {L K : Nat} {f : Nat → Value} (h : TabOf e w L K f) : TabOf e w.drew L K f := h
theorem TabOf.store_other {e : TypeId} {w : World} {L K : Nat} {f : Nat → Value} (h : TabOf e w L K f) (b i : Nat) (v : Value) (hne : L ≠ b) : TabOf e (w.setCell ⟨b, i, none⟩ v) L K f := by
  unfold TabOf; rw [heap_setCell_other w ⟨b, i, none⟩ L v hne]; exact h
theorem TabOf.store {e : TypeId} {w : World} {L K : Nat} {f : Nat → Value} (h : TabOf e w L K f) (k : Nat) (v : Value) : TabOf e (w.setCell ⟨L, k, none⟩ v) L K (fun i => if i = k then v else f i) := by
  unfold TabOf
  rw [heap_setCell_same w L k _ e v h]
  congr 2
  apply Array.ext'
  rw [Array.toList_setIfInBounds]
  apply List.ext_getElem?
  intro j
  simp only [List.getElem?_set, List.length_map, List.length_range, List.getElem?_map]
  by_cases e : k = j
  · subst e
    by_cases hk : k < K <;> simp [hk]
  · by_cases hj : j < K <;> simp [e, hj, Ne.symm e]
theorem TabOf.made {e : TypeId} {w : World} {B g n : Nat} (h : w.ownsRow B e 1 (.slice (some ⟨g, 0, none⟩) n n) n (madeCells (Value.slice none 0 0).cells (n * 1)).toList) : TabOf e w g n (fun _ => .slice none 0 0) := by
  rcases h.2 with ⟨h', _⟩ | ⟨g', cap', cur, h', h1, h2, h3, h4, h5, h6⟩
  · simp at h'
  · simp only [Value.slice.injEq, Option.some.injEq, Addr.mk.injEq, and_true, true_and] at h'
    obtain ⟨rfl, rfl⟩ := h'
    unfold TabOf
    rw [h2]
    congr 2
    apply Array.ext'
    rw [List.take_of_length_le (by rw [Array.length_toList, h5]; exact Nat.le_refl _)] at h6
    rw [h6, show (Value.slice none 0 0).cells = #[Value.slice none 0 0] from rfl, toList_madeCells_one]
    apply List.ext_getElem?
    intro j
    by_cases hj : j < n <;> simp [hj]

/-- lists apart: each in a block of its own, or nil -/
def AllOwn (T : TypeId) (w : World) (B K : Nat) (p : Nat → Option Nat) (n c : Nat → Nat) (ct : Nat → List Value) : Prop := ∀ j, j < K → GOwnV T w B (slA (p j) (n j) (c j)) (ct j)
def Apart (K : Nat) (p : Nat → Option Nat) : Prop := ∀ i j, i < K → j < K → i ≠ j → p i = none ∨ p i ≠ p j
theorem AllOwn.kept {T : TypeId} {w w' : World} {B K : Nat} {p : Nat → Option Nat} {n c : Nat → Nat} {ct : Nat → List Value} {row : Option Nat} (h : AllOwn T w B K p n c ct) (hg : w.grownBy w' row) (hne : ∀ j, j < K → p j = none ∨ p j ≠ row) : AllOwn T w' B K p n c ct :=
  fun j hj => (h j hj).kept hg (by rw [sl_block]; exact hne j hj)
theorem AllOwn.store_other {T : TypeId} {w : World} {B K : Nat} {p : Nat → Option Nat} {n c : Nat → Nat} {ct : Nat → List Value} (h : AllOwn T w B K p n c ct) (b i : Nat) (v : Value) (hne : ∀ j, j < K → p j ≠ some b) : AllOwn T (w.setCell ⟨b, i, none⟩ v) B K p n c ct :=
  fun j hj => (h j hj).store_other b i v (by rw [sl_block]; exact hne j hj)
theorem AllOwn.store {T : TypeId} {w : World} {B K : Nat} {p : Nat → Option Nat} {n c : Nat → Nat} {ct ct' : Nat → List Value} (h : AllOwn T w B K p n c ct) (ha : Apart K p) (k i g : Nat) (hk : k < K) (hp : p k = some g) (z : Value) (h1 : ct' k = (ct k).set i z) (h2 : ∀ j, j ≠ k → ct' j = ct j) : AllOwn T (w.setCell ⟨g, i, none⟩ z) B K p n c ct' := fun j hj => by
  by_cases e : j = k
  · subst e
    have ho := h j hj
    rw [hp] at ho
    obtain ⟨hn, ho2⟩ := ho.full
    rw [h1, hp, sl_some, hn]
    have := ho2.store i z
    have h3 : GOwnV T (w.setCell ⟨g, i, none⟩ z) B (.slice (some ⟨g, 0, none⟩) ((ct j).set i z).length (c j)) ((ct j).set i z) := this.val
    rw [List.length_set] at h3
    exact h3
  · rw [h2 j e]
    refine (h j hj).store_other g i _ ?_
    rw [sl_block]
    rcases ha j k hj hk e with h3 | h3
    · rw [h3]; simp
    · rw [← hp]; exact h3
theorem AllOwn.drewN {T : TypeId} {w : World} {B K : Nat} {p : Nat → Option Nat} {n c : Nat → Nat} {ct : Nat → List Value} (h : AllOwn T w B K p n c ct) (m : Nat) : AllOwn T (w.drewN m) B K p n c ct := h
theorem AllOwn.drew {T : TypeId} {w : World} {B K : Nat} {p : Nat → Option Nat} {n c : Nat → Nat} {ct : Nat → List Value} (h : AllOwn T w B K p n c ct) : AllOwn T w.drew B K p n c ct := h

/-- the first m marks of list k -/
def mkL (mk : Nat → Nat → Value) (k m : Nat) : List Value := (List.range m).map (mk k)
theorem mkL_length (mk : Nat → Nat → Value) (k m : Nat) : (mkL mk k m).length = m := by simp [mkL]
theorem mkL_succ (mk : Nat → Nat → Value) (k m : Nat) : mkL mk k (m + 1) = mkL mk k m ++ [mk k m] := by simp [mkL, List.range_succ]
theorem mkL_at (mk : Nat → Nat → Value) (k m i : Nat) (h : i < m) : (mkL mk k m)[i]? = some (mk k i) := by simp [mkL, h]

/-- list k, its first i places marked -/
def part (mk : Nat → Nat → Value) (xs : List Value) (k i : Nat) : List Value := mkL mk k i ++ xs.drop i
theorem part_zero (mk : Nat → Nat → Value) (xs : List Value) (k : Nat) : part mk xs k 0 = xs := by simp [part, mkL]
theorem part_end (mk : Nat → Nat → Value) (xs : List Value) (k n : Nat) (h : xs.length = n) : part mk xs k n = mkL mk k n := by simp [part, h]
theorem part_length (mk : Nat → Nat → Value) (xs : List Value) (k i n : Nat) (h : xs.length = n) (hi : i ≤ n) : (part mk xs k i).length = n := by simp [part, mkL_length, h]; omega
theorem part_step (mk : Nat → Nat → Value) (xs : List Value) (k i n : Nat) (h : xs.length = n) (hi : i < n) : (part mk xs k i).set i (mk k i) = part mk xs k (i + 1) := by
  unfold part
  have hl : (mkL mk k i).length = i := mkL_length mk k i
  rw [List.set_append_right _ _ (by omega), hl, Nat.sub_self, mkL_succ, List.append_assoc, List.drop_eq_getElem_cons (by omega : i < xs.length)]
  rfl

/-- what the lists hold in the first loop: those before k are marked, k up to i -/
def ctAt (mk : Nat → Nat → Value) (xs : Nat → List Value) (n : Nat → Nat) (k i j : Nat) : List Value := if j < k then mkL mk j (n j) else if j = k then part mk (xs j) j i else xs j
theorem ctAt_zero (mk : Nat → Nat → Value) (xs : Nat → List Value) (n : Nat → Nat) (k j : Nat) : ctAt mk xs n k 0 j = if j < k then mkL mk j (n j) else xs j := by
  unfold ctAt
  by_cases h : j < k
  · rw [if_pos h, if_pos h]
  · rw [if_neg h, if_neg h]
    split
    · exact part_zero ..
    · rfl
theorem ctAt_next (mk : Nat → Nat → Value) (xs : Nat → List Value) (n : Nat → Nat) (k j : Nat) (h : (xs k).length = n k) : ctAt mk xs n k (n k) j = ctAt mk xs n (k + 1) 0 j := by
  rw [ctAt_zero]
  unfold ctAt
  by_cases h1 : j < k
  · rw [if_pos h1, if_pos (by omega)]
  · rw [if_neg h1]
    by_cases h2 : j = k
    · subst h2
      rw [if_pos rfl, if_pos (by omega), part_end _ _ _ _ h]
    · rw [if_neg h2, if_neg (by omega)]

end Go.Proofs.Ytkpieeldoielgaa

/- The states of switchyardkit's Apart functions, over lists that may be nil. Plain facts on worlds. -/
namespace Go.Proofs.Ytkpieeldoielgaa
open Go.RowKit

abbrev GSet (K : Nat) (p : Nat → Option Nat) (b : Nat) : Prop := ∃ k, k < K ∧ p k = some b

/-- the first loop's state -/
structure St1 (T e : TypeId) (w : World) (K B L G : Nat) (p : Nat → Option Nat) (n c : Nat → Nat) (ct : Nat → List Value) (wr : World) : Prop where
  own : AllOwn T wr B K p n c ct
  tab : TabOf e wr L K (fun k => slA (p k) (n k) (c k))
  gs : TabOf e wr G K (fun _ => .slice none 0 0)
  keeps : Keeps (GSet K p) w wr

theorem St1.mark {T e : TypeId} {mk : Nat → Nat → Value} (hT : T ≠ e) {w wr : World} {K B L G : Nat} {p : Nat → Option Nat} {n c : Nat → Nat} {xs : Nat → List Value} {k i g : Nat} (h : St1 T e w K B L G p n c (fun j => ctAt mk xs n k i j) wr) (ha : Apart K p) (hk : k < K) (hp : p k = some g) (hx : (xs k).length = n k) (hi : i < n k) :
    St1 T e w K B L G p n c (fun j => ctAt mk xs n k (i + 1) j) (wr.setCell ⟨g, i, none⟩ (mk k i)) := by
  have ho := h.own k hk
  have n1 := h.tab.ne hT ho
  have n2 := h.gs.ne hT ho
  rw [hp] at n1 n2
  refine ⟨h.own.store ha k i g hk hp _ ?_ (fun j hj => ?_), h.tab.store_other _ _ _ (fun e => n1 (by rw [e])), h.gs.store_other _ _ _ (fun e => n2 (by rw [e])), h.keeps.setCell _ _ _ (.inl ⟨k, hk, hp⟩)⟩
  · simp only [ctAt, Nat.lt_irrefl, if_false, if_true]
    exact (part_step mk (xs k) k i (n k) hx hi).symm
  · simp [ctAt, hj]
theorem St1.drew {T e : TypeId} {w wr : World} {K B L G : Nat} {p : Nat → Option Nat} {n c : Nat → Nat} {ct : Nat → List Value} (h : St1 T e w K B L G p n c ct wr) : St1 T e w K B L G p n c ct wr.drew := ⟨h.own.drew, h.tab.drew, h.gs.drew, h.keeps.drew⟩
theorem St1.drewN {T e : TypeId} {w wr : World} {K B L G : Nat} {p : Nat → Option Nat} {n c : Nat → Nat} {ct : Nat → List Value} (h : St1 T e w K B L G p n c ct wr) (m : Nat) : St1 T e w K B L G p n c ct (wr.drewN m) := ⟨h.own.drewN m, h.tab.drewN m, h.gs.drewN m, h.keeps.drewN m⟩
theorem St1.grown {T e : TypeId} {w wr w1 : World} {K B L G : Nat} {p : Nat → Option Nat} {n c : Nat → Nat} {ct : Nat → List Value} (h : St1 T e w K B L G p n c ct wr) (hg : wr.grownBy w1 none) : St1 T e w K B L G p n c ct w1 :=
  ⟨h.own.kept hg (fun j _ => by cases p j <;> simp), h.tab.kept hg (by simp), h.gs.kept hg (by simp), h.keeps.grown hg (fun _ e => by cases e)⟩

/-- the second loop's state: the lists before k have grown -/
structure St2 (T e : TypeId) (mk : Nat → Nat → Value) (w : World) (K B L G : Nat) (p : Nat → Option Nat) (n c : Nat → Nat) (k : Nat) (ub uc : Nat → Nat) (wr : World) : Prop where
  own : AllOwn T wr B K p n c (fun j => mkL mk j (n j))
  tab : TabOf e wr L K (fun k => slA (p k) (n k) (c k))
  gs : TabOf e wr G K (fun i => if i < k then .slice (some ⟨ub i, 0, none⟩) (n i + 64) (uc i) else .slice none 0 0)
  us : ∀ i, i < k → GOwn T wr B (ub i) (uc i) (mkL mk i (n i + 64))
  sep : ∀ i, i < k → ∀ j, j < K → i ≠ j → p j ≠ some (ub i)
  keeps : Keeps (GSet K p) w wr

theorem St1.next {T e : TypeId} {mk : Nat → Nat → Value} {w wr : World} {K B L G : Nat} {p : Nat → Option Nat} {n c : Nat → Nat} {xs : Nat → List Value} (h : St1 T e w K B L G p n c (fun j => ctAt mk xs n K 0 j) wr) : St2 T e mk w K B L G p n c 0 (fun _ => 0) (fun _ => 0) wr :=
  ⟨fun j hj => by have := h.own j hj; simpa only [ctAt_zero, if_pos hj] using this, h.tab, by simpa using h.gs, fun i hi => absurd hi (Nat.not_lt_zero i), fun i hi => absurd hi (Nat.not_lt_zero i), h.keeps⟩

/-- .. and while list k grows: it stands in block q (or is nil still), with j marks more -/
structure St2i (T e : TypeId) (mk : Nat → Nat → Value) (w : World) (K B L G : Nat) (p : Nat → Option Nat) (n c : Nat → Nat) (k : Nat) (ub uc : Nat → Nat) (q : Option Nat) (gc j : Nat) (wr : World) : Prop where
  st : St2 T e mk w K B L G p n c k ub uc wr
  cur : GOwnV T wr B (slA q (n k + j) gc) (mkL mk k (n k + j))
  sepg : ∀ i, i < K → i ≠ k → q = none ∨ q ≠ p i
  sepu : ∀ i, i < k → q ≠ some (ub i)
  same : q = p k ∨ ∃ b, q = some b ∧ w.heap.size ≤ b

theorem St2.start {T e : TypeId} {mk : Nat → Nat → Value} {w wr : World} {K B L G : Nat} {p : Nat → Option Nat} {n c : Nat → Nat} {k : Nat} {ub uc : Nat → Nat} (h : St2 T e mk w K B L G p n c k ub uc wr) (ha : Apart K p) (hk : k < K) : St2i T e mk w K B L G p n c k ub uc (p k) (c k) 0 wr :=
  ⟨h, h.own k hk, fun i hi hne => ha k i hk hi (Ne.symm hne), fun i hi => h.sep i hi k hk (by omega), .inl rfl⟩

theorem St2i.grown {T e : TypeId} {mk : Nat → Nat → Value} {w wr w1 : World} {K B L G : Nat} {p : Nat → Option Nat} {n c : Nat → Nat} {k : Nat} {ub uc : Nat → Nat} {q : Option Nat} {gc j : Nat} (h : St2i T e mk w K B L G p n c k ub uc q gc j wr) (hg : wr.grownBy w1 none) : St2i T e mk w K B L G p n c k ub uc q gc j w1 :=
  ⟨⟨h.st.own.kept hg (fun j _ => by cases p j <;> simp), h.st.tab.kept hg (by simp), h.st.gs.kept hg (by simp), fun i hi => GOwnV.kept (h.st.us i hi).val hg (.inr (by simp [Value.ownBlock])), h.st.sep, h.st.keeps.grown hg (fun _ e => by cases e)⟩,
    h.cur.kept hg (by rw [sl_block]; cases q <;> simp), h.sepg, h.sepu, h.same⟩

theorem St2i.grows {T e : TypeId} {mk : Nat → Nat → Value} {w wr w1 : World} {K B L G : Nat} {p : Nat → Option Nat} {n c : Nat → Nat} {k : Nat} {ub uc : Nat → Nat} {q : Option Nat} {gc j gb' gc' B' : Nat} (h : St2i T e mk w K B L G p n c k ub uc q gc j wr) (hBw : B ≤ wr.heap.size) (hg : wr.grownBy w1 none) (hB : wr.heap.size ≤ B') (ho : GOwn T w1 B' gb' gc' (mkL mk k (n k + j) ++ [mk k (n k + j)])) :
    St2i T e mk w K B L G p n c k ub uc (some gb') gc' (j + 1) w1 := by
  have hb := ho.base
  have h1 := h.grown hg
  refine ⟨h1.st, ?_, fun i hi _ => .inr fun e => ?_, fun i hi e => ?_, .inr ⟨gb', rfl, Nat.le_trans h.st.keeps.size (by omega)⟩⟩
  · have h2 := (ho.lower (B' := B) (by omega)).val
    rw [show n k + (j + 1) = n k + j + 1 by omega, sl_some, mkL_succ]
    rw [List.length_append, mkL_length] at h2
    exact h2
  · have ho2 := h.st.own i hi
    rw [← e] at ho2
    have := ho2.full.2.lt
    omega
  · have := (h.st.us i hi).lt
    injection e with e
    omega

theorem St2i.fits {T e : TypeId} {mk : Nat → Nat → Value} (hT : T ≠ e) {w wr w1 : World} {K B L G : Nat} {p : Nat → Option Nat} {n c : Nat → Nat} {k : Nat} {ub uc : Nat → Nat} {gb gc j : Nat} (h : St2i T e mk w K B L G p n c k ub uc (some gb) gc j wr) (hk : k < K) (hg : wr.grownBy w1 (some gb)) (ho : GOwn T w1 B gb gc (mkL mk k (n k + j) ++ [mk k (n k + j)])) :
    St2i T e mk w K B L G p n c k ub uc (some gb) gc (j + 1) w1 := by
  have n1 := h.st.tab.ne hT h.cur
  have n2 := h.st.gs.ne hT h.cur
  refine ⟨⟨fun i hi => ?_, h.st.tab.kept hg (Ne.symm n1), h.st.gs.kept hg (Ne.symm n2), fun i hi => GOwnV.kept (h.st.us i hi).val hg (.inr (Ne.symm (h.sepu i hi))), h.st.sep, h.st.keeps.grown hg (fun b e => ?_)⟩, ?_, h.sepg, h.sepu, h.same⟩
  · by_cases e : i = k
    · subst e
      by_cases eb : p i = some gb
      · have hi0 := h.st.own i hi
        rw [eb] at hi0
        obtain ⟨hn, hi1⟩ := hi0.full
        have hc := hi1.caps h.cur.full.2
        have hf := ho.front
        have hsp : mkL mk i (n i + j) = mkL mk i (n i) ++ (mkL mk i (n i + j)).drop (n i) := by
          have ht : (mkL mk i (n i + j)).take (n i) = mkL mk i (n i) := by
            simp [mkL, ← List.map_take, List.take_range]
          rw [← ht, List.take_append_drop]
        rw [hsp] at hf
        have hf2 := hf.front.val
        rw [mkL_length] at hf2
        rw [hc, eb]
        exact hf2
      · exact (h.st.own i hi).kept hg (.inr (by rw [sl_block]; exact eb))
    · refine (h.st.own i hi).kept hg ?_
      rw [sl_block]
      rcases h.sepg i hi e with h3 | h3
      · cases h3
      · exact .inr (Ne.symm h3)
  · cases e
    rcases h.same with e | ⟨b, e, hb⟩
    · exact .inl ⟨k, hk, e.symm⟩
    · injection e with e
      subst e
      exact .inr hb
  · have h2 := ho.val
    rw [show n k + (j + 1) = n k + j + 1 by omega, sl_some, mkL_succ]
    rw [List.length_append, mkL_length] at h2
    exact h2

theorem St2i.done {T e : TypeId} {mk : Nat → Nat → Value} (hT : T ≠ e) {w wr : World} {K B L G : Nat} {p : Nat → Option Nat} {n c : Nat → Nat} {k : Nat} {ub uc : Nat → Nat} {gb gc : Nat} (h : St2i T e mk w K B L G p n c k ub uc (some gb) gc 64 wr) (hG : w.heap.size ≤ G) (hL : L < w.heap.size) :
    St2 T e mk w K B L G p n c (k + 1) (fun i => if i = k then gb else ub i) (fun i => if i = k then gc else uc i) (wr.setCell ⟨G, k, none⟩ (.slice (some ⟨gb, 0, none⟩) (n k + 64) gc)) := by
  refine ⟨h.st.own.store_other _ _ _ (fun j hj => h.st.gs.ne hT (h.st.own j hj)), ?_, ?_, fun i hi => ?_, fun i hi j hj hne => ?_, h.st.keeps.setCell _ _ _ (.inr hG)⟩
  · exact h.st.tab.store_other _ _ _ (by omega)
  · have := h.st.gs.store k (.slice (some ⟨gb, 0, none⟩) (n k + 64) gc)
    have e : (fun i => if i = k then Value.slice (some ⟨gb, 0, none⟩) (n k + 64) gc else if i < k then Value.slice (some ⟨ub i, 0, none⟩) (n i + 64) (uc i) else .slice none 0 0) = fun i => if i < k + 1 then Value.slice (some ⟨if i = k then gb else ub i, 0, none⟩) (n i + 64) (if i = k then gc else uc i) else .slice none 0 0 := by
      funext i
      by_cases e : i = k
      · subst e; simp
      · by_cases hi : i < k
        · simp [e, hi, show i < k + 1 by omega]
        · simp [e, hi, show ¬ i < k + 1 by omega]
    rw [e] at this
    exact this
  · by_cases e : i = k
    · subst e
      simp only [if_true]
      have h2 := h.cur.store_other G i (.slice (some ⟨gb, 0, none⟩) (n i + 64) gc) (by rw [sl_block]; exact h.st.gs.ne hT h.cur)
      exact h2.full.2
    · simp only [e, if_false]
      have hu : GOwnV T wr B (slA (some (ub i)) (n i + 64) (uc i)) (mkL mk i (n i + 64)) := by
        have := (h.st.us i (by omega)).val
        rw [mkL_length] at this
        exact this
      exact (hu.store_other G k _ (by rw [sl_block]; exact h.st.gs.ne hT hu)).full.2
  · by_cases e : i = k
    · subst e
      simp only [if_true]
      rcases h.sepg j hj (Ne.symm hne) with h3 | h3
      · cases h3
      · exact Ne.symm h3
    · simp only [e, if_false]
      exact h.st.sep i (by omega) j hj hne
end Go.Proofs.Ytkpieeldoielgaa

/- Lists of three-cell elements (or nil) that lie apart: what stores and appends leave as it was; the states of switchyardkit's Apart functions over them. Plain facts on worlds. -/
namespace Go.Proofs.Ytkpieeldoielgaa
open Go.RowKit

def ptr (p : Option Nat) : Option Addr := p.map fun b => ⟨b, 0, none⟩
theorem sl_ptr (p : Option Nat) (n c : Nat) : slA p n c = .slice (ptr p) n c := rfl
theorem ptr_some (g : Nat) : ptr (some g) = some ⟨g, 0, none⟩ := rfl
/-- a list of such elements, not nil -/
def TOw (T : TypeId) (w : World) (B g cap : Nat) (L : List V3) : Prop := w.ownsRow B T 3 (.slice (some ⟨g, 0, none⟩) L.length cap) L.length (c3 L)
theorem TOw.parts {T : TypeId} {w : World} {B g cap : Nat} {L : List V3} (h : TOw T w B g cap L) :
    ∃ cur, B ≤ g ∧ w.heap[g]? = some (.cells cur T (0, 0)) ∧ L.length ≤ cap ∧ cap ≤ maxLen ∧ cur.size = cap * 3 ∧ cur.toList.take (L.length * 3) = c3 L := by
  rcases h.2 with ⟨h', _⟩ | ⟨g', cap', cur, h', h1, h2, h3, h4, h5, h6⟩
  · simp at h'
  · simp only [Value.slice.injEq, Option.some.injEq, Addr.mk.injEq, and_true, true_and] at h'
    obtain ⟨rfl, rfl⟩ := h'
    exact ⟨cur, h1, h2, h3, h4, h5, h6⟩
theorem TOw.mk {T : TypeId} {w : World} {B g cap : Nat} {L : List V3} {cur : Array Value} (h1 : B ≤ g) (h2 : w.heap[g]? = some (.cells cur T (0, 0))) (h3 : L.length ≤ cap) (h4 : cap ≤ maxLen) (h5 : cur.size = cap * 3) (h6 : cur.toList.take (L.length * 3) = c3 L) : TOw T w B g cap L :=
  ⟨c3_len L, .inr ⟨g, cap, cur, rfl, h1, h2, h3, h4, h5, h6⟩⟩
theorem TOw.lt {T : TypeId} {w : World} {B g cap : Nat} {L : List V3} (h : TOw T w B g cap L) : g < w.heap.size := by
  obtain ⟨cur, _, h2, _⟩ := h.parts
  rcases Nat.lt_or_ge g w.heap.size with h | h
  · exact h
  · rw [Array.getElem?_eq_none h] at h2; cases h2
theorem TOw.base {T : TypeId} {w : World} {B g cap : Nat} {L : List V3} (h : TOw T w B g cap L) : B ≤ g := by obtain ⟨cur, h1, _⟩ := h.parts; exact h1
theorem TOw.lower {T : TypeId} {w : World} {B B' g cap : Nat} {L : List V3} (h : TOw T w B g cap L) (hB : B' ≤ g) : TOw T w B' g cap L := by
  obtain ⟨cur, _, h2, h3, h4, h5, h6⟩ := h.parts
  exact TOw.mk hB h2 h3 h4 h5 h6
theorem TOw.cell {T : TypeId} {w : World} {B g cap : Nat} {L : List V3} (h : TOw T w B g cap L) (i : Nat) (hi : i < L.length) (j : Nat) (hj : j < 3) : w.cell? ⟨g, i * 3 + j, none⟩ = (l3 L[i])[j]? := by
  have hr : w.ownsRow B T 3 (.slice (some ⟨g, 0, none⟩) L.length cap) L.length (c3 L) := h
  rw [hr.cellAt (i * 3 + j) (by omega), c3_at L i hi j hj]
theorem TOw.free {T : TypeId} {w : World} {B g cap : Nat} {L : List V3} (h : TOw T w B g cap L) (i : Nat) : w.frozen? ⟨g, i, none⟩ = false := World.ownsRow.frozenAt h i
theorem TOw.val {T : TypeId} {w : World} {B g cap : Nat} {L : List V3} (h : TOw T w B g cap L) : TOwn T w B (.slice (some ⟨g, 0, none⟩) L.length cap) L := h
theorem TOwn.form {T : TypeId} {w : World} {B : Nat} {v : Value} {L : List V3} (h : TOwn T w B v L) : (v = .slice none 0 0 ∧ L = []) ∨ ∃ g cap, v = .slice (some ⟨g, 0, none⟩) L.length cap ∧ TOw T w B g cap L := by
  rcases h.2 with ⟨h1, h2⟩ | ⟨g, cap, cur, h1, h2⟩
  · exact .inl ⟨h1, List.eq_nil_of_length_eq_zero h2⟩
  · subst h1
    exact .inr ⟨g, cap, rfl, h⟩
theorem TOwn.kept {T : TypeId} {w w' : World} {B : Nat} {v : Value} {L : List V3} {row : Option Nat} (h : TOwn T w B v L) (hg : w.grownBy w' row) (hne : v.ownBlock = none ∨ v.ownBlock ≠ row) : TOwn T w' B v L := World.ownsRow.kept h hg hne
theorem TOwn.store_other {T : TypeId} {w : World} {B : Nat} {v : Value} {L : List V3} (h : TOwn T w B v L) (b i : Nat) (u : Value) (hne : v.ownBlock ≠ some b) : TOwn T (w.setCell ⟨b, i, none⟩ u) B v L :=
  h.kept (row := some b) ⟨rfl, rfl, rfl, by simp, fun k _ hk => heap_setCell_other w ⟨b, i, none⟩ k u (fun e => hk (by simp [e]))⟩ (.inr hne)
/-- an element stored -/
def aset3 (w : World) (g i : Nat) (q : V3) : World := ((w.setCell ⟨g, i * 3, none⟩ q.1).setCell ⟨g, i * 3 + 1, none⟩ q.2.1).setCell ⟨g, i * 3 + 2, none⟩ q.2.2
theorem ac3_set3 : ∀ (L : List V3) (i : Nat) (q : V3), i < L.length → (((c3 L).set (i * 3) q.1).set (i * 3 + 1) q.2.1).set (i * 3 + 2) q.2.2 = c3 (L.set i q)
  | x :: L, 0, q, _ => by
    show (((l3 x ++ c3 L).set (0 * 3) q.1).set (0 * 3 + 1) q.2.1).set (0 * 3 + 2) q.2.2 = l3 q ++ c3 L
    rfl
  | x :: L, i + 1, q, h => by
    have ih := ac3_set3 L i q (by simpa using h)
    have h3 : (l3 x).length = 3 := rfl
    show (((l3 x ++ c3 L).set ((i + 1) * 3) q.1).set ((i + 1) * 3 + 1) q.2.1).set ((i + 1) * 3 + 2) q.2.2 = l3 x ++ c3 (L.set i q)
    rw [List.set_append_right _ _ (by rw [h3]; omega), List.set_append_right _ _ (by rw [h3]; omega), List.set_append_right _ _ (by rw [h3]; omega), h3, show (i + 1) * 3 - 3 = i * 3 by omega, show (i + 1) * 3 + 1 - 3 = i * 3 + 1 by omega, show (i + 1) * 3 + 2 - 3 = i * 3 + 2 by omega, ih]
theorem TOw.store {T : TypeId} {w : World} {B g cap : Nat} {L : List V3} (h : TOw T w B g cap L) (i : Nat) (hi : i < L.length) (q : V3) : TOw T (aset3 w g i q) B g cap (L.set i q) := by
  have h1 := (World.ownsRow.stored h (i * 3) q.1).1
  have h2 := (World.ownsRow.stored h1 (i * 3 + 1) q.2.1).1
  have h3 := (World.ownsRow.stored h2 (i * 3 + 2) q.2.2).1
  rw [ac3_set3 L i q hi] at h3
  unfold TOw
  rw [List.length_set]
  exact h3
theorem aset3_block (w : World) (g i : Nat) (q : V3) (k : Nat) (h : k ≠ g) : (aset3 w g i q).heap[k]? = w.heap[k]? := by
  unfold aset3
  rw [heap_setCell_other _ ⟨g, i * 3 + 2, none⟩ k _ h, heap_setCell_other _ ⟨g, i * 3 + 1, none⟩ k _ h, heap_setCell_other _ ⟨g, i * 3, none⟩ k _ h]
theorem TOwn.set3_other {T : TypeId} {w : World} {B : Nat} {v : Value} {L : List V3} (h : TOwn T w B v L) (b i : Nat) (q : V3) (hne : v.ownBlock ≠ some b) : TOwn T (aset3 w b i q) B v L :=
  ((h.store_other b (i * 3) q.1 hne).store_other b (i * 3 + 1) q.2.1 hne).store_other b (i * 3 + 2) q.2.2 hne
theorem TabOf.aset3 {e : TypeId} {w : World} {L K : Nat} {f : Nat → Value} (h : TabOf e w L K f) (b i : Nat) (q : V3) (hne : L ≠ b) : TabOf e (aset3 w b i q) L K f :=
  ((h.store_other b (i * 3) q.1 hne).store_other b (i * 3 + 1) q.2.1 hne).store_other b (i * 3 + 2) q.2.2 hne
theorem Keeps.aset3 {G : Nat → Prop} {a w : World} (h : Keeps G a w) (b i : Nat) (q : V3) (hb : G b ∨ a.heap.size ≤ b) : Keeps G a (aset3 w b i q) :=
  ((h.setCell b (i * 3) q.1 hb).setCell b (i * 3 + 1) q.2.1 hb).setCell b (i * 3 + 2) q.2.2 hb

theorem TOwn.filled {T : TypeId} {w : World} {B : Nat} {p : Option Nat} {n c : Nat} {vs : List V3} (h : TOwn T w B (slA p n c) vs) (h0 : 0 < vs.length) : ∃ g, p = some g ∧ n = vs.length ∧ TOw T w B g c vs := by
  rcases h.form with ⟨_, e⟩ | ⟨g, cap, e, ho⟩
  · rw [e] at h0; exact absurd h0 (Nat.lt_irrefl 0)
  · cases p with
    | none => simp [slA] at e
    | some b =>
      simp [slA] at e
      obtain ⟨rfl, rfl, rfl⟩ := e
      exact ⟨b, rfl, rfl, ho⟩
theorem TOwn.full {T : TypeId} {w : World} {B g n c : Nat} {vs : List V3} (h : TOwn T w B (slA (some g) n c) vs) : n = vs.length ∧ TOw T w B g c vs := by
  rcases h.form with ⟨e, _⟩ | ⟨g', cap, e, ho⟩
  · simp [slA] at e
  · simp [slA] at e
    obtain ⟨rfl, rfl, rfl⟩ := e
    exact ⟨rfl, ho⟩
theorem TOw.caps {T T' : TypeId} {w : World} {B B' g cap cap' : Nat} {xs ys : List V3} (h : TOw T w B g cap xs) (h' : TOw T' w B' g cap' ys) : cap = cap' := by
  obtain ⟨cur, _, h2, _, _, h5, _⟩ := h.parts
  obtain ⟨cur', _, h2', _, _, h5', _⟩ := h'.parts
  rw [h2] at h2'
  cases h2'
  omega
theorem TOw.front {T : TypeId} {w : World} {B g cap : Nat} {xs ys : List V3} (h : TOw T w B g cap (xs ++ ys)) : TOw T w B g cap xs := by
  obtain ⟨cur, h1, h2, h3, h4, h5, h6⟩ := h.parts
  rw [List.length_append] at h3
  refine TOw.mk h1 h2 (by omega) h4 h5 ?_
  have e : cur.toList.take (xs.length * 3) = (cur.toList.take ((xs ++ ys).length * 3)).take (xs.length * 3) := by
    rw [List.take_take, List.length_append, Nat.min_eq_left (by omega)]
  rw [e, h6, c3_two, ← c3_len xs, List.take_left]

theorem TabOf.ne3 {e T : TypeId} (hT : T ≠ e) {w : World} {L K : Nat} {f : Nat → Value} (h : TabOf e w L K f) {B n c : Nat} {p : Option Nat} {vs : List V3} (ho : TOwn T w B (slA p n c) vs) : p ≠ some L := fun he => by
  subst he
  obtain ⟨cur, _, h2, _⟩ := ho.full.2.parts
  unfold TabOf at h
  rw [h2] at h
  injection h with h
  injection h with _ h
  exact hT h
/-- lists apart: each in a block of its own, or nil -/
def AllOwn3 (T : TypeId) (w : World) (B K : Nat) (p : Nat → Option Nat) (n c : Nat → Nat) (ct : Nat → List V3) : Prop := ∀ j, j < K → TOwn T w B (slA (p j) (n j) (c j)) (ct j)
theorem AllOwn3.kept {T : TypeId} {w w' : World} {B K : Nat} {p : Nat → Option Nat} {n c : Nat → Nat} {ct : Nat → List V3} {row : Option Nat} (h : AllOwn3 T w B K p n c ct) (hg : w.grownBy w' row) (hne : ∀ j, j < K → p j = none ∨ p j ≠ row) : AllOwn3 T w' B K p n c ct :=
  fun j hj => (h j hj).kept hg (by rw [sl_block]; exact hne j hj)
theorem AllOwn3.store_other {T : TypeId} {w : World} {B K : Nat} {p : Nat → Option Nat} {n c : Nat → Nat} {ct : Nat → List V3} (h : AllOwn3 T w B K p n c ct) (b i : Nat) (v : Value) (hne : ∀ j, j < K → p j ≠ some b) : AllOwn3 T (w.setCell ⟨b, i, none⟩ v) B K p n c ct :=
  fun j hj => (h j hj).store_other b i v (by rw [sl_block]; exact hne j hj)
theorem AllOwn3.store {T : TypeId} {w : World} {B K : Nat} {p : Nat → Option Nat} {n c : Nat → Nat} {ct ct' : Nat → List V3} (h : AllOwn3 T w B K p n c ct) (ha : Apart K p) (k i g : Nat) (hk : k < K) (hp : p k = some g) (hi : i < (ct k).length) (z : V3) (h1 : ct' k = (ct k).set i z) (h2 : ∀ j, j ≠ k → ct' j = ct j) : AllOwn3 T (aset3 w g i z) B K p n c ct' := fun j hj => by
  by_cases e : j = k
  · subst e
    have ho := h j hj
    rw [hp] at ho
    obtain ⟨hn, ho2⟩ := ho.full
    rw [h1, hp, sl_some, hn]
    have := ho2.store i hi z
    have h3 : TOwn T (aset3 w g i z) B (.slice (some ⟨g, 0, none⟩) ((ct j).set i z).length (c j)) ((ct j).set i z) := this.val
    rw [List.length_set] at h3
    exact h3
  · rw [h2 j e]
    refine (h j hj).set3_other g i _ ?_
    rw [sl_block]
    rcases ha j k hj hk e with h3 | h3
    · rw [h3]; simp
    · rw [← hp]; exact h3
theorem AllOwn3.drewN {T : TypeId} {w : World} {B K : Nat} {p : Nat → Option Nat} {n c : Nat → Nat} {ct : Nat → List V3} (h : AllOwn3 T w B K p n c ct) (m : Nat) : AllOwn3 T (w.drewN m) B K p n c ct := h
theorem AllOwn3.drew {T : TypeId} {w : World} {B K : Nat} {p : Nat → Option Nat} {n c : Nat → Nat} {ct : Nat → List V3} (h : AllOwn3 T w B K p n c ct) : AllOwn3 T w.drew B K p n c ct := h

/-- the first m marks of list k -/
def mkL3 (mk : Nat → Nat → V3) (k m : Nat) : List V3 := (List.range m).map (mk k)
theorem mkL3_length (mk : Nat → Nat → V3) (k m : Nat) : (mkL3 mk k m).length = m := by simp [mkL3]
theorem mkL3_succ (mk : Nat → Nat → V3) (k m : Nat) : mkL3 mk k (m + 1) = mkL3 mk k m ++ [mk k m] := by simp [mkL3, List.range_succ]
theorem mkL3_at (mk : Nat → Nat → V3) (k m i : Nat) (h : i < m) : (mkL3 mk k m)[i]? = some (mk k i) := by simp [mkL3, h]

/-- list k, its first i places marked -/
def part3 (mk : Nat → Nat → V3) (xs : List V3) (k i : Nat) : List V3 := mkL3 mk k i ++ xs.drop i
theorem part3_zero (mk : Nat → Nat → V3) (xs : List V3) (k : Nat) : part3 mk xs k 0 = xs := by simp [part3, mkL3]
theorem part3_end (mk : Nat → Nat → V3) (xs : List V3) (k n : Nat) (h : xs.length = n) : part3 mk xs k n = mkL3 mk k n := by simp [part3, h]
theorem part3_length (mk : Nat → Nat → V3) (xs : List V3) (k i n : Nat) (h : xs.length = n) (hi : i ≤ n) : (part3 mk xs k i).length = n := by simp [part3, mkL3_length, h]; omega
theorem part3_step (mk : Nat → Nat → V3) (xs : List V3) (k i n : Nat) (h : xs.length = n) (hi : i < n) : (part3 mk xs k i).set i (mk k i) = part3 mk xs k (i + 1) := by
  unfold part3
  have hl : (mkL3 mk k i).length = i := mkL3_length mk k i
  rw [List.set_append_right _ _ (by omega), hl, Nat.sub_self, mkL3_succ, List.append_assoc, List.drop_eq_getElem_cons (by omega : i < xs.length)]
  rfl

/-- what the lists hold in the first loop: those before k are marked, k up to i -/
def ctAt3 (mk : Nat → Nat → V3) (xs : Nat → List V3) (n : Nat → Nat) (k i j : Nat) : List V3 := if j < k then mkL3 mk j (n j) else if j = k then part3 mk (xs j) j i else xs j
theorem ctAt3_zero (mk : Nat → Nat → V3) (xs : Nat → List V3) (n : Nat → Nat) (k j : Nat) : ctAt3 mk xs n k 0 j = if j < k then mkL3 mk j (n j) else xs j := by
  unfold ctAt3
  by_cases h : j < k
  · rw [if_pos h, if_pos h]
  · rw [if_neg h, if_neg h]
    split
    · exact part3_zero ..
    · rfl
theorem ctAt3_next (mk : Nat → Nat → V3) (xs : Nat → List V3) (n : Nat → Nat) (k j : Nat) (h : (xs k).length = n k) : ctAt3 mk xs n k (n k) j = ctAt3 mk xs n (k + 1) 0 j := by
  rw [ctAt3_zero]
  unfold ctAt3
  by_cases h1 : j < k
  · rw [if_pos h1, if_pos (by omega)]
  · rw [if_neg h1]
    by_cases h2 : j = k
    · subst h2
      rw [if_pos rfl, if_pos (by omega), part3_end _ _ _ _ h]
    · rw [if_neg h2, if_neg (by omega)]

/-- the first loop's state -/
structure St13 (T e : TypeId) (w : World) (K B L G : Nat) (p : Nat → Option Nat) (n c : Nat → Nat) (ct : Nat → List V3) (wr : World) : Prop where
  own : AllOwn3 T wr B K p n c ct
  tab : TabOf e wr L K (fun k => slA (p k) (n k) (c k))
  gs : TabOf e wr G K (fun _ => .slice none 0 0)
  keeps : Keeps (GSet K p) w wr

theorem St13.mark {T e : TypeId} {mk : Nat → Nat → V3} (hT : T ≠ e) {w wr : World} {K B L G : Nat} {p : Nat → Option Nat} {n c : Nat → Nat} {xs : Nat → List V3} {k i g : Nat} (h : St13 T e w K B L G p n c (fun j => ctAt3 mk xs n k i j) wr) (ha : Apart K p) (hk : k < K) (hp : p k = some g) (hx : (xs k).length = n k) (hi : i < n k) :
    St13 T e w K B L G p n c (fun j => ctAt3 mk xs n k (i + 1) j) (aset3 wr g i (mk k i)) := by
  have ho := h.own k hk
  have n1 := h.tab.ne3 hT ho
  have n2 := h.gs.ne3 hT ho
  rw [hp] at n1 n2
  refine ⟨h.own.store ha k i g hk hp (by simp only [ctAt3, Nat.lt_irrefl, if_false, if_true]; rw [part3_length mk (xs k) k i (n k) hx (by omega)]; exact hi) _ ?_ (fun j hj => ?_), h.tab.aset3 _ _ _ (fun e => n1 (by rw [e])), h.gs.aset3 _ _ _ (fun e => n2 (by rw [e])), h.keeps.aset3 _ _ _ (.inl ⟨k, hk, hp⟩)⟩
  · simp only [ctAt3, Nat.lt_irrefl, if_false, if_true]
    exact (part3_step mk (xs k) k i (n k) hx hi).symm
  · simp [ctAt3, hj]
theorem St13.drew {T e : TypeId} {w wr : World} {K B L G : Nat} {p : Nat → Option Nat} {n c : Nat → Nat} {ct : Nat → List V3} (h : St13 T e w K B L G p n c ct wr) : St13 T e w K B L G p n c ct wr.drew := ⟨h.own.drew, h.tab.drew, h.gs.drew, h.keeps.drew⟩
theorem St13.drewN {T e : TypeId} {w wr : World} {K B L G : Nat} {p : Nat → Option Nat} {n c : Nat → Nat} {ct : Nat → List V3} (h : St13 T e w K B L G p n c ct wr) (m : Nat) : St13 T e w K B L G p n c ct (wr.drewN m) := ⟨h.own.drewN m, h.tab.drewN m, h.gs.drewN m, h.keeps.drewN m⟩
theorem St13.grown {T e : TypeId} {w wr w1 : World} {K B L G : Nat} {p : Nat → Option Nat} {n c : Nat → Nat} {ct : Nat → List V3} (h : St13 T e w K B L G p n c ct wr) (hg : wr.grownBy w1 none) : St13 T e w K B L G p n c ct w1 :=
  ⟨h.own.kept hg (fun j _ => by cases p j <;> simp), h.tab.kept hg (by simp), h.gs.kept hg (by simp), h.keeps.grown hg (fun _ e => by cases e)⟩

/-- the second loop's state: the lists before k have grown -/
structure St23 (T e : TypeId) (mk : Nat → Nat → V3) (w : World) (K B L G : Nat) (p : Nat → Option Nat) (n c : Nat → Nat) (k : Nat) (ub uc : Nat → Nat) (wr : World) : Prop where
  own : AllOwn3 T wr B K p n c (fun j => mkL3 mk j (n j))
  tab : TabOf e wr L K (fun k => slA (p k) (n k) (c k))
  gs : TabOf e wr G K (fun i => if i < k then .slice (some ⟨ub i, 0, none⟩) (n i + 64) (uc i) else .slice none 0 0)
  us : ∀ i, i < k → TOw T wr B (ub i) (uc i) (mkL3 mk i (n i + 64))
  sep : ∀ i, i < k → ∀ j, j < K → i ≠ j → p j ≠ some (ub i)
  keeps : Keeps (GSet K p) w wr

theorem St13.next {T e : TypeId} {mk : Nat → Nat → V3} {w wr : World} {K B L G : Nat} {p : Nat → Option Nat} {n c : Nat → Nat} {xs : Nat → List V3} (h : St13 T e w K B L G p n c (fun j => ctAt3 mk xs n K 0 j) wr) : St23 T e mk w K B L G p n c 0 (fun _ => 0) (fun _ => 0) wr :=
  ⟨fun j hj => by have := h.own j hj; simpa only [ctAt3_zero, if_pos hj] using this, h.tab, by simpa using h.gs, fun i hi => absurd hi (Nat.not_lt_zero i), fun i hi => absurd hi (Nat.not_lt_zero i), h.keeps⟩

/-- .. and while list k grows: it stands in block q (or is nil still), with j marks more -/
structure St23i (T e : TypeId) (mk : Nat → Nat → V3) (w : World) (K B L G : Nat) (p : Nat → Option Nat) (n c : Nat → Nat) (k : Nat) (ub uc : Nat → Nat) (q : Option Nat) (gc j : Nat) (wr : World) : Prop where
  st : St23 T e mk w K B L G p n c k ub uc wr
  cur : TOwn T wr B (slA q (n k + j) gc) (mkL3 mk k (n k + j))
  sepg : ∀ i, i < K → i ≠ k → q = none ∨ q ≠ p i
  sepu : ∀ i, i < k → q ≠ some (ub i)
  same : q = p k ∨ ∃ b, q = some b ∧ w.heap.size ≤ b

theorem St23.start {T e : TypeId} {mk : Nat → Nat → V3} {w wr : World} {K B L G : Nat} {p : Nat → Option Nat} {n c : Nat → Nat} {k : Nat} {ub uc : Nat → Nat} (h : St23 T e mk w K B L G p n c k ub uc wr) (ha : Apart K p) (hk : k < K) : St23i T e mk w K B L G p n c k ub uc (p k) (c k) 0 wr :=
  ⟨h, h.own k hk, fun i hi hne => ha k i hk hi (Ne.symm hne), fun i hi => h.sep i hi k hk (by omega), .inl rfl⟩

theorem St23i.grown {T e : TypeId} {mk : Nat → Nat → V3} {w wr w1 : World} {K B L G : Nat} {p : Nat → Option Nat} {n c : Nat → Nat} {k : Nat} {ub uc : Nat → Nat} {q : Option Nat} {gc j : Nat} (h : St23i T e mk w K B L G p n c k ub uc q gc j wr) (hg : wr.grownBy w1 none) : St23i T e mk w K B L G p n c k ub uc q gc j w1 :=
  ⟨⟨h.st.own.kept hg (fun j _ => by cases p j <;> simp), h.st.tab.kept hg (by simp), h.st.gs.kept hg (by simp), fun i hi => TOwn.kept (h.st.us i hi).val hg (.inr (by simp [Value.ownBlock])), h.st.sep, h.st.keeps.grown hg (fun _ e => by cases e)⟩,
    h.cur.kept hg (by rw [sl_block]; cases q <;> simp), h.sepg, h.sepu, h.same⟩

theorem St23i.grows {T e : TypeId} {mk : Nat → Nat → V3} {w wr w1 : World} {K B L G : Nat} {p : Nat → Option Nat} {n c : Nat → Nat} {k : Nat} {ub uc : Nat → Nat} {q : Option Nat} {gc j gb' gc' B' : Nat} (h : St23i T e mk w K B L G p n c k ub uc q gc j wr) (hBw : B ≤ wr.heap.size) (hg : wr.grownBy w1 none) (hB : wr.heap.size ≤ B') (ho : TOw T w1 B' gb' gc' (mkL3 mk k (n k + j) ++ [mk k (n k + j)])) :
    St23i T e mk w K B L G p n c k ub uc (some gb') gc' (j + 1) w1 := by
  have hb := ho.base
  have h1 := h.grown hg
  refine ⟨h1.st, ?_, fun i hi _ => .inr fun e => ?_, fun i hi e => ?_, .inr ⟨gb', rfl, Nat.le_trans h.st.keeps.size (by omega)⟩⟩
  · have h2 := (ho.lower (B' := B) (by omega)).val
    rw [show n k + (j + 1) = n k + j + 1 by omega, sl_some, mkL3_succ]
    rw [List.length_append, mkL3_length] at h2
    exact h2
  · have ho2 := h.st.own i hi
    rw [← e] at ho2
    have := ho2.full.2.lt
    omega
  · have := (h.st.us i hi).lt
    injection e with e
    omega

theorem St23i.fits {T e : TypeId} {mk : Nat → Nat → V3} (hT : T ≠ e) {w wr w1 : World} {K B L G : Nat} {p : Nat → Option Nat} {n c : Nat → Nat} {k : Nat} {ub uc : Nat → Nat} {gb gc j : Nat} (h : St23i T e mk w K B L G p n c k ub uc (some gb) gc j wr) (hk : k < K) (hg : wr.grownBy w1 (some gb)) (ho : TOw T w1 B gb gc (mkL3 mk k (n k + j) ++ [mk k (n k + j)])) :
    St23i T e mk w K B L G p n c k ub uc (some gb) gc (j + 1) w1 := by
  have n1 := h.st.tab.ne3 hT h.cur
  have n2 := h.st.gs.ne3 hT h.cur
  refine ⟨⟨fun i hi => ?_, h.st.tab.kept hg (Ne.symm n1), h.st.gs.kept hg (Ne.symm n2), fun i hi => TOwn.kept (h.st.us i hi).val hg (.inr (Ne.symm (h.sepu i hi))), h.st.sep, h.st.keeps.grown hg (fun b e => ?_)⟩, ?_, h.sepg, h.sepu, h.same⟩
  · by_cases e : i = k
    · subst e
      by_cases eb : p i = some gb
      · have hi0 := h.st.own i hi
        rw [eb] at hi0
        obtain ⟨hn, hi1⟩ := hi0.full
        have hc := hi1.caps h.cur.full.2
        have hf := ho.front
        have hsp : mkL3 mk i (n i + j) = mkL3 mk i (n i) ++ (mkL3 mk i (n i + j)).drop (n i) := by
          have ht : (mkL3 mk i (n i + j)).take (n i) = mkL3 mk i (n i) := by
            simp [mkL3, ← List.map_take, List.take_range]
          rw [← ht, List.take_append_drop]
        rw [hsp] at hf
        have hf2 := hf.front.val
        rw [mkL3_length] at hf2
        rw [hc, eb]
        exact hf2
      · exact (h.st.own i hi).kept hg (.inr (by rw [sl_block]; exact eb))
    · refine (h.st.own i hi).kept hg ?_
      rw [sl_block]
      rcases h.sepg i hi e with h3 | h3
      · cases h3
      · exact .inr (Ne.symm h3)
  · cases e
    rcases h.same with e | ⟨b, e, hb⟩
    · exact .inl ⟨k, hk, e.symm⟩
    · injection e with e
      subst e
      exact .inr hb
  · have h2 := ho.val
    rw [show n k + (j + 1) = n k + j + 1 by omega, sl_some, mkL3_succ]
    rw [List.length_append, mkL3_length] at h2
    exact h2

theorem St23i.done {T e : TypeId} {mk : Nat → Nat → V3} (hT : T ≠ e) {w wr : World} {K B L G : Nat} {p : Nat → Option Nat} {n c : Nat → Nat} {k : Nat} {ub uc : Nat → Nat} {gb gc : Nat} (h : St23i T e mk w K B L G p n c k ub uc (some gb) gc 64 wr) (hG : w.heap.size ≤ G) (hL : L < w.heap.size) :
    St23 T e mk w K B L G p n c (k + 1) (fun i => if i = k then gb else ub i) (fun i => if i = k then gc else uc i) (wr.setCell ⟨G, k, none⟩ (.slice (some ⟨gb, 0, none⟩) (n k + 64) gc)) := by
  refine ⟨h.st.own.store_other _ _ _ (fun j hj => h.st.gs.ne3 hT (h.st.own j hj)), ?_, ?_, fun i hi => ?_, fun i hi j hj hne => ?_, h.st.keeps.setCell _ _ _ (.inr hG)⟩
  · exact h.st.tab.store_other _ _ _ (by omega)
  · have := h.st.gs.store k (.slice (some ⟨gb, 0, none⟩) (n k + 64) gc)
    have e : (fun i => if i = k then Value.slice (some ⟨gb, 0, none⟩) (n k + 64) gc else if i < k then Value.slice (some ⟨ub i, 0, none⟩) (n i + 64) (uc i) else .slice none 0 0) = fun i => if i < k + 1 then Value.slice (some ⟨if i = k then gb else ub i, 0, none⟩) (n i + 64) (if i = k then gc else uc i) else .slice none 0 0 := by
      funext i
      by_cases e : i = k
      · subst e; simp
      · by_cases hi : i < k
        · simp [e, hi, show i < k + 1 by omega]
        · simp [e, hi, show ¬ i < k + 1 by omega]
    rw [e] at this
    exact this
  · by_cases e : i = k
    · subst e
      simp only [if_true]
      have h2 := h.cur.store_other G i (.slice (some ⟨gb, 0, none⟩) (n i + 64) gc) (by rw [sl_block]; exact h.st.gs.ne3 hT h.cur)
      exact h2.full.2
    · simp only [e, if_false]
      have hu : TOwn T wr B (slA (some (ub i)) (n i + 64) (uc i)) (mkL3 mk i (n i + 64)) := by
        have := (h.st.us i (by omega)).val
        rw [mkL3_length] at this
        exact this
      exact (hu.store_other G k _ (by rw [sl_block]; exact h.st.gs.ne3 hT hu)).full.2
  · by_cases e : i = k
    · subst e
      simp only [if_true]
      rcases h.sepg j hj (Ne.symm hne) with h3 | h3
      · cases h3
      · exact Ne.symm h3
    · simp only [e, if_false]
      exact h.st.sep i (by omega) j hj hne
/-- what stands where the first loop marks -/
theorem St13.look {T e : TypeId} {mk : Nat → Nat → V3} (hT : T ≠ e) {w wr : World} {K B L G : Nat} {p : Nat → Option Nat} {n c : Nat → Nat} {xs : Nat → List V3} {k i g : Nat} (h : St13 T e w K B L G p n c (fun j => ctAt3 mk xs n k i j) wr) (hk : k < K) (hp : p k = some g) (hx : (xs k).length = n k) (hi : i < n k) :
    wr.cell? ⟨L, k, none⟩ = some (.slice (some ⟨g, 0, none⟩) (n k) (c k)) ∧ (∃ o0 o1 o2, wr.cell? ⟨g, i * 3, none⟩ = some o0 ∧ wr.cell? ⟨g, i * 3 + 1, none⟩ = some o1 ∧ wr.cell? ⟨g, i * 3 + 2, none⟩ = some o2) ∧ (wr.frozen? ⟨g, i * 3, none⟩ = false ∧ wr.frozen? ⟨g, i * 3 + 1, none⟩ = false ∧ wr.frozen? ⟨g, i * 3 + 2, none⟩ = false) ∧ L ≠ g := by
  have cl := h.tab.cell k hk
  rw [sl_ptr, hp, ptr_some] at cl
  have ho := h.own k hk
  have hne : L ≠ g := fun e => h.tab.ne3 hT ho (by rw [hp, e])
  have hct : ctAt3 mk xs n k i k = part3 mk (xs k) k i := by simp [ctAt3]
  have hpl := part3_length mk (xs k) k i (n k) hx (by omega)
  rw [hp, hct] at ho
  obtain ⟨-, ho2⟩ := ho.full
  exact ⟨cl, ⟨_, _, _, ho2.cell i (by omega) 0 (by decide), ho2.cell i (by omega) 1 (by decide), ho2.cell i (by omega) 2 (by decide)⟩, ⟨ho2.free _, ho2.free _, ho2.free _⟩, hne⟩
/-- an element's three cells -/
def At3 (w : World) (g i : Nat) (q : V3) : Prop := w.cell? ⟨g, i * 3, none⟩ = some q.1 ∧ w.cell? ⟨g, i * 3 + 1, none⟩ = some q.2.1 ∧ w.cell? ⟨g, i * 3 + 2, none⟩ = some q.2.2
theorem TOw.at {T : TypeId} {w : World} {B g cap : Nat} {L : List V3} (h : TOw T w B g cap L) {i : Nat} {q : V3} (hq : L[i]? = some q) : At3 w g i q := by
  obtain ⟨hi, rfl⟩ := List.getElem?_eq_some_iff.1 hq
  exact ⟨h.cell i hi 0 (by decide), h.cell i hi 1 (by decide), h.cell i hi 2 (by decide)⟩
/-- what the third loop reads -/
theorem St23.look {T e : TypeId} {mk : Nat → Nat → V3} {w wr : World} {K B L G : Nat} {p : Nat → Option Nat} {n c : Nat → Nat} {ub uc : Nat → Nat} (h : St23 T e mk w K B L G p n c K ub uc wr) (k : Nat) (hk : k < K) :
    wr.cell? ⟨L, k, none⟩ = some (.slice (ptr (p k)) (n k) (c k)) ∧ wr.cell? ⟨G, k, none⟩ = some (.slice (some ⟨ub k, 0, none⟩) (n k + 64) (uc k)) ∧ (∀ i, i < n k + 64 → At3 wr (ub k) i (mk k i)) ∧ (0 < n k → ∃ g, p k = some g ∧ ∀ i, i < n k → At3 wr g i (mk k i)) := by
  refine ⟨h.tab.cell k hk, ?_, fun i hi => ?_, fun h0 => ?_⟩
  · have := h.gs.cell k hk
    rwa [if_pos hk] at this
  · exact (h.us k hk).at (mkL3_at mk k _ i hi)
  · obtain ⟨g, hp, -, ho⟩ := (h.own k hk).filled (by rw [mkL3_length]; exact h0)
    exact ⟨g, hp, fun i hi => ho.at (mkL3_at mk k _ i hi)⟩
theorem St23.grown {T e : TypeId} {mk : Nat → Nat → V3} {w wr w1 : World} {K B L G : Nat} {p : Nat → Option Nat} {n c : Nat → Nat} {k : Nat} {ub uc : Nat → Nat} (h : St23 T e mk w K B L G p n c k ub uc wr) (hg : wr.grownBy w1 none) : St23 T e mk w K B L G p n c k ub uc w1 :=
  ⟨h.own.kept hg (fun j _ => by cases p j <;> simp), h.tab.kept hg (by simp), h.gs.kept hg (by simp), fun i hi => TOwn.kept (h.us i hi).val hg (.inr (by simp [Value.ownBlock])), h.sep, h.keeps.grown hg (fun _ e => by cases e)⟩
end Go.Proofs.Ytkpieeldoielgaa

/- What switchyardkit.ApartSites answers, for lists that lie apart (or are nil): true; nothing but these lists is turned. -/
namespace Go.Proofs.Ytkpieeldoielgaa
open Go.RowKit

theorem Try.info28' : (Try.prog.info? 28).map (fun i => (i.zero, i.size, i.bytes)) = some (some (.slice none 0 0), 1, 24) := by kernel_rfl

/-- the mark of place i in list k -/
def msV (k i : Nat) : V3 := (.int .i64 k, .int .i64 i, .int .i64 0)
/-- 'append(g, z)' within the room -/
theorem tfits {ops : Array Oper} {rest : List Oper} {o : Oper} {a : Act} {Q : Exit → Act → World → Prop} {t T : TypeId} {by_ : Nat} (he : Elem3 t T by_) (w : World) (hgd : o.guard = none) (s x : Operand)
    (ho : o.op = .call { callee := .builtin .append, args := #[s, x], argTypes := #[t, t] }) (B g k cap : Nat) (xs : List V3) (hs : a.eval s = .slice (some ⟨g, 0, none⟩) k cap) (hk : xs.length = k) (hown : TOw T w B g cap xs)
    (ad : Addr) (m : Nat) (q : V3) (hq : one3 q) (hx : a.eval x = .slice (some ad) 1 m) (hnews : ∀ j u, (l3 q)[j]? = some u → w.cell? (ad.add j) = some u) (hroom : k + 1 ≤ cap)
    (h : ∀ w', TOw T w' B g cap (xs ++ [q]) → w.grownBy w' (some g) → wpList Try.prog ops Q rest (a.put o.dst (.slice (some ⟨g, 0, none⟩) (k + 1) cap)) w') :
    wpList Try.prog ops Q (o :: rest) a w := by
  obtain ⟨hu, z0, hzc, hinfo⟩ := he
  obtain ⟨i0, hi, hz0, hz2, hz3⟩ := info_parts hinfo
  subst hk
  refine wpList_append_fits w hgd s x t ho B T i0 3 hu hi hz2 g xs.length cap (c3 xs) hs hown ad 1 m (l3 q) hx rfl hnews (one3_mem hq) hroom fun w' h1 h2 => h w' ?_ h2
  unfold TOw
  rw [List.length_append, c3_two]
  have e : c3 [q] = l3 q := by simp [c3]
  rw [e]
  exact h1
/-- 'append(g, z)' without room: a new block -/
theorem tgrows {ops : Array Oper} {rest : List Oper} {o : Oper} {a : Act} {Q : Exit → Act → World → Prop} {t T : TypeId} {by_ : Nat} (he : Elem3 t T by_) (w : World) (hgd : o.guard = none) (s x : Operand)
    (ho : o.op = .call { callee := .builtin .append, args := #[s, x], argTypes := #[t, t] }) (B k cap : Nat) (q : Option Nat) (xs : List V3) (hs : a.eval s = .slice (q.map fun b => ⟨b, 0, none⟩) k cap) (hk : xs.length = k) (hown : TOwn T w B (slA q k cap) xs)
    (ad : Addr) (m : Nat) (z : V3) (hz1 : one3 z) (hx : a.eval x = .slice (some ad) 1 m) (hnews : ∀ j u, (l3 z)[j]? = some u → w.cell? (ad.add j) = some u) (hfull : cap < k + 1) (hlen : k + 1 ≤ 140737488355328) (hby : (k + 1) * by_ ≤ 140737488355328)
    (h : ∀ g' cap' w', TOw T w' w.heap.size g' cap' (xs ++ [z]) → w.grownBy w' none → wpList Try.prog ops Q rest (a.put o.dst (.slice (some ⟨g', 0, none⟩) (k + 1) cap')) w') :
    wpList Try.prog ops Q (o :: rest) a w := by
  obtain ⟨hu, z0, hzc, hinfo⟩ := he
  obtain ⟨i0, hi, hz0, hz2, hz3⟩ := info_parts hinfo
  subst hk
  refine wpList_append_grows w hgd s x t ho T i0 z0 3 by_ hu hi hz0 hz2 hz3 hzc (by decide) _ xs.length cap (c3 xs) hs (fun e => ?_) (c3_len xs) (fun b e j u hj => ?_) ad 1 m (l3 z) hx rfl hnews (one3_mem hz1) hfull (by unfold maxLen; omega) hby fun v' w' h1 h2 => ?_
  · cases q with
    | some g => cases e
    | none =>
      rcases hown.form with ⟨e2, e3⟩ | ⟨g, cap', e2, _⟩
      · injection e2 with _ e4 e5; exact ⟨e4, e5⟩
      · simp [slA] at e2
  · cases q with
    | none => cases e
    | some g =>
      cases e
      have hjl : j < (c3 xs).length := by
        rcases Nat.lt_or_ge j (c3 xs).length with h | h
        · exact h
        · rw [List.getElem?_eq_none h] at hj; cases hj
      have hr : w.ownsRow B T 3 (.slice (some ⟨g, 0, none⟩) xs.length cap) xs.length (c3 xs) := hown.full.2
      rw [← hj, ← hr.cellAt j (by rw [c3_len] at hjl; omega), Go.WideShapes.add_plain, Nat.zero_add]
  · have hv : TOwn T w' w.heap.size v' (xs ++ [z]) := by
      unfold TOwn
      rw [List.length_append, c3_two]
      have e : c3 [z] = l3 z := by simp [c3]
      rw [e]
      exact h1
    rcases hv.form with ⟨_, e⟩ | ⟨g', cap', e, ho'⟩
    · simp at e
    · subst e
      rw [List.length_append]
      exact h g' cap' w' ho' h2

set_option maxRecDepth 100000 in
set_option maxHeartbeats 4000000 in
theorem apartSites_any (K B L : Nat) (p : Nat → Option Nat) (n c : Nat → Nat) (xs : Nat → List V3) (w : World) (hK : K ≤ 1000) (hap : Apart K p) (hx : ∀ k, k < K → (xs k).length = n k) (hn : ∀ k, k < K → n k ≤ 1099511627776) (hB : B ≤ w.heap.size)
    (hown : AllOwn3 41 w B K p n c xs) (htab : TabOf 28 w L K (fun k => slA (p k) (n k) (c k))) :
    Calls Try.prog 30 #[.slice (some ⟨L, 0, none⟩) K K] w fun e w' => e = .returned (.bool true) ∧ Keeps (GSet K p) w w' := by
  obtain ⟨i0, hi, hz0, hz1, hz2⟩ := info_parts Try.info28'
  have HX : Hid (∀ k, k < K → (xs k).length = n k) := hx
  have HN : Hid (∀ k, k < K → n k ≤ 1099511627776) := hn
  clear hx hn
  go_enter Try.func30, Try.ntmps30
  go_wp2_with (at_make; refine wpList_make_full _ rfl _ _ 73 rfl _ 28 i0 (.slice none 0 0) 1 Try.underlying73 hi hz0 hz1 _ _ _ _ K rfl rfl rfl rfl (by rw [hz2]; omega) (by unfold maxLen; omega) (Nat.le_refl _) ?_; intro w1 hmk hgrow; have hst : St13 41 28 w K B L w.heap.size p n c (fun j => ctAt3 msV xs n 0 0 j) w1 := ⟨fun j hj => by rw [ctAt3_zero, if_neg (Nat.not_lt_zero j)]; exact (hown j hj).kept hgrow (by rw [sl_block]; cases p j <;> simp), htab.kept hgrow (by simp), TabOf.made hmk, (Keeps.refl _ _).grown hgrow (by simp)⟩; clear hmk hgrow)
  have hGs : w.heap.size = w.heap.size := rfl
  generalize hG : w.heap.size = G at hst ⊢
  clear hGs
  have hGle : w.heap.size ≤ G := by omega
  have hLlt : L < w.heap.size := htab.lt
  clear hG hown htab
  go_loopw [4] (fun kv wr => ∃ k : Nat, k ≤ K ∧ kv = .int .i64 k ∧ St13 41 28 w K B L G p n c (fun j => ctAt3 msV xs n k 0 j) wr) (fun kv _ => K - (intOf kv).toNat)
  case atStart => exact ⟨0, Nat.zero_le _, rfl, hst⟩
  case round =>
    obtain ⟨k, hk, rfl, hs⟩ := hrel
    clear hst
    by_cases hlt : k < K
    · go_wp2
      go_loopw [5] (fun iv wr => ∃ i : Nat, i ≤ n k ∧ iv = .int .i64 i ∧ St13 41 28 w K B L G p n c (fun j => ctAt3 msV xs n k i j) wr) (fun iv _ => n k - (intOf iv).toNat)
      case atStart => exact ⟨0, Nat.zero_le _, rfl, hs⟩
      case round =>
        obtain ⟨i, hik, rfl, hs2⟩ := hrel
        clear hs
        have cl := hs2.tab.cell k hlt
        rw [sl_ptr] at cl
        have hnk := HN.out k hlt
        by_cases hi2 : i < n k
        · obtain ⟨g, hp⟩ : ∃ g, p k = some g := by
            have ho := hs2.own k hlt
            have hct : ctAt3 msV xs n k i k = part3 msV (xs k) k i := by simp [ctAt3]
            rw [hct] at ho
            have hpl := part3_length msV (xs k) k i (n k) (HX.out k hlt) hik
            obtain ⟨g, hp, -, -⟩ := ho.filled (by omega)
            exact ⟨g, hp⟩
          clear cl
          obtain ⟨cl, ⟨old0, old1, old2, cg0, cg1, cg2⟩, ⟨fg0, fg1, fg2⟩, hne⟩ := hs2.look (by decide) hlt hp (HX.out k hlt) hi2
          have hs3 := hs2.mark (by decide) hap hlt hp (HX.out k hlt) hi2
          have q0 : (0 : Int) ≤ (k : Int) := by omega
          have q1 : (k : Int) < (K : Int) := by omega
          have q2 : (0 : Int) ≤ (i : Int) := by omega
          have q3 : (i : Int) < (n k : Int) := by omega
          have HP : Hid (p k = some g) := hp
          clear hs2 hp
          go_wp2_with fail
          go_roundw
          case rel => exact ⟨i + 1, by omega, by go_num, hs3⟩
          case measure => simp [intOf]; omega
        · have hs4 : St13 41 28 w K B L G p n c (fun j => ctAt3 msV xs n (k + 1) 0 j) wr := by
            obtain rfl : i = n k := by omega
            have e : (fun j => ctAt3 msV xs n k (n k) j) = fun j => ctAt3 msV xs n (k + 1) 0 j := funext fun j => ctAt3_next msV xs n k j (HX.out k hlt)
            rw [← e]
            exact hs2
          clear hs2
          go_wp2
          go_roundw
          case rel => exact ⟨k + 1, by omega, by go_num, hs4⟩
          case measure => simp [intOf]; omega
    · have hs0 : St23 41 28 msV w K B L G p n c 0 (fun _ => 0) (fun _ => 0) wr := by
        have hkK : k = K := by omega
        rw [hkK] at hs
        exact hs.next
      clear hs
      go_wp2
      go_loopw [6] (fun kv wr => ∃ (k : Nat) (ub uc : Nat → Nat), k ≤ K ∧ kv = .int .i64 k ∧ St23 41 28 msV w K B L G p n c k ub uc wr) (fun kv _ => K - (intOf kv).toNat)
      case atStart => exact ⟨0, _, _, Nat.zero_le _, rfl, hs0⟩
      case round =>
        obtain ⟨k2, ub, uc, hk2, rfl, hs⟩ := hrel
        clear hs0
        by_cases hlt2 : k2 < K
        · have cl := hs.tab.cell k2 hlt2
          rw [sl_ptr] at cl
          have hs1 := hs.start hap hlt2
          have hnk := HN.out k2 hlt2
          clear hs
          go_wp2
          go_loopw [7, 8] (fun gv jv wr => ∃ (j gc : Nat) (q : Option Nat), j ≤ 64 ∧ jv = .int .i64 j ∧ gv = .slice (ptr q) (n k2 + j) gc ∧ St23i 41 28 msV w K B L G p n c k2 ub uc q gc j wr) (fun _ jv _ => 64 - (intOf jv).toNat)
          case atStart => exact ⟨0, _, _, Nat.zero_le _, rfl, rfl, hs1⟩
          case round =>
            obtain ⟨j, gc, q, hj, rfl, rfl, hs2⟩ := hrel
            clear hs1 cl
            have cl := hs2.st.tab.cell k2 hlt2
            rw [sl_ptr] at cl
            by_cases hj2 : j < 64
            · have hml := mkL3_length msV k2 (n k2 + j)
              have hwn : IntKind.i64.wrap ((n k2 : Int) + (j : Int)) = (n k2 : Int) + (j : Int) := by rw [IntKind.wrap_i64]; omega
              have hsa := fun o => hs2.grown (World.grownBy_alloc wr o none)
              by_cases hroom : n k2 + j + 1 ≤ gc
              · obtain ⟨gb, rfl⟩ : ∃ gb, q = some gb := by
                  cases q with
                  | some gb => exact ⟨gb, rfl⟩
                  | none =>
                    rcases hs2.cur.form with ⟨e2, -⟩ | ⟨_, _, e2, _⟩
                    · simp [slA] at e2; omega
                    · simp [slA] at e2
                rw [ptr_some]
                clear hs2
                go_wp2_with (at_builtin; refine tfits Try.elemSite _ rfl _ _ rfl B gb (n k2 + j) gc (mkL3 msV k2 (n k2 + j)) rfl hml (hsa _).cur.full.2 ⟨_, 0, none⟩ 1 (.int .i64 k2, .int .i64 ((n k2 : Int) + (j : Int)), .int .i64 0) ⟨rfl, rfl, rfl⟩ rfl (news3 _ _ _) hroom ?_; intro w3 ho3 hg3; have hs3 := (hsa _).fits (by decide) hlt2 hg3 ho3)
                go_roundw
                case rel => exact ⟨j + 1, gc, some gb, by omega, by go_num, by rw [show n k2 + (j + 1) = n k2 + j + 1 by omega]; rfl, hs3⟩
                case measure => simp [intOf]; omega
              · have hBw : ∀ o, B ≤ (wr.alloc o).heap.size := fun o => Nat.le_trans hB (hsa o).st.keeps.size
                clear hs2
                go_wp2_with (at_builtin; refine tgrows Try.elemSite _ rfl _ _ rfl B (n k2 + j) gc q (mkL3 msV k2 (n k2 + j)) rfl hml (hsa _).cur ⟨_, 0, none⟩ 1 (.int .i64 k2, .int .i64 ((n k2 : Int) + (j : Int)), .int .i64 0) ⟨rfl, rfl, rfl⟩ rfl (news3 _ _ _) (by omega) (by omega) (by omega) ?_; intro gb2 gc2 w3 ho3 hg3; have hs3 := (hsa _).grows (hBw _) hg3 (Nat.le_refl _) ho3)
                go_roundw
                case rel => exact ⟨j + 1, gc2, some gb2, by omega, by go_num, by rw [show n k2 + (j + 1) = n k2 + j + 1 by omega]; rfl, hs3⟩
                case measure => simp [intOf]; omega
            · obtain rfl : j = 64 := by omega
              obtain ⟨gb, rfl⟩ : ∃ gb, q = some gb := by
                obtain ⟨gb, e, -, -⟩ := hs2.cur.filled (by rw [mkL3_length]; omega)
                exact ⟨gb, e⟩
              rw [ptr_some]
              have cg := hs2.st.gs.cell k2 hlt2
              have fg := hs2.st.gs.free k2
              rw [if_neg (Nat.lt_irrefl k2)] at cg
              have hs3 := hs2.done (by decide) hGle hLlt
              clear hs2
              go_wp2
              go_roundw
              case rel => exact ⟨k2 + 1, _, _, by omega, by go_num, hs3⟩
              case measure => simp [intOf]; omega
        · have hkK : k2 = K := by omega
          rw [hkK] at hs
          clear hkK
          go_wp2
          go_loopw [10] (fun kv wx => ∃ k : Nat, k ≤ K ∧ kv = .int .i64 k ∧ St23 41 28 msV w K B L G p n c K ub uc wx) (fun kv _ => K - (intOf kv).toNat)
          case atStart => exact ⟨0, Nat.zero_le _, rfl, hs⟩
          case round =>
            clear hs
            obtain ⟨k3, hk3, rfl, hs⟩ := hrel
            by_cases hlt3 : k3 < K
            · obtain ⟨cl, cg, -, -⟩ := hs.look k3 hlt3
              have hnk := HN.out k3 hlt3
              go_wp2
              go_loopw [11] (fun iv wx => ∃ i : Nat, i ≤ n k3 + 64 ∧ iv = .int .i64 i ∧ St23 41 28 msV w K B L G p n c K ub uc wx) (fun iv _ => n k3 + 64 - (intOf iv).toNat)
              case atStart => exact ⟨0, Nat.zero_le _, rfl, hs⟩
              case round =>
                clear hs cl cg
                obtain ⟨i, hi3, rfl, hs⟩ := hrel
                obtain ⟨cl, cg, hU, hV⟩ := hs.look k3 hlt3
                by_cases hi4 : i < n k3 + 64
                · obtain ⟨cu0, cu1, cu2⟩ := hU i hi4
                  unfold msV at cu0 cu1 cu2
                  by_cases hi5 : i < n k3
                  · obtain ⟨g, hp, hv⟩ := hV (by omega)
                    obtain ⟨cv0, cv1, cv2⟩ := hv i hi5
                    unfold msV at cv0 cv1 cv2
                    have hi6 : (i : Int) < (n k3 : Int) := by omega
                    rw [hp, ptr_some] at cl
                    clear hp hv hU hV
                    go_wp2_with fail
                    go_roundw
                    case rel => exact ⟨i + 1, by omega, by go_num, hs⟩
                    case measure => simp [intOf]; omega
                  · have hd : decide ((i : Int) < (n k3 : Int)) = false := by simp; omega
                    clear hU hV
                    go_wp2_with fail
                    go_roundw
                    case rel => exact ⟨i + 1, by omega, by go_num, hs⟩
                    case measure => simp [intOf]; omega
                · go_wp2
                  go_roundw
                  case rel => exact ⟨k3 + 1, by omega, by go_num, hs⟩
                  case measure => simp [intOf]; omega
            · go_wp2
              go_ret
              exact ⟨rfl, hs.keeps⟩

end Go.Proofs.Ytkpieeldoielgaa

/- Ours: KeysSpares answers true. -/
namespace Go.Proofs.Ytkpieeldoielgaa
open Go.RowKit

/-- a told list in its own block stays where that block does -/
theorem TOwn.keepsG {G : Nat → Prop} {T : TypeId} {w w' : World} {B : Nat} {v : Value} {L : List V3} (h : TOwn T w B v L) (hk : Keeps G w w') (hn : ∀ g, v.ownBlock = some g → ¬ G g) : TOwn T w' B v L := by
  refine ⟨h.1, h.2.imp id ?_⟩
  rintro ⟨g, cap, cur, e1, e2, e3, e4⟩
  exact ⟨g, cap, cur, e1, e2, (hk.block g (Array.getElem?_eq_some_iff.1 e3).1 (hn g (by rw [e1]; rfl))).trans e3, e4⟩
/-- a list that is not empty has a block of its own -/
theorem TOwn.some {T : TypeId} {w : World} {B n c : Nat} {q : Option Addr} {L : List V3} (h : TOwn T w B (.slice q n c) L) (h0 : 0 < L.length) : ∃ g, q = some ⟨g, 0, none⟩ ∧ B ≤ g ∧ g < w.heap.size := by
  obtain ⟨p, cap, e, -, -, hs⟩ := h.shape
  obtain ⟨g, e1, e2, e3, -⟩ := hs h0
  injection e with e _ _
  exact ⟨g, e.trans e1, e2, e3⟩
theorem spr_up (n : Nat) (hk : 0 < n) : calL (zerosC n) false 0 true = ⟨(zerosC n).set 0 1, true, true, 0⟩ := bsy_up n 0 hk
theorem spr_down (n : Nat) (hk : 0 < n) : calL ((zerosC n).set 0 1) false 0 false = ⟨((zerosC n).set 0 1).set 0 0, true, true, 0⟩ := bsy_down n 0 hk
theorem spr_same (n : Nat) : ((zerosC n).set 0 1).set 0 0 = zerosC n := by
  rw [List.set_set]
  apply List.ext_getElem?
  intro i
  rw [List.getElem?_set]
  unfold zerosC
  by_cases e : 0 = i
  · subst e
    rw [if_pos rfl]
    by_cases h : 0 < n <;> simp [h]
  · rw [if_neg e]
/-- three lists as ApartSites wants them -/
def thr {α : Type} (x y z : α) : Nat → α := fun k => if k = 0 then x else if k = 1 then y else z
theorem thr_all {α : Type} {P : Nat → α → Prop} {x y z : α} (h0 : P 0 x) (h1 : P 1 y) (h2 : P 2 z) : ∀ k, k < 3 → P k (thr x y z k) := fun k hk => by
  rcases (by omega : k = 0 ∨ k = 1 ∨ k = 2) with rfl | rfl | rfl
  · exact h0
  · exact h1
  · exact h2
/-- a told list, in the block g -/
abbrev TL (w : World) (lo g n c : Nat) (S : List Si) : Prop := TOwn 41 w lo (.slice (some ⟨g, 0, none⟩) n c) (S.map siV)
theorem TL.keep {G : Nat → Prop} {w w' : World} {lo g n c : Nat} {S : List Si} (h : TL w lo g n c S) (hk : Keeps G w w') (hn : ¬ G g) : TL w' lo g n c S := TOwn.keepsG h hk (fun g' e => by
  have e' : Option.some g = Option.some g' := e
  injection e' with e'
  subst e'
  exact hn)
theorem TL.row {w : World} {lo g n c : Nat} {S : List Si} (h : TL w lo g n c S) : Row3 w (some ⟨g, 0, none⟩) (S.map siV) := by
  obtain ⟨q, cq, e, -, -, hr⟩ := TOwn.row3 h
  injection e with e _ _
  subst e
  exact hr
theorem TL.lt {w : World} {lo g n c : Nat} {S : List Si} (h : TL w lo g n c S) : g < w.heap.size := (World.ownsRow.lt h g rfl).2
set_option maxRecDepth 20000 in
set_option maxHeartbeats 32000000 in
theorem spares_walk (p : Option Addr) (n c : Nat) (L : List Int) (w : World) (hL : L.length = n) (hn : n ≤ 140737488355328) (hnc : n ≤ c) (hr : GRow w p (numZ L)) :
    Calls Try.prog 8 #[.slice p n c] w fun e w' => e = .returned (.bool true) ∧ Below w.heap.size w w' := by
  have hIm := image_sl p n c L w hL hn hnc hr
  clear hL hn hnc hr
  go_enter Try.func8, Try.ntmps8
  go_wp2_with (go_at_call 16; refine Hid.out ?_)
  refine Lib.hid ?_
  (with_reducible refine hIm.mono ?_)
  rintro e w1 ⟨l, qb, qk, qs, qu, nb, db, dk, ns, ds, nu, du, hl, rfl, hI, -, hb1⟩
  have h20 : l.length ≤ 20 := by rw [hl, List.length_take]; omega
  clear hl hIm
  have HB1 := Hid.in hb1
  have HV0 := Hid.in (Blk.new w1 31 #[.slice qb nb db, .slice qk (imN l) dk, .slice qs ns ds, .slice qu nu du])
  have HN0 := Hid.in (new_alloc w1 (.cells #[.slice qb nb db, .slice qk (imN l) dk, .slice qs ns ds, .slice qu nu du] 31))
  obtain ⟨z0, z1, z2, z3⟩ := HV0.out.cells4
  have hT1 := tnew_im l h20 _ _ _ _ _ _ (hI.below HN0.out)
  clear hI hb1
  go_wp2_with (go_at_call 9; refine Hid.out ?_)
  refine Lib.hid ?_
  generalize w1.alloc (.cells #[.slice qb nb db, .slice qk (imN l) dk, .slice qs ns ds, .slice qu nu du] 31) = w2 at *
  (with_reducible refine hT1.mono ?_)
  rintro e w3 ⟨h, b, p', c', rfl, hT, hb3, hh, hb, -⟩
  have HB3 := Hid.in (below_step (below_step HB1.out HN0.out) hb3)
  have HV3 := Hid.in (HV0.out.grow hb3)
  have HS := Hid.in imM_some
  have HT3 := Hid.in hT
  have HSz : Hid (w.heap.size ≤ w3.heap.size) := HB3.out.size
  have HG : Hid (∀ j, G2 h b j → w.heap.size ≤ j ∧ w2.heap.size ≤ j) := fun j hj => by
    have := HB1.out.size
    have := HN0.out.size
    rcases hj with rfl | rfl <;> omega
  have HPl := Hid.in hT.pl
  have hN20 : imN l ≤ 20 := Nat.le_trans (imN_le l) h20
  have HOF := Hid.in (fun (k : Nat) (hk : k < imN l) => imM_some l h20 k hk)
  clear hT1 hT hb3 z0 z1 z2 z3 HV0 HN0 HB1 hh hb HS
  obtain ⟨z0, z1, z2, z3⟩ := HV3.out.cells4
  generalize (imM l).si = si at *
  generalize imN l = kn at *
  by_cases h0 : kn = 0
  · subst h0
    go_wp2_with (go_at_call 15; refine (awake_any _).mono ?_; rintro e w5 ⟨rfl, hb5⟩; have HB5 := Hid.in (below_step HB3.out hb5); clear hb5)
    go_ret
    exact ⟨rfl, HB5.out⟩
  · have hk0 : ((kn : Int) == 0) = false := by simp; omega
    have hof : 0 < (ofK si 0).length := HOF.out 0 (by omega)
    have hS20 : (ofK si 0).length ≤ 256 := Nat.le_trans (Nat.le_trans (by unfold ofK; rw [List.length_take]; exact Nat.min_le_left _ _) (by have := cutK_le si (0 + 1); omega)) HT3.out.hs
    have l1 := HT3.out.blk.lt
    have l2 := HT3.out.map.lt
    have HOf : Hid (∀ a, p' = some a → a.block ≠ h ∧ a.block ≠ b ∧ a.block < w3.heap.size) := fun a ea => ⟨(HT3.out.off a ea).1, (HT3.out.off a ea).2, HT3.out.pl a ea⟩
    have hC3 := call_sl h b kn (zerosC kn) p' c' si w3 false HT3.out 0 i64_0 true (by omega) _ (spr_up kn (by omega)) (ofK si 0) rfl
    have HE1 := Hid.in (spr_down kn (by omega))
    have HE2 := Hid.in (spr_same kn)
    obtain ⟨cs1, hcs1⟩ : ∃ cs1, (zerosC kn).set 0 1 = cs1 := ⟨_, rfl⟩
    have HC1 := Hid.in hcs1
    rw [hcs1] at hC3 HE1 HE2
    clear hcs1
    rw [HE2.out] at HE1
    obtain ⟨S, hSe⟩ : ∃ S, ofK si 0 = S := ⟨_, rfl⟩
    have HSe := Hid.in hSe
    rw [hSe] at hC3 hof hS20
    clear hSe z0 z2 z3
    -- a
    go_wp2_with (go_at_call 11; refine Hid.out ?_)
    refine Lib.hid ?_
    (with_reducible refine hC3.mono ?_)
    rintro e w4 ⟨qa, ca, n4, rfl, hTa, hT4, hn4, hK4⟩
    obtain ⟨ga, rfl, ga1, ga2⟩ := TOwn.some hTa (by rw [List.length_map]; exact hof)
    have HA4 : Hid (TL w4 w3.heap.size ga S.length ca S) := hTa
    have HT4 := Hid.in hT4
    have HB4 : Hid (Below w.heap.size w w4) := HB3.out.trans (hK4.below HB3.out.size (fun j hj => (HG.out j hj).1))
    have hs4 := hK4.size
    clear hTa hT4 hK4 hC3 HT3 HV3 HB3 z1
    -- the copy
    have hCp := tcopy_any h b n4 cs1 true p' c' si w4 HT4.out
    go_wp2_with (go_at_call 24; refine Hid.out ?_)
    refine Lib.hid ?_
    (with_reducible refine hCp.mono ?_)
    rintro e w5 ⟨h2, b2, rfl, hU5, hb5, hh2, hb2⟩
    have HU5 := Hid.in hU5
    have HT5 := Hid.in (HT4.out.below hb5)
    have HA5 : Hid (TL w5 w3.heap.size ga S.length ca S) := TOwn.below HA4.out hb5
    have HB5 := Hid.in (below_step HB4.out hb5)
    have HP2 : Hid (∀ a, p' = some a → a.block ≠ h2 ∧ a.block ≠ b2) := fun a ea => by have := (HOf.out a ea).2.2; exact ⟨by omega, by omega⟩
    have HG2 : Hid (∀ j, G2 h2 b2 j → w.heap.size ≤ j) := fun j hj => by
      have := HB4.out.size
      rcases hj with rfl | rfl <;> omega
    have u1 := hU5.blk.lt
    have u2 := hU5.map.lt
    have hs5 := hb5.size
    clear hU5 hb5 hCp HT4 HA4 HB4
    -- t.Return, u.Return
    have hR5 := return_any h b n4 cs1 true p' c' si w5 HT5.out
    go_wp2_with (go_at_call 12; refine Hid.out ?_)
    refine Lib.hid ?_
    (with_reducible refine hR5.mono ?_)
    rintro e w6 ⟨rfl, hT6, hK6⟩
    have HT6 := Hid.in hT6
    have HU6 : Hid (TabAt w6 h2 b2 n4 cs1 true p' c' si) := HU5.out.keeps hK6 (fun hj => by rcases hj with hj | hj <;> omega) (fun hj => by rcases hj with hj | hj <;> omega) (fun a ea hj => by rcases hj with hj | hj; exact (HOf.out a ea).1 hj; exact (HOf.out a ea).2.1 hj)
    have HA6 := Hid.in (HA5.out.keep hK6 (fun hj => by rcases hj with hj | hj <;> omega))
    have HB6 : Hid (Below w.heap.size w w6) := HB5.out.trans (hK6.below HB5.out.size (fun j hj => (HG.out j hj).1))
    have hs6 := hK6.size
    clear hT6 hK6 hR5 HT5 HU5 HA5 HB5
    have hR6 := return_any h2 b2 n4 cs1 true p' c' si w6 HU6.out
    go_wp2_with (go_at_call 12; refine Hid.out ?_)
    refine Lib.hid ?_
    (with_reducible refine hR6.mono ?_)
    rintro e w7 ⟨rfl, hU7, hK7⟩
    have HU7 := Hid.in hU7
    have HT7 : Hid (TabAt w7 h b n4 cs1 false p' c' si) := HT6.out.keeps hK7 (fun hj => by rcases hj with hj | hj <;> omega) (fun hj => by rcases hj with hj | hj <;> omega) (fun a ea hj => by rcases hj with hj | hj; exact (HP2.out a ea).1 hj; exact (HP2.out a ea).2 hj)
    have HA7 := Hid.in (HA6.out.keep hK7 (fun hj => by rcases hj with hj | hj <;> omega))
    have HB7 : Hid (Below w.heap.size w w7) := HB6.out.trans (hK7.below HB6.out.size HG2.out)
    have hs7 := hK7.size
    clear hU7 hK7 hR6 HT6 HU6 HA6 HB6
    -- b
    have hC7 := call_sl h b n4 cs1 p' c' si w7 false HT7.out 0 i64_0 false (by omega) _ HE1.out S HSe.out
    go_wp2_with (go_at_call 11; refine Hid.out ?_)
    refine Lib.hid ?_
    (with_reducible refine hC7.mono ?_)
    rintro e w8 ⟨qb', cb', n8, rfl, hTb, hT8, hn8, hK8⟩
    obtain ⟨gb, rfl, gb1, gb2⟩ := TOwn.some hTb (by rw [List.length_map]; exact hof)
    have HT8 : Hid (TabAt w8 h b n8 (zerosC kn) true p' c' si) := hT8
    have HBb8 : Hid (TL w8 w3.heap.size gb S.length cb' S) := TOwn.lower hTb (by omega)
    have HU8 : Hid (TabAt w8 h2 b2 n4 cs1 false p' c' si) := HU7.out.keeps hK8 (fun hj => by rcases hj with hj | hj <;> omega) (fun hj => by rcases hj with hj | hj <;> omega) (fun a ea hj => by rcases hj with hj | hj; exact (HOf.out a ea).1 hj; exact (HOf.out a ea).2.1 hj)
    have HA8 := Hid.in (HA7.out.keep hK8 (fun hj => by rcases hj with hj | hj <;> omega))
    have HB8 : Hid (Below w.heap.size w w8) := HB7.out.trans (hK8.below HB7.out.size (fun j hj => (HG.out j hj).1))
    have hs8 := hK8.size
    clear hTb hT8 hK8 hC7 HT7 HU7 HA7 HB7
    -- c
    have hC8 := call_sl h2 b2 n4 cs1 p' c' si w8 false HU8.out 0 i64_0 false (by omega) _ HE1.out S HSe.out
    go_wp2_with (go_at_call 11; refine Hid.out ?_)
    refine Lib.hid ?_
    (with_reducible refine hC8.mono ?_)
    rintro e w9 ⟨qc, cc, n9, rfl, hTc, -, -, hK9⟩
    obtain ⟨gc, rfl, gc1, gc2⟩ := TOwn.some hTc (by rw [List.length_map]; exact hof)
    have HC9 : Hid (TL w9 w3.heap.size gc S.length cc S) := TOwn.lower hTc (by omega)
    have HT9 : Hid (TabAt w9 h b n8 (zerosC kn) true p' c' si) := HT8.out.keeps hK9 (fun hj => by rcases hj with hj | hj <;> omega) (fun hj => by rcases hj with hj | hj <;> omega) (fun a ea hj => by rcases hj with hj | hj; exact (HP2.out a ea).1 hj; exact (HP2.out a ea).2 hj)
    have HA9 := Hid.in (HA8.out.keep hK9 (fun hj => by rcases hj with hj | hj <;> omega))
    have HBb9 := Hid.in (HBb8.out.keep hK9 (fun hj => by rcases hj with hj | hj <;> omega))
    have HB9 : Hid (Below w.heap.size w w9) := HB8.out.trans (hK9.below HB8.out.size HG2.out)
    have hs9 := hK9.size
    clear hTc hK9 hC8 HT8 HU8 HA8 HB8 HBb8
    have hSm1 := sameSites_any (some ⟨ga, 0, none⟩) (some ⟨gb, 0, none⟩) S.length ca S.length cb' S S w9 rfl rfl (by omega) (by omega) HA9.out.row HBb9.out.row
    go_wp2_with (go_at_call 22; refine Hid.out ?_)
    refine Lib.hid ?_
    (with_reducible refine hSm1.mono ?_)
    rintro e w10 ⟨⟨t1, rfl, ht1⟩, y1, hy1⟩
    obtain rfl : t1 = true := ht1.2 (by trivial)
    have hd10 : Below w9.heap.size w9 w10 := by rw [hy1]; exact below_draws (below_self w9) y1
    clear hy1 ht1 hSm1
    have HA10 : Hid (TL w10 w3.heap.size ga S.length ca S) := TOwn.below HA9.out hd10
    have HBb10 : Hid (TL w10 w3.heap.size gb S.length cb' S) := TOwn.below HBb9.out hd10
    have HC10 : Hid (TL w10 w3.heap.size gc S.length cc S) := TOwn.below HC9.out hd10
    have HT10 := Hid.in (HT9.out.below hd10)
    have HB10 := Hid.in (below_step HB9.out hd10)
    have hs10 := hd10.size
    clear HA9 HBb9 HC9 HT9 HB9 hd10
    have hSm2 := sameSites_any (some ⟨gb, 0, none⟩) (some ⟨gc, 0, none⟩) S.length cb' S.length cc S S w10 rfl rfl (by omega) (by omega) HBb10.out.row HC10.out.row
    go_wp2_with (go_at_call 22; refine Hid.out ?_)
    refine Lib.hid ?_
    (with_reducible refine hSm2.mono ?_)
    rintro e w11 ⟨⟨t1, rfl, ht1⟩, y1, hy1⟩
    obtain rfl : t1 = true := ht1.2 (by trivial)
    have hd11 : Below w10.heap.size w10 w11 := by rw [hy1]; exact below_draws (below_self w10) y1
    clear hy1 ht1 hSm2
    have HA11 : Hid (TL w11 w3.heap.size ga S.length ca S) := TOwn.below HA10.out hd11
    have HBb11 : Hid (TL w11 w3.heap.size gb S.length cb' S) := TOwn.below HBb10.out hd11
    have HC11 : Hid (TL w11 w3.heap.size gc S.length cc S) := TOwn.below HC10.out hd11
    have HT11 := Hid.in (HT10.out.below hd11)
    have HB11 := Hid.in (below_step HB10.out hd11)
    have hs11 := hd11.size
    clear HA10 HBb10 HC10 HT10 HB10 hd11
    have hCs := copySites_any (some ⟨ga, 0, none⟩) S.length ca S w11 rfl (by omega) HA11.out.row
    go_wp2_with (go_at_call 29; refine Hid.out ?_)
    refine Lib.hid ?_
    (with_reducible refine hCs.mono ?_)
    rintro e w12 ⟨vw, rfl, hW12, hb12⟩
    obtain ⟨qw, cw, ew, -, -, -⟩ := TOwn.row3 hW12
    rw [List.length_map] at ew
    subst ew
    obtain ⟨gw, rfl, gw1, gw2⟩ := TOwn.some hW12 (by rw [List.length_map]; exact hof)
    have HW12 : Hid (TL w12 w11.heap.size gw S.length cw S) := hW12
    have hN := new_alloc w12 (.cells #[.slice (some ⟨ga, 0, none⟩) S.length ca, .slice (some ⟨gb, 0, none⟩) S.length cb', .slice (some ⟨gc, 0, none⟩) S.length cc] 28)
    have hbl := Blk.new w12 28 #[.slice (some ⟨ga, 0, none⟩) S.length ca, .slice (some ⟨gb, 0, none⟩) S.length cb', .slice (some ⟨gc, 0, none⟩) S.length cc]
    have hAp := apartSites_any 3 w3.heap.size w12.heap.size (thr (some ga) (some gb) (some gc)) (thr S.length S.length S.length) (thr ca cb' cc) (thr (S.map siV) (S.map siV) (S.map siV)) _ (by decide)
      (fun i j hi hj hij => by
        right
        rcases (by omega : i = 0 ∨ i = 1 ∨ i = 2) with rfl | rfl | rfl <;> rcases (by omega : j = 0 ∨ j = 1 ∨ j = 2) with rfl | rfl | rfl <;> first | exact absurd rfl hij | (intro e; have e' := Option.some.inj e; omega))
      (thr_all (α := List V3) (P := fun k (y : List V3) => y.length = thr S.length S.length S.length k) (by simp [thr]) (by simp [thr]) (by simp [thr])) (thr_all (α := Nat) (P := fun _ (y : Nat) => y ≤ 1099511627776) (by omega) (by omega) (by omega)) (by have := hN.size; have := hb12.size; omega)
      (thr_all (α := List V3) (P := fun k (y : List V3) => TOwn 41 _ w3.heap.size (slA (thr (some ga) (some gb) (some gc) k) (thr S.length S.length S.length k) (thr ca cb' cc k)) y) (TOwn.below (TOwn.below HA11.out hb12) hN) (TOwn.below (TOwn.below HBb11.out hb12) hN) (TOwn.below (TOwn.below HC11.out hb12) hN)) hbl
    have HT12 := Hid.in ((HT11.out.below hb12).below hN)
    have HW13 : Hid (TL _ w11.heap.size gw S.length cw S) := TOwn.below HW12.out hN
    have HB13 := Hid.in (below_step (below_step HB11.out hb12) hN)
    have hs12 := hb12.size
    have hs13 := hN.size
    clear hW12 hb12 hN hbl hCs HA11 HBb11 HC11 HT11 HB11 HW12
    go_wp2_with (go_at_call 30; refine Hid.out ?_)
    refine Lib.hid ?_
    generalize w12.alloc (.cells #[.slice (some ⟨ga, 0, none⟩) S.length ca, .slice (some ⟨gb, 0, none⟩) S.length cb', .slice (some ⟨gc, 0, none⟩) S.length cc] 28) = w13 at *
    (with_reducible refine hAp.mono ?_)
    rintro e w14 ⟨rfl, hK14⟩
    have HGS : Hid (∀ j, GSet 3 (thr (some ga) (some gb) (some gc)) j → j = ga ∨ j = gb ∨ j = gc) := fun j hj => by
      obtain ⟨k, hk, e⟩ := hj
      rcases (by omega : k = 0 ∨ k = 1 ∨ k = 2) with rfl | rfl | rfl
      · exact .inl (Option.some.inj e).symm
      · exact .inr (.inl (Option.some.inj e).symm)
      · exact .inr (.inr (Option.some.inj e).symm)
    have HT14 : Hid (TabAt w14 h b n8 (zerosC kn) true p' c' si) := HT12.out.keeps hK14 (fun hj => by have := HGS.out _ hj; omega) (fun hj => by have := HGS.out _ hj; omega) (fun a ea hj => by have := HGS.out _ hj; have := (HOf.out a ea).2.2; omega)
    have HW14 := Hid.in (HW13.out.keep hK14 (fun hj => by have := HGS.out _ hj; omega))
    have HB14 : Hid (Below w.heap.size w w14) := HB13.out.trans (hK14.below HB13.out.size (fun j hj => by have := HGS.out _ hj; have := HSz.out; omega))
    clear hAp hK14 HT12 HW13 HB13 HGS
    have hR14 := return_any h b n8 (zerosC kn) true p' c' si w14 HT14.out
    go_wp2_with (go_at_call 12; refine Hid.out ?_)
    refine Lib.hid ?_
    (with_reducible refine hR14.mono ?_)
    rintro e w15 ⟨rfl, hT15, hK15⟩
    have HT15 := Hid.in hT15
    have HW15 := Hid.in (HW14.out.keep hK15 (fun hj => by rcases hj with hj | hj <;> omega))
    have HB15 : Hid (Below w.heap.size w w15) := HB14.out.trans (hK15.below HB14.out.size (fun j hj => (HG.out j hj).1))
    clear hT15 hK15 hR14 HT14 HW14 HB14
    have hC15 := call_sl h b n8 (zerosC kn) p' c' si w15 false HT15.out 0 i64_0 true (by omega) _ (spr_up kn (by omega)) S HSe.out
    go_wp2_with (go_at_call 11; refine Hid.out ?_)
    refine Lib.hid ?_
    (with_reducible refine hC15.mono ?_)
    rintro e w16 ⟨qd, cd, n16, rfl, hTd, -, -, hK16⟩
    obtain ⟨gd, rfl, gd1, gd2⟩ := TOwn.some hTd (by rw [List.length_map]; exact hof)
    have HD16 : Hid (TL w16 w15.heap.size gd S.length cd S) := hTd
    have HW16 := Hid.in (HW15.out.keep hK16 (fun hj => by rcases hj with hj | hj <;> omega))
    have HB16 : Hid (Below w.heap.size w w16) := HB15.out.trans (hK16.below HB15.out.size (fun j hj => (HG.out j hj).1))
    clear hTd hK16 hC15 HT15 HW15 HB15
    have hSm3 := sameSites_any (some ⟨gd, 0, none⟩) (some ⟨gw, 0, none⟩) S.length cd S.length cw S S w16 rfl rfl (by omega) (by omega) HD16.out.row HW16.out.row
    go_wp2_with (go_at_call 22; refine Hid.out ?_)
    refine Lib.hid ?_
    (with_reducible refine hSm3.mono ?_)
    rintro e w17 ⟨⟨t1, rfl, ht1⟩, y1, hy1⟩
    obtain rfl : t1 = true := ht1.2 (by trivial)
    have HB17 : Hid (Below w.heap.size w w17) := by rw [hy1]; exact below_draws HB16.out y1
    clear hy1 ht1 hSm3
    go_wp2_with (go_at_call 15; refine (awake_any _).mono ?_; rintro e w18 ⟨rfl, hb18⟩; have HB18 := Hid.in (below_step HB17.out hb18); clear hb18)
    go_ret
    exact ⟨rfl, HB18.out⟩
end Go.Proofs.Ytkpieeldoielgaa

namespace Go.Proofs.Ytkpieeldoielgaa
open Go.ChangeShapes Go.WideShapes Go.ChangeAt Go.RowKit
open Go.ChangeMaps (open_string shut_string)

set_option maxRecDepth 100000 in
theorem keysSpares_lifted (os : Os) (started : os.Started) (H : Type) (enc : TypeId × Value → H) :
    ReturnsInHanded {} Try.checked os 8 .any (Rows.keysSparesSpec.pre6 enc Try.prog Try.f8 Rows.keysSparesRow.domain false) (Rows.keysSparesSpec.post enc Try.prog Try.f8 false true false false) := by
  refine returnsInHanded_of_change_sized (C := Try.checked) Try.own started (by kernel_rfl) Try.func8
    (ChangeSpec.witness6 (enc := enc) (C := Try.checked) false ⟨#[], #[.slice none 0 0], []⟩ 8 (by kernel_rfl) (by kernel_rfl) (by kernel_rfl) (by kernel_rfl)) ?_
  intro W base args ds gs before hval0 hW hcnd hsz0 _
  have hW' := hW
  obtain ⟨p, q, hA0, hV, rfl, hfz, hnd⟩ := hW
  have hA : DataW.TrodAll enc Try.prog W 0 (fun _ => true) true Try.f8.params.toList args.toList ds p := hA0
  have hval : ∀ (j : Nat) t v, Try.f8.params[j]? = some t → args[j]? = some v → Value.okWide Try.prog W .any base t v := hval0
  have hsz : (DataW.weightsEach Try.prog (Try.f8.params.toList ++ Rows.keysSparesSpec.plain.varTypes Try.prog) (ds ++ gs)).all (· ≤ reachBytes) = true := hsz0
  rw [Try.params8] at hA hval hsz
  obtain ⟨v0, vs0, d0, ds0, p0, q0_, hargs, rfl, rfl, h0, r0⟩ := trodAll_cons hA
  obtain ⟨rfl, rfl, rfl⟩ := trodAll_nil r0
  obtain rfl : args = #[v0] := by cases args; simp_all
  obtain ⟨rfl, rfl⟩ := trodVars_none hV
  have k0 := h0
  have lt0 : ∀ x ∈ p0, x.block < W.heap.size := by obtain ⟨m, hm⟩ := k0; exact DataW.trod_lt m _ _ _ hm
  obtain ⟨q0, n0, e0, zs0, rfl, hl0, hn0, he0, hr0⟩ := open_ints_val (hval 0 29 v0 rfl rfl) h0 hsz (j := 0) rfl rfl
  refine (spares_walk q0 n0 e0 zs0 W hl0 hn0 he0 hr0).mono fun e W' ⟨he, bel⟩ => ?_
  subst he
  exact ⟨_, rfl, _, _, _, [], _, [], hW', trodAll_mk1 (shut_bool Try.underlying4 _), (trodAll_cons_mk (Below.trod Try.laidOut (by kernel_rfl) (of_decide_eq_true (by kernel_rfl)) k0 bel lt0) trodAll_mk0), rfl, bel.frame _, fun h => by cases h⟩

theorem keysSpares_holds : Rows.KeysSparesSaid :=
  OpenClaim.holds_of_wide 8 Try.f8 rfl rfl rfl rfl rfl rfl rfl ⟨rfl, rfl, rfl, rfl, rfl⟩ rfl rfl rfl rfl rfl (by kernel_rfl) Try.func8 (by kernel_rfl)
    (of_decide_eq_true (by kernel_rfl)) (by unfold Func.isWrapper; first | (rw [if_pos (by decide +kernel)]; kernel_rfl) | (rw [if_neg (by decide +kernel)]; exact ⟨rfl, rfl⟩))
    (fun os started H enc _ => keysSpares_lifted os started H enc)
#print axioms keysSpares_holds

end Go.Proofs.Ytkpieeldoielgaa
