/- Texts put together: Short, Bld, Print. -/
import Derived.Test.YtgfmmbbebodapaaGreatDoorKo
import Derived.Lib.Builder
import Derived.Lib.AppendStr
import Derived.Lib.UnsafeStr
import Derived.Laws.Externs

/- Items that may be have short lines. -/
namespace Go.Proofs.YtgfmmbbebodapaaGreatDoor
open Go.RowKit

/-- names of at most 16 bytes -/
def Brief (x : Src) : Prop := x.name.size ≤ 16 ∧ x.tg.size ≤ 16
theorem srcK_brief (k : Int) : Brief (srcK k) := ⟨by show (0 : Nat) ≤ _; omega, by show (0 : Nat) ≤ _; omega⟩
theorem readL_brief (p : Nat) (x : Src) (hx : Brief x) (f : List UInt8) : Brief (readL p x f).2 := by
  unfold readL
  split
  · split <;> exact hx
  split
  · split <;> exact hx
  split
  · split
    · rename_i hn
      exact ⟨by show (bytesOf f).size ≤ 16; rw [bytesOf_size]; exact nameB_len hn, hx.2⟩
    · exact hx
  split
  · split
    · rename_i hn
      exact ⟨hx.1, by show (bytesOf f).size ≤ 16; rw [bytesOf_size]; exact nameB_len hn⟩
    · exact hx
  split
  · exact hx
  split
  · unfold putL; split
    · exact hx
    split <;> exact hx
  · exact hx
theorem goL_brief (fs : List (Nat × List UInt8)) : ∀ (x : Src) (ps : List Nat) (y : Src), Brief x → goL x ps fs = .inr y → Brief y := by
  induction fs with
  | nil =>
    intro x ps y hx h
    cases ps <;> (simp only [goL] at h; injection h with h; rw [← h]; exact hx)
  | cons q fs ih =>
    intro x ps y hx h
    obtain ⟨c, f⟩ := q
    cases ps with
    | nil => simp [goL] at h
    | cons p ps =>
      simp only [goL] at h
      split at h
      · exact ih _ _ _ (readL_brief p x hx f) h
      · cases h
theorem formL_brief {f : List UInt8} {x : Src} {ps : List Nat} {n : Nat} (h : formL f = some (x, ps, n)) : Brief x := by
  unfold formL at h
  split at h
  · rename_i i _
    injection h with h
    have h1 : Brief (formW i).1 := by
      unfold formW; split <;> exact srcK_brief _
    rw [h] at h1; exact h1
  · split at h
    · rename_i o ho
      injection h with h
      have h3 : Brief (formO o).1 := srcK_brief 2
      rw [h] at h3; exact h3
    · split at h
      · rename_i hc
        injection h with h
        injection h with h1 h2
        subst h1
        exact ⟨by show (bytesOf f.dropLast).size ≤ 16; rw [bytesOf_size]; exact nameB_len hc.2, by show (0 : Nat) ≤ _; omega⟩
      · cases h
theorem lineL_brief (l : List UInt8) : Brief (lineL l).1 := by
  have h0 : Brief src0 := srcK_brief 0
  unfold lineL
  cases hf : fieldsL l with
  | nil => exact h0
  | cons q fs =>
    obtain ⟨c, f⟩ := q
    simp only
    cases hm : formL f with
    | none => exact h0
    | some t =>
      obtain ⟨x, ps, n⟩ := t
      simp only
      cases hg : goL x ps fs with
      | inl r => obtain ⟨e, c⟩ := r; exact h0
      | inr y =>
        simp only
        split
        · exact h0
        · exact goL_brief fs x ps y (formL_brief hm) hg
theorem may_brief {x : Src} (h : mayB x = true) : Brief x := by
  have := ((mayB_iff x).1 h).2
  rw [← this]; exact lineL_brief _
theorem head_brief (x : Src) (h : Brief x) : (headT x).length ≤ 17 := by
  have hn := h.1
  rw [Lib.size_eq] at hn
  have := nm_len x.o.toNat
  unfold headT
  split
  · simp only [List.length_append, List.length_cons, List.length_nil]; omega
  split
  · omega
  split
  · decide
  split
  · decide
  split
  · decide
  split
  · decide
  split
  · decide
  · simp
theorem field_brief (p : Nat) (x : Src) (hx : Fit x) (hb : Brief x) (i : Nat) : (fieldT p x i).length ≤ 22 := by
  have hn := hb.1
  have ht := hb.2
  rw [Lib.size_eq] at hn ht
  have h1 := Lib.itoa_length_le x.a (by have := hx.a0; omega) (by have := hx.a1; omega)
  have h2 := Lib.itoa_length_le x.b (by have := hx.b0; omega) (by have := hx.b1; omega)
  have h3 := Lib.itoa_length_le x.m (by have := hx.m0; omega) (by have := hx.m1; omega)
  have h4 := Lib.itoa_length_le x.n hx.n0 hx.n1
  have h5 := Lib.itoa_length_le (x.d.getD i 0) (by have := getD_byte x hx i; omega) (by have := getD_byte x hx i; omega)
  unfold fieldT
  split
  · simp only [List.length_cons]; omega
  split
  · simp only [List.length_cons]; omega
  split
  · omega
  split
  · omega
  split
  · omega
  split
  · omega
  · omega
theorem mid_brief (x : Src) (hx : Fit x) (hb : Brief x) : ∀ k, (midT x k).length ≤ 17 + k * 23
  | 0 => by have := head_brief x hb; simp [midT]; omega
  | k + 1 => by
    have h1 := mid_brief x hx hb k
    have h2 := field_brief ((plT (headT x)).getD k 0) x hx hb k
    rw [midT_succ, List.length_append, List.length_cons]
    omega
theorem line_brief (x : Src) (hx : Fit x) (hm : mayB x = true) : (lineT x).length ≤ 1489 := by
  have h1 := mid_brief x hx (may_brief hm) (filledT x)
  have h2 : filledT x ≤ 64 := by
    have := (plT_ok x).1
    unfold filledT
    split <;> omega
  unfold lineT
  omega
/-- what is printed of items -/
def textT (xs : List Src) : List UInt8 := xs.flatMap fun x => lineT x ++ [10]
theorem textT_succ (xs : List Src) (k : Nat) (h : k < xs.length) : textT (xs.take (k + 1)) = textT (xs.take k) ++ (lineT xs[k] ++ [10]) := by
  unfold textT
  rw [List.take_succ_eq_append_getElem h, List.flatMap_append]
  simp
theorem textT_len (xs : List Src) (hx : ∀ x ∈ xs, Fit x) (hm : ∀ x ∈ xs, mayB x = true) : (textT xs).length ≤ xs.length * 1490 := by
  induction xs with
  | nil => simp [textT]
  | cons x xs ih =>
    have h1 := line_brief x (hx x (by simp)) (hm x (by simp))
    have h2 := ih (fun y hy => hx y (by simp [hy])) (fun y hy => hm y (by simp [hy]))
    unfold textT at *
    rw [List.flatMap_cons, List.length_append, List.length_append]
    simp only [List.length_cons, List.length_nil] at *
    omega
theorem chk_may (xs : List Src) : ∀ i, (chkAt i xs).1 = 0 → ∀ x ∈ xs, mayB x = true := by
  induction xs with
  | nil => intro i _ x hx; simp at hx
  | cons y ys ih =>
    intro i h x hx
    simp only [chkAt] at h
    split at h
    · exact absurd h (by simp)
    rename_i hy
    split at h
    · exact absurd h (by simp)
    rcases List.mem_cons.1 hx with rfl | hx
    · simpa using hy
    · exact ih _ h x hx
/-- what Print answers -/
def printL (xs : List Src) : List UInt8 × Int :=
  if (checkL xs).1 = 0 then (if 65536 < (textT xs).length then ([], 3) else (textT xs, 0)) else ([], (checkL xs).1)

end Go.Proofs.YtgfmmbbebodapaaGreatDoor

/- strings.Builder: what its writing methods do. -/
namespace Go.Proofs.YtgfmmbbebodapaaGreatDoor
open Go.RowKit

theorem Tryz.sz80 : (Tryz.prog.info? 80).map (·.size) = some 2 := by kernel_rfl

set_option maxHeartbeats 1000000 in
set_option maxRecDepth 100000 in
theorem copyCheck_used (b : Nat) (w : World) (h0 : w.cell? ⟨b, 0, none⟩ = some (.pointer (some ⟨b, 0, none⟩))) :
    Calls Tryz.prog 79 #[.pointer (some ⟨b, 0, none⟩)] w fun e w' => e = .returned (.tuple #[]) ∧ w' = w := by
  obtain ⟨j, hj, _⟩ := Option.map_eq_some_iff.1 Tryz.sz80
  go_enter Tryz.func79, Tryz.ntmps79
  go_wp2
  rw [Lib.run_neq_ptr_same w _ Tryz.underlying78 hj]
  go_wp2
  go_end0
  exact ⟨rfl, rfl⟩

set_option maxHeartbeats 1000000 in
set_option maxRecDepth 100000 in
theorem copyCheck_fresh (b : Nat) (w : World) (h0 : w.cell? ⟨b, 0, none⟩ = some (.pointer none)) (hsh : w.shape? b = some (80, 2)) (hfz : w.frozen? ⟨b, 0, none⟩ = false) :
    Calls Tryz.prog 79 #[.pointer (some ⟨b, 0, none⟩)] w fun e w' => e = .returned (.tuple #[]) ∧ w' = w.setCell ⟨b, 0, none⟩ (.pointer (some ⟨b, 0, none⟩)) := by
  obtain ⟨j, hj, hjs⟩ := Option.map_eq_some_iff.1 Tryz.sz80
  go_enter Tryz.func79, Tryz.ntmps79
  go_wp2
  rw [Lib.run_to_unsafe w ⟨b, 0, none⟩ Tryz.underlying78 Tryz.underlying142 hj (by rw [hjs]; decide) hsh (Nat.zero_lt_succ 1)]
  simp only [Result.andThen]
  rw [Oper.upon_value]
  go_wp2
  rw [run_callFunc_extern Tryz.func103 (by kernel_rfl) (by kernel_rfl) (by kernel_rfl) (e := Extern.AbiNoEscape.same) (by kernel_rfl)]
  rw [Lib.run_noEscape]
  simp only [Result.andThen]
  rw [Oper.upon_value]
  go_wp2
  rw [Lib.run_from_unsafe w ⟨b, 0, none⟩ Tryz.underlying142 Tryz.underlying78 hj hsh (by kernel_rfl)]
  simp only [Result.andThen]
  rw [Oper.upon_value]
  go_wp2
  go_end0
  exact ⟨rfl, rfl⟩

theorem copyCheck_any (B b : Nat) (bs : List Value) (w : World) (h : Lib.IsBuilder 80 5 B b bs w) :
    Calls Tryz.prog 79 #[.pointer (some ⟨b, 0, none⟩)] w fun e w' => e = .returned (.tuple #[]) ∧ (Lib.BuilderAt 80 5 B b (.pointer (some ⟨b, 0, none⟩)) bs w' ∧ Below B w w') := by
  rcases h with h | h
  · refine (copyCheck_fresh b w h.cell0 h.shape h.frozen0).mono ?_
    rintro e w' ⟨rfl, rfl⟩
    exact ⟨rfl, h.used _, (Below.refl B w).setCell (p := ⟨b, 0, none⟩) h.1 _⟩
  · refine (copyCheck_used b w h.cell0).mono ?_
    rintro e w' ⟨rfl, rfl⟩
    exact ⟨rfl, h, Below.refl B _⟩

set_option maxHeartbeats 2000000 in
set_option maxRecDepth 100000 in
theorem writeString_any (B b : Nat) (bs : List Value) (s : ByteArray) (w : World) (h : Lib.IsBuilder 80 5 B b bs w) (hlen : bs.length + s.size ≤ 140737488355328) (hBw : B ≤ w.heap.size) :
    Calls Tryz.prog 41 #[.pointer (some ⟨b, 0, none⟩), .string s] w fun e w' => e = .returned (.tuple #[.int .i64 s.size, .nilIface]) ∧ (Lib.BuilderAt 80 5 B b (.pointer (some ⟨b, 0, none⟩)) (bs ++ Lib.strCells s) w' ∧ Below B w w') := by
  obtain ⟨i0, hi, hz0, hz1, hz2⟩ := info_parts Tryz.info5
  have hCC := fun W hW => copyCheck_any B b bs W hW
  go_enter Tryz.func41, Tryz.ntmps41
  go_wp2_with (go_at_call 79; refine (hCC _ h).mono ?_; rintro e w1 ⟨rfl, h1, hb1⟩; refine Hid.out ?_)
  refine Lib.hid ?_
  obtain ⟨hB, v, hbk, hown, hne⟩ := h1
  have c1 : w1.cell? ⟨b, 1, none⟩ = some v := by rw [Lib.cell_of_heap hbk]; rfl
  go_wp2_with (at_builtin; refine Lib.wpList_append_own_string _ rfl _ _ 26 9 rfl B 5 i0 Tryz.underlying26 Tryz.underlying9 hi hz0 hz1 hz2 _ _ _ rfl hown s rfl (by unfold maxLen; omega) (by omega) (by have := hb1.size; omega) ?_; intro v' w2 hown' hgrow _hnil; refine Hid.out ?_)
  refine Lib.hid ?_
  have hlt : b < w1.heap.size := (Array.getElem?_eq_some_iff.1 hbk).1
  have hb2 : w2.heap[b]? = some (.cells #[.pointer (some ⟨b, 0, none⟩), v] 80 (0, 0)) := by
    rw [hgrow.block b hlt (fun e => hne e.symm)]; exact hbk
  have d1 : w2.cell? ⟨b, 1, none⟩ = some v := by rw [Lib.cell_of_heap hb2]; rfl
  have f1 : w2.frozen? ⟨b, 1, none⟩ = false := Lib.frozen_of_heap hb2 1
  obtain ⟨ao, n', cap, rfl⟩ : ∃ ao n' cap, v' = .slice ao n' cap := by
    rcases hown'.2 with ⟨hv, _⟩ | ⟨g, cap, cur, hv, _⟩
    · exact ⟨_, _, _, hv⟩
    · exact ⟨_, _, _, hv⟩
  go_wp2
  go_ret2
  refine ⟨rfl, ?_, ?_⟩
  · exact Lib.BuilderAt.put (T := 80) (e := 5) hB hb2 (bs' := bs ++ Lib.strCells s) (by simpa [Lib.strCells_length] using hown') (by decide)
  · exact (hb1.grown hgrow (by have := hb1.size; omega) (fun k hk => (hown.lt k hk).1)).setCell (p := ⟨b, 1, none⟩) hB _

set_option maxHeartbeats 2000000 in
set_option maxRecDepth 100000 in
theorem writeByte_any (B b : Nat) (bs : List Value) (c : Int) (w : World) (h : Lib.IsBuilder 80 5 B b bs w) (hlen : bs.length + 1 ≤ 140737488355328) (hBw : B ≤ w.heap.size) :
    Calls Tryz.prog 43 #[.pointer (some ⟨b, 0, none⟩), .int .u8 c] w fun e w' => e = .returned .nilIface ∧ (Lib.BuilderAt 80 5 B b (.pointer (some ⟨b, 0, none⟩)) (bs ++ [.int .u8 c]) w' ∧ Below B w w') := by
  have hCC := fun W hW => copyCheck_any B b bs W hW
  go_enter Tryz.func43, Tryz.ntmps43
  go_wp2_with (go_at_call 79; refine (hCC _ h).mono ?_; rintro e w1 ⟨rfl, h1, hb1⟩; refine Hid.out ?_)
  refine Lib.hid ?_
  obtain ⟨hB, v, hbk, hown, hne⟩ := h1
  have c1 : w1.cell? ⟨b, 1, none⟩ = some v := by rw [Lib.cell_of_heap hbk]; rfl
  have hg : GOwnV 5 w1 B v bs := hown
  go_wp2_with (at_builtin; refine gpush Tryz.elem26 _ rfl _ _ rfl B _ bs rfl (hg.alloc _) ⟨w1.heap.size, 0, none⟩ 1 1 [.int .u8 c] rfl rfl (cell_one_new _ _ _) (by simp [Value.oneCell']) (by omega) (by omega) (by have := hb1.size; simp; omega) ?_; intro v' w2 hown' hgrow hbel _hnil; refine Hid.out ?_)
  refine Lib.hid ?_
  have hlt : b < w1.heap.size := (Array.getElem?_eq_some_iff.1 hbk).1
  have hb2 : w2.heap[b]? = some (.cells #[.pointer (some ⟨b, 0, none⟩), v] 80 (0, 0)) := by
    rw [hgrow.block b (by simp; omega) (fun e => hne e.symm), Lib.alloc_old w1 _ b hlt]; exact hbk
  have d1 : w2.cell? ⟨b, 1, none⟩ = some v := by rw [Lib.cell_of_heap hb2]; rfl
  have f1 : w2.frozen? ⟨b, 1, none⟩ = false := Lib.frozen_of_heap hb2 1
  obtain ⟨g, cap, rfl⟩ := ownsRow_succ' hown'
  go_wp2
  go_ret
  refine ⟨rfl, ?_, ?_⟩
  · exact Lib.BuilderAt.put (T := 80) (e := 5) hB hb2 (bs' := bs ++ [.int .u8 c]) (by unfold GOwnV at hown'; exact hown') (by decide)
  · exact ((hbel w (hb1.alloc (by have := hb1.size; omega) _))).setCell (p := ⟨b, 1, none⟩) hB _

end Go.Proofs.YtgfmmbbebodapaaGreatDoor

/- What source.Print answers, for every list of items. -/
namespace Go.Proofs.YtgfmmbbebodapaaGreatDoor
open Go.RowKit

theorem cells_str (l : List UInt8) : Lib.strCells (bytesOf l) = Lib.byteCells l := by simp [Lib.strCells, Lib.byteCells, bytesOf]
theorem cells_snoc (l m : List UInt8) : Lib.byteCells l ++ Lib.byteCells m ++ [.int .u8 10] = Lib.byteCells (l ++ (m ++ [10])) := by simp [Lib.byteCells]
theorem bld_below {B b : Nat} {bs : List Value} {w w' : World} (h : Lib.IsBuilder 80 5 B b bs w) (hb : Below w.heap.size w w') : Lib.IsBuilder 80 5 B b bs w' := by
  have : ∀ q, Lib.BuilderAt 80 5 B b q bs w → Lib.BuilderAt 80 5 B b q bs w' := fun q h => by
    obtain ⟨hB, v, hbk, hown, hne⟩ := h
    exact ⟨hB, v, (hb.block b (Array.getElem?_eq_some_iff.1 hbk).1).trans hbk, GOwnV.below (T := 5) hown hb, hne⟩
  exact h.imp (this _) (this _)
theorem items_low {w wr : World} {p : Option Addr} {xs : List Src} (h : Items w p xs) (hb : Below w.heap.size w wr) : Items wr p xs := h.below hb

set_option maxRecDepth 100000 in
set_option maxHeartbeats 2000000 in
theorem print_any (p : Option Addr) (n c : Nat) (xs : List Src) (w : World) (he : Env w) (hn : xs.length = n) (hnc : n ≤ c) (hc63 : c ≤ 9223372036854775807) (hx : Items w p xs) :
    Calls Tryz.prog 18 #[.slice p n c] w fun E w' => E = .returned (.tuple #[.string (bytesOf (printL xs).1), .int .i64 (printL xs).2]) ∧ Below w.heap.size w w' := by
  have hC := check_any p n c xs w he hn hnc hc63 hx
  obtain ⟨ce, hce⟩ : ∃ ce, ce = checkL xs := ⟨_, rfl⟩
  rw [← hce] at hC
  by_cases h0 : (checkL xs).1 = 0
  · have h4 : n ≤ 4096 := by
      by_cases h : n ≤ 4096
      · exact h
      · unfold checkL at h0; rw [if_pos (by omega)] at h0; simp at h0
    have hmay : ∀ x ∈ xs, mayB x = true := by
      unfold checkL at h0
      rw [if_neg (by omega)] at h0
      exact chk_may xs 0 h0
    have hfit := hx.fit
    have hlen := textT_len xs hfit hmay
    have hbr : ∀ k, k ≤ n → (textT (xs.take k)).length ≤ 4096 * 1490 := fun k hk => by
      have := textT_len (xs.take k) (fun x hx => hfit x (List.mem_of_mem_take hx)) (fun x hx => hmay x (List.mem_of_mem_take hx))
      rw [List.length_take] at this
      have : min k xs.length * 1490 ≤ 4096 * 1490 := Nat.mul_le_mul_right _ (by omega)
      omega
    have HBR := Hid.in hbr
    have HX := Hid.in hx
    have HE := Hid.in he
    have HN := Hid.in hn
    have HMAY := Hid.in hmay
    have HPR : Hid (printL xs = if 65536 < (textT xs).length then ([], 3) else (textT xs, 0)) := by
      have : printL xs = if 65536 < (textT xs).length then ([], 3) else (textT xs, 0) := by unfold printL; rw [if_pos h0]
      exact this
    generalize printL xs = r at *
    rw [show ce.1 = 0 by rw [hce]; exact h0] at hC
    generalize ce.2 = c2 at hC
    clear hce h0 hx he hn hmay hfit hlen hbr
    go_enter Tryz.func18, Tryz.ntmps18
    go_wp2_with (go_at_call 16; refine hC.mono ?_; rintro E w1 ⟨rfl, hb1⟩; have HB1 := Hid.in hb1; clear hb1)
    have HBL : Hid (Lib.IsBuilder 80 5 w1.heap.size w1.heap.size [] (w1.alloc (.cells #[.pointer none, .slice none 0 0] 80))) := Lib.fresh_isBuilder 80 5 w1
    have HWL := Hid.in (new_alloc w1 (.cells #[.pointer none, .slice none 0 0] 80))
    generalize w1.alloc (.cells #[.pointer none, .slice none 0 0] 80) = W0 at *
    go_loopw [18] (fun i wr => ∃ k : Nat, k ≤ n ∧ i = .int .i64 k ∧ Lib.IsBuilder 80 5 w1.heap.size w1.heap.size (Lib.byteCells (textT (xs.take k))) wr ∧ Below w1.heap.size w1 wr) (fun i _ => n - (intOf i).toNat)
    case atStart => exact ⟨0, Nat.zero_le _, rfl, HBL.out, HWL.out⟩
    case round =>
      obtain ⟨k, hk, rfl, hI, hb⟩ := hrel
      have HI := Hid.in hI
      have HB := Hid.in hb
      have HWR := Hid.in (below_step HB1.out hb)
      have hsz := hb.size
      clear hI hb
      by_cases hlt : k < n
      · have hlt' : k < xs.length := by rw [HN.out]; exact hlt
        obtain ⟨b, o, hp, hc⟩ := HX.out.below HWR.out (by omega)
        subst hp
        obtain ⟨q, e, hR, hrow, hfit⟩ := hc k hlt'
        have hL := lineOf_any (xs[k]'hlt') hfit q (xs[k]'hlt').d.length e wr (HE.out.below HWR.out) rfl hrow
        have HR := Hid.in hR
        have hb1 := HBR.out k hk
        have hb2 := line_brief (xs[k]'hlt') hfit (HMAY.out _ (List.getElem_mem hlt'))
        have HTS := Hid.in (textT_succ xs k hlt')
        clear hc hR hrow hfit
        generalize xs[k] = x at *
        generalize lineT x = lx at *
        generalize textT (xs.take k) = tk at *
        go_wp2_with (first
          | (refine step_load_at HR.out rfl 28 (.tmp 23) rfl rfl _ Tryz.underlying28 rfl Tryz.sz28 ?_)
          | (go_at_call 42; refine hL.mono ?_; rintro E w5 ⟨rfl, hb5⟩; have HI5 := Hid.in (bld_below HI.out hb5); have HB5 := Hid.in (below_step HB.out hb5); clear hb5)
          | (go_at_call 41; refine (writeString_any w1.heap.size w1.heap.size _ (bytesOf lx) w5 HI5.out (by rw [Lib.byteCells_length, bytesOf_size]; omega) HB5.out.size).mono ?_; rintro E w6 ⟨rfl, h6, hb6⟩; have HI6 := Hid.in h6; have HB6 := Hid.in (HB5.out.trans hb6); clear h6 hb6)
          | (go_at_call 43; refine (writeByte_any w1.heap.size w1.heap.size _ 10 w6 (.inr HI6.out) (by rw [List.length_append, Lib.byteCells_length, Lib.strCells_length, bytesOf_size]; omega) HB6.out.size).mono ?_; rintro E w7 ⟨rfl, h7, hb7⟩; have HI7 := Hid.in h7; have HB7 := Hid.in (HB6.out.trans hb7); clear h7 hb7))
        go_roundw
        case rel => exact ⟨k + 1, by omega, by go_num, by rw [HTS.out, ← cells_snoc, ← cells_str]; exact .inr HI7.out, HB7.out⟩
        case measure => simp [intOf]; omega
      · have hkn : k = n := by omega
        have HI2 : Hid (Lib.IsBuilder 80 5 w1.heap.size w1.heap.size (Lib.byteCells (textT xs)) wr) := by
          have := HI.out
          rw [hkn, ← HN.out, List.take_length] at this
          exact this
        have hLn := Tryz.Builder_Len w1.heap.size w1.heap.size (Lib.byteCells (textT xs)) wr HI2.out
        rw [Lib.byteCells_length] at hLn
        have hSt := Tryz.Builder_String_any w1.heap.size w1.heap.size (textT xs) wr HI2.out hsz
        have HR2 := HPR
        by_cases hbig : 65536 < (textT xs).length
        · have HRR : Hid (r = ([], 3)) := by
            have : r = _ := HPR.out
            rw [this, if_pos hbig]; exact rfl
          generalize (textT xs).length = L at *
          go_wp2_with (go_at_call 44; refine hLn.mono ?_; rintro E w8 ⟨rfl, rfl⟩)
          obtain rfl := HRR.out
          go_ret2
          exact ⟨rfl, HWR.out⟩
        · have HRR : Hid (r = (textT xs, 0)) := by
            have : r = _ := HPR.out
            rw [this, if_neg hbig]; exact rfl
          generalize (textT xs).length = L at *
          go_wp2_with (first
            | (go_at_call 44; refine hLn.mono ?_; rintro E w8 ⟨rfl, rfl⟩)
            | (go_at_call 45; refine hSt.mono ?_; rintro E w9 ⟨rfl, hb9⟩))
          obtain rfl := HRR.out
          go_ret2
          exact ⟨rfl, HB1.out.trans ((HB.out.trans hb9).mono HB1.out.size)⟩
  · have hPR : printL xs = ([], (checkL xs).1) := by unfold printL; rw [if_neg h0]
    rw [hPR]
    rw [← hce] at h0 ⊢
    obtain ⟨c1, c2⟩ := ce
    simp only at h0 hC
    clear hce hPR hx
    go_enter Tryz.func18, Tryz.ntmps18
    go_wp2_with (go_at_call 16; refine hC.mono ?_; rintro E w1 ⟨rfl, hb1⟩)
    go_ret2
    exact ⟨rfl, hb1⟩

end Go.Proofs.YtgfmmbbebodapaaGreatDoor
