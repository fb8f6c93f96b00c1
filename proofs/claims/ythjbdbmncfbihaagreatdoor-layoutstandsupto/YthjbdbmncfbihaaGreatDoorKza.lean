/- Texts put together: Short, RefO, RefP. -/
import Derived.Test.YthjbdbmncfbihaaGreatDoorKo
import Derived.Test.YthjbdbmncfbihaaGreatDoorKz
import Derived.Test.YthjbdbmncfbihaaGreatDoorKy

/- Items that may be have short lines. -/
namespace Go.Proofs.YthjbdbmncfbihaaGreatDoor
open Go.RowKit

/-- names of at most 16 bytes -/
def Brief (x : Src) : Prop := x.name.size ≤ 16 ∧ x.tg.size ≤ 16
theorem srcK_brief (k : Int) : Brief (srcK k) := ⟨by show (0 : Nat) ≤ _; omega, by show (0 : Nat) ≤ _; omega⟩
theorem readL_brief (p : Nat) (x : Src) (hx : Brief x) (f : List UInt8) : Brief (readL p x f).2 := by
  unfold readL
  split
  · split <;> exact hx
  split
  · split <;> exact hx
  split
  · split
    · rename_i hn
      exact ⟨by show (bytesOf f).size ≤ 16; rw [bytesOf_size]; exact nameB_len hn, hx.2⟩
    · exact hx
  split
  · split
    · rename_i hn
      exact ⟨hx.1, by show (bytesOf f).size ≤ 16; rw [bytesOf_size]; exact nameB_len hn⟩
    · exact hx
  split
  · exact hx
  split
  · unfold putS; split
    · exact hx
    split <;> exact hx
  · exact hx
theorem goL_brief (fs : List (Nat × List UInt8)) : ∀ (x : Src) (ps : List Nat) (y : Src), Brief x → goL x ps fs = .inr y → Brief y := by
  induction fs with
  | nil =>
    intro x ps y hx h
    cases ps <;> (simp only [goL] at h; injection h with h; rw [← h]; exact hx)
  | cons q fs ih =>
    intro x ps y hx h
    obtain ⟨c, f⟩ := q
    cases ps with
    | nil => simp [goL] at h
    | cons p ps =>
      simp only [goL] at h
      split at h
      · exact ih _ _ _ (readL_brief p x hx f) h
      · cases h
theorem formL_brief {f : List UInt8} {x : Src} {ps : List Nat} {n : Nat} (h : formL f = some (x, ps, n)) : Brief x := by
  unfold formL at h
  split at h
  · rename_i i _
    injection h with h
    have h1 : Brief (formW i).1 := by
      unfold formW; split <;> exact srcK_brief _
    rw [h] at h1; exact h1
  · split at h
    · rename_i o ho
      injection h with h
      have h3 : Brief (formO o).1 := srcK_brief 2
      rw [h] at h3; exact h3
    · split at h
      · rename_i hc
        injection h with h
        injection h with h1 h2
        subst h1
        exact ⟨by show (bytesOf f.dropLast).size ≤ 16; rw [bytesOf_size]; exact nameB_len hc.2, by show (0 : Nat) ≤ _; omega⟩
      · cases h
theorem lineL_brief (l : List UInt8) : Brief (lineL l).1 := by
  have h0 : Brief src0 := srcK_brief 0
  unfold lineL
  cases hf : fieldsL l with
  | nil => exact h0
  | cons q fs =>
    obtain ⟨c, f⟩ := q
    simp only
    cases hm : formL f with
    | none => exact h0
    | some t =>
      obtain ⟨x, ps, n⟩ := t
      simp only
      cases hg : goL x ps fs with
      | inl r => obtain ⟨e, c⟩ := r; exact h0
      | inr y =>
        simp only
        split
        · exact h0
        · exact goL_brief fs x ps y (formL_brief hm) hg
theorem may_brief {x : Src} (h : mayB x = true) : Brief x := by
  have := ((mayB_iff x).1 h).2
  rw [← this]; exact lineL_brief _
theorem head_brief (x : Src) (h : Brief x) : (headT x).length ≤ 17 := by
  have hn := h.1
  rw [Lib.size_eq] at hn
  have := nm_len x.o.toNat
  unfold headT
  split
  · simp only [List.length_append, List.length_cons, List.length_nil]; omega
  split
  · omega
  split
  · decide
  split
  · decide
  split
  · decide
  split
  · decide
  split
  · decide
  · simp
theorem field_brief (p : Nat) (x : Src) (hx : Fit x) (hb : Brief x) (i : Nat) : (fieldT p x i).length ≤ 22 := by
  have hn := hb.1
  have ht := hb.2
  rw [Lib.size_eq] at hn ht
  have h1 := Lib.itoa_length_le x.a (by have := hx.a0; omega) (by have := hx.a1; omega)
  have h2 := Lib.itoa_length_le x.b (by have := hx.b0; omega) (by have := hx.b1; omega)
  have h3 := Lib.itoa_length_le x.m (by have := hx.m0; omega) (by have := hx.m1; omega)
  have h4 := Lib.itoa_length_le x.n hx.n0 hx.n1
  have h5 := Lib.itoa_length_le (x.d.getD i 0) (by have := getD_byte x hx i; omega) (by have := getD_byte x hx i; omega)
  unfold fieldT
  split
  · simp only [List.length_cons]; omega
  split
  · simp only [List.length_cons]; omega
  split
  · omega
  split
  · omega
  split
  · omega
  split
  · omega
  · omega
theorem mid_brief (x : Src) (hx : Fit x) (hb : Brief x) : ∀ k, (midT x k).length ≤ 17 + k * 23
  | 0 => by have := head_brief x hb; simp [midT]; omega
  | k + 1 => by
    have h1 := mid_brief x hx hb k
    have h2 := field_brief ((plT (headT x)).getD k 0) x hx hb k
    rw [midT_succ, List.length_append, List.length_cons]
    omega
theorem line_brief (x : Src) (hx : Fit x) (hm : mayB x = true) : (lineT x).length ≤ 1489 := by
  have h1 := mid_brief x hx (may_brief hm) (filledT x)
  have h2 : filledT x ≤ 64 := by
    have := (plT_ok x).1
    unfold filledT
    split <;> omega
  unfold lineT
  omega
/-- what is printed of items -/
def textT (xs : List Src) : List UInt8 := xs.flatMap fun x => lineT x ++ [10]
theorem textT_succ (xs : List Src) (k : Nat) (h : k < xs.length) : textT (xs.take (k + 1)) = textT (xs.take k) ++ (lineT xs[k] ++ [10]) := by
  unfold textT
  rw [List.take_succ_eq_append_getElem h, List.flatMap_append]
  simp
theorem textT_len (xs : List Src) (hx : ∀ x ∈ xs, Fit x) (hm : ∀ x ∈ xs, mayB x = true) : (textT xs).length ≤ xs.length * 1490 := by
  induction xs with
  | nil => simp [textT]
  | cons x xs ih =>
    have h1 := line_brief x (hx x (by simp)) (hm x (by simp))
    have h2 := ih (fun y hy => hx y (by simp [hy])) (fun y hy => hm y (by simp [hy]))
    unfold textT at *
    rw [List.flatMap_cons, List.length_append, List.length_append]
    simp only [List.length_cons, List.length_nil] at *
    omega
theorem chk_may (xs : List Src) : ∀ i, (chkAt i xs).1 = 0 → ∀ x ∈ xs, mayB x = true := by
  induction xs with
  | nil => intro i _ x hx; simp at hx
  | cons y ys ih =>
    intro i h x hx
    simp only [chkAt] at h
    split at h
    · exact absurd h (by simp)
    rename_i hy
    split at h
    · exact absurd h (by simp)
    rcases List.mem_cons.1 hx with rfl | hx
    · simpa using hy
    · exact ih _ h x hx
/-- what Print answers -/
def printL (xs : List Src) : List UInt8 × Int :=
  if (checkL xs).1 = 0 then (if 65536 < (textT xs).length then ([], 3) else (textT xs, 0)) else ([], (checkL xs).1)

end Go.Proofs.YthjbdbmncfbihaaGreatDoor

/- switchyardref04: line, same, May. -/
namespace Go.Proofs.YthjbdbmncfbihaaGreatDoor
open Go.RowKit

theorem refT_any (x : Src) (hx : Fit x) (q : Option Addr) (m e : Nat) (w : World) (hm : x.d.length = m) (hm64 : m ≤ 64) (hr : Row w q x.d) :
    Calls Tryz.prog 40 #[.agg (cellsOf x (.slice q m e))] w fun E w' => E = .returned (.string (bytesOf (lineT x))) ∧ Below w.heap.size w w' := by
  by_cases h1 : x.k = 1
  · exact refT_1 x _ w hx h1
  by_cases h2 : x.k = 2
  · by_cases ho : 1 ≤ x.o.toNat ∧ x.o.toNat < 17
    · exact refT_2 x _ w hx h2 ho
    · exact refT_2no x _ w hx h2 ho
  by_cases h3 : x.k = 3
  · exact refT_3 x _ w hx h3
  by_cases h4 : x.k = 4
  · exact refT_4 x q m e w hx h4 hm hm64 hr
  by_cases h5 : x.k = 5
  · exact refT_5 x _ w hx h5
  by_cases h6 : x.k = 6
  · exact refT_6 x _ w hx h6
  by_cases h7 : x.k = 7
  · exact refT_7 x _ w hx h7
  · exact refT_0 x _ w h1 h2 h3 h4 h5 h6 h7

set_option maxRecDepth 20000 in
set_option maxHeartbeats 1000000 in
theorem refSame_yes (x : Src) (p q : Option Addr) (m e m' e' : Nat) (w : World) (h1 : x.d.length = m) (h2 : x.d.length = m') (hr1 : Row w p x.d) (hr2 : Row w q x.d) :
    Calls Tryz.prog 41 #[.agg (cellsOf x (.slice p m e)), .agg (cellsOf x (.slice q m' e'))] w fun E w' => E = .returned (.bool true) ∧ Below w.heap.size w w' := by
  have hcv1 := fun o o' => ((hr1.below (new_alloc w o)).below (new_alloc (w.alloc o) o')).convert h1 e
  have hcv2 := fun o o' => ((hr2.below (new_alloc w o)).below (new_alloc (w.alloc o) o')).convert h2 e'
  clear hr1 hr2 h1 h2
  unfold cellsOf
  obtain ⟨k, name, tg, o, a, b, n4, n, d⟩ := x
  simp only at *
  generalize strOfNums d = sd at *
  go_enter Tryz.func41, Tryz.ntmps41
  go_wp2
  go_ret
  exact ⟨rfl, below_alloc (new_alloc _ _) _⟩

set_option maxRecDepth 20000 in
set_option maxHeartbeats 4000000 in
theorem refSame_no (x y : Src) (hne : ¬ x = y) (hx : Fit x) (hy : Fit y) (p q : Option Addr) (m e m' e' : Nat) (w : World) (h1 : x.d.length = m) (h2 : y.d.length = m') (hr1 : Row w p x.d) (hr2 : Row w q y.d) :
    Calls Tryz.prog 41 #[.agg (cellsOf x (.slice p m e)), .agg (cellsOf y (.slice q m' e'))] w fun E w' => E = .returned (.bool false) ∧ Below w.heap.size w w' := by
  have hcv1 := fun o o' => ((hr1.below (new_alloc w o)).below (new_alloc (w.alloc o) o')).convert h1 e
  have hcv2 := fun o o' => ((hr2.below (new_alloc w o)).below (new_alloc (w.alloc o) o')).convert h2 e'
  have hS := str_same hx.d hy.d
  clear hr1 hr2 hx hy h1 h2
  unfold cellsOf
  obtain ⟨k, name, tg, o, a, b, n4, n, d⟩ := x
  obtain ⟨k2, name2, tg2, o2, a2, b2, n42, n2, d2⟩ := y
  simp only [Src.mk.injEq] at *
  by_cases c1 : k = k2
  · subst c1
    by_cases c2 : name = name2
    · subst c2
      by_cases c3 : tg = tg2
      · subst c3
        by_cases c4 : o = o2
        · subst c4
          by_cases c5 : a = a2
          · subst c5
            by_cases c6 : b = b2
            · subst c6
              by_cases c7 : n4 = n42
              · subst c7
                by_cases c8 : n = n2
                · subst c8
                  have c9 : ¬ d = d2 := fun h => hne ⟨rfl, rfl, rfl, rfl, rfl, rfl, rfl, rfl, h⟩
                  rw [sameB_no c9] at hS
                  clear hne c9
                  generalize strOfNums d = sd at *
                  generalize strOfNums d2 = sd2 at *
                  go_enter Tryz.func41, Tryz.ntmps41
                  go_wp2
                  go_ret
                  exact ⟨rfl, below_alloc (new_alloc _ _) _⟩
                · clear hne hS hcv1 hcv2
                  go_enter Tryz.func41, Tryz.ntmps41
                  go_wp2
                  go_ret
                  exact ⟨rfl, below_alloc (new_alloc _ _) _⟩
              · clear hne hS hcv1 hcv2
                go_enter Tryz.func41, Tryz.ntmps41
                go_wp2
                go_ret
                exact ⟨rfl, below_alloc (new_alloc _ _) _⟩
            · clear hne hS hcv1 hcv2
              go_enter Tryz.func41, Tryz.ntmps41
              go_wp2
              go_ret
              exact ⟨rfl, below_alloc (new_alloc _ _) _⟩
          · clear hne hS hcv1 hcv2
            go_enter Tryz.func41, Tryz.ntmps41
            go_wp2
            go_ret
            exact ⟨rfl, below_alloc (new_alloc _ _) _⟩
        · clear hne hS hcv1 hcv2
          go_enter Tryz.func41, Tryz.ntmps41
          go_wp2
          go_ret
          exact ⟨rfl, below_alloc (new_alloc _ _) _⟩
      · have c3' := text_ne c3
        clear hne hS hcv1 hcv2 c3
        go_enter Tryz.func41, Tryz.ntmps41
        go_wp2
        go_ret
        exact ⟨rfl, below_alloc (new_alloc _ _) _⟩
    · have c2' := text_ne c2
      clear hne hS hcv1 hcv2 c2
      go_enter Tryz.func41, Tryz.ntmps41
      go_wp2
      go_ret
      exact ⟨rfl, below_alloc (new_alloc _ _) _⟩
  · clear hne hS hcv1 hcv2
    go_enter Tryz.func41, Tryz.ntmps41
    go_wp2
    go_ret
    exact ⟨rfl, below_alloc (new_alloc _ _) _⟩


end Go.Proofs.YthjbdbmncfbihaaGreatDoor

/- switchyardref04.May. -/
namespace Go.Proofs.YthjbdbmncfbihaaGreatDoor
open Go.RowKit

theorem lineL_ok (l : List UInt8) : (lineL l).2.1 = true → (lineL l).2.2.1 = 0 := by
  unfold lineL
  split
  · intro h; cases h
  · split
    · intro h; cases h
    · split
      · intro h; cases h
      · split
        · intro h; cases h
        · intro _; rfl
theorem goL_dlen : ∀ (fs : List (Nat × List UInt8)) (ps : List Nat) (x z : Src), goL x ps fs = .inr z → z.d.length ≤ x.d.length + fs.length
  | [], _, x, z, h => by rw [goL] at h; injection h with h; rw [h]; exact Nat.le_refl _
  | (c, f) :: fs, [], x, z, h => by simp [goL] at h
  | (c, f) :: fs, p :: ps, x, z, h => by
    rw [goL] at h
    split at h
    · have h1 := goL_dlen fs ps _ z h
      have h2 := readL_len p x f
      rw [List.length_cons]; omega
    · cases h
theorem formL_64 {f : List UInt8} {x : Src} {ps : List Nat} {n : Nat} (h : formL f = some (x, ps, n)) : ps.length ≤ 64 := by
  unfold formL at h
  split at h
  · rename_i i _
    injection h with h
    have h1 : (formW i).2.1.length ≤ 64 := by
      unfold formW; split <;> simp
    rw [h] at h1
    exact h1
  · split at h
    · rename_i o _
      injection h with h
      have h1 : (formO o).2.1.length ≤ 64 := Nat.le_trans (plO_len o) (by decide)
      rw [h] at h1
      exact h1
    · split at h
      · injection h with h
        injection h with h1 h2
        injection h2 with h2 h3
        rw [← h2]; simp
      · cases h
theorem lineL_64 (l : List UInt8) : (lineL l).1.d.length ≤ 64 := by
  unfold lineL
  split
  · exact Nat.zero_le _
  · split
    · exact Nat.zero_le _
    · rename_i x ps least hform
      split
      · exact Nat.zero_le _
      · rename_i y hgo
        split
        · exact Nat.zero_le _
        · have h1 := goL_dlen _ _ _ _ hgo
          have h2 := goL_len _ _ _ _ hgo
          have h3 := formL_64 hform
          have h4 := (formL_ok hform).1
          simp only
          rw [h4, List.length_nil] at h1
          omega
theorem may_64 {x : Src} (h : MayP x) : x.d.length ≤ 64 := by rw [← h.2]; exact lineL_64 _

set_option maxRecDepth 20000 in
set_option maxHeartbeats 2000000 in
theorem refMay_short (x : Src) (hx : Fit x) (q : Option Addr) (m e : Nat) (w : World) (hm64 : m ≤ 64) (hm : x.d.length = m) (hr : Row w q x.d) (b : Bool) (hb : b = true ↔ MayP x) :
    Calls Tryz.prog 26 #[.agg (cellsOf x (.slice q m e))] w fun E w' => E = .returned (.bool b) ∧ Below w.heap.size w w' := by
  have hl := lineT_len x hx
  have hO := fun W hR => refT_any x hx q m e W hm hm64 hR
  have hL := fun W => refLine_any (bytesOf (lineT x)) W (by rw [bytesOf_size]; omega)
  rw [bytesOf_list] at hL
  have hy := lineL_fit (lineT x) (by omega)
  have her := lineL_ok (lineT x)
  generalize bytesOf (lineT x) = s at *
  unfold MayP at hb
  generalize lineL (lineT x) = r at *
  obtain ⟨y, ok, er, c⟩ := r
  simp only at hy hb her
  have hR1 := fun o => Hid.in (hr.below (new_alloc w o))
  go_enter Tryz.func26, Tryz.ntmps26
  go_upto_region 1 with fail
  have c8 : (w.alloc (.cells (cellsOf x (.slice q m e)) 28)).cell? ⟨w.heap.size, 8, none⟩ = some (.slice q m e) := (Blk.new w 28 (cellsOf x (.slice q m e))).cell 8
  go_wp2_with (first
    | (refine step_load_blk (Blk.new w 28 (cellsOf x (.slice q m e))) rfl 28 _ rfl rfl (cellsOf x (.slice q m e)) (List.prefix_refl _) _ Tryz.underlying28 rfl Tryz.sz28 ?_)
    | (go_at_call 40; refine (hO _ (hR1 _).out).mono ?_; rintro E w1 ⟨rfl, hb1⟩; have HB1 : Hid (Blk w1 w.heap.size 28 (cellsOf x (.slice q m e))) := (Blk.new w 28 _).grow hb1; have HW1 := Hid.in (below_step (new_alloc w _) hb1); have HR1 := Hid.in ((hR1 _).out.below hb1); clear hb1)
    | (go_at_call 39; refine (hL _).mono ?_; rintro E w2 ⟨d, rfl, hd, hb2⟩; have HB2 := Hid.in (HB1.out.grow hb2); have HW2 := Hid.in (below_step HW1.out hb2); have HR2 := Hid.in (HR1.out.below hb2); obtain ⟨q2, cap2, rfl, hr2⟩ := hd.rowB; have HD2 := Hid.in hr2; clear hb2 hd hr2; unfold LineV; dsimp only)
    | (refine step_store_new rfl 28 (.tmp 3) (.tmp 15) rfl rfl rfl (cellsOf y (.slice q2 y.d.length cap2)) rfl Tryz.sz28 rfl (cells_one _ _ _ _) ?_; have HB3 := Hid.in (HB2.out.grow (new_alloc w2 (.cells (cellsOf y (.slice q2 y.d.length cap2)) 28))); have HY3 := Hid.in (Blk.new w2 28 (cellsOf y (.slice q2 y.d.length cap2))); have HW3 := Hid.in (below_alloc HW2.out (.cells (cellsOf y (.slice q2 y.d.length cap2)) 28)); have HR3 := Hid.in (HR2.out.below (new_alloc w2 (.cells (cellsOf y (.slice q2 y.d.length cap2)) 28))); have HD3 := Hid.in (HD2.out.below (new_alloc w2 (.cells (cellsOf y (.slice q2 y.d.length cap2)) 28))); generalize w2.alloc (.cells (cellsOf y (.slice q2 y.d.length cap2)) 28) = w3 at *; refine Hid.out ?_))
  refine Lib.hid ?_
  clear hO hL hR1 HB1 HB2 HW1 HW2 HR1 HR2 HD2 c8
  cases ok with
  | false =>
    have hbf : b = false := by
      cases b with
      | false => rfl
      | true => exact absurd (hb.1 rfl).1 (by simp)
    subst hbf
    clear hb her
    go_wp2
    go_ret
    exact ⟨rfl, HW3.out⟩
  | true =>
    obtain rfl := her rfl
    have hC : Calls Tryz.prog 41 #[.agg (cellsOf x (.slice q m e)), .agg (cellsOf y (.slice q2 y.d.length cap2))] w3 fun E w' => E = .returned (.bool b) ∧ Below w3.heap.size w3 w' := by
      by_cases hxy : y = x
      · subst hxy
        have hbt : b = true := hb.2 ⟨rfl, rfl⟩
        rw [hbt]
        exact refSame_yes y q q2 _ _ _ _ w3 hm rfl HR3.out HD3.out
      · have hbf : b = false := by
          cases b with
          | false => rfl
          | true => exact absurd (hb.1 rfl).2 hxy
        rw [hbf]
        exact refSame_no x y (fun e => hxy e.symm) hx hy q q2 _ _ _ _ w3 hm rfl HR3.out HD3.out
    obtain ⟨i0, i1, i2, i3, i4, i5, i6, i7, i8⟩ := item9 HB3.out
    obtain ⟨j0, j1, j2, j3, j4, j5, j6, j7, j8⟩ := item9 HY3.out
    simp only [cellsOf] at hC
    clear hb hy hx
    generalize w2.heap.size = g3 at *
    go_wp2_with (go_at_call 41; refine hC.mono ?_; rintro E w4 ⟨rfl, hb4⟩)
    go_ret
    exact ⟨rfl, below_step HW3.out hb4⟩


set_option maxRecDepth 20000 in
set_option maxHeartbeats 1000000 in
theorem refMay_long (x : Src) (q : Option Addr) (m e : Nat) (w : World) (hm64 : 64 < m) (hm63 : m ≤ 9223372036854775807) :
    Calls Tryz.prog 26 #[.agg (cellsOf x (.slice q m e))] w fun E w' => E = .returned (.bool false) ∧ Below w.heap.size w w' := by
  have c8 : (w.alloc (.cells (cellsOf x (.slice q m e)) 28)).cell? ⟨w.heap.size, 8, none⟩ = some (.slice q m e) := (Blk.new w 28 (cellsOf x (.slice q m e))).cell 8
  have HW := Hid.in (new_alloc w (.cells (cellsOf x (.slice q m e)) 28))
  go_enter Tryz.func26, Tryz.ntmps26
  go_upto_region 1 with fail
  generalize w.alloc (.cells (cellsOf x (.slice q m e)) 28) = w1 at *
  go_wp2
  go_ret
  exact ⟨rfl, HW.out⟩
theorem refMay_any (x : Src) (hx : Fit x) (q : Option Addr) (m e : Nat) (w : World) (hm : x.d.length = m) (hr : Row w q x.d) (b : Bool) (hb : b = true ↔ MayP x) :
    Calls Tryz.prog 26 #[.agg (cellsOf x (.slice q m e))] w fun E w' => E = .returned (.bool b) ∧ Below w.heap.size w w' := by
  by_cases h : m ≤ 64
  · exact refMay_short x hx q m e w h hm hr b hb
  · have hbf : b = false := by
      cases b with
      | false => rfl
      | true => exact absurd (may_64 (hb.1 rfl)) (by omega)
    rw [hbf]
    exact refMay_long x q m e w (by omega) (by have := hx.dz; omega)

end Go.Proofs.YthjbdbmncfbihaaGreatDoor
