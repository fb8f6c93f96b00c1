/- Texts put together: Prt4, FitL, May. -/
import Derived.Test.YtkianldkbfjehaaGreatDoorKm
import Derived.Test.YtkianldkbfjehaaGreatDoorKl

/- source.same, mayBe. -/
namespace Go.Proofs.YtkianldkbfjehaaGreatDoor
open Go.RowKit

set_option maxRecDepth 20000 in
set_option maxHeartbeats 1000000 in
theorem same_yes (x : Src) (hx : Fit x) (p q : Option Addr) (m e m' e' : Nat) (w : World) (h1 : x.d.length = m) (h2 : x.d.length = m') (hr1 : Row w p x.d) (hr2 : Row w q x.d) :
    Calls Tryz.prog 77 #[.agg (cellsOf x (.slice p m e)), .agg (cellsOf x (.slice q m' e'))] w fun E w' => E = .returned (.bool true) ∧ Below w.heap.size w w' := by
  have hS := fun W k1 k2 => same_any p q m e m' e' x.d x.d W h1 h2 k1 k2 hx.d hx.d
  rw [sameB_self] at hS
  have HR1 := fun o o' => Hid.in ((hr1.below (new_alloc w o)).below (new_alloc (w.alloc o) o'))
  have HR2 := fun o o' => Hid.in ((hr2.below (new_alloc w o)).below (new_alloc (w.alloc o) o'))
  clear hr1 hr2 hx h1 h2
  unfold cellsOf
  obtain ⟨k, name, tg, o, a, b, n4, n, d⟩ := x
  simp only at *
  go_enter Tryz.func77, Tryz.ntmps77
  go_wp2_with (go_at_call 98; refine (hS _ (HR1 _ _).out (HR2 _ _).out).mono ?_; rintro E w1 ⟨rfl, rfl⟩)
  go_ret
  exact ⟨rfl, below_alloc (new_alloc _ _) _⟩
theorem text_ne {a b : ByteArray} (h : ¬ a = b) : (a.toList == b.toList) = false := str_ne h

set_option maxRecDepth 20000 in
set_option maxHeartbeats 4000000 in
theorem same_no (x y : Src) (hne : ¬ x = y) (hx : Fit x) (hy : Fit y) (p q : Option Addr) (m e m' e' : Nat) (w : World) (h1 : x.d.length = m) (h2 : y.d.length = m') (hr1 : Row w p x.d) (hr2 : Row w q y.d) :
    Calls Tryz.prog 77 #[.agg (cellsOf x (.slice p m e)), .agg (cellsOf y (.slice q m' e'))] w fun E w' => E = .returned (.bool false) ∧ Below w.heap.size w w' := by
  have hS := fun W k1 k2 => same_any p q m e m' e' x.d y.d W h1 h2 k1 k2 hx.d hy.d
  have HR1 := fun o o' => Hid.in ((hr1.below (new_alloc w o)).below (new_alloc (w.alloc o) o'))
  have HR2 := fun o o' => Hid.in ((hr2.below (new_alloc w o)).below (new_alloc (w.alloc o) o'))
  clear hr1 hr2 hx hy h1 h2
  unfold cellsOf
  obtain ⟨k, name, tg, o, a, b, n4, n, d⟩ := x
  obtain ⟨k2, name2, tg2, o2, a2, b2, n42, n2, d2⟩ := y
  simp only [Src.mk.injEq] at *
  by_cases c1 : k = k2
  · subst c1
    by_cases c2 : name = name2
    · subst c2
      by_cases c3 : tg = tg2
      · subst c3
        by_cases c4 : o = o2
        · subst c4
          by_cases c5 : a = a2
          · subst c5
            by_cases c6 : b = b2
            · subst c6
              by_cases c7 : n4 = n42
              · subst c7
                by_cases c8 : n = n2
                · subst c8
                  have c9 : ¬ d = d2 := fun h => hne ⟨rfl, rfl, rfl, rfl, rfl, rfl, rfl, rfl, h⟩
                  rw [sameB_no c9] at hS
                  clear hne c9
                  go_enter Tryz.func77, Tryz.ntmps77
                  go_wp2_with (go_at_call 98; refine (hS _ (HR1 _ _).out (HR2 _ _).out).mono ?_; rintro E w1 ⟨rfl, rfl⟩)
                  go_ret
                  exact ⟨rfl, below_alloc (new_alloc _ _) _⟩
                · clear hne hS
                  go_enter Tryz.func77, Tryz.ntmps77
                  go_wp2
                  go_ret
                  exact ⟨rfl, below_alloc (new_alloc _ _) _⟩
              · clear hne hS
                go_enter Tryz.func77, Tryz.ntmps77
                go_wp2
                go_ret
                exact ⟨rfl, below_alloc (new_alloc _ _) _⟩
            · clear hne hS
              go_enter Tryz.func77, Tryz.ntmps77
              go_wp2
              go_ret
              exact ⟨rfl, below_alloc (new_alloc _ _) _⟩
          · clear hne hS
            go_enter Tryz.func77, Tryz.ntmps77
            go_wp2
            go_ret
            exact ⟨rfl, below_alloc (new_alloc _ _) _⟩
        · clear hne hS
          go_enter Tryz.func77, Tryz.ntmps77
          go_wp2
          go_ret
          exact ⟨rfl, below_alloc (new_alloc _ _) _⟩
      · have c3' := text_ne c3
        clear hne hS c3
        go_enter Tryz.func77, Tryz.ntmps77
        go_wp2
        go_ret
        exact ⟨rfl, below_alloc (new_alloc _ _) _⟩
    · have c2' := text_ne c2
      clear hne hS c2
      go_enter Tryz.func77, Tryz.ntmps77
      go_wp2
      go_ret
      exact ⟨rfl, below_alloc (new_alloc _ _) _⟩
  · clear hne hS
    go_enter Tryz.func77, Tryz.ntmps77
    go_wp2
    go_ret
    exact ⟨rfl, below_alloc (new_alloc _ _) _⟩

end Go.Proofs.YtkianldkbfjehaaGreatDoor

/- What a line says has numbers that Go's types hold. -/
namespace Go.Proofs.YtkianldkbfjehaaGreatDoor
open Go.RowKit

theorem Byt.nil : Byt [] := by intro i; simp
theorem srcK_fit (k : Int) (h0 : 0 ≤ k) (h1 : k ≤ 255) : Fit (srcK k) :=
  ⟨h0, h1, by simp [srcK], by simp [srcK], by simp [srcK], by simp [srcK], by simp [srcK], by simp [srcK], by simp [srcK], by simp [srcK], by simp [srcK], by simp [srcK], Byt.nil, by show (0 : Nat) ≤ _; omega, by show (0 : Nat) ≤ _; omega, by simp [srcK]⟩
theorem regL_in {l : List UInt8} {r : Int} (h : regL l = some r) : 0 ≤ r ∧ r ≤ 7 := by
  unfold regL at h
  split at h
  · split at h
    · injection h with h; omega
    · cases h
  · cases h
theorem nameB_len {l : List UInt8} (h : nameB l = true) : l.length ≤ 16 := by
  unfold nameB at h
  simp only [Bool.and_eq_true, decide_eq_true_eq] at h
  exact h.1.2
theorem bytesOf_name {l : List UInt8} (h : nameB l = true) : (bytesOf l).size ≤ 1073741824 := by
  rw [bytesOf_size]; have := nameB_len h; omega
theorem readL_fit (p : Nat) (x : Src) (hx : Fit x) (f : List UInt8) (hd : x.d.length + 1 ≤ 17592186044416) : Fit (readL p x f).2 := by
  unfold readL
  split
  · split
    · rename_i r hr
      have := regL_in hr
      exact { hx with a0 := this.1, a1 := by show r ≤ 255; omega }
    · exact hx
  split
  · split
    · rename_i r hr
      have := regL_in hr
      exact { hx with b0 := this.1, b1 := by show r ≤ 255; omega }
    · exact hx
  split
  · split
    · rename_i hn
      exact { hx with nz := bytesOf_name hn }
    · exact hx
  split
  · split
    · rename_i hn
      exact { hx with tz := bytesOf_name hn }
    · exact hx
  split
  · exact hx
  rename_i v hv
  split
  · rename_i hh
    unfold holdsB at hh
    unfold putS
    split
    · rename_i h2
      rw [if_pos h2] at hh
      simp only [decide_eq_true_eq] at hh
      exact { hx with m0 := hh.1, m1 := hh.2 }
    split
    · rename_i h2 h5
      rw [if_neg h2, if_pos h5] at hh
      simp only [decide_eq_true_eq] at hh
      exact { hx with
        d := by
          show Byt (x.d ++ [v])
          intro i
          rw [List.getD_eq_getElem?_getD]
          by_cases hlt : i < x.d.length
          · rw [List.getElem?_append_left hlt, ← List.getD_eq_getElem?_getD]; exact hx.d i
          · rw [List.getElem?_append_right (by omega)]
            by_cases he : i - x.d.length = 0
            · rw [he]; simpa using hh
            · rw [List.getElem?_eq_none (by simp; omega)]; simp
        dz := by show (x.d ++ [v]).length ≤ _; rw [List.length_append]; exact hd }
    · rename_i h2 h5
      rw [if_neg h2, if_neg h5] at hh
      have : 0 ≤ v ∧ v ≤ 4096 := by
        split at hh
        · simpa using hh
        · simp only [decide_eq_true_eq] at hh; omega
      exact { hx with n0 := by show _ ≤ v; omega, n1 := by show v ≤ _; omega }
  · exact hx
theorem goL_fit (fs : List (Nat × List UInt8)) : ∀ (x : Src) (ps : List Nat) (y : Src), Fit x → x.d.length + fs.length ≤ 17592186044416 → goL x ps fs = .inr y → Fit y := by
  induction fs with
  | nil =>
    intro x ps y hx _ h
    cases ps <;> (simp only [goL] at h; injection h with h; rw [← h]; exact hx)
  | cons q fs ih =>
    intro x ps y hx hl h
    obtain ⟨c, f⟩ := q
    simp only [List.length_cons] at hl
    cases ps with
    | nil => simp [goL] at h
    | cons p ps =>
      simp only [goL] at h
      split at h
      · exact ih _ _ _ (readL_fit p x hx f (by omega)) (by have := readL_len p x f; omega) h
      · cases h
theorem formL_fit {f : List UInt8} {x : Src} {ps : List Nat} {n : Nat} (h : formL f = some (x, ps, n)) : Fit x := by
  unfold formL at h
  split at h
  · rename_i i _
    injection h with h
    have h1 : Fit (formW i).1 := by
      unfold formW; split <;> exact srcK_fit _ (by decide) (by decide)
    rw [h] at h1; exact h1
  · split at h
    · rename_i o ho
      obtain ⟨h1, h2, _⟩ := opL_some ho
      injection h with h
      have h3 : Fit (formO o).1 := { srcK_fit 2 (by decide) (by decide) with o0 := by show (0 : Int) ≤ (o : Int); omega, o1 := by show (o : Int) ≤ 255; omega }
      rw [h] at h3; exact h3
    · split at h
      · rename_i hc
        injection h with h
        injection h with h1 h2
        subst h1
        exact { srcK_fit 1 (by decide) (by decide) with nz := bytesOf_name hc.2 }
      · cases h
theorem lineL_fit (l : List UInt8) (hl : l.length + 2 ≤ 17592186044416) : Fit (lineL l).1 := by
  have h0 : Fit src0 := srcK_fit 0 (by decide) (by decide)
  have hc := fields_count l
  unfold lineL
  cases hf : fieldsL l with
  | nil => exact h0
  | cons q fs =>
    obtain ⟨c, f⟩ := q
    rw [hf] at hc
    simp only [List.length_cons] at hc
    simp only
    cases hm : formL f with
    | none => exact h0
    | some t =>
      obtain ⟨x, ps, n⟩ := t
      simp only
      cases hg : goL x ps fs with
      | inl r => obtain ⟨e, c⟩ := r; exact h0
      | inr y =>
        simp only
        split
        · exact h0
        · exact goL_fit fs x ps y (formL_fit hm) (by rw [(formL_ok hm).1]; simp; omega) hg

end Go.Proofs.YtkianldkbfjehaaGreatDoor

/- What source.mayBe answers, for every item. -/
namespace Go.Proofs.YtkianldkbfjehaaGreatDoor
open Go.RowKit

/-- an item may be: its own line says it -/
def MayP (x : Src) : Prop := (lineL (lineT x)).2.1 = true ∧ (lineL (lineT x)).1 = x
theorem lineT_len (x : Src) (hx : Fit x) : (lineT x).length ≤ 139586437120 := by
  have h1 := midT_len x hx (filledT x)
  have h2 : filledT x ≤ 64 := by
    have := (plT_ok x).1
    unfold filledT
    split <;> omega
  unfold lineT
  have : (filledT x + 1) * 2147483648 ≤ 65 * 2147483648 := Nat.mul_le_mul_right _ (by omega)
  omega
/-- nine cells of an item -/
theorem item9 {w : World} {g : Nat} {x : Src} {d : Value} (h : Blk w g 57 (cellsOf x d)) :
    w.cell? ⟨g, 0, none⟩ = some (.int .u8 x.k) ∧ w.cell? ⟨g, 1, none⟩ = some (.string x.name) ∧ w.cell? ⟨g, 2, none⟩ = some (.string x.tg) ∧ w.cell? ⟨g, 3, none⟩ = some (.int .u8 x.o) ∧ w.cell? ⟨g, 4, none⟩ = some (.int .u8 x.a) ∧ w.cell? ⟨g, 5, none⟩ = some (.int .u8 x.b) ∧ w.cell? ⟨g, 6, none⟩ = some (.int .i32 x.m) ∧ w.cell? ⟨g, 7, none⟩ = some (.int .i64 x.n) ∧ w.cell? ⟨g, 8, none⟩ = some d :=
  ⟨h.cell 0, h.cell 1, h.cell 2, h.cell 3, h.cell 4, h.cell 5, h.cell 6, h.cell 7, h.cell 8⟩
theorem GOwnV.rowB {w : World} {B : Nat} {d : Value} {xs : List Int} (h : GOwnV 5 w B d (byts xs)) : ∃ q cap, d = .slice q xs.length cap ∧ Row w q xs := by
  obtain ⟨q, cap, rfl, hr, -, -⟩ := h.slice
  refine ⟨q, cap, by rw [List.length_map], fun h0 => ?_⟩
  obtain ⟨b, o, hp, hc⟩ := hr (by rw [List.length_map]; exact h0)
  exact ⟨b, o, hp, fun i hi => (hc i (by rw [List.length_map]; exact hi)).trans (getD_byts xs i hi)⟩

set_option maxRecDepth 20000 in
set_option maxHeartbeats 2000000 in
theorem mayBe_any (x : Src) (hx : Fit x) (q : Option Addr) (m e : Nat) (w : World) (he : Env w) (hm : x.d.length = m) (hr : Row w q x.d) (b : Bool) (hb : b = true ↔ MayP x) :
    Calls Tryz.prog 60 #[.agg (cellsOf x (.slice q m e))] w fun E w' => E = .returned (.bool b) ∧ Below w.heap.size w w' := by
  have hl := lineT_len x hx
  have hO := fun W hW hR => lineOf_any x hx q m e W hW hm hR
  have hL := fun W hW => line_any (bytesOf (lineT x)) W hW (by rw [bytesOf_size]; omega)
  rw [bytesOf_list] at hL
  have hy := lineL_fit (lineT x) (by omega)
  generalize bytesOf (lineT x) = s at *
  unfold MayP at hb
  generalize lineL (lineT x) = r at *
  obtain ⟨y, ok, er, c⟩ := r
  simp only at hy hb
  have hE1 := fun o => Hid.in (he.below (new_alloc w o))
  have hR1 := fun o => Hid.in (hr.below (new_alloc w o))
  go_enter Tryz.func60, Tryz.ntmps60
  go_wp2_with (first
    | (refine step_load_blk (Blk.new w 57 (cellsOf x (.slice q m e))) rfl 57 _ rfl rfl (cellsOf x (.slice q m e)) (List.prefix_refl _) _ Tryz.underlying57 rfl Tryz.sz57 ?_)
    | (go_at_call 76; refine (hO _ (hE1 _).out (hR1 _).out).mono ?_; rintro E w1 ⟨rfl, hb1⟩; have HB1 : Hid (Blk w1 w.heap.size 57 (cellsOf x (.slice q m e))) := (Blk.new w 57 _).grow hb1; have HW1 := Hid.in (below_step (new_alloc w _) hb1); have HE1 := Hid.in ((hE1 _).out.below hb1); have HR1 := Hid.in ((hR1 _).out.below hb1); clear hb1)
    | (go_at_call 75; refine (hL _ HE1.out.vars).mono ?_; rintro E w2 ⟨d, rfl, hd, hb2⟩; have HB2 := Hid.in (HB1.out.grow hb2); have HW2 := Hid.in (below_step HW1.out hb2); have HR2 := Hid.in (HR1.out.below hb2); obtain ⟨q2, cap2, rfl, hr2⟩ := hd.rowB; have HD2 := Hid.in hr2; clear hb2 hd hr2; unfold LineV; dsimp only)
    | (refine step_store_new rfl 57 (.tmp 3) (.tmp 11) rfl rfl rfl (cellsOf y (.slice q2 y.d.length cap2)) rfl Tryz.sz57 rfl (cells_one _ _ _ _) ?_; have HB3 := Hid.in (HB2.out.grow (new_alloc w2 (.cells (cellsOf y (.slice q2 y.d.length cap2)) 57))); have HY3 := Hid.in (Blk.new w2 57 (cellsOf y (.slice q2 y.d.length cap2))); have HW3 := Hid.in (below_alloc HW2.out (.cells (cellsOf y (.slice q2 y.d.length cap2)) 57)); have HR3 := Hid.in (HR2.out.below (new_alloc w2 (.cells (cellsOf y (.slice q2 y.d.length cap2)) 57))); have HD3 := Hid.in (HD2.out.below (new_alloc w2 (.cells (cellsOf y (.slice q2 y.d.length cap2)) 57))); generalize w2.alloc (.cells (cellsOf y (.slice q2 y.d.length cap2)) 57) = w3 at *; refine Hid.out ?_))
  refine Lib.hid ?_
  clear hO hL hE1 hR1 HB1 HB2 HW1 HW2 HE1 HR1 HR2 HD2
  cases ok with
  | false =>
    have hbf : b = false := by
      cases b with
      | false => rfl
      | true => exact absurd (hb.1 rfl).1 (by simp)
    subst hbf
    clear hb
    go_wp2
    go_ret
    exact ⟨rfl, HW3.out⟩
  | true =>
    have hC : Calls Tryz.prog 77 #[.agg (cellsOf y (.slice q2 y.d.length cap2)), .agg (cellsOf x (.slice q m e))] w3 fun E w' => E = .returned (.bool b) ∧ Below w3.heap.size w3 w' := by
      by_cases hxy : y = x
      · subst hxy
        have hbt : b = true := hb.2 ⟨rfl, rfl⟩
        rw [hbt]
        exact same_yes y hx q2 q _ _ _ _ w3 rfl hm HD3.out HR3.out
      · have hbf : b = false := by
          cases b with
          | false => rfl
          | true => exact absurd (hb.1 rfl).2 hxy
        rw [hbf]
        exact same_no y x hxy hy hx q2 q _ _ _ _ w3 rfl hm HD3.out HR3.out
    obtain ⟨i0, i1, i2, i3, i4, i5, i6, i7, i8⟩ := item9 HB3.out
    obtain ⟨j0, j1, j2, j3, j4, j5, j6, j7, j8⟩ := item9 HY3.out
    simp only [cellsOf] at hC
    clear hb hy hx
    generalize w2.heap.size = g3 at *
    go_wp2_with (go_at_call 77; refine hC.mono ?_; rintro E w4 ⟨rfl, hb4⟩)
    go_ret
    exact ⟨rfl, below_step HW3.out hb4⟩

end Go.Proofs.YtkianldkbfjehaaGreatDoor
