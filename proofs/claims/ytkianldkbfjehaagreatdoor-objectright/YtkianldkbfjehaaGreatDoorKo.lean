/- Texts put together: Chk1, Chk2, Own9, Own9b. -/
import Derived.Test.YtkianldkbfjehaaGreatDoorKn

/- Lists of items in memory; source.takesMark. -/
namespace Go.Proofs.YtkianldkbfjehaaGreatDoor
open Go.RowKit

/-- whether two items are the same -/
def eqS (x y : Src) : Bool := decide (x.k = y.k) && decide (x.name = y.name) && decide (x.tg = y.tg) && decide (x.o = y.o) && decide (x.a = y.a) && decide (x.b = y.b) && decide (x.m = y.m) && decide (x.n = y.n) && decide (x.d = y.d)
theorem eqS_iff (x y : Src) : eqS x y = true ↔ x = y := by
  obtain ⟨k, name, tg, o, a, b, n4, n, d⟩ := x
  obtain ⟨k2, name2, tg2, o2, a2, b2, n42, n2, d2⟩ := y
  simp only [eqS, Bool.and_eq_true, decide_eq_true_eq, Src.mk.injEq, and_assoc]
def mayB (x : Src) : Bool := (lineL (lineT x)).2.1 && eqS (lineL (lineT x)).1 x
theorem mayB_iff (x : Src) : mayB x = true ↔ MayP x := by
  unfold mayB MayP; rw [Bool.and_eq_true, eqS_iff]

/-- an item lies at a place -/
def ItemIn (w : World) (b o : Nat) (x : Src) : Prop := ∃ q e, w.rangeAt b o (cellsOf x (.slice q x.d.length e)).toList ∧ Row w q x.d ∧ Fit x
theorem range_below {w w' : World} {b o : Nat} {cs : List Value} (h : w.rangeAt b o cs) (hb : Below w.heap.size w w') : w'.rangeAt b o cs := fun j v hv => (hb.cell (p := ⟨b, o + j, none⟩) (cell_lt (h j v hv))).trans (h j v hv)
theorem ItemIn.below {w w' : World} {b o : Nat} {x : Src} (h : ItemIn w b o x) (hb : Below w.heap.size w w') : ItemIn w' b o x := by
  obtain ⟨q, e, h1, h2, h3⟩ := h
  exact ⟨q, e, range_below h1 hb, h2.below hb, h3⟩
/-- a list of items, as a slice holds it -/
def Items (w : World) (p : Option Addr) (xs : List Src) : Prop := 0 < xs.length → ∃ b o, p = some ⟨b, o, none⟩ ∧ ∀ i (h : i < xs.length), ItemIn w b (o + i * 9) xs[i]
theorem Items.below {w w' : World} {p : Option Addr} {xs : List Src} (h : Items w p xs) (hb : Below w.heap.size w w') : Items w' p xs := fun h0 => by
  obtain ⟨b, o, hp, hc⟩ := h h0
  exact ⟨b, o, hp, fun i hi => (hc i hi).below hb⟩
theorem Items.fit {w : World} {p : Option Addr} {xs : List Src} (h : Items w p xs) : ∀ x ∈ xs, Fit x := fun x hx => by
  obtain ⟨i, hi, rfl⟩ := List.getElem_of_mem hx
  obtain ⟨b, o, _, hc⟩ := h (by omega)
  obtain ⟨q, e, _, _, h3⟩ := hc i hi
  exact h3
/-- an item in a list is read -/
theorem step_load_at {ops : Array Oper} {rest : List Oper} {o : Oper} {a : Act} {w : World} {Q : Exit → Act → World → Prop} {b off : Nat} {c' : Array Value} (hR : w.rangeAt b off c'.toList) (hg : o.guard = none) (t : TypeId) (p : Operand) (ho : o.op = .load t p)
    (hp : a.eval p = .pointer (some ⟨b, off, none⟩)) (d : TypeDesc) (hu : Tryz.prog.underlying t = some d) (hd : d.isRow = true) (hi : (Tryz.prog.info? t).map (·.size) = some c'.size)
    (h : wpList Tryz.prog ops Q rest (a.put o.dst (.agg c')) w) : wpList Tryz.prog ops Q (o :: rest) a w :=
  wpList_load_mid hg t p ho b off hp c'.toList d hR hu hd (by rw [hi, Array.length_toList]) (by simpa using h)
/-- whether a mark may stand ahead -/
def takesB : List Src → Bool
  | [] => false
  | x :: _ => decide (x.k = 3) || (decide (x.k = 2) && decide (x.o = 3))

set_option maxHeartbeats 400000 in
theorem takes_nil (p : Option Addr) (c : Nat) (w : World) :
    Calls Tryz.prog 61 #[.slice p 0 c] w fun E w' => E = .returned (.bool false) ∧ Below w.heap.size w w' := by
  go_enter Tryz.func61, Tryz.ntmps61
  go_wp2
  go_ret
  exact ⟨rfl, below_self _⟩

set_option maxRecDepth 20000 in
set_option maxHeartbeats 400000 in
theorem takes_cons (b o n c : Nat) (x : Src) (w : World) (hn : 0 < n) (hx : ItemIn w b o x) :
    Calls Tryz.prog 61 #[.slice (some ⟨b, o, none⟩) n c] w fun E w' => E = .returned (.bool (decide (x.k = 3) || (decide (x.k = 2) && decide (x.o = 3)))) ∧ Below w.heap.size w w' := by
  obtain ⟨q, e, hR, -, -⟩ := hx
  have HR := Hid.in hR
  clear hR
  have hB := Blk.new w 57 (cellsOf x (.slice q x.d.length e))
  have c0 : (w.alloc (.cells (cellsOf x (.slice q x.d.length e)) 57)).cell? ⟨w.heap.size, 0, none⟩ = some (.int .u8 x.k) := hB.cell 0
  have c3 : (w.alloc (.cells (cellsOf x (.slice q x.d.length e)) 57)).cell? ⟨w.heap.size, 3, none⟩ = some (.int .u8 x.o) := hB.cell 3
  have C0 := Hid.in c0
  have C3 := Hid.in c3
  have HN := Hid.in (new_alloc w (.cells (cellsOf x (.slice q x.d.length e)) 57))
  clear hB c0 c3
  by_cases h3 : x.k = 3
  · skip
    go_enter Tryz.func61, Tryz.ntmps61
    go_wp2_with (first
      | (refine step_load_at HR.out rfl 57 (.tmp 8) rfl rfl _ Tryz.underlying57 rfl Tryz.sz57 ?_)
      | (refine step_store_new rfl 57 (.tmp 3) (.tmp 9) rfl rfl rfl (cellsOf x (.slice q x.d.length e)) rfl Tryz.sz57 rfl (cells_one _ _ _ _) ?_; refine Hid.out ?_))
    refine Lib.hid ?_
    have c0 := C0.out
    have c3 := C3.out
    generalize w.alloc (.cells (cellsOf x (.slice q x.d.length e)) 57) = w2 at *
    go_wp2
    go_ret
    exact ⟨ret_bool (by simp [h3]), HN.out⟩
  by_cases h2 : x.k = 2
  · skip
    go_enter Tryz.func61, Tryz.ntmps61
    go_wp2_with (first
      | (refine step_load_at HR.out rfl 57 (.tmp 8) rfl rfl _ Tryz.underlying57 rfl Tryz.sz57 ?_)
      | (refine step_store_new rfl 57 (.tmp 3) (.tmp 9) rfl rfl rfl (cellsOf x (.slice q x.d.length e)) rfl Tryz.sz57 rfl (cells_one _ _ _ _) ?_; refine Hid.out ?_))
    refine Lib.hid ?_
    have c0 := C0.out
    have c3 := C3.out
    generalize w.alloc (.cells (cellsOf x (.slice q x.d.length e)) 57) = w2 at *
    go_wp2
    go_ret
    exact ⟨ret_bool (by simp [h2]; rfl), HN.out⟩
  · skip
    go_enter Tryz.func61, Tryz.ntmps61
    go_wp2_with (first
      | (refine step_load_at HR.out rfl 57 (.tmp 8) rfl rfl _ Tryz.underlying57 rfl Tryz.sz57 ?_)
      | (refine step_store_new rfl 57 (.tmp 3) (.tmp 9) rfl rfl rfl (cellsOf x (.slice q x.d.length e)) rfl Tryz.sz57 rfl (cells_one _ _ _ _) ?_; refine Hid.out ?_))
    refine Lib.hid ?_
    have c0 := C0.out
    have c3 := C3.out
    generalize w.alloc (.cells (cellsOf x (.slice q x.d.length e)) 57) = w2 at *
    go_wp2
    go_ret
    exact ⟨ret_bool (by simp [h2, h3]), HN.out⟩

theorem takes_any (p : Option Addr) (n c : Nat) (xs : List Src) (w : World) (hn : xs.length = n) (hx : Items w p xs) :
    Calls Tryz.prog 61 #[.slice p n c] w fun E w' => E = .returned (.bool (takesB xs)) ∧ Below w.heap.size w w' := by
  cases xs with
  | nil =>
    subst hn
    exact takes_nil p c w
  | cons x xs =>
    obtain ⟨b, o, rfl, hc⟩ := hx (by simp)
    have := hc 0 (by simp)
    simp only [Nat.zero_mul, Nat.add_zero, List.getElem_cons_zero] at this
    exact takes_cons b o n c x w (by rw [← hn]; simp) this

end Go.Proofs.YtkianldkbfjehaaGreatDoor

/- What source.Check answers, for every list of items. -/
namespace Go.Proofs.YtkianldkbfjehaaGreatDoor
open Go.RowKit

def chkAt (i : Nat) : List Src → Int × Nat
  | [] => (0, 0)
  | x :: xs => if mayB x = false then (2, i) else if x.k = 3 ∧ takesB xs = false then (182, i) else chkAt (i + 1) xs
def checkL (xs : List Src) : Int × Nat := if 4096 < xs.length then (3, 0) else chkAt 0 xs
theorem chk_step (xs : List Src) (k : Nat) (h : k < xs.length) : chkAt k (xs.drop k) = if mayB xs[k] = false then (2, k) else if xs[k].k = 3 ∧ takesB (xs.drop (k + 1)) = false then (182, k) else chkAt (k + 1) (xs.drop (k + 1)) := by
  rw [List.drop_eq_getElem_cons h]; rfl
theorem items_drop {w : World} {b o : Nat} {xs : List Src} (h : ∀ i (h : i < xs.length), ItemIn w b (o + i * 9) xs[i]) (j : Nat) : Items w (some ⟨b, o + j * 9, none⟩) (xs.drop j) := fun h0 => by
  refine ⟨b, o + j * 9, rfl, fun i hi => ?_⟩
  rw [List.length_drop] at hi
  have := h (j + i) (by omega)
  rw [List.getElem_drop]
  rw [show o + (j + i) * 9 = o + j * 9 + i * 9 by omega] at this
  exact this

set_option maxRecDepth 20000 in
set_option maxHeartbeats 1000000 in
theorem check_any (p : Option Addr) (n c : Nat) (xs : List Src) (w : World) (he : Env w) (hn : xs.length = n) (hnc : n ≤ c) (hc63 : c ≤ 9223372036854775807) (hx : Items w p xs) :
    Calls Tryz.prog 23 #[.slice p n c] w fun E w' => E = .returned (.tuple #[.int .i64 (checkL xs).1, .int .i64 (checkL xs).2]) ∧ Below w.heap.size w w' := by
  by_cases hbig : 4096 < n
  · have HC : Hid (checkL xs = (3, 0)) := by
      have : checkL xs = (3, 0) := by unfold checkL; rw [if_pos (by omega)]
      exact this
    generalize checkL xs = r at *
    obtain rfl := HC.out
    go_enter Tryz.func23, Tryz.ntmps23
    go_wp2
    go_ret2
    exact ⟨rfl, below_self _⟩
  · obtain ⟨r, hr⟩ : ∃ r, r = checkL xs := ⟨_, rfl⟩
    have HC : Hid (r = chkAt 0 xs) := by
      have : r = chkAt 0 xs := by rw [hr]; unfold checkL; rw [if_neg (by omega)]
      exact this
    rw [← hr]
    clear hr
    have HX := Hid.in hx
    have HE := Hid.in he
    have HN := Hid.in hn
    clear hx he hn
    go_enter Tryz.func23, Tryz.ntmps23
    go_wp2
    go_loopw [10] (fun i wr => ∃ k : Nat, k ≤ n ∧ i = .int .i64 k ∧ chkAt 0 xs = chkAt k (xs.drop k) ∧ Below w.heap.size w wr) (fun i _ => n - (intOf i).toNat)
    case atStart => exact ⟨0, Nat.zero_le _, rfl, rfl, below_self _⟩
    case round =>
      obtain ⟨k, hk, rfl, hch, hb⟩ := hrel
      have HCH := Hid.in hch
      have HB := Hid.in hb
      clear hch hb
      by_cases hlt : k < n
      · have hlt' : k < xs.length := by rw [HN.out]; exact hlt
        obtain ⟨b, o, hp, hc⟩ := HX.out.below HB.out (by omega)
        subst hp
        obtain ⟨q, e, hR, hrow, hfit⟩ := hc k hlt'
        have HST := Hid.in (chk_step xs k hlt')
        have hM := fun (mb : Bool) (hmb : mb = true ↔ MayP (xs[k]'hlt')) => mayBe_any (xs[k]'hlt') hfit q (xs[k]'hlt').d.length e wr (HE.out.below HB.out) rfl hrow mb hmb
        have HIT := Hid.in hc
        have HR := Hid.in hR
        clear hc hR hrow hfit
        generalize xs[k] = x at *
        cases hmb : mayB x with
        | false =>
          have hM1 := hM false (by rw [← hmb]; exact mayB_iff x)
          have HRR : Hid (r = (2, k)) := by
            have : r = _ := HC.out
            rw [this, HCH.out, HST.out, if_pos hmb]; exact rfl
          clear hM hmb
          go_wp2_with (first
            | (refine step_load_at HR.out rfl 57 (.tmp 15) rfl rfl _ Tryz.underlying57 rfl Tryz.sz57 ?_)
            | (go_at_call 60; refine hM1.mono ?_; rintro E w5 ⟨rfl, hb5⟩))
          obtain rfl := HRR.out
          go_ret2
          exact ⟨rfl, below_step HB.out hb5⟩
        | true =>
          have hM1 := hM true ⟨fun _ => (mayB_iff x).1 hmb, fun _ => rfl⟩
          have HCK : Hid (wr.cell? ⟨b, o + k * 9, none⟩ = some (.int .u8 x.k)) := HR.out 0 _ rfl
          clear hM
          have hmb' : ¬ mayB x = false := by rw [hmb]; simp
          by_cases hk3 : x.k = 3
          · have hwr := wrapK k (by omega)
            by_cases hcc : c = k + 1
            · have hnk : n = k + 1 := by omega
              have htb : takesB (xs.drop (k + 1)) = false := by
                rw [List.drop_eq_nil_of_le (by rw [HN.out]; omega)]; rfl
              have HRR : Hid (r = (182, k)) := by
                have : r = _ := HC.out
                rw [this, HCH.out, HST.out, if_neg hmb', if_pos ⟨hk3, htb⟩]; exact rfl
              have hT := fun W => takes_nil (some ⟨b, o, none⟩) 0 W
              subst hcc
              subst hnk
              clear hmb htb hmb'
              go_wp2_with (first
                | (refine step_load_at HR.out rfl 57 (.tmp 15) rfl rfl _ Tryz.underlying57 rfl Tryz.sz57 ?_)
                | (go_at_call 60; refine hM1.mono ?_; rintro E w5 ⟨rfl, hb5⟩; have hck := (hb5.cell (p := ⟨b, o + k * 9, none⟩) (cell_lt HCK.out)).trans HCK.out; have HB5 := Hid.in hb5; clear hb5)
                | (go_at_call 61; refine (hT _).mono ?_; rintro E w6 ⟨rfl, hb6⟩; have HB6 := Hid.in hb6; clear hb6))
              obtain rfl := HRR.out
              go_ret2
              exact ⟨rfl, below_step (below_step HB.out HB5.out) HB6.out⟩
            · have hT := fun W hb => takes_any (some ⟨b, o + (k + 1) * 9, none⟩) (n - (k + 1)) (c - (k + 1)) (xs.drop (k + 1)) W (by rw [List.length_drop, HN.out]) (items_drop (fun i hi => (HIT.out i hi).below (w' := W) hb) (k + 1))
              cases htb : takesB (xs.drop (k + 1)) with
              | false =>
                rw [htb] at hT
                have HRR : Hid (r = (182, k)) := by
                  have : r = _ := HC.out
                  rw [this, HCH.out, HST.out, if_neg hmb', if_pos ⟨hk3, htb⟩]; exact rfl
                clear hmb htb hmb'
                go_wp2_with (first
                  | (refine step_load_at HR.out rfl 57 (.tmp 15) rfl rfl _ Tryz.underlying57 rfl Tryz.sz57 ?_)
                  | (go_at_call 60; refine hM1.mono ?_; rintro E w5 ⟨rfl, hb5⟩; have hck := (hb5.cell (p := ⟨b, o + k * 9, none⟩) (cell_lt HCK.out)).trans HCK.out; have HB5 := Hid.in hb5; clear hb5)
                  | (go_at_call 61; refine (hT _ HB5.out).mono ?_; rintro E w6 ⟨rfl, hb6⟩; have HB6 := Hid.in hb6; clear hb6))
                obtain rfl := HRR.out
                go_ret2
                exact ⟨rfl, below_step (below_step HB.out HB5.out) HB6.out⟩
              | true =>
                rw [htb] at hT
                have HNX : Hid (chkAt 0 xs = chkAt (k + 1) (xs.drop (k + 1))) := by
                  have : chkAt 0 xs = _ := HCH.out
                  rw [this, HST.out, if_neg hmb', if_neg (by rw [htb]; simp)]; exact rfl
                clear hmb htb hmb'
                go_wp2_with (first
                  | (refine step_load_at HR.out rfl 57 (.tmp 15) rfl rfl _ Tryz.underlying57 rfl Tryz.sz57 ?_)
                  | (go_at_call 60; refine hM1.mono ?_; rintro E w5 ⟨rfl, hb5⟩; have hck := (hb5.cell (p := ⟨b, o + k * 9, none⟩) (cell_lt HCK.out)).trans HCK.out; have HB5 := Hid.in hb5; clear hb5)
                  | (go_at_call 61; refine (hT _ HB5.out).mono ?_; rintro E w6 ⟨rfl, hb6⟩; have HB6 := Hid.in hb6; clear hb6))
                go_roundw
                case rel => exact ⟨k + 1, by omega, by go_num, HNX.out, below_step (below_step HB.out HB5.out) HB6.out⟩
                case measure => simp [intOf]; omega
          · have HNX : Hid (chkAt 0 xs = chkAt (k + 1) (xs.drop (k + 1))) := by
              have : chkAt 0 xs = _ := HCH.out
              rw [this, HST.out, if_neg hmb', if_neg (fun h => hk3 h.1)]; exact rfl
            clear hmb hmb'
            go_wp2_with (first
              | (refine step_load_at HR.out rfl 57 (.tmp 15) rfl rfl _ Tryz.underlying57 rfl Tryz.sz57 ?_)
              | (go_at_call 60; refine hM1.mono ?_; rintro E w5 ⟨rfl, hb5⟩; have hck := (hb5.cell (p := ⟨b, o + k * 9, none⟩) (cell_lt HCK.out)).trans HCK.out; have HB5 := Hid.in hb5; clear hb5))
            go_roundw
            case rel => exact ⟨k + 1, by omega, by go_num, HNX.out, below_step HB.out HB5.out⟩
            case measure => simp [intOf]; omega
      · have HRR : Hid (r = (0, 0)) := by
          have : r = _ := HC.out
          rw [this, HCH.out, show xs.drop k = [] from List.drop_eq_nil_of_le (by rw [HN.out]; omega)]; exact rfl
        go_wp2
        obtain rfl := HRR.out
        go_ret2
        exact ⟨rfl, HB.out⟩

end Go.Proofs.YtkianldkbfjehaaGreatDoor

/- Lists of items that a call has made. -/
namespace Go.Proofs.YtkianldkbfjehaaGreatDoor
open Go.RowKit

/-- the cells of a list of items, each with its data's slice -/
def cells9 (L : List (Src × Value)) : List Value := L.flatMap fun q => (cellsOf q.1 q.2).toList
theorem cells9_len (L : List (Src × Value)) : (cells9 L).length = L.length * 9 := by
  induction L with
  | nil => rfl
  | cons q L ih =>
    unfold cells9 at *
    rw [List.flatMap_cons, List.length_append, ih, List.length_cons]
    have : (cellsOf q.1 q.2).toList.length = 9 := rfl
    omega
theorem cells9_snoc (L : List (Src × Value)) (x : Src) (d : Value) : cells9 (L ++ [(x, d)]) = cells9 L ++ (cellsOf x d).toList := by simp [cells9]
theorem cells9_at : ∀ (L : List (Src × Value)) (i : Nat) (h : i < L.length) (j : Nat), j < 9 → (cells9 L)[i * 9 + j]? = (cellsOf L[i].1 L[i].2).toList[j]?
  | [], i, h, _, _ => absurd h (by simp)
  | q :: L, 0, _, j, hj => by
    unfold cells9
    rw [List.flatMap_cons, Nat.zero_mul, Nat.zero_add, List.getElem?_append_left (by show j < 9; exact hj)]
    rfl
  | q :: L, i + 1, h, j, hj => by
    have h' : i < L.length := by simpa using h
    have ih := cells9_at L i h' j hj
    unfold cells9 at *
    have h9 : (cellsOf q.1 q.2).toList.length = 9 := rfl
    rw [List.flatMap_cons, List.getElem?_append_right (by rw [h9]; omega), h9, show (i + 1) * 9 + j - 9 = i * 9 + j by omega, ih]
    rfl
/-- a list of items that the call has made, its data too -/
structure IOwn (w : World) (B : Nat) (v : Value) (L : List (Src × Value)) : Prop where
  row : w.ownsRow B 57 9 v L.length (cells9 L)
  dat : ∀ q ∈ L, GOwnV 5 w B q.2 (byts q.1.d)
theorem IOwn.nil (w : World) (B : Nat) : IOwn w B (.slice none 0 0) [] := ⟨World.ownsRow_nil _ _ _ _, fun q hq => by simp at hq⟩
theorem row_below {w w' : World} {B : Nat} {T : TypeId} {z : Nat} {v : Value} {n : Nat} {xs : List Value} (h : w.ownsRow B T z v n xs) (hb : Below w.heap.size w w') : w'.ownsRow B T z v n xs := by
  obtain ⟨h0, h1⟩ := h
  refine ⟨h0, h1.imp id ?_⟩
  rintro ⟨g, cap, cur, e1, e2, e3, e4⟩
  exact ⟨g, cap, cur, e1, e2, (hb.block g (Array.getElem?_eq_some_iff.1 e3).1).trans e3, e4⟩
theorem IOwn.below {w w' : World} {B : Nat} {v : Value} {L : List (Src × Value)} (h : IOwn w B v L) (hb : Below w.heap.size w w') : IOwn w' B v L := ⟨row_below h.row hb, fun q hq => (h.dat q hq).below hb⟩
theorem IOwn.shape {w : World} {B : Nat} {v : Value} {L : List (Src × Value)} (h : IOwn w B v L) : ∃ p cap, v = .slice p L.length cap ∧ L.length ≤ cap ∧ cap ≤ maxLen ∧ (0 < L.length → ∃ g, p = some ⟨g, 0, none⟩ ∧ B ≤ g ∧ g < w.heap.size) := by
  rcases h.row.2 with ⟨e1, e2⟩ | ⟨g, cap, cur, e1, e2, e3, e4, e5, _⟩
  · exact ⟨none, 0, by rw [e1, e2], by omega, Nat.zero_le _, fun h0 => by omega⟩
  · exact ⟨_, cap, e1, e4, e5, fun _ => ⟨g, rfl, e2, (Array.getElem?_eq_some_iff.1 e3).1⟩⟩
theorem GOwnV.rowC {w : World} {B : Nat} {d : Value} {xs : List Int} (h : GOwnV 5 w B d (byts xs)) : ∃ q cap, d = .slice q xs.length cap ∧ Row w q xs := h.rowB
theorem IOwn.items {w : World} {B : Nat} {v : Value} {L : List (Src × Value)} (h : IOwn w B v L) (hf : ∀ q ∈ L, Fit q.1) {p : Option Addr} {n cap : Nat} (hv : v = .slice p n cap) : Items w p (L.map Prod.fst) := fun h0 => by
  rw [List.length_map] at h0
  rcases h.row.2 with ⟨_, e2⟩ | ⟨g, cap', cur, e1, _, _, _, _, _⟩
  · omega
  · have hr := h.row
    rw [e1] at hr hv
    injection hv with hp
    refine ⟨g, 0, hp.symm, fun i hi => ?_⟩
    rw [List.length_map] at hi
    have hm : L[i] ∈ L := List.getElem_mem hi
    obtain ⟨q, c, hd, hrow⟩ := (h.dat _ hm).rowC
    rw [List.getElem_map]
    refine ⟨q, c, fun j u hu => ?_, hrow, hf _ hm⟩
    have hj : j < 9 := (List.getElem?_eq_some_iff.1 hu).1
    rw [Nat.zero_add, hr.cellAt (i * 9 + j) (by omega), cells9_at L i hi j hj, hd]
    exact hu
theorem Tryz.info57 : (Tryz.prog.info? 57).map (fun i => (i.zero, i.size, i.bytes)) = some (some (.agg item0), 9, 80) := by kernel_rfl
theorem Tryz.und22 : Tryz.prog.underlying 22 = some (.slice 57) := Tryz.underlying22
theorem cells_mem_one (x : Src) (q : Option Addr) (m e : Nat) : ∀ u ∈ (cellsOf x (.slice q m e)).toList, u.oneCell' = true := by
  intro u hu
  have := cells_one x q m e
  rw [Array.all_eq_true_iff_forall_mem] at this
  exact this u (by simpa using hu)

/-- 'append(items, x)': x's cells stand in a block of their own -/
theorem gpush9 {ops : Array Oper} {rest : List Oper} {o : Oper} {a : Act} {Q : Exit → Act → World → Prop} (w : World) (hgd : o.guard = none) (s x : Operand)
    (ho : o.op = .call { callee := .builtin .append, args := #[s, x], argTypes := #[22, 22] }) (B : Nat) (v : Value) (L : List (Src × Value)) (hs : a.eval s = v) (hown : IOwn w B v L)
    (g : Nat) (y : Src) (q : Option Addr) (m e : Nat) (hx : a.eval x = .slice (some ⟨g, 0, none⟩) 1 1) (hB : Blk w g 57 (cellsOf y (.slice q m e))) (hd : GOwnV 5 w B (.slice q m e) (byts y.d))
    (hlen : L.length ≤ 1073741824) (hBw : B ≤ w.heap.size)
    (h : ∀ v' w', IOwn w' B v' (L ++ [(y, .slice q m e)]) → w.grownBy w' v.ownBlock → (∀ w0, Below B w0 w → Below B w0 w') → wpList Tryz.prog ops Q rest (a.put o.dst v') w') :
    wpList Tryz.prog ops Q (o :: rest) a w := by
  obtain ⟨i0, hi, hz0, hz1, hz2⟩ := info_parts Tryz.info57
  refine wpList_append_own w hgd s x 22 ho B 57 i0 (.agg item0) 9 80 Tryz.und22 hi hz0 hz1 hz2 rfl (by decide) v L.length (cells9 L) hs hown.row ⟨g, 0, none⟩ 1 1 (cellsOf y (.slice q m e)).toList hx rfl ?_ (cells_mem_one _ _ _ _) (by unfold maxLen; omega) (by omega) hBw ?_
  · intro j u hu
    rw [Addr.add_mid, Nat.zero_add, hB.cell]
    rw [Array.getElem?_toList] at hu
    exact hu
  · intro v' w' h2 h3 _
    have hne : ∀ d xs, GOwnV 5 w B d (byts xs) → GOwnV 5 w' B d (byts xs) := fun d xs hd => by
      refine hd.grownOther h3 ?_
      rcases hd.block with e | ⟨g', cur', e1, _, e3⟩
      · exact .inl e
      · refine .inr ?_
        rcases hown.row.2 with ⟨e, _⟩ | ⟨g2, cap2, cur2, e, _, e5, _⟩
        · rw [e1, e]; simp [Value.ownBlock]
        · rw [e1, e]
          simp only [Value.ownBlock]
          intro ee; injection ee with ee; subst ee
          rw [e3] at e5
          simp at e5
    refine h v' w' ⟨?_, fun q' hq => ?_⟩ h3 (fun w0 hb => hb.grown h3 hBw fun k hk => (hown.row.lt k hk).1)
    · rw [List.length_append, cells9_snoc]; exact h2
    · rcases List.mem_append.1 hq with hq | hq
      · exact hne _ _ (hown.dat q' hq)
      · rw [List.mem_singleton] at hq; subst hq; exact hne _ _ hd

end Go.Proofs.YtkianldkbfjehaaGreatDoor

/- Rows of unlike elements; an item that is built. -/
namespace Go.Proofs.YtkianldkbfjehaaGreatDoor
open Go.RowKit

/-- rows of unlike elements lie apart -/
theorem row_apart {w : World} {T T' : TypeId} {B B' : Nat} {d v : Value} {vs : List Value} {z n : Nat} {xs : List Value} (h : GOwnV T w B d vs) (h' : w.ownsRow B' T' z v n xs) (hne : T ≠ T') : d = .slice none 0 0 ∨ d.ownBlock ≠ v.ownBlock := by
  rcases h.block with e | ⟨g', cur', e1, _, e3⟩
  · exact .inl e
  · refine .inr ?_
    rcases h'.2 with ⟨e, _⟩ | ⟨g2, cap2, cur2, e, _, e5, _⟩
    · rw [e1, e]; simp [Value.ownBlock]
    · rw [e1, e]
      simp only [Value.ownBlock]
      intro ee; injection ee with ee; subst ee
      rw [e3] at e5
      simp at e5
      exact hne e5.2
theorem build9 (x : Src) (d : Value) : Array.foldl (fun cs x => cs.setIfInBounds x.snd x.fst) #[Value.int IntKind.u8 0, Value.string { data := #[] }, Value.string { data := #[] }, Value.int IntKind.u8 0, Value.int IntKind.u8 0, Value.int IntKind.u8 0, Value.int IntKind.i32 0, Value.int IntKind.i64 0, Value.slice none 0 0] (cellsOf x d).zipIdx 0 (cellsOf x d).size = cellsOf x d := by
  simp [cellsOf]
theorem build9b (x : Src) (d : Value) : Array.foldl (fun cs x => cs.setIfInBounds x.snd x.fst) #[Value.int IntKind.u8 0, Value.string { data := #[] }, Value.string { data := #[] }, Value.int IntKind.u8 0, Value.int IntKind.u8 0, Value.int IntKind.u8 0, Value.int IntKind.i32 0, Value.int IntKind.i64 0, Value.slice none 0 0] (cellsOf x d).zipIdx 0 9 = cellsOf x d := by
  simp [cellsOf]

end Go.Proofs.YtkianldkbfjehaaGreatDoor
