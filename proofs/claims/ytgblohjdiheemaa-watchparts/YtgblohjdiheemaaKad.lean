/- Texts put together: TabL, Shar, KeyL, AddG, RowsA, Cln, AppM, WName, RSym. -/
import Derived.Test.YtgblohjdiheemaaKac
import Derived.Test.YtgblohjdiheemaaKab
import Derived.Test.YtgblohjdiheemaaKaa
import Derived.Deep.RegionHeld3
import Derived.Laws.RangeString
import Derived.Laws.RangeAny
import Derived.Deep.RegionLaw

/- Where units begin, and their labels, as lists: P7.1 to P7.3. -/
namespace Go.Proofs.Ytgblohjdiheemaa
open Go.RowKit

def nextS (e : Nat) : Nat := (e + 3) / 4 * 4
theorem nextS_le (e : Nat) : e ≤ nextS e ∧ nextS e ≤ e + 3 ∧ nextS e % 4 = 0 := by unfold nextS; omega
structure Tab where
  ss : List Nat
  ts : List Sy
  e : Int
  u : Nat
def noTab (e : Int) (u : Nat) : Tab := ⟨[], [], e, u⟩
/-- a label, its unit begun at s -/
def movS (s : Nat) (x : Sy) : Sy := ⟨x.name, (s : Int) + x.at_, x.g⟩
/-- the names of global labels -/
def gloS (L : List Sy) : List ByteArray := (L.filter fun x => x.g).map Sy.name
def dupS (gs : List ByteArray) (L : List Sy) : Bool := L.any fun x => x.g && inB x.name gs
def tabGo (i e : Nat) (ss : List Nat) (ts : List Sy) : List Ob → Tab
  | [] => ⟨ss, ts, 0, 0⟩
  | o :: os =>
    if okO o = false then noTab 2 i
    else if nextS e + o.bs.length > 65536 then noTab 3 i
    else if dupS (gloS ts) o.sy = true then noTab 170 i
    else tabGo (i + 1) (nextS e + o.bs.length) (ss ++ [nextS e]) (ts ++ o.sy.map (movS (nextS e))) os
def tabL (xs : List Ob) : Tab := if xs.length > 16 then noTab 3 0 else tabGo 0 0 [] [] xs
/-- P7.2 -/
def findG (t : List Sy) (s : ByteArray) : Option Int := (t.find? fun x => x.g && decide (x.name = s)).map Sy.at_
def findN (t : List Sy) (s : ByteArray) : Option Int := (t.find? fun x => decide (x.name = s)).map Sy.at_
/-- P7.3 -/
def resL (xs : List Ob) (u : Int) (s : ByteArray) : Int × Int :=
  if (tabL xs).e ≠ 0 then (0, (tabL xs).e) else if h : 0 ≤ u ∧ u < xs.length then
    match findN (xs[u.toNat]'(by omega)).sy s with
    | some a => (((tabL xs).ss.getD u.toNat 0 : Nat) + a, 0)
    | none => match findG (tabL xs).ts s with
      | some a => (a, 0)
      | none => (0, 171)
  else (0, 2)

theorem tab_step (i e : Nat) (ss : List Nat) (ts : List Sy) (xs : List Ob) (k : Nat) (h : k < xs.length) : tabGo i e ss ts (xs.drop k) =
    if okO xs[k] = false then noTab 2 i else if nextS e + xs[k].bs.length > 65536 then noTab 3 i else if dupS (gloS ts) xs[k].sy = true then noTab 170 i
    else tabGo (i + 1) (nextS e + xs[k].bs.length) (ss ++ [nextS e]) (ts ++ xs[k].sy.map (movS (nextS e))) (xs.drop (k + 1)) := by
  rw [List.drop_eq_getElem_cons h]; rfl
theorem gloS_app (A B : List Sy) : gloS (A ++ B) = gloS A ++ gloS B := by simp [gloS]
theorem gloS_mov (s : Nat) (L : List Sy) : gloS (L.map (movS s)) = gloS L := by
  unfold gloS
  induction L with
  | nil => rfl
  | cons x L ih =>
    rw [List.map_cons, List.filter_cons, List.filter_cons]
    show List.map Sy.name (if x.g = true then _ else _) = _
    by_cases hg : x.g = true
    · rw [if_pos hg, if_pos hg, List.map_cons, List.map_cons, ih]; rfl
    · rw [if_neg hg, if_neg hg, ih]
theorem gloS_take (L : List Sy) (k : Nat) (h : k < L.length) : gloS (L.take (k + 1)) = gloS (L.take k) ++ if L[k].g = true then [L[k].name] else [] := by
  rw [List.take_succ_eq_append_getElem h, gloS_app]
  congr 1
  unfold gloS
  rw [List.filter_cons]
  by_cases hg : L[k].g = true
  · rw [if_pos hg, if_pos hg]; rfl
  · rw [if_neg hg, if_neg hg]; rfl
theorem gloS_sub {L : List Sy} {s : ByteArray} (h : s ∈ gloS L) : s ∈ names L := by
  unfold gloS at h
  rw [List.mem_map] at h
  obtain ⟨x, hx, rfl⟩ := h
  exact List.mem_map.2 ⟨x, (List.mem_filter.1 hx).1, rfl⟩
/-- of a right unit no name stands twice -/
theorem rs_nodup (n : Nat) : ∀ (L : List Sy) (least : Int) (seen : List ByteArray), rsL n least seen L = true → (∀ s ∈ names L, s ∉ seen) ∧ (names L).Nodup
  | [], _, _, _ => ⟨fun s h => by simp [names] at h, List.nodup_nil⟩
  | x :: L, least, seen, h => by
    unfold rsL at h
    rw [Bool.and_eq_true] at h
    obtain ⟨h1, h2⟩ := h
    obtain ⟨i1, i2⟩ := rs_nodup n L _ _ h2
    have hx : x.name ∉ seen := by
      intro hm
      unfold symB at h1
      simp only [Bool.and_eq_true] at h1
      have h3 : (!inB x.name seen) = true := by
        revert h1
        simp
        intro h _ _ _
        exact h
      rw [(inB_iff _ _).2 hm] at h3
      cases h3
    refine ⟨fun s hs => ?_, ?_⟩
    · have hs' : s = x.name ∨ s ∈ names L := by simpa [names] using hs
      rcases hs' with rfl | hs'
      · exact hx
      · exact fun hm => i1 s hs' (List.mem_append_left _ hm)
    · show (x.name :: names L).Nodup
      refine List.nodup_cons.2 ⟨fun hm => i1 x.name hm (List.mem_append_right _ (List.mem_singleton.2 rfl)), i2⟩
/-- the labels ahead of one in a right unit do not bear its name -/
theorem glo_own {L : List Sy} (hn : (names L).Nodup) (k : Nat) (h : k < L.length) : inB L[k].name (gloS (L.take k)) = false := by
  cases hb : inB L[k].name (gloS (L.take k)) with
  | false => rfl
  | true =>
    exfalso
    have h1 := gloS_sub ((inB_iff _ _).1 hb)
    have h2 : names L = names (L.take k) ++ L[k].name :: names (L.drop (k + 1)) := by
      unfold names
      conv => lhs; rw [← List.take_append_drop k L, List.drop_eq_getElem_cons h]
      rw [List.map_append, List.map_cons]
    rw [h2, List.nodup_append] at hn
    exact hn.2.2 _ h1 _ (List.mem_cons_self) rfl
theorem inB_app (s : ByteArray) (A B : List ByteArray) : inB s (A ++ B) = (inB s A || inB s B) := by
  rw [Bool.eq_iff_iff, inB_iff, Bool.or_eq_true, inB_iff, inB_iff, List.mem_append]
theorem dup_take (gs : List ByteArray) (L : List Sy) (k : Nat) (h : k < L.length) : dupS gs (L.take (k + 1)) = (dupS gs (L.take k) || (L[k].g && inB L[k].name gs)) := by
  unfold dupS
  rw [List.take_succ_eq_append_getElem h, List.any_append]
  simp
theorem dup_part (gs : List ByteArray) (L : List Sy) (k : Nat) (h : dupS gs (L.take k) = true) : dupS gs L = true := by
  unfold dupS at h ⊢
  rw [List.any_eq_true] at h ⊢
  obtain ⟨x, hx, h2⟩ := h
  exact ⟨x, List.mem_of_mem_take hx, h2⟩

end Go.Proofs.Ytgblohjdiheemaa

/- slices.BinarySearchFunc over fixes; object.sharesByte. -/
namespace Go.Proofs.Ytgblohjdiheemaa
open Go.RowKit

def cmpI (a b : Int) : Int := if a < b then -1 else if b < a then 1 else 0
theorem isNaN_any (a : Int) (w : World) : Calls Try.prog 45 #[.int .i64 a] w fun E w' => E = .returned (.bool false) ∧ w' = w := by
  go_enter Try.func45, Try.ntmps45
  go_wp2
  go_ret
  exact ⟨rfl, rfl⟩
theorem compare_any (a b : Int) (w : World) : Calls Try.prog 34 #[.int .i64 a, .int .i64 b] w fun E w' => E = .returned (.int .i64 (cmpI a b)) ∧ w' = w := by
  have hN := isNaN_any
  by_cases h1 : a < b
  · have HC : Hid (cmpI a b = -1) := if_pos h1
    rw [HC.out]
    go_enter Try.func34, Try.ntmps34
    go_wp2_with (go_at_call 45; refine (hN _ _).mono ?_; rintro E w1 ⟨rfl, rfl⟩)
    go_ret
    exact ⟨rfl, rfl⟩
  · by_cases h2 : b < a
    · have HC : Hid (cmpI a b = 1) := by
        have : cmpI a b = 1 := by unfold cmpI; rw [if_neg h1, if_pos h2]
        exact this
      rw [HC.out]
      go_enter Try.func34, Try.ntmps34
      go_wp2_with (go_at_call 45; refine (hN _ _).mono ?_; rintro E w1 ⟨rfl, rfl⟩)
      go_ret
      exact ⟨rfl, rfl⟩
    · have HC : Hid (cmpI a b = 0) := by
        have : cmpI a b = 0 := by unfold cmpI; rw [if_neg h1, if_neg h2]
        exact this
      rw [HC.out]
      go_enter Try.func34, Try.ntmps34
      go_wp2_with (go_at_call 45; refine (hN _ _).mono ?_; rintro E w1 ⟨rfl, rfl⟩)
      go_ret
      exact ⟨rfl, rfl⟩
theorem clos_any (k a e : Int) (s : ByteArray) (w : World) : Calls Try.prog 86 #[.agg #[.int .u8 k, .int .i64 a, .string s], .int .i64 e] w fun E w' => E = .returned (.int .i64 (cmpI a e)) ∧ Below w.heap.size w w' := by
  have hC := compare_any a e
  generalize cmpI a e = r at *
  go_enter Try.func86, Try.ntmps86
  go_wp2_with (go_at_call 34; refine (hC _).mono ?_; rintro E w1 ⟨rfl, rfl⟩)
  go_ret
  exact ⟨rfl, new_alloc _ _⟩

/-- fixes in order -/
def SortF (fs : List Fx) : Prop := ∀ i j (_ : i < j) (h' : j < fs.length), (fs[i]'(by omega)).at_ ≤ fs[j].at_
theorem cmp_neg {a b : Int} : cmpI a b < 0 ↔ a < b := by
  unfold cmpI
  split
  · simp_all
  · split <;> simp_all
theorem cells3 {w : World} {b o : Nat} {L : List V3} (h : ∀ i (hi : i < L.length) j, j < 3 → w.cell? ⟨b, o + i * 3 + j, none⟩ = (l3 L[i])[j]?) (i : Nat) (hi : i < L.length) :
    w.cell? ⟨b, o + i * 3, none⟩ = some L[i].1 ∧ w.cell? ⟨b, o + i * 3 + 1, none⟩ = some L[i].2.1 ∧ w.cell? ⟨b, o + i * 3 + 2, none⟩ = some L[i].2.2 :=
  ⟨h i hi 0 (by decide), h i hi 1 (by decide), h i hi 2 (by decide)⟩

set_option maxRecDepth 20000 in
set_option maxHeartbeats 1000000 in
theorem search_any (p : Option Addr) (n c : Nat) (t : Int) (fs : List Fx) (w : World) (hn : fs.length = n) (hn4 : n ≤ 1048576) (hx : Row3 w p (fs.map fxV)) (hs : SortF fs) :
    Calls Try.prog 85 #[.slice p n c, .int .i64 t, .func (Fn.func 86) #[] #[]] w fun E w' => (∃ (k : Nat) (b : Bool), E = .returned (.tuple #[.int .i64 k, .bool b]) ∧ k ≤ n ∧ (∀ i (h : i < fs.length), i < k → fs[i].at_ < t) ∧ (∀ i (h : i < fs.length), k ≤ i → t ≤ fs[i].at_)) ∧ Below w.heap.size w w' := by
  have hC := clos_any
  have HX := Hid.in hx
  have HS := Hid.in hs
  have HN := Hid.in hn
  clear hx hs hn
  go_enter Try.func85, Try.ntmps85
  go_wp2_with fail
  go_loopw [9, 10] (fun vi vj wr => ∃ i j : Nat, vi = .int .i64 i ∧ vj = .int .i64 j ∧ i ≤ j ∧ j ≤ n ∧ (∀ x (h : x < fs.length), x < i → fs[x].at_ < t) ∧ (∀ x (h : x < fs.length), j ≤ x → t ≤ fs[x].at_) ∧ Below w.heap.size w wr) (fun vi vj _ => (intOf vj).toNat - (intOf vi).toNat)
  case atStart => exact ⟨0, n, rfl, rfl, Nat.zero_le _, Nat.le_refl _, fun x h h0 => by omega, fun x h h0 => by have := HN.out; omega, below_self w⟩
  case round =>
    obtain ⟨i, j, rfl, rfl, hij, hjn, hlo, hhi, hb⟩ := hrel
    have HLO := Hid.in hlo
    have HHI := Hid.in hhi
    have HB := Hid.in hb
    clear hlo hhi hb
    by_cases hlt : i < j
    · have hh : (i + j) / 2 < fs.length := by have := HN.out; omega
      obtain ⟨b, o, rfl, hc⟩ := (HX.out.below HB.out) (by rw [List.length_map]; omega)
      obtain ⟨c0, c1, c2⟩ := cells3 hc ((i + j) / 2) (by rw [List.length_map]; exact hh)
      simp only [List.getElem_map, fxV] at c0 c1 c2
      clear hc
      by_cases hat : fs[(i + j) / 2].at_ < t
      · have HLO2 : Hid (∀ x (h : x < fs.length), x < (i + j) / 2 + 1 → fs[x].at_ < t) := fun x h hx => by
          by_cases e : x = (i + j) / 2
          · subst e; exact hat
          · have := HS.out x ((i + j) / 2) (by omega) hh
            omega
        have HCM : Hid (cmpI fs[(i + j) / 2].at_ t = -1) := if_pos hat
        generalize fs[(i + j) / 2] = f at *
        go_wp2_with (go_at_call 86; refine (hC _ _ _ _ _).mono ?_; rintro E w1 ⟨rfl, hb1⟩; rw [HCM.out]; have HB1 := Hid.in (below_step HB.out hb1); clear hb1)
        go_roundw
        case rel => exact ⟨(i + j) / 2 + 1, j, by go_num, rfl, by omega, hjn, HLO2.out, HHI.out, HB1.out⟩
        case measure => simp [intOf]; omega
      · have HHI2 : Hid (∀ x (h : x < fs.length), (i + j) / 2 ≤ x → t ≤ fs[x].at_) := fun x h hx => by
          by_cases e : x = (i + j) / 2
          · subst e; omega
          · have := HS.out ((i + j) / 2) x (by omega) h
            omega
        have hge : ¬ cmpI fs[(i + j) / 2].at_ t < 0 := fun e => hat (cmp_neg.1 e)
        generalize fs[(i + j) / 2] = f at *
        generalize hr : cmpI f.at_ t = r at *
        have HR := Hid.in hr
        clear hr
        go_wp2_with (go_at_call 86; refine (hC _ _ _ _ _).mono ?_; rintro E w1 ⟨rfl, hb1⟩; rw [HR.out]; have HB1 := Hid.in (below_step HB.out hb1); clear hb1)
        go_roundw
        case rel => exact ⟨i, (i + j) / 2, rfl, by go_num, by omega, by omega, HLO.out, HHI2.out, HB1.out⟩
        case measure => simp [intOf]; omega
    · have hij2 : i = j := by omega
      subst hij2
      by_cases hin : i < n
      · have hh : i < fs.length := by have := HN.out; omega
        obtain ⟨b, o, rfl, hc⟩ := (HX.out.below HB.out) (by rw [List.length_map]; omega)
        obtain ⟨c0, c1, c2⟩ := cells3 hc i (by rw [List.length_map]; exact hh)
        simp only [List.getElem_map, fxV] at c0 c1 c2
        clear hc
        generalize fs[i] = f at *
        go_wp2_with (go_at_call 86; refine (hC _ _ _ _ _).mono ?_; rintro E w1 ⟨rfl, hb1⟩; have HB1 := Hid.in (below_step HB.out hb1); clear hb1)
        go_ret2
        exact ⟨⟨i, _, rfl, hjn, HLO.out, HHI.out⟩, HB1.out⟩
      · go_wp2_with fail
        go_ret2
        exact ⟨⟨i, _, rfl, hjn, HLO.out, HHI.out⟩, HB.out⟩

/-- what is asked of fixes that are right -/
def NextF (fs : List Fx) : Prop := ∀ i j (_ : i < j) (h' : j < fs.length), (fs[i]'(by omega)).at_ + 4 ≤ fs[j].at_

set_option maxHeartbeats 1000000 in
theorem shares_any (p : Option Addr) (n c : Nat) (a : Int) (fs : List Fx) (w : World) (hn : fs.length = n) (hn4 : n ≤ 1048576) (hx : Row3 w p (fs.map fxV)) (hs : NextF fs) (ha : 0 ≤ a) (ha2 : a ≤ 65536) (hf : ∀ f ∈ fs, f.at_ ≤ 65536) (hf0 : ∀ f ∈ fs, 0 ≤ f.at_) :
    Calls Try.prog 59 #[.slice p n c, .int .i64 a] w fun E w' => E = .returned (.bool (shB fs a)) ∧ Below w.heap.size w w' := by
  have hS := search_any p n c (a + 5) fs w hn hn4 hx (fun i j h h' => by have := hs i j h h'; omega)
  have HX := Hid.in hx
  have HS := Hid.in hs
  have HN := Hid.in hn
  have HF := Hid.in hf
  have HF0 := Hid.in hf0
  clear hx hs hn hf hf0
  obtain ⟨r, hr⟩ : ∃ r, shB fs a = r := ⟨_, rfl⟩
  rw [hr]
  have HRR := Hid.in hr
  clear hr
  go_enter Try.func59, Try.ntmps59
  go_upto_region 2 with (go_at_call 85; refine hS.mono ?_; rintro E w1 ⟨⟨k, bb, rfl, hk, hlo, hhi⟩, hb1⟩; have HB1 := Hid.in hb1; have HSH := Hid.in (sh_last fs a k (by have := HN.out; omega) HS.out hlo hhi); clear hb1 hlo hhi)
  by_cases hk0 : 0 < k
  · have hkf : k - 1 < fs.length := by have := HN.out; omega
    obtain ⟨b, o, rfl, hc⟩ := (HX.out.below HB1.out) (by rw [List.length_map]; omega)
    obtain ⟨c0, c1, c2⟩ := cells3 hc (k - 1) (by rw [List.length_map]; exact hkf)
    simp only [List.getElem_map, fxV] at c0 c1 c2
    have hm1 := HF.out _ (List.getElem_mem hkf)
    have hm2 := HF0.out _ (List.getElem_mem hkf)
    clear hc c0 c2
    by_cases hat : a < fs[k - 1].at_ + 4
    · have HR : Hid (shB fs a = true) := HSH.out.2 ⟨hk0, hat⟩
      generalize fs[k - 1] = f at *
      go_wp2_with fail
      go_ret
      exact ⟨ret_bool (by rw [← HRR.out, HR.out]), HB1.out⟩
    · have HR : Hid (shB fs a = false) := by
        have : shB fs a = false := by
          cases hb : shB fs a with
          | false => rfl
          | true => obtain ⟨_, h2⟩ := HSH.out.1 hb; exact absurd h2 hat
        exact this
      generalize fs[k - 1] = f at *
      go_wp2_with fail
      go_ret
      exact ⟨ret_bool (by rw [← HRR.out, HR.out]), HB1.out⟩
  · have HR : Hid (shB fs a = false) := by
      have : shB fs a = false := by
        cases hb : shB fs a with
        | false => rfl
        | true => obtain ⟨h1, _⟩ := HSH.out.1 hb; exact absurd h1 hk0
      exact this
    go_wp2_with fail
    go_ret
    exact ⟨ret_bool (by rw [← HRR.out, HR.out]), HB1.out⟩

end Go.Proofs.Ytgblohjdiheemaa

/- A map from names to numbers that a call has made: which names it holds. symbols.nextStart. -/
namespace Go.Proofs.Ytgblohjdiheemaa
open Go.RowKit Go.Maps Go.WideMaps

def KeyD (D : DataW Unit) (ns : List ByteArray) : Prop := ∀ s, has D (key s) = inB s ns
def KeyAt (w : World) (b : Nat) (ns : List ByteArray) : Prop := ∃ D : DataW Unit, w.ownsMap Try.prog 9 (plainElem Try.prog 3) b ns.length D ∧ KeyD D ns
theorem KeyAt.made (w : World) : KeyAt (w.alloc (.map #[] 0)) w.heap.size [] := ⟨_, World.ownsMap_made _ _ _ _, fun s => by simp [has_eq, inB]⟩
theorem KeyD.add {D : DataW Unit} {ns : List ByteArray} (h : KeyD D ns) (hD : IsMap D) (s : ByteArray) (v : DataW Unit) : KeyD (D.put (key s) v) (ns ++ [s]) := fun t => by
  by_cases e : t = s
  · subst e
    rw [has_put_same hD (key_is _)]; simp [inB]
  · have hne : key t ≠ key s := fun e' => e (key_inj e')
    rw [has_put_other hne, h t]
    simp [inB, Ne.symm e]
theorem KeyAt.below {w w' : World} {b : Nat} {ns : List ByteArray} (h : KeyAt w b ns) (hb : Below w.heap.size w w') : KeyAt w' b ns := by
  obtain ⟨D, h1, h2⟩ := h
  obtain ⟨es, clock, e1, e2⟩ := h1
  exact ⟨D, ⟨es, clock, (hb.block b (Array.getElem?_eq_some_iff.1 e1).1).trans e1, e2⟩, h2⟩
theorem KeyAt.kept {w w' : World} {row : Option Nat} {b : Nat} {ns : List ByteArray} (h : KeyAt w b ns) (hg : w.grownBy w' row) (hne : some b ≠ row) : KeyAt w' b ns := by
  obtain ⟨D, h1, h2⟩ := h
  exact ⟨D, h1.kept hg hne, h2⟩
theorem KeyAt.lt {w : World} {b : Nat} {ns : List ByteArray} (h : KeyAt w b ns) : b < w.heap.size := by
  obtain ⟨D, h1, _⟩ := h
  exact h1.lt
/-- '_, ok := m[s]' -/
theorem key_look {ops : Array Oper} {rest : List Oper} {o : Oper} {a : Act} {Q : Exit → Act → World → Prop} (w : World) (hg : o.guard = none) (m x : Operand) (hop : o.op = Op.lookup 115 m x true) (b : Nat) (ns : List ByteArray)
    (hm : a.eval m = .map (some b)) (hown : KeyAt w b ns) (s : ByteArray) (hx : a.eval x = .string s) (hs : s.size ≤ maxLen)
    (h : ∀ c : Int, wpList Try.prog ops Q rest (a.put o.dst (.tuple #[.int .i64 c, .bool (inB s ns)])) w) :
    wpList Try.prog ops Q (o :: rest) a w := by
  obtain ⟨D, h1, h2⟩ := hown
  refine wpList_lookup_own_ok_int w hg m x 115 hop 9 3 .i64 law9 Try.underlying115 Try.underlying3 (zero3 w) b ns.length D hm h1 (.string s) (key s) hx (keyOf_string_mk Try.underlying9 hs) fun c hat _ => ?_
  have := h c
  rw [← h2 s] at this
  exact this
/-- 'm[s] = u' -/
theorem key_put {ops : Array Oper} {rest : List Oper} {o : Oper} {a : Act} {Q : Exit → Act → World → Prop} (w : World) (hg : o.guard = none) (m x v : Operand) (hop : o.op = Op.mapUpdate 115 m x v) (b : Nat) (ns : List ByteArray)
    (hm : a.eval m = .map (some b)) (hown : KeyAt w b ns) (s : ByteArray) (u : Nat) (hx : a.eval x = .string s) (hv : a.eval v = .int .i64 u) (hs : s.size ≤ maxLen) (hl : ns.length ≤ 1048576) (hu : u ≤ 1048576)
    (h : ∀ w', KeyAt w' b (ns ++ [s]) → w.grownBy w' (some b) → wpList Try.prog ops Q rest (a.put o.dst undef) w') :
    wpList Try.prog ops Q (o :: rest) a w := by
  obtain ⟨D, h1, h2⟩ := hown
  refine wpList_mapUpdate_own w hg m x v 115 hop 9 3 law9 Try.underlying115 _ b ns.length D hm h1 (by unfold maxLen; omega) _ _ (key s) hx hv (keyOf_string_mk Try.underlying9 hs) (.lit (.int .i64 u)) [] (plainElem_int Try.underlying3 (WalkArith.wf_i64 (by omega))) fun w' h3 h4 => h w' ⟨_, ?_, h2.add h1.isMap s (.lit (.int .i64 u))⟩ h4
  rw [List.length_append]
  exact h3

end Go.Proofs.Ytgblohjdiheemaa

/- symbols.addGlobals. -/
namespace Go.Proofs.Ytgblohjdiheemaa
open Go.RowKit Go.Maps Go.WideMaps

end Go.Proofs.Ytgblohjdiheemaa

/- Rows of unlike types lie apart. -/
namespace Go.Proofs.Ytgblohjdiheemaa
open Go.RowKit

theorem own_block {w : World} {B : Nat} {T : TypeId} {z : Nat} {v : Value} {n : Nat} {xs : List Value} (h : w.ownsRow B T z v n xs) : v = .slice none 0 0 ∨ ∃ g cur, v.ownBlock = some g ∧ B ≤ g ∧ w.heap[g]? = some (.cells cur T (0, 0)) := by
  rcases h.2 with ⟨e1, _⟩ | ⟨g, cap, cur, e1, e2, e3, _⟩
  · exact .inl e1
  · exact .inr ⟨g, cur, by rw [e1]; rfl, e2, e3⟩
theorem rows_apart {w : World} {B B' : Nat} {T T' : TypeId} {z z' : Nat} {v v' : Value} {n n' : Nat} {xs xs' : List Value} (h : w.ownsRow B T z v n xs) (h' : w.ownsRow B' T' z' v' n' xs') (hne : T ≠ T') : v = .slice none 0 0 ∨ v.ownBlock ≠ v'.ownBlock := by
  rcases own_block h with e | ⟨g, cur, e1, -, e2⟩
  · exact .inl e
  · refine .inr fun e => ?_
    rcases own_block h' with e' | ⟨g', cur', e3, -, e4⟩
    · rw [e', e1] at e; cases e
    · rw [e1, e3] at e
      injection e with e
      rw [e, e4] at e2
      injection e2 with e2
      injection e2 with _ e2
      exact hne e2.symm
theorem row_not_blk {w : World} {B : Nat} {T T' : TypeId} {z : Nat} {v : Value} {n g : Nat} {xs : List Value} {c : Array Value} (h : w.ownsRow B T z v n xs) (hb : Blk w g T' c) (hne : T ≠ T') : v = .slice none 0 0 ∨ v.ownBlock ≠ some g := by
  rcases own_block h with e | ⟨g', cur, e1, -, e2⟩
  · exact .inl e
  · refine .inr fun e => ?_
    rw [e1] at e
    injection e with e
    rw [e, show w.heap[g]? = _ from hb] at e2
    injection e2 with e2
    injection e2 with _ e2
    exact hne e2.symm
theorem blk_not_row {w : World} {B : Nat} {T T' : TypeId} {z : Nat} {v : Value} {n g : Nat} {xs : List Value} {c : Array Value} (h : w.ownsRow B T z v n xs) (hb : Blk w g T' c) (hne : T ≠ T') : some g ≠ v.ownBlock := by
  rcases row_not_blk h hb hne with e | e
  · rw [e]; intro e; cases e
  · exact fun e' => e e'.symm
theorem kept_row {w w' : World} {B : Nat} {T : TypeId} {z : Nat} {v : Value} {n : Nat} {xs : List Value} {row : Option Nat} (h : w.ownsRow B T z v n xs) (hg : w.grownBy w' row) (hr : v = .slice none 0 0 ∨ v.ownBlock ≠ row) : w'.ownsRow B T z v n xs :=
  World.ownsRow.kept h hg (hr.imp (fun e => by rw [e]; rfl) id)
/-- an object's lists stay where a list of another type grows -/
theorem KeyAt.at {w w' : World} {b B : Nat} {ns : List ByteArray} (h : KeyAt w b ns) (hb : Below B w w') (hl : b < B) : KeyAt w' b ns := by
  obtain ⟨D, h1, h2⟩ := h
  obtain ⟨es, clock, e1, e2⟩ := h1
  exact ⟨D, ⟨es, clock, (hb.block b hl).trans e1, e2⟩, h2⟩
theorem GOwnV.belowG {T : TypeId} {w w' : World} {B : Nat} {v : Value} {vs : List Value} (h : GOwnV T w B v vs) (hb : Below w.heap.size w w') : GOwnV T w' B v vs := by
  obtain ⟨h0, h1⟩ := h
  refine ⟨h0, h1.imp id ?_⟩
  rintro ⟨g, cap, cur, e1, e2, e3, e4⟩
  exact ⟨g, cap, cur, e1, e2, (hb.block g (Array.getElem?_eq_some_iff.1 e3).1).trans e3, e4⟩

end Go.Proofs.Ytgblohjdiheemaa

/- strings.Clone. -/
namespace Go.Proofs.Ytgblohjdiheemaa
open Go.RowKit

end Go.Proofs.Ytgblohjdiheemaa

/- symbols.appendMoved. -/
namespace Go.Proofs.Ytgblohjdiheemaa
open Go.RowKit

theorem mov_take (A L : List Sy) (s k : Nat) (h : k < L.length) : (A ++ (L.take (k + 1)).map (movS s)).map syV = (A ++ (L.take k).map (movS s)).map syV ++ [(.string L[k].name, .int .i64 ((s : Int) + L[k].at_), .bool L[k].g)] := by
  rw [List.take_succ_eq_append_getElem h, List.map_append, List.map_append, List.map_append, List.map_append, List.append_assoc]
  rfl

end Go.Proofs.Ytgblohjdiheemaa

/- What words.divides, opens, digit and Name answer, for every rune, every text. -/
namespace Go.Proofs.Ytgblohjdiheemaa
open Go.RowKit

def opensB (r : Int) : Bool := decide ((97 ≤ r ∧ r ≤ 122) ∨ (65 ≤ r ∧ r ≤ 90) ∨ r = 95)
def digitB (r : Int) : Bool := decide (48 ≤ r ∧ r ≤ 57)

set_option maxHeartbeats 400000 in
theorem digit_any (r : Int) (w : World) :
    Calls Try.prog 84 #[.int .i32 r] w fun e w' => e = .returned (.bool (digitB r)) ∧ w' = w := by
  go_enter Try.func84, Try.ntmps84
  go_wp2
  all_goals
    go_ret
    refine ⟨rname_ret ?_, rfl⟩
    go_light
    rw [Bool.eq_iff_iff]
    simp [digitB] at *
    try omega

set_option maxHeartbeats 1000000 in
theorem opens_any (r : Int) (w : World) :
    Calls Try.prog 83 #[.int .i32 r] w fun e w' => e = .returned (.bool (opensB r)) ∧ w' = w := by
  go_enter Try.func83, Try.ntmps83
  go_wp2
  all_goals
    go_ret
    refine ⟨rname_ret ?_, rfl⟩
    go_light
    rw [Bool.eq_iff_iff]
    simp [opensB] at *
    try omega

theorem iter_below (w : World) (s : ByteArray) (pos : Nat) : Below w.heap.size w (w.iter s pos) := new_alloc w _

theorem opens_high (r : Int) (h : 128 ≤ r) : opensB r = false := by simp [opensB]; omega
theorem digit_high (r : Int) (h : 128 ≤ r) : digitB r = false := by simp [digitB]; omega
theorem ok_opens (k : Nat) (r : Int) (h : okAt k r) (hd : digitB r = false ∨ k = 0) : opensB r = true := by
  simp [opensB, digitB, okAt] at *; omega
theorem nok_opens (k : Nat) (r : Int) (h : ¬ okAt k r) : opensB r = false ∧ (k = 0 ∨ digitB r = false) := by
  simp [opensB, digitB, okAt] at *; omega

theorem toList_eq (s : ByteArray) : s.toList = s.data.toList := ByteArray.toList_eq s
theorem text_empty (s : ByteArray) (h : s.size = 0) : s.toList = [] := by
  rw [toList_eq]; apply List.eq_nil_of_length_eq_zero; rw [Array.length_toList]; exact h
theorem text_full (s : ByteArray) (h : 0 < s.size) : ¬ s.toList = [] ∧ s.toList.isEmpty = false := by
  have : ¬ s.toList = [] := fun e => by
    rw [toList_eq] at e
    have := congrArg List.length e
    rw [Array.length_toList] at this
    simp at this
    rw [this] at h; simp at h
  exact ⟨this, by simpa using this⟩

set_option maxHeartbeats 2000000 in
theorem name_yes (s : ByteArray) (w : World) (h : NameP s) :
    Calls Try.prog 57 #[.string s] w fun e w' => e = .returned (.bool true) ∧ Below w.heap.size w w' := by
  have HP : Hid (∀ k, k < s.size → okAt k (byteAt s k)) := h.1
  have h1 := h.2.1
  have h2 := h.2.2
  obtain ⟨ht1, ht2⟩ := text_full s h1
  clear h
  go_enter Try.func57, Try.ntmps57
  go_wp2_with fail
  go_loopw [3] (fun _ w' => ∃ pos : Nat, pos ≤ s.size ∧ w' = w.iter s pos) (fun _ w' => s.size - w'.iterPos w.heap.size)
  case atStart => exact ⟨0, Nat.zero_le _, rfl⟩
  case round =>
    obtain ⟨k, hk, rfl⟩ := hrel
    by_cases hlt : k < s.size
    · have hb := byteAt_eq s k hlt
      have hi := byteAt_in s k
      have hok := HP.out k hlt
      have hasc : (s[k]'hlt).toNat < 128 := by
        unfold okAt at hok; omega
      have hnx : ∀ ty, (Instr.next (.pointer (some ⟨w.heap.size, 0, none⟩)) true ty).run Try.prog (w.iter s k) = _ := fun ty => run_next_ascii w s k ty hlt hasc
      generalize hz : byteAt s k = z at *
      rw [hb] at hnx
      go_wp2_with fail
      refine (opens_any _ _).mono ?_
      rintro e w1 ⟨rfl, rfl⟩
      by_cases hd : digitB z = false ∨ k = 0
      · rw [ok_opens k z hok hd]
        go_wp2_with fail
        go_roundw
        case rel => exact ⟨k + 1, by omega, rfl⟩
        case measure => simp; omega
      · have hdg : digitB z = true := by
          cases e : digitB z
          · exact absurd (.inl e) hd
          · rfl
        have hk0 : ((k : Int) == 0) = false := by
          simp; intro e; exact hd (.inr e)
        generalize ho : opensB z = ob
        cases ob
        · go_wp2_with fail
          refine (digit_any _ _).mono ?_
          rintro e w1 ⟨rfl, rfl⟩
          rw [hdg]
          go_wp2_with fail
          go_roundw
          case rel => exact ⟨k + 1, by omega, rfl⟩
          case measure => simp; omega
        · go_wp2_with fail
          go_roundw
          case rel => exact ⟨k + 1, by omega, rfl⟩
          case measure => simp; omega
    · have hnx : ∀ ty, (Instr.next (.pointer (some ⟨w.heap.size, 0, none⟩)) true ty).run Try.prog (w.iter s k) = _ := fun ty => run_next_end w s k ty hlt
      go_wp2_with fail
      go_ret
      exact ⟨rfl, iter_below _ _ _⟩

theorem bad_some (s : ByteArray) (h : ¬ NameP s) (h0 : 0 < s.size) (h1 : s.size ≤ 16) : ¬ ∀ k, k < s.size → okAt k (byteAt s k) := fun e => h ⟨e, h0, h1⟩

set_option maxHeartbeats 2000000 in
theorem name_no (s : ByteArray) (w : World) (h : ¬ NameP s) :
    Calls Try.prog 57 #[.string s] w fun e w' => e = .returned (.bool false) ∧ Below w.heap.size w w' := by
  by_cases h1 : 0 < s.size
  · obtain ⟨ht1, ht2⟩ := text_full s h1
    by_cases h2 : s.size ≤ 16
    · have HP : Hid (¬ ∀ k, k < s.size → okAt k (byteAt s k)) := bad_some s h h1 h2
      clear h
      go_enter Try.func57, Try.ntmps57
      go_wp2_with fail
      go_loopw [3] (fun _ w' => ∃ pos : Nat, pos ≤ s.size ∧ w' = w.iter s pos ∧ ∀ j, j < pos → okAt j (byteAt s j)) (fun _ w' => s.size - w'.iterPos w.heap.size)
      case atStart => exact ⟨0, Nat.zero_le _, rfl, fun j hj => absurd hj (Nat.not_lt_zero _)⟩
      case round =>
        obtain ⟨k, hk, rfl, hall⟩ := hrel
        have HA : Hid (∀ j, j < k → okAt j (byteAt s j)) := hall
        clear hall
        by_cases hlt : k < s.size
        · have hb := byteAt_eq s k hlt
          have hi := byteAt_in s k
          by_cases hok : okAt k (byteAt s k)
          · have HB : Hid (∀ j, j < k + 1 → okAt j (byteAt s j)) := fun j hj => by
              by_cases e : j = k
              · subst e; exact hok
              · exact HA.out j (by omega)
            have hasc : (s[k]'hlt).toNat < 128 := by
              unfold okAt at hok; omega
            have hnx : ∀ ty, (Instr.next (.pointer (some ⟨w.heap.size, 0, none⟩)) true ty).run Try.prog (w.iter s k) = _ := fun ty => run_next_ascii w s k ty hlt hasc
            generalize hz : byteAt s k = z at *
            rw [hb] at hnx
            go_wp2_with fail
            refine (opens_any _ _).mono ?_
            rintro e w1 ⟨rfl, rfl⟩
            by_cases hd : digitB z = false ∨ k = 0
            · rw [ok_opens k z hok hd]
              go_wp2_with fail
              go_roundw
              case rel => exact ⟨k + 1, by omega, rfl, HB.out⟩
              case measure => simp; omega
            · have hdg : digitB z = true := by
                cases e : digitB z
                · exact absurd (.inl e) hd
                · rfl
              have hk0 : ((k : Int) == 0) = false := by
                simp; intro e; exact hd (.inr e)
              generalize ho : opensB z = ob
              cases ob
              · go_wp2_with fail
                refine (digit_any _ _).mono ?_
                rintro e w1 ⟨rfl, rfl⟩
                rw [hdg]
                go_wp2_with fail
                go_roundw
                case rel => exact ⟨k + 1, by omega, rfl, HB.out⟩
                case measure => simp; omega
              · go_wp2_with fail
                go_roundw
                case rel => exact ⟨k + 1, by omega, rfl, HB.out⟩
                case measure => simp; omega
          · have hrn : ∃ z : Nat, (Utf8.decode s k).1 = z ∧ opensB (z : Int) = false ∧ (k = 0 ∨ digitB (z : Int) = false) := by
              by_cases hasc : (s[k]'hlt).toNat < 128
              · rw [decode_ascii s k hlt hasc]
                exact ⟨_, rfl, by rw [hb]; exact nok_opens k _ hok⟩
              · have := (decode_high s k hlt (by omega)).1
                exact ⟨_, rfl, opens_high _ (by omega), .inr (digit_high _ (by omega))⟩
            obtain ⟨z, hz1, hz2, hz3⟩ := hrn
            have hnx : ∀ ty, (Instr.next (.pointer (some ⟨w.heap.size, 0, none⟩)) true ty).run Try.prog (w.iter s k) = _ := fun ty => run_next_any w s k ty hlt
            rw [hz1] at hnx
            clear hz1 hok hb hi
            generalize (Utf8.decode s k).2 = d at *
            go_wp2_with fail
            refine (opens_any _ _).mono ?_
            rintro e w1 ⟨rfl, rfl⟩
            rw [hz2]
            by_cases hk0 : k = 0
            · subst hk0
              go_wp2_with fail
              go_ret
              exact ⟨rfl, iter_below _ _ _⟩
            · have hk1 : ((k : Int) == 0) = false := by simp; exact hk0
              have hz4 : digitB (z : Int) = false := by
                rcases hz3 with e | e
                · exact absurd e hk0
                · exact e
              clear hz3
              go_wp2_with fail
              refine (digit_any _ _).mono ?_
              rintro e w1 ⟨rfl, rfl⟩
              rw [hz4]
              go_wp2_with fail
              go_ret
              exact ⟨rfl, iter_below _ _ _⟩
        · exact absurd (fun j hj => HA.out j (by omega)) HP.out
    · have h3 : 16 < (s.size : Int) := by omega
      clear h
      go_enter Try.func57, Try.ntmps57
      go_wp2_with fail
      go_ret
      exact ⟨rfl, Below.refl _ _⟩
  · have ht := text_empty s (by omega)
    clear h
    go_enter Try.func57, Try.ntmps57
    go_wp2_with fail
    go_ret
    exact ⟨rfl, Below.refl _ _⟩

theorem name_any (s : ByteArray) (w : World) (b : Bool) (h : b = true ↔ NameP s) :
    Calls Try.prog 57 #[.string s] w fun e w' => e = .returned (.bool b) ∧ Below w.heap.size w w' := by
  cases b
  · exact name_no s w (fun e => by simpa using h.2 e)
  · exact name_yes s w (h.1 rfl)

end Go.Proofs.Ytgblohjdiheemaa

/- object.rightSymbols. -/
namespace Go.Proofs.Ytgblohjdiheemaa
open Go.RowKit Go.Maps

theorem Try.sz92 : (Try.prog.info? 92).map (·.size) = some 3 := by kernel_rfl
theorem Try.sz119 : (Try.prog.info? 119).map (·.size) = some 3 := by kernel_rfl
theorem Try.sz122 : (Try.prog.info? 122).map (·.size) = some 3 := by kernel_rfl
abbrev obA (pb ps pf pm : Option Addr) (nb cb ns cs nf cf nm cm : Nat) : Array Value := #[.slice pb nb cb, .slice ps ns cs, .slice pf nf cf, .slice pm nm cm]

set_option maxRecDepth 20000 in
set_option maxHeartbeats 2000000 in
theorem rightSymbols_any (pb ps pf pm : Option Addr) (nb cb ns cs nf cf nm cm : Nat) (L : List Sy) (w : World) (hn : L.length = ns) (hn4 : ns ≤ 4096) (_hnb : nb ≤ 65536) (hL : ∀ s ∈ L, SyF s) (hx : Row3 w ps (L.map syV)) :
    Calls Try.prog 48 #[.agg (obA pb ps pf pm nb cb ns cs nf cf nm cm)] w fun E w' => E = .returned (.bool (rsL nb 0 [] L)) ∧ Below w.heap.size w w' := by
  have hN := fun s W => name_any s W (nmB s) (nmB_iff s)
  have HX := Hid.in hx
  have HN := Hid.in hn
  have HL := Hid.in hL
  have hmm := @run_makeMap Try.prog
  clear hx hn hL
  obtain ⟨r, hr⟩ : ∃ r, rsL nb 0 [] L = r := ⟨_, rfl⟩
  rw [hr]
  have HR := Hid.in hr
  clear hr
  go_enter Try.func48, Try.ntmps48
  go_upto_region 3 with fail
  have HK0 : Hid (Blk ((w.alloc (.cells (obA pb ps pf pm nb cb ns cs nf cf nm cm) 97)).alloc (.map #[] 0)) w.heap.size 97 (obA pb ps pf pm nb cb ns cs nf cf nm cm)) := (Blk.new w 97 _).grow (new_alloc _ _)
  have HB0 : Hid (Below w.heap.size w ((w.alloc (.cells (obA pb ps pf pm nb cb ns cs nf cf nm cm) 97)).alloc (.map #[] 0))) := below_alloc (new_alloc w _) _
  have HN0 : Hid (NamAt ((w.alloc (.cells (obA pb ps pf pm nb cb ns cs nf cf nm cm) 97)).alloc (.map #[] 0)) (w.heap.size + 1) []) := by
    have := NamAt.made (w.alloc (.cells (obA pb ps pf pm nb cb ns cs nf cf nm cm) 97))
    rw [size_one] at this
    exact this
  generalize (w.alloc (.cells (obA pb ps pf pm nb cb ns cs nf cf nm cm) 97)).alloc (.map #[] 0) = w0 at *
  have c1 : w0.cell? ⟨w.heap.size, 1, none⟩ = some (.slice ps ns cs) := HK0.out.cell 1
  generalize hbm : w.heap.size + 1 = bm at *
  have HBM := Hid.in hbm
  clear hbm hmm
  go_wp2_with fail
  clear c1
  go_loopw [4, 13] (fun vl vi wr => ∃ (z : Int) (k : Nat), vl = .int .i64 z ∧ vi = .int .i64 k ∧ k ≤ ns ∧ rsL nb 0 [] L = rsL nb z (names (L.take k)) (L.drop k) ∧ i64P z ∧ NamAt wr bm (names (L.take k)) ∧ Blk wr w.heap.size 97 (obA pb ps pf pm nb cb ns cs nf cf nm cm) ∧ Below w.heap.size w wr) (fun _ vi _ => ns - (intOf vi).toNat)
  case atStart => exact ⟨0, 0, rfl, rfl, Nat.zero_le _, rfl, by unfold i64P; omega, HN0.out, HK0.out, HB0.out⟩
  case round =>
    obtain ⟨z, k, rfl, rfl, hk, hrs, hz, hna, hK, hB⟩ := hrel
    have HRS := Hid.in hrs
    have HNA := Hid.in hna
    have HK := Hid.in hK
    have HB := Hid.in hB
    clear hrs hna hK hB HK0 HB0 HN0
    obtain ⟨hz0, hz1⟩ := hz
    by_cases hlt : k < ns
    · have hkl : k < L.length := by rw [HN.out]; exact hlt
      obtain ⟨b, o, rfl, hc⟩ := (HX.out.below HB.out) (by rw [List.length_map]; omega)
      obtain ⟨c0, c1, c2⟩ := cells3 hc k (by rw [List.length_map]; exact hkl)
      simp only [List.getElem_map, syV] at c0 c1 c2
      clear hc
      obtain ⟨hsn, hsa0, hsa1⟩ := HL.out L[k] (List.getElem_mem hkl)
      have HST := Hid.in (rs_step nb L k hkl z (names (L.take k)))
      have HNT := Hid.in (names_take L k hkl)
      have HNL : Hid ((names (L.take k)).length = k) := names_len L k (by omega)
      generalize names (L.take k) = seen at *
      generalize L[k] = s at *
      have hBB : Hid (Below w.heap.size w (wr.alloc (.cells #[.string s.name, .int .i64 s.at_, .bool s.g] 92))) := below_alloc HB.out _
      have HK1 : Hid (Blk (wr.alloc (.cells #[.string s.name, .int .i64 s.at_, .bool s.g] 92)) w.heap.size 97 _) := HK.out.grow (new_alloc wr _)
      have HN1 : Hid (NamAt (wr.alloc (.cells #[.string s.name, .int .i64 s.at_, .bool s.g] 92)) bm seen) := HNA.out.below (new_alloc wr _)
      have HS1 : Hid (Blk (wr.alloc (.cells #[.string s.name, .int .i64 s.at_, .bool s.g] 92)) wr.heap.size 92 #[.string s.name, .int .i64 s.at_, .bool s.g]) := Blk.new wr 92 _
      have hbmlt : bm < wr.heap.size := HNA.out.lt
      cases hin : inB s.name seen with
      | true =>
        go_wp2_with (at_lookup; refine nam_look _ rfl _ _ rfl bm seen rfl HN1.out s.name rfl hsn ?_; intro cc hcc; rw [hin])
        go_ret
        exact ⟨ret_bool (by rw [← HR.out, HRS.out, HST.out]; simp [symB, hin]), hBB.out⟩
      | false =>
        have hni : s.name ∉ seen := fun hm => by rw [(inB_iff _ _).2 hm] at hin; cases hin
        cases hnm : nmB s.name with
        | false =>
          go_wp2_with (first
            | (at_lookup; refine nam_look _ rfl _ _ rfl bm seen rfl HN1.out s.name rfl hsn ?_; intro cc hcc; rw [hin])
            | (go_at_call 57; refine (hN _ _).mono ?_; rw [hnm]; rintro E w2 ⟨rfl, hb2⟩; have HB2 := Hid.in (below_step hBB.out hb2); clear hb2))
          go_ret
          exact ⟨ret_bool (by rw [← HR.out, HRS.out, HST.out]; simp [symB, hnm]), HB2.out⟩
        | true =>
          by_cases hlow : s.at_ < z
          · go_wp2_with (first
              | (at_lookup; refine nam_look _ rfl _ _ rfl bm seen rfl HN1.out s.name rfl hsn ?_; intro cc hcc; rw [hin])
              | (go_at_call 57; refine (hN _ _).mono ?_; rw [hnm]; rintro E w2 ⟨rfl, hb2⟩; have HB2 := Hid.in (below_step hBB.out hb2); have s1 : w2.cell? ⟨wr.heap.size, 1, none⟩ = some (.int .i64 s.at_) := (HS1.out.grow hb2).cell 1; clear hb2))
            go_ret
            exact ⟨ret_bool (by rw [← HR.out, HRS.out, HST.out]; simp [symB, show ¬ z ≤ s.at_ by omega]), HB2.out⟩
          · by_cases hhi : (nb : Int) < s.at_
            · go_wp2_with (first
                | (at_lookup; refine nam_look _ rfl _ _ rfl bm seen rfl HN1.out s.name rfl hsn ?_; intro cc hcc; rw [hin])
                | (go_at_call 57; refine (hN _ _).mono ?_; rw [hnm]; rintro E w2 ⟨rfl, hb2⟩; have HB2 := Hid.in (below_step hBB.out hb2); have s1 : w2.cell? ⟨wr.heap.size, 1, none⟩ = some (.int .i64 s.at_) := (HS1.out.grow hb2).cell 1; have o0 : w2.cell? ⟨w.heap.size, 0, none⟩ = some (.slice pb nb cb) := (HK1.out.grow hb2).cell 0; clear hb2))
              go_ret
              exact ⟨ret_bool (by rw [← HR.out, HRS.out, HST.out]; simp [symB, show ¬ s.at_ ≤ nb by omega]), HB2.out⟩
            · have HRS2 : Hid (rsL nb 0 [] L = rsL nb s.at_ (seen ++ [s.name]) (L.drop (k + 1))) := by
                have : rsL nb 0 [] L = rsL nb s.at_ (seen ++ [s.name]) (L.drop (k + 1)) := by
                  rw [HRS.out, HST.out]
                  simp [symB, hin, hnm, show z ≤ s.at_ by omega, show s.at_ ≤ nb by omega]
                exact this
              have hl1 : seen.length ≤ 1048576 := by have := HNL.out; omega
              go_wp2_with (first
                | (at_lookup; refine nam_look _ rfl _ _ rfl bm seen rfl HN1.out s.name rfl hsn ?_; intro cc hcc; rw [hin])
                | (go_at_call 57; refine (hN _ _).mono ?_; rw [hnm]; rintro E w2 ⟨rfl, hb2⟩; have HB2 := Hid.in (below_step hBB.out hb2); have s0 : w2.cell? ⟨wr.heap.size, 0, none⟩ = some (.string s.name) := (HS1.out.grow hb2).cell 0; have s1 : w2.cell? ⟨wr.heap.size, 1, none⟩ = some (.int .i64 s.at_) := (HS1.out.grow hb2).cell 1; have o0 : w2.cell? ⟨w.heap.size, 0, none⟩ = some (.slice pb nb cb) := (HK1.out.grow hb2).cell 0; have HK2 := Hid.in (HK1.out.grow hb2); have HS2 := Hid.in (HS1.out.grow hb2); have HN2 := Hid.in (HN1.out.below hb2); clear hb2)
                | (at_mapUpdate; refine nam_put _ rfl _ _ _ rfl bm seen rfl HN2.out s.name rfl (congrArg (fun j : Nat => Value.int .i64 (j : Int)) HNL.out.symm) hsn hni hl1 ?_; intro w5 hn5 hg5; have HN5 := Hid.in hn5; have HK5 := Hid.in (HK2.out.kept hg5 (by have := HBM.out; intro e; injection e with e; omega)); have s51 : w5.cell? ⟨wr.heap.size, 1, none⟩ = some (.int .i64 s.at_) := (HS2.out.kept hg5 (by intro e; injection e with e; omega)).cell 1; have HB5 := Hid.in (HB2.out.grown hg5 HB2.out.size (fun j hj => by cases hj; have := HBM.out; omega)); clear hn5 hg5))
              go_roundw
              case rel => exact ⟨s.at_, k + 1, rfl, by go_num, by omega, by rw [HNT.out]; exact HRS2.out, ⟨hsa0, hsa1⟩, by rw [HNT.out]; exact HN5.out, HK5.out, HB5.out⟩
              case measure => simp [intOf]; omega
    · have hkn : k = ns := by omega
      subst hkn
      go_wp2_with fail
      go_ret
      exact ⟨ret_bool (by rw [← HR.out, HRS.out, List.drop_eq_nil_of_le (by rw [HN.out]; exact Nat.le_refl _)]; rfl), HB.out⟩

end Go.Proofs.Ytgblohjdiheemaa
