/- Texts put together: StaL, SitL, WatL, WatA, FndW. -/
import Derived.Test.YtgblohjdiheemaaGreatKaf
import Derived.Test.YtgblohjdiheemaaGreatKac
import Derived.Test.YtgblohjdiheemaaGreatKad
import Derived.Lib.Hide
import Derived.BigQuiet

/- What a table is, unit by unit: where units begin and end, their labels, and that each is found (lists alone). -/
namespace Go.Proofs.YtgblohjdiheemaaGreat
open Go.RowKit

/-- where the unit ahead of the one at i ends -/
def endAt : Nat → List Ob → Nat → Nat
  | e, _, 0 => e
  | e, [], _ + 1 => e
  | e, o :: os, i + 1 => endAt (nextS e + o.bs.length) os i
def begs : Nat → List Ob → List Nat
  | _, [] => []
  | e, o :: os => nextS e :: begs (nextS e + o.bs.length) os
def labs : Nat → List Ob → List Sy
  | _, [] => []
  | e, o :: os => o.sy.map (movS (nextS e)) ++ labs (nextS e + o.bs.length) os
/-- how many labels the units ahead of the one at i have -/
def cntAt : List Ob → Nat → Nat
  | _, 0 => 0
  | [], _ + 1 => 0
  | o :: os, i + 1 => o.sy.length + cntAt os i

theorem endAt_zero (e : Nat) (xs : List Ob) : endAt e xs 0 = e := by cases xs <;> rfl
theorem cntAt_zero (xs : List Ob) : cntAt xs 0 = 0 := by cases xs <;> rfl
theorem begs_len : ∀ (xs : List Ob) (e : Nat), (begs e xs).length = xs.length
  | [], _ => rfl
  | o :: os, e => by simp [begs, begs_len os]
theorem begs_at : ∀ (xs : List Ob) (e i : Nat) (h : i < xs.length), (begs e xs)[i]'(by rw [begs_len]; exact h) = nextS (endAt e xs i)
  | o :: os, e, 0, _ => rfl
  | o :: os, e, i + 1, h => begs_at os _ i (by simpa using h)
theorem endAt_succ : ∀ (xs : List Ob) (e i : Nat) (h : i < xs.length), endAt e xs (i + 1) = nextS (endAt e xs i) + xs[i].bs.length
  | o :: os, e, 0, _ => endAt_zero (nextS e + o.bs.length) os
  | o :: os, e, i + 1, h => endAt_succ os _ i (by simpa using h)
theorem cntAt_succ : ∀ (xs : List Ob) (i : Nat) (h : i < xs.length), cntAt xs (i + 1) = cntAt xs i + xs[i].sy.length
  | o :: os, 0, _ => by show o.sy.length + cntAt os 0 = 0 + o.sy.length; rw [cntAt_zero]; omega
  | o :: os, i + 1, h => by
    show o.sy.length + cntAt os (i + 1) = o.sy.length + cntAt os i + (os[i]'(by simpa using h)).sy.length
    rw [cntAt_succ os i (by simpa using h)]; omega
theorem labs_len : ∀ (xs : List Ob) (e : Nat), (labs e xs).length = cntAt xs xs.length
  | [], _ => rfl
  | o :: os, e => by
    show (o.sy.map (movS (nextS e)) ++ labs (nextS e + o.bs.length) os).length = o.sy.length + cntAt os os.length
    rw [List.length_append, List.length_map, labs_len os]
theorem cntAt_le : ∀ (xs : List Ob) (i : Nat), i ≤ xs.length → cntAt xs i ≤ cntAt xs xs.length
  | _, 0, _ => by rw [cntAt_zero]; exact Nat.zero_le _
  | o :: os, i + 1, h => by
    show o.sy.length + cntAt os i ≤ o.sy.length + cntAt os os.length
    have := cntAt_le os i (by simpa using h); omega
theorem labs_at : ∀ (xs : List Ob) (e i j : Nat) (h : i < xs.length) (hj : j < xs[i].sy.length), (labs e xs)[cntAt xs i + j]? = some (movS (nextS (endAt e xs i)) xs[i].sy[j])
  | o :: os, e, 0, j, _, hj => by
    show (o.sy.map (movS (nextS e)) ++ labs (nextS e + o.bs.length) os)[0 + j]? = some (movS (nextS e) o.sy[j])
    have hj' : j < o.sy.length := hj
    rw [Nat.zero_add, List.getElem?_append_left (by rw [List.length_map]; exact hj'), List.getElem?_map, List.getElem?_eq_getElem hj']; rfl
  | o :: os, e, i + 1, j, h, hj => by
    show (o.sy.map (movS (nextS e)) ++ labs (nextS e + o.bs.length) os)[o.sy.length + cntAt os i + j]? = _
    rw [List.getElem?_append_right (by rw [List.length_map]; omega), List.length_map, show o.sy.length + cntAt os i + j - o.sy.length = cntAt os i + j by omega]
    exact labs_at os _ i j (by simpa using h) hj
theorem labs_app : ∀ (xs ys : List Ob) (e : Nat), labs e (xs ++ ys) = labs e xs ++ labs (endAt e xs xs.length) ys
  | [], ys, e => rfl
  | o :: os, ys, e => by
    show o.sy.map (movS (nextS e)) ++ labs _ (os ++ ys) = (o.sy.map (movS (nextS e)) ++ labs _ os) ++ labs (endAt (nextS e + o.bs.length) os os.length) ys
    rw [labs_app os ys, List.append_assoc]
theorem begs_app : ∀ (xs ys : List Ob) (e : Nat), begs e (xs ++ ys) = begs e xs ++ begs (endAt e xs xs.length) ys
  | [], ys, e => rfl
  | o :: os, ys, e => by
    show nextS e :: begs _ (os ++ ys) = nextS e :: (begs _ os ++ begs (endAt (nextS e + o.bs.length) os os.length) ys)
    rw [begs_app os ys]

theorem noTab_e {e : Int} {u : Nat} : (noTab e u).e = e := rfl
theorem glo_next {ts : List Sy} {o : Ob} (hd : ¬ dupS (gloS ts) o.sy = true) (s : Nat) (hn : (gloS ts).Nodup) (hnd : (names o.sy).Nodup) : (gloS (ts ++ o.sy.map (movS s))).Nodup := by
  rw [gloS_app, gloS_mov, List.nodup_append]
  refine ⟨hn, ?_, fun a ha b hb hab => ?_⟩
  · have : gloS o.sy = ((o.sy.filter fun x => x.g).map Sy.name) := rfl
    rw [this]
    exact List.Nodup.sublist (List.Sublist.map _ List.filter_sublist) hnd
  · subst hab
    refine hd ?_
    unfold dupS
    rw [List.any_eq_true]
    unfold gloS at hb
    rw [List.mem_map] at hb
    obtain ⟨x, hx, rfl⟩ := hb
    rw [List.mem_filter] at hx
    exact ⟨x, hx.1, by rw [hx.2, Bool.true_and, inB_iff]; exact ha⟩
theorem ok_nodup {o : Ob} (h : okO o = true) : (names o.sy).Nodup := (ok_parts h).2.2.1

theorem tabGo_eq : ∀ (xs : List Ob) (i e : Nat) (ss : List Nat) (ts : List Sy), (tabGo i e ss ts xs).e = 0 → tabGo i e ss ts xs = ⟨ss ++ begs e xs, ts ++ labs e xs, 0, 0⟩ ∧ (∀ x ∈ xs, okO x = true) ∧ (∀ j, 0 < j → j ≤ xs.length → endAt e xs j ≤ 65536) ∧ ((gloS ts).Nodup → (gloS (ts ++ labs e xs)).Nodup)
  | [], i, e, ss, ts, _ => by
    refine ⟨by simp [tabGo, begs, labs], fun x hx => (by cases hx), fun j h1 h2 => ?_, fun h => (by simpa [labs] using h)⟩
    have h3 : j ≤ 0 := h2
    omega
  | o :: os, i, e, ss, ts, h => by
    unfold tabGo at h ⊢
    by_cases h1 : okO o = false
    · rw [if_pos h1] at h; cases h
    rw [if_neg h1] at h ⊢
    by_cases h2 : nextS e + o.bs.length > 65536
    · rw [if_pos h2] at h; cases h
    rw [if_neg h2] at h ⊢
    by_cases h3 : dupS (gloS ts) o.sy = true
    · rw [if_pos h3] at h; cases h
    rw [if_neg h3] at h ⊢
    have hk : okO o = true := by simpa using h1
    obtain ⟨e1, e2, e3, e4⟩ := tabGo_eq os _ _ _ _ h
    refine ⟨?_, ?_, ?_, ?_⟩
    · rw [e1]
      simp [begs, labs]
    · intro x hx
      rcases List.mem_cons.1 hx with rfl | hx
      · exact hk
      · exact e2 x hx
    · intro j hj0 hj
      cases j with
      | zero => exact absurd hj0 (by omega)
      | succ j =>
        show endAt (nextS e + o.bs.length) os j ≤ 65536
        cases j with
        | zero => rw [endAt_zero]; omega
        | succ j => exact e3 _ (by omega) (by simpa using hj)
    · intro hn
      have := e4 (glo_next h3 _ hn (ok_nodup hk))
      simpa [labs, List.append_assoc] using this
theorem tabGo_bad : ∀ (xs : List Ob) (i e : Nat) (ss : List Nat) (ts : List Sy), (tabGo i e ss ts xs).e ≠ 0 → ∃ x u, tabGo i e ss ts xs = noTab x u ∧ i ≤ u ∧ u < i + xs.length
  | [], i, e, ss, ts, h => absurd rfl h
  | o :: os, i, e, ss, ts, h => by
    unfold tabGo at h ⊢
    by_cases h1 : okO o = false
    · rw [if_pos h1]; exact ⟨_, _, rfl, by omega, by simp⟩
    rw [if_neg h1] at h ⊢
    by_cases h2 : nextS e + o.bs.length > 65536
    · rw [if_pos h2]; exact ⟨_, _, rfl, by omega, by simp⟩
    rw [if_neg h2] at h ⊢
    by_cases h3 : dupS (gloS ts) o.sy = true
    · rw [if_pos h3]; exact ⟨_, _, rfl, by omega, by simp⟩
    rw [if_neg h3] at h ⊢
    obtain ⟨x, u, k1, k2, k3⟩ := tabGo_bad os _ _ _ _ h
    exact ⟨x, u, k1, by omega, by simp; omega⟩

theorem tab_good {xs : List Ob} (h : (tabL xs).e = 0) : xs.length ≤ 16 ∧ tabL xs = ⟨begs 0 xs, labs 0 xs, 0, 0⟩ ∧ (∀ x ∈ xs, okO x = true) ∧ (∀ j, j ≤ xs.length → endAt 0 xs j ≤ 65536) ∧ (gloS (labs 0 xs)).Nodup := by
  unfold tabL at h ⊢
  by_cases h1 : xs.length > 16
  · rw [if_pos h1] at h; cases h
  rw [if_neg h1] at h ⊢
  obtain ⟨e1, e2, e3, e4⟩ := tabGo_eq xs 0 0 [] [] h
  refine ⟨by omega, by simpa using e1, e2, fun j hj => ?_, by simpa using e4 List.nodup_nil⟩
  cases j with
  | zero => rw [endAt_zero]; omega
  | succ j => exact e3 _ (by omega) hj
theorem tab_bad {xs : List Ob} (h : (tabL xs).e ≠ 0) : (tabL xs).ss = [] ∧ (tabL xs).ts = [] ∧ ((tabL xs).u < xs.length ∨ xs.length = 0) := by
  unfold tabL at h ⊢
  by_cases h1 : xs.length > 16
  · rw [if_pos h1]; exact ⟨rfl, rfl, Or.inl (show 0 < xs.length by omega)⟩
  rw [if_neg h1] at h ⊢
  obtain ⟨x, u, k1, k2, k3⟩ := tabGo_bad xs 0 0 [] [] h
  rw [k1]
  exact ⟨rfl, rfl, Or.inl (show u < xs.length by omega)⟩

theorem find_nam : ∀ {L : List Sy} {x : Sy}, (names L).Nodup → x ∈ L → findN L x.name = some x.at_
  | y :: L, x, hn, hx => by
    unfold findN
    rw [List.find?_cons]
    have hn' : (y.name :: names L).Nodup := hn
    rw [List.nodup_cons] at hn'
    rcases List.mem_cons.1 hx with rfl | hx
    · simp
    · have hne : ¬ y.name = x.name := fun e => hn'.1 (by rw [e]; exact List.mem_map.2 ⟨x, hx, rfl⟩)
      rw [decide_eq_false hne]
      exact find_nam hn'.2 hx
theorem findN_none {L : List Sy} {s : ByteArray} (h : ∀ x ∈ L, ¬ x.name = s) : findN L s = none := by
  unfold findN
  rw [Option.map_eq_none_iff, List.find?_eq_none]
  intro x hx
  simp [h x hx]
theorem find_glo : ∀ {L : List Sy} {x : Sy}, (gloS L).Nodup → x ∈ L → x.g = true → findG L x.name = some x.at_
  | y :: L, x, hn, hx, hg => by
    unfold findG
    rw [List.find?_cons]
    have e1 : gloS (y :: L) = (if y.g = true then [y.name] else []) ++ gloS L := by
      unfold gloS
      rw [List.filter_cons]
      by_cases h : y.g = true
      · rw [if_pos h, if_pos h]; rfl
      · rw [if_neg h, if_neg h]; rfl
    rw [e1, List.nodup_append] at hn
    rcases List.mem_cons.1 hx with rfl | hx
    · simp [hg]
    · by_cases h : y.g = true
      · have hne : ¬ y.name = x.name := fun e => by
          rw [if_pos h] at hn
          refine hn.2.2 y.name (List.mem_singleton.2 rfl) x.name ?_ e
          unfold gloS
          exact List.mem_map.2 ⟨x, List.mem_filter.2 ⟨hx, hg⟩, rfl⟩
        rw [h, decide_eq_false hne]
        exact find_glo hn.2.1 hx hg
      · have h' : y.g = false := by simpa using h
        rw [h', Bool.false_and]
        exact find_glo hn.2.1 hx hg
theorem findG_app {A B : List Sy} {s : ByteArray} {a : Int} (h : findG A s = some a) : findG (A ++ B) s = some a := by
  unfold findG at h ⊢
  rw [List.find?_append]
  cases hf : A.find? (fun x => x.g && decide (x.name = s)) with
  | none => rw [hf] at h; cases h
  | some y => rw [hf] at h; simpa using h
theorem labs_mem : ∀ {xs : List Ob} {e i : Nat} (h : i < xs.length) {x : Sy}, x ∈ xs[i].sy → movS (nextS (endAt e xs i)) x ∈ labs e xs
  | o :: os, e, 0, _, x, hx => List.mem_append_left _ (List.mem_map.2 ⟨x, hx, by rw [endAt_zero]⟩)
  | o :: os, e, i + 1, h, x, hx => List.mem_append_right _ (labs_mem (xs := os) (i := i) (by simpa using h) hx)

/-- each label is found by its own unit -/
theorem res_own {xs : List Ob} (h : (tabL xs).e = 0) {i : Nat} (hi : i < xs.length) {x : Sy} (hx : x ∈ xs[i].sy) : resL xs i x.name = (((nextS (endAt 0 xs i) : Nat) : Int) + x.at_, 0) := by
  obtain ⟨-, ht, hk, -, -⟩ := tab_good h
  unfold resL
  rw [if_neg (by simpa using h), dif_pos ⟨Int.natCast_nonneg i, by exact_mod_cast hi⟩]
  have e1 : ((i : Int)).toNat = i := by simp
  simp only [e1]
  rw [find_nam (ok_nodup (hk _ (List.getElem_mem hi))) hx, ht]
  simp only
  rw [List.getD_eq_getElem?_getD, List.getElem?_eq_getElem (by rw [begs_len]; exact hi), Option.getD_some, begs_at xs 0 i hi]
/-- a global one by each unit that has none of its name -/
theorem res_glo {xs : List Ob} (h : (tabL xs).e = 0) {i k : Nat} (hi : i < xs.length) (hk : k < xs.length) {x : Sy} (hx : x ∈ xs[i].sy) (hg : x.g = true) (hn : ∀ y ∈ xs[k].sy, ¬ y.name = x.name) : resL xs k x.name = (((nextS (endAt 0 xs i) : Nat) : Int) + x.at_, 0) := by
  obtain ⟨-, ht, -, -, hnd⟩ := tab_good h
  unfold resL
  rw [if_neg (by simpa using h), dif_pos ⟨Int.natCast_nonneg k, by exact_mod_cast hk⟩]
  have e1 : ((k : Int)).toNat = k := by simp
  simp only [e1]
  rw [findN_none hn, ht]
  simp only
  have := find_glo hnd (labs_mem (e := 0) hi hx) hg
  rw [show x.name = (movS (nextS (endAt 0 xs i)) x).name from rfl, this]
  rfl

/-- what is put behind turns nothing ahead -/
theorem tabGo_ahead : ∀ (xs ys : List Ob) (i e : Nat) (ss : List Nat) (ts : List Sy), (tabGo i e ss ts (xs ++ ys)).e = 0 → (tabGo i e ss ts xs).e = 0
  | [], ys, i, e, ss, ts, _ => rfl
  | o :: os, ys, i, e, ss, ts, h => by
    rw [List.cons_append] at h
    unfold tabGo at h ⊢
    by_cases h1 : okO o = false
    · rw [if_pos h1] at h; cases h
    rw [if_neg h1] at h ⊢
    by_cases h2 : nextS e + o.bs.length > 65536
    · rw [if_pos h2] at h; cases h
    rw [if_neg h2] at h ⊢
    by_cases h3 : dupS (gloS ts) o.sy = true
    · rw [if_pos h3] at h; cases h
    rw [if_neg h3] at h ⊢
    exact tabGo_ahead os ys _ _ _ _ h
theorem tab_ahead {xs ys : List Ob} (h : (tabL (xs ++ ys)).e = 0) : (tabL xs).e = 0 := by
  have hl := (tab_good h).1
  rw [List.length_append] at hl
  unfold tabL at h ⊢
  rw [List.length_append, if_neg (by omega)] at h
  rw [if_neg (by omega)]
  exact tabGo_ahead xs ys _ _ _ _ h
theorem res_ahead {xs ys : List Ob} (h : (tabL (xs ++ ys)).e = 0) {u : Nat} (hu : u < xs.length) {s : ByteArray} (hr : (resL xs u s).2 = 0) : resL (xs ++ ys) u s = resL xs u s := by
  have h' := tab_ahead h
  obtain ⟨-, ht, -, -, -⟩ := tab_good h
  obtain ⟨-, ht', -, -, -⟩ := tab_good h'
  have e1 : ((u : Int)).toNat = u := by simp
  have hu2 : u < (xs ++ ys).length := by rw [List.length_append]; omega
  unfold resL at hr ⊢
  rw [if_neg (by simpa using h'), dif_pos ⟨Int.natCast_nonneg u, by exact_mod_cast hu⟩] at hr
  rw [if_neg (by simpa using h), dif_pos ⟨Int.natCast_nonneg u, by exact_mod_cast hu2⟩, if_neg (by simpa using h'), dif_pos ⟨Int.natCast_nonneg u, by exact_mod_cast hu⟩]
  simp only [e1, List.getElem_append_left hu] at hr ⊢
  rw [ht, ht'] at *
  cases hf : findN xs[u].sy s with
  | some a =>
    simp only
    rw [begs_app, List.getD_eq_getElem?_getD, List.getD_eq_getElem?_getD, List.getElem?_append_left (by rw [begs_len]; exact hu)]
  | none =>
    rw [hf] at hr
    simp only at hr ⊢
    cases hg : findG (labs 0 xs) s with
    | some a => rw [labs_app, findG_app hg]
    | none => rw [hg] at hr; exact absurd hr (by decide)

end Go.Proofs.YtgblohjdiheemaaGreat

/- The table of sites, as lists: P8.1 to P8.4. -/
namespace Go.Proofs.YtgblohjdiheemaaGreat
open Go.RowKit

structure Si where
  key : Int
  at_ : Int
  to_ : Int
deriving DecidableEq
/-- the place of the first such name, or how many there are -/
def idxK (ks : List ByteArray) (s : ByteArray) : Nat := ks.findIdx fun k => decide (k = s)
/-- P8.1: names as they first stand -/
def addK (ks : List ByteArray) (s : ByteArray) : List ByteArray := if inB s ks = true then ks else ks ++ [s]
def keysM (ks : List ByteArray) (M : List Mk) : List ByteArray := M.foldl (fun a m => addK a m.key) ks
def keysL (xs : List Ob) : List ByteArray := xs.foldl (fun a o => keysM a o.mk_) []
/-- does one site stand ahead of another one? -/
def ltS (a b : Si) : Bool := decide (a.key < b.key ∨ (a.key = b.key ∧ a.at_ < b.at_))
def farS (s : Si) : Bool := decide (s.to_ - (s.at_ + 5) > 4096 ∨ s.to_ - (s.at_ + 5) < -4096)
/-- the first site at a place -/
def atS (T : List Si) (a : Int) : Option Nat := T.findIdx? fun s => decide (s.at_ = a)
/-- what a mark makes of sites and keys, or its error -/
structure Mrg where
  si : List Si
  ks : List ByteArray
  e : Int
def stepS (s : Si) (ks : List ByteArray) (T : List Si) : Mrg :=
  match T.find? fun t => decide (t.at_ = s.at_) with
  | some t => if t = s then ⟨T, ks, 0⟩ else ⟨[], [], 180⟩
  | none => if farS s = true then ⟨[], [], 181⟩ else if T.length = 256 then ⟨[], [], 3⟩ else ⟨T ++ [s], ks, 0⟩
def stepM (res : ByteArray → Int × Int) (b : Nat) (T : List Si) (ks : List ByteArray) (m : Mk) : Mrg :=
  if 64 ≤ idxK (addK ks m.key) m.key then ⟨[], [], 3⟩
  else if (res m.to_).2 ≠ 0 then ⟨[], [], (res m.to_).2⟩
  else stepS ⟨(idxK (addK ks m.key) m.key : Nat), (b : Int) + m.at_, (res m.to_).1⟩ (addK ks m.key) T
def marksS (res : ByteArray → Int × Int) (b : Nat) (T : List Si) (ks : List ByteArray) : List Mk → Mrg
  | [] => ⟨T, ks, 0⟩
  | m :: M => if (stepM res b T ks m).e ≠ 0 then stepM res b T ks m else marksS res b (stepM res b T ks m).si (stepM res b T ks m).ks M
/-- unit by unit: sites in the order of their marks, keys, error, unit -/
structure MrgU where
  si : List Si
  ks : List ByteArray
  e : Int
  u : Nat
def unitsS (xs : List Ob) (i : Nat) (T : List Si) (ks : List ByteArray) : List Ob → MrgU
  | [] => ⟨T, ks, 0, 0⟩
  | o :: os =>
    if (marksS (resL xs i) ((tabL xs).ss.getD i 0) T ks o.mk_).e ≠ 0 then ⟨[], [], (marksS (resL xs i) ((tabL xs).ss.getD i 0) T ks o.mk_).e, i⟩
    else unitsS xs (i + 1) (marksS (resL xs i) ((tabL xs).ss.getD i 0) T ks o.mk_).si (marksS (resL xs i) ((tabL xs).ss.getD i 0) T ks o.mk_).ks os
/-- a site put where it belongs -/
def insS (s : Si) : List Si → List Si
  | [] => [s]
  | t :: L => if ltS s t = true then s :: t :: L else t :: insS s L
def sortS (T : List Si) : List Si := T.foldl (fun a s => insS s a) []
/-- P8.2 -/
def mergeL (xs : List Ob) : MrgU :=
  if (tabL xs).e ≠ 0 then ⟨[], [], (tabL xs).e, (tabL xs).u⟩
  else if (unitsS xs 0 [] [] xs).e ≠ 0 then unitsS xs 0 [] [] xs
  else ⟨sortS (unitsS xs 0 [] [] xs).si, (unitsS xs 0 [] [] xs).ks, 0, 0⟩
/-- P8.4 -/
def siteB (n : Int) (s : Si) : Bool := decide (0 ≤ s.key ∧ s.key < n ∧ 0 ≤ s.at_ ∧ s.at_ ≤ 65531 ∧ 0 ≤ s.to_ ∧ s.to_ ≤ 65536) && !farS s
def rightS (T : List Si) (n : Int) : Bool :=
  decide (0 ≤ n ∧ n ≤ 64 ∧ T.length ≤ 256) && T.all (siteB n) && decide (T.Pairwise fun a b => ltS a b = true) && decide (T.Pairwise fun a b => ¬ (b.at_ - a.at_ < 5 ∧ a.at_ - b.at_ < 5))

theorem ltS_trans {a b c : Si} (h1 : ltS a b = true) (h2 : ltS b c = true) : ltS a c = true := by
  unfold ltS at *
  simp only [decide_eq_true_eq] at *
  omega
theorem ltS_irrefl (a : Si) : ltS a a = false := by unfold ltS; simp
theorem ltS_asymm {a b : Si} (h : ltS a b = true) : ltS b a = false := by
  unfold ltS at *
  simp only [decide_eq_true_eq, decide_eq_false_iff_not] at *
  omega
theorem ltS_total {a b : Si} (h : a.at_ ≠ b.at_) (h1 : ltS a b = false) : ltS b a = true := by
  unfold ltS at *
  simp only [decide_eq_true_eq, decide_eq_false_iff_not] at *
  omega
theorem insS_perm (s : Si) : ∀ L : List Si, List.Perm (insS s L) (s :: L)
  | [] => .refl _
  | t :: L => by
    unfold insS
    by_cases h : ltS s t = true
    · rw [if_pos h]
    · rw [if_neg h]
      exact ((insS_perm s L).cons t).trans (.swap s t L)
theorem insS_sorted (s : Si) : ∀ L : List Si, L.Pairwise (fun a b => ltS a b = true) → (∀ t ∈ L, t.at_ ≠ s.at_) → (insS s L).Pairwise fun a b => ltS a b = true
  | [], _, _ => by simp [insS]
  | t :: L, h, hne => by
    rw [List.pairwise_cons] at h
    unfold insS
    by_cases hlt : ltS s t = true
    · rw [if_pos hlt, List.pairwise_cons, List.pairwise_cons]
      exact ⟨fun u hu => by
        rcases List.mem_cons.1 hu with rfl | hu
        · exact hlt
        · exact ltS_trans hlt (h.1 u hu), h⟩
    · rw [if_neg hlt, List.pairwise_cons]
      refine ⟨fun u hu => ?_, insS_sorted s L h.2 fun x hx => hne x (by simp [hx])⟩
      have hu' := (insS_perm s L).mem_iff.1 hu
      rcases List.mem_cons.1 hu' with rfl | hu'
      · exact ltS_total (fun e => hne t (by simp) e.symm) (by simpa using hlt)
      · exact h.1 u hu'
theorem foldl_ins : ∀ (T A : List Si), List.Perm (T.foldl (fun a s => insS s a) A) (A ++ T)
  | [], A => by simp
  | s :: T, A => by
    refine (foldl_ins T (insS s A)).trans ?_
    refine ((insS_perm s A).append_right T).trans ?_
    rw [List.cons_append]
    exact (List.perm_middle).symm
theorem sortS_perm (T : List Si) : List.Perm (sortS T) T := by simpa [sortS] using foldl_ins T []
theorem foldl_sorted : ∀ (T A : List Si), A.Pairwise (fun a b => ltS a b = true) → (A ++ T).Pairwise (fun a b => a.at_ ≠ b.at_) → (T.foldl (fun a s => insS s a) A).Pairwise fun a b => ltS a b = true
  | [], A, h, _ => h
  | s :: T, A, h, hd => by
    have h1 := List.pairwise_append.1 hd
    refine foldl_sorted T (insS s A) (insS_sorted s A h fun t ht => h1.2.2 t ht s (by simp)) ?_
    have hp : List.Perm (A ++ s :: T) (insS s A ++ T) := (List.perm_middle).trans ((insS_perm s A).symm.append_right T)
    exact (hp.pairwise_iff (fun {a b} (hab : a.at_ ≠ b.at_) => hab.symm)).1 hd
theorem sortS_sorted (T : List Si) (h : T.Pairwise fun a b => a.at_ ≠ b.at_) : (sortS T).Pairwise fun a b => ltS a b = true := foldl_sorted T [] .nil (by simpa using h)
/-- a sorted list of the same sites is that one -/
theorem sorted_same : ∀ (A B : List Si), A.Pairwise (fun a b => ltS a b = true) → B.Pairwise (fun a b => ltS a b = true) → List.Perm A B → A = B
  | [], B, _, _, hp => by rw [hp.nil_eq]
  | a :: A, B, hA, hB, hp => by
    cases B with
    | nil => exact absurd hp.length_eq (by simp)
    | cons b B =>
      rw [List.pairwise_cons] at hA hB
      have hab : a = b := by
        rcases List.mem_cons.1 (hp.mem_iff.1 (List.mem_cons_self (a := a))) with h | h
        · exact h
        · rcases List.mem_cons.1 (hp.mem_iff.2 (List.mem_cons_self (a := b))) with h' | h'
          · exact h'.symm
          · have h1 := hB.1 a h
            have h2 := hA.1 b h'
            rw [ltS_asymm h1] at h2
            cases h2
      subst hab
      rw [sorted_same A B hA.2 hB.2 (List.Perm.cons_inv hp)]

end Go.Proofs.YtgblohjdiheemaaGreat

/- Ours: what watch tells of a list of events, as lists. -/
namespace Go.Proofs.YtgblohjdiheemaaGreat
open Go.RowKit

/-- an event, whole -/
structure Fv where
  k : Int
  st : Int
  h : Int
  p : Int
  o : Int
  ky : Int
  n : Int
abbrev evV (x : Fv) : Value := .agg #[.int .u8 x.k, .int .i64 x.st, .int .i64 x.h, .int .i64 x.p, .int .u8 x.o, .int .i64 x.ky, .int .i64 x.n]
abbrev evA (x : Fv) : Array Value := #[.int .u8 x.k, .int .i64 x.st, .int .i64 x.h, .int .i64 x.p, .int .u8 x.o, .int .i64 x.ky, .int .i64 x.n]
def fE : Fm Fv where
  k := 7
  f := fun x => [.int .u8 x.k, .int .i64 x.st, .int .i64 x.h, .int .i64 x.p, .int .u8 x.o, .int .i64 x.ky, .int .i64 x.n]
  pos := by decide
  len := fun _ => rfl
  one := fun x u hu => by
    simp only [List.mem_cons, List.not_mem_nil, or_false] at hu
    rcases hu with rfl | rfl | rfl | rfl | rfl | rfl | rfl <;> rfl
/-- its seven cells -/
theorem ev7 {w : World} {p : Option Addr} {L : List Fv} (h : KRow fE w p L) (h0 : 0 < L.length) : ∃ b o, p = some ⟨b, o, none⟩ ∧ ∀ i (hi : i < L.length), w.cell? ⟨b, o + i * 7, none⟩ = some (.int .u8 L[i].k) ∧ w.cell? ⟨b, o + i * 7 + 1, none⟩ = some (.int .i64 L[i].st) ∧ w.cell? ⟨b, o + i * 7 + 2, none⟩ = some (.int .i64 L[i].h) ∧ w.cell? ⟨b, o + i * 7 + 3, none⟩ = some (.int .i64 L[i].p) ∧ w.cell? ⟨b, o + i * 7 + 4, none⟩ = some (.int .u8 L[i].o) ∧ w.cell? ⟨b, o + i * 7 + 5, none⟩ = some (.int .i64 L[i].ky) ∧ w.cell? ⟨b, o + i * 7 + 6, none⟩ = some (.int .i64 L[i].n) := by
  obtain ⟨b, o, e, hc⟩ := h h0
  refine ⟨b, o, e, fun i hi => ?_⟩
  have h := fun j (hj : j < 7) => hc i hi j hj
  exact ⟨h 0 (by omega), h 1 (by omega), h 2 (by omega), h 3 (by omega), h 4 (by omega), h 5 (by omega), h 6 (by omega)⟩
/-- what a hart does where a site might be -/
def dd (x : Fv) : Int := if x.k = 3 then 3 else if x.k = 2 ∧ x.o = 3 then 1 else if x.k = 2 ∧ x.o = 11 then 2 else 0
/-- is this the new one? -/
def nwB (c : Option Int) (d : Int) : Bool := match c with
  | none => d != 1
  | some n => if n = 1 then d != 1 else d != 2
/-- the last call of a key -/
def callL : List Fv → Int → Option Int
  | [], _ => none
  | x :: l, key => match callL l key with
    | some n => some n
    | none => if x.k = 8 ∧ x.ky = key then some x.n else none
theorem callL_snoc (l : List Fv) (x : Fv) (key : Int) : callL (l ++ [x]) key = if x.k = 8 ∧ x.ky = key then some x.n else callL l key := by
  induction l with
  | nil => simp [callL]
  | cons y l ih =>
    rw [List.cons_append]
    unfold callL
    rw [ih]
    by_cases h : x.k = 8 ∧ x.ky = key
    · rw [if_pos h, if_pos h]
    · rw [if_neg h, if_neg h]
/-- old ones, new ones, whether an old one stands behind a new one -/
structure Ct where
  o : Nat
  n : Nat
  m : Bool
def stepC (c : Option Int) (h a : Int) (v : Ct) (x : Fv) : Ct :=
  if x.h = h ∧ x.p = a ∧ dd x ≠ 0 then (if nwB c (dd x) then { v with n := v.n + 1 } else { v with o := v.o + 1, m := v.m || decide (0 < v.n) }) else v
def cntC (c : Option Int) (h a : Int) (L : List Fv) : Ct := L.foldl (stepC c h a) ⟨0, 0, false⟩
theorem cntC_snoc (c : Option Int) (h a : Int) (L : List Fv) (x : Fv) : cntC c h a (L ++ [x]) = stepC c h a (cntC c h a L) x := by simp [cntC]
theorem cntC_le (c : Option Int) (h a : Int) (L : List Fv) : (cntC c h a L).o + (cntC c h a L).n ≤ L.length := by
  suffices H : ∀ (L : List Fv) (v : Ct), (L.foldl (stepC c h a) v).o + (L.foldl (stepC c h a) v).n ≤ L.length + (v.o + v.n) by
    have := H L ⟨0, 0, false⟩
    simpa [cntC] using this
  intro L
  induction L with
  | nil => intro v; simp
  | cons x L ih =>
    intro v
    rw [List.foldl_cons]
    have := ih (stepC c h a v x)
    have h2 : (stepC c h a v x).o + (stepC c h a v x).n ≤ v.o + v.n + 1 := by
      unfold stepC
      split
      · split <;> simp <;> omega
      · omega
    simp only [List.length_cons]
    omega
theorem cntC_pos {c : Option Int} {h a : Int} {L : List Fv} (h0 : 0 < (cntC c h a L).o + (cntC c h a L).n) : ∃ x ∈ L, x.h = h ∧ x.p = a ∧ dd x ≠ 0 := by
  suffices H : ∀ (L : List Fv) (v : Ct), v.o + v.n < (L.foldl (stepC c h a) v).o + (L.foldl (stepC c h a) v).n → ∃ x ∈ L, x.h = h ∧ x.p = a ∧ dd x ≠ 0 by
    exact H L ⟨0, 0, false⟩ h0
  intro L
  induction L with
  | nil => intro v hv; exact absurd hv (Nat.lt_irrefl _)
  | cons x L ih =>
    intro v hv
    by_cases hx : x.h = h ∧ x.p = a ∧ dd x ≠ 0
    · exact ⟨x, List.mem_cons_self, hx⟩
    · rw [List.foldl_cons, show stepC c h a v x = v by unfold stepC; rw [if_neg hx]] at hv
      obtain ⟨y, hy, h2⟩ := ih v hv
      exact ⟨y, List.mem_cons_of_mem _ hy, h2⟩
theorem cntC_grows (c : Option Int) (h a : Int) (L : List Fv) (x : Fv) : (cntC c h a L).o + (cntC c h a L).n ≤ (cntC c h a (L ++ [x])).o + (cntC c h a (L ++ [x])).n := by
  rw [cntC_snoc]
  unfold stepC
  split
  · split <;> simp <;> omega
  · exact Nat.le_refl _
/-- harts, rising -/
def insH : List Int → Int → List Int
  | [], z => [z]
  | y :: l, z => if y < z then y :: insH l z else if y = z then y :: l else z :: y :: l
def hartsL : List Fv → List Int
  | [] => []
  | l => l.foldl (fun a x => insH a x.h) []
theorem insH_mem : ∀ (l : List Int) (z x : Int), x ∈ insH l z ↔ x = z ∨ x ∈ l
  | [], z, x => by simp [insH]
  | y :: l, z, x => by
    have ih := insH_mem l z x
    unfold insH
    split
    · rw [List.mem_cons, ih, List.mem_cons]
      constructor
      · rintro (h | h | h)
        · exact .inr (.inl h)
        · exact .inl h
        · exact .inr (.inr h)
      · rintro (h | h | h)
        · exact .inr (.inl h)
        · exact .inl h
        · exact .inr (.inr h)
    · split
      · rename_i h
        subst h
        simp
      · simp
theorem insH_rise : ∀ (l : List Int) (z : Int), l.Pairwise (· < ·) → (insH l z).Pairwise (· < ·)
  | [], z, _ => by simp [insH]
  | y :: l, z, h => by
    obtain ⟨h1, h2⟩ := List.pairwise_cons.1 h
    unfold insH
    split
    · rename_i hyz
      refine List.pairwise_cons.2 ⟨fun q hq => ?_, insH_rise l z h2⟩
      rcases (insH_mem l z q).1 hq with rfl | hq
      · exact hyz
      · exact h1 q hq
    · split
      · exact h
      · rename_i a b
        refine List.pairwise_cons.2 ⟨fun q hq => ?_, h⟩
        rcases List.mem_cons.1 hq with rfl | hq
        · omega
        · have := h1 q hq; omega
theorem hartsL_eq (l : List Fv) : hartsL l = l.foldl (fun a x => insH a x.h) [] := by cases l <;> rfl
theorem hartsL_rise (l : List Fv) : (hartsL l).Pairwise (· < ·) := by
  rw [hartsL_eq]
  suffices H : ∀ (l : List Fv) (a : List Int), a.Pairwise (· < ·) → (l.foldl (fun a x => insH a x.h) a).Pairwise (· < ·) from H l [] .nil
  intro l
  induction l with
  | nil => intro a ha; exact ha
  | cons x l ih => intro a ha; exact ih _ (insH_rise a x.h ha)
theorem hartsL_mem (l : List Fv) (z : Int) : z ∈ hartsL l ↔ ∃ x ∈ l, x.h = z := by
  rw [hartsL_eq]
  suffices H : ∀ (l : List Fv) (a : List Int), z ∈ l.foldl (fun a x => insH a x.h) a ↔ (z ∈ a ∨ ∃ x ∈ l, x.h = z) by simpa using H l []
  intro l
  induction l with
  | nil => intro a; simp
  | cons x l ih =>
    intro a
    rw [List.foldl_cons, ih, insH_mem]
    constructor
    · rintro ((h | h) | ⟨y, hy, h⟩)
      · exact .inr ⟨x, List.mem_cons_self, h.symm⟩
      · exact .inl h
      · exact .inr ⟨y, List.mem_cons_of_mem _ hy, h⟩
    · rintro (h | ⟨y, hy, h⟩)
      · exact .inl (.inr h)
      · rcases List.mem_cons.1 hy with rfl | hy
        · exact .inl (.inl h.symm)
        · exact .inr ⟨y, hy, h⟩
instance : Inhabited Si := ⟨⟨0, 0, 0⟩⟩
/-- the count of a hart at a site -/
def ctS (si : List Si) (L : List Fv) (h : Int) (i : Nat) : Ct := cntC (callL L (si.getD i default).key) h (si.getD i default).at_ L
/-- a hart's and a site's view -/
def vw1 (si : List Si) (L : List Fv) (h : Int) (i : Nat) : Vw := ⟨h, i, (ctS si L h i).o, (ctS si L h i).n, (ctS si L h i).m⟩
def rowV (si : List Si) (L : List Fv) (h : Int) : List Vw := (List.range si.length).filterMap fun i => if 0 < (ctS si L h i).o + (ctS si L h i).n then some (vw1 si L h i) else none
/-- P23.1, of a right image -/
def viewsL (si : List Si) (L : List Fv) : List Vw := (hartsL L).flatMap (rowV si L)
/-- P23.2 -/
def outsL (L : List Fv) (h : Int) : List Int := L.filterMap fun x => if x.k = 5 ∧ x.h = h then some (x.n % 4294967296) else none
/-- P23.3 -/
structure Cn where
  s : Nat
  w : Nat
  r : Nat
def chg (c : Cn) (x : Fv) : Cn := if x.k = 11 then { c with r := c.r + 1 } else if x.k = 10 then (if x.n = 4 then { c with w := c.w + 1, s := c.s + 1 } else { c with w := c.w + 1 }) else c
def swStep (a : List Cn) (x : Fv) : List Cn := if x.k = 8 then a ++ [⟨0, 0, 0⟩] else if a = [] then [] else a.set (a.length - 1) (chg (a.getD (a.length - 1) ⟨0, 0, 0⟩) x)
def switchL (L : List Fv) : List Cn := L.foldl swStep []
/-- P23.4 -/
def btwStep (h a : Int) (v : Nat × Nat) (x : Fv) : Nat × Nat := if x.h = h ∧ x.p = a then (if dd x = 1 then (v.1 + 1, v.2) else if dd x = 2 ∨ dd x = 3 then (v.1, v.2 + 1) else v) else v
def btwL (h a : Int) (L : List Fv) : Nat × Nat := L.foldl (btwStep h a) (0, 0)
theorem btwL_snoc (h a : Int) (L : List Fv) (x : Fv) : btwL h a (L ++ [x]) = btwStep h a (btwL h a L) x := by simp [btwL]
theorem switchL_snoc (L : List Fv) (x : Fv) : switchL (L ++ [x]) = swStep (switchL L) x := by simp [switchL]
end Go.Proofs.YtgblohjdiheemaaGreat

/- Ours: watch's small tests: deedOf, isNew, with. -/
namespace Go.Proofs.YtgblohjdiheemaaGreat
open Go.RowKit Go.Maps

set_option maxHeartbeats 1000000 in
theorem deed_any (x : Fv) (w : World) : Calls Tryz.prog 34 #[evV x] w fun e w' => e = .returned (.int .u8 (dd x)) ∧ Below w.heap.size w w' := by
  obtain ⟨k, st, h, p, o, ky, n⟩ := x
  by_cases h3 : k = 3
  · have HD : Hid (dd ⟨k, st, h, p, o, ky, n⟩ = 3) := by show dd _ = 3; unfold dd; rw [if_pos h3]
    rw [HD.out]
    subst h3
    go_enter Tryz.func34, Tryz.ntmps34
    go_wp2_with fail
    go_ret
    exact ⟨rfl, new_alloc _ _⟩
  · have e3 : (k == 3) = false := by simpa using h3
    by_cases h2 : k = 2
    · subst h2
      by_cases o1 : o = 3
      · have HD : Hid (dd ⟨2, st, h, p, o, ky, n⟩ = 1) := by show dd _ = 1; simp [dd, o1]
        rw [HD.out]
        subst o1
        go_enter Tryz.func34, Tryz.ntmps34
        go_wp2_with fail
        go_ret
        exact ⟨rfl, new_alloc _ _⟩
      · have e4 : (o == 3) = false := by simpa using o1
        by_cases o2 : o = 11
        · have HD : Hid (dd ⟨2, st, h, p, o, ky, n⟩ = 2) := by show dd _ = 2; simp [dd, o2]
          rw [HD.out]
          subst o2
          go_enter Tryz.func34, Tryz.ntmps34
          go_wp2_with fail
          go_ret
          exact ⟨rfl, new_alloc _ _⟩
        · have e5 : (o == 11) = false := by simpa using o2
          have HD : Hid (dd ⟨2, st, h, p, o, ky, n⟩ = 0) := by show dd _ = 0; simp [dd, o1, o2]
          rw [HD.out]
          clear o1 o2 h3
          go_enter Tryz.func34, Tryz.ntmps34
          go_wp2_with fail
          go_ret
          exact ⟨rfl, new_alloc _ _⟩
    · have e2 : (k == 2) = false := by simpa using h2
      have HD : Hid (dd ⟨k, st, h, p, o, ky, n⟩ = 0) := by show dd _ = 0; unfold dd; rw [if_neg h3, if_neg (by simp [h2]), if_neg (by simp [h2])]
      rw [HD.out]
      clear h2 h3
      go_enter Tryz.func34, Tryz.ntmps34
      go_wp2_with fail
      go_ret
      exact ⟨rfl, new_alloc _ _⟩
theorem dd_u8 (x : Fv) : 0 ≤ dd x ∧ dd x ≤ 3 := by unfold dd; split <;> (try split) <;> (try split) <;> omega
set_option maxHeartbeats 1000000 in
/-- isNew: what the last calls say -/
theorem isNew_any (w : World) (b n : Nat) (f : Int → Option Int) (hm : MapK mC w b n f) (d key : Int) (hk : i64P key) :
    Calls Tryz.prog 36 #[.int .u8 d, .map (some b), .int .i64 key] w fun e w' => e = .returned (.bool (nwB (f key) d)) ∧ w' = w := by
  have hl := (hm.look key hk w rfl).1
  have HF : Hid (∃ c, f key = c) := ⟨_, rfl⟩
  cases hf : f key with
  | none =>
    rw [hf] at hl
    have hl' : (Instr.lookup 73 (.map (some b)) (.int .i64 key) true).run Tryz.prog w = .ok (.tuple #[.int .i64 0, .bool false]) w := hl
    clear hl hm HF hf
    have HR : Hid (nwB none d = (d != 1)) := rfl
    rw [HR.out]
    go_enter Tryz.func36, Tryz.ntmps36
    go_wp2_with fail
    go_ret
    exact ⟨rfl, rfl⟩
  | some c =>
    rw [hf] at hl
    have hl' : (Instr.lookup 73 (.map (some b)) (.int .i64 key) true).run Tryz.prog w = .ok (.tuple #[.int .i64 c, .bool true]) w := hl
    clear hl hm HF hf
    by_cases h1 : c = 1
    · have HR : Hid (nwB (some c) d = (d != 1)) := by show (if c = 1 then (d != 1) else (d != 2)) = (d != 1); rw [if_pos h1]
      rw [HR.out]
      subst h1
      go_enter Tryz.func36, Tryz.ntmps36
      go_wp2_with fail
      go_ret
      exact ⟨rfl, rfl⟩
    · have e1 : (c == 1) = false := by simpa using h1
      have HR : Hid (nwB (some c) d = (d != 2)) := by show (if c = 1 then (d != 1) else (d != 2)) = (d != 2); rw [if_neg h1]
      rw [HR.out]
      clear h1
      go_enter Tryz.func36, Tryz.ntmps36
      go_wp2_with fail
      go_ret
      exact ⟨rfl, rfl⟩
/-- a view with one more -/
def withV (v : Vw) (b : Bool) : Vw := if b = true then { v with n := v.n + 1 } else { v with o := v.o + 1, m := v.m || decide (0 < v.n) }
abbrev vwA (x : Vw) : Array Value := #[.int .i64 x.h, .int .i64 x.s, .int .i64 x.o, .int .i64 x.n, .bool x.m]
abbrev vwZ : Array Value := #[.int .i64 0, .int .i64 0, .int .i64 0, .int .i64 0, .bool false]
theorem Tryz.sz39 : (Tryz.prog.info? 39).map (·.size) = some 5 := by kernel_rfl
theorem res35 {tmps : Array Value} {W : World} {R : Nat} {x : Vw} (h : Blk W R 39 (vwA x)) (h2 : tmps.getD 4 undef = .pointer (some ⟨R, 0, none⟩)) :
    (results Tryz.f35 tmps).run Tryz.prog W = .ok (vwV x) W := by
  have hld : (loadVar 39 ⟨R, 0, none⟩).run Tryz.prog W = .ok (vwV x) W := run_loadVar_mid W R 0 39 [.int .i64 x.h, .int .i64 x.s, .int .i64 x.o, .int .i64 x.n, .bool x.m] _ h.range Tryz.underlying39 rfl Tryz.sz39
  simp only [Array.getD_eq_getD_getElem?] at h2
  simp [results, asAddr, hld, h2]
set_option maxHeartbeats 1000000 in
theorem with_any (v : Vw) (b : Bool) (w : World) (h1 : 0 ≤ v.o ∧ v.o ≤ 1000000) (h2 : 0 ≤ v.n ∧ v.n ≤ 1000000) :
    Calls Tryz.prog 35 #[.agg (vwA v), .bool b] w fun e w' => e = .returned (vwV (withV v b)) ∧ Below w.heap.size w w' := by
  have e1 : IntKind.i64.wrap (v.o + 1) = v.o + 1 := by rw [IntKind.wrap_i64]; omega
  have e2 : IntKind.i64.wrap (v.n + 1) = v.n + 1 := by rw [IntKind.wrap_i64]; omega
  have hA := (Blk.new w 39 (vwA v)).grow (new_alloc _ (.cells vwZ 39))
  have hZ := Blk.new (w.alloc (.cells (vwA v) 39)) 39 vwZ
  rw [size_one] at hZ
  have hB : Below w.heap.size w ((w.alloc (.cells (vwA v) 39)).alloc (.cells vwZ 39)) := below_alloc (new_alloc w _) _
  have hs : ((w.alloc (.cells (vwA v) 39)).alloc (.cells vwZ 39)).heap.size = w.heap.size + 2 := by rw [size_one, size_one]
  cases b with
  | true =>
    have HR : Hid (withV v true = { v with n := v.n + 1 }) := rfl
    rw [HR.out]
    go_enter Tryz.func35, Tryz.ntmps35
    go_upto_region 1 with fail
    generalize (w.alloc (.cells (vwA v) 39)).alloc (.cells vwZ 39) = w0 at *
    have HA := Hid.in hA
    have HZ := Hid.in hZ
    have HB := Hid.in hB
    have c3 : w0.cell? ⟨w.heap.size, 3, none⟩ = some (.int .i64 v.n) := hA.cell 3
    have f3 : w0.frozen? ⟨w.heap.size, 3, none⟩ = false := hA.free 3
    clear hA hZ hB
    go_upto_region 3 with fail
    have HA1 : Hid (Blk (w0.setCell ⟨w.heap.size, 3, none⟩ (.int .i64 (v.n + 1))) w.heap.size 39 (vwA { v with n := v.n + 1 })) := HA.out.set 3 (.int .i64 (v.n + 1))
    have HZ1 := Hid.in (HZ.out.other (by omega : w.heap.size + 1 ≠ w.heap.size) 3 (.int .i64 (v.n + 1)))
    have HB1 := Hid.in (HB.out.setCell (p := ⟨w.heap.size, 3, none⟩) (Nat.le_refl _) (.int .i64 (v.n + 1)))
    clear c3 f3
    generalize w0.setCell ⟨w.heap.size, 3, none⟩ (.int .i64 (v.n + 1)) = w1 at *
    go_wp2_with (first
      | (refine step_load_blk HA1.out rfl 39 _ rfl rfl (vwA { v with n := v.n + 1 }) (List.prefix_refl _) _ Tryz.underlying39 rfl Tryz.sz39 ?_)
      | (refine step_store_blk HZ1.out rfl 39 _ _ rfl rfl rfl (vwA { v with n := v.n + 1 }) rfl Tryz.sz39 rfl (by kernel_rfl) ?_; intro w2 hb2 hg2; refine Hid.out ?_))
    refine Lib.hid ?_
    go_wp2_with fail
    exact bodyPost_ret (res35 hb2 rfl) rfl ⟨rfl, HB1.out.grown hg2 HB1.out.size (fun k e => by cases e; omega)⟩
  | false =>
    have HM : Hid ((v.m || decide (0 < v.n)) = (v.m || decide (0 < v.n))) := rfl
    have HR : Hid (withV v false = { v with o := v.o + 1, m := v.m || decide (0 < v.n) }) := rfl
    rw [HR.out]
    go_enter Tryz.func35, Tryz.ntmps35
    go_upto_region 1 with fail
    generalize (w.alloc (.cells (vwA v) 39)).alloc (.cells vwZ 39) = w0 at *
    have HA := Hid.in hA
    have HZ := Hid.in hZ
    have HB := Hid.in hB
    have c2 : w0.cell? ⟨w.heap.size, 2, none⟩ = some (.int .i64 v.o) := hA.cell 2
    have f2 : w0.frozen? ⟨w.heap.size, 2, none⟩ = false := hA.free 2
    clear hA hZ hB
    go_upto_region 5 with fail
    have HA1 : Hid (Blk (w0.setCell ⟨w.heap.size, 2, none⟩ (.int .i64 (v.o + 1))) w.heap.size 39 (vwA { v with o := v.o + 1 })) := HA.out.set 2 (.int .i64 (v.o + 1))
    have HZ1 := Hid.in (HZ.out.other (by omega : w.heap.size + 1 ≠ w.heap.size) 2 (.int .i64 (v.o + 1)))
    have HB1 := Hid.in (HB.out.setCell (p := ⟨w.heap.size, 2, none⟩) (Nat.le_refl _) (.int .i64 (v.o + 1)))
    clear c2 f2
    generalize w0.setCell ⟨w.heap.size, 2, none⟩ (.int .i64 (v.o + 1)) = w1 at *
    have c3 : w1.cell? ⟨w.heap.size, 3, none⟩ = some (.int .i64 v.n) := HA1.out.cell 3
    have c4 : w1.cell? ⟨w.heap.size, 4, none⟩ = some (.bool v.m) := HA1.out.cell 4
    have f4 : w1.frozen? ⟨w.heap.size, 4, none⟩ = false := HA1.out.free 4
    have HX : Hid (∀ r : Bool, r = (v.m || decide (0 < v.n)) → Blk (w1.setCell ⟨w.heap.size, 4, none⟩ (.bool r)) w.heap.size 39 (vwA { v with o := v.o + 1, m := v.m || decide (0 < v.n) })) := fun r e => by rw [e]; exact HA1.out.set 4 _
    have HY := Hid.in (fun r : Bool => HZ1.out.other (by omega : w.heap.size + 1 ≠ w.heap.size) 4 (.bool r))
    have HW := Hid.in (fun r : Bool => HB1.out.setCell (p := ⟨w.heap.size, 4, none⟩) (Nat.le_refl _) (.bool r))
    cases hm : v.m with
    | true =>
      rw [hm] at c4
      have HX1 := Hid.in (HX.out true (by rw [hm]; rfl))
      have HY1 := Hid.in (HY.out true)
      have HW1 := Hid.in (HW.out true)
      clear hm HX HY HW HM HA HZ HB HA1 HZ1 HB1
      go_upto_region 6 with fail
      clear c3 c4 f4
      generalize w1.setCell ⟨w.heap.size, 4, none⟩ (.bool true) = w3 at *
      go_wp2_with (first
        | (refine step_load_blk HX1.out rfl 39 _ rfl rfl (vwA { v with o := v.o + 1, m := v.m || decide (0 < v.n) }) (List.prefix_refl _) _ Tryz.underlying39 rfl Tryz.sz39 ?_)
        | (refine step_store_blk HY1.out rfl 39 _ _ rfl rfl rfl (vwA { v with o := v.o + 1, m := v.m || decide (0 < v.n) }) rfl Tryz.sz39 rfl (by kernel_rfl) ?_; intro w2 hb2 hg2; refine Hid.out ?_))
      refine Lib.hid ?_
      go_wp2_with fail
      exact bodyPost_ret (res35 hb2 rfl) rfl ⟨rfl, HW1.out.grown hg2 HW1.out.size (fun k e => by cases e; omega)⟩
    | false =>
      rw [hm] at c4
      have HX1 := Hid.in (HX.out (decide (0 < v.n)) (by rw [hm]; rfl))
      have HY1 := Hid.in (HY.out (decide (0 < v.n)))
      have HW1 := Hid.in (HW.out (decide (0 < v.n)))
      clear hm HX HY HW HM HA HZ HB HA1 HZ1 HB1
      go_upto_region 6 with fail
      clear c3 c4 f4
      generalize w1.setCell ⟨w.heap.size, 4, none⟩ (.bool (decide (0 < v.n))) = w3 at *
      go_wp2_with (first
        | (refine step_load_blk HX1.out rfl 39 _ rfl rfl (vwA { v with o := v.o + 1, m := v.m || decide (0 < v.n) }) (List.prefix_refl _) _ Tryz.underlying39 rfl Tryz.sz39 ?_)
        | (refine step_store_blk HY1.out rfl 39 _ _ rfl rfl rfl (vwA { v with o := v.o + 1, m := v.m || decide (0 < v.n) }) rfl Tryz.sz39 rfl (by kernel_rfl) ?_; intro w2 hb2 hg2; refine Hid.out ?_))
      refine Lib.hid ?_
      go_wp2_with fail
      exact bodyPost_ret (res35 hb2 rfl) rfl ⟨rfl, HW1.out.grown hg2 HW1.out.size (fun k e => by cases e; omega)⟩
end Go.Proofs.YtgblohjdiheemaaGreat

/- symbols.lookFor, by its two closures; symbols.Find. -/
namespace Go.Proofs.YtgblohjdiheemaaGreat
open Go.RowKit

def meantG (s : ByteArray) (x : Sy) : Bool := x.g && decide (x.name = s)
def meantN (s : ByteArray) (x : Sy) : Bool := decide (x.name = s)
theorem findG_eq (t : List Sy) (s : ByteArray) : findG t s = (t.find? (meantG s)).map Sy.at_ := rfl
theorem findN_eq (t : List Sy) (s : ByteArray) : findN t s = (t.find? (meantN s)).map Sy.at_ := rfl
/-- the number of the first that is meant -/
def idxG (P : Sy → Bool) : Nat → List Sy → Int
  | _, [] => -1
  | i, x :: L => if P x = true then (i : Int) else idxG P (i + 1) L
theorem idx_step (P : Sy → Bool) (L : List Sy) (k : Nat) (h : k < L.length) : idxG P k (L.drop k) = if P L[k] = true then (k : Int) else idxG P (k + 1) (L.drop (k + 1)) := by
  rw [List.drop_eq_getElem_cons h]; rfl
theorem idx_go (P : Sy → Bool) : ∀ (L : List Sy) (j : Nat), (idxG P j L = -1 ∧ L.find? P = none) ∨ ∃ i, ∃ h : i < L.length, idxG P j L = ((j + i : Nat) : Int) ∧ L.find? P = some L[i]
  | [], _ => .inl ⟨rfl, rfl⟩
  | x :: L, j => by
    by_cases hx : P x = true
    · refine .inr ⟨0, by simp, ?_, ?_⟩
      · unfold idxG; rw [if_pos hx]; rfl
      · rw [List.find?_cons, hx]; rfl
    · rcases idx_go P L (j + 1) with ⟨h1, h2⟩ | ⟨i, hi, h1, h2⟩
      · refine .inl ⟨?_, ?_⟩
        · unfold idxG; rw [if_neg hx]; exact h1
        · rw [List.find?_cons, (by simpa using hx : P x = false)]; exact h2
      · refine .inr ⟨i + 1, by simpa using hi, ?_, ?_⟩
        · unfold idxG; rw [if_neg hx, h1]; omega
        · rw [List.find?_cons, (by simpa using hx : P x = false)]; exact h2
theorem idx_find (P : Sy → Bool) (L : List Sy) : (idxG P 0 L = -1 ∧ L.find? P = none) ∨ ∃ i, ∃ h : i < L.length, idxG P 0 L = (i : Int) ∧ L.find? P = some L[i] := by
  rcases idx_go P L 0 with h | ⟨i, hi, h1, h2⟩
  · exact .inl h
  · exact .inr ⟨i, hi, by rw [h1, Nat.zero_add], h2⟩
theorem text_ne7 {s t : ByteArray} (h : ¬ s = t) : ¬ s.toList = t.toList := fun e => h (by
  rw [toList_eq, toList_eq] at e
  exact ByteArray.ext (Array.toList_inj.1 e))

end Go.Proofs.YtgblohjdiheemaaGreat
