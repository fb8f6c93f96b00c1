/- What a table is, unit by unit: where units begin and end, their labels, and that each is found (lists alone). -/
import Derived.Test.YtkpieeldoielgaaTabW
namespace Go.Proofs.Ytkpieeldoielgaa
open Go.RowKit

/-- where the unit ahead of the one at i ends -/
def endAt : Nat → List Ob → Nat → Nat
  | e, _, 0 => e
  | e, [], _ + 1 => e
  | e, o :: os, i + 1 => endAt (nextS e + o.bs.length) os i
def begs : Nat → List Ob → List Nat
  | _, [] => []
  | e, o :: os => nextS e :: begs (nextS e + o.bs.length) os
def labs : Nat → List Ob → List Sy
  | _, [] => []
  | e, o :: os => o.sy.map (movS (nextS e)) ++ labs (nextS e + o.bs.length) os
/-- how many labels the units ahead of the one at i have -/
def cntAt : List Ob → Nat → Nat
  | _, 0 => 0
  | [], _ + 1 => 0
  | o :: os, i + 1 => o.sy.length + cntAt os i

theorem endAt_zero (e : Nat) (xs : List Ob) : endAt e xs 0 = e := by cases xs <;> rfl
theorem cntAt_zero (xs : List Ob) : cntAt xs 0 = 0 := by cases xs <;> rfl
theorem begs_len : ∀ (xs : List Ob) (e : Nat), (begs e xs).length = xs.length
  | [], _ => rfl
  | o :: os, e => by simp [begs, begs_len os]
theorem begs_at : ∀ (xs : List Ob) (e i : Nat) (h : i < xs.length), (begs e xs)[i]'(by rw [begs_len]; exact h) = nextS (endAt e xs i)
  | o :: os, e, 0, _ => rfl
  | o :: os, e, i + 1, h => begs_at os _ i (by simpa using h)
theorem endAt_succ : ∀ (xs : List Ob) (e i : Nat) (h : i < xs.length), endAt e xs (i + 1) = nextS (endAt e xs i) + xs[i].bs.length
  | o :: os, e, 0, _ => endAt_zero (nextS e + o.bs.length) os
  | o :: os, e, i + 1, h => endAt_succ os _ i (by simpa using h)
theorem cntAt_succ : ∀ (xs : List Ob) (i : Nat) (h : i < xs.length), cntAt xs (i + 1) = cntAt xs i + xs[i].sy.length
  | o :: os, 0, _ => by show o.sy.length + cntAt os 0 = 0 + o.sy.length; rw [cntAt_zero]; omega
  | o :: os, i + 1, h => by
    show o.sy.length + cntAt os (i + 1) = o.sy.length + cntAt os i + (os[i]'(by simpa using h)).sy.length
    rw [cntAt_succ os i (by simpa using h)]; omega
theorem labs_len : ∀ (xs : List Ob) (e : Nat), (labs e xs).length = cntAt xs xs.length
  | [], _ => rfl
  | o :: os, e => by
    show (o.sy.map (movS (nextS e)) ++ labs (nextS e + o.bs.length) os).length = o.sy.length + cntAt os os.length
    rw [List.length_append, List.length_map, labs_len os]
theorem cntAt_le : ∀ (xs : List Ob) (i : Nat), i ≤ xs.length → cntAt xs i ≤ cntAt xs xs.length
  | _, 0, _ => by rw [cntAt_zero]; exact Nat.zero_le _
  | o :: os, i + 1, h => by
    show o.sy.length + cntAt os i ≤ o.sy.length + cntAt os os.length
    have := cntAt_le os i (by simpa using h); omega
theorem labs_at : ∀ (xs : List Ob) (e i j : Nat) (h : i < xs.length) (hj : j < xs[i].sy.length), (labs e xs)[cntAt xs i + j]? = some (movS (nextS (endAt e xs i)) xs[i].sy[j])
  | o :: os, e, 0, j, _, hj => by
    show (o.sy.map (movS (nextS e)) ++ labs (nextS e + o.bs.length) os)[0 + j]? = some (movS (nextS e) o.sy[j])
    have hj' : j < o.sy.length := hj
    rw [Nat.zero_add, List.getElem?_append_left (by rw [List.length_map]; exact hj'), List.getElem?_map, List.getElem?_eq_getElem hj']; rfl
  | o :: os, e, i + 1, j, h, hj => by
    show (o.sy.map (movS (nextS e)) ++ labs (nextS e + o.bs.length) os)[o.sy.length + cntAt os i + j]? = _
    rw [List.getElem?_append_right (by rw [List.length_map]; omega), List.length_map, show o.sy.length + cntAt os i + j - o.sy.length = cntAt os i + j by omega]
    exact labs_at os _ i j (by simpa using h) hj
theorem labs_app : ∀ (xs ys : List Ob) (e : Nat), labs e (xs ++ ys) = labs e xs ++ labs (endAt e xs xs.length) ys
  | [], ys, e => rfl
  | o :: os, ys, e => by
    show o.sy.map (movS (nextS e)) ++ labs _ (os ++ ys) = (o.sy.map (movS (nextS e)) ++ labs _ os) ++ labs (endAt (nextS e + o.bs.length) os os.length) ys
    rw [labs_app os ys, List.append_assoc]
theorem begs_app : ∀ (xs ys : List Ob) (e : Nat), begs e (xs ++ ys) = begs e xs ++ begs (endAt e xs xs.length) ys
  | [], ys, e => rfl
  | o :: os, ys, e => by
    show nextS e :: begs _ (os ++ ys) = nextS e :: (begs _ os ++ begs (endAt (nextS e + o.bs.length) os os.length) ys)
    rw [begs_app os ys]

theorem noTab_e {e : Int} {u : Nat} : (noTab e u).e = e := rfl
theorem glo_next {ts : List Sy} {o : Ob} (hd : ¬ dupS (gloS ts) o.sy = true) (s : Nat) (hn : (gloS ts).Nodup) (hnd : (names o.sy).Nodup) : (gloS (ts ++ o.sy.map (movS s))).Nodup := by
  rw [gloS_app, gloS_mov, List.nodup_append]
  refine ⟨hn, ?_, fun a ha b hb hab => ?_⟩
  · have : gloS o.sy = ((o.sy.filter fun x => x.g).map Sy.name) := rfl
    rw [this]
    exact List.Nodup.sublist (List.Sublist.map _ List.filter_sublist) hnd
  · subst hab
    refine hd ?_
    unfold dupS
    rw [List.any_eq_true]
    unfold gloS at hb
    rw [List.mem_map] at hb
    obtain ⟨x, hx, rfl⟩ := hb
    rw [List.mem_filter] at hx
    exact ⟨x, hx.1, by rw [hx.2, Bool.true_and, inB_iff]; exact ha⟩
theorem ok_nodup {o : Ob} (h : okO o = true) : (names o.sy).Nodup := (ok_parts h).2.2.1

theorem tabGo_eq : ∀ (xs : List Ob) (i e : Nat) (ss : List Nat) (ts : List Sy), (tabGo i e ss ts xs).e = 0 → tabGo i e ss ts xs = ⟨ss ++ begs e xs, ts ++ labs e xs, 0, 0⟩ ∧ (∀ x ∈ xs, okO x = true) ∧ (∀ j, 0 < j → j ≤ xs.length → endAt e xs j ≤ 65536) ∧ ((gloS ts).Nodup → (gloS (ts ++ labs e xs)).Nodup)
  | [], i, e, ss, ts, _ => by
    refine ⟨by simp [tabGo, begs, labs], fun x hx => (by cases hx), fun j h1 h2 => ?_, fun h => (by simpa [labs] using h)⟩
    have h3 : j ≤ 0 := h2
    omega
  | o :: os, i, e, ss, ts, h => by
    unfold tabGo at h ⊢
    by_cases h1 : okO o = false
    · rw [if_pos h1] at h; cases h
    rw [if_neg h1] at h ⊢
    by_cases h2 : nextS e + o.bs.length > 65536
    · rw [if_pos h2] at h; cases h
    rw [if_neg h2] at h ⊢
    by_cases h3 : dupS (gloS ts) o.sy = true
    · rw [if_pos h3] at h; cases h
    rw [if_neg h3] at h ⊢
    have hk : okO o = true := by simpa using h1
    obtain ⟨e1, e2, e3, e4⟩ := tabGo_eq os _ _ _ _ h
    refine ⟨?_, ?_, ?_, ?_⟩
    · rw [e1]
      simp [begs, labs]
    · intro x hx
      rcases List.mem_cons.1 hx with rfl | hx
      · exact hk
      · exact e2 x hx
    · intro j hj0 hj
      cases j with
      | zero => exact absurd hj0 (by omega)
      | succ j =>
        show endAt (nextS e + o.bs.length) os j ≤ 65536
        cases j with
        | zero => rw [endAt_zero]; omega
        | succ j => exact e3 _ (by omega) (by simpa using hj)
    · intro hn
      have := e4 (glo_next h3 _ hn (ok_nodup hk))
      simpa [labs, List.append_assoc] using this
theorem tabGo_bad : ∀ (xs : List Ob) (i e : Nat) (ss : List Nat) (ts : List Sy), (tabGo i e ss ts xs).e ≠ 0 → ∃ x u, tabGo i e ss ts xs = noTab x u ∧ i ≤ u ∧ u < i + xs.length
  | [], i, e, ss, ts, h => absurd rfl h
  | o :: os, i, e, ss, ts, h => by
    unfold tabGo at h ⊢
    by_cases h1 : okO o = false
    · rw [if_pos h1]; exact ⟨_, _, rfl, by omega, by simp⟩
    rw [if_neg h1] at h ⊢
    by_cases h2 : nextS e + o.bs.length > 65536
    · rw [if_pos h2]; exact ⟨_, _, rfl, by omega, by simp⟩
    rw [if_neg h2] at h ⊢
    by_cases h3 : dupS (gloS ts) o.sy = true
    · rw [if_pos h3]; exact ⟨_, _, rfl, by omega, by simp⟩
    rw [if_neg h3] at h ⊢
    obtain ⟨x, u, k1, k2, k3⟩ := tabGo_bad os _ _ _ _ h
    exact ⟨x, u, k1, by omega, by simp; omega⟩

theorem tab_good {xs : List Ob} (h : (tabL xs).e = 0) : xs.length ≤ 16 ∧ tabL xs = ⟨begs 0 xs, labs 0 xs, 0, 0⟩ ∧ (∀ x ∈ xs, okO x = true) ∧ (∀ j, j ≤ xs.length → endAt 0 xs j ≤ 65536) ∧ (gloS (labs 0 xs)).Nodup := by
  unfold tabL at h ⊢
  by_cases h1 : xs.length > 16
  · rw [if_pos h1] at h; cases h
  rw [if_neg h1] at h ⊢
  obtain ⟨e1, e2, e3, e4⟩ := tabGo_eq xs 0 0 [] [] h
  refine ⟨by omega, by simpa using e1, e2, fun j hj => ?_, by simpa using e4 List.nodup_nil⟩
  cases j with
  | zero => rw [endAt_zero]; omega
  | succ j => exact e3 _ (by omega) hj
theorem tab_bad {xs : List Ob} (h : (tabL xs).e ≠ 0) : (tabL xs).ss = [] ∧ (tabL xs).ts = [] ∧ ((tabL xs).u < xs.length ∨ xs.length = 0) := by
  unfold tabL at h ⊢
  by_cases h1 : xs.length > 16
  · rw [if_pos h1]; exact ⟨rfl, rfl, Or.inl (show 0 < xs.length by omega)⟩
  rw [if_neg h1] at h ⊢
  obtain ⟨x, u, k1, k2, k3⟩ := tabGo_bad xs 0 0 [] [] h
  rw [k1]
  exact ⟨rfl, rfl, Or.inl (show u < xs.length by omega)⟩

theorem find_nam : ∀ {L : List Sy} {x : Sy}, (names L).Nodup → x ∈ L → findN L x.name = some x.at_
  | y :: L, x, hn, hx => by
    unfold findN
    rw [List.find?_cons]
    have hn' : (y.name :: names L).Nodup := hn
    rw [List.nodup_cons] at hn'
    rcases List.mem_cons.1 hx with rfl | hx
    · simp
    · have hne : ¬ y.name = x.name := fun e => hn'.1 (by rw [e]; exact List.mem_map.2 ⟨x, hx, rfl⟩)
      rw [decide_eq_false hne]
      exact find_nam hn'.2 hx
theorem findN_none {L : List Sy} {s : ByteArray} (h : ∀ x ∈ L, ¬ x.name = s) : findN L s = none := by
  unfold findN
  rw [Option.map_eq_none_iff, List.find?_eq_none]
  intro x hx
  simp [h x hx]
theorem find_glo : ∀ {L : List Sy} {x : Sy}, (gloS L).Nodup → x ∈ L → x.g = true → findG L x.name = some x.at_
  | y :: L, x, hn, hx, hg => by
    unfold findG
    rw [List.find?_cons]
    have e1 : gloS (y :: L) = (if y.g = true then [y.name] else []) ++ gloS L := by
      unfold gloS
      rw [List.filter_cons]
      by_cases h : y.g = true
      · rw [if_pos h, if_pos h]; rfl
      · rw [if_neg h, if_neg h]; rfl
    rw [e1, List.nodup_append] at hn
    rcases List.mem_cons.1 hx with rfl | hx
    · simp [hg]
    · by_cases h : y.g = true
      · have hne : ¬ y.name = x.name := fun e => by
          rw [if_pos h] at hn
          refine hn.2.2 y.name (List.mem_singleton.2 rfl) x.name ?_ e
          unfold gloS
          exact List.mem_map.2 ⟨x, List.mem_filter.2 ⟨hx, hg⟩, rfl⟩
        rw [h, decide_eq_false hne]
        exact find_glo hn.2.1 hx hg
      · have h' : y.g = false := by simpa using h
        rw [h', Bool.false_and]
        exact find_glo hn.2.1 hx hg
theorem findG_app {A B : List Sy} {s : ByteArray} {a : Int} (h : findG A s = some a) : findG (A ++ B) s = some a := by
  unfold findG at h ⊢
  rw [List.find?_append]
  cases hf : A.find? (fun x => x.g && decide (x.name = s)) with
  | none => rw [hf] at h; cases h
  | some y => rw [hf] at h; simpa using h
theorem labs_mem : ∀ {xs : List Ob} {e i : Nat} (h : i < xs.length) {x : Sy}, x ∈ xs[i].sy → movS (nextS (endAt e xs i)) x ∈ labs e xs
  | o :: os, e, 0, _, x, hx => List.mem_append_left _ (List.mem_map.2 ⟨x, hx, by rw [endAt_zero]⟩)
  | o :: os, e, i + 1, h, x, hx => List.mem_append_right _ (labs_mem (xs := os) (i := i) (by simpa using h) hx)

/-- each label is found by its own unit -/
theorem res_own {xs : List Ob} (h : (tabL xs).e = 0) {i : Nat} (hi : i < xs.length) {x : Sy} (hx : x ∈ xs[i].sy) : resL xs i x.name = (((nextS (endAt 0 xs i) : Nat) : Int) + x.at_, 0) := by
  obtain ⟨-, ht, hk, -, -⟩ := tab_good h
  unfold resL
  rw [if_neg (by simpa using h), dif_pos ⟨Int.natCast_nonneg i, by exact_mod_cast hi⟩]
  have e1 : ((i : Int)).toNat = i := by simp
  simp only [e1]
  rw [find_nam (ok_nodup (hk _ (List.getElem_mem hi))) hx, ht]
  simp only
  rw [List.getD_eq_getElem?_getD, List.getElem?_eq_getElem (by rw [begs_len]; exact hi), Option.getD_some, begs_at xs 0 i hi]
/-- a global one by each unit that has none of its name -/
theorem res_glo {xs : List Ob} (h : (tabL xs).e = 0) {i k : Nat} (hi : i < xs.length) (hk : k < xs.length) {x : Sy} (hx : x ∈ xs[i].sy) (hg : x.g = true) (hn : ∀ y ∈ xs[k].sy, ¬ y.name = x.name) : resL xs k x.name = (((nextS (endAt 0 xs i) : Nat) : Int) + x.at_, 0) := by
  obtain ⟨-, ht, -, -, hnd⟩ := tab_good h
  unfold resL
  rw [if_neg (by simpa using h), dif_pos ⟨Int.natCast_nonneg k, by exact_mod_cast hk⟩]
  have e1 : ((k : Int)).toNat = k := by simp
  simp only [e1]
  rw [findN_none hn, ht]
  simp only
  have := find_glo hnd (labs_mem (e := 0) hi hx) hg
  rw [show x.name = (movS (nextS (endAt 0 xs i)) x).name from rfl, this]
  rfl

/-- what is put behind turns nothing ahead -/
theorem tabGo_ahead : ∀ (xs ys : List Ob) (i e : Nat) (ss : List Nat) (ts : List Sy), (tabGo i e ss ts (xs ++ ys)).e = 0 → (tabGo i e ss ts xs).e = 0
  | [], ys, i, e, ss, ts, _ => rfl
  | o :: os, ys, i, e, ss, ts, h => by
    rw [List.cons_append] at h
    unfold tabGo at h ⊢
    by_cases h1 : okO o = false
    · rw [if_pos h1] at h; cases h
    rw [if_neg h1] at h ⊢
    by_cases h2 : nextS e + o.bs.length > 65536
    · rw [if_pos h2] at h; cases h
    rw [if_neg h2] at h ⊢
    by_cases h3 : dupS (gloS ts) o.sy = true
    · rw [if_pos h3] at h; cases h
    rw [if_neg h3] at h ⊢
    exact tabGo_ahead os ys _ _ _ _ h
theorem tab_ahead {xs ys : List Ob} (h : (tabL (xs ++ ys)).e = 0) : (tabL xs).e = 0 := by
  have hl := (tab_good h).1
  rw [List.length_append] at hl
  unfold tabL at h ⊢
  rw [List.length_append, if_neg (by omega)] at h
  rw [if_neg (by omega)]
  exact tabGo_ahead xs ys _ _ _ _ h
theorem res_ahead {xs ys : List Ob} (h : (tabL (xs ++ ys)).e = 0) {u : Nat} (hu : u < xs.length) {s : ByteArray} (hr : (resL xs u s).2 = 0) : resL (xs ++ ys) u s = resL xs u s := by
  have h' := tab_ahead h
  obtain ⟨-, ht, -, -, -⟩ := tab_good h
  obtain ⟨-, ht', -, -, -⟩ := tab_good h'
  have e1 : ((u : Int)).toNat = u := by simp
  have hu2 : u < (xs ++ ys).length := by rw [List.length_append]; omega
  unfold resL at hr ⊢
  rw [if_neg (by simpa using h'), dif_pos ⟨Int.natCast_nonneg u, by exact_mod_cast hu⟩] at hr
  rw [if_neg (by simpa using h), dif_pos ⟨Int.natCast_nonneg u, by exact_mod_cast hu2⟩, if_neg (by simpa using h'), dif_pos ⟨Int.natCast_nonneg u, by exact_mod_cast hu⟩]
  simp only [e1, List.getElem_append_left hu] at hr ⊢
  rw [ht, ht'] at *
  cases hf : findN xs[u].sy s with
  | some a =>
    simp only
    rw [begs_app, List.getD_eq_getElem?_getD, List.getD_eq_getElem?_getD, List.getElem?_append_left (by rw [begs_len]; exact hu)]
  | none =>
    rw [hf] at hr
    simp only at hr ⊢
    cases hg : findG (labs 0 xs) s with
    | some a => rw [labs_app, findG_app hg]
    | none => rw [hg] at hr; exact absurd hr (by decide)

end Go.Proofs.Ytkpieeldoielgaa
