/- Where units begin, and their labels, as lists: P7.1 to P7.3. -/
import Derived.Test.YtkpieeldoielgaaRightL
namespace Go.Proofs.Ytkpieeldoielgaa
open Go.RowKit

def nextS (e : Nat) : Nat := (e + 3) / 4 * 4
theorem nextS_le (e : Nat) : e ≤ nextS e ∧ nextS e ≤ e + 3 ∧ nextS e % 4 = 0 := by unfold nextS; omega
structure Tab where
  ss : List Nat
  ts : List Sy
  e : Int
  u : Nat
def noTab (e : Int) (u : Nat) : Tab := ⟨[], [], e, u⟩
/-- a label, its unit begun at s -/
def movS (s : Nat) (x : Sy) : Sy := ⟨x.name, (s : Int) + x.at_, x.g⟩
/-- the names of global labels -/
def gloS (L : List Sy) : List ByteArray := (L.filter fun x => x.g).map Sy.name
def dupS (gs : List ByteArray) (L : List Sy) : Bool := L.any fun x => x.g && inB x.name gs
def tabGo (i e : Nat) (ss : List Nat) (ts : List Sy) : List Ob → Tab
  | [] => ⟨ss, ts, 0, 0⟩
  | o :: os =>
    if okO o = false then noTab 2 i
    else if nextS e + o.bs.length > 65536 then noTab 3 i
    else if dupS (gloS ts) o.sy = true then noTab 170 i
    else tabGo (i + 1) (nextS e + o.bs.length) (ss ++ [nextS e]) (ts ++ o.sy.map (movS (nextS e))) os
def tabL (xs : List Ob) : Tab := if xs.length > 16 then noTab 3 0 else tabGo 0 0 [] [] xs
/-- P7.2 -/
def findG (t : List Sy) (s : ByteArray) : Option Int := (t.find? fun x => x.g && decide (x.name = s)).map Sy.at_
def findN (t : List Sy) (s : ByteArray) : Option Int := (t.find? fun x => decide (x.name = s)).map Sy.at_
/-- P7.3 -/
def resL (xs : List Ob) (u : Int) (s : ByteArray) : Int × Int :=
  if (tabL xs).e ≠ 0 then (0, (tabL xs).e) else if h : 0 ≤ u ∧ u < xs.length then
    match findN (xs[u.toNat]'(by omega)).sy s with
    | some a => (((tabL xs).ss.getD u.toNat 0 : Nat) + a, 0)
    | none => match findG (tabL xs).ts s with
      | some a => (a, 0)
      | none => (0, 171)
  else (0, 2)

theorem tab_step (i e : Nat) (ss : List Nat) (ts : List Sy) (xs : List Ob) (k : Nat) (h : k < xs.length) : tabGo i e ss ts (xs.drop k) =
    if okO xs[k] = false then noTab 2 i else if nextS e + xs[k].bs.length > 65536 then noTab 3 i else if dupS (gloS ts) xs[k].sy = true then noTab 170 i
    else tabGo (i + 1) (nextS e + xs[k].bs.length) (ss ++ [nextS e]) (ts ++ xs[k].sy.map (movS (nextS e))) (xs.drop (k + 1)) := by
  rw [List.drop_eq_getElem_cons h]; rfl
theorem gloS_app (A B : List Sy) : gloS (A ++ B) = gloS A ++ gloS B := by simp [gloS]
theorem gloS_mov (s : Nat) (L : List Sy) : gloS (L.map (movS s)) = gloS L := by
  unfold gloS
  induction L with
  | nil => rfl
  | cons x L ih =>
    rw [List.map_cons, List.filter_cons, List.filter_cons]
    show List.map Sy.name (if x.g = true then _ else _) = _
    by_cases hg : x.g = true
    · rw [if_pos hg, if_pos hg, List.map_cons, List.map_cons, ih]; rfl
    · rw [if_neg hg, if_neg hg, ih]
theorem gloS_take (L : List Sy) (k : Nat) (h : k < L.length) : gloS (L.take (k + 1)) = gloS (L.take k) ++ if L[k].g = true then [L[k].name] else [] := by
  rw [List.take_succ_eq_append_getElem h, gloS_app]
  congr 1
  unfold gloS
  rw [List.filter_cons]
  by_cases hg : L[k].g = true
  · rw [if_pos hg, if_pos hg]; rfl
  · rw [if_neg hg, if_neg hg]; rfl
theorem gloS_sub {L : List Sy} {s : ByteArray} (h : s ∈ gloS L) : s ∈ names L := by
  unfold gloS at h
  rw [List.mem_map] at h
  obtain ⟨x, hx, rfl⟩ := h
  exact List.mem_map.2 ⟨x, (List.mem_filter.1 hx).1, rfl⟩
/-- of a right unit no name stands twice -/
theorem rs_nodup (n : Nat) : ∀ (L : List Sy) (least : Int) (seen : List ByteArray), rsL n least seen L = true → (∀ s ∈ names L, s ∉ seen) ∧ (names L).Nodup
  | [], _, _, _ => ⟨fun s h => by simp [names] at h, List.nodup_nil⟩
  | x :: L, least, seen, h => by
    unfold rsL at h
    rw [Bool.and_eq_true] at h
    obtain ⟨h1, h2⟩ := h
    obtain ⟨i1, i2⟩ := rs_nodup n L _ _ h2
    have hx : x.name ∉ seen := by
      intro hm
      unfold symB at h1
      simp only [Bool.and_eq_true] at h1
      have h3 : (!inB x.name seen) = true := by
        revert h1
        simp
        intro h _ _ _
        exact h
      rw [(inB_iff _ _).2 hm] at h3
      cases h3
    refine ⟨fun s hs => ?_, ?_⟩
    · have hs' : s = x.name ∨ s ∈ names L := by simpa [names] using hs
      rcases hs' with rfl | hs'
      · exact hx
      · exact fun hm => i1 s hs' (List.mem_append_left _ hm)
    · show (x.name :: names L).Nodup
      refine List.nodup_cons.2 ⟨fun hm => i1 x.name hm (List.mem_append_right _ (List.mem_singleton.2 rfl)), i2⟩
/-- the labels ahead of one in a right unit do not bear its name -/
theorem glo_own {L : List Sy} (hn : (names L).Nodup) (k : Nat) (h : k < L.length) : inB L[k].name (gloS (L.take k)) = false := by
  cases hb : inB L[k].name (gloS (L.take k)) with
  | false => rfl
  | true =>
    exfalso
    have h1 := gloS_sub ((inB_iff _ _).1 hb)
    have h2 : names L = names (L.take k) ++ L[k].name :: names (L.drop (k + 1)) := by
      unfold names
      conv => lhs; rw [← List.take_append_drop k L, List.drop_eq_getElem_cons h]
      rw [List.map_append, List.map_cons]
    rw [h2, List.nodup_append] at hn
    exact hn.2.2 _ h1 _ (List.mem_cons_self) rfl
theorem inB_app (s : ByteArray) (A B : List ByteArray) : inB s (A ++ B) = (inB s A || inB s B) := by
  rw [Bool.eq_iff_iff, inB_iff, Bool.or_eq_true, inB_iff, inB_iff, List.mem_append]
theorem dup_take (gs : List ByteArray) (L : List Sy) (k : Nat) (h : k < L.length) : dupS gs (L.take (k + 1)) = (dupS gs (L.take k) || (L[k].g && inB L[k].name gs)) := by
  unfold dupS
  rw [List.take_succ_eq_append_getElem h, List.any_append]
  simp
theorem dup_part (gs : List ByteArray) (L : List Sy) (k : Nat) (h : dupS gs (L.take k) = true) : dupS gs L = true := by
  unfold dupS at h ⊢
  rw [List.any_eq_true] at h ⊢
  obtain ⟨x, hx, h2⟩ := h
  exact ⟨x, List.mem_of_mem_take hx, h2⟩

end Go.Proofs.Ytkpieeldoielgaa
