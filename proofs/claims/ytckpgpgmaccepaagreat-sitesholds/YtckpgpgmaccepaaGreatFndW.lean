/- symbols.lookFor, by its two closures; symbols.Find. -/
import Derived.Test.YtckpgpgmaccepaaGreatTabW
namespace Go.Proofs.YtckpgpgmaccepaaGreat
open Go.RowKit

def meantG (s : ByteArray) (x : Sy) : Bool := x.g && decide (x.name = s)
def meantN (s : ByteArray) (x : Sy) : Bool := decide (x.name = s)
theorem findG_eq (t : List Sy) (s : ByteArray) : findG t s = (t.find? (meantG s)).map Sy.at_ := rfl
theorem findN_eq (t : List Sy) (s : ByteArray) : findN t s = (t.find? (meantN s)).map Sy.at_ := rfl
/-- the number of the first that is meant -/
def idxG (P : Sy → Bool) : Nat → List Sy → Int
  | _, [] => -1
  | i, x :: L => if P x = true then (i : Int) else idxG P (i + 1) L
theorem idx_step (P : Sy → Bool) (L : List Sy) (k : Nat) (h : k < L.length) : idxG P k (L.drop k) = if P L[k] = true then (k : Int) else idxG P (k + 1) (L.drop (k + 1)) := by
  rw [List.drop_eq_getElem_cons h]; rfl
theorem idx_go (P : Sy → Bool) : ∀ (L : List Sy) (j : Nat), (idxG P j L = -1 ∧ L.find? P = none) ∨ ∃ i, ∃ h : i < L.length, idxG P j L = ((j + i : Nat) : Int) ∧ L.find? P = some L[i]
  | [], _ => .inl ⟨rfl, rfl⟩
  | x :: L, j => by
    by_cases hx : P x = true
    · refine .inr ⟨0, by simp, ?_, ?_⟩
      · unfold idxG; rw [if_pos hx]; rfl
      · rw [List.find?_cons, hx]; rfl
    · rcases idx_go P L (j + 1) with ⟨h1, h2⟩ | ⟨i, hi, h1, h2⟩
      · refine .inl ⟨?_, ?_⟩
        · unfold idxG; rw [if_neg hx]; exact h1
        · rw [List.find?_cons, (by simpa using hx : P x = false)]; exact h2
      · refine .inr ⟨i + 1, by simpa using hi, ?_, ?_⟩
        · unfold idxG; rw [if_neg hx, h1]; omega
        · rw [List.find?_cons, (by simpa using hx : P x = false)]; exact h2
theorem idx_find (P : Sy → Bool) (L : List Sy) : (idxG P 0 L = -1 ∧ L.find? P = none) ∨ ∃ i, ∃ h : i < L.length, idxG P 0 L = (i : Int) ∧ L.find? P = some L[i] := by
  rcases idx_go P L 0 with h | ⟨i, hi, h1, h2⟩
  · exact .inl h
  · exact .inr ⟨i, hi, by rw [h1, Nat.zero_add], h2⟩
theorem text_ne7 {s t : ByteArray} (h : ¬ s = t) : ¬ s.toList = t.toList := fun e => h (by
  rw [toList_eq, toList_eq] at e
  exact ByteArray.ext (Array.toList_inj.1 e))

set_option maxHeartbeats 1000000 in
theorem clos33 (x : Sy) (s : ByteArray) (g : Nat) (w : World) (hc : w.cell? ⟨g, 0, none⟩ = some (.string s)) : Calls Tryz.prog 80 #[.agg #[.string x.name, .int .i64 x.at_, .bool x.g], .pointer (some ⟨g, 0, none⟩)] w fun E w' => E = .returned (.bool (meantG s x)) ∧ Below w.heap.size w w' := by
  have hc' : ∀ ob, (w.alloc ob).cell? ⟨g, 0, none⟩ = some (.string s) := fun ob => ((new_alloc w ob).cell (cell_lt hc)).trans hc
  obtain ⟨sn, sa, sg⟩ := x
  cases sg with
  | false =>
    have HV : Hid (meantG s ⟨sn, sa, false⟩ = false) := rfl
    rw [HV.out]
    go_enter Tryz.func80, Tryz.ntmps80
    go_wp2_with fail
    go_ret
    exact ⟨rfl, new_alloc _ _⟩
  | true =>
    by_cases hs : sn = s
    · have HV : Hid (meantG s ⟨sn, sa, true⟩ = true) := by
        have h : meantG s ⟨sn, sa, true⟩ = true := by simp [meantG, hs]
        exact h
      rw [HV.out]
      subst hs
      go_enter Tryz.func80, Tryz.ntmps80
      go_wp2_with fail
      go_ret
      exact ⟨rfl, new_alloc _ _⟩
    · have HV : Hid (meantG s ⟨sn, sa, true⟩ = false) := by
        have h : meantG s ⟨sn, sa, true⟩ = false := by simp [meantG, hs]
        exact h
      rw [HV.out]
      have hsl := text_ne7 hs
      have hsb : (sn.toList == s.toList) = false := by simpa using hsl
      have hsd : decide (sn.toList = s.toList) = false := decide_eq_false hsl
      go_enter Tryz.func80, Tryz.ntmps80
      go_wp2_with fail
      go_ret
      exact ⟨rfl, new_alloc _ _⟩
set_option maxHeartbeats 1000000 in
theorem clos34 (x : Sy) (s : ByteArray) (g : Nat) (w : World) (hc : w.cell? ⟨g, 0, none⟩ = some (.string s)) : Calls Tryz.prog 55 #[.agg #[.string x.name, .int .i64 x.at_, .bool x.g], .pointer (some ⟨g, 0, none⟩)] w fun E w' => E = .returned (.bool (meantN s x)) ∧ Below w.heap.size w w' := by
  have hc' : ∀ ob, (w.alloc ob).cell? ⟨g, 0, none⟩ = some (.string s) := fun ob => ((new_alloc w ob).cell (cell_lt hc)).trans hc
  obtain ⟨sn, sa, sg⟩ := x
  by_cases hs : sn = s
  · have HV : Hid (meantN s ⟨sn, sa, sg⟩ = true) := by
      have h : meantN s ⟨sn, sa, sg⟩ = true := by simp [meantN, hs]
      exact h
    rw [HV.out]
    subst hs
    go_enter Tryz.func55, Tryz.ntmps55
    go_wp2_with fail
    go_ret
    exact ⟨rfl, new_alloc _ _⟩
  · have HV : Hid (meantN s ⟨sn, sa, sg⟩ = false) := by
      have h : meantN s ⟨sn, sa, sg⟩ = false := by simp [meantN, hs]
      exact h
    rw [HV.out]
    have hsl := text_ne7 hs
    have hsb : (sn.toList == s.toList) = false := by simpa using hsl
    have hsd : decide (sn.toList = s.toList) = false := decide_eq_false hsl
    go_enter Tryz.func55, Tryz.ntmps55
    go_wp2_with fail
    go_ret
    exact ⟨rfl, new_alloc _ _⟩

set_option maxRecDepth 20000 in
set_option maxHeartbeats 2000000 in
theorem index33_any (p : Option Addr) (n c : Nat) (L : List Sy) (s : ByteArray) (g : Nat) (w : World) (hn : L.length = n) (hn6 : n ≤ 9223372036854775807) (hr : Row3 w p (L.map syV)) (hc : w.cell? ⟨g, 0, none⟩ = some (.string s)) :
    Calls Tryz.prog 79 #[.slice p n c, .func (Fn.func 80) #[] #[.pointer (some ⟨g, 0, none⟩)]] w fun E w' => E = .returned (.int .i64 (idxG (meantG s) 0 L)) ∧ Below w.heap.size w w' := by
  have hC := fun x W (h : W.cell? ⟨g, 0, none⟩ = some (.string s)) => clos33 x s g W h
  have HN := Hid.in hn
  have HR := Hid.in hr
  have HC := Hid.in hc
  clear hn hr hc
  obtain ⟨r, hr⟩ : ∃ r, idxG (meantG s) 0 L = r := ⟨_, rfl⟩
  rw [hr]
  have HRR := Hid.in hr
  clear hr
  go_enter Tryz.func79, Tryz.ntmps79
  go_wp2_with fail
  go_loopw [8] (fun vi wr => ∃ k : Nat, vi = .int .i64 k ∧ k ≤ n ∧ idxG (meantG s) 0 L = idxG (meantG s) k (L.drop k) ∧ Below w.heap.size w wr) (fun vi _ => n - (intOf vi).toNat)
  case atStart => exact ⟨0, rfl, Nat.zero_le _, rfl, below_self w⟩
  case round =>
    obtain ⟨k, rfl, hk, hgo, hb⟩ := hrel
    have HGO := Hid.in hgo
    have HB := Hid.in hb
    clear hgo hb
    by_cases hlt : k < n
    · have hkl : k < L.length := by rw [HN.out]; exact hlt
      obtain ⟨b, o, rfl, hc⟩ := (HR.out.below HB.out) (by rw [List.length_map]; omega)
      obtain ⟨c0, c1, c2⟩ := cells3 hc k (by rw [List.length_map]; exact hkl)
      simp only [List.getElem_map, syV] at c0 c1 c2
      have HST := Hid.in (idx_step (meantG s) L k hkl)
      have hCx := hC L[k] wr ((HB.out.cell (cell_lt HC.out)).trans HC.out)
      clear hc hC
      generalize L[k] = x at *
      cases hm : meantG s x with
      | true =>
        have HV : Hid (r = (k : Int)) := by
          have h : r = (k : Int) := by rw [← HRR.out, HGO.out, HST.out, if_pos hm]
          exact h
        rw [hm] at hCx
        go_wp2_with (go_at_call 80; refine hCx.mono ?_; rintro E w1 ⟨rfl, hb1⟩; have HB1 := Hid.in (below_step HB.out hb1); clear hb1)
        go_ret
        exact ⟨by rw [HV.out]; rfl, HB1.out⟩
      | false =>
        have HV : Hid (idxG (meantG s) 0 L = idxG (meantG s) (k + 1) (L.drop (k + 1))) := by
          have h : idxG (meantG s) 0 L = idxG (meantG s) (k + 1) (L.drop (k + 1)) := by rw [HGO.out, HST.out, if_neg (by rw [hm]; decide)]
          exact h
        rw [hm] at hCx
        go_wp2_with (go_at_call 80; refine hCx.mono ?_; rintro E w1 ⟨rfl, hb1⟩; have HB1 := Hid.in (below_step HB.out hb1); clear hb1)
        go_roundw
        case rel => exact ⟨k + 1, by go_num, by omega, HV.out, HB1.out⟩
        case measure => simp [intOf]; omega
    · have HV : Hid (r = -1) := by
        have h : r = -1 := by rw [← HRR.out, HGO.out, List.drop_eq_nil_of_le (by rw [HN.out]; omega)]; rfl
        exact h
      go_wp2_with fail
      go_ret
      exact ⟨by rw [HV.out]; rfl, HB.out⟩

set_option maxRecDepth 20000 in
set_option maxHeartbeats 2000000 in
theorem look33_any (p : Option Addr) (n c : Nat) (L : List Sy) (s : ByteArray) (g : Nat) (w : World) (hn : L.length = n) (hn6 : n ≤ 9223372036854775807) (hr : Row3 w p (L.map syV)) (hc : w.cell? ⟨g, 0, none⟩ = some (.string s)) :
    Calls Tryz.prog 54 #[.slice p n c, .func (Fn.func 80) #[] #[.pointer (some ⟨g, 0, none⟩)]] w fun E w' => E = .returned (.tuple #[.int .i64 (((L.find? (meantG s)).map Sy.at_).getD 0), .bool ((L.find? (meantG s)).map Sy.at_).isSome]) ∧ Below w.heap.size w w' := by
  have hI := index33_any p n c L s g w hn hn6 hr hc
  have HN := Hid.in hn
  have HR := Hid.in hr
  clear hn hr hc
  rcases idx_find (meantG s) L with ⟨h1, h2⟩ | ⟨i, hi, h1, h2⟩
  · rw [h1] at hI
    rw [h2]
    go_enter Tryz.func54, Tryz.ntmps54
    go_wp2_with (go_at_call 79; refine hI.mono ?_; rintro E w1 ⟨rfl, hb1⟩)
    go_ret2
    exact ⟨rfl, hb1⟩
  · rw [h1] at hI
    rw [h2]
    have hin : i < n := by rw [← HN.out]; exact hi
    obtain ⟨b, o, hp, hc⟩ := HR.out (by rw [List.length_map]; omega)
    subst hp
    obtain ⟨_, c1, _⟩ := cells3 hc i (by rw [List.length_map]; exact hi)
    simp only [List.getElem_map, syV] at c1
    have HC1 := Hid.in c1
    clear c1 hc
    generalize L[i] = x at *
    go_enter Tryz.func54, Tryz.ntmps54
    go_wp2_with (go_at_call 79; refine hI.mono ?_; rintro E w1 ⟨rfl, hb1⟩; have d1 := (hb1.cell (cell_lt HC1.out)).trans HC1.out)
    go_ret2
    exact ⟨rfl, hb1⟩

set_option maxRecDepth 20000 in
set_option maxHeartbeats 2000000 in
theorem index34_any (p : Option Addr) (n c : Nat) (L : List Sy) (s : ByteArray) (g : Nat) (w : World) (hn : L.length = n) (hn6 : n ≤ 9223372036854775807) (hr : Row3 w p (L.map syV)) (hc : w.cell? ⟨g, 0, none⟩ = some (.string s)) :
    Calls Tryz.prog 79 #[.slice p n c, .func (Fn.func 55) #[] #[.pointer (some ⟨g, 0, none⟩)]] w fun E w' => E = .returned (.int .i64 (idxG (meantN s) 0 L)) ∧ Below w.heap.size w w' := by
  have hC := fun x W (h : W.cell? ⟨g, 0, none⟩ = some (.string s)) => clos34 x s g W h
  have HN := Hid.in hn
  have HR := Hid.in hr
  have HC := Hid.in hc
  clear hn hr hc
  obtain ⟨r, hr⟩ : ∃ r, idxG (meantN s) 0 L = r := ⟨_, rfl⟩
  rw [hr]
  have HRR := Hid.in hr
  clear hr
  go_enter Tryz.func79, Tryz.ntmps79
  go_wp2_with fail
  go_loopw [8] (fun vi wr => ∃ k : Nat, vi = .int .i64 k ∧ k ≤ n ∧ idxG (meantN s) 0 L = idxG (meantN s) k (L.drop k) ∧ Below w.heap.size w wr) (fun vi _ => n - (intOf vi).toNat)
  case atStart => exact ⟨0, rfl, Nat.zero_le _, rfl, below_self w⟩
  case round =>
    obtain ⟨k, rfl, hk, hgo, hb⟩ := hrel
    have HGO := Hid.in hgo
    have HB := Hid.in hb
    clear hgo hb
    by_cases hlt : k < n
    · have hkl : k < L.length := by rw [HN.out]; exact hlt
      obtain ⟨b, o, rfl, hc⟩ := (HR.out.below HB.out) (by rw [List.length_map]; omega)
      obtain ⟨c0, c1, c2⟩ := cells3 hc k (by rw [List.length_map]; exact hkl)
      simp only [List.getElem_map, syV] at c0 c1 c2
      have HST := Hid.in (idx_step (meantN s) L k hkl)
      have hCx := hC L[k] wr ((HB.out.cell (cell_lt HC.out)).trans HC.out)
      clear hc hC
      generalize L[k] = x at *
      cases hm : meantN s x with
      | true =>
        have HV : Hid (r = (k : Int)) := by
          have h : r = (k : Int) := by rw [← HRR.out, HGO.out, HST.out, if_pos hm]
          exact h
        rw [hm] at hCx
        go_wp2_with (go_at_call 55; refine hCx.mono ?_; rintro E w1 ⟨rfl, hb1⟩; have HB1 := Hid.in (below_step HB.out hb1); clear hb1)
        go_ret
        exact ⟨by rw [HV.out]; rfl, HB1.out⟩
      | false =>
        have HV : Hid (idxG (meantN s) 0 L = idxG (meantN s) (k + 1) (L.drop (k + 1))) := by
          have h : idxG (meantN s) 0 L = idxG (meantN s) (k + 1) (L.drop (k + 1)) := by rw [HGO.out, HST.out, if_neg (by rw [hm]; decide)]
          exact h
        rw [hm] at hCx
        go_wp2_with (go_at_call 55; refine hCx.mono ?_; rintro E w1 ⟨rfl, hb1⟩; have HB1 := Hid.in (below_step HB.out hb1); clear hb1)
        go_roundw
        case rel => exact ⟨k + 1, by go_num, by omega, HV.out, HB1.out⟩
        case measure => simp [intOf]; omega
    · have HV : Hid (r = -1) := by
        have h : r = -1 := by rw [← HRR.out, HGO.out, List.drop_eq_nil_of_le (by rw [HN.out]; omega)]; rfl
        exact h
      go_wp2_with fail
      go_ret
      exact ⟨by rw [HV.out]; rfl, HB.out⟩

set_option maxRecDepth 20000 in
set_option maxHeartbeats 2000000 in
theorem look34_any (p : Option Addr) (n c : Nat) (L : List Sy) (s : ByteArray) (g : Nat) (w : World) (hn : L.length = n) (hn6 : n ≤ 9223372036854775807) (hr : Row3 w p (L.map syV)) (hc : w.cell? ⟨g, 0, none⟩ = some (.string s)) :
    Calls Tryz.prog 54 #[.slice p n c, .func (Fn.func 55) #[] #[.pointer (some ⟨g, 0, none⟩)]] w fun E w' => E = .returned (.tuple #[.int .i64 (((L.find? (meantN s)).map Sy.at_).getD 0), .bool ((L.find? (meantN s)).map Sy.at_).isSome]) ∧ Below w.heap.size w w' := by
  have hI := index34_any p n c L s g w hn hn6 hr hc
  have HN := Hid.in hn
  have HR := Hid.in hr
  clear hn hr hc
  rcases idx_find (meantN s) L with ⟨h1, h2⟩ | ⟨i, hi, h1, h2⟩
  · rw [h1] at hI
    rw [h2]
    go_enter Tryz.func54, Tryz.ntmps54
    go_wp2_with (go_at_call 79; refine hI.mono ?_; rintro E w1 ⟨rfl, hb1⟩)
    go_ret2
    exact ⟨rfl, hb1⟩
  · rw [h1] at hI
    rw [h2]
    have hin : i < n := by rw [← HN.out]; exact hi
    obtain ⟨b, o, hp, hc⟩ := HR.out (by rw [List.length_map]; omega)
    subst hp
    obtain ⟨_, c1, _⟩ := cells3 hc i (by rw [List.length_map]; exact hi)
    simp only [List.getElem_map, syV] at c1
    have HC1 := Hid.in c1
    clear c1 hc
    generalize L[i] = x at *
    go_enter Tryz.func54, Tryz.ntmps54
    go_wp2_with (go_at_call 79; refine hI.mono ?_; rintro E w1 ⟨rfl, hb1⟩; have d1 := (hb1.cell (cell_lt HC1.out)).trans HC1.out)
    go_ret2
    exact ⟨rfl, hb1⟩

set_option maxHeartbeats 1000000 in
theorem find_any (p : Option Addr) (n c : Nat) (L : List Sy) (s : ByteArray) (w : World) (hn : L.length = n) (hn6 : n ≤ 9223372036854775807) (hr : Row3 w p (L.map syV)) :
    Calls Tryz.prog 56 #[.slice p n c, .string s] w fun E w' => E = .returned (.tuple #[.int .i64 ((findG L s).getD 0), .bool (findG L s).isSome]) ∧ Below w.heap.size w w' := by
  have hL := look33_any p n c L s w.heap.size (w.alloc (.cells #[.string s] 9)) hn hn6 (hr.below (new_alloc w _)) ((Blk.new w 9 #[.string s]).cell 0)
  rw [← findG_eq] at hL
  generalize findG L s = r at *
  go_enter Tryz.func56, Tryz.ntmps56
  go_wp2_with (go_at_call 54; refine hL.mono ?_; rintro E w1 ⟨rfl, hb1⟩)
  go_ret2
  exact ⟨rfl, below_step (new_alloc w _) hb1⟩

end Go.Proofs.YtckpgpgmaccepaaGreat
