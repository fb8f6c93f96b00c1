/- slices.BinarySearchFunc over fixes; object.sharesByte. -/
import Derived.Test.YtkpieeldoielgaaRightL
import Derived.Test.YtkpieeldoielgaaHidd
import Derived.Test.YtkpieeldoielgaaSame
namespace Go.Proofs.Ytkpieeldoielgaa
open Go.RowKit

def cmpI (a b : Int) : Int := if a < b then -1 else if b < a then 1 else 0
theorem isNaN_any (a : Int) (w : World) : Calls Try.prog 73 #[.int .i64 a] w fun E w' => E = .returned (.bool false) ∧ w' = w := by
  go_enter Try.func73, Try.ntmps73
  go_wp2
  go_ret
  exact ⟨rfl, rfl⟩
theorem compare_any (a b : Int) (w : World) : Calls Try.prog 66 #[.int .i64 a, .int .i64 b] w fun E w' => E = .returned (.int .i64 (cmpI a b)) ∧ w' = w := by
  have hN := isNaN_any
  by_cases h1 : a < b
  · have HC : Hid (cmpI a b = -1) := if_pos h1
    rw [HC.out]
    go_enter Try.func66, Try.ntmps66
    go_wp2_with (go_at_call 73; refine (hN _ _).mono ?_; rintro E w1 ⟨rfl, rfl⟩)
    go_ret
    exact ⟨rfl, rfl⟩
  · by_cases h2 : b < a
    · have HC : Hid (cmpI a b = 1) := by
        have : cmpI a b = 1 := by unfold cmpI; rw [if_neg h1, if_pos h2]
        exact this
      rw [HC.out]
      go_enter Try.func66, Try.ntmps66
      go_wp2_with (go_at_call 73; refine (hN _ _).mono ?_; rintro E w1 ⟨rfl, rfl⟩)
      go_ret
      exact ⟨rfl, rfl⟩
    · have HC : Hid (cmpI a b = 0) := by
        have : cmpI a b = 0 := by unfold cmpI; rw [if_neg h1, if_neg h2]
        exact this
      rw [HC.out]
      go_enter Try.func66, Try.ntmps66
      go_wp2_with (go_at_call 73; refine (hN _ _).mono ?_; rintro E w1 ⟨rfl, rfl⟩)
      go_ret
      exact ⟨rfl, rfl⟩
theorem clos_any (k a e : Int) (s : ByteArray) (w : World) : Calls Try.prog 97 #[.agg #[.int .u8 k, .int .i64 a, .string s], .int .i64 e] w fun E w' => E = .returned (.int .i64 (cmpI a e)) ∧ Below w.heap.size w w' := by
  have hC := compare_any a e
  generalize cmpI a e = r at *
  go_enter Try.func97, Try.ntmps97
  go_wp2_with (go_at_call 66; refine (hC _).mono ?_; rintro E w1 ⟨rfl, rfl⟩)
  go_ret
  exact ⟨rfl, new_alloc _ _⟩

/-- fixes in order -/
def SortF (fs : List Fx) : Prop := ∀ i j (_ : i < j) (h' : j < fs.length), (fs[i]'(by omega)).at_ ≤ fs[j].at_
theorem cmp_neg {a b : Int} : cmpI a b < 0 ↔ a < b := by
  unfold cmpI
  split
  · simp_all
  · split <;> simp_all
theorem cells3 {w : World} {b o : Nat} {L : List V3} (h : ∀ i (hi : i < L.length) j, j < 3 → w.cell? ⟨b, o + i * 3 + j, none⟩ = (l3 L[i])[j]?) (i : Nat) (hi : i < L.length) :
    w.cell? ⟨b, o + i * 3, none⟩ = some L[i].1 ∧ w.cell? ⟨b, o + i * 3 + 1, none⟩ = some L[i].2.1 ∧ w.cell? ⟨b, o + i * 3 + 2, none⟩ = some L[i].2.2 :=
  ⟨h i hi 0 (by decide), h i hi 1 (by decide), h i hi 2 (by decide)⟩

set_option maxRecDepth 20000 in
set_option maxHeartbeats 1000000 in
theorem search_any (p : Option Addr) (n c : Nat) (t : Int) (fs : List Fx) (w : World) (hn : fs.length = n) (hn4 : n ≤ 1048576) (hx : Row3 w p (fs.map fxV)) (hs : SortF fs) :
    Calls Try.prog 96 #[.slice p n c, .int .i64 t, .func (Fn.func 97) #[] #[]] w fun E w' => (∃ (k : Nat) (b : Bool), E = .returned (.tuple #[.int .i64 k, .bool b]) ∧ k ≤ n ∧ (∀ i (h : i < fs.length), i < k → fs[i].at_ < t) ∧ (∀ i (h : i < fs.length), k ≤ i → t ≤ fs[i].at_)) ∧ Below w.heap.size w w' := by
  have hC := clos_any
  have HX := Hid.in hx
  have HS := Hid.in hs
  have HN := Hid.in hn
  clear hx hs hn
  go_enter Try.func96, Try.ntmps96
  go_wp2_with fail
  go_loopw [9, 10] (fun vi vj wr => ∃ i j : Nat, vi = .int .i64 i ∧ vj = .int .i64 j ∧ i ≤ j ∧ j ≤ n ∧ (∀ x (h : x < fs.length), x < i → fs[x].at_ < t) ∧ (∀ x (h : x < fs.length), j ≤ x → t ≤ fs[x].at_) ∧ Below w.heap.size w wr) (fun vi vj _ => (intOf vj).toNat - (intOf vi).toNat)
  case atStart => exact ⟨0, n, rfl, rfl, Nat.zero_le _, Nat.le_refl _, fun x h h0 => by omega, fun x h h0 => by have := HN.out; omega, below_self w⟩
  case round =>
    obtain ⟨i, j, rfl, rfl, hij, hjn, hlo, hhi, hb⟩ := hrel
    have HLO := Hid.in hlo
    have HHI := Hid.in hhi
    have HB := Hid.in hb
    clear hlo hhi hb
    by_cases hlt : i < j
    · have hh : (i + j) / 2 < fs.length := by have := HN.out; omega
      obtain ⟨b, o, rfl, hc⟩ := (HX.out.below HB.out) (by rw [List.length_map]; omega)
      obtain ⟨c0, c1, c2⟩ := cells3 hc ((i + j) / 2) (by rw [List.length_map]; exact hh)
      simp only [List.getElem_map, fxV] at c0 c1 c2
      clear hc
      by_cases hat : fs[(i + j) / 2].at_ < t
      · have HLO2 : Hid (∀ x (h : x < fs.length), x < (i + j) / 2 + 1 → fs[x].at_ < t) := fun x h hx => by
          by_cases e : x = (i + j) / 2
          · subst e; exact hat
          · have := HS.out x ((i + j) / 2) (by omega) hh
            omega
        have HCM : Hid (cmpI fs[(i + j) / 2].at_ t = -1) := if_pos hat
        generalize fs[(i + j) / 2] = f at *
        go_wp2_with (go_at_call 97; refine (hC _ _ _ _ _).mono ?_; rintro E w1 ⟨rfl, hb1⟩; rw [HCM.out]; have HB1 := Hid.in (below_step HB.out hb1); clear hb1)
        go_roundw
        case rel => exact ⟨(i + j) / 2 + 1, j, by go_num, rfl, by omega, hjn, HLO2.out, HHI.out, HB1.out⟩
        case measure => simp [intOf]; omega
      · have HHI2 : Hid (∀ x (h : x < fs.length), (i + j) / 2 ≤ x → t ≤ fs[x].at_) := fun x h hx => by
          by_cases e : x = (i + j) / 2
          · subst e; omega
          · have := HS.out ((i + j) / 2) x (by omega) h
            omega
        have hge : ¬ cmpI fs[(i + j) / 2].at_ t < 0 := fun e => hat (cmp_neg.1 e)
        generalize fs[(i + j) / 2] = f at *
        generalize hr : cmpI f.at_ t = r at *
        have HR := Hid.in hr
        clear hr
        go_wp2_with (go_at_call 97; refine (hC _ _ _ _ _).mono ?_; rintro E w1 ⟨rfl, hb1⟩; rw [HR.out]; have HB1 := Hid.in (below_step HB.out hb1); clear hb1)
        go_roundw
        case rel => exact ⟨i, (i + j) / 2, rfl, by go_num, by omega, by omega, HLO.out, HHI2.out, HB1.out⟩
        case measure => simp [intOf]; omega
    · have hij2 : i = j := by omega
      subst hij2
      by_cases hin : i < n
      · have hh : i < fs.length := by have := HN.out; omega
        obtain ⟨b, o, rfl, hc⟩ := (HX.out.below HB.out) (by rw [List.length_map]; omega)
        obtain ⟨c0, c1, c2⟩ := cells3 hc i (by rw [List.length_map]; exact hh)
        simp only [List.getElem_map, fxV] at c0 c1 c2
        clear hc
        generalize fs[i] = f at *
        go_wp2_with (go_at_call 97; refine (hC _ _ _ _ _).mono ?_; rintro E w1 ⟨rfl, hb1⟩; have HB1 := Hid.in (below_step HB.out hb1); clear hb1)
        go_ret2
        exact ⟨⟨i, _, rfl, hjn, HLO.out, HHI.out⟩, HB1.out⟩
      · go_wp2_with fail
        go_ret2
        exact ⟨⟨i, _, rfl, hjn, HLO.out, HHI.out⟩, HB.out⟩

/-- what is asked of fixes that are right -/
def NextF (fs : List Fx) : Prop := ∀ i j (_ : i < j) (h' : j < fs.length), (fs[i]'(by omega)).at_ + 4 ≤ fs[j].at_

set_option maxHeartbeats 1000000 in
theorem shares_any (p : Option Addr) (n c : Nat) (a : Int) (fs : List Fx) (w : World) (hn : fs.length = n) (hn4 : n ≤ 1048576) (hx : Row3 w p (fs.map fxV)) (hs : NextF fs) (ha : 0 ≤ a) (ha2 : a ≤ 65536) (hf : ∀ f ∈ fs, f.at_ ≤ 65536) (hf0 : ∀ f ∈ fs, 0 ≤ f.at_) :
    Calls Try.prog 78 #[.slice p n c, .int .i64 a] w fun E w' => E = .returned (.bool (shB fs a)) ∧ Below w.heap.size w w' := by
  have hS := search_any p n c (a + 5) fs w hn hn4 hx (fun i j h h' => by have := hs i j h h'; omega)
  have HX := Hid.in hx
  have HS := Hid.in hs
  have HN := Hid.in hn
  have HF := Hid.in hf
  have HF0 := Hid.in hf0
  clear hx hs hn hf hf0
  obtain ⟨r, hr⟩ : ∃ r, shB fs a = r := ⟨_, rfl⟩
  rw [hr]
  have HRR := Hid.in hr
  clear hr
  go_enter Try.func78, Try.ntmps78
  go_upto_region 2 with (go_at_call 96; refine hS.mono ?_; rintro E w1 ⟨⟨k, bb, rfl, hk, hlo, hhi⟩, hb1⟩; have HB1 := Hid.in hb1; have HSH := Hid.in (sh_last fs a k (by have := HN.out; omega) HS.out hlo hhi); clear hb1 hlo hhi)
  by_cases hk0 : 0 < k
  · have hkf : k - 1 < fs.length := by have := HN.out; omega
    obtain ⟨b, o, rfl, hc⟩ := (HX.out.below HB1.out) (by rw [List.length_map]; omega)
    obtain ⟨c0, c1, c2⟩ := cells3 hc (k - 1) (by rw [List.length_map]; exact hkf)
    simp only [List.getElem_map, fxV] at c0 c1 c2
    have hm1 := HF.out _ (List.getElem_mem hkf)
    have hm2 := HF0.out _ (List.getElem_mem hkf)
    clear hc c0 c2
    by_cases hat : a < fs[k - 1].at_ + 4
    · have HR : Hid (shB fs a = true) := HSH.out.2 ⟨hk0, hat⟩
      generalize fs[k - 1] = f at *
      go_wp2_with fail
      go_ret
      exact ⟨ret_bool (by rw [← HRR.out, HR.out]), HB1.out⟩
    · have HR : Hid (shB fs a = false) := by
        have : shB fs a = false := by
          cases hb : shB fs a with
          | false => rfl
          | true => obtain ⟨_, h2⟩ := HSH.out.1 hb; exact absurd h2 hat
        exact this
      generalize fs[k - 1] = f at *
      go_wp2_with fail
      go_ret
      exact ⟨ret_bool (by rw [← HRR.out, HR.out]), HB1.out⟩
  · have HR : Hid (shB fs a = false) := by
      have : shB fs a = false := by
        cases hb : shB fs a with
        | false => rfl
        | true => obtain ⟨h1, _⟩ := HSH.out.1 hb; exact absurd h1 hk0
      exact this
    go_wp2_with fail
    go_ret
    exact ⟨ret_bool (by rw [← HRR.out, HR.out]), HB1.out⟩

end Go.Proofs.Ytkpieeldoielgaa
