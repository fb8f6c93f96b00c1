/- Next, the document's Next, what the law makes. -/
import Derived.Test.YtddoakipndkhiaaTrpA
namespace Go.Proofs.Ytddoakipndkhiaa
open Go.RowKit

/-- what Next tells -/
def nxtB (L : List Si) (a : Int) : Bool := fndB L a
def nxtV (L : List Si) (a : Int) : Int := if fndB L a = true then effT (L.getD (fndI L a) ⟨0, 0, 0⟩) ((L.getD (fndI L a) ⟨0, 0, 0⟩).key == 1) else 0
theorem fnd_at {L : List Si} {a : Int} (h : fndB L a = true) : ∃ hi : fndI L a < L.length, L[fndI L a].at_ = a := by
  unfold fndI
  rw [if_pos h]
  have h1 : L.findIdx (fun x => decide (x.at_ = a)) < L.length := by
    rw [List.findIdx_lt_length]
    unfold fndB at h
    rw [List.any_eq_true] at h
    exact h
  refine ⟨h1, ?_⟩
  have := List.findIdx_getElem (w := h1)
  simpa using this

set_option maxRecDepth 20000 in
set_option maxHeartbeats 1000000 in
theorem next_no (q : Nat) (L : List Si) (a : Int) (w : World) (ha : 0 ≤ a) (ha2 : a < 4294967296) (h : Bat w q L) (hf : fndB L a = false) : Calls Try.prog 8 #[.pointer (some ⟨q, 0, none⟩), .int .u32 a] w fun e w' => e = .returned (.tuple #[.int .u32 0, .bool false]) ∧ Below w.heap.size w w' := by
  have HB := Hid.in h
  clear h
  go_enter Try.func8, Try.ntmps8
  go_wp2_with (go_at_call 18; refine Hid.out ?_)
  refine Lib.hid ?_
  refine (find_any _ _ a w HB.out).mono ?_
  rintro E w1 ⟨rfl, n1, hw⟩
  have HL1 : Hid (Below w.heap.size w w1) := by rw [hw]; exact below_draws (below_self _) _
  rw [hf]
  clear hw HB hf
  go_wp2_with fail
  go_ret2
  exact ⟨rfl, HL1.out⟩
set_option maxRecDepth 20000 in
set_option maxHeartbeats 1000000 in
theorem next_yes (q : Nat) (L : List Si) (a : Int) (w : World) (ha : 0 ≤ a) (ha2 : a < 4294967296) (h : Bat w q L) (hf : fndB L a = true) (s : Si) (hs : L[fndI L a]? = some s) : Calls Try.prog 8 #[.pointer (some ⟨q, 0, none⟩), .int .u32 a] w fun e w' => e = .returned (.tuple #[.int .u32 (effT s (s.key == 1)), .bool true]) ∧ Below w.heap.size w w' := by
  have HB := Hid.in h
  have HS := Hid.in hs
  clear h hs
  obtain ⟨k, sa, t⟩ := s
  go_enter Try.func8, Try.ntmps8
  go_wp2_with (go_at_call 18; refine Hid.out ?_)
  refine Lib.hid ?_
  refine (find_any _ _ a w HB.out).mono ?_
  rintro E w1 ⟨rfl, n1, hw⟩
  have HB1 : Hid (Bat w1 q L) := by rw [hw]; exact HB.out.drewN _
  have HL1 : Hid (Below w.heap.size w w1) := by rw [hw]; exact below_draws (below_self _) _
  rw [hf]
  clear hw HB hf
  go_wp2_with (go_at_call 7; refine Hid.out ?_)
  refine Lib.hid ?_
  refine (all_any _ _ w1 HB1.out).mono ?_
  rintro E w2 ⟨v, rfl, ht, hb⟩
  have HL2 := Hid.in (below_step HL1.out hb)
  obtain ⟨p7, c7, hv, -, -, hr⟩ := ht.row3
  rw [List.length_map] at hv
  subst hv
  obtain ⟨b, o, rfl, hc⟩ := hr (by rw [List.length_map]; have := (List.getElem?_eq_some_iff.1 HS.out).1; omega)
  obtain ⟨hi, hse⟩ := List.getElem?_eq_some_iff.1 HS.out
  obtain ⟨c0, c1, c2⟩ := cells3 hc (fndI L a) (by rw [List.length_map]; exact hi)
  have hle : L.length ≤ 4 := HB1.out.le
  simp only [List.getElem_map, hse, siV] at c0 c1 c2
  clear hc hr ht hb HB1 HL1 HS hse
  generalize fndI L a = i at *
  generalize L.length = n at *
  clear L
  go_wp2_with (go_at_call 12; refine Hid.out ?_)
  refine Lib.hid ?_
  refine (effect_any ⟨k, sa, t⟩ (k == 1) _).mono ?_
  rintro E w3 ⟨rfl, hb3⟩
  have HL3 := Hid.in (below_step (below_step HL2.out (new_alloc _ _)) hb3)
  clear hb3
  go_wp2_with fail
  go_ret2
  exact ⟨rfl, HL3.out⟩
theorem next_any (q : Nat) (L : List Si) (a : Int) (w : World) (ha : 0 ≤ a) (ha2 : a < 4294967296) (h : Bat w q L) : Calls Try.prog 8 #[.pointer (some ⟨q, 0, none⟩), .int .u32 a] w fun e w' => e = .returned (.tuple #[.int .u32 (nxtV L a), .bool (nxtB L a)]) ∧ Below w.heap.size w w' := by
  unfold nxtV nxtB
  cases hf : fndB L a
  · exact next_no q L a w ha ha2 h hf
  · obtain ⟨hi, -⟩ := fnd_at hf
    have hs : L[fndI L a]? = some (L.getD (fndI L a) ⟨0, 0, 0⟩) := by simp [List.getD, hi]
    exact next_yes q L a w ha ha2 h hf _ hs
set_option maxHeartbeats 1000000 in
theorem next_nil (a : Int) (w : World) (ha : 0 ≤ a) (ha2 : a < 4294967296) : Calls Try.prog 8 #[.pointer none, .int .u32 a] w fun e w' => e = .returned (.tuple #[.int .u32 0, .bool false]) ∧ w' = w := by
  go_enter Try.func8, Try.ntmps8
  go_wp2_with (go_at_call 18; refine Hid.out ?_)
  refine Lib.hid ?_
  refine (find_none _ a w (none_nil w)).mono ?_
  rintro E w1 ⟨rfl, rfl⟩
  go_wp2_with fail
  go_ret2
  exact ⟨rfl, rfl⟩
set_option maxRecDepth 20000 in
set_option maxHeartbeats 1000000 in
theorem refNext_any (p : Option Addr) (n c : Nat) (L : List Si) (a : Int) (w : World) (hn : L.length = n) (hn6 : n ≤ 9223372036854775807) (ha : 0 ≤ a) (ha2 : a < 4294967296) (hL : ∀ j (h : j < L.length), 0 ≤ L[j].at_ ∧ L[j].at_ ≤ 65531) (h1 : Row3 w p (L.map siV)) :
    Calls Try.prog 9 #[.slice p n c, .int .u32 a] w fun E w' => E = .returned (.tuple #[.int .u32 (nxtV L a), .bool (nxtB L a)]) ∧ Below w.heap.size w w' := by
  have HL := Hid.in hn
  have H1 := Hid.in h1
  have HLL := Hid.in hL
  clear hn h1 hL
  go_enter Try.func9, Try.ntmps9
  go_wp2_with fail
  go_loop [6] (fun vi => ∃ k : Nat, vi = .int .i64 k ∧ k ≤ n ∧ ∀ j (h : j < L.length), j < k → L[j].at_ ≠ a) (fun vi => n - (intOf vi).toNat)
  case atStart => exact ⟨0, rfl, Nat.zero_le _, fun j _ h => absurd h (by omega)⟩
  case round =>
    obtain ⟨k, rfl, hk, ht⟩ := hrel
    have HT := Hid.in ht
    clear ht
    by_cases hkn : k < n
    · have hkL : k < L.length := by rw [HL.out]; exact hkn
      obtain ⟨b, o, rfl, hc⟩ := H1.out (by rw [List.length_map]; omega)
      obtain ⟨c0, c1, c2⟩ := cells3 hc k (by rw [List.length_map]; exact hkL)
      clear hc
      have hb := HLL.out k hkL
      have HE : Hid (L[k]? = some L[k]) := List.getElem?_eq_getElem hkL
      simp only [List.getElem_map, siV] at c0 c1 c2
      have HF : Hid (L[k].at_ = a → fndB L a = true ∧ fndI L a = k) := fun e => fnd_first hkL e (fun j hj => HT.out j (by omega) hj)
      have HG : Hid (L[k].at_ ≠ a → ∀ j (h : j < L.length), j < k + 1 → L[j].at_ ≠ a) := fun e j hj hjk => by
        by_cases e2 : j = k
        · subst e2; exact e
        · exact HT.out j hj (by omega)
      generalize L[k] = s at *
      obtain ⟨sk, sa, st⟩ := s
      simp only at c0 c1 c2 hb
      have hw1 : sa % 18446744073709551616 = sa := by omega
      by_cases hq : sa = a
      · subst hq
        obtain ⟨f1, f2⟩ := HF.out rfl
        have HV : Hid (nxtV L sa = effT ⟨sk, sa, st⟩ (sk == 1) ∧ nxtB L sa = true) := by
          refine ⟨?_, f1⟩
          unfold nxtV
          rw [if_pos f1, f2]
          have := HE.out
          simp [List.getD, this]
        clear f1 f2 HF HG HE HT hkL
        go_upto_region 5 with fail
        go_region_held3 (fun W => W.cell? ⟨b, o + k * 3, none⟩ = some (.int .i64 sk) ∧ W.cell? ⟨b, o + k * 3 + 1, none⟩ = some (.int .i64 sa) ∧ W.cell? ⟨b, o + k * 3 + 2, none⟩ = some (.int .i64 st)) (first | go_keep | exact hk1)
          (first | (go_at_call 13; refine (refEffect_any ⟨sk, sa, st⟩ (sk == 1) _).mono ?_; rintro E w3 ⟨rfl, hb3⟩; have HW3 := Hid.in (below_step (below_draws (below_self w) 1) hb3); have hk1 : w3.cell? ⟨b, o + k * 3, none⟩ = some (.int .i64 sk) ∧ w3.cell? ⟨b, o + k * 3 + 1, none⟩ = some (.int .i64 sa) ∧ w3.cell? ⟨b, o + k * 3 + 2, none⟩ = some (.int .i64 st) := ⟨(HW3.out.cell (p := ⟨b, o + k * 3, none⟩) (cell_lt c0)).trans c0, (HW3.out.cell (p := ⟨b, o + k * 3 + 1, none⟩) (cell_lt c1)).trans c1, (HW3.out.cell (p := ⟨b, o + k * 3 + 2, none⟩) (cell_lt c2)).trans c2⟩; clear hb3))
        go_wp2_with fail
        go_ret2
        exact ⟨by rw [HV.out.1, HV.out.2]; rfl, HW3.out⟩
      · have hq2 : (sa == a) = false := by simpa using hq
        clear HF HE
        go_wp2_with fail
        go_round
        case rel => exact ⟨k + 1, by go_num, by omega, HG.out hq⟩
        case measure => simp [intOf]; omega
    · have hkL : ¬ k < L.length := by rw [HL.out]; exact hkn
      obtain ⟨f1, f2⟩ := fnd_none (L := L) (a := a) (fun j hj => HT.out j hj (by omega))
      have HV : Hid (nxtV L a = 0 ∧ nxtB L a = false) := ⟨by unfold nxtV; rw [if_neg (by rw [f1]; decide)], f1⟩
      clear f1 f2 HT hkL
      go_wp2_with fail
      go_ret2
      exact ⟨by rw [HV.out.1, HV.out.2]; rfl, below_self _⟩
end Go.Proofs.Ytddoakipndkhiaa
