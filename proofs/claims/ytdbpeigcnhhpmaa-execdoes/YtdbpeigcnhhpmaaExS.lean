/- exec.Span, switchyardref14.Span, exec.fault, for every instruction. -/
import Derived.Test.YtdbpeigcnhhpmaaRgc
import Derived.Test.YtdbpeigcnhhpmaaEnc
import Derived.Test.YtdbpeigcnhhpmaaRefEnc
namespace Go.Proofs.Ytdbpeigcnhhpmaa
open Go.RowKit

/-- how long an instruction is: 0, if it is not right -/
def spanN (o : Nat) (a b n : Int) : Nat := if rightB o a b n = true then lenN o else 0

set_option maxHeartbeats 1000000 in
theorem span_any (o : Nat) (a b n : Int) (w : World) (ho : o ≤ 255) (ha : 0 ≤ a ∧ a ≤ 255) (hb : 0 ≤ b ∧ b ≤ 255) :
    Calls Try.prog 13 #[ins o a b n] w fun e w' => e = .returned (.int .i64 (spanN o a b n)) ∧ Below w.heap.size w w' := by
  cases hR : rightB o a b n
  · have hcon := fun w => encode_no o a b n w ho ha hb hR
    have hs : spanN o a b n = 0 := by simp [spanN, hR]
    rw [hs]
    clear hR hs
    go_enter Try.func13, Try.ntmps13
    go_wp2_with (go_at_call 24; refine (hcon _).mono ?_; rintro e w1 ⟨rfl, hb1⟩; have HB := Hid.in (below_step (new_alloc _ _) hb1); clear hb1)
    go_ret
    exact ⟨rfl, HB.out⟩
  · have hcon := fun w => encode_yes o a b n w ha hb hR
    have hs : spanN o a b n = lenN o := by simp [spanN, hR]
    rw [hs]
    clear hR hs
    generalize lenN o = l at *
    go_enter Try.func13, Try.ntmps13
    go_wp2_with (go_at_call 24; refine (hcon _).mono ?_; rintro e w1 ⟨g, cap, rfl, -, hb1⟩; have HB := Hid.in (below_step (new_alloc _ _) hb1); clear hb1)
    go_ret
    exact ⟨rfl, HB.out⟩

theorem bcell {W w1 : World} (hb : Below W.heap.size W w1) : (∀ b o, b < W.heap.size → w1.cell? ⟨b, o, none⟩ = W.cell? ⟨b, o, none⟩) ∧ (∀ b o, b < W.heap.size → w1.frozen? ⟨b, o, none⟩ = W.frozen? ⟨b, o, none⟩) :=
  ⟨fun b o h => hb.cell (p := ⟨b, o, none⟩) h, fun b o h => hb.frozen (p := ⟨b, o, none⟩) h⟩
theorem ret_int {k : IntKind} {a b : Int} (h : a = b) : Ending.returned (.int k a) = .returned (.int k b) := by rw [h]

set_option maxHeartbeats 1000000 in
theorem rspan_any (o : Nat) (a b n : Int) (w : World) (ha : 0 ≤ a ∧ a ≤ 255) (hb : 0 ≤ b ∧ b ≤ 255) :
    Calls Try.prog 14 #[ins o a b n] w fun e w' => e = .returned (.int .i64 (spanN o a b n)) ∧ Below w.heap.size w w' := by
  cases hR : rightB o a b n
  · have hcon := fun w => rencode_no o a b n w ha hb hR
    have hs : spanN o a b n = 0 := by simp [spanN, hR]
    rw [hs]
    clear hR hs
    go_enter Try.func14, Try.ntmps14
    go_wp2_with (go_at_call 25; refine (hcon _).mono ?_; rintro e w1 ⟨rfl, hb1⟩; have HB := Hid.in (below_step (new_alloc _ _) hb1); clear hb1)
    go_ret
    exact ⟨rfl, HB.out⟩
  · have hcon := fun w => rencode_yes o a b n w ha hb hR
    have hs : spanN o a b n = lenN o := by simp [spanN, hR]
    have hl : (encL o a b n).length = lenN o := encL_length o a b n (rightB_parts hR).1.2
    rw [hs]
    clear hR hs
    generalize lenN o = l at *
    have HL := Hid.in hl
    clear hl
    go_enter Try.func14, Try.ntmps14
    go_wp2_with (go_at_call 25; refine (hcon _).mono ?_; rintro e w1 ⟨v, rfl, hv, hb1⟩; obtain ⟨pv, cv, rfl, -, -⟩ := hv.slice; rw [HL.out]; have HB := Hid.in (below_step (new_alloc _ _) hb1); clear hb1 hv hcon)
    go_ret
    exact ⟨rfl, HB.out⟩

/-- what can't be done -/
def fltL (o : Nat) (a b n : Int) (s d : Nat) : Int :=
  if rightB o a b n = false then 120 else if o = 4 then 120 else if o = 12 then (if 64 ≤ s then 3 else 0) else if o = 14 ∨ o = 15 then (if d < 4 then 210 else 0) else 0

set_option maxHeartbeats 2000000 in
theorem fault_any (o : Nat) (a b n : Int) (p q : Option Addr) (s sc d dc : Nat) (w : World) (ho : o ≤ 255) (ha : 0 ≤ a ∧ a ≤ 255) (hb : 0 ≤ b ∧ b ≤ 255) (hs : s ≤ 9223372036854775807) (hd : d ≤ 9223372036854775807) :
    Calls Try.prog 20 #[ins o a b n, .slice p s sc, .slice q d dc] w fun e w' => e = .returned (.int .i64 (fltL o a b n s d)) ∧ Below w.heap.size w w' := by
  have hcon := fun w => right_any o a b n w ho ha hb
  have HF : Hid (fltL o a b n s d = if rightB o a b n = false then 120 else if o = 4 then 120 else if o = 12 then (if 64 ≤ s then 3 else 0) else if o = 14 ∨ o = 15 then (if d < 4 then 210 else 0) else 0) := rfl
  generalize fltL o a b n s d = f at *
  cases hR : rightB o a b n
  · rw [hR] at hcon HF
    obtain rfl : f = 120 := HF.out
    clear hR HF
    go_enter Try.func20, Try.ntmps20
    go_wp2_with (go_at_call 27; refine (hcon _).mono ?_; rintro e w1 ⟨rfl, hb1⟩; have HB := Hid.in (below_step (new_alloc _ _) hb1); clear hb1)
    go_ret
    exact ⟨rfl, HB.out⟩
  · rw [hR] at hcon HF
    have HF2 : Hid (f = if o = 4 then 120 else if o = 12 then (if 64 ≤ s then 3 else 0) else if o = 14 ∨ o = 15 then (if d < 4 then 210 else 0) else 0) := HF.out
    clear hR HF
    have HB0 : ∀ w1, Below (w.alloc (.cells #[.int .u8 o, .int .u8 a, .int .u8 b, .int .i32 n] 24)).heap.size (w.alloc (.cells #[.int .u8 o, .int .u8 a, .int .u8 b, .int .i32 n] 24)) w1 → Below w.heap.size w w1 ∧ w1.cell? ⟨w.heap.size, 0, none⟩ = some (.int .u8 o) := fun w1 h => ⟨below_step (new_alloc _ _) h, ((Blk.new w 24 _).grow h).cell 0⟩
    rcases (by omega : o = 4 ∨ o = 12 ∨ o = 14 ∨ o = 15 ∨ (o ≠ 4 ∧ o ≠ 12 ∧ o ≠ 14 ∧ o ≠ 15)) with rfl | rfl | rfl | rfl | ⟨n1, n2, n3, n4⟩
    · obtain rfl : f = 120 := HF2.out
      go_enter Try.func20, Try.ntmps20
      go_wp2_with (go_at_call 27; refine (hcon _).mono ?_; rintro e w1 ⟨rfl, hb1⟩; obtain ⟨HB, hc⟩ := HB0 _ hb1; clear hb1 HB0)
      go_ret
      exact ⟨rfl, HB⟩
    · by_cases h64 : 64 ≤ s
      · obtain rfl : f = 3 := by rw [HF2.out]; simp [h64]
        clear HF2
        go_enter Try.func20, Try.ntmps20
        go_wp2_with (go_at_call 27; refine (hcon _).mono ?_; rintro e w1 ⟨rfl, hb1⟩; obtain ⟨HB, hc⟩ := HB0 _ hb1; clear hb1 HB0)
        go_ret
        exact ⟨rfl, HB⟩
      · obtain rfl : f = 0 := by rw [HF2.out]; simp [h64]
        clear HF2
        go_enter Try.func20, Try.ntmps20
        go_wp2_with (go_at_call 27; refine (hcon _).mono ?_; rintro e w1 ⟨rfl, hb1⟩; obtain ⟨HB, hc⟩ := HB0 _ hb1; clear hb1 HB0)
        go_ret
        exact ⟨rfl, HB⟩
    · by_cases h4 : d < 4
      · obtain rfl : f = 210 := by rw [HF2.out]; simp [h4]
        clear HF2
        go_enter Try.func20, Try.ntmps20
        go_wp2_with (go_at_call 27; refine (hcon _).mono ?_; rintro e w1 ⟨rfl, hb1⟩; obtain ⟨HB, hc⟩ := HB0 _ hb1; clear hb1 HB0)
        go_ret
        exact ⟨rfl, HB⟩
      · obtain rfl : f = 0 := by rw [HF2.out]; simp [h4]
        clear HF2
        go_enter Try.func20, Try.ntmps20
        go_wp2_with (go_at_call 27; refine (hcon _).mono ?_; rintro e w1 ⟨rfl, hb1⟩; obtain ⟨HB, hc⟩ := HB0 _ hb1; clear hb1 HB0)
        go_ret
        exact ⟨rfl, HB⟩
    · by_cases h4 : d < 4
      · obtain rfl : f = 210 := by rw [HF2.out]; simp [h4]
        clear HF2
        go_enter Try.func20, Try.ntmps20
        go_wp2_with (go_at_call 27; refine (hcon _).mono ?_; rintro e w1 ⟨rfl, hb1⟩; obtain ⟨HB, hc⟩ := HB0 _ hb1; clear hb1 HB0)
        go_ret
        exact ⟨rfl, HB⟩
      · obtain rfl : f = 0 := by rw [HF2.out]; simp [h4]
        clear HF2
        go_enter Try.func20, Try.ntmps20
        go_wp2_with (go_at_call 27; refine (hcon _).mono ?_; rintro e w1 ⟨rfl, hb1⟩; obtain ⟨HB, hc⟩ := HB0 _ hb1; clear hb1 HB0)
        go_ret
        exact ⟨rfl, HB⟩
    · obtain rfl : f = 0 := by rw [HF2.out, if_neg n1, if_neg n2, if_neg (by omega)]
      clear HF2
      have m1 : ((o : Int) == 4) = false := by simp; omega
      have m2 : ((o : Int) == 12) = false := by simp; omega
      have m3 : ((o : Int) == 14) = false := by simp; omega
      have m4 : ((o : Int) == 15) = false := by simp; omega
      go_enter Try.func20, Try.ntmps20
      go_wp2_with (go_at_call 27; refine (hcon _).mono ?_; rintro e w1 ⟨rfl, hb1⟩; obtain ⟨HB, hc⟩ := HB0 _ hb1; clear hb1 HB0)
      go_ret
      exact ⟨rfl, HB⟩

end Go.Proofs.Ytdbpeigcnhhpmaa
