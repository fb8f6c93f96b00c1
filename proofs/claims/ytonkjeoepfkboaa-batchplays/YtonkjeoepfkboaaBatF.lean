/- awake; batches that are none. -/
import Derived.Test.YtonkjeoepfkboaaBatK
import Derived.Great.BuildSlice
namespace Go.Proofs.Ytonkjeoepfkboaa
open Go.RowKit

set_option maxHeartbeats 400000 in
theorem find_none (v : Value) (a : Int) (w : World) (h : Calls Try.prog 17 #[v] w fun e w' => e = .returned (.bool true) ∧ w' = w) :
    Calls Try.prog 12 #[v, .int .i64 a] w fun e w' => e = .returned (.tuple #[.int .i64 0, .bool false]) ∧ w' = w := by
  go_enter Try.func12, Try.ntmps12
  go_wp2_with (go_at_call 17; refine Hid.out ?_)
  refine Lib.hid ?_
  refine h.mono ?_
  rintro e w1 ⟨rfl, hw⟩
  rw [hw]
  clear hw
  go_wp2_with fail
  go_ret2
  exact ⟨rfl, rfl⟩
set_option maxHeartbeats 400000 in
theorem add_none (v : Value) (a : Int) (t : Int) (up : Bool) (w : World) (h : Calls Try.prog 17 #[v] w fun e w' => e = .returned (.bool true) ∧ w' = w) :
    Calls Try.prog 8 #[v, .int .i64 a, .int .i64 t, .bool up] w fun e w' => e = .returned (.int .i64 1) ∧ w' = w := by
  go_enter Try.func8, Try.ntmps8
  go_wp2_with (go_at_call 17; refine Hid.out ?_)
  refine Lib.hid ?_
  refine h.mono ?_
  rintro e w1 ⟨rfl, hw⟩
  rw [hw]
  clear hw
  go_wp2_with fail
  go_ret
  exact ⟨rfl, rfl⟩
set_option maxHeartbeats 400000 in
theorem len_none (v : Value) (w : World) (h : Calls Try.prog 17 #[v] w fun e w' => e = .returned (.bool true) ∧ w' = w) :
    Calls Try.prog 14 #[v] w fun e w' => e = .returned (.int .i64 0) ∧ w' = w := by
  go_enter Try.func14, Try.ntmps14
  go_wp2_with (go_at_call 17; refine Hid.out ?_)
  refine Lib.hid ?_
  refine h.mono ?_
  rintro e w1 ⟨rfl, hw⟩
  rw [hw]
  clear hw
  go_wp2_with fail
  go_ret
  exact ⟨rfl, rfl⟩
set_option maxHeartbeats 400000 in
theorem all_none (v : Value) (w : World) (h : Calls Try.prog 17 #[v] w fun e w' => e = .returned (.bool true) ∧ w' = w) :
    Calls Try.prog 11 #[v] w fun e w' => e = .returned (.slice none 0 0) ∧ w' = w := by
  go_enter Try.func11, Try.ntmps11
  go_wp2_with (go_at_call 17; refine Hid.out ?_)
  refine Lib.hid ?_
  refine h.mono ?_
  rintro e w1 ⟨rfl, hw⟩
  rw [hw]
  clear hw
  go_wp2_with fail
  go_ret
  exact ⟨rfl, rfl⟩
set_option maxHeartbeats 400000 in
theorem clear_none (v : Value) (w : World) (h : Calls Try.prog 17 #[v] w fun e w' => e = .returned (.bool true) ∧ w' = w) :
    Calls Try.prog 9 #[v] w fun e w' => e = .returned (.int .i64 0) ∧ w' = w := by
  go_enter Try.func9, Try.ntmps9
  go_wp2_with (go_at_call 17; refine Hid.out ?_)
  refine Lib.hid ?_
  refine h.mono ?_
  rintro e w1 ⟨rfl, hw⟩
  rw [hw]
  clear hw
  go_wp2_with fail
  go_ret
  exact ⟨rfl, rfl⟩
set_option maxHeartbeats 400000 in
theorem copy_none (v : Value) (w : World) (h : Calls Try.prog 17 #[v] w fun e w' => e = .returned (.bool true) ∧ w' = w) :
    Calls Try.prog 10 #[v] w fun e w' => e = .returned (.pointer none) ∧ w' = w := by
  go_enter Try.func10, Try.ntmps10
  go_wp2_with (go_at_call 17; refine Hid.out ?_)
  refine Lib.hid ?_
  refine h.mono ?_
  rintro e w1 ⟨rfl, hw⟩
  rw [hw]
  clear hw
  go_wp2_with fail
  go_ret
  exact ⟨rfl, rfl⟩

def L1 : List Si := [⟨1, 20, 5⟩]
def L2 : List Si := [⟨0, 0, 9⟩, ⟨1, 20, 5⟩]
theorem ex1 : addE [] 20 5 = 0 ∧ addR [] 20 5 true = L1 := ⟨by decide, by decide⟩
theorem ex2 : addE L1 0 9 = 0 ∧ addR L1 0 9 false = L2 := ⟨by decide, by decide⟩
theorem ex3 : addE L2 24 0 = 2 ∧ addR L2 24 0 true = L2 := ⟨by decide, by decide⟩
theorem ex4 : fndI L2 20 = 1 ∧ fndB L2 20 = true ∧ fndI L2 1 = 0 ∧ fndB L2 1 = false := ⟨by decide, by decide, by decide, by decide⟩
theorem two_row (w : World) : Row3 (w.alloc (.cells #[.int .i64 0, .int .i64 0, .int .i64 9, .int .i64 1, .int .i64 20, .int .i64 5] 35)) (some ⟨w.heap.size, 0, none⟩) (L2.map siV) := fun _ => by
  refine ⟨w.heap.size, 0, rfl, fun i hi j hj => ?_⟩
  have hb := Blk.new w 35 #[.int .i64 0, .int .i64 0, .int .i64 9, .int .i64 1, .int .i64 20, .int .i64 5]
  rw [hb.cell]
  have hi' : i < 2 := hi
  rcases (by omega : i = 0 ∨ i = 1) with rfl | rfl <;> rcases (by omega : j = 0 ∨ j = 1 ∨ j = 2) with rfl | rfl | rfl <;> rfl
set_option maxRecDepth 20000 in
set_option maxHeartbeats 1000000 in
theorem awake_any (w : World) : Calls Try.prog 16 #[] w fun e w' => e = .returned (.bool true) ∧ Below w.heap.size w w' := by
  go_enter Try.func16, Try.ntmps16
  go_wp2_with (go_at_call 6; refine Hid.out ?_)
  refine Lib.hid ?_
  refine (new_any w).mono ?_
  rintro e w1 ⟨rfl, hb, hl⟩
  have HB0 := Hid.in hb
  have HL0 := Hid.in hl
  clear hb hl
  go_wp2_with (go_at_call 8; refine Hid.out ?_)
  refine Lib.hid ?_
  refine (add_any _ _ 20 5 true w1 HB0.out).mono ?_
  rintro e w2 ⟨rfl, hb, hg⟩
  rw [ex1.2] at hb
  rw [ex1.1]
  have HB1 := Hid.in hb
  have HL1 := Hid.in (HL0.out.trans (below_grown hg (Nat.le_refl _) HL0.out.size))
  clear hb hg HB0 HL0
  go_wp2_with (go_at_call 8; refine Hid.out ?_)
  refine Lib.hid ?_
  refine (add_any _ _ 0 9 false w2 HB1.out).mono ?_
  rintro e w3 ⟨rfl, hb, hg⟩
  rw [ex2.2] at hb
  rw [ex2.1]
  have HB2 := Hid.in hb
  have HL2 := Hid.in (HL1.out.trans (below_grown hg (Nat.le_refl _) HL1.out.size))
  clear hb hg HB1 HL1
  go_wp2_with (go_at_call 8; refine Hid.out ?_)
  refine Lib.hid ?_
  refine (add_any _ _ 24 0 true w3 HB2.out).mono ?_
  rintro e w4 ⟨rfl, hb, hg⟩
  rw [ex3.2] at hb
  rw [ex3.1]
  have HB3 := Hid.in hb
  have HL3 := Hid.in (HL2.out.trans (below_grown hg (Nat.le_refl _) HL2.out.size))
  clear hb hg HB2 HL2
  go_wp2_with (go_at_call 12; refine Hid.out ?_)
  refine Lib.hid ?_
  refine (find_any _ _ 20 w4 HB3.out).mono ?_
  rintro e w5 ⟨rfl, nw5, hw⟩
  rw [ex4.1, ex4.2.1]
  have HB4 : Hid (Bat w5 w.heap.size L2) := by rw [hw]; exact HB3.out.drewN _
  have HL4 : Hid (Below w.heap.size w w5) := by rw [hw]; exact below_draws HL3.out _
  clear hw HB3 HL3
  go_wp2_with (go_at_call 12; refine Hid.out ?_)
  refine Lib.hid ?_
  refine (find_any _ _ 1 w5 HB4.out).mono ?_
  rintro e w6 ⟨rfl, nw6, hw⟩
  rw [ex4.2.2.1, ex4.2.2.2]
  have HB5 : Hid (Bat w6 w.heap.size L2) := by rw [hw]; exact HB4.out.drewN _
  have HL5 : Hid (Below w.heap.size w w6) := by rw [hw]; exact below_draws HL4.out _
  clear hw HB4 HL4
  go_wp2_with (go_at_call 11; refine Hid.out ?_)
  refine Lib.hid ?_
  refine (all_any _ _ w6 HB5.out).mono ?_
  rintro e w7 ⟨v, rfl, ht, hb⟩
  have HB7 := Hid.in (HB5.out.below hb)
  have HL7 := Hid.in (HL5.out.trans (hb.mono HL5.out.size))
  obtain ⟨p7, c7, hv, -, -, hr⟩ := ht.row3
  rw [List.length_map] at hv
  subst hv
  have HR := Hid.in hr
  clear hr ht hb HB5 HL5
  go_wp2_with (go_at_call 15; refine Hid.out ?_)
  refine Lib.hid ?_
  have hS := sameSites_any p7 (some ⟨w7.heap.size, 0, none⟩) 2 c7 2 2 L2 L2 (w7.alloc (.cells #[.int .i64 0, .int .i64 0, .int .i64 9, .int .i64 1, .int .i64 20, .int .i64 5] 35)) rfl rfl (by decide) (by decide) (HR.out.below (new_alloc _ _)) (two_row w7)
  have HB8 := Hid.in (HB7.out.below (new_alloc w7 (.cells #[.int .i64 0, .int .i64 0, .int .i64 9, .int .i64 1, .int .i64 20, .int .i64 5] 35)))
  have HL8 := Hid.in (HL7.out.alloc HL7.out.size (.cells #[.int .i64 0, .int .i64 0, .int .i64 9, .int .i64 1, .int .i64 20, .int .i64 5] 35))
  refine hS.mono ?_
  clear hS HR
  generalize w7.alloc (.cells #[.int .i64 0, .int .i64 0, .int .i64 9, .int .i64 1, .int .i64 20, .int .i64 5] 35) = w8 at *
  rintro e w9 ⟨⟨b, rfl, hb⟩, z, hw⟩
  obtain rfl : b = true := hb.2 rfl
  have HB9 : Hid (Bat w9 w.heap.size L2) := by rw [hw]; exact HB8.out.drewN _
  have HL9 : Hid (Below w.heap.size w w9) := by rw [hw]; exact below_draws HL8.out _
  clear hw hb HB7 HL7 HB8 HL8
  go_wp2_with (go_at_call 9; refine Hid.out ?_)
  refine Lib.hid ?_
  refine (clear_any _ _ w9 HB9.out).mono ?_
  rintro e w10 ⟨rfl, hb, hg⟩
  have HB10 := Hid.in hb
  have HL10 := Hid.in (HL9.out.trans (below_grown hg (Nat.le_refl _) HL9.out.size))
  clear hb hg HB9 HL9
  have h2 : (L2.length : Int) = 2 := rfl
  rw [h2]
  clear h2
  go_wp2_with (go_at_call 14; refine Hid.out ?_)
  refine Lib.hid ?_
  refine (len_any _ _ w10 HB10.out).mono ?_
  rintro e w11 ⟨rfl, hw⟩
  rw [hw]
  clear hw
  go_wp2_with fail
  go_ret
  exact ⟨rfl, HL10.out⟩

end Go.Proofs.Ytonkjeoepfkboaa
