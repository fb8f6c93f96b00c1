/- SyncsNone. -/
import Derived.Test.YtibbcenfkmgbcaaAwk
namespace Go.Proofs.Ytibbcenfkmgbcaa
open Go.RowKit

set_option maxHeartbeats 1000000 in
theorem none_walk (z : Int) (p : Option Addr) (n c : Nat) (w : World) : Calls Try.prog 5 #[.int .i64 z, .slice p n c] w fun e w' => e = .returned (.bool true) ∧ Below w.heap.size w w' := by
  go_enter Try.func5, Try.ntmps5
  go_wp2_with fail
  have HB := Hid.in (below_alloc (new_alloc w (.cells #[.bool false, .int .i64 0, .int .i64 0, .bool false, .bool false, .bool false, .bool false, .bool false, .bool false, .bool false, .bool false] 55)) (.cells #[.pointer none, .pointer (some ⟨w.heap.size, 0, none⟩)] 23))
  have cq : ((w.alloc (.cells #[.bool false, .int .i64 0, .int .i64 0, .bool false, .bool false, .bool false, .bool false, .bool false, .bool false, .bool false, .bool false] 55)).alloc (.cells #[.pointer none, .pointer (some ⟨w.heap.size, 0, none⟩)] 23)).cell? ⟨w.heap.size, 0, none⟩ = some (.bool false) := by
    rw [((Blk.new w 55 _).grow (new_alloc _ _)).cell]; rfl
  have d0 : ((w.alloc (.cells #[.bool false, .int .i64 0, .int .i64 0, .bool false, .bool false, .bool false, .bool false, .bool false, .bool false, .bool false, .bool false] 55)).alloc (.cells #[.pointer none, .pointer (some ⟨w.heap.size, 0, none⟩)] 23)).cell? ⟨w.heap.size + 1, 0, none⟩ = some (.pointer none) := by
    have := (Blk.new (w.alloc (.cells #[.bool false, .int .i64 0, .int .i64 0, .bool false, .bool false, .bool false, .bool false, .bool false, .bool false, .bool false, .bool false] 55)) 23 #[.pointer none, .pointer (some ⟨w.heap.size, 0, none⟩)]).cell 0
    rw [size_one] at this; exact this
  have d1 : ((w.alloc (.cells #[.bool false, .int .i64 0, .int .i64 0, .bool false, .bool false, .bool false, .bool false, .bool false, .bool false, .bool false, .bool false] 55)).alloc (.cells #[.pointer none, .pointer (some ⟨w.heap.size, 0, none⟩)] 23)).cell? ⟨w.heap.size + 1, 1, none⟩ = some (.pointer (some ⟨w.heap.size, 0, none⟩)) := by
    have := (Blk.new (w.alloc (.cells #[.bool false, .int .i64 0, .int .i64 0, .bool false, .bool false, .bool false, .bool false, .bool false, .bool false, .bool false, .bool false] 55)) 23 #[.pointer none, .pointer (some ⟨w.heap.size, 0, none⟩)]).cell 1
    rw [size_one] at this; exact this
  generalize (w.alloc (.cells #[.bool false, .int .i64 0, .int .i64 0, .bool false, .bool false, .bool false, .bool false, .bool false, .bool false, .bool false, .bool false] 55)).alloc (.cells #[.pointer none, .pointer (some ⟨w.heap.size, 0, none⟩)] 23) = W at *
  go_loop [17] (fun vi => vi = .int .i64 0 ∨ vi = .int .i64 1 ∨ vi = .int .i64 2) (fun vi => 2 - (intOf vi).toNat)
  case atStart => exact .inl rfl
  case round =>
    rcases hrel with rfl | rfl | rfl
    · have hN : Hid (NoR W none) := Hid.in (.inl rfl)
      go_wp2_with (go_at_call 9; refine Hid.out ?_)
      refine Lib.hid ?_
      refine (nsend hN.out _).mono ?_
      rintro e w4 ⟨rfl, hw⟩
      rw [hw]
      clear hw
      go_wp2_with (go_at_call 13; refine Hid.out ?_)
      refine Lib.hid ?_
      refine (ntake hN.out z).mono ?_
      rintro e w4 ⟨rfl, hw⟩
      rw [hw]
      clear hw
      go_wp2_with (go_at_call 20; refine Hid.out ?_)
      refine Lib.hid ?_
      refine (ndrop hN.out z).mono ?_
      rintro e w4 ⟨rfl, hw⟩
      rw [hw]
      clear hw
      go_wp2_with (go_at_call 12; refine Hid.out ?_)
      refine Lib.hid ?_
      refine (npending hN.out z).mono ?_
      rintro e w4 ⟨rfl, hw⟩
      rw [hw]
      clear hw
      go_wp2_with (go_at_call 10; refine Hid.out ?_)
      refine Lib.hid ?_
      refine (nover hN.out).mono ?_
      rintro e w4 ⟨rfl, hw⟩
      rw [hw]
      clear hw
      go_wp2_with (go_at_call 11; refine Hid.out ?_)
      refine Lib.hid ?_
      refine (nnumber hN.out).mono ?_
      rintro e w4 ⟨rfl, hw⟩
      rw [hw]
      clear hw
      go_wp2_with (go_at_call 21; refine Hid.out ?_)
      refine Lib.hid ?_
      refine (ncopy hN.out).mono ?_
      rintro e w4 ⟨rfl, hw⟩
      rw [hw]
      clear hw
      go_wp2_with fail
      go_round
      case rel => exact .inr (.inl rfl)
      case measure => simp [intOf]
    · have hN : Hid (NoR W (some ⟨w.heap.size, 0, none⟩)) := Hid.in (.inr ⟨_, rfl, cq⟩)
      go_wp2_with (go_at_call 9; refine Hid.out ?_)
      refine Lib.hid ?_
      refine (nsend hN.out _).mono ?_
      rintro e w4 ⟨rfl, hw⟩
      rw [hw]
      clear hw
      go_wp2_with (go_at_call 13; refine Hid.out ?_)
      refine Lib.hid ?_
      refine (ntake hN.out z).mono ?_
      rintro e w4 ⟨rfl, hw⟩
      rw [hw]
      clear hw
      go_wp2_with (go_at_call 20; refine Hid.out ?_)
      refine Lib.hid ?_
      refine (ndrop hN.out z).mono ?_
      rintro e w4 ⟨rfl, hw⟩
      rw [hw]
      clear hw
      go_wp2_with (go_at_call 12; refine Hid.out ?_)
      refine Lib.hid ?_
      refine (npending hN.out z).mono ?_
      rintro e w4 ⟨rfl, hw⟩
      rw [hw]
      clear hw
      go_wp2_with (go_at_call 10; refine Hid.out ?_)
      refine Lib.hid ?_
      refine (nover hN.out).mono ?_
      rintro e w4 ⟨rfl, hw⟩
      rw [hw]
      clear hw
      go_wp2_with (go_at_call 11; refine Hid.out ?_)
      refine Lib.hid ?_
      refine (nnumber hN.out).mono ?_
      rintro e w4 ⟨rfl, hw⟩
      rw [hw]
      clear hw
      go_wp2_with (go_at_call 21; refine Hid.out ?_)
      refine Lib.hid ?_
      refine (ncopy hN.out).mono ?_
      rintro e w4 ⟨rfl, hw⟩
      rw [hw]
      clear hw
      go_wp2_with fail
      go_round
      case rel => exact .inr (.inr rfl)
      case measure => simp [intOf]
    · go_wp2_with (go_at_call 14; refine Hid.out ?_)
      refine Lib.hid ?_
      refine (awake_any _).mono ?_
      rintro e wa ⟨rfl, hba⟩
      have HBa := Hid.in (below_step HB.out hba)
      clear hba
      go_wp2_with fail
      go_ret
      exact ⟨rfl, HBa.out⟩

end Go.Proofs.Ytibbcenfkmgbcaa
