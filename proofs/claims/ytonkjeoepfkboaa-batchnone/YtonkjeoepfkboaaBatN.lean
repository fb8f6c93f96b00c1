/- BatchNone. -/
import Derived.Test.YtonkjeoepfkboaaBatF
namespace Go.Proofs.Ytonkjeoepfkboaa
open Go.RowKit

set_option maxRecDepth 20000 in
set_option maxHeartbeats 1000000 in
theorem none_walk (k a t : Int) (up : Bool) (w : World) : Calls Try.prog 5 #[.agg #[.int .i64 k, .int .i64 a, .int .i64 t, .bool up]] w fun e w' => e = .returned (.bool true) ∧ Below w.heap.size w w' := by
  go_enter Try.func5, Try.ntmps5
  go_upto_region 3 with fail
  obtain ⟨w2, hw2⟩ : ∃ w2, w2 = (w.alloc (.cells #[.int .i64 k, .int .i64 a, .int .i64 t, .bool up] 27)).alloc (.cells #[.bool false, .int .i64 0, .int .i64 0, .int .i64 0, .int .i64 0, .int .i64 0, .int .i64 0, .int .i64 0, .int .i64 0, .int .i64 0, .int .i64 0, .int .i64 0, .int .i64 0, .int .i64 0] 45) := ⟨_, rfl⟩
  rw [← hw2]
  have HX : Hid (Blk w2 w.heap.size 27 #[.int .i64 k, .int .i64 a, .int .i64 t, .bool up]) := by rw [hw2]; exact (Blk.new _ _ _).grow (new_alloc _ _)
  have HZ : Hid (w2.cell? ⟨w.heap.size + 1, 0, none⟩ = some (.bool false)) := by
    rw [hw2]
    have hb := Blk.new (w.alloc (.cells #[.int .i64 k, .int .i64 a, .int .i64 t, .bool up] 27)) 45 #[.bool false, .int .i64 0, .int .i64 0, .int .i64 0, .int .i64 0, .int .i64 0, .int .i64 0, .int .i64 0, .int .i64 0, .int .i64 0, .int .i64 0, .int .i64 0, .int .i64 0, .int .i64 0]
    rw [size_one] at hb
    exact (hb.cell 0).trans rfl
  have HBW : Hid (Below w.heap.size w w2) := by rw [hw2]; exact below_alloc (new_alloc _ _) _
  clear hw2
  have o1 : w2.cell? ⟨w.heap.size, 1, none⟩ = some (.int .i64 a) := (HX.out.cell 1).trans rfl
  have o2 : w2.cell? ⟨w.heap.size, 2, none⟩ = some (.int .i64 t) := (HX.out.cell 2).trans rfl
  have o3 : w2.cell? ⟨w.heap.size, 3, none⟩ = some (.bool up) := (HX.out.cell 3).trans rfl
  have HN := Hid.in (none_nil w2)
  have HO := Hid.in (none_zero (w.heap.size + 1) w2 HZ.out)
  clear HX HZ
  go_wp2_with (go_at_call 12; refine Hid.out ?_)
  refine Lib.hid ?_
  refine (find_none _ a w2 HN.out).mono ?_
  rintro e w3 ⟨rfl, hw⟩
  rw [hw]
  clear hw w3
  go_wp2_with (go_at_call 12; refine Hid.out ?_)
  refine Lib.hid ?_
  refine (find_none _ a w2 HO.out).mono ?_
  rintro e w3 ⟨rfl, hw⟩
  rw [hw]
  clear hw w3
  go_wp2_with (go_at_call 8; refine Hid.out ?_)
  refine Lib.hid ?_
  refine (add_none _ a t up w2 HN.out).mono ?_
  rintro e w3 ⟨rfl, hw⟩
  rw [hw]
  clear hw w3
  go_wp2_with (go_at_call 8; refine Hid.out ?_)
  refine Lib.hid ?_
  refine (add_none _ a t up w2 HO.out).mono ?_
  rintro e w3 ⟨rfl, hw⟩
  rw [hw]
  clear hw w3
  go_wp2_with (go_at_call 14; refine Hid.out ?_)
  refine Lib.hid ?_
  refine (len_none _ w2 HN.out).mono ?_
  rintro e w3 ⟨rfl, hw⟩
  rw [hw]
  clear hw w3
  go_wp2_with (go_at_call 14; refine Hid.out ?_)
  refine Lib.hid ?_
  refine (len_none _ w2 HO.out).mono ?_
  rintro e w3 ⟨rfl, hw⟩
  rw [hw]
  clear hw w3
  go_wp2_with (go_at_call 11; refine Hid.out ?_)
  refine Lib.hid ?_
  refine (all_none _ w2 HN.out).mono ?_
  rintro e w3 ⟨rfl, hw⟩
  rw [hw]
  clear hw w3
  go_wp2_with (go_at_call 11; refine Hid.out ?_)
  refine Lib.hid ?_
  refine (all_none _ w2 HO.out).mono ?_
  rintro e w3 ⟨rfl, hw⟩
  rw [hw]
  clear hw w3
  go_wp2_with (go_at_call 9; refine Hid.out ?_)
  refine Lib.hid ?_
  refine (clear_none _ w2 HN.out).mono ?_
  rintro e w3 ⟨rfl, hw⟩
  rw [hw]
  clear hw w3
  go_wp2_with (go_at_call 10; refine Hid.out ?_)
  refine Lib.hid ?_
  refine (copy_none _ w2 HN.out).mono ?_
  rintro e w3 ⟨rfl, hw⟩
  rw [hw]
  clear hw w3
  go_wp2_with (go_at_call 10; refine Hid.out ?_)
  refine Lib.hid ?_
  refine (copy_none _ w2 HO.out).mono ?_
  rintro e w3 ⟨rfl, hw⟩
  rw [hw]
  clear hw w3
  go_wp2_with (go_at_call 16; refine Hid.out ?_)
  refine Lib.hid ?_
  refine (awake_any w2).mono ?_
  rintro e w3 ⟨rfl, hb⟩
  have HB3 := Hid.in (below_step HBW.out hb)
  clear hb
  go_wp2_with fail
  go_ret
  exact ⟨rfl, HB3.out⟩
end Go.Proofs.Ytonkjeoepfkboaa
