/- switchyardlaw07.awake: true. -/
import Derived.Test.YtnmcdkhfjkpklaaTwoW
import Derived.Test.YtnmcdkhfjkpklaaResW
import Derived.Test.YtnmcdkhfjkpklaaTexts
namespace Go.Proofs.Ytnmcdkhfjkpklaa
open Go.RowKit

theorem two_tab : tabL [twoA, twoB] = ⟨[0, 8], [⟨⟨#[97]⟩, 0, true⟩, ⟨⟨#[98]⟩, 5, false⟩, ⟨⟨#[98]⟩, 9, true⟩, ⟨⟨#[99]⟩, 11, false⟩], 0, 0⟩ := by kernel_rfl
theorem two_res0 : resL [twoA, twoB] 0 ⟨#[98]⟩ = (5, 0) := by kernel_rfl
theorem two_res1 : resL [twoA, twoB] 1 ⟨#[98]⟩ = (9, 0) := by kernel_rfl

theorem two_table (p : Option Addr) (w : World) (h : Units w p [twoA, twoB]) : Calls Try.prog 9 #[.slice p 2 2] w fun E w' => ∃ p2 c2 p3 c3, E = .returned (.tuple #[.slice p2 2 c2, .slice p3 4 c3, .int .i64 0, .int .i64 0]) ∧ GRow w' p2 (nums [0, 8]) ∧ Row3 w' p3 ([⟨⟨#[97]⟩, 0, true⟩, ⟨⟨#[98]⟩, 5, false⟩, ⟨⟨#[98]⟩, 9, true⟩, ⟨⟨#[99]⟩, 11, false⟩].map syV) ∧ Below w.heap.size w w' := by
  have hT := table_any p 2 2 [twoA, twoB] w rfl (by decide) h
  unfold TabIs at hT
  rw [two_tab] at hT
  refine hT.mono ?_
  rintro E w1 ⟨v2, v3, rfl, h2, h3, hb⟩
  obtain ⟨p2, c2, rfl, hr2, -, -⟩ := h2.slice
  obtain ⟨p3, c3, rfl, -, -, hr3⟩ := h3.row3
  exact ⟨p2, c2, p3, c3, rfl, hr2, hr3, hb⟩
theorem two_resolve0 (p : Option Addr) (w : World) (h : Units w p [twoA, twoB]) : Calls Try.prog 12 #[.slice p 2 2, .int .i64 0, .string ⟨#[98]⟩] w fun E w' => E = .returned (.tuple #[.int .i64 5, .int .i64 0]) ∧ Below w.heap.size w w' := by
  have hT := resolve_any p 2 2 [twoA, twoB] 0 ⟨#[98]⟩ w rfl (by decide) h
  rw [two_res0] at hT
  exact hT
theorem two_resolve1 (p : Option Addr) (w : World) (h : Units w p [twoA, twoB]) : Calls Try.prog 12 #[.slice p 2 2, .int .i64 1, .string ⟨#[98]⟩] w fun E w' => E = .returned (.tuple #[.int .i64 9, .int .i64 0]) ∧ Below w.heap.size w w' := by
  have hT := resolve_any p 2 2 [twoA, twoB] 1 ⟨#[98]⟩ w rfl (by decide) h
  rw [two_res1] at hT
  exact hT
theorem ints_lit2 (w : World) (a b : Int) : GRow (w.alloc (.cells #[.int .i64 a, .int .i64 b] 3)) (some ⟨w.heap.size, 0, none⟩) (nums [a, b]) := fun _ => ⟨w.heap.size, 0, rfl, fun i hi => by
  have hB := Blk.new w 3 #[.int .i64 a, .int .i64 b]
  match i, hi with
  | 0, _ => exact hB.cell 0
  | 1, _ => exact hB.cell 1⟩

set_option maxRecDepth 20000 in
set_option maxHeartbeats 4000000 in
theorem awake_any (w : World) : Calls Try.prog 15 #[] w fun E w' => E = .returned (.bool true) ∧ Below w.heap.size w w' := by
  go_enter Try.func15, Try.ntmps15
  go_wp2_with (go_at_call 10; refine Hid.out ?_)
  refine Lib.hid ?_
  refine (two_any w).mono ?_
  rintro E w1 ⟨p1, rfl, hu1, hb1⟩
  have HB1 := Hid.in hb1
  clear hb1
  go_wp2_with (go_at_call 9; refine Hid.out ?_)
  refine Lib.hid ?_
  refine (two_table p1 w1 hu1).mono ?_
  rintro E w2 ⟨q2, d2, q3, d3, rfl, hr2, hr3, hb2⟩
  have HB2 := Hid.in (below_step HB1.out hb2)
  have HR2 := Hid.in hr2
  have HR3 := Hid.in hr3
  clear hb2 hr2 hr3 hu1 HB1
  go_wp2_with (go_at_call 10; refine Hid.out ?_)
  refine Lib.hid ?_
  refine (two_any w2).mono ?_
  rintro E w3 ⟨p3, rfl, hu3, hb3⟩
  have HB3 := Hid.in (below_step HB2.out hb3)
  have HR2' := Hid.in (HR2.out.below hb3)
  have HR3' := Hid.in (HR3.out.below hb3)
  clear hb3 HR2 HR3 HB2
  go_wp2_with (go_at_call 12; refine Hid.out ?_)
  refine Lib.hid ?_
  refine (two_resolve0 p3 w3 hu3).mono ?_
  rintro E w4 ⟨rfl, hb4⟩
  have HB4 := Hid.in (below_step HB3.out hb4)
  have HR2 := Hid.in (HR2'.out.below hb4)
  have HR3 := Hid.in (HR3'.out.below hb4)
  clear hb4 HR2' HR3' HB3 hu3
  go_wp2_with (go_at_call 10; refine Hid.out ?_)
  refine Lib.hid ?_
  refine (two_any w4).mono ?_
  rintro E w5 ⟨p5, rfl, hu5, hb5⟩
  have HB5 := Hid.in (below_step HB4.out hb5)
  have HR2' := Hid.in (HR2.out.below hb5)
  have HR3' := Hid.in (HR3.out.below hb5)
  clear hb5 HR2 HR3 HB4
  go_wp2_with (go_at_call 12; refine Hid.out ?_)
  refine Lib.hid ?_
  refine (two_resolve1 p5 w5 hu5).mono ?_
  rintro E w6 ⟨rfl, hb6⟩
  have HB6 := Hid.in (below_step HB5.out hb6)
  have HR2 := Hid.in (HR2'.out.below hb6)
  have HR3 := Hid.in (HR3'.out.below hb6)
  clear hb6 HR2' HR3' HB5 hu5
  go_wp2_with (go_at_call 14; refine Hid.out ?_)
  refine Lib.hid ?_
  have hS : Calls Try.prog 14 #[.slice q2 2 d2, .slice (some ⟨w6.heap.size, 0, none⟩) 2 2] (w6.alloc (.cells #[.int .i64 0, .int .i64 8] 3)) fun E w' => E = .returned (.bool true) ∧ ∃ m, w' = (w6.alloc (.cells #[.int .i64 0, .int .i64 8] 3)).drewN m := sameInts_self q2 (some ⟨w6.heap.size, 0, none⟩) 2 d2 2 [0, 8] _ (by decide) rfl (HR2.out.below (new_alloc w6 _)) (ints_lit2 w6 0 8)
  refine hS.mono ?_
  rintro E W ⟨rfl, z7, rfl⟩
  clear hS
  have HW7 : Hid (Below w6.heap.size w6 ((w6.alloc (.cells #[.int .i64 0, .int .i64 8] 3)).drewN z7)) := below_draws (new_alloc w6 _) z7
  have HB7 := Hid.in (below_step HB6.out HW7.out)
  have HR7 := Hid.in (HR3.out.below HW7.out)
  generalize World.drewN (w6.alloc (.cells #[.int .i64 0, .int .i64 8] 3)) z7 = w7 at *
  obtain ⟨b, o, rfl, hc⟩ := HR7.out (by decide)
  obtain ⟨c0, c1, c2⟩ := cells3 hc 3 (by decide)
  have c0' : w7.cell? ⟨b, o + 9, none⟩ = some (.string ⟨#[99]⟩) := c0
  have c1' : w7.cell? ⟨b, o + 9 + 1, none⟩ = some (.int .i64 11) := c1
  have c2' : w7.cell? ⟨b, o + 9 + 2, none⟩ = some (.bool false) := c2
  clear c0 c1 c2 hc HR7 HR2 HR3 HB6 HW7
  go_wp2_with fail
  go_ret
  exact ⟨rfl, HB7.out⟩

end Go.Proofs.Ytnmcdkhfjkpklaa
