/- switchyardlaw14.awake answers true. -/
import Derived.Test.YtdbpeigcnhhpmaaDoT
import Derived.Test.YtdbpeigcnhhpmaaLit
namespace Go.Proofs.Ytdbpeigcnhhpmaa
open Go.RowKit

theorem row_four (w : World) : Row (w.alloc (.cells #[.int .u8 1, .int .u8 2, .int .u8 3, .int .u8 4] 5)) (some ⟨w.heap.size, 0, none⟩) [1, 2, 3, 4] := (Own.lit w [1, 2, 3, 4] (by decide)).row
theorem two_size (w : World) (A E : Array Value) : ((w.alloc (.cells A 32)).alloc (.cells E 37)).heap.size = w.heap.size + 1 + 1 := by rw [size_one, size_one]
theorem byt_four : Byt [1, 2, 3, 4] := byt_of _ (by decide)
abbrev lA (v : Value) : Array Value := #[.int .u32 0, .int .u32 67305985, .int .u32 0, .int .u32 0, .int .u32 0, .int .u32 0, .int .u32 0, .int .u32 0, v]

set_option maxHeartbeats 4000000 in
set_option maxRecDepth 8000 in
theorem awake_any (hdo : DoIs 9) (w : World) : Calls Try.prog 16 #[] w fun e w' => e = .returned (.bool true) ∧ Below w.heap.size w w' := by
  have h1 := do_at hdo 12 0 0 3 10 Z8 [] [] Z8 [15] _ none none 0 0 0 0 w aw1 (by decide) (by decide) (by decide) (by decide) (by decide) rfl rfl (by decide) rfl (by decide) (prow_nil _ _) (row_nil _ _) byt_nil
  go_enter Try.func16, Try.ntmps16
  go_wp2_with (go_at_call 9; refine Hid.out ?_)
  refine Lib.hid ?_
  refine h1.mono ?_
  rintro e w1 ⟨p1, c1, rfl, hr1, -, hb1⟩
  rw [show rgV Z8 (.slice p1 ([15] : List Int).length c1) = .agg (zA (.slice p1 1 c1)) from rfl, show (Value.agg (effA (goE 18))) = .agg (efA 18) from rfl]
  clear h1
  have HT1 := Hid.in (two_blk w1 (zA (.slice p1 1 c1)) (efA 18))
  have HZ1 := Hid.in (two_size w1 (zA (.slice p1 1 c1)) (efA 18))
  have HP1 := Hid.in (hr1.below (two_blk w1 (zA (.slice p1 1 c1)) (efA 18)).2.2)
  have HW1 := Hid.in (below_step hb1 (two_blk w1 (zA (.slice p1 1 c1)) (efA 18)).2.2)
  clear hr1 hb1
  go_wp2_with (go_at_call 9; refine Hid.out ?_)
  refine Lib.hid ?_
  generalize (w1.alloc (.cells (zA (.slice p1 1 c1)) 32)).alloc (.cells (efA 18) 37) = W1 at *
  have BR1 := Hid.in HT1.out.1
  have BX1 := Hid.in HT1.out.2.1
  clear HT1
  generalize w1.heap.size = g1 at *
  have h2 := do_at hdo 13 0 0 0 18 Z8 [15] [] Z8 [] _ p1 none 1 c1 0 0 W1 aw2 (by decide) (by decide) (by decide) (by decide) (by decide) rfl rfl (by decide) rfl (by decide) HP1.out (row_nil _ _) byt_nil
  refine h2.mono ?_
  rintro e w2 ⟨p2, c2, rfl, hr2, -, hb2⟩
  rw [show rgV Z8 (.slice p2 ([] : List Int).length c2) = .agg (zA (.slice p2 0 c2)) from rfl, show (Value.agg (effA (goE 15))) = .agg (efA 15) from rfl]
  clear h2
  have HT2 := Hid.in (two_blk w2 (zA (.slice p2 0 c2)) (efA 15))
  have HZ2 := Hid.in (two_size w2 (zA (.slice p2 0 c2)) (efA 15))
  have HS2 := Hid.in (below_step hb2 (two_blk w2 (zA (.slice p2 0 c2)) (efA 15)).2.2)
  have HW2 := Hid.in (below_step HW1.out HS2.out)
  have HPn2 := Hid.in (HP1.out.below HS2.out)
  have BR1_2 := Hid.in (BR1.out.grow HS2.out)
  have BX1_2 := Hid.in (BX1.out.grow HS2.out)
  clear hr2 hb2
  go_wp2_with (go_at_call 9; refine Hid.out ?_)
  refine Lib.hid ?_
  generalize (w2.alloc (.cells (zA (.slice p2 0 c2)) 32)).alloc (.cells (efA 15) 37) = W2 at *
  have BR2 := Hid.in HT2.out.1
  have BX2 := Hid.in HT2.out.2.1
  clear HT2
  generalize w2.heap.size = g2 at *
  clear BR1 BX1 HW1 HP1 HS2
  have HP2 := HPn2
  clear HPn2
  have h3 := do_at hdo 13 0 0 0 18 Z8 [] [] Z8 [] _ p2 none 0 c2 0 0 W2 aw3 (by decide) (by decide) (by decide) (by decide) (by decide) rfl rfl (by decide) rfl (by decide) (prow_nil _ _) (row_nil _ _) byt_nil
  refine h3.mono ?_
  rintro e w3 ⟨p3, c3, rfl, hr3, -, hb3⟩
  rw [show rgV Z8 (.slice p3 ([] : List Int).length c3) = .agg (zA (.slice p3 0 c3)) from rfl, show (Value.agg (effA { goE 19 with ht := true })) = .agg (efH 19) from rfl]
  clear h3
  have HT3 := Hid.in (two_blk w3 (zA (.slice p3 0 c3)) (efH 19))
  have HZ3 := Hid.in (two_size w3 (zA (.slice p3 0 c3)) (efH 19))
  have HS3 := Hid.in (below_step hb3 (two_blk w3 (zA (.slice p3 0 c3)) (efH 19)).2.2)
  have HW3 := Hid.in (below_step HW2.out HS3.out)
  have HPn3 := Hid.in (HP2.out.below HS3.out)
  have BR1_3 := Hid.in (BR1_2.out.grow HS3.out)
  have BX1_3 := Hid.in (BX1_2.out.grow HS3.out)
  have BR2_3 := Hid.in (BR2.out.grow HS3.out)
  have BX2_3 := Hid.in (BX2.out.grow HS3.out)
  clear hr3 hb3
  go_wp2_with (go_at_call 9; refine Hid.out ?_)
  refine Lib.hid ?_
  generalize (w3.alloc (.cells (zA (.slice p3 0 c3)) 32)).alloc (.cells (efH 19) 37) = W3 at *
  have BR3 := Hid.in HT3.out.1
  have BX3 := Hid.in HT3.out.2.1
  clear HT3
  generalize w3.heap.size = g3 at *
  clear BR1_2 BX1_2 BR2 BX2 HW2 HP2 HS3
  have HP3 := HPn3
  clear HPn3
  have h4 := do_at hdo 14 1 0 8 0 Z8 [] [1, 2, 3, 4] _ [] _ none (some ⟨g3 + 1 + 1, 0, none⟩) 0 0 4 4 (W3.alloc (.cells #[.int .u8 1, .int .u8 2, .int .u8 3, .int .u8 4] 5)) aw4 (by decide) (by decide) (by decide) (by decide) (by decide) rfl rfl (by decide) rfl (by decide) (prow_nil _ _) (by rw [← HZ3.out]; exact row_four _) byt_four
  refine h4.mono ?_
  rintro e w4 ⟨p4, c4, rfl, hr4, -, hb4⟩
  rw [show rgV [0, 67305985, 0, 0, 0, 0, 0, 0] (.slice p4 ([] : List Int).length c4) = .agg (lA (.slice p4 0 c4)) from rfl, show (Value.agg (effA (goE 6))) = .agg (efA 6) from rfl]
  clear h4
  have HT4 := Hid.in (two_blk w4 (lA (.slice p4 0 c4)) (efA 6))
  have HZ4 := Hid.in (two_size w4 (lA (.slice p4 0 c4)) (efA 6))
  have hb4 := below_step (new_alloc _ _) hb4
  have HS4 := Hid.in (below_step hb4 (two_blk w4 (lA (.slice p4 0 c4)) (efA 6)).2.2)
  have HW4 := Hid.in (below_step HW3.out HS4.out)
  have HPn4 := Hid.in (HP3.out.below HS4.out)
  have BR1_4 := Hid.in (BR1_3.out.grow HS4.out)
  have BX1_4 := Hid.in (BX1_3.out.grow HS4.out)
  have BR2_4 := Hid.in (BR2_3.out.grow HS4.out)
  have BX2_4 := Hid.in (BX2_3.out.grow HS4.out)
  have BR3_4 := Hid.in (BR3.out.grow HS4.out)
  have BX3_4 := Hid.in (BX3.out.grow HS4.out)
  clear hr4 hb4
  go_wp2_with (go_at_call 9; refine Hid.out ?_)
  refine Lib.hid ?_
  generalize (w4.alloc (.cells (lA (.slice p4 0 c4)) 32)).alloc (.cells (efA 6) 37) = W4 at *
  have BR4 := Hid.in HT4.out.1
  have BX4 := Hid.in HT4.out.2.1
  clear HT4
  generalize w4.heap.size = g4 at *
  clear BR1_3 BX1_3 BR2_3 BX2_3 BR3 BX3 HW3 HP3 HS4
  have HP4 := HPn4
  clear HPn4
  have h5 := do_at hdo 11 0 0 (-5) 100 Z8 [] [] Z8 [] _ none none 0 0 0 0 W4 aw5 (by decide) (by decide) (by decide) (by decide) (by decide) rfl rfl (by decide) rfl (by decide) (prow_nil _ _) (row_nil _ _) byt_nil
  refine h5.mono ?_
  rintro e w5 ⟨p5, c5, rfl, hr5, -, hb5⟩
  rw [show rgV Z8 (.slice p5 ([] : List Int).length c5) = .agg (zA (.slice p5 0 c5)) from rfl, show (Value.agg (effA (goE 100))) = .agg (efA 100) from rfl]
  clear h5
  have HT5 := Hid.in (two_blk w5 (zA (.slice p5 0 c5)) (efA 100))
  have HZ5 := Hid.in (two_size w5 (zA (.slice p5 0 c5)) (efA 100))
  have HS5 := Hid.in (below_step hb5 (two_blk w5 (zA (.slice p5 0 c5)) (efA 100)).2.2)
  have HW5 := Hid.in (below_step HW4.out HS5.out)
  have HPn5 := Hid.in (HP4.out.below HS5.out)
  have BR1_5 := Hid.in (BR1_4.out.grow HS5.out)
  have BX1_5 := Hid.in (BX1_4.out.grow HS5.out)
  have BR2_5 := Hid.in (BR2_4.out.grow HS5.out)
  have BX2_5 := Hid.in (BX2_4.out.grow HS5.out)
  have BR3_5 := Hid.in (BR3_4.out.grow HS5.out)
  have BX3_5 := Hid.in (BX3_4.out.grow HS5.out)
  have BR4_5 := Hid.in (BR4.out.grow HS5.out)
  have BX4_5 := Hid.in (BX4.out.grow HS5.out)
  clear hr5 hb5
  go_upto_region 6 with fail
  generalize (w5.alloc (.cells (zA (.slice p5 0 c5)) 32)).alloc (.cells (efA 100) 37) = W5 at *
  have BR5 := Hid.in HT5.out.1
  have BX5 := Hid.in HT5.out.2.1
  clear HT5
  generalize w5.heap.size = g5 at *
  clear BR1_4 BX1_4 BR2_4 BX2_4 BR3_4 BX3_4 BR4 BX4 HW4 HP4 HS5
  have HP5 := HPn5
  clear HPn5
  have x0 : W5.cell? ⟨g1 + 1, 0, none⟩ = some (.int .u32 18) := BX1_5.out.cell 0
  have x1 : W5.cell? ⟨g1, 8, none⟩ = some (.slice p1 1 c1) := BR1_5.out.cell 8
  have x2 : W5.cell? ⟨g2 + 1, 0, none⟩ = some (.int .u32 15) := BX2_5.out.cell 0
  have x3 : W5.cell? ⟨g2, 8, none⟩ = some (.slice p2 0 c2) := BR2_5.out.cell 8
  have x4 : W5.cell? ⟨g3 + 1, 1, none⟩ = some (.bool true) := BX3_5.out.cell 1
  have x5 : W5.cell? ⟨g3 + 1, 0, none⟩ = some (.int .u32 19) := BX3_5.out.cell 0
  have x6 : W5.cell? ⟨g4, 1, none⟩ = some (.int .u32 67305985) := BR4_5.out.cell 1
  have x7 : W5.cell? ⟨g4 + 1, 0, none⟩ = some (.int .u32 6) := BX4_5.out.cell 0
  have x8 : W5.cell? ⟨g5 + 1, 0, none⟩ = some (.int .u32 100) := BX5.out.cell 0
  have h23 := samePlaces_any p1 (some ⟨W5.heap.size, 0, none⟩) 1 c1 1 1 [15] [15] (W5.alloc (.cells #[.int .u32 15] 25)) rfl rfl (by decide) (HP5.out.below (new_alloc _ _)) (prow_one _ _)
  rw [sameB_self] at h23
  have HG := Hid.in (new_alloc W5 (.cells #[.int .u32 15] 25))
  go_wp2_with (go_at_call 23; refine Hid.out ?_)
  refine Lib.hid ?_
  refine h23.mono ?_
  rintro e W6 ⟨rfl, mq, rfl⟩
  have x2' : ((W5.alloc (.cells #[.int .u32 15] 25)).drewN mq).cell? ⟨g2 + 1, 0, none⟩ = some (.int .u32 15) := (BX2_5.out.grow HG.out).cell 0
  have x3' : ((W5.alloc (.cells #[.int .u32 15] 25)).drewN mq).cell? ⟨g2, 8, none⟩ = some (.slice p2 0 c2) := (BR2_5.out.grow HG.out).cell 8
  have x4' : ((W5.alloc (.cells #[.int .u32 15] 25)).drewN mq).cell? ⟨g3 + 1, 1, none⟩ = some (.bool true) := (BX3_5.out.grow HG.out).cell 1
  have x5' : ((W5.alloc (.cells #[.int .u32 15] 25)).drewN mq).cell? ⟨g3 + 1, 0, none⟩ = some (.int .u32 19) := (BX3_5.out.grow HG.out).cell 0
  have x6' : ((W5.alloc (.cells #[.int .u32 15] 25)).drewN mq).cell? ⟨g4, 1, none⟩ = some (.int .u32 67305985) := (BR4_5.out.grow HG.out).cell 1
  have x7' : ((W5.alloc (.cells #[.int .u32 15] 25)).drewN mq).cell? ⟨g4 + 1, 0, none⟩ = some (.int .u32 6) := (BX4_5.out.grow HG.out).cell 0
  have x8' : ((W5.alloc (.cells #[.int .u32 15] 25)).drewN mq).cell? ⟨g5 + 1, 0, none⟩ = some (.int .u32 100) := (BX5.out.grow HG.out).cell 0
  have HW6 := Hid.in (below_draws (below_step HW5.out HG.out) mq)
  generalize (W5.alloc (.cells #[.int .u32 15] 25)).drewN mq = W6 at *
  clear x0 x1 x2 x3 x4 x5 x6 x7 x8 h23
  have h13 := span_any 11 0 0 0 W6 (by decide) (by decide) (by decide)
  rw [aw6] at h13
  go_wp2_with (go_at_call 13; refine Hid.out ?_)
  refine Lib.hid ?_
  refine h13.mono ?_
  rintro e W7 ⟨rfl, hb7⟩
  go_wp2_with fail
  go_ret
  exact ⟨rfl, below_step HW6.out hb7⟩

end Go.Proofs.Ytdbpeigcnhhpmaa
