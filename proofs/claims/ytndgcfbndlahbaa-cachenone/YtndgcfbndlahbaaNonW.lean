/- CacheNone: what New did not answer. -/
import Derived.Test.YtndgcfbndlahbaaAwk
namespace Go.Proofs.Ytndgcfbndlahbaa
open Go.RowKit Go.Maps Go.WideMaps

set_option maxRecDepth 8000 in
set_option maxHeartbeats 4000000 in
theorem cnone_walk (g : Int) (hold : Bool) (w : World) :
    Calls Try.prog 5 #[.int .i64 g, .bool hold] w fun e w' => e = .returned (.bool true) ∧ Below w.heap.size w w' := by
  have HZ0 := Hid.in (noLin_zero (Blk.new w 55 #[.map none]))
  have HB0 := Hid.in (new_alloc w (.cells #[.map none] 55))
  go_enter Try.func5, Try.ntmps5
  go_upto_region 6 with (first
    | (refine wp_lit rfl 4 _ rfl [1, 2, 3, 4] rfl (by decide) (by decide) rfl ?_; intro w1 g1 HO1 HB1)
    | (go_at_call 6; refine (new_ok _ 4 4 [1, 2, 3, 4] w1 rfl (by decide) HO1.out.row).mono ?_; rintro e w2 ⟨q, mg, rfl, -, hb⟩; have HZ2 := Hid.in ((HZ0.out.below HB1.out).below hb); have HB2 := Hid.in (below_step (below_step HB0.out HB1.out) hb); clear hb HO1 HB1 HZ0 HB0))
  have ht1 := take_none (some ⟨q, 0, none⟩) none g hold w2 (noLin_nil w2)
  rw [show fV zF = .agg #[.int .u8 0, .int .u8 0, .int .u8 0, .int .u8 0] from rfl] at ht1
  go_upto_region 7 with (go_at_call 9; refine ht1.mono ?_; rintro e w3 ⟨rfl, hb⟩; have HZ3 := Hid.in (HZ2.out.below hb); have HB3 := Hid.in (below_step HB2.out hb); clear hb ht1 HZ2 HB2)
  have HW4 := Hid.in (new_alloc w3 (.cells #[.int .u8 0, .int .u8 0, .int .u8 0, .int .u8 0] 34))
  have HZ4 := Hid.in (HZ3.out.below HW4.out)
  have HB4 := Hid.in (below_step HB3.out HW4.out)
  generalize w3.alloc (.cells #[.int .u8 0, .int .u8 0, .int .u8 0, .int .u8 0] 34) = w4 at *
  clear HW4 HZ3 HB3
  have ht2 := take_none (some ⟨q, 0, none⟩) (some ⟨w.heap.size, 0, none⟩) g hold w4 HZ4.out
  rw [show fV zF = .agg #[.int .u8 0, .int .u8 0, .int .u8 0, .int .u8 0] from rfl] at ht2
  go_upto_region 8 with (go_at_call 9; refine ht2.mono ?_; rintro e w5 ⟨rfl, hb⟩; have HZ5 := Hid.in (HZ4.out.below hb); have HB5 := Hid.in (below_step HB4.out hb); clear hb ht2 HZ4 HB4)
  have HW6 := Hid.in (new_alloc w5 (.cells #[.int .u8 0, .int .u8 0, .int .u8 0, .int .u8 0] 34))
  have HZ6 := Hid.in (HZ5.out.below HW6.out)
  have HB6 := Hid.in (below_step HB5.out HW6.out)
  generalize w5.alloc (.cells #[.int .u8 0, .int .u8 0, .int .u8 0, .int .u8 0] 34) = w6 at *
  clear HW6 HZ5 HB5
  go_upto_region 9 with (go_at_call 8; refine (lnew_any w6).mono ?_; rintro e w7 ⟨l, b, rfl, hl, hb⟩; have HL7 := Hid.in hl; have HZ7 := Hid.in (HZ6.out.below hb); have HB7 := Hid.in (below_step HB6.out hb); clear hl hb HZ6 HB6)
  have ht3 := take_nomem _ l b [] none zF g hold w7 HL7.out (gran_is_none (noMem_nil w7) g)
  rw [show fV zF = .agg #[.int .u8 0, .int .u8 0, .int .u8 0, .int .u8 0] from rfl] at ht3
  go_upto_region 10 with (go_at_call 9; refine ht3.mono ?_; rintro e w8 ⟨rfl, hb⟩; have HL8 := Hid.in (HL7.out.below hb); have HZ8 := Hid.in (HZ7.out.below hb); have HB8 := Hid.in (below_step HB7.out hb); clear hb ht3 HL7 HZ7 HB7)
  have HW9 := Hid.in (new_alloc w8 (.cells #[.int .u8 0, .int .u8 0, .int .u8 0, .int .u8 0] 34))
  have HL9 := Hid.in (HL8.out.below HW9.out)
  have HZ9 := Hid.in (HZ8.out.below HW9.out)
  have HB9 := Hid.in (below_step HB8.out HW9.out)
  generalize w8.alloc (.cells #[.int .u8 0, .int .u8 0, .int .u8 0, .int .u8 0] 34) = w9 at *
  clear HW9 HL8 HZ8 HB8
  have HWa := Hid.in (new_alloc w9 (.cells #[.bool false, .slice none 0 0] 57))
  have HLa := Hid.in (HL9.out.below HWa.out)
  have HZa := Hid.in (HZ9.out.below HWa.out)
  have HBa := Hid.in (below_step HB9.out HWa.out)
  have HNM := Hid.in (noMem_zero (Blk.new w9 57 #[.bool false, .slice none 0 0]))
  have ht4 := take_nomem _ l b [] (some ⟨w9.heap.size, 0, none⟩) zF g hold _ HLa.out (gran_is_none HNM.out g)
  rw [show fV zF = .agg #[.int .u8 0, .int .u8 0, .int .u8 0, .int .u8 0] from rfl] at ht4
  go_upto_region 11 with (go_at_call 9; refine ht4.mono ?_; rintro e wb ⟨rfl, hb⟩; have HLb := Hid.in (HLa.out.below hb); have HZb := Hid.in (HZa.out.below hb); have HBb := Hid.in (below_step HBa.out hb); clear hb ht4 HLa HZa HBa)
  generalize w9.heap.size = gm at *
  have HWc := Hid.in (new_alloc wb (.cells #[.int .u8 0, .int .u8 0, .int .u8 0, .int .u8 0] 34))
  have HLc := Hid.in (HLb.out.below HWc.out)
  have HZc := Hid.in (HZb.out.below HWc.out)
  have HBc := Hid.in (below_step HBb.out HWc.out)
  generalize wb.alloc (.cells #[.int .u8 0, .int .u8 0, .int .u8 0, .int .u8 0] 34) = wc at *
  clear HWc HLb HZb HBb HL9 HZ9 HB9 HWa HNM
  go_wp2_with (first
    | (go_at_call 16; first
      | (with_reducible refine (has_none none g _ (noLin_nil _)).mono ?_; rintro e wx ⟨rfl, rfl⟩)
      | (refine (has_none (some ⟨w.heap.size, 0, none⟩) g _ HZc.out).mono ?_; rintro e wx ⟨rfl, rfl⟩))
    | (go_at_call 11; first
      | (with_reducible refine (flush_none none _ (noLin_nil _)).mono ?_; rintro e wx ⟨rfl, rfl⟩)
      | (refine (flush_none (some ⟨w.heap.size, 0, none⟩) _ HZc.out).mono ?_; rintro e wx ⟨rfl, rfl⟩))
    | (go_at_call 14; first
      | (with_reducible refine (all_none none _ (noLin_nil _)).mono ?_; rintro e wx ⟨rfl, rfl⟩)
      | (with_reducible refine (all_none (some ⟨w.heap.size, 0, none⟩) _ HZc.out).mono ?_; rintro e wx ⟨rfl, rfl⟩)
      | (refine (all_any _ l b [] _ HLc.out (by decide) (fun x hx => by cases hx)).mono ?_; rintro e wd ⟨v, rfl, hv, hb⟩; obtain ⟨pv, cv, hv, -, -, -⟩ := hv.shape; subst hv; have HBd := Hid.in (below_step HBc.out hb); clear hb))
    | (go_at_call 13; refine (lcopy_none none _ (noLin_nil _)).mono ?_; rintro e wx ⟨rfl, rfl⟩)
    | (go_at_call 18; refine (awake_any wd).mono ?_; rintro e we ⟨rfl, hb⟩; have HBe := Hid.in (below_step HBd.out hb); clear hb))
  go_ret
  exact ⟨rfl, HBe.out⟩

end Go.Proofs.Ytndgcfbndlahbaa
