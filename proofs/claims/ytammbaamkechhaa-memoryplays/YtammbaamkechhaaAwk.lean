/- switchyardlaw11.awake answers true. -/
import Derived.Test.YtammbaamkechhaaEq4
import Derived.Great.BuildSlice
namespace Go.Proofs.Ytammbaamkechhaa
open Go.RowKit

/-- a literal slice of bytes: a block of its own -/
theorem wp_lit {ops : Array Oper} {rest : List Oper} {o : Oper} {a : Act} {w : World} {Q : Exit → Act → World → Prop} (hg : o.guard = none) (len : Nat) (parts : Array (Nat × Operand)) (ho : o.op = .buildSlice 26 len parts)
    (zs : List Int) (hlen : len = zs.length) (hpos : 0 < len) (hsmall : len ≤ 2 ^ 24) (hparts : parts.toList = (zs.zipIdx 0).map fun x => (x.2, Operand.const (Value.int .u8 x.1)))
    (h : ∀ w1 g, Hid (Own w1 w.heap.size g len zs) → Hid (Below w.heap.size w w1) → wpList Try.prog ops Q rest (a.put o.dst (.slice (some ⟨g, 0, none⟩) len len)) w1) : wpList Try.prog ops Q (o :: rest) a w := by
  refine wpList_buildFlat hg 26 5 len parts ho .u8 zs Try.underlying26 (by kernel_rfl) (by kernel_rfl) hlen hpos hsmall hparts ?_
  exact h _ _ (by subst hlen; exact Own.lit w zs (by unfold maxLen; omega)) (new_alloc _ _)

theorem Own.lowered {w : World} {B B' g cap : Nat} {xs : List Int} (h : Own w B g cap xs) (hB : B' ≤ B) : Own w B' g cap xs := h.lower hB

set_option maxRecDepth 4000 in
set_option maxHeartbeats 2000000 in
theorem awake_any (w : World) :
    Calls Try.prog 14 #[] w fun e w' => e = .returned (.bool true) ∧ Below w.heap.size w w' := by
  go_enter Try.func14, Try.ntmps14
  go_wp2_with (first
    | (refine wp_lit rfl 5 _ rfl [1, 2, 3, 4, 5] rfl (by decide) (by decide) rfl ?_; intro w1 g1 HO1 HB1)
    | (go_at_call 7; refine (new_ok _ 5 5 [1, 2, 3, 4, 5] w1 rfl (by decide) HO1.out.row).mono ?_; rintro e w2 ⟨q, g, rfl, hm, hb⟩; have HM := Hid.in hm; have HG := Hid.in (Nat.le_trans HB1.out.size hm.own.base); have HB2 := Hid.in (below_step HB1.out hb); clear hm hb HO1 HB1)
    | (go_at_call 10; refine (gran_any q g _ 1 [1, 2, 3, 4, 5] _ HM.out (by decide)).mono ?_; rintro e w3 ⟨rfl, hb⟩; rw [show granV [1, 2, 3, 4, 5] 1 = fourV 5 0 0 0 from rfl, fourV]; have HM3 := Hid.in (HM.out.below hb); have HB3 := Hid.in (below_step HB2.out hb); clear hb HM HB2)
    | (refine wp_lit rfl 2 _ rfl [9, 9] rfl (by decide) (by decide) rfl ?_; intro w4 g4 HO4 HB4; have HV := Hid.in ((HB4.out.block w3.heap.size (by rw [size_one]; omega)).trans (heap_alloc_new _ _)); have HM4 := Hid.in ((HM3.out.below (new_alloc _ _)).below HB4.out); have HB5 := Hid.in (below_step (below_alloc HB3.out _) HB4.out); have HL := Hid.in HM3.out.own.lt; clear HB4 HM3 HB3)
    | (go_at_call 11; refine (write_ok q g _ 1 2 _ [1, 2, 3, 4, 5] [9, 9] w4 HM4.out HO4.out.row (by decide) (by decide)).mono ?_; rintro e w5 ⟨rfl, hm, hk⟩; rw [show putA [1, 2, 3, 4, 5] 1 [9, 9] = [1, 9, 9, 4, 5] from rfl] at hm; have HV5 := (hk.block w3.heap.size (cell_lt (o := 0) (v := .int .u8 5) (by simp [World.cell?, HV.out])) (fun e => by have := HL.out; have e2 : w3.heap.size = g := e; omega)).trans HV.out; have d0 : w5.cell? ⟨w3.heap.size, 0, none⟩ = some (.int .u8 5) := (by simp [World.cell?, HV5]); have d1 : w5.cell? ⟨w3.heap.size, 1, none⟩ = some (.int .u8 0) := (by simp [World.cell?, HV5]); have d2 : w5.cell? ⟨w3.heap.size, 2, none⟩ = some (.int .u8 0) := (by simp [World.cell?, HV5]); have d3 : w5.cell? ⟨w3.heap.size, 3, none⟩ = some (.int .u8 0) := (by simp [World.cell?, HV5]); have heq := eq_four_self 5 0 0 0 w5 (by decide) (by decide) (by decide) (by decide); have HM5 := Hid.in hm; have HB6 := Hid.in (HB5.out.trans (hk.below HB5.out.size (fun j hj => by subst hj; exact HG.out))); clear hm hk HV HV5 HM4 HO4 HB5)
    | (go_at_call 13; refine (bytes_any q g _ [1, 9, 9, 4, 5] w5 HM5.out (by decide)).mono ?_; rintro e w6 ⟨h6, rfl, ho, hb⟩; have HO6 := Hid.in ho; have HM6 := Hid.in (HM5.out.below hb); have HB7 := Hid.in (below_step HB6.out hb); clear ho hb HM5 HB6)
    | (go_at_call 12; refine (sameBytes_any _ _ 5 5 5 5 [1, 9, 9, 4, 5] [1, 9, 9, 4, 5] _ rfl rfl (by decide) (HO6.out.below (new_alloc _ _)).row (Own.lit w6 [1, 9, 9, 4, 5] (by decide)).row).mono ?_; rw [sameB_self]; rintro e w8 ⟨rfl, m8, hw8⟩; have HM8 : Hid (Mem w8 w1.heap.size q g [1, 9, 9, 4, 5]) := (by rw [hw8]; exact (HM6.out.below (new_alloc _ _)).drewN _); have HB9 : Hid (Below w.heap.size w w8) := (by rw [hw8]; exact below_draws (below_alloc HB7.out _) _); clear hw8)
    | (go_at_call 8; refine (len_any q g _ [1, 9, 9, 4, 5] _ HM8.out).mono ?_; rintro e w9 ⟨rfl, rfl⟩))
  go_ret
  exact ⟨rfl, HB9.out⟩

end Go.Proofs.Ytammbaamkechhaa
