/- What Granule tells a Take; switchyardlaw12.awake answers true. -/
import Derived.Test.YtndgcfbndlahbaaLinT
import Derived.Test.YtndgcfbndlahbaaEq4
import Derived.Test.YtndgcfbndlahbaaAllW
import Derived.Great.BuildSlice
namespace Go.Proofs.Ytndgcfbndlahbaa
open Go.RowKit Go.Maps Go.WideMaps

/-- a granule's four bytes -/
def granF (xs : List Int) (k : Nat) : F4 := ⟨xs.getD (4 * k) 0, xs.getD (4 * k + 1) 0, xs.getD (4 * k + 2) 0, xs.getD (4 * k + 3) 0⟩
theorem gran_is {w : World} {B q g : Nat} {xs : List Int} (hm : Mem w B q g xs) {k : Nat} (hk : k < 16384) : GranIs w (some ⟨q, 0, none⟩) k (granF xs k) 0 := fun W hW => gran_any q g B k xs W (hm.below hW) hk
theorem gran_is_bad {w : World} {B q g : Nat} {xs : List Int} (hm : Mem w B q g xs) {k : Int} (hk : k < 0 ∨ 16384 ≤ k) : GranIs w (some ⟨q, 0, none⟩) k zF 2 := fun W hW => gran_bad q g B k xs W (hm.below hW) hk
/-- no memory: nil, or one that no call made -/
def NoMem (w : World) (p : Option Addr) : Prop := ∀ W, Below w.heap.size w W → Calls Try.prog 24 #[.pointer p] W fun e w' => e = .returned (.bool true) ∧ w' = W
theorem noMem_nil (w : World) : NoMem w none := fun W _ => none_nil W
theorem noMem_zero {w : World} {q : Nat} (h : Blk w q 57 #[.bool false, .slice none 0 0]) : NoMem w (some ⟨q, 0, none⟩) := fun W hb => none_zero q W ((h.grow hb).cell 0)
set_option maxHeartbeats 400000 in
theorem gran_is_none {w : World} {p : Option Addr} (h : NoMem w p) (k : Int) : GranIs w p k zF 1 := fun W hW => by
  have hn := h _ (below_alloc hW (.cells #[.int .u8 0, .int .u8 0, .int .u8 0, .int .u8 0] 34))
  go_enter Try.func20, Try.ntmps20
  go_wp2_with (go_at_call 24; refine hn.mono ?_; rintro e w1 ⟨rfl, rfl⟩)
  exact bodyPost_ret (v := .tuple #[.agg #[.int .u8 zF.a, .int .u8 zF.b, .int .u8 zF.c, .int .u8 zF.d], .int .i64 1]) (by simp [results, Try.results20, go_sem, zF]) rfl ⟨rfl, new_alloc _ _⟩
theorem Mem.notMap {w : World} {B q g b : Nat} {xs : List Int} (h : Mem w B q g xs) (hb : ∃ es c, w.heap[b]? = some (.map es c)) : q ≠ b ∧ g ≠ b := by
  obtain ⟨es, c, e⟩ := hb
  refine ⟨fun e' => ?_, fun e' => ?_⟩
  · have h1 := h.blk
    rw [e', e] at h1
    cases h1
  · have h1 := h.own.block rfl
    rw [e', e] at h1
    cases h1
/-- a memory stays while lines are written to -/
theorem Mem.lines {w w' : World} {B q g b : Nat} {xs : List Int} (h : Mem w B q g xs) (hb : ∃ es c, w.heap[b]? = some (.map es c)) (hk : Keeps (fun j => j = b) w w') : Mem w' B q g xs :=
  h.keeps hk (h.notMap hb).1 (h.notMap hb).2
/-- lines stay while a memory is written to -/
theorem LinAt.mem {w w' : World} {B B' q g q' b : Nat} {xs : List Int} {L : List Ln} (h : LinAt w B q' b L) (hm : Mem w B' q g xs) (hk : Keeps (fun j => j = g) w w') : LinAt w' B q' b L :=
  h.keeps hk (fun e => by
    have h1 := hm.own.block rfl
    have h2 : w.heap[q']? = _ := h.blk
    rw [show q' = g from e, h1] at h2
    injection h2 with h2
    injection h2 with _ h2
    cases h2) (fun e => (hm.notMap h.isMap).2 (show g = b from (show b = g from e).symm))
/-- a variable stays -/
theorem Blk.lines {w w' : World} {q b : Nat} {T : TypeId} {c : Array Value} (h : Blk w q T c) (hb : ∃ es c, w.heap[b]? = some (.map es c)) (hk : Keeps (fun j => j = b) w w') : Blk w' q T c :=
  (hk.block q h.lt (fun e => by
    obtain ⟨es, c, e1⟩ := hb
    have h2 : w.heap[q]? = _ := h
    rw [show q = b from e, e1] at h2
    cases h2)).trans h
theorem Blk.mem {w w' : World} {B q g x : Nat} {xs : List Int} {T : TypeId} {c : Array Value} (h : Blk w x T c) (hT : T ≠ 5) (hm : Mem w B q g xs) (hk : Keeps (fun j => j = g) w w') : Blk w' x T c :=
  (hk.block x h.lt (fun e => by
    have h1 := hm.own.block rfl
    have h2 : w.heap[x]? = _ := h
    rw [show x = g from e, h1] at h2
    injection h2 with h2
    injection h2 with _ h2
    exact hT h2.symm)).trans h

/-- a literal slice of bytes: a block of its own -/
theorem wp_lit {ops : Array Oper} {rest : List Oper} {o : Oper} {a : Act} {w : World} {Q : Exit → Act → World → Prop} (hg : o.guard = none) (len : Nat) (parts : Array (Nat × Operand)) (ho : o.op = .buildSlice 22 len parts)
    (zs : List Int) (hlen : len = zs.length) (hpos : 0 < len) (hsmall : len ≤ 2 ^ 24) (hparts : parts.toList = (zs.zipIdx 0).map fun x => (x.2, Operand.const (Value.int .u8 x.1)))
    (h : ∀ w1 g, Hid (Own w1 w.heap.size g len zs) → Hid (Below w.heap.size w w1) → wpList Try.prog ops Q rest (a.put o.dst (.slice (some ⟨g, 0, none⟩) len len)) w1) : wpList Try.prog ops Q (o :: rest) a w := by
  refine wpList_buildFlat hg 22 5 len parts ho .u8 zs Try.underlying22 (by kernel_rfl) (by kernel_rfl) hlen hpos hsmall hparts ?_
  exact h _ _ (by subst hlen; exact Own.lit w zs (by unfold maxLen; omega)) (new_alloc _ _)

/-- Below behind a Take -/
theorem below_take {w0 w w' : World} {B b : Nat} (h : Below B w0 w) (hk : Keeps (fun j => j = b) w w') (hb : B ≤ b) (hs : B ≤ w0.heap.size) : Below B w0 w' :=
  h.trans (hk.below (Nat.le_trans hs h.size) (fun j hj => by have e : j = b := hj; omega))

theorem one64 : i64W 1 := by unfold i64W; omega

set_option maxRecDepth 8000 in
set_option maxHeartbeats 4000000 in
theorem awake_any (w : World) : Calls Try.prog 18 #[] w fun e w' => e = .returned (.bool true) ∧ Below w.heap.size w w' := by
  go_enter Try.func18, Try.ntmps18
  go_upto_region 5 with (first
    | (refine wp_lit rfl 8 _ rfl [1, 2, 3, 4, 5, 6, 7, 8] rfl (by decide) (by decide) rfl ?_; intro w1 g1 HO1 HB1)
    | (go_at_call 6; refine (new_ok _ 8 8 [1, 2, 3, 4, 5, 6, 7, 8] w1 rfl (by decide) HO1.out.row).mono ?_; rintro e w2 ⟨q, g, rfl, hm, hb⟩; have HM := Hid.in hm; have HG := Hid.in (Nat.le_trans HB1.out.size hm.own.base); have HB2 := Hid.in (below_step HB1.out hb); clear hm hb HO1 HB1)
    | (go_at_call 8; refine (lnew_any w2).mono ?_; rintro e w3 ⟨l, b, rfl, hl, hb⟩; have HL3 := Hid.in (hl.lower HB2.out.size); have HM3 := Hid.in (HM.out.below hb); have HB3 := Hid.in (below_step HB2.out hb); clear hl hb HM HB2))
  have ht1 := take_new _ l b [] _ (granF [1, 2, 3, 4, 5, 6, 7, 8] 1) 1 false w3 HL3.out (by decide) one64 rfl (gran_is HM3.out (k := 1) (by decide))
  rw [show fV (granF [1, 2, 3, 4, 5, 6, 7, 8] 1) = .agg #[.int .u8 5, .int .u8 6, .int .u8 7, .int .u8 8] from rfl] at ht1
  go_upto_region 6 with (go_at_call 9; refine ht1.mono ?_; rintro e w4 ⟨rfl, hl, hk⟩; have HL4 := Hid.in hl; have HM4 := Hid.in (HM3.out.lines HL3.out.isMap hk); have HB4 := Hid.in (below_take HB3.out hk HL3.out.hb (Nat.le_refl _)); clear hl hk ht1)
  have HA5 := Hid.in (Blk.new w4 34 #[.int .u8 5, .int .u8 6, .int .u8 7, .int .u8 8])
  have HW5 := Hid.in (new_alloc w4 (.cells #[.int .u8 5, .int .u8 6, .int .u8 7, .int .u8 8] 34))
  have HL5 := Hid.in (HL4.out.below HW5.out)
  have HM5 := Hid.in (HM4.out.below HW5.out)
  have HB5 := Hid.in (below_step HB4.out HW5.out)
  generalize w4.alloc (.cells #[.int .u8 5, .int .u8 6, .int .u8 7, .int .u8 8] 34) = w5 at *
  generalize w4.heap.size = ga at *
  clear HL3 HM3 HB3 HL4 HM4 HB4 HW5
  go_upto_region 7 with (first
    | (refine wp_lit rfl 1 _ rfl [9] rfl (by decide) (by decide) rfl ?_; intro w6 g6 HO6 HB6; have HL6 := Hid.in (HL5.out.below HB6.out); have HM6 := Hid.in (HM5.out.below HB6.out); have HA6 := Hid.in (HA5.out.grow HB6.out); have HBB6 := Hid.in (below_step HB5.out HB6.out); clear HL5 HM5 HB5 HA5 HB6)
    | (go_at_call 12; refine (write_ok q g _ 4 1 _ [1, 2, 3, 4, 5, 6, 7, 8] [9] w6 HM6.out HO6.out.row (by decide) (by decide)).mono ?_; rintro e w7 ⟨rfl, hm, hk⟩; rw [show putA [1, 2, 3, 4, 5, 6, 7, 8] 4 [9] = [1, 2, 3, 4, 9, 6, 7, 8] from rfl] at hm; have HM7 := Hid.in hm; have HL7 := Hid.in (HL6.out.mem HM6.out hk); have HA7 := Hid.in (HA6.out.mem (by decide) HM6.out hk); have HB7 := Hid.in (HBB6.out.trans (hk.below HBB6.out.size (fun j hj => by subst hj; exact HG.out))); clear hm hk HM6 HL6 HA6 HBB6 HO6))
  have ht2 := take_held _ l b _ _ _ 0 1 (granF [1, 2, 3, 4, 5, 6, 7, 8] 1) w7 HL7.out one64 rfl (by decide) (gran_is HM7.out (k := 1) (by decide))
  rw [show fV (granF [1, 2, 3, 4, 5, 6, 7, 8] 1) = .agg #[.int .u8 5, .int .u8 6, .int .u8 7, .int .u8 8] from rfl] at ht2
  go_upto_region 8 with (go_at_call 9; refine ht2.mono ?_; rintro e w8 ⟨rfl, hb⟩; have HL8 := Hid.in (HL7.out.below hb); have HM8 := Hid.in (HM7.out.below hb); have HA8 := Hid.in (HA7.out.grow hb); have HB8 := Hid.in (below_step HB7.out hb); clear hb ht2 HL7 HM7 HA7 HB7)
  have HC9 := Hid.in (Blk.new w8 34 #[.int .u8 5, .int .u8 6, .int .u8 7, .int .u8 8])
  have HW9 := Hid.in (new_alloc w8 (.cells #[.int .u8 5, .int .u8 6, .int .u8 7, .int .u8 8] 34))
  have HL9 := Hid.in (HL8.out.below HW9.out)
  have HM9 := Hid.in (HM8.out.below HW9.out)
  have HA9 := Hid.in (HA8.out.grow HW9.out)
  have HB9 := Hid.in (below_step HB8.out HW9.out)
  generalize w8.alloc (.cells #[.int .u8 5, .int .u8 6, .int .u8 7, .int .u8 8] 34) = w9 at *
  generalize w8.heap.size = gb at *
  clear HL8 HM8 HA8 HB8 HW9
  have ht3 := take_new _ l b _ _ (granF [1, 2, 3, 4, 9, 6, 7, 8] 1) 1 false w9 HL9.out (by decide) one64 rfl (gran_is HM9.out (k := 1) (by decide))
  rw [show fV (granF [1, 2, 3, 4, 9, 6, 7, 8] 1) = .agg #[.int .u8 9, .int .u8 6, .int .u8 7, .int .u8 8] from rfl] at ht3
  go_upto_region 9 with (go_at_call 9; refine ht3.mono ?_; rintro e wa ⟨rfl, hl, hk⟩; have HLa := Hid.in hl; have HAa := Hid.in (HA9.out.lines HL9.out.isMap hk); have HCa := Hid.in (HC9.out.lines HL9.out.isMap hk); have HBa := Hid.in (below_take HB9.out hk HL9.out.hb (Nat.le_refl _)); clear hl hk ht3 HL9 HM9 HA9 HC9 HB9)
  have HDb := Hid.in (Blk.new wa 34 #[.int .u8 9, .int .u8 6, .int .u8 7, .int .u8 8])
  have HWb := Hid.in (new_alloc wa (.cells #[.int .u8 9, .int .u8 6, .int .u8 7, .int .u8 8] 34))
  have HLb := Hid.in (HLa.out.below HWb.out)
  have HAb := Hid.in (HAa.out.grow HWb.out)
  have HCb := Hid.in (HCa.out.grow HWb.out)
  have HBb := Hid.in (below_step HBa.out HWb.out)
  generalize wa.alloc (.cells #[.int .u8 9, .int .u8 6, .int .u8 7, .int .u8 8] 34) = wb at *
  generalize wa.heap.size = gd at *
  clear HLa HAa HCa HBa HWb
  have a0 : wb.cell? ⟨ga, 0, none⟩ = some (.int .u8 5) := HAb.out.cell 0
  have a1 : wb.cell? ⟨ga, 1, none⟩ = some (.int .u8 6) := HAb.out.cell 1
  have a2 : wb.cell? ⟨ga, 2, none⟩ = some (.int .u8 7) := HAb.out.cell 2
  have a3 : wb.cell? ⟨ga, 3, none⟩ = some (.int .u8 8) := HAb.out.cell 3
  have b0 : wb.cell? ⟨gb, 0, none⟩ = some (.int .u8 5) := HCb.out.cell 0
  have b1 : wb.cell? ⟨gb, 1, none⟩ = some (.int .u8 6) := HCb.out.cell 1
  have b2 : wb.cell? ⟨gb, 2, none⟩ = some (.int .u8 7) := HCb.out.cell 2
  have b3 : wb.cell? ⟨gb, 3, none⟩ = some (.int .u8 8) := HCb.out.cell 3
  have d0 : wb.cell? ⟨gd, 0, none⟩ = some (.int .u8 9) := HDb.out.cell 0
  have d1 : wb.cell? ⟨gd, 1, none⟩ = some (.int .u8 6) := HDb.out.cell 1
  have d2 : wb.cell? ⟨gd, 2, none⟩ = some (.int .u8 7) := HDb.out.cell 2
  have d3 : wb.cell? ⟨gd, 3, none⟩ = some (.int .u8 8) := HDb.out.cell 3
  have heq := eq_four_self 5 6 7 8 wb (by decide) (by decide) (by decide) (by decide)
  have heq2 := eq_four_self 9 6 7 8 wb (by decide) (by decide) (by decide) (by decide)
  obtain ⟨L3, hL3⟩ : ∃ L, takL 1 (granF [1, 2, 3, 4, 9, 6, 7, 8] 1) (takL 1 (granF [1, 2, 3, 4, 5, 6, 7, 8] 1) []) = L := ⟨_, rfl⟩
  have HF1 : Hid ((findL L3 1).isSome = true) := by rw [← hL3]; rfl
  have HN1 : Hid (L3.length = 1) := by rw [← hL3]; rfl
  rw [hL3] at HLb
  clear hL3
  have hh1 := has_any _ l b L3 1 wb HLb.out one64
  rw [HF1.out] at hh1
  go_wp2_with (first
    | (go_at_call 16; with_reducible refine hh1.mono ?_; rintro e wc ⟨rfl, hb⟩; have HLc := Hid.in (HLb.out.below hb); have HBc := Hid.in (below_step HBb.out hb); clear hb hh1)
    | (go_at_call 11; refine (flush_any _ l b L3 wc HLc.out).mono ?_; rw [HN1.out]; rintro e wd ⟨rfl, hl, hg⟩; have hh2 := has_any _ l b [] 1 wd hl one64; rw [show (findL [] 1).isSome = false from rfl] at hh2; have HBd := Hid.in (HBc.out.grown hg HBc.out.size (fun k hk => by injection hk with hk; rw [← hk]; exact hl.hb)); clear hl hg)
    | (go_at_call 16; refine hh2.mono ?_; rintro e we ⟨rfl, hb⟩; have HBe := Hid.in (below_step HBd.out hb); clear hb hh2))
  go_ret
  exact ⟨rfl, HBe.out⟩

end Go.Proofs.Ytndgcfbndlahbaa
