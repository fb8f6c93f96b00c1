/- What the law IsaJumps answers: true, for every way. -/
import Derived.Test.YtkbpdnckbgnfnaaWake
import Derived.Test.YtkbpdnckbgnfnaaMath
namespace Go.Proofs.Ytkbpdnckbgnfnaa
open Go.RowKit

theorem Own.far {w : World} {B g h i cap : Nat} {v : Value} {xs : List Int} (ho : Own w B g cap xs) (hne : h ≠ g) : Own (w.setCell ⟨h, i, none⟩ v) B g cap xs := by
  obtain ⟨cur, h1, h2, h3, h4, h5, h6⟩ := ho.parts
  exact Own.mk h1 ((Below.heap_setCell _ _ _ _ (fun e => hne e.symm)).trans h2) h3 h4 h5 h6
theorem Var4.far {w : World} {g h i : Nat} {v x0 x1 x2 x3 : Value} (hv : Var4 w g x0 x1 x2 x3) (hne : h ≠ g) : Var4 (w.setCell ⟨h, i, none⟩ v) g x0 x1 x2 x3 :=
  ⟨hv.1.store hne, fun j => by rw [World.frozen?_setCell]; exact hv.2 j⟩

/-- four stores into one variable -/
abbrev set4 (w : World) (g : Nat) (x0 x1 x2 x3 : Value) : World := (((w.setCell ⟨g, 0, none⟩ x0).setCell ⟨g, 1, none⟩ x1).setCell ⟨g, 2, none⟩ x2).setCell ⟨g, 3, none⟩ x3
theorem Own.far4 {w : World} {B g h cap : Nat} {x0 x1 x2 x3 : Value} {xs : List Int} (ho : Own w B g cap xs) (hne : h ≠ g) : Own (set4 w h x0 x1 x2 x3) B g cap xs := (((ho.far hne).far hne).far hne).far hne
theorem Var4.far4 {w : World} {g h : Nat} {z0 z1 z2 z3 x0 x1 x2 x3 : Value} (hv : Var4 w g x0 x1 x2 x3) (hne : h ≠ g) : Var4 (set4 w h z0 z1 z2 z3) g x0 x1 x2 x3 := (((hv.far hne).far hne).far hne).far hne

theorem byt_enc {o : Nat} {a b n : Int} (ho : o < 17) (ha : 0 ≤ a ∧ a ≤ 255) (hb : 0 ≤ b ∧ b ≤ 255) : Byt (encL o a b n) := by
  have hc : ∀ k, k < 17 → ∀ x ∈ cdL k, 0 ≤ x ∧ x ≤ 255 := by
    have : ∀ k : Fin 17, ∀ x ∈ cdL k.1, 0 ≤ x ∧ x ≤ 255 := by decide +kernel
    exact fun k hk => this ⟨k, hk⟩
  have hm : ∀ x ∈ encL o a b n, 0 ≤ x ∧ x ≤ 255 := by
    intro x hx
    simp only [encL, encG, List.mem_append] at hx
    rcases hx with ((hx | hx) | hx) | hx
    · exact hc o ho x hx
    · split at hx <;> simp at hx; subst hx; exact ha
    · split at hx <;> simp at hx; subst hx; exact hb
    · split at hx
      · simp at hx
      · simp only [le4, List.mem_cons, List.not_mem_nil, or_false] at hx
        rcases hx with rfl | rfl | rfl | rfl <;> omega
  intro i
  by_cases hi : i < (encL o a b n).length
  · have := hm (encL o a b n)[i] (List.getElem_mem hi)
    simpa [List.getD, hi] using this
  · simp [List.getD, List.getElem?_eq_none (show (encL o a b n).length ≤ i by omega)]

theorem dec_jump (n : Int) (hn : -2147483648 ≤ n ∧ n ≤ 2147483647) : dec (encL 11 0 0 n) = ⟨11, 0, 0, n, 5, 0⟩ := by
  have := dec_enc (o := 11) (a := 0) (b := 0) (n := n) (by simp [rightB, regB, numB, rg, kd]) hn []
  rw [List.append_nil] at this
  exact this
theorem dec_quiet : dec (encL 3 0 0 0) = ⟨3, 0, 0, 0, 5, 0⟩ := by kernel_rfl

set_option maxHeartbeats 2000000 in
theorem lawJumps_any (n : Int) (w : World) (hn : -2147483648 ≤ n ∧ n ≤ 2147483647) :
    Calls Try.prog 8 #[.int .i32 n] w fun e w' => e = .returned (.bool true) ∧ Below w.heap.size w w' := by
  have HDJ : Hid (dec (encL 11 0 0 n) = ⟨11, 0, 0, n, 5, 0⟩) := dec_jump n hn
  have HDQ : Hid (dec (encL 3 0 0 0) = ⟨3, 0, 0, 0, 5, 0⟩) := dec_quiet
  have HBJ : Hid (Byt (encL 11 0 0 n)) := byt_enc (by decide) (by decide) (by decide)
  have HBQ : Hid (Byt (encL 3 0 0 0)) := byt_enc (by decide) (by decide) (by decide)
  have HLJ : Hid ((encL 11 0 0 n).length = 5) := encL_length 11 0 0 n (by decide)
  have HLQ : Hid ((encL 3 0 0 0).length = 5) := rfl
  have hj := jump_any n
  have hq := quiet_any
  generalize encL 11 0 0 n = xj at *
  generalize encL 3 0 0 0 = xq at *
  go_enter Try.func8, Try.ntmps8
  go_wp2_with fail
  refine (hj _).mono ?_
  rintro e w1 ⟨ga, ca, rfl, ha, hb1⟩
  go_wp2_with fail
  refine (hj _).mono ?_
  rintro e w2 ⟨gb, cb, rfl, hb, hb2⟩
  go_wp2_with fail
  refine (hq _).mono ?_
  rintro e w3 ⟨gc, cc, rfl, hc, hb3⟩
  go_wp2_with fail
  refine (hq _).mono ?_
  rintro e w4 ⟨gd, cd, rfl, hd, hb4⟩
  have l1 := ha.lt; have l2 := hb.lt; have l3 := hc.lt; have l4 := hd.lt
  have b1 := ha.base; have b2 := hb.base; have b3 := hc.base; have b4 := hd.base
  have ha4 := (((ha.below hb2).below hb3).below hb4)
  have hb4' := (((hb.below hb3).below hb4).lower hb1.size)
  have hc4 := ((hc.below hb4).lower (Nat.le_trans hb1.size hb2.size))
  have hd4 := (hd.lower (Nat.le_trans hb1.size (Nat.le_trans hb2.size hb3.size)))
  have hbw := below_step (below_step (below_step hb1 hb2) hb3) hb4
  have s2 := hb2.size; have s3 := hb3.size; have s4 := hb4.size
  clear ha hb hc hd hb1 hb2 hb3 hb4 hj hq
  go_wp2_with fail
  refine (decode_any _ 5 ca xj _ HLJ.out (by decide) (by have := ha4.row; exact this) HBJ.out).mono ?_
  rw [HDJ.out]
  rintro e w5 ⟨rfl, hb5⟩
  have hI := Var4.new w5 (.int .u8 11) (.int .u8 0) (.int .u8 0) (.int .i32 n) 26
  have ha5 := (ha4.below hb5).below (new_alloc w5 (.cells #[.int .u8 11, .int .u8 0, .int .u8 0, .int .i32 n] 26))
  have hb5' := (hb4'.below hb5).below (new_alloc w5 (.cells #[.int .u8 11, .int .u8 0, .int .u8 0, .int .i32 n] 26))
  have hc5 := (hc4.below hb5).below (new_alloc w5 (.cells #[.int .u8 11, .int .u8 0, .int .u8 0, .int .i32 n] 26))
  have hd5 := (hd4.below hb5).below (new_alloc w5 (.cells #[.int .u8 11, .int .u8 0, .int .u8 0, .int .i32 n] 26))
  have hbw5 := below_alloc (below_step hbw hb5) (.cells #[.int .u8 11, .int .u8 0, .int .u8 0, .int .i32 n] 26)
  have s5 := hb5.size
  clear ha4 hb4' hc4 hd4 hbw hb5
  go_wp2_with fail
  refine (decode_any _ 5 cc xq _ HLQ.out (by decide) (by have := hc5.row; exact this) HBQ.out).mono ?_
  rw [HDQ.out]
  rintro e w6 ⟨rfl, hb6⟩
  have s6 : w5.heap.size + 1 ≤ w6.heap.size := by have := hb6.size; simpa using this
  have hJ := Var4.new w6 (.int .u8 3) (.int .u8 0) (.int .u8 0) (.int .i32 0) 26
  have hI6 := (hI.below hb6).push (.cells #[.int .u8 3, .int .u8 0, .int .u8 0, .int .i32 0] 26)
  have ha6 := (ha5.below hb6).below (new_alloc w6 (.cells #[.int .u8 3, .int .u8 0, .int .u8 0, .int .i32 0] 26))
  have hb6' := (hb5'.below hb6).below (new_alloc w6 (.cells #[.int .u8 3, .int .u8 0, .int .u8 0, .int .i32 0] 26))
  have hc6 := (hc5.below hb6).below (new_alloc w6 (.cells #[.int .u8 3, .int .u8 0, .int .u8 0, .int .i32 0] 26))
  have hd6 := (hd5.below hb6).below (new_alloc w6 (.cells #[.int .u8 3, .int .u8 0, .int .u8 0, .int .i32 0] 26))
  have hbw6 := below_alloc (below_step hbw5 hb6) (.cells #[.int .u8 3, .int .u8 0, .int .u8 0, .int .i32 0] 26)
  have cI := cell_push (hI.below hb6).1.1
  have cI1 := cell_push (hI.below hb6).1.2.1
  have cI2 := cell_push (hI.below hb6).1.2.2.1
  have cI3 := cell_push (hI.below hb6).1.2.2.2
  clear hI ha5 hb5' hc5 hd5 hb6 hbw5
  have HI : Hid (Var4 (w6.alloc (.cells #[.int .u8 3, .int .u8 0, .int .u8 0, .int .i32 0] 26)) w5.heap.size (.int .u8 11) (.int .u8 0) (.int .u8 0) (.int .i32 n)) := hI6
  have HJ : Hid (Var4 (w6.alloc (.cells #[.int .u8 3, .int .u8 0, .int .u8 0, .int .i32 0] 26)) w6.heap.size (.int .u8 3) (.int .u8 0) (.int .u8 0) (.int .i32 0)) := hJ
  clear hI6 hJ
  go_wp2_with fail
  have hord : ga < gb ∧ gb < gc ∧ gc < gd ∧ gd < w5.heap.size ∧ w5.heap.size < w6.heap.size := by omega
  clear cI cI1 cI2 cI3 l1 l2 l3 l4 b2 b3 b4 s2 s3 s4 s5 s6
  generalize w6.alloc (.cells #[.int .u8 3, .int .u8 0, .int .u8 0, .int .i32 0] 26) = w7 at *
  generalize w5.heap.size = gI at *
  generalize w6.heap.size = gJ at *
  go_loopw [13] (fun i wr => ∃ (k : Nat) (ya yc : List Int), k ≤ 5 ∧ i = .int .i64 k ∧ ya.length = 5 ∧ yc.length = 5 ∧ Own wr w.heap.size ga ca ya ∧ Own wr w.heap.size gc cc yc ∧ Own wr w.heap.size gb cb xj ∧ Own wr w.heap.size gd cd xq ∧ Var4 wr gI (.int .u8 11) (.int .u8 0) (.int .u8 0) (.int .i32 n) ∧ Var4 wr gJ (.int .u8 3) (.int .u8 0) (.int .u8 0) (.int .i32 0) ∧ Below w.heap.size w wr) (fun i _ => 5 - (intOf i).toNat)
  case atStart => exact ⟨0, xj, xq, Nat.zero_le _, rfl, HLJ.out, HLQ.out, ha6, hc6, hb6', hd6, HI.out, HJ.out, hbw6⟩
  case round =>
    obtain ⟨k, ya, yc, hk, rfl, la, lc, oa, oc, ob, od, vI, vJ, hbr⟩ := hrel
    clear ha6 hb6' hc6 hd6 HI HJ hbw6
    by_cases hlt : k < 5
    · have c1 := oa.cell k (by omega)
      have f1 := oa.free k
      have c2 := (oc.far (h := ga) (i := k) (v := .int .u8 1) (by omega)).cell k (by omega)
      have f2 := (oc.far (h := ga) (i := k) (v := .int .u8 1) (by omega)).free k
      have hne : ¬ ga = gc := by omega
      have hgc : w.heap.size ≤ gc := by omega
      generalize ya.getD k 0 = z1 at *
      generalize yc.getD k 0 = z2 at *
      go_wp2
      go_roundw
      case rel =>
        refine ⟨k + 1, ya.set k 1, yc.set k 1, by omega, by go_num, by simp [la], by simp [lc], (oa.store k 1).far (by omega), (oc.far (by omega)).store k 1, (ob.far (by omega)).far (by omega), (od.far (by omega)).far (by omega), (vI.far (by omega)).far (by omega), (vJ.far (by omega)).far (by omega), ?_⟩
        exact (hbr.setCell b1 _).setCell hgc _
      case measure => simp [intOf]; omega
    · clear oa oc
      go_wp2_with fail
      refine (decode_any _ 5 cb xj _ HLJ.out (by decide) (by have := ob.row; exact this) HBJ.out).mono ?_
      rw [HDJ.out]
      rintro e w8 ⟨rfl, hb8⟩
      have vI8 := vI.below hb8
      have vJ8 := (vJ.below hb8).far4 (h := gI) (z0 := .int .u8 11) (z1 := .int .u8 0) (z2 := .int .u8 0) (z3 := .int .i32 n) (by omega)
      have od8 := (od.below hb8).far4 (h := gI) (x0 := .int .u8 11) (x1 := .int .u8 0) (x2 := .int .u8 0) (x3 := .int .i32 n) (by omega)
      have aI8 := vI8.1.stored (.int .u8 11) (.int .u8 0) (.int .u8 0) (.int .i32 n)
      have hbw8 : Below w.heap.size w (set4 w8 gI (.int .u8 11) (.int .u8 0) (.int .u8 0) (.int .i32 n)) := below_stored (below_step hbr hb8) (by omega) _ _ _ _
      obtain ⟨⟨d0, d1, d2, d3⟩, df⟩ := vI8
      clear vI vJ ob od hb8 hbr HBJ HDJ
      go_wp2_with fail
      refine (decode_any _ 5 cd xq _ HLQ.out (by decide) (by have := od8.row; exact this) HBQ.out).mono ?_
      rw [HDQ.out]
      rintro e w9 ⟨rfl, hb9⟩
      have vJ9 := vJ8.below hb9
      have aI9 := (aI8.below hb9)
      have aI9' : At4 (set4 w9 gJ (.int .u8 3) (.int .u8 0) (.int .u8 0) (.int .i32 0)) gI (.int .u8 11) (.int .u8 0) (.int .u8 0) (.int .i32 n) := (((aI9.store (by omega)).store (by omega)).store (by omega)).store (by omega)
      have aJ9 := vJ9.1.stored (.int .u8 3) (.int .u8 0) (.int .u8 0) (.int .i32 0)
      have hbw9 : Below w.heap.size w (set4 w9 gJ (.int .u8 3) (.int .u8 0) (.int .u8 0) (.int .i32 0)) := below_stored (below_step hbw8 hb9) (by omega) _ _ _ _
      obtain ⟨⟨d0, d1, d2, d3⟩, df⟩ := vJ9
      obtain ⟨_, _, _, p3⟩ := aI9'
      obtain ⟨q0, _, _, _⟩ := aJ9
      clear vJ8 od8 aI8 hbw8 hb9 aI9
      go_wp2_with fail
      refine (awake_any _).mono ?_
      rintro e w10 ⟨rfl, hb10⟩
      go_wp2
      go_ret
      exact ⟨rfl, below_step hbw9 hb10⟩
end Go.Proofs.Ytkbpdnckbgnfnaa
