/- MemoryNumbers: the chapter's limits and examples. -/
import Derived.Test.YtammbaamkechhaaAwk
namespace Go.Proofs.Ytammbaamkechhaa
open Go.RowKit

/-- make of so many bytes: a block of its own -/
theorem wp_make {ops : Array Oper} {rest : List Oper} {o : Oper} {a : Act} {w : World} {Q : Exit → Act → World → Prop} (hg : o.guard = none) (n : Nat) (x : Int) (hx : x = n) (ho : o.op = .makeSlice 26 (.const (.int .i64 x)) (.const (.int .i64 x))) (hn : n ≤ 140737488355328)
    (h : ∀ w1 g xs, Hid (xs.length = n) → Hid (Own w1 w.heap.size g n xs) → Hid (Below w.heap.size w w1) → wpList Try.prog ops Q rest (a.put o.dst (.slice (some ⟨g, 0, none⟩) n n)) w1) : wpList Try.prog ops Q (o :: rest) a w := by
  subst hx
  obtain ⟨i0, hi, hz0, hz1, hz2⟩ := info_parts Try.info5
  refine wpList_make_full _ hg _ _ 26 ho _ 5 i0 (.int .u8 0) 1 Try.underlying26 hi hz0 hz1 _ _ _ _ n rfl rfl rfl rfl (by rw [hz2]; omega) (by unfold maxLen; omega) (Nat.le_refl _) ?_
  intro w1 hown hgrow
  exact h w1 w.heap.size (List.replicate n 0) (by rw [List.length_replicate]; exact rfl) (Own.of_made hown) ((Below.refl w.heap.size w).grown hgrow (Nat.le_refl _) (by simp))

def tabA : List Int := [3, 3, -1, 5, 6, 0, -1, 9223372036854775807, 1, 0, -9223372036854775808]
def tabN : List Int := [2, 3, 1, 0, 0, -1, -1, 1, 9223372036854775807, -9223372036854775808, 0]
def tabE : List Int := [0, 210, 210, 0, 210, 2, 2, 210, 210, 2, 210]
def tabV : List Value := [.int .i64 3, .int .i64 2, .int .i64 0, .int .i64 3, .int .i64 3, .int .i64 210, .int .i64 (-1), .int .i64 1, .int .i64 210, .int .i64 5, .int .i64 0, .int .i64 0, .int .i64 6, .int .i64 0, .int .i64 210, .int .i64 0, .int .i64 (-1), .int .i64 2, .int .i64 (-1), .int .i64 (-1), .int .i64 2, .int .i64 9223372036854775807, .int .i64 1, .int .i64 210, .int .i64 1, .int .i64 9223372036854775807, .int .i64 210, .int .i64 0, .int .i64 (-9223372036854775808), .int .i64 2, .int .i64 (-9223372036854775808), .int .i64 0, .int .i64 210]

theorem tab_cases {P : Nat → Prop} (h : P 0 ∧ P 1 ∧ P 2 ∧ P 3 ∧ P 4 ∧ P 5 ∧ P 6 ∧ P 7 ∧ P 8 ∧ P 9 ∧ P 10) (k : Nat) (hk : k < 11) : P k := by
  obtain ⟨h0, h1, h2, h3, h4, h5, h6, h7, h8, h9, h10⟩ := h
  rcases (by omega : k = 0 ∨ k = 1 ∨ k = 2 ∨ k = 3 ∨ k = 4 ∨ k = 5 ∨ k = 6 ∨ k = 7 ∨ k = 8 ∨ k = 9 ∨ k = 10) with rfl | rfl | rfl | rfl | rfl | rfl | rfl | rfl | rfl | rfl | rfl <;> assumption

theorem tab_cell : ∀ k, k < 11 → tabV[k * 3]? = some (.int .i64 (tabA.getD k 0)) ∧ tabV[k * 3 + 1]? = some (.int .i64 (tabN.getD k 0)) ∧ tabV[k * 3 + 2]? = some (.int .i64 (tabE.getD k 0)) :=
  tab_cases ⟨⟨rfl, rfl, rfl⟩, ⟨rfl, rfl, rfl⟩, ⟨rfl, rfl, rfl⟩, ⟨rfl, rfl, rfl⟩, ⟨rfl, rfl, rfl⟩, ⟨rfl, rfl, rfl⟩, ⟨rfl, rfl, rfl⟩, ⟨rfl, rfl, rfl⟩, ⟨rfl, rfl, rfl⟩, ⟨rfl, rfl, rfl⟩, ⟨rfl, rfl, rfl⟩⟩

def TabOk (a n e : Int) : Prop := (∃ x y : Nat, a = x ∧ n = y ∧ e = 0 ∧ x + y ≤ 5) ∨ (e = 2 ∧ n < 0) ∨ (e = 210 ∧ 0 ≤ n ∧ n ≤ 9223372036854775807 ∧ ¬ (0 ≤ a ∧ a ≤ 5 - n))
theorem tab_ok : ∀ k, k < 11 → TabOk (tabA.getD k 0) (tabN.getD k 0) (tabE.getD k 0) :=
  tab_cases ⟨.inl ⟨3, 2, rfl, rfl, rfl, by decide⟩, .inr (.inr ⟨rfl, by decide, by decide, by decide⟩), .inr (.inr ⟨rfl, by decide, by decide, by decide⟩), .inl ⟨5, 0, rfl, rfl, rfl, by decide⟩, .inr (.inr ⟨rfl, by decide, by decide, by decide⟩), .inr (.inl ⟨rfl, by decide⟩), .inr (.inl ⟨rfl, by decide⟩), .inr (.inr ⟨rfl, by decide, by decide, by decide⟩), .inr (.inr ⟨rfl, by decide, by decide, by decide⟩), .inr (.inl ⟨rfl, by decide⟩), .inr (.inr ⟨rfl, by decide, by decide, by decide⟩)⟩

set_option maxRecDepth 4000 in
set_option maxHeartbeats 4000000 in
theorem numbers_walk (w : World) :
    Calls Try.prog 3 #[] w fun e w' => e = .returned (.bool true) ∧ Below w.heap.size w w' := by
  have hnil := fun W : World => new_ok none 0 0 [] W rfl (by decide) (fun h => absurd h (Nat.lt_irrefl 0))
  go_enter Try.func3, Try.ntmps3
  go_wp2_with (first
    | (at_make; refine wp_make rfl 65536 65536 rfl rfl (by omega) ?_; intro w1 g1 xs HX HO1 HB1; obtain ⟨L, hL⟩ : ∃ L : Int, (xs.length : Int) = L := ⟨_, rfl⟩; have hne : (L != 65536) = false := bne_eq_false_iff_eq.2 (by rw [← hL, HX.out]; omega); have HLx := Hid.in hL; clear hL)
    | (at_make; refine wp_make rfl 65537 65537 rfl rfl (by omega) ?_; intro w3 g3 xs3 _ _ HB3; have HM3 := Hid.in (HM2.out.below HB3.out); have HBB3 := Hid.in (below_step HB2.out HB3.out); clear HM2 HB2 HB3)
    | (go_at_call 7; first
      | ((with_reducible refine (new_ok _ 65536 65536 xs w1 HX.out (by decide) HO1.out.row).mono ?_); rintro e w2 ⟨q, g, rfl, hm, hb⟩; have HM2 := Hid.in hm; have HB2 := Hid.in (below_step HB1.out hb); clear hm hb HO1 HB1)
      | ((with_reducible refine (new_long _ 65537 65537 w3 (by decide) (by decide)).mono ?_); rintro e w4 ⟨rfl, rfl⟩)
      | ((with_reducible refine (hnil _).mono ?_); clear hnil; rintro e w5 ⟨q5, g5, rfl, hm, hb⟩; have HM5 := Hid.in (HM3.out.below hb); have HE5 := Hid.in hm; have HB5 := Hid.in (below_step HBB3.out hb); clear hm hb HM3 HBB3)
      | (refine (new_ok _ 5 5 [1, 2, 3, 4, 5] _ rfl (by decide) HO6.out.row).mono ?_; rintro e w7 ⟨q7, g7, rfl, hm, hb⟩; have HM7 := Hid.in (HM6.out.below hb); have HN7 := Hid.in hm; have HG7 := Hid.in (Nat.le_trans HBB6.out.size hm.own.base); have HB7 := Hid.in (below_step HBB6.out hb); clear hm hb HM6 HBB6 HO6))
    | (go_at_call 8; first
      | ((with_reducible refine (len_any q g _ xs _ HM5.out).mono ?_); rw [HLx.out]; rintro e w6 ⟨rfl, rfl⟩)
      | (refine (len_any q5 g5 _ [] _ HE5.out).mono ?_; rintro e w6 ⟨rfl, rfl⟩))
    | (refine wp_lit rfl 5 _ rfl [1, 2, 3, 4, 5] rfl (by decide) (by decide) rfl ?_; intro w6 g6 HO6 HB6; have HM6 := Hid.in (HM5.out.below HB6.out); have HBB6 := Hid.in (below_step HB5.out HB6.out); clear HM5 HB5 HB6))
  have HC : Hid (∀ k, k < 11 → (w7.alloc (.cells tabV.toArray 28)).cell? ⟨w7.heap.size, k * 3, none⟩ = some (.int .i64 (tabA.getD k 0)) ∧ (w7.alloc (.cells tabV.toArray 28)).cell? ⟨w7.heap.size, k * 3 + 1, none⟩ = some (.int .i64 (tabN.getD k 0)) ∧ (w7.alloc (.cells tabV.toArray 28)).cell? ⟨w7.heap.size, k * 3 + 2, none⟩ = some (.int .i64 (tabE.getD k 0))) := by
    intro k hk
    have h := tab_cell k hk
    refine ⟨?_, ?_, ?_⟩
    · rw [cell_of_row _ _ _ _ 28 (0, 0) (heap_alloc_new w7 _), List.getElem?_toArray]; exact h.1
    · rw [cell_of_row _ _ _ _ 28 (0, 0) (heap_alloc_new w7 _), List.getElem?_toArray]; exact h.2.1
    · rw [cell_of_row _ _ _ _ 28 (0, 0) (heap_alloc_new w7 _), List.getElem?_toArray]; exact h.2.2
  have HM8 := Hid.in (HM7.out.below (new_alloc _ (.cells tabV.toArray 28)))
  have HN8 := Hid.in (HN7.out.below (new_alloc _ (.cells tabV.toArray 28)))
  have HB8 := Hid.in (below_alloc HB7.out (.cells tabV.toArray 28))
  have hlt8 : w7.heap.size < (w7.alloc (.cells tabV.toArray 28)).heap.size := by rw [size_one]; omega
  have HL8 := Hid.in hlt8
  clear HM7 HN7 HB7 hlt8 HE5
  unfold tabV at HC HM8 HN8 HB8 HL8
  generalize (w7.alloc (.cells _ 28)) = w8 at *
  go_loopw [75] (fun i wr => ∃ k : Nat, k ≤ 11 ∧ i = .int .i64 k ∧ Below w8.heap.size w8 wr) (fun i _ => 11 - (intOf i).toNat)
  case atStart => exact ⟨0, by omega, rfl, below_self _⟩
  case round =>
    obtain ⟨k, hk, rfl, hbr⟩ := hrel
    have HBr := Hid.in hbr
    by_cases hlt : k < 11
    · have ht := tab_ok k hlt
      have c := HC.out k hlt
      have c0 := (hbr.cell (p := ⟨w7.heap.size, k * 3, none⟩) HL8.out).trans c.1
      have c1 := (hbr.cell (p := ⟨w7.heap.size, k * 3 + 1, none⟩) HL8.out).trans c.2.1
      have c2 := (hbr.cell (p := ⟨w7.heap.size, k * 3 + 2, none⟩) HL8.out).trans c.2.2
      clear c hbr
      generalize tabA.getD k 0 = a at *
      generalize tabN.getD k 0 = n at *
      generalize tabE.getD k 0 = e at *
      have HN9 := Hid.in ((HN8.out.below HBr.out).below (new_alloc wr (.cells #[.int .i64 a, .int .i64 n, .int .i64 e] 28)))
      rcases ht with ⟨x, y, rfl, rfl, rfl, hxy⟩ | ⟨rfl, hn⟩ | ⟨rfl, hn0, hn1, hno⟩
      · go_wp2_with (go_at_call 9; refine (read_ok q7 g7 _ x y [1, 2, 3, 4, 5] _ HN9.out hxy (by decide)).mono ?_; rintro e w10 ⟨k10, rfl, ho, hb⟩; have HV := (hb.block wr.heap.size (by rw [size_one]; omega)).trans (heap_alloc_new wr _); have d1 : w10.cell? ⟨wr.heap.size, 1, none⟩ = some (.int .i64 y) := (by simp [World.cell?, HV]); have d2 : w10.cell? ⟨wr.heap.size, 2, none⟩ = some (.int .i64 0) := (by simp [World.cell?, HV]); have HB10 := Hid.in (below_step (below_alloc HBr.out _) hb); clear hb ho HV HN9)
        go_roundw
        case rel => exact ⟨k + 1, by omega, by go_num, HB10.out⟩
        case measure => simp [intOf]; omega
      · go_wp2_with (go_at_call 9; refine (read_neg q7 g7 _ a n [1, 2, 3, 4, 5] _ HN9.out hn).mono ?_; rintro e w10 ⟨rfl, rfl⟩)
        go_roundw
        case rel => exact ⟨k + 1, by omega, by go_num, below_alloc HBr.out _⟩
        case measure => simp [intOf]; omega
      · go_wp2_with (go_at_call 9; refine (read_out q7 g7 _ a n [1, 2, 3, 4, 5] _ HN9.out hn0 hn1 hno).mono ?_; rintro e w10 ⟨rfl, rfl⟩)
        go_roundw
        case rel => exact ⟨k + 1, by omega, by go_num, below_alloc HBr.out _⟩
        case measure => simp [intOf]; omega
    · clear hbr
      have HM9 := Hid.in (HM8.out.below HBr.out)
      have HN9 := Hid.in (HN8.out.below HBr.out)
      have HB9 := Hid.in (below_step HB8.out HBr.out)
      clear HC HM8 HN8 HB8 HBr HL8
      have hg1 : ∀ W, Mem W w1.heap.size q g xs → Calls Try.prog 10 #[.pointer (some ⟨q, 0, none⟩), .int .i64 16383] W (fun e w' => e = .returned (.tuple #[granV xs 16383, .int .i64 0]) ∧ Below W.heap.size W w') := fun W hM => gran_any q g w1.heap.size 16383 xs W hM (by decide)
      rw [granV, fourV] at hg1
      generalize xs.getD (4 * 16383) 0 = z0 at hg1
      generalize xs.getD (4 * 16383 + 1) 0 = z1 at hg1
      generalize xs.getD (4 * 16383 + 2) 0 = z2 at hg1
      generalize xs.getD (4 * 16383 + 3) 0 = z3 at hg1
      have hg2 := fun W hM => gran_bad q g w1.heap.size 16384 xs W hM (by decide)
      have hg3 := fun W hM => gran_bad q g w1.heap.size (-1) xs W hM (by decide)
      rw [fourV] at hg2 hg3
      have hg4 : ∀ W B, Mem W B q7 g7 [1, 2, 3, 4, 5] → Calls Try.prog 10 #[.pointer (some ⟨q7, 0, none⟩), .int .i64 2] W (fun e w' => e = .returned (.tuple #[granV [1, 2, 3, 4, 5] 2, .int .i64 0]) ∧ Below W.heap.size W w') := fun W B hM => gran_any q7 g7 B 2 [1, 2, 3, 4, 5] W hM (by decide)
      rw [show granV [1, 2, 3, 4, 5] 2 = fourV 0 0 0 0 from rfl, fourV] at hg4
      have hw1 : ∀ W B p, Mem W B q7 g7 [1, 2, 3, 4, 5] → Calls Try.prog 11 #[.pointer (some ⟨q7, 0, none⟩), .int .i64 4, .slice p 2 2] W (fun e w' => e = .returned (.int .i64 210) ∧ w' = W) := fun W B p hM => write_out q7 g7 B 2 2 p 4 [1, 2, 3, 4, 5] W hM (by decide) (by decide)
      have hw2 : ∀ W B, Mem W B q7 g7 [1, 2, 3, 4, 5] → Calls Try.prog 11 #[.pointer (some ⟨q7, 0, none⟩), .int .i64 5, .slice none 0 0] W (fun e w' => e = .returned (.int .i64 0) ∧ Mem w' B q7 g7 [1, 2, 3, 4, 5] ∧ Keeps (fun b => b = g7) W w') := fun W B hM => write_ok q7 g7 B 5 0 none [1, 2, 3, 4, 5] [] W hM (fun h => absurd h (Nat.lt_irrefl 0)) (by decide) (by decide)
      have hw3 : ∀ W B, Mem W B q7 g7 [1, 2, 3, 4, 5] → Calls Try.prog 11 #[.pointer (some ⟨q7, 0, none⟩), .int .i64 6, .slice none 0 0] W (fun e w' => e = .returned (.int .i64 210) ∧ w' = W) := fun W B hM => write_out q7 g7 B 0 0 none 6 [1, 2, 3, 4, 5] W hM (by decide) (by decide)
      go_wp2_with (first
        | (go_at_call 10; first
          | ((with_reducible refine (hg1 _ HM9.out).mono ?_); rintro e w10 ⟨rfl, hb⟩; have HM10 := Hid.in ((HM9.out.below hb).below (new_alloc _ (.cells #[.int .u8 z0, .int .u8 z1, .int .u8 z2, .int .u8 z3] 32))); have HN10 := Hid.in ((HN9.out.below hb).below (new_alloc _ (.cells #[.int .u8 z0, .int .u8 z1, .int .u8 z2, .int .u8 z3] 32))); have HB10 := Hid.in (below_alloc (below_step HB9.out hb) (.cells #[.int .u8 z0, .int .u8 z1, .int .u8 z2, .int .u8 z3] 32)); clear hb HM9 HN9 HB9 hg1)
          | ((with_reducible refine (hg2 _ HM10.out).mono ?_); rintro e w11 ⟨rfl, hb⟩; have HM11 := Hid.in ((HM10.out.below hb).below (new_alloc _ (.cells #[.int .u8 0, .int .u8 0, .int .u8 0, .int .u8 0] 32))); have HN11 := Hid.in ((HN10.out.below hb).below (new_alloc _ (.cells #[.int .u8 0, .int .u8 0, .int .u8 0, .int .u8 0] 32))); have HB11 := Hid.in (below_alloc (below_step HB10.out hb) (.cells #[.int .u8 0, .int .u8 0, .int .u8 0, .int .u8 0] 32)); clear hb HM10 HN10 HB10 hg2)
          | ((with_reducible refine (hg3 _ HM11.out).mono ?_); rintro e w12 ⟨rfl, hb⟩; have HN12 := Hid.in ((HN11.out.below hb).below (new_alloc _ (.cells #[.int .u8 0, .int .u8 0, .int .u8 0, .int .u8 0] 32))); have HB12 := Hid.in (below_alloc (below_step HB11.out hb) (.cells #[.int .u8 0, .int .u8 0, .int .u8 0, .int .u8 0] 32)); clear hb HM11 HN11 HB11 hg3)
          | ((with_reducible refine (hg4 _ _ HN12.out).mono ?_); rintro e w13 ⟨rfl, hb⟩; have HN13 := Hid.in ((HN12.out.below hb).below (new_alloc _ (.cells #[.int .u8 0, .int .u8 0, .int .u8 0, .int .u8 0] 32))); have HB13 := Hid.in (below_alloc (below_step HB12.out hb) (.cells #[.int .u8 0, .int .u8 0, .int .u8 0, .int .u8 0] 32)); have heq := eq_four_self 0 0 0 0 (w13.alloc (.cells #[.int .u8 0, .int .u8 0, .int .u8 0, .int .u8 0] 32)) (by decide) (by decide) (by decide) (by decide); clear hb HN12 HB12 hg4))
        | (go_at_call 11; first
          | ((with_reducible refine (hw1 _ _ _ (HN13.out.below (new_alloc _ _))).mono ?_); rintro e w14 ⟨rfl, hw⟩; have HN14 : Hid (Mem w14 _ q7 g7 [1, 2, 3, 4, 5]) := (by rw [hw]; exact HN13.out.below (new_alloc _ _)); have HB14 : Hid (Below w.heap.size w w14) := (by rw [hw]; exact below_alloc HB13.out _); clear hw hw1 HN13 HB13 heq)
          | ((with_reducible refine (hw2 _ _ HN14.out).mono ?_); rintro e w15 ⟨rfl, hm, hk⟩; have HN15 := Hid.in hm; have HB15 := Hid.in (HB14.out.trans (hk.below HB14.out.size (fun j hj => by subst hj; exact HG7.out))); clear hm hk hw2 HN14 HB14)
          | ((with_reducible refine (hw3 _ _ HN15.out).mono ?_); rintro e w16 ⟨rfl, rfl⟩))
        | (go_at_call 13; refine (bytes_any q7 g7 _ [1, 2, 3, 4, 5] _ HN15.out (by decide)).mono ?_; rintro e w17 ⟨k17, rfl, ho, hb⟩; have HO17 := Hid.in ho; have HB17 := Hid.in (below_step HB15.out hb); clear ho hb)
        | (go_at_call 12; refine (sameBytes_any _ _ 5 5 5 5 [1, 2, 3, 4, 5] [1, 2, 3, 4, 5] _ rfl rfl (by decide) (HO17.out.below (new_alloc _ _)).row (Own.lit w17 [1, 2, 3, 4, 5] (by decide)).row).mono ?_; rw [sameB_self]; rintro e w18 ⟨rfl, m18, hw⟩; have HB18 : Hid (Below w.heap.size w w18) := (by rw [hw]; exact below_draws (below_alloc HB17.out _) _); clear hw)
        | (go_at_call 14; refine (awake_any _).mono ?_; rintro e w19 ⟨rfl, hb⟩; have HB19 := Hid.in (below_step HB18.out hb); clear hb))
      go_ret
      exact ⟨rfl, HB19.out⟩

end Go.Proofs.Ytammbaamkechhaa
