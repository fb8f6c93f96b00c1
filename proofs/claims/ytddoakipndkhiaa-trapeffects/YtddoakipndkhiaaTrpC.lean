/- What the law makes, and its example. -/
import Derived.Test.YtddoakipndkhiaaTrpB
import Derived.Test.YtddoakipndkhiaaOpenP
namespace Go.Proofs.Ytddoakipndkhiaa
open Go.RowKit

theorem Pts.below {w w' : World} {p : Option Addr} {L : List PtD} (h : Pts w p L) (hb : Below w.heap.size w w') : Pts w' p L := fun h0 => by
  obtain ⟨b, o, e, h1⟩ := h h0
  refine ⟨b, o, e, fun i y hy => ?_⟩
  obtain ⟨c0, c1, c2⟩ := h1 i y hy
  exact ⟨(hb.cell (p := ⟨b, o + i * 3, none⟩) (cell_lt c0)).trans c0, (hb.cell (p := ⟨b, o + i * 3 + 1, none⟩) (cell_lt c1)).trans c1, (hb.cell (p := ⟨b, o + i * 3 + 2, none⟩) (cell_lt c2)).trans c2⟩

theorem cell_grown {w w' : World} {g b j : Nat} {v : Value} (hg : w.grownBy w' (some g)) (hb : b ≠ g) (h : w.cell? ⟨b, j, none⟩ = some v) : w'.cell? ⟨b, j, none⟩ = some v := by
  have h1 := hg.block b (cell_lt h) (fun e => hb (by injection e))
  unfold World.cell? at *
  rw [h1]; exact h
/-- targets within bounds -/
def ToOk (L : List Si) : Prop := ∀ x ∈ L, 0 ≤ x.to_ ∧ x.to_ ≤ 65536
theorem mem_ins {s x : Si} : ∀ {L : List Si}, x ∈ insL s L → x = s ∨ x ∈ L
  | [], h => by
    simp only [insL, List.mem_cons, List.not_mem_nil, or_false] at h
    exact .inl h
  | y :: L, h => by
    unfold insL at h
    by_cases hy : s.at_ < y.at_
    · rw [if_pos hy] at h
      rcases List.mem_cons.1 h with h | h
      · exact .inl h
      · exact .inr h
    · rw [if_neg hy] at h
      rcases List.mem_cons.1 h with h | h
      · exact .inr (List.mem_cons.2 (.inl h))
      · rcases mem_ins h with h | h
        · exact .inl h
        · exact .inr (List.mem_cons_of_mem _ h)
theorem ToOk.add {L : List Si} (h : ToOk L) (a t : Int) (up : Bool) : ToOk (addR L a t up) := by
  unfold addR
  by_cases he : addE L a t = 0
  · rw [if_pos he]
    obtain ⟨-, -, b3, b4⟩ := bad_no (addE_zero he).1
    intro x hx
    rcases mem_ins hx with rfl | hx
    · exact ⟨b3, b4⟩
    · exact h x hx
  · rw [if_neg he]; exact h
set_option maxRecDepth 20000 in
set_option maxHeartbeats 1000000 in
theorem made_any (p : Option Addr) (n e : Nat) (X : List PtD) (w : World) (hX : X.length = n) (_hm : n ≤ 9223372036854775807) (hs : Pts w p X) :
    Calls Try.prog 6 #[.slice p n e] w fun E w' => ∃ L, E = .returned (.pointer (some ⟨w.heap.size, 0, none⟩)) ∧ Bat w' w.heap.size L ∧ Below w.heap.size w w' ∧ ToOk L := by
  have HX := Hid.in hX
  have HS := Hid.in hs
  clear hX hs
  go_enter Try.func6, Try.ntmps6
  go_wp2_with (go_at_call 15; refine Hid.out ?_)
  refine Lib.hid ?_
  refine (new_any w).mono ?_
  rintro E w1 ⟨rfl, hb1, hl1⟩
  have HB1 := Hid.in hb1
  have HL1 := Hid.in hl1
  clear hb1 hl1
  go_wp2_with fail
  go_loopw [4] (fun v4 wr => ∃ (i : Nat) (L : List Si), v4 = .int .i64 i ∧ i ≤ n ∧ i ≤ 20 ∧ Bat wr w.heap.size L ∧ Below w.heap.size w wr ∧ ToOk L) (fun v4 _ => n - (intOf v4).toNat)
  case atStart => exact ⟨0, [], rfl, Nat.zero_le _, Nat.zero_le _, HB1.out, HL1.out, fun _ h => absurd h (by simp)⟩
  case round =>
    obtain ⟨i, L, rfl, hi, hi4, hB, hL, hT⟩ := hrel
    have HT := Hid.in hT
    clear hT
    clear HB1 HL1
    have HB := Hid.in hB
    have HL := Hid.in hL
    clear hB hL
    by_cases hin : i < n ∧ i < 20
    · obtain ⟨hin1, hin2⟩ := hin
      have hiX : i < X.length := by rw [HX.out]; exact hin1
      obtain ⟨b, o, rfl, hc⟩ := (HS.out.below HL.out) (by omega)
      obtain ⟨c0, c1, c2⟩ := hc i X[i] (List.getElem?_eq_getElem hiX)
      clear hc
      generalize X[i] = x at *
      obtain ⟨ax, tx, ux⟩ := x
      simp only at c0 c1 c2
      have hbq : b ≠ w.heap.size := fun e => by
        subst e
        have h1 := HB.out.blk
        obtain ⟨b', o', e', hc'⟩ := HS.out (by omega)
        injection e' with e'
        injection e' with e1 e2
        obtain ⟨d0, -, -⟩ := hc' i X[i] (List.getElem?_eq_getElem hiX)
        have h2 := cell_lt d0
        omega
      have HK : Hid (∀ w3, (wr.drewN 1).grownBy w3 (some w.heap.size) → w3.cell? ⟨b, o + i * 3, none⟩ = some (.int .i64 ax) ∧ w3.cell? ⟨b, o + i * 3 + 1, none⟩ = some (.int .i64 tx) ∧ w3.cell? ⟨b, o + i * 3 + 2, none⟩ = some (.bool ux)) := fun w3 hg => by
        have hk : ∀ j v, (wr.drewN 1).cell? ⟨b, j, none⟩ = some v → w3.cell? ⟨b, j, none⟩ = some v := fun j v h => (cell_grown hg hbq h)
        exact ⟨hk _ _ c0, hk _ _ c1, hk _ _ c2⟩
      go_upto_region 5 with fail
      go_region_held3 (fun W => W.cell? ⟨b, o + i * 3, none⟩ = some (.int .i64 ax) ∧ W.cell? ⟨b, o + i * 3 + 1, none⟩ = some (.int .i64 tx) ∧ W.cell? ⟨b, o + i * 3 + 2, none⟩ = some (.bool ux)) (first | go_keep | exact hk1)
        (first | (go_at_call 16; refine (add_any _ _ ax tx ux _ (HB.out.drewN 1)).mono ?_; rintro E w3 ⟨rfl, hb3, hg3⟩; have HB3 := Hid.in hb3; have HL3 := Hid.in ((below_draws HL.out 1).trans (below_grown hg3 (Nat.le_refl _) (below_draws HL.out 1).size)); have hk1 : w3.cell? ⟨b, o + i * 3, none⟩ = some (.int .i64 ax) ∧ w3.cell? ⟨b, o + i * 3 + 1, none⟩ = some (.int .i64 tx) ∧ w3.cell? ⟨b, o + i * 3 + 2, none⟩ = some (.bool ux) := HK.out w3 hg3; clear hb3 hg3))
      go_wp2_with fail
      go_roundw
      case rel => exact ⟨i + 1, _, by go_num, by omega, by omega, HB3.out, HL3.out, HT.out.add _ _ _⟩
      case measure => simp [intOf]; omega
    · go_wp2_with fail
      all_goals go_ret
      all_goals exact ⟨_, rfl, HB.out, HL.out, HT.out⟩
theorem nx1 : nxtV L2 20 = 5 ∧ nxtB L2 20 = true := ⟨by decide, by decide⟩
theorem nx2 : nxtV L2 0 = 5 ∧ nxtB L2 0 = true := ⟨by decide, by decide⟩
theorem nx3 : nxtB L2 1 = false := by decide
theorem od1 : effT ⟨0, 20, 5⟩ (!true) = 25 := by decide
set_option maxRecDepth 20000 in
set_option maxHeartbeats 1000000 in
theorem awake_any (w : World) : Calls Try.prog 11 #[] w fun e w' => e = .returned (.bool true) ∧ Below w.heap.size w w' := by
  go_enter Try.func11, Try.ntmps11
  go_wp2_with (go_at_call 15; refine Hid.out ?_)
  refine Lib.hid ?_
  refine (new_any w).mono ?_
  rintro e w1 ⟨rfl, hb, hl⟩
  have HB0 := Hid.in hb
  have HL0 := Hid.in hl
  clear hb hl
  go_wp2_with (go_at_call 16; refine Hid.out ?_)
  refine Lib.hid ?_
  refine (add_any _ _ 20 5 true w1 HB0.out).mono ?_
  rintro e w2 ⟨rfl, hb, hg⟩
  rw [ex1.2] at hb
  rw [ex1.1]
  have HB1 := Hid.in hb
  have HL1 := Hid.in (HL0.out.trans (below_grown hg (Nat.le_refl _) HL0.out.size))
  clear hb hg HB0 HL0
  go_wp2_with (go_at_call 16; refine Hid.out ?_)
  refine Lib.hid ?_
  refine (add_any _ _ 0 9 false w2 HB1.out).mono ?_
  rintro e w3 ⟨rfl, hb, hg⟩
  rw [ex2.2] at hb
  rw [ex2.1]
  have HB2 := Hid.in hb
  have HL2 := Hid.in (HL1.out.trans (below_grown hg (Nat.le_refl _) HL1.out.size))
  clear hb hg HB1 HL1
  go_wp2_with (go_at_call 8; refine Hid.out ?_)
  refine Lib.hid ?_
  refine (next_any _ _ 20 w3 (by decide) (by decide) HB2.out).mono ?_
  rintro e w4 ⟨rfl, hb⟩
  rw [nx1.1, nx1.2]
  have HB3 := Hid.in (HB2.out.below hb)
  have HL3 := Hid.in (below_step HL2.out hb)
  clear hb HB2 HL2
  go_wp2_with (go_at_call 8; refine Hid.out ?_)
  refine Lib.hid ?_
  refine (next_any _ _ 0 w4 (by decide) (by decide) HB3.out).mono ?_
  rintro e w5 ⟨rfl, hb⟩
  rw [nx2.1, nx2.2]
  have HB4 := Hid.in (HB3.out.below hb)
  have HL4 := Hid.in (below_step HL3.out hb)
  clear hb HB3 HL3
  go_wp2_with (go_at_call 8; refine Hid.out ?_)
  refine Lib.hid ?_
  refine (next_any _ _ 1 w5 (by decide) (by decide) HB4.out).mono ?_
  rintro e w6 ⟨rfl, hb⟩
  rw [nx3]
  have HL5 := Hid.in (below_step HL4.out hb)
  clear hb HB4 HL4
  go_wp2_with (go_at_call 8; refine Hid.out ?_)
  refine Lib.hid ?_
  refine (next_nil 20 w6 (by decide) (by decide)).mono ?_
  rintro e w7 ⟨rfl, hw⟩
  rw [hw]
  clear hw w7
  go_wp2_with (go_at_call 14; refine Hid.out ?_)
  refine Lib.hid ?_
  refine (old_any ⟨0, 20, 5⟩ true w6).mono ?_
  rintro e w7 ⟨rfl, hb⟩
  rw [od1]
  have HL6 := Hid.in (below_step HL5.out hb)
  clear hb HL5
  go_wp2_with fail
  go_ret
  exact ⟨rfl, HL6.out⟩
end Go.Proofs.Ytddoakipndkhiaa
