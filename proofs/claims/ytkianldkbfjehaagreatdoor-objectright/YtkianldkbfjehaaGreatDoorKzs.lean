/- Texts put together: ObjM. -/
import Derived.Test.YtkianldkbfjehaaGreatDoorKzq
import Derived.Test.YtkianldkbfjehaaGreatDoorKs
import Derived.Test.YtkianldkbfjehaaGreatDoorKe
import Derived.Deep.RegionLaw

/- object.marksOf. -/
namespace Go.Proofs.YtkianldkbfjehaaGreatDoor
open Go.RowKit

/-- the marks, with their places -/
def marksL : List Src → List Nat → List V3
  | x :: xs, a :: bs => if x.k = 3 then (.int .i64 a, .string x.name, .string x.tg) :: marksL xs bs else marksL xs bs
  | _, _ => []
theorem marksL_step : ∀ (xs : List Src) (ps : List Nat) (k : Nat) (h : k < xs.length) (h' : k < ps.length), marksL (xs.take (k + 1)) (ps.take (k + 1)) = marksL (xs.take k) (ps.take k) ++ if xs[k].k = 3 then [(.int .i64 ps[k], .string xs[k].name, .string xs[k].tg)] else []
  | x :: xs, a :: bs, 0, _, _ => by
    simp [marksL]
  | x :: xs, a :: bs, k + 1, h, h' => by
    have ih := marksL_step xs bs k (by simpa using h) (by simpa using h')
    simp only [List.take_succ_cons, marksL, List.getElem_cons_succ]
    rw [ih]
    by_cases hx : x.k = 3
    · rw [if_pos hx, if_pos hx]; rfl
    · rw [if_neg hx, if_neg hx]
theorem marksL_len : ∀ (xs : List Src) (ps : List Nat), (marksL xs ps).length ≤ xs.length
  | [], _ => by simp [marksL]
  | x :: xs, [] => by simp [marksL]
  | x :: xs, a :: bs => by
    have := marksL_len xs bs
    unfold marksL
    split
    · simp; omega
    · simp; omega

set_option maxRecDepth 20000 in
set_option maxHeartbeats 12000000 in
theorem marksOf_any (p q : Option Addr) (n c d : Nat) (xs : List Src) (ps : List Nat) (w : World) (hn : xs.length = n) (hps : ps.length = n) (hn4 : n ≤ 4096) (hx : Items w p xs) (hq : GRow w q (nums (ints ps))) :
    Calls Tryz.prog 26 #[.slice p n c, .slice q n d] w fun E w' => ∃ v, E = .returned v ∧ TOwn 41 w' w.heap.size v (marksL xs ps) ∧ Below w.heap.size w w' := by
  have HX := Hid.in hx
  have HQ := Hid.in hq
  have HN := Hid.in hn
  have HP := Hid.in hps
  clear hx hq hn hps
  go_enter Tryz.func26, Tryz.ntmps26
  go_wp2_with fail
  go_loopw [5, 9] (fun v i wr => ∃ k : Nat, k ≤ n ∧ i = .int .i64 k ∧ TOwn 41 wr w.heap.size v (marksL (xs.take k) (ps.take k)) ∧ Below w.heap.size w wr) (fun _ i _ => n - (intOf i).toNat)
  case atStart => exact ⟨0, Nat.zero_le _, rfl, by simp only [List.take_zero, marksL]; exact TOwn.nil _ _ _, below_self _⟩
  case round =>
    obtain ⟨k, hk, rfl, hV, hb⟩ := hrel
    have HV := Hid.in hV
    have HB := Hid.in hb
    obtain ⟨pv, cv, hv, -, -, -⟩ := hV.shape
    subst hv
    clear hV hb
    by_cases hlt : k < n
    · have hkx : k < xs.length := by rw [HN.out]; exact hlt
      have hkp : k < ps.length := by rw [HP.out]; exact hlt
      obtain ⟨b, o, hp, hc⟩ := HX.out (by omega)
      subst hp
      obtain ⟨bq, oq, hqq, hcq⟩ := HQ.out (by simp [nums, ints]; omega)
      subst hqq
      obtain ⟨qd, cq, hR, -, hfit⟩ := hc k hkx
      have HST := Hid.in (marksL_step xs ps k hkx hkp)
      have hcp : w.cell? ⟨bq, oq + k, none⟩ = some (.int .i64 ps[k]) := (hcq k (by simp [nums, ints]; omega)).trans (by simp [nums, ints, hkp])
      have HLN := Hid.in (Nat.le_trans (marksL_len (xs.take k) (ps.take k)) (by rw [List.length_take]; omega : (xs.take k).length ≤ 1048576))
      generalize marksL (xs.take k) (ps.take k) = L at *
      generalize ps[k] = a0 at *
      generalize xs[k] = x at *
      have HR := Hid.in hR
      have HCP := Hid.in hcp
      have HF := Hid.in hfit
      have i0 : wr.cell? ⟨b, o + k * 9, none⟩ = some (.int .u8 x.k) := range_below HR.out HB.out 0 _ rfl
      clear hR hcp hc hcq hfit
      by_cases h3 : x.k = 3
      · have HST2 : Hid (marksL (xs.take (k + 1)) (ps.take (k + 1)) = L ++ [(.int .i64 a0, .string x.name, .string x.tg)]) := by
          have := HST.out
          rw [if_pos h3] at this
          exact this
        have i1 : wr.cell? ⟨b, o + k * 9 + 1, none⟩ = some (.string x.name) := range_below HR.out HB.out 1 _ rfl
        have i2 : wr.cell? ⟨b, o + k * 9 + 2, none⟩ = some (.string x.tg) := range_below HR.out HB.out 2 _ rfl
        have ip : wr.cell? ⟨bq, oq + k, none⟩ = some (.int .i64 a0) := (HB.out.cell (p := ⟨bq, oq + k, none⟩) (cell_lt HCP.out)).trans HCP.out
        have hz1 : x.name.size ≤ 281474976710656 := Nat.le_trans HF.out.nz (by decide)
        have hz2 : x.tg.size ≤ 281474976710656 := Nat.le_trans HF.out.tz (by decide)
        go_wp2_with fail
        clear HX HQ HN HP HST HR HCP HF i0
        go_region_law (first
          | (go_simp; go_at_call 62; refine (clone_any _ _ hz1).mono ?_; rintro E w5 ⟨rfl, hb5⟩; have HB5 := Hid.in (below_step (below_draws (below_self wr) 1) hb5); have i51 : w5.cell? ⟨b, o + k * 9 + 1, none⟩ = some (.string x.name) := (HB5.out.cell (p := ⟨b, o + k * 9 + 1, none⟩) (cell_lt i1)).trans i1; have i52 : w5.cell? ⟨b, o + k * 9 + 2, none⟩ = some (.string x.tg) := (HB5.out.cell (p := ⟨b, o + k * 9 + 2, none⟩) (cell_lt i2)).trans i2; have i5p : w5.cell? ⟨bq, oq + k, none⟩ = some (.int .i64 a0) := (HB5.out.cell (p := ⟨bq, oq + k, none⟩) (cell_lt ip)).trans ip; clear hb5)
          | (go_simp; go_at_call 62; refine (clone_any _ _ hz2).mono ?_; rintro E w6 ⟨rfl, hb6⟩; have HB6 := Hid.in (below_step HB5.out hb6); have i6p : w6.cell? ⟨bq, oq + k, none⟩ = some (.int .i64 a0) := (HB6.out.cell (p := ⟨bq, oq + k, none⟩) (cell_lt ip)).trans ip; clear hb6)
          | (refine step_tpush Tryz.elemMark _ (by rfl) _ _ (by rfl) w.heap.size _ L (by rfl) ((HV.out.below HB6.out).alloc _) ⟨w6.heap.size, 0, none⟩ 1 (.int .i64 a0, .string x.name, .string x.tg) ⟨rfl, rfl, rfl⟩ (by rfl) (news3 _ _ _) HLN.out (by decide) (by have := HB.out.size; have := HB6.out.size; simp; omega) ?_; intro g7 c7 w7 hT7 hg7 hb7; have HT7 := Hid.in hT7; have HB7 := Hid.in (hb7 w (below_alloc (below_step HB.out HB6.out) _)); clear hT7 hg7 hb7))
        all_goals
          go_wp2_with fail
          go_roundw
          case rel => exact ⟨k + 1, by omega, by go_num, by rw [HST2.out]; exact HT7.out, HB7.out⟩
          case measure => simp [intOf]; omega
      · have HST2 : Hid (marksL (xs.take (k + 1)) (ps.take (k + 1)) = L) := by
          have := HST.out
          rw [if_neg h3, List.append_nil] at this
          exact this
        go_wp2_with fail
        go_roundw
        case rel => exact ⟨k + 1, by omega, by go_num, by rw [HST2.out]; exact HV.out, HB.out⟩
        case measure => simp [intOf]; omega
    · have hkn : k = n := by omega
      have HE : Hid (TOwn 41 wr w.heap.size (.slice pv (marksL (xs.take k) (ps.take k)).length cv) (marksL xs ps)) := by
        have := HV.out
        rw [show marksL (xs.take k) (ps.take k) = marksL xs ps by rw [hkn]; conv => lhs; rw [← HN.out, List.take_length, HN.out, ← HP.out, List.take_length]] at this ⊢
        exact this
      go_wp2_with fail
      go_ret
      exact ⟨_, rfl, HE.out, HB.out⟩

end Go.Proofs.YtkianldkbfjehaaGreatDoor
