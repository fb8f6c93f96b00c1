/- Texts put together: ObjF. -/
import Derived.Test.YtkianldkbfjehaaGreatDoorKzq
import Derived.Test.YtkianldkbfjehaaGreatDoorKr
import Derived.Test.YtkianldkbfjehaaGreatDoorKs
import Derived.Test.YtkianldkbfjehaaGreatDoorKe
import Derived.Deep.RegionLaw

/- object.asks, object.fixesOf. -/
namespace Go.Proofs.YtkianldkbfjehaaGreatDoor
open Go.RowKit

/-- how a label is filled in for which an op asks -/
def askK (o : Int) : Option Int := if o = 9 ∨ o = 10 ∨ o = 11 ∨ o = 12 then some 1 else if o = 14 ∨ o = 15 then some 2 else none
theorem asks_any (o : Int) (w : World) :
    Calls Tryz.prog 63 #[.int .u8 o] w fun E w' => E = .returned (.tuple #[.int .u8 ((askK o).getD 0), .bool (askK o).isSome]) ∧ w' = w := by
  by_cases h9 : o = 9
  · subst h9
    go_enter Tryz.func63, Tryz.ntmps63
    go_wp2
    go_ret2
    exact ⟨rfl, rfl⟩
  by_cases h10 : o = 10
  · subst h10
    go_enter Tryz.func63, Tryz.ntmps63
    go_wp2
    go_ret2
    exact ⟨rfl, rfl⟩
  by_cases h11 : o = 11
  · subst h11
    go_enter Tryz.func63, Tryz.ntmps63
    go_wp2
    go_ret2
    exact ⟨rfl, rfl⟩
  by_cases h12 : o = 12
  · subst h12
    go_enter Tryz.func63, Tryz.ntmps63
    go_wp2
    go_ret2
    exact ⟨rfl, rfl⟩
  by_cases h14 : o = 14
  · subst h14
    go_enter Tryz.func63, Tryz.ntmps63
    go_wp2
    go_ret2
    exact ⟨rfl, rfl⟩
  by_cases h15 : o = 15
  · subst h15
    go_enter Tryz.func63, Tryz.ntmps63
    go_wp2
    go_ret2
    exact ⟨rfl, rfl⟩
  · have HA : Hid (askK o = none) := by
      have : askK o = none := by unfold askK; rw [if_neg (by omega), if_neg (by omega)]
      exact this
    rw [HA.out]
    go_enter Tryz.func63, Tryz.ntmps63
    go_wp2
    go_ret2
    exact ⟨rfl, rfl⟩
/-- the fixes, with their places -/
def fixV (kd : Int) (x : Src) (a : Nat) : V3 := (.int .u8 kd, .int .i64 (((a + sizeL x a : Nat) : Int) - 4), .string x.name)
def fixesL : List Src → List Nat → List V3
  | x :: xs, a :: bs => match askK x.o with
    | some kd => fixV kd x a :: fixesL xs bs
    | none => fixesL xs bs
  | _, _ => []
theorem fixesL_step : ∀ (xs : List Src) (ps : List Nat) (k : Nat) (h : k < xs.length) (h' : k < ps.length), fixesL (xs.take (k + 1)) (ps.take (k + 1)) = fixesL (xs.take k) (ps.take k) ++ match askK xs[k].o with | some kd => [fixV kd xs[k] ps[k]] | none => []
  | x :: xs, a :: bs, 0, _, _ => by
    simp [fixesL]
  | x :: xs, a :: bs, k + 1, h, h' => by
    have ih := fixesL_step xs bs k (by simpa using h) (by simpa using h')
    simp only [List.take_succ_cons, fixesL, List.getElem_cons_succ]
    rw [ih]
    cases askK x.o <;> rfl
theorem fixesL_len : ∀ (xs : List Src) (ps : List Nat), (fixesL xs ps).length ≤ xs.length
  | [], _ => by simp [fixesL]
  | x :: xs, [] => by simp [fixesL]
  | x :: xs, a :: bs => by
    have := fixesL_len xs bs
    unfold fixesL
    split <;> (simp; omega)

set_option maxRecDepth 20000 in
set_option maxHeartbeats 2000000 in
theorem fixesOf_any (p q : Option Addr) (n c d : Nat) (xs : List Src) (ps : List Nat) (w : World) (he : Env w) (hn : xs.length = n) (hps : ps.length = n) (hn4 : n ≤ 4096) (hm : ∀ x ∈ xs, mayB x = true) (hpp : ∀ a ∈ ps, a ≤ 65536) (hx : Items w p xs) (hq : GRow w q (nums (ints ps))) :
    Calls Tryz.prog 25 #[.slice p n c, .slice q n d] w fun E w' => ∃ v, E = .returned v ∧ TOwn 39 w' w.heap.size v (fixesL xs ps) ∧ Below w.heap.size w w' := by
  have HX := Hid.in hx
  have HQ := Hid.in hq
  have HN := Hid.in hn
  have HP := Hid.in hps
  have HM := Hid.in hm
  have HPP := Hid.in hpp
  have HE := Hid.in he
  clear hx hq hn hps hm hpp he
  go_enter Tryz.func25, Tryz.ntmps25
  go_wp2_with fail
  go_loopw [5, 12] (fun v i wr => ∃ k : Nat, k ≤ n ∧ i = .int .i64 k ∧ TOwn 39 wr w.heap.size v (fixesL (xs.take k) (ps.take k)) ∧ Below w.heap.size w wr) (fun _ i _ => n - (intOf i).toNat)
  case atStart => exact ⟨0, Nat.zero_le _, rfl, by simp only [List.take_zero, fixesL]; exact TOwn.nil _ _ _, below_self _⟩
  case round =>
    obtain ⟨k, hk, rfl, hV, hb⟩ := hrel
    have HV := Hid.in hV
    have HB := Hid.in hb
    obtain ⟨pv, cv, hv, -, -, -⟩ := hV.shape
    subst hv
    clear hV hb
    by_cases hlt : k < n
    · have hkx : k < xs.length := by rw [HN.out]; exact hlt
      have hkp : k < ps.length := by rw [HP.out]; exact hlt
      obtain ⟨b, o, hp, hc⟩ := HX.out (by omega)
      subst hp
      obtain ⟨bq, oq, hqq, hcq⟩ := HQ.out (by simp [nums, ints]; omega)
      subst hqq
      obtain ⟨qd, cq, hR, hrow, hfit⟩ := hc k hkx
      have HST := Hid.in (fixesL_step xs ps k hkx hkp)
      have hcp : w.cell? ⟨bq, oq + k, none⟩ = some (.int .i64 ps[k]) := (hcq k (by simp [nums, ints]; omega)).trans (by simp [nums, ints, hkp])
      have HLN := Hid.in (Nat.le_trans (fixesL_len (xs.take k) (ps.take k)) (by rw [List.length_take]; omega : (xs.take k).length ≤ 1048576))
      have hmx := HM.out _ (List.getElem_mem hkx)
      have hax := HPP.out _ (List.getElem_mem hkp)
      generalize fixesL (xs.take k) (ps.take k) = L at *
      generalize ps[k] = a0 at *
      generalize xs[k] = x at *
      have hsm := size_small (may_good hmx) a0
      have hsp : sizeP x (a0 : Int) = (sizeL x a0 : Int) := by unfold sizeP; rw [if_neg (by simp [hmx])]; rfl
      have HR := Hid.in hR
      have HCP := Hid.in hcp
      have HF := Hid.in hfit
      have HROW := Hid.in hrow
      have i3 : wr.cell? ⟨b, o + k * 9 + 3, none⟩ = some (.int .u8 x.o) := range_below HR.out HB.out 3 _ rfl
      have hA := fun W => asks_any x.o W
      clear hR hcp hc hcq hfit hrow hmx
      cases hk2 : askK x.o with
      | none =>
        have HST2 : Hid (fixesL (xs.take (k + 1)) (ps.take (k + 1)) = L) := by
          have := HST.out
          rw [hk2, List.append_nil] at this
          exact this
        rw [hk2] at hA
        go_wp2_with (go_at_call 63; refine (hA _).mono ?_; rintro E w5 ⟨rfl, rfl⟩)
        go_roundw
        case rel => exact ⟨k + 1, by omega, by go_num, by rw [HST2.out]; exact HV.out, HB.out⟩
        case measure => simp [intOf]; omega
      | some kd =>
        have HST2 : Hid (fixesL (xs.take (k + 1)) (ps.take (k + 1)) = L ++ [fixV kd x a0]) := by
          have := HST.out
          rw [hk2] at this
          exact this
        rw [hk2] at hA
        go_wp2_with (go_at_call 63; refine (hA _).mono ?_; rintro E w5 ⟨rfl, rfl⟩)
        have ip : w5.cell? ⟨bq, oq + k, none⟩ = some (.int .i64 a0) := (HB.out.cell (p := ⟨bq, oq + k, none⟩) (cell_lt HCP.out)).trans HCP.out
        have i0 : w5.cell? ⟨b, o + k * 9, none⟩ = some (.int .u8 x.k) := range_below HR.out HB.out 0 _ rfl
        have i1 : w5.cell? ⟨b, o + k * 9 + 1, none⟩ = some (.string x.name) := range_below HR.out HB.out 1 _ rfl
        have i2 : w5.cell? ⟨b, o + k * 9 + 2, none⟩ = some (.string x.tg) := range_below HR.out HB.out 2 _ rfl
        have i4 : w5.cell? ⟨b, o + k * 9 + 4, none⟩ = some (.int .u8 x.a) := range_below HR.out HB.out 4 _ rfl
        have i5 : w5.cell? ⟨b, o + k * 9 + 5, none⟩ = some (.int .u8 x.b) := range_below HR.out HB.out 5 _ rfl
        have i6 : w5.cell? ⟨b, o + k * 9 + 6, none⟩ = some (.int .i32 x.m) := range_below HR.out HB.out 6 _ rfl
        have i7 : w5.cell? ⟨b, o + k * 9 + 7, none⟩ = some (.int .i64 x.n) := range_below HR.out HB.out 7 _ rfl
        have i8 : w5.cell? ⟨b, o + k * 9 + 8, none⟩ = some (.slice qd x.d.length cq) := range_below HR.out HB.out 8 _ rfl
        have hS := fun y => laySize_any x HF.out qd _ cq (a0 : Int) (w5.drewN y) ((HE.out.below HB.out).below (below_draws (below_self w5) y)) rfl ((HROW.out.below HB.out).drewN y)
        rw [hsp] at hS
        simp only [cellsOf] at hS
        have hz1 : x.name.size ≤ 281474976710656 := Nat.le_trans HF.out.nz (by decide)
        have HFV : Hid (fixV kd x a0 = (.int .u8 kd, .int .i64 (((a0 + sizeL x a0 : Nat) : Int) - 4), .string x.name)) := rfl
        generalize fixV kd x a0 = fv at *
        generalize sizeL x a0 = sz at *
        have HWR : Hid (IntKind.i64.wrap ((a0 : Int) + (sz : Int)) = ((a0 + sz : Nat) : Int)) := by
          have : IntKind.i64.wrap ((a0 : Int) + (sz : Int)) = ((a0 + sz : Nat) : Int) := by rw [IntKind.wrap_i64]; omega
          exact this
        clear HX HQ HN HP HST HCP HM HPP hA hsp
        go_region_law (go_simp; go_at_call 64; refine (hS 1).mono ?_; rintro E w6 ⟨rfl, hb6⟩; have HB6 := Hid.in (below_step (below_draws (below_self w5) 1) hb6); have ip6 : w6.cell? ⟨bq, oq + k, none⟩ = some (.int .i64 a0) := (HB6.out.cell (p := ⟨bq, oq + k, none⟩) (cell_lt ip)).trans ip; have i61 : w6.cell? ⟨b, o + k * 9 + 1, none⟩ = some (.string x.name) := (HB6.out.cell (p := ⟨b, o + k * 9 + 1, none⟩) (cell_lt i1)).trans i1; clear hb6)
        all_goals
          rw [HWR.out]
          go_wp2_with (first
            | (go_at_call 62; refine (clone_any _ _ hz1).mono ?_; rintro E w7 ⟨rfl, hb7⟩; have HB7 := Hid.in (below_step HB6.out hb7); clear hb7)
            | (at_builtin; refine tpush Tryz.elemFix _ rfl _ _ rfl w.heap.size _ L rfl ((HV.out.below HB7.out).alloc _) ⟨w7.heap.size, 0, none⟩ 1 (.int .u8 kd, .int .i64 (((a0 + sz : Nat) : Int) - 4), .string x.name) ⟨rfl, rfl, rfl⟩ rfl (news3 _ _ _) HLN.out (by decide) (by have := HB.out.size; have := HB7.out.size; simp; omega) ?_; intro v8 w8 hT8 hg8 hb8; have HT8 := Hid.in hT8; have HB8 := Hid.in (hb8 w (below_alloc (below_step HB.out HB7.out) _)); clear hT8 hg8 hb8))
          go_roundw
          case rel => exact ⟨k + 1, by omega, by go_num, by rw [HST2.out, HFV.out]; exact HT8.out, HB8.out⟩
          case measure => simp [intOf]; omega
    · have hkn : k = n := by omega
      have HE2 : Hid (TOwn 39 wr w.heap.size (.slice pv (fixesL (xs.take k) (ps.take k)).length cv) (fixesL xs ps)) := by
        have := HV.out
        have e1 : xs.take k = xs := by rw [hkn, ← HN.out, List.take_length]
        have e2 : ps.take k = ps := by rw [hkn, ← HP.out, List.take_length]
        rw [e1, e2] at this ⊢
        exact this
      go_wp2_with fail
      go_ret
      exact ⟨_, rfl, HE2.out, HB.out⟩

end Go.Proofs.YtkianldkbfjehaaGreatDoor
