/- place and near. -/
import Derived.Test.YtekggimgobeggaaBatA
import Derived.Deep.DeepCutAuto
import Derived.Deep.CutBlock
import Derived.WalkMore
namespace Go.Proofs.Ytekggimgobeggaa
open Go.RowKit

set_option maxHeartbeats 1000000 in
theorem place_any (q : Nat) (L : List Si) (a : Int) (w : World) (h : Bat w q L) :
    Calls Try.prog 86 #[.pointer (some ⟨q, 0, none⟩), .int .i64 a] w fun e w' => ∃ i f n, e = .returned (.tuple #[.int .i64 (i : Nat), .bool f]) ∧ Plc L a i f ∧ w' = w.drewN n := by
  have c1 := h.c1
  have hle := h.le
  have HB := Hid.in h
  clear h
  go_enter Try.func86, Try.ntmps86
  go_wp2_with fail
  go_step3
  go_upto_region 1 with fail
  go_quiet (fail)
  have hww : ∃ w1, w1 = w.drewN nq := ⟨_, rfl⟩
  obtain ⟨w1, hw1⟩ := hww
  rw [← hw1]
  have HW := Hid.in hw1
  have HB1 : Hid (Bat w1 q L) := by rw [hw1]; exact HB.out.drewN nq
  clear hw1
  go_wp2_with fail
  go_step3
  go_wp2_with fail
  go_loop [6, 7, 8] (fun vi ve vf => ∃ i e : Nat, vi = .int .i64 i ∧ ve = .int .i64 e ∧ vf = .bool false ∧ i ≤ e ∧ e ≤ L.length ∧ (∀ j (h : j < L.length), j < i → L[j].at_ < a) ∧ (∀ j (h : j < L.length), e ≤ j → a < L[j].at_)) (fun vi ve _ => (intOf ve).toNat - (intOf vi).toNat)
  case atStart => exact ⟨0, L.length, rfl, rfl, rfl, Nat.zero_le _, Nat.le_refl _, fun j _ h => absurd h (by omega), fun j h h' => absurd h (by omega)⟩
  case round =>
    obtain ⟨i, e, rfl, rfl, rfl, hie, hel, h1, h2⟩ := hrel
    have H1 := Hid.in h1
    have H2 := Hid.in h2
    clear h1 h2
    by_cases hlt : i < e
    · obtain ⟨m, hm⟩ : ∃ m, m = (i + e) / 2 := ⟨_, rfl⟩
      have hm1 : i ≤ m := by omega
      have hm2 : m < e := by omega
      have hmi : ((i : Int) + (e : Int)) / 2 = (m : Int) := by omega
      have hml : m < L.length := by omega
      have cm : w1.cell? ⟨q, 2 + m * 3 + 1, none⟩ = some (.int .i64 L[m].at_) := HB1.out.at m hml 1 (by decide)
      have HS : Hid (∀ j (h : j < L.length), j < m → L[j].at_ + 5 ≤ L[m].at_) := fun j _ hj => HB1.out.srt.gap j m hml hj
      have HT : Hid (∀ j (h : j < L.length), m < j → L[m].at_ + 5 ≤ L[j].at_) := fun j h hj => HB1.out.srt.gap m j h hj
      obtain ⟨z, hz⟩ : ∃ z, z = L[m].at_ := ⟨_, rfl⟩
      have HM : Hid (L[m].at_ = z) := hz.symm
      rw [← hz] at cm HS HT
      clear hm hz
      rcases Int.lt_trichotomy z a with hza | hza | hza
      · go_wp2_with fail
        go_round
        case rel => exact ⟨m + 1, e, by go_num, rfl, rfl, by omega, hel, fun j hj hji => (by
          rcases Nat.lt_or_ge j m with h | h
          · have := HS.out j hj h; omega
          · have : j = m := by omega
            subst this; have := HM.out; omega), H2.out⟩
        case measure => simp [intOf]; omega
      · subst hza
        have hz1 : ¬ z < z := by omega
        go_wp2_with fail
        go_ret2
        exact ⟨m, true, nq, rfl, ⟨by omega, fun j hj hji => (by have := HS.out j hj hji; omega), fun _ => ⟨hml, HM.out⟩, fun h => (by cases h)⟩, HW.out⟩
      · have hz1 : ¬ z < a := by omega
        go_wp2_with fail
        go_round
        case rel => exact ⟨i, m, rfl, by rw [hmi], rfl, hm1, by omega, H1.out, fun j hj hji => (by
          rcases Nat.lt_or_ge m j with h | h
          · have := HT.out j hj h; omega
          · have : j = m := by omega
            subst this; have := HM.out; omega)⟩
        case measure => simp [intOf, hmi]; omega
    · go_wp2_with fail
      go_ret2
      exact ⟨i, false, nq, rfl, ⟨by omega, H1.out, fun h => (by cases h), fun _ j hj hji => H2.out j hj (by omega)⟩, HW.out⟩

set_option maxHeartbeats 1000000 in
theorem near_any (q : Nat) (L : List Si) (i : Nat) (a : Int) (w : World) (h : Bat w q L) (hi : i ≤ L.length) (h0 : 0 ≤ a) (h1 : a ≤ 65531) :
    Calls Try.prog 92 #[.pointer (some ⟨q, 0, none⟩), .int .i64 i, .int .i64 a] w fun e w' => e = .returned (.bool (nrB L i a)) ∧ w' = w := by
  have c1 := h.c1
  have hle := h.le
  have HN : Hid (nrB L i a = ((decide (0 < i) && decide (a - (L.getD (i - 1) ⟨0, 0, 0⟩).at_ < 5)) || (decide (i < L.length) && decide ((L.getD i ⟨0, 0, 0⟩).at_ - a < 5)))) := rfl
  generalize nrB L i a = t at *
  have HL : Hid (∀ k, k < L.length → w.cell? ⟨q, 2 + k * 3 + 1, none⟩ = some (.int .i64 (L.getD k ⟨0, 0, 0⟩).at_) ∧ 0 ≤ (L.getD k ⟨0, 0, 0⟩).at_ ∧ (L.getD k ⟨0, 0, 0⟩).at_ ≤ 65531) := fun k hk => by
    have e : L.getD k ⟨0, 0, 0⟩ = L[k] := by simp [List.getD, hk]
    rw [e]
    exact ⟨h.at k hk 1 (by decide), h.srt.lo k hk, h.srt.hi k hk⟩
  clear h
  by_cases hp : 0 < i
  · obtain ⟨k, rfl⟩ : ∃ k, i = k + 1 := ⟨i - 1, by omega⟩
    obtain ⟨ck, k0, k1⟩ := HL.out k (by omega)
    have e1 : k + 1 - 1 = k := rfl
    have HN' := HN.out
    rw [e1] at HN'
    have HN2 := Hid.in HN'
    clear HN HN'
    generalize (L.getD k ⟨0, 0, 0⟩).at_ = z at *
    have g0 : decide ((0 : Int) < ((k + 1 : Nat) : Int)) = true := decide_eq_true (by omega)
    have g0' : (0 : Int) < (k : Int) + 1 := by omega
    by_cases hz : a - z < 5
    · have ht : t = true := by rw [HN2.out]; simp [hz]
      subst ht
      go_enter Try.func92, Try.ntmps92
      go_wp2_with fail
      go_ret
      exact ⟨rfl, rfl⟩
    · by_cases hl : k + 1 < L.length
      · obtain ⟨cn, n0, n1⟩ := HL.out (k + 1) hl
        have ht : t = decide ((L.getD (k + 1) ⟨0, 0, 0⟩).at_ - a < 5) := by rw [HN2.out]; simp [hz, hl]
        clear HN2 HL
        generalize (L.getD (k + 1) ⟨0, 0, 0⟩).at_ = y at *
        subst ht
        go_enter Try.func92, Try.ntmps92
        go_wp2_with fail
        go_ret
        exact ⟨rfl, rfl⟩
      · have ht : t = false := by rw [HN2.out]; simp [hz, hl]
        subst ht
        clear HN2 HL
        go_enter Try.func92, Try.ntmps92
        go_wp2_with fail
        go_ret
        exact ⟨rfl, rfl⟩
  · obtain rfl : i = 0 := by omega
    by_cases hl : 0 < L.length
    · obtain ⟨cn, n0, n1⟩ := HL.out 0 hl
      have ht : t = decide ((L.getD 0 ⟨0, 0, 0⟩).at_ - a < 5) := by rw [HN.out]; simp [hl]
      clear HN HL
      generalize (L.getD 0 ⟨0, 0, 0⟩).at_ = y at *
      subst ht
      go_enter Try.func92, Try.ntmps92
      go_wp2_with fail
      go_ret
      exact ⟨rfl, rfl⟩
    · have ht : t = false := by rw [HN.out]; simp [hl]
      subst ht
      clear HN HL
      go_enter Try.func92, Try.ntmps92
      go_wp2_with fail
      go_ret
      exact ⟨rfl, rfl⟩

set_option maxHeartbeats 400000 in
theorem bfind_any (q : Nat) (L : List Si) (a : Int) (w : World) (h : Bat w q L) :
    Calls Try.prog 57 #[.pointer (some ⟨q, 0, none⟩), .int .i64 a] w fun e w' => e = .returned (.tuple #[.int .i64 (fndI L a), .bool (fndB L a)]) ∧ ∃ n, w' = w.drewN n := by
  have h24 := bnone_no q w h.c0
  have h18 := place_any q L a w h
  clear h
  go_enter Try.func57, Try.ntmps57
  go_wp2_with (go_at_call 85; refine Hid.out ?_)
  refine Lib.hid ?_
  refine h24.mono ?_
  rintro e w1 ⟨rfl, hw⟩
  rw [hw]
  clear hw
  go_wp2_with (go_at_call 86; refine Hid.out ?_)
  refine Lib.hid ?_
  refine h18.mono ?_
  rintro e w2 ⟨i, f, n, rfl, hp, hw⟩
  have HP := Hid.in hp.fnd
  have HW := Hid.in hw
  clear hp hw
  cases f
  · go_wp2_with fail
    go_ret2
    exact ⟨by rw [HP.out.1, HP.out.2.2 trivial]; rfl, n, HW.out⟩
  · go_wp2_with fail
    go_ret2
    exact ⟨by rw [HP.out.1, HP.out.2.1 trivial]; rfl, n, HW.out⟩

end Go.Proofs.Ytekggimgobeggaa
