/- What the law WordsLines answers: true, for every two texts up to a size. -/
import Derived.Test.YtaabdffplfifkaaDoorJoin
namespace Go.Proofs.YtaabdffplfifkaaDoor
open Go.RowKit

theorem list_snoc10 (s : ByteArray) (c : UInt8) : (s ++ ⟨#[c]⟩).data.toList = s.data.toList ++ [c] := by
  simp
theorem data_app (a b : ByteArray) : (a ++ b).data.toList = a.data.toList ++ b.data.toList := by simp
theorem texts_left (la lb : List (List UInt8)) (i : Nat) (h : i < la.length) : (strs (texts (la ++ lb)))[i]? = (strs (texts la))[i]? := by
  simp [texts, List.getElem?_append_left, h]
theorem texts_right (la lb : List (List UInt8)) (i : Nat) : (strs (texts (la ++ lb)))[la.length + i]? = (strs (texts lb))[i]? := by
  simp [texts, List.getElem?_append_right]
theorem texts_at (ls : List (List UInt8)) (k : Nat) (h : k < ls.length) : (strs (texts ls))[k]? = some (.string (bytesOf ls[k])) := by
  simp [texts, h]
theorem slice_length (vs : List Value) (n : Nat) (h : vs.length = n) (p : Option Addr) (c : Nat) : Value.slice p vs.length c = .slice p n c := by rw [h]

set_option maxRecDepth 100000 in
set_option maxHeartbeats 8000000 in
theorem linesWalk (a b : ByteArray) (w : World) (ha : a.size ≤ 1048576) (hb : b.size ≤ 1048576) :
    Calls Tryd.prog 5 #[.string a, .string b] w fun e w' => e = .returned (.bool true) ∧ Below w.heap.size w w' := by
  have hL := fun w => lines_any a w (by omega)
  have hla := Lib.size_eq a
  have hll := linesL_length a.data.toList
  go_enter Tryd.func5, Tryd.ntmps5
  go_wp2_with fail
  refine (hL _).mono ?_
  rintro e w1 ⟨v1, rfl, o1, hb1⟩
  clear hL
  obtain ⟨p1, c1, hv1, r1, -, -⟩ := o1.slice
  have HO : Hid (GOwnV 9 w1 w.heap.size v1 (strs (texts (linesL a.data.toList)))) := o1
  have hlen : (strs (texts (linesL a.data.toList))).length = (linesL a.data.toList).length := by simp [texts]
  rw [hlen] at hv1
  clear o1
  have HX : Hid (∀ k, k < (linesL a.data.toList).length → ∃ b o, p1 = some ⟨b, o, none⟩ ∧ w1.cell? ⟨b, o + k, none⟩ = some (.string (bytesOf ((linesL a.data.toList).getD k [])))) := by
    show ∀ k, k < (linesL a.data.toList).length → _
    intro k hk
    obtain ⟨b, o, hp, hc⟩ := r1 (by rw [hlen]; omega)
    refine ⟨b, o, hp, ?_⟩
    rw [hc k (by rw [hlen]; exact hk), texts_at _ k hk]
    simp [List.getD, hk]
  have HJ : Hid (∀ k, k < (linesL a.data.toList).length → joinL ((linesL a.data.toList).take (k + 1)) = joinL ((linesL a.data.toList).take k) ++ (linesL a.data.toList).getD k [] ++ [10]) := by
    show ∀ k, k < (linesL a.data.toList).length → _
    intro k hk
    rw [join_take _ k hk]; simp [List.getD, hk]
  have HN : Hid (∀ k, k < (linesL a.data.toList).length → ∀ x ∈ (linesL a.data.toList).getD k [], x ≠ 10) := by
    show ∀ k, k < (linesL a.data.toList).length → _
    intro k hk
    have : (linesL a.data.toList).getD k [] = (linesL a.data.toList)[k] := by simp [List.getD, hk]
    rw [this]; exact lines_no _ _ (List.getElem_mem hk)
  have HS : Hid (∀ k, (joinL ((linesL a.data.toList).take k)).length ≤ 1048577) := by
    show ∀ k, (joinL ((linesL a.data.toList).take k)).length ≤ 1048577
    intro k; have := join_len a.data.toList k; omega
  have HT : Hid ((linesL a.data.toList).take (linesL a.data.toList).length = linesL a.data.toList) := List.take_length
  have HE : Hid (joinL (linesL a.data.toList) = a.data.toList ∨ (a.data.toList ≠ [] ∧ joinL (linesL a.data.toList) = a.data.toList ++ [10])) := join_lines _
  have HB : Hid (∀ x ∈ linesL a.data.toList, ∀ c ∈ x, c ≠ 10) := lines_no _
  have HZ : Hid (a.data.toList = [] → linesL a.data.toList = []) := by
    show a.data.toList = [] → _
    intro e; rw [e]; rfl
  rw [← hla] at hll
  have HLA : Hid (a.size = a.data.toList.length) := hla
  clear hla
  generalize linesL a.data.toList = la at *
  clear hlen r1
  subst hv1
  go_wp2_with fail
  go_loop [6, 7] (fun t i => ∃ k : Nat, k ≤ la.length ∧ i = .int .i64 k ∧ t = .string (bytesOf (joinL (la.take k)))) (fun _ i => la.length - (intOf i).toNat)
  case atStart => exact ⟨0, Nat.zero_le _, rfl, rfl⟩
  case round =>
    obtain ⟨k, hk, rfl, rfl⟩ := hrel
    by_cases hlt : k < la.length
    · obtain ⟨b0, o0, rfl, hc⟩ := HX.out k hlt
      have hC := fun w => contains_no (bytesOf (la.getD k [])) 10 (by rw [bytesOf_list]; exact HN.out k hlt) w
      have h1 := HS.out k
      have h2 := HS.out (k + 1)
      rw [HJ.out k hlt] at h2
      have HQ : Hid (bytesOf (joinL (la.take (k + 1))) = (bytesOf (joinL (la.take k)) ++ bytesOf (la.getD k [])) ++ ⟨#[10]⟩) := by
        show bytesOf (joinL (la.take (k + 1))) = _
        rw [HJ.out k hlt, bytesOf_one, bytesOf_append, bytesOf_append]
      rw [List.length_append, List.length_append, List.length_singleton] at h2
      have q1 : ¬ (9223372036854775807 < (bytesOf (joinL (la.take k))).size + (bytesOf (la.getD k [])).size) := by rw [bytesOf_size, bytesOf_size]; omega
      have q2 : ¬ (9223372036854775807 < (bytesOf (joinL (la.take k)) ++ bytesOf (la.getD k [])).size + (⟨#[10]⟩ : ByteArray).size) := by
        rw [bytesOf_append, bytesOf_size, List.length_append, show (⟨#[10]⟩ : ByteArray).size = 1 from rfl]; omega
      clear h1 h2
      generalize la.getD k [] = x at *
      generalize bytesOf (joinL (la.take k)) = y at *
      generalize bytesOf x = bx at *
      have hki : (k : Int) < (la.length : Int) := by omega
      have hki2 : (la.length : Int) ≤ 9223372036854775807 := by omega
      go_wp2_with fail
      refine (hC _).mono ?_
      rintro e w2 ⟨rfl, rfl⟩
      go_wp2_with fail
      go_round
      case rel => exact ⟨k + 1, by omega, by go_num, by rw [HQ.out]⟩
      case measure => simp [intOf]; omega
    · obtain rfl : k = la.length := by omega
      rw [HT.out]
      have hki : ¬ ((la.length : Int) < (la.length : Int)) := by omega
      have hjl : (joinL la).length ≤ 1048577 := by have := HS.out la.length; rwa [HT.out] at this
      go_upto_region 9 with fail
      go_cut [6, 51] from 30 (fun y v wx => y = .string (bytesOf (joinL la)) ∧ v = .bool false ∧ wx = w1)
      case first =>
        by_cases hz : a.size = 0
        · have hem := text_empty a hz
          have hl0 : la = [] := HZ.out (List.eq_nil_of_length_eq_zero (by have := HLA.out; omega))
          subst hl0
          have hem2 : a.toList.isEmpty = true := by rw [hem]; rfl
          go_wp2_with fail
          go_meet
          case rel => exact ⟨rfl, rfl, rfl⟩
        · obtain ⟨hf1, hf2⟩ := text_full a (by omega)
          rcases HE.out with he | ⟨_, he⟩
          · have hw : bytesOf (joinL la) = a := by rw [he, bytesOf_self]
            rw [hw]
            have hss : (a.toList != a.toList) = false := by simp
            go_wp2_with fail
            go_meet
            case rel => exact ⟨by rw [hw], rfl, rfl⟩
          · have hw : bytesOf (joinL la) = a ++ ⟨#[10]⟩ := by
              rw [he]; apply ByteArray.ext; apply Array.toList_inj.1
              rw [list_snoc10, bytesOf_list]
            rw [hw]
            have hss : ((a ++ ⟨#[10]⟩).toList != (a ++ ⟨#[10]⟩).toList) = false := by simp
            have hq : ¬ (9223372036854775807 < a.size + (⟨#[10]⟩ : ByteArray).size) := by rw [show (⟨#[10]⟩ : ByteArray).size = 1 from rfl]; omega
            have hne : ¬ (a ++ ⟨#[10]⟩).toList = a.toList := fun e => by
              rw [toList_eq, toList_eq, list_snoc10] at e
              have := congrArg List.length e
              simp at this
            have hne2 : ((a ++ ⟨#[10]⟩).toList == a.toList) = false := by simpa using hne
            have HW : Hid (bytesOf (joinL la) = a ++ ⟨#[10]⟩) := hw
            clear hne hw he hz hss
            go_wp2_with fail
            go_meet
            case rel => exact ⟨by rw [HW.out], rfl, rfl⟩
      case rest =>
        obtain ⟨rfl, rfl, rfl⟩ := hcut
        have HL2 : Hid (linesL (bytesOf (joinL la) ++ b).data.toList = la ++ linesL b.data.toList) := by
          show linesL (bytesOf (joinL la) ++ b).data.toList = la ++ linesL b.data.toList
          rw [data_app, bytesOf_list]; exact lines_join la _ HB.out
        have hsz2 : (bytesOf (joinL la) ++ b).size ≤ 2097153 := by rw [ByteArray.size_append, bytesOf_size]; omega
        have hM := fun w => lines_any (bytesOf (joinL la) ++ b) w (by omega)
        rw [HL2.out] at hM
        have hP := fun w => lines_any b w (by omega)
        have hlb := linesL_length b.data.toList
        rw [← Lib.size_eq] at hlb
        have hcat : ¬ (9223372036854775807 < (bytesOf (joinL la)).size + b.size) := by rw [bytesOf_size]; omega
        generalize linesL b.data.toList = lb at *
        generalize bytesOf (joinL la) = y at *
        clear HL2 HE HZ HB HT HS HN HJ HX
        go_wp2_with fail
        refine (hM _).mono ?_
        rintro e w2 ⟨v2, rfl, o2, hb2⟩
        have o12 := HO.out.below hb2
        have hbw2 := below_step hb1 hb2
        clear HO hb2 hM hb1
        have hl2 : (strs (texts (la ++ lb))).length = la.length + lb.length := by simp [texts]
        obtain ⟨p2, c2, hv2, -, hc2, hn2⟩ := o2.slice
        rw [hl2] at hv2 hc2
        have HO2 : Hid (GOwnV 9 w2 wc.heap.size v2 (strs (texts (la ++ lb)))) := o2
        clear o2
        subst hv2
        go_wp2_with fail
        refine (hP _).mono ?_
        rintro e w3 ⟨v3, rfl, o3, hb3⟩
        have o13 := o12.below hb3
        have o23 := HO2.out.below hb3
        have hbw3 := below_step hbw2 hb3
        clear o12 HO2 hbw2 hb3 hP
        have hl3 : (strs (texts lb)).length = lb.length := by simp [texts]
        obtain ⟨p3, c3, hv3, r3, -, -⟩ := o3.slice
        rw [hl3] at hv3
        subst hv3
        have hlen1 : (strs (texts la)).length = la.length := by simp [texts]
        obtain ⟨p1', c1', hv1', r1, -, -⟩ := o13.slice
        rw [hlen1] at hv1'
        injection hv1' with e1 e2 e3
        subst e1 e3
        rcases o23.shape with ⟨hv2', hnil⟩ | ⟨g2, cap2, hv2', ho2⟩
        · have h0 : la.length + lb.length = 0 := by rw [← hl2, hnil]; rfl
          obtain rfl : la = [] := List.eq_nil_of_length_eq_zero (by omega)
          obtain rfl : lb = [] := List.eq_nil_of_length_eq_zero (by simp at h0; exact List.length_eq_zero_iff.2 h0)
          injection hv2' with e4 e5 e6
          subst e4 e6
          clear o13 o23 o3 e2 e5
          go_wp2_with fail
          refine (sameTexts_zero _ _ _ _ _).mono ?_
          rintro e w4 ⟨rfl, rfl⟩
          go_wp2_with fail
          refine (sameTexts_zero _ _ _ _ _).mono ?_
          rintro e w5 ⟨rfl, rfl⟩
          go_wp2_with fail
          refine (awake_any _).mono ?_
          rintro e w6 ⟨rfl, hb6⟩
          go_wp2_with fail
          go_ret
          exact ⟨rfl, below_step hbw3 hb6⟩
        · rw [hl2] at hv2'
          injection hv2' with e4 e5 e6
          subst e4 e6
          have r2a : GRow w3 (some ⟨g2, 0, none⟩) (strs (texts la)) := fun _ => ⟨g2, 0, rfl, fun i hi => by
            rw [Nat.zero_add, ho2.cell i (by rw [hl2]; rw [hlen1] at hi; omega), texts_left la lb i (by rw [hlen1] at hi; exact hi)]⟩
          have r2b : GRow w3 (some ⟨g2, la.length, none⟩) (strs (texts lb)) := fun _ => ⟨g2, la.length, rfl, fun i hi => by
            rw [ho2.cell (la.length + i) (by rw [hl2]; rw [hl3] at hi; omega), texts_right la lb i]⟩
          clear o13 o23 o3 e2 e5 ho2
          have hla2 : (texts la).length = la.length := by simp [texts]
          have hlb2 : (texts lb).length = lb.length := by simp [texts]
          go_wp2_with fail
          refine (sameTexts_self _ p1 la.length c2 c1 (texts la) _ (by omega) hla2 r2a r1).mono ?_
          rintro e w4 ⟨rfl, m4, rfl⟩
          go_wp2_with fail
          · have r2c : GRow w3 (some ⟨g2, 0, none⟩) (strs (texts lb)) := fun h' => by rw [hl3] at h'; omega
            refine (sameTexts_self (some ⟨g2, 0, none⟩) p3 lb.length 0 c3 (texts lb) (w3.drewN m4) (by omega) hlb2 (r2c.drewN m4) (r3.drewN m4)).mono ?_
            rintro e w5 ⟨rfl, m5, rfl⟩
            have hbw5 := below_draws (below_draws hbw3 m4) m5
            generalize (w3.drewN m4).drewN m5 = w6 at *
            go_wp2_with fail
            refine (awake_any _).mono ?_
            rintro e w7 ⟨rfl, hb7⟩
            go_wp2_with fail
            go_ret
            exact ⟨rfl, below_step hbw5 hb7⟩
          · refine (sameTexts_self (some ⟨g2, la.length, none⟩) p3 lb.length (c2 - la.length) c3 (texts lb) (w3.drewN m4) (by omega) hlb2 (r2b.drewN m4) (r3.drewN m4)).mono ?_
            rintro e w5 ⟨rfl, m5, rfl⟩
            have hbw5 := below_draws (below_draws hbw3 m4) m5
            generalize (w3.drewN m4).drewN m5 = w6 at *
            go_wp2_with fail
            refine (awake_any _).mono ?_
            rintro e w7 ⟨rfl, hb7⟩
            go_wp2_with fail
            go_ret
            exact ⟨rfl, below_step hbw5 hb7⟩

end Go.Proofs.YtaabdffplfifkaaDoor
