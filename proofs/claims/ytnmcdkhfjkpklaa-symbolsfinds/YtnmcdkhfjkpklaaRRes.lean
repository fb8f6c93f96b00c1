/- switchyardref07.Resolve. -/
import Derived.Test.YtnmcdkhfjkpklaaRTab
import Derived.Test.YtnmcdkhfjkpklaaResW
namespace Go.Proofs.Ytnmcdkhfjkpklaa
open Go.RowKit

/-- the first of a name, gone through -/
def fgoN (s : ByteArray) : List Sy → Option Int
  | [] => none
  | x :: L => if x.name = s then some x.at_ else fgoN s L
theorem fgoN_eq (s : ByteArray) : ∀ L : List Sy, findN L s = fgoN s L
  | [] => rfl
  | x :: L => by
    unfold findN fgoN
    rw [List.find?_cons]
    by_cases hx : x.name = s
    · rw [if_pos hx, decide_eq_true hx]; rfl
    · rw [if_neg hx, decide_eq_false hx, ← fgoN_eq s L]; rfl
theorem fgoN_step (s : ByteArray) (L : List Sy) (k : Nat) (h : k < L.length) : fgoN s (L.drop k) = if L[k].name = s then some L[k].at_ else fgoN s (L.drop (k + 1)) := by
  rw [List.drop_eq_getElem_cons h]; rfl

set_option maxRecDepth 20000 in
set_option maxHeartbeats 4000000 in
theorem refResolve_any (p : Option Addr) (n c : Nat) (xs : List Ob) (u : Int) (s : ByteArray) (w : World) (hn : xs.length = n) (hn63 : n ≤ 9223372036854775807) (hx : Units w p xs) :
    Calls Try.prog 22 #[.slice p n c, .int .i64 u, .string s] w fun E w' => E = .returned (.tuple #[.int .i64 (resL xs u s).1, .int .i64 (resL xs u s).2]) ∧ Below w.heap.size w w' := by
  have hT := refTable_any p n c xs w hn hn63 hx
  unfold TabIs at hT
  have HOK := Hid.in (tab_ok (xs := xs))
  have HRES : Hid (resL xs u s = if (tabL xs).e ≠ 0 then (0, (tabL xs).e) else if h : 0 ≤ u ∧ u < xs.length then
    match findN (xs[u.toNat]'((Int.toNat_lt h.1).2 h.2)).sy s with
    | some a => (((tabL xs).ss.getD u.toNat 0 : Nat) + a, 0)
    | none => match findG (tabL xs).ts s with
      | some a => (a, 0)
      | none => (0, 171)
  else (0, 2)) := rfl
  have HX := Hid.in hx
  have HN := Hid.in hn
  clear hx hn
  generalize resL xs u s = res at *
  generalize tabL xs = T at *
  obtain ⟨ss, ts, e, uu⟩ := T
  simp only at hT HOK HRES
  by_cases he : e = 0
  · subst he
    obtain ⟨k1, k2, k3⟩ := HOK.out rfl
    have HK1 := Hid.in k1
    have HK2 := Hid.in k2
    have HK3 := Hid.in k3
    clear HOK k1 k2 k3
    rw [if_neg (by simp)] at HRES
    go_enter Try.func22, Try.ntmps22
    go_upto_region 4 with (go_at_call 18; refine hT.mono ?_; rintro E w1 ⟨v2, v3, rfl, h2, h3, hb1⟩; obtain ⟨p2, c2, hv2, hr2, -, -⟩ := h2.slice; obtain ⟨p3, c3, hv3, hcap1, hcap2, hr3⟩ := h3.row3; rw [List.length_map] at hv3 hcap1; subst hv2 hv3; have HR2 := Hid.in hr2; have HR3 := Hid.in hr3; have HB1 := Hid.in hb1; clear h2 h3 hr2 hr3 hb1)
    clear hT
    by_cases hu : 0 ≤ u ∧ u < n
    · obtain ⟨k, rfl⟩ : ∃ k : Nat, u = k := ⟨u.toNat, by omega⟩
      have hkn : k < n := by omega
      have hkl : k < xs.length := by rw [HN.out]; exact hkn
      have HRES' : Hid (res = match findN xs[k].sy s with
        | some a => ((ss.getD k 0 : Nat) + a, 0)
        | none => match findG ts s with
          | some a => (a, 0)
          | none => (0, 171)) := by
        have h := HRES.out
        rw [dif_pos (by rw [HN.out]; exact hu)] at h
        exact h
      obtain ⟨b, o, hp, hc⟩ := HX.out (by omega)
      obtain ⟨pb, ps, pf, pm, cb, cs, cf, cm, ⟨c0', c1', c2', c3'⟩, hI'⟩ := hc k hkl
      subst hp
      have c1 := (HB1.out.cell (cell_lt c1')).trans c1'
      have hks := hI'.ks
      have hks2 : xs[k].sy.length ≤ 9223372036854775807 := Nat.le_trans hks (by decide)
      have HRS := Hid.in (hI'.rs.below HB1.out)
      have HOKK := Hid.in (ok_parts (HK3.out _ (List.getElem_mem hkl)))
      have hskl : k < ss.length := by rw [HK1.out, HN.out]; exact hkn
      have hsk := HK2.out ss[k] (List.getElem_mem hskl)
      have HSD : Hid (ss.getD k 0 = ss[k]) := by
        have h : ss.getD k 0 = ss[k] := by simp [List.getD, hskl]
        exact h
      rw [fgoN_eq] at HRES'
      obtain ⟨b2, o2, hp2, hc2⟩ := HR2.out (by unfold startsV; rw [List.length_map]; omega)
      subst hp2
      have d1 : w1.cell? ⟨b2, o2 + k, none⟩ = some (.int .i64 ((ss[k] : Nat) : Int)) := (hc2 k (by unfold startsV; rw [List.length_map]; exact hskl)).trans (by simp [startsV, hskl])
      have hsl : (startsV ss).length = n := by unfold startsV; rw [List.length_map, HK1.out, HN.out]
      have htl : ts.length ≤ 9223372036854775807 := by have := hcap1; have := hcap2; unfold maxLen at *; omega
      have hF := refFind_any p3 ts.length c3 ts s w1 rfl htl HR3.out
      clear c0' c1' c2' c3' hI' hc HRES HK3 HX hc2 HR2 HK1 HK2
      generalize ss[k] = sk at *
      generalize (startsV ss).length = nn at *
      subst hsl
      generalize xs[k] = x at *
      go_wp2_with fail
      go_loop [12] (fun vi => ∃ j : Nat, vi = .int .i64 j ∧ j ≤ x.sy.length ∧ fgoN s x.sy = fgoN s (x.sy.drop j)) (fun vi => x.sy.length - (intOf vi).toNat)
      case atStart => exact ⟨0, rfl, Nat.zero_le _, rfl⟩
      case round =>
        obtain ⟨j, rfl, hj, hgo⟩ := hrel
        have HGO := Hid.in hgo
        clear hgo
        by_cases hlt : j < x.sy.length
        · obtain ⟨bs, os, hps, hcs⟩ := HRS.out (by rw [List.length_map]; omega)
          subst hps
          obtain ⟨e0, e1, e2⟩ := cells3 hcs j (by rw [List.length_map]; exact hlt)
          simp only [List.getElem_map, syV] at e0 e1 e2
          have hsa := HOKK.out.2.2.2.1 x.sy[j] (List.getElem_mem hlt)
          have HST := Hid.in (fgoN_step s x.sy j hlt)
          clear hcs
          generalize x.sy[j] = y at *
          obtain ⟨sn, sa, sg⟩ := y
          simp only at e0 e1 e2 hsa
          by_cases hs : sn = s
          · have HV : Hid (res = ((sk : Int) + sa, 0)) := by
              have h := HRES'.out
              rw [HGO.out, HST.out, if_pos hs] at h
              simp only at h
              rw [HSD.out] at h
              exact h
            have hw1 : IntKind.i64.wrap ((sk : Int) + sa) = (sk : Int) + sa := by rw [IntKind.wrap_i64]; omega
            subst hs
            go_upto_region 10 with fail
            go_quiet (fail)
            go_wp2_with fail
            go_ret2
            exact ⟨by rw [HV.out]; rfl, below_draws HB1.out nq⟩
          · have HV : Hid (fgoN s x.sy = fgoN s (x.sy.drop (j + 1))) := by
              have h : fgoN s x.sy = fgoN s (x.sy.drop (j + 1)) := by rw [HGO.out, HST.out, if_neg hs]
              exact h
            have hsl := text_ne7 hs
            have hsb : (sn.toList == s.toList) = false := by simpa using hsl
            have hsd : decide (sn.toList = s.toList) = false := decide_eq_false hsl
            go_wp2_with fail
            go_round
            case rel => exact ⟨j + 1, by go_num, by omega, HV.out⟩
            case measure => simp [intOf]; omega
        · have HV : Hid (res = match findG ts s with
            | some a => (a, 0)
            | none => (0, 171)) := by
            have h := HRES'.out
            rw [HGO.out, List.drop_eq_nil_of_le (by omega)] at h
            exact h
          cases hg : findG ts s with
          | some a =>
            rw [hg] at HV hF
            go_wp2_with (go_at_call 21; refine hF.mono ?_; rintro E W ⟨rfl, hW⟩; have hW2 := hW.symm; clear hW; subst hW2)
            go_ret2
            exact ⟨by rw [HV.out]; rfl, HB1.out⟩
          | none =>
            rw [hg] at HV hF
            go_wp2_with (go_at_call 21; refine hF.mono ?_; rintro E W ⟨rfl, hW⟩; have hW2 := hW.symm; clear hW; subst hW2)
            go_ret2
            exact ⟨by rw [HV.out]; rfl, HB1.out⟩
    · have HV : Hid (res = (0, 2)) := by
        have h := HRES.out
        rw [dif_neg (by rw [HN.out]; exact hu)] at h
        exact h
      by_cases hneg : u < 0
      · go_wp2_with fail
        go_ret2
        exact ⟨by rw [HV.out]; rfl, HB1.out⟩
      · have hge : (n : Int) ≤ u := by omega
        go_wp2_with fail
        go_ret2
        exact ⟨by rw [HV.out]; rfl, HB1.out⟩
  · have HV : Hid (res = (0, e)) := by
      have h := HRES.out
      rw [if_pos he] at h
      exact h
    have hb : (e != 0) = true := by simpa using he
    go_enter Try.func22, Try.ntmps22
    go_wp2_with (go_at_call 18; refine hT.mono ?_; rintro E w1 ⟨v2, v3, rfl, -, -, hb1⟩)
    go_ret2
    exact ⟨by rw [HV.out]; rfl, hb1⟩

end Go.Proofs.Ytnmcdkhfjkpklaa
