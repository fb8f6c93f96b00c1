/- switchyardlaw07.found: each label of units that are right together is found. -/
import Derived.Test.YtnmcdkhfjkpklaaStaL
import Derived.Test.YtnmcdkhfjkpklaaResW
import Derived.Test.YtnmcdkhfjkpklaaFndW
import Derived.BigQuiet
namespace Go.Proofs.Ytnmcdkhfjkpklaa
open Go.RowKit

/-- does one of these labels bear the name? -/
def hasN (s : ByteArray) (L : List Sy) : Bool := L.any fun y => decide (y.name = s)
theorem hasN_take (s : ByteArray) (L : List Sy) (q : Nat) (h : q < L.length) : hasN s (L.take (q + 1)) = (hasN s (L.take q) || decide (L[q].name = s)) := by
  unfold hasN
  rw [List.take_succ_eq_append_getElem h, List.any_append]
  simp
theorem hasN_none {s : ByteArray} {L : List Sy} (h : hasN s L = false) : ∀ y ∈ L, ¬ y.name = s := by
  unfold hasN at h
  rw [List.any_eq_false] at h
  intro y hy e
  exact h y hy (by simp [e])
theorem next_le {xs : List Ob} (he : (tabL xs).e = 0) (i : Nat) (hi : i ≤ xs.length) : nextS (endAt 0 xs i) ≤ 65539 := by
  have h1 := (tab_good he).2.2.2.1 i hi
  have h2 := nextS_le (endAt 0 xs i)
  omega
theorem at_le {xs : List Ob} (he : (tabL xs).e = 0) (i : Nat) (hi : i < xs.length) (x : Sy) (hx : x ∈ xs[i].sy) : 0 ≤ x.at_ ∧ x.at_ ≤ 65536 := (ok_parts ((tab_good he).2.2.1 _ (List.getElem_mem hi))).2.2.2.1 x hx
theorem syl_le {xs : List Ob} (he : (tabL xs).e = 0) (i : Nat) (hi : i < xs.length) : xs[i].sy.length ≤ 4096 := (ok_parts ((tab_good he).2.2.1 _ (List.getElem_mem hi))).2.1
theorem starts_cell {W : World} {p2 : Option Addr} {xs : List Ob} (h : GRow W p2 (startsV (begs 0 xs))) (i : Nat) (hi : i < xs.length) : ∃ b2 o2, p2 = some ⟨b2, o2, none⟩ ∧ W.cell? ⟨b2, o2 + i, none⟩ = some (.int .i64 ((nextS (endAt 0 xs i) : Nat) : Int)) := by
  obtain ⟨b2, o2, hp, hc⟩ := h (by unfold startsV; rw [List.length_map, begs_len]; omega)
  refine ⟨b2, o2, hp, (hc i (by unfold startsV; rw [List.length_map, begs_len]; omega)).trans ?_⟩
  have hib : i < (begs 0 xs).length := by rw [begs_len]; exact hi
  unfold startsV
  rw [List.getElem?_map, List.getElem?_eq_getElem hib, begs_at xs 0 i hi]; rfl
/-- the labels of the unit at i, where they lie -/
theorem unit_syms {W : World} {p : Option Addr} {xs : List Ob} (h : Units W p xs) (i : Nat) (hi : i < xs.length) : ∃ b o ps cs, p = some ⟨b, o, none⟩ ∧ W.cell? ⟨b, o + i * 4 + 1, none⟩ = some (.slice ps xs[i].sy.length cs) ∧ Row3 W ps (xs[i].sy.map syV) := by
  obtain ⟨b, o, hp, hc⟩ := h (by omega)
  obtain ⟨pb, ps, pf, pm, cb, cs, cf, cm, ⟨-, c1, -, -⟩, hI⟩ := hc i hi
  exact ⟨b, o, ps, cs, hp, c1, hI.rs⟩

set_option maxRecDepth 20000 in
set_option maxHeartbeats 8000000 in
theorem found_any (p : Option Addr) (n c : Nat) (xs : List Ob) (p2 : Option Addr) (c2 : Nat) (w : World) (hn : xs.length = n) (hx : Units w p xs) (he : (tabL xs).e = 0) (hr : GRow w p2 (startsV (begs 0 xs))) :
    Calls Try.prog 24 #[.slice p n c, .slice p2 n c2] w fun E w' => E = .returned (.bool true) ∧ Below w.heap.size w w' := by
  have hn16 : n ≤ 16 := by have := (tab_good he).1; omega
  have HX := Hid.in hx
  have HE := Hid.in he
  have HR := Hid.in hr
  have HN := Hid.in hn
  clear hx he hr hn
  go_enter Try.func24, Try.ntmps24
  go_wp2_with fail
  go_loopw [5] (fun vi wr => ∃ i : Nat, vi = .int .i64 i ∧ i ≤ n ∧ Below w.heap.size w wr) (fun vi _ => n - (intOf vi).toNat)
  case atStart => exact ⟨0, rfl, Nat.zero_le _, below_self w⟩
  case round =>
    obtain ⟨i, rfl, hi, hB⟩ := hrel
    have HB := Hid.in hB
    clear hB
    by_cases hlt : i < n
    · have hil : i < xs.length := by rw [HN.out]; exact hlt
      have hs4 := syl_le HE.out i hil
      go_wp2_with fail
      go_loopw [6] (fun vj wq => ∃ j : Nat, vj = .int .i64 j ∧ j ≤ xs[i].sy.length ∧ Below w.heap.size w wq) (fun vj _ => xs[i].sy.length - (intOf vj).toNat)
      case atStart => exact ⟨0, rfl, Nat.zero_le _, HB.out⟩
      case round =>
        obtain ⟨j, rfl, hj, hBq⟩ := hrel
        have HBq := Hid.in hBq
        clear hBq HB
        obtain ⟨b, o, ps, cs, hp, c1, hrs⟩ := unit_syms (HX.out.below HBq.out) i hil
        subst hp
        by_cases hjl : j < xs[i].sy.length
        · by_cases h12 : j < 12
          · as_aux_lemma =>
              obtain ⟨bs, os, hps, hcs⟩ := hrs (by rw [List.length_map]; omega)
              subst hps
              obtain ⟨d0, d1, d2⟩ := cells3 hcs j (by rw [List.length_map]; exact hjl)
              simp only [List.getElem_map, syV] at d0 d1 d2
              have hat := at_le HE.out i hil xs[i].sy[j] (List.getElem_mem hjl)
              have hst := next_le HE.out i (Nat.le_of_lt hil)
              have HOWN := Hid.in (res_own HE.out hil (List.getElem_mem hjl))
              have HGLO := Hid.in (fun k (hk : k < xs.length) => res_glo (k := k) HE.out hil hk (List.getElem_mem hjl))
              clear hcs
              generalize hxj : xs[i].sy[j] = x at *
              clear hxj
              obtain ⟨sn, sa, sg⟩ := x
              simp only at d0 d1 d2 hat HOWN HGLO
              have HST := Hid.in (fun (W : World) (h : Below w.heap.size w W) => starts_cell (HR.out.below h) i hil)
              generalize nextS (endAt 0 xs i) = st at *
              have hw1 : IntKind.i64.wrap ((st : Int) + sa) = (st : Int) + sa := by rw [IntKind.wrap_i64]; omega
              go_upto_region 8 with fail
              have HB4 : Hid (Below w.heap.size w (wr.alloc (.cells #[.string sn, .int .i64 sa, .bool sg] 34))) := below_alloc HBq.out _
              have HS4 : Hid (Blk (wr.alloc (.cells #[.string sn, .int .i64 sa, .bool sg] 34)) wr.heap.size 34 #[.string sn, .int .i64 sa, .bool sg]) := Blk.new wr 34 _
              generalize wr.alloc (.cells #[.string sn, .int .i64 sa, .bool sg] 34) = w4 at *
              generalize wr.heap.size = gs at *
              clear d0 d1 d2 c1
              have s0 : w4.cell? ⟨gs, 0, none⟩ = some (.string sn) := HS4.out.cell 0
              have hRes := resolve_any (some ⟨b, o, none⟩) n c xs i sn w4 HN.out (by omega) (HX.out.below HB4.out)
              rw [HOWN.out] at hRes
              go_upto_region 9 with (go_at_call 12; refine hRes.mono ?_; rintro E w5 ⟨rfl, hb5⟩; have HD5 := Hid.in hb5; clear hb5)
              have HB5 := Hid.in (below_step HB4.out HD5.out)
              have HS5 := Hid.in (HS4.out.grow HD5.out)
              clear hRes s0 HS4 HD5
              obtain ⟨b2, o2, hp2, k0⟩ := HST.out w5 HB5.out
              subst hp2
              have s1 : w5.cell? ⟨gs, 1, none⟩ = some (.int .i64 sa) := HS5.out.cell 1
              have hq1 : ((st : Int) + sa != (st : Int) + sa) = false := by simp
              have hq2 : ((0 : Int) != 0) = false := by simp
              go_quiet (fail)
              have HB6 : Hid (Below w.heap.size w (w5.drewN nq)) := below_draws HB5.out nq
              have HS6 : Hid (Blk (w5.drewN nq) gs 34 #[.string sn, .int .i64 sa, .bool sg]) := HS5.out.grow (below_draws (below_self w5) nq)
              generalize w5.drewN nq = w6 at *
              clear k0 s1 HS5 HB5
              obtain ⟨k, hkd⟩ : ∃ k : Nat, k = (i + 1) % n := ⟨_, rfl⟩
              have hkn : k < n := by rw [hkd]; exact Nat.mod_lt _ (by omega)
              have hkl : k < xs.length := by rw [HN.out]; exact hkn
              have hw2 : IntKind.i64.wrap ((i : Int) + 1) = ((i + 1 : Nat) : Int) := by rw [IntKind.wrap_i64]; omega
              have hm0 : ((n : Int) == 0) = false := by simp; omega
              have hm1 : ¬ (n : Int) = 0 := by omega
              have hm2 : ((i + 1 : Nat) : Int).tmod (n : Int) = (k : Int) := by rw [Int.tmod_eq_emod_of_nonneg (by omega), hkd]; norm_cast
              have hm3 : ((i : Int) + 1) % (n : Int) = (k : Int) := by rw [hkd]; norm_cast
              have hw3 : IntKind.i64.wrap (k : Int) = (k : Int) := by rw [IntKind.wrap_i64]; omega
              have hyl := syl_le HE.out k hkl
              clear hkd
              go_upto_region 12 with fail
              rw [hm3]
              clear hw2 hm0 hm1 hm2 hm3 hw3
              go_wp2_with fail
              go_loopw [11, 12] (fun vo vq wz => ∃ q z : Nat, vq = .int .i64 q ∧ q ≤ xs[k].sy.length ∧ vo = .bool (hasN sn (xs[k].sy.take q)) ∧ wz = w6.drewN z) (fun _ vq _ => xs[k].sy.length - (intOf vq).toNat)
              case atStart => exact ⟨0, 0, rfl, Nat.zero_le _, rfl, rfl⟩
              case round =>
                obtain ⟨q, z, rfl, hq, rfl, rfl⟩ := hrel
                have HB7 : Hid (Below w.heap.size w (w6.drewN z)) := below_draws HB6.out z
                have HS7 : Hid (Blk (w6.drewN z) gs 34 #[.string sn, .int .i64 sa, .bool sg]) := HS6.out.grow (below_draws (below_self w6) z)
                obtain ⟨b', o', ps', cs', hp', c1', hrs'⟩ := unit_syms (HX.out.below HB6.out) k hkl
                obtain ⟨rfl, rfl⟩ : b = b' ∧ o = o' := by simpa using hp'
                clear hp'
                by_cases hql : q < xs[k].sy.length
                · obtain ⟨bs', os', hps', hcs'⟩ := hrs' (by rw [List.length_map]; omega)
                  subst hps'
                  obtain ⟨d0', d1', d2'⟩ := cells3 hcs' q (by rw [List.length_map]; exact hql)
                  simp only [List.getElem_map, syV] at d0' d1' d2'
                  have HHT := Hid.in (hasN_take sn xs[k].sy q hql)
                  have s0 : w6.cell? ⟨gs, 0, none⟩ = some (.string sn) := HS6.out.cell 0
                  clear hcs' d1' d2'
                  generalize xs[k].sy[q].name = yn at *
                  cases hh : hasN sn (xs[k].sy.take q) with
                  | true =>
                    go_wp2_with fail
                    go_quiet (fail)
                    go_wp2_with fail
                    go_roundw
                    case rel => exact ⟨q + 1, _, by go_num, by omega, by rw [HHT.out, hh]; rfl, rfl⟩
                    case measure => simp [intOf]; omega
                  | false =>
                    by_cases hyn : yn = sn
                    · subst hyn
                      go_wp2_with fail
                      go_quiet (fail)
                      go_wp2_with fail
                      go_roundw
                      case rel => exact ⟨q + 1, _, by go_num, by omega, by rw [HHT.out, hh]; simp, rfl⟩
                      case measure => simp [intOf]; omega
                    · have hsl := text_ne7 hyn
                      have hsb : (yn.toList == sn.toList) = false := by simpa using hsl
                      have hsd : decide (yn.toList = sn.toList) = false := decide_eq_false hsl
                      go_wp2_with fail
                      go_quiet (fail)
                      go_wp2_with fail
                      go_roundw
                      case rel => exact ⟨q + 1, _, by go_num, by omega, by rw [HHT.out, hh]; simp [hyn], rfl⟩
                      case measure => simp [intOf]; omega
                · obtain rfl : q = xs[k].sy.length := by omega
                  rw [List.take_of_length_le (Nat.le_refl _)]
                  have c1x : (w6.drewN z).cell? ⟨b, o + k * 4 + 1, none⟩ = some (.slice ps' xs[k].sy.length cs') := c1'
                  clear c1'
                  generalize w6.drewN z = w7 at *
                  have s0 : w7.cell? ⟨gs, 0, none⟩ = some (.string sn) := HS7.out.cell 0
                  have hRes := resolve_any (some ⟨b, o, none⟩) n c xs k sn w7 HN.out (by omega) (HX.out.below HB7.out)
                  have HFIN : Hid (sg = true → hasN sn xs[k].sy = false → resL xs k sn = ((st : Int) + sa, 0)) := fun h1 h2 => HGLO.out k hkl h1 (hasN_none h2)
                  generalize hasN sn xs[k].sy = own at *
                  generalize resL xs k sn = rr at *
                  obtain ⟨r1, r2⟩ := rr
                  go_upto_region 18 with (go_at_call 12; refine hRes.mono ?_; rintro E w8 ⟨rfl, hb8⟩; have HD8 := Hid.in hb8; clear hb8)
                  have HB8 := Hid.in (below_step HB7.out HD8.out)
                  have HS8 := Hid.in (HS7.out.grow HD8.out)
                  clear hRes s0 HS7 HD8
                  have s2 : w8.cell? ⟨gs, 2, none⟩ = some (.bool sg) := HS8.out.cell 2
                  cases sg with
                  | false =>
                    go_wp2_with fail
                    go_roundw
                    case rel => exact ⟨j + 1, by go_num, by omega, HB8.out⟩
                    case measure => simp [intOf]; omega
                  | true =>
                    cases own with
                    | true =>
                      go_wp2_with fail
                      go_roundw
                      case rel => exact ⟨j + 1, by go_num, by omega, HB8.out⟩
                      case measure => simp [intOf]; omega
                    | false =>
                      have hfin := HFIN.out rfl rfl
                      simp only [Prod.mk.injEq] at hfin
                      obtain ⟨rfl, rfl⟩ := hfin
                      go_wp2_with fail
                      go_roundw
                      case rel => exact ⟨j + 1, by go_num, by omega, HB8.out⟩
                      case measure => simp [intOf]; omega
          · go_wp2_with fail
            go_roundw
            case rel => exact ⟨i + 1, by go_num, by omega, HBq.out⟩
            case measure => simp [intOf]; omega
        · go_wp2_with fail
          go_roundw
          case rel => exact ⟨i + 1, by go_num, by omega, HBq.out⟩
          case measure => simp [intOf]; omega
    · go_wp2_with fail
      go_ret
      exact ⟨rfl, HB.out⟩

end Go.Proofs.Ytnmcdkhfjkpklaa
