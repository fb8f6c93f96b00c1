/- symbols.Resolve. -/
import Derived.Test.YtckpgpgmaccepaaGreatFndW
namespace Go.Proofs.YtckpgpgmaccepaaGreat
open Go.RowKit

theorem tabGo_ok : ∀ (xs : List Ob) (i e : Nat) (ss : List Nat) (ts : List Sy), (tabGo i e ss ts xs).e = 0 → (∀ s ∈ ss, s ≤ 65536) → (tabGo i e ss ts xs).ss.length = ss.length + xs.length ∧ (∀ s ∈ (tabGo i e ss ts xs).ss, s ≤ 65536) ∧ ∀ x ∈ xs, okO x = true
  | [], _, _, _, _, _, hs => ⟨rfl, hs, fun x hx => by cases hx⟩
  | o :: xs, i, e, ss, ts, h, hs => by
    unfold tabGo at h ⊢
    by_cases h1 : okO o = false
    · rw [if_pos h1] at h; exact absurd h (by simp [noTab])
    · rw [if_neg h1] at h ⊢
      by_cases h2 : nextS e + o.bs.length > 65536
      · rw [if_pos h2] at h; exact absurd h (by simp [noTab])
      · rw [if_neg h2] at h ⊢
        by_cases h3 : dupS (gloS ts) o.sy = true
        · rw [if_pos h3] at h; exact absurd h (by simp [noTab])
        · rw [if_neg h3] at h ⊢
          obtain ⟨i1, i2, i3⟩ := tabGo_ok xs (i + 1) _ _ _ h (fun s hm => by
            rcases List.mem_append.1 hm with hm | hm
            · exact hs s hm
            · rw [List.mem_singleton.1 hm]; omega)
          refine ⟨?_, i2, fun x hx => ?_⟩
          · rw [i1, List.length_append, List.length_cons]; simp; omega
          · rcases List.mem_cons.1 hx with rfl | hx
            · simpa using h1
            · exact i3 x hx
theorem tab_ok {xs : List Ob} (h : (tabL xs).e = 0) : (tabL xs).ss.length = xs.length ∧ (∀ s ∈ (tabL xs).ss, s ≤ 65536) ∧ ∀ x ∈ xs, okO x = true := by
  unfold tabL at h ⊢
  split at h
  · exact absurd h (by simp [noTab])
  · rename_i h1
    rw [if_neg h1]
    obtain ⟨i1, i2, i3⟩ := tabGo_ok xs 0 0 [] [] h (fun s hs => by cases hs)
    exact ⟨by rw [i1]; simp, i2, i3⟩
theorem findN_in {L : List Sy} {s : ByteArray} {a : Int} (h : findN L s = some a) : ∃ x ∈ L, x.at_ = a := by
  unfold findN at h
  rw [Option.map_eq_some_iff] at h
  obtain ⟨x, h1, h2⟩ := h
  exact ⟨x, List.mem_of_find?_eq_some h1, h2⟩

set_option maxRecDepth 20000 in
set_option maxHeartbeats 4000000 in
theorem resolve_any (p : Option Addr) (n c : Nat) (xs : List Ob) (u : Int) (s : ByteArray) (w : World) (hn : xs.length = n) (hn63 : n ≤ 9223372036854775807) (hx : Units w p xs) :
    Calls Tryz.prog 24 #[.slice p n c, .int .i64 u, .string s] w fun E w' => E = .returned (.tuple #[.int .i64 (resL xs u s).1, .int .i64 (resL xs u s).2]) ∧ Below w.heap.size w w' := by
  have hT := table_any p n c xs (w.alloc (.cells #[.string s] 9)) hn hn63 (hx.below (new_alloc w _))
  have HK0 : Hid (Blk (w.alloc (.cells #[.string s] 9)) w.heap.size 9 #[.string s]) := Blk.new w 9 _
  have HB0 : Hid (Below w.heap.size w (w.alloc (.cells #[.string s] 9))) := new_alloc w _
  unfold TabIs at hT
  have HOK := Hid.in (tab_ok (xs := xs))
  have HRES : Hid (resL xs u s = if (tabL xs).e ≠ 0 then (0, (tabL xs).e) else if h : 0 ≤ u ∧ u < xs.length then
    match findN (xs[u.toNat]'((Int.toNat_lt h.1).2 h.2)).sy s with
    | some a => (((tabL xs).ss.getD u.toNat 0 : Nat) + a, 0)
    | none => match findG (tabL xs).ts s with
      | some a => (a, 0)
      | none => (0, 171)
  else (0, 2)) := rfl
  have HX := Hid.in hx
  have HN := Hid.in hn
  clear hx hn
  generalize resL xs u s = res at *
  generalize tabL xs = T at *
  obtain ⟨ss, ts, e, uu⟩ := T
  simp only at hT HOK HRES
  by_cases he : e = 0
  · subst he
    obtain ⟨k1, k2, k3⟩ := HOK.out rfl
    have HK1 := Hid.in k1
    have HK2 := Hid.in k2
    have HK3 := Hid.in k3
    clear HOK k1 k2 k3
    rw [if_neg (by simp)] at HRES
    go_enter Tryz.func24, Tryz.ntmps24
    go_upto_region 4 with (go_at_call 23; refine hT.mono ?_; rintro E w1 ⟨v2, v3, rfl, h2, h3, hb1⟩; obtain ⟨p2, c2, hv2, hr2, -, -⟩ := h2.slice; obtain ⟨p3, c3, hv3, hcap1, hcap2, hr3⟩ := h3.row3; rw [List.length_map] at hv3 hcap1; subst hv2 hv3; have HR2 := Hid.in hr2; have HR3 := Hid.in hr3; have HC1 := Hid.in hb1; clear h2 h3 hr2 hr3 hb1)
    clear hT
    have HB1 := Hid.in (below_step HB0.out HC1.out)
    have HKB := Hid.in (HK0.out.grow HC1.out)
    by_cases hu : 0 ≤ u ∧ u < n
    · obtain ⟨k, rfl⟩ : ∃ k : Nat, u = k := ⟨u.toNat, by omega⟩
      have hkn : k < n := by omega
      have hkl : k < xs.length := by rw [HN.out]; exact hkn
      have HRES' : Hid (res = match findN xs[k].sy s with
        | some a => ((ss.getD k 0 : Nat) + a, 0)
        | none => match findG ts s with
          | some a => (a, 0)
          | none => (0, 171)) := by
        have h := HRES.out
        rw [dif_pos (by rw [HN.out]; exact hu)] at h
        exact h
      obtain ⟨b, o, hp, hc⟩ := HX.out (by omega)
      obtain ⟨pb, ps, pf, pm, cb, cs, cf, cm, ⟨c0', c1', c2', c3'⟩, hI'⟩ := hc k hkl
      subst hp
      have c1 := (HB1.out.cell (cell_lt c1')).trans c1'
      have hks := hI'.ks
      have hks2 : xs[k].sy.length ≤ 9223372036854775807 := Nat.le_trans hks (by decide)
      have hL := look34_any ps _ cs xs[k].sy s w.heap.size w1 rfl hks2 (hI'.rs.below HB1.out) (HKB.out.cell 0)
      rw [← findN_eq] at hL
      have HOKK := Hid.in (ok_parts (HK3.out _ (List.getElem_mem hkl)))
      have HFI := Hid.in (fun a => findN_in (L := xs[k].sy) (s := s) (a := a))
      have hskl : k < ss.length := by rw [HK1.out, HN.out]; exact hkn
      have hsk := HK2.out ss[k] (List.getElem_mem hskl)
      have HSD : Hid (ss.getD k 0 = ss[k]) := by
        have h : ss.getD k 0 = ss[k] := by simp [List.getD, hskl]
        exact h
      clear c0' c1' c2' c3' hI' hc HRES HK3 HX
      cases hf : findN xs[k].sy s with
      | some a =>
        have hab : 0 ≤ a ∧ a ≤ 65536 := by
          obtain ⟨x, hx, rfl⟩ := HFI.out a hf
          exact HOKK.out.2.2.2.1 x hx
        have HV : Hid (res = ((ss[k] : Int) + a, 0)) := by
          have h := HRES'.out
          rw [hf] at h
          simp only at h
          rw [HSD.out] at h
          exact h
        rw [hf] at hL
        obtain ⟨b2, o2, hp2, hc2⟩ := HR2.out (by unfold startsV; rw [List.length_map]; omega)
        subst hp2
        have d1 : w1.cell? ⟨b2, o2 + k, none⟩ = some (.int .i64 ((ss[k] : Nat) : Int)) := (hc2 k (by unfold startsV; rw [List.length_map]; exact hskl)).trans (by simp [startsV, hskl])
        have HD1 := Hid.in d1
        have hsl : (startsV ss).length = n := by unfold startsV; rw [List.length_map, HK1.out, HN.out]
        clear d1 hc2 hf
        generalize ss[k] = sk at *
        generalize (startsV ss).length = nn at *
        subst hsl
        go_wp2_with (go_at_call 54; refine hL.mono ?_; rintro E w2 ⟨rfl, hb2⟩; have d2 := (hb2.cell (cell_lt HD1.out)).trans HD1.out; have HB2 := Hid.in (below_step HB1.out hb2); clear hb2)
        go_ret2
        exact ⟨by rw [HV.out]; rfl, HB2.out⟩
      | none =>
        rw [hf] at hL
        have HV : Hid (res = match findG ts s with
          | some a => (a, 0)
          | none => (0, 171)) := by
          have h := HRES'.out
          rw [hf] at h
          exact h
        clear HRES' hf
        have htl : ts.length ≤ 9223372036854775807 := by have := hcap1; have := hcap2; unfold maxLen at *; omega
        have hF := fun W (h : Below w1.heap.size w1 W) => find_any p3 ts.length c3 ts s W rfl htl (HR3.out.below h)
        cases hg : findG ts s with
        | some a =>
          rw [hg] at HV hF
          go_wp2_with (first
            | (go_at_call 54; refine hL.mono ?_; rintro E w2 ⟨rfl, hb2⟩; have HC2 := Hid.in hb2; have HB2 := Hid.in (below_step HB1.out hb2); have e0 : w2.cell? ⟨w.heap.size, 0, none⟩ = some (.string s) := (HKB.out.grow hb2).cell 0; clear hb2)
            | (go_at_call 56; refine (hF _ HC2.out).mono ?_; rintro E w3 ⟨rfl, hb3⟩; have HB3 := Hid.in (below_step HB2.out hb3); clear hb3))
          go_ret2
          exact ⟨by rw [HV.out]; rfl, HB3.out⟩
        | none =>
          rw [hg] at HV hF
          go_wp2_with (first
            | (go_at_call 54; refine hL.mono ?_; rintro E w2 ⟨rfl, hb2⟩; have HC2 := Hid.in hb2; have HB2 := Hid.in (below_step HB1.out hb2); have e0 : w2.cell? ⟨w.heap.size, 0, none⟩ = some (.string s) := (HKB.out.grow hb2).cell 0; clear hb2)
            | (go_at_call 56; refine (hF _ HC2.out).mono ?_; rintro E w3 ⟨rfl, hb3⟩; have HB3 := Hid.in (below_step HB2.out hb3); clear hb3))
          go_ret2
          exact ⟨by rw [HV.out]; rfl, HB3.out⟩
    · have HV : Hid (res = (0, 2)) := by
        have h := HRES.out
        rw [dif_neg (by rw [HN.out]; exact hu)] at h
        exact h
      by_cases hneg : u < 0
      · go_wp2_with fail
        go_ret2
        exact ⟨by rw [HV.out]; rfl, HB1.out⟩
      · have hge : (n : Int) ≤ u := by omega
        go_wp2_with fail
        go_ret2
        exact ⟨by rw [HV.out]; rfl, HB1.out⟩
  · have HV : Hid (res = (0, e)) := by
      have h := HRES.out
      rw [if_pos he] at h
      exact h
    have hb : (e != 0) = true := by simpa using he
    go_enter Tryz.func24, Tryz.ntmps24
    go_wp2_with (go_at_call 23; refine hT.mono ?_; rintro E w1 ⟨v2, v3, rfl, -, -, hb1⟩)
    go_ret2
    exact ⟨by rw [HV.out]; rfl, below_step HB0.out hb1⟩

end Go.Proofs.YtckpgpgmaccepaaGreat
