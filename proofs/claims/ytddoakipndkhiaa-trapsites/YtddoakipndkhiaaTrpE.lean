/- TrapSites: the walk. -/
import Derived.Test.YtddoakipndkhiaaTrpC
namespace Go.Proofs.Ytddoakipndkhiaa
open Go.RowKit

theorem srt_fnd {L : List Si} (h : Srt L) {i : Nat} {s : Si} (hs : L[i]? = some s) : fndB L s.at_ = true ∧ fndI L s.at_ = i := by
  obtain ⟨hi, rfl⟩ := List.getElem?_eq_some_iff.1 hs
  exact fnd_first hi rfl (fun j hj => by have := h.gap j i hi hj; omega)
theorem srt_none {L : List Si} (h : Srt L) {i : Nat} {s : Si} (hs : L[i]? = some s) (z : Int) (hz : z ≠ s.at_) (h1 : s.at_ - 5 < z) (h2 : z < s.at_ + 5) : fndB L z = false := by
  obtain ⟨hi, rfl⟩ := List.getElem?_eq_some_iff.1 hs
  refine (fnd_none (fun j hj => ?_)).1
  rcases Nat.lt_trichotomy j i with e | e | e
  · have := h.gap j i hi e; omega
  · subst e; omega
  · have := h.gap i j hj e; omega
theorem srt_far {L : List Si} (h : Srt L) (z : Int) (h1 : 65531 < z) : fndB L z = false :=
  (fnd_none (fun j hj => by have := h.hi j hj; omega)).1
/-- what the law asks of a site -/
theorem site_ask {L : List Si} (h : Srt L) (hT : ToOk L) {i : Nat} {s : Si} (hs : L[i]? = some s) :
    0 ≤ s.at_ ∧ s.at_ ≤ 65531 ∧ nxtV L s.at_ = effT s (s.key == 1) ∧ nxtB L s.at_ = true ∧ (s.to_ ≠ s.at_ + 5 → effT s (s.key == 1) ≠ effT s (!(s.key == 1))) := by
  obtain ⟨f1, f2⟩ := srt_fnd h hs
  obtain ⟨hi, he⟩ := List.getElem?_eq_some_iff.1 hs
  have hb := hT s (he ▸ List.getElem_mem hi)
  have l1 := h.lo i hi
  have l2 := h.hi i hi
  rw [he] at l1 l2
  refine ⟨l1, l2, ?_, f1, fun hne => ?_⟩
  · unfold nxtV
    rw [if_pos f1, f2]
    simp [List.getD, hs]
  · cases s.key == 1
    · simp only [effT]
      simp
      omega
    · simp only [effT]
      simp
      omega
theorem near_ask {L : List Si} (h : Srt L) {i : Nat} {s : Si} (hs : L[i]? = some s) (d : Nat) (h1 : 1 ≤ d) (h2 : d < 5) :
    nxtB L (s.at_ + d) = false ∧ nxtB L ((s.at_ - d) % 4294967296) = false := by
  obtain ⟨hi, he⟩ := List.getElem?_eq_some_iff.1 hs
  have l1 := h.lo i hi
  have l2 := h.hi i hi
  rw [he] at l1 l2
  refine ⟨srt_none h hs _ (by omega) (by omega) (by omega), ?_⟩
  by_cases hd : (d : Int) ≤ s.at_
  · rw [show (s.at_ - d) % 4294967296 = s.at_ - d by omega]
    exact srt_none h hs _ (by omega) (by omega) (by omega)
  · exact srt_far h _ (by omega)

set_option maxRecDepth 20000 in
set_option maxHeartbeats 4000000 in
theorem sites_walk (p : Option Addr) (n e : Nat) (X : List PtD) (w : World) (hX : X.length = n) (hm : n ≤ 9223372036854775807) (hs : Pts w p X) :
    Calls Try.prog 5 #[.slice p n e] w fun E w' => E = .returned (.bool true) ∧ Below w.heap.size w w' := by
  have HM := Hid.in (made_any p n e X w hX hm hs)
  clear hX hs hm
  go_enter Try.func5, Try.ntmps5
  go_wp2_with (go_at_call 6; refine Hid.out ?_)
  refine Lib.hid ?_
  refine HM.out.mono ?_
  rintro E w1 ⟨L, rfl, hb1, hl1, hT⟩
  have HT := Hid.in hT
  have HB1 := Hid.in hb1
  have HL1 := Hid.in hl1
  clear hb1 hl1 HM hT
  go_wp2_with (go_at_call 7; refine Hid.out ?_)
  refine Lib.hid ?_
  refine (all_any _ _ w1 HB1.out).mono ?_
  rintro E w2 ⟨v, rfl, ht, hb⟩
  have HB2 := Hid.in (HB1.out.below hb)
  have HL2 := Hid.in (below_step HL1.out hb)
  obtain ⟨p7, c7, hv, -, -, hr⟩ := ht.row3
  rw [List.length_map] at hv
  subst hv
  have HR2 := Hid.in hr
  have HSR := Hid.in HB2.out.srt
  have hle : L.length ≤ 4 := HB2.out.le
  clear hr ht hb HB1 HL1
  obtain ⟨m, hm⟩ : ∃ m, L.length = m := ⟨_, rfl⟩
  rw [hm] at hle
  rw [hm]
  have HMm := Hid.in hm
  clear hm
  go_wp2_with fail
  go_loopw [18] (fun v18 wr => ∃ (i : Nat), v18 = .int .i64 i ∧ i ≤ m ∧ Bat wr w.heap.size L ∧ Row3 wr p7 (L.map siV) ∧ Below w.heap.size w wr) (fun v18 _ => m - (intOf v18).toNat)
  case atStart => exact ⟨0, rfl, Nat.zero_le _, HB2.out, HR2.out, HL2.out⟩
  case round =>
    obtain ⟨i, rfl, hi, hB, hR, hL⟩ := hrel
    clear HB2 HR2 HL2
    have HB := Hid.in hB
    have HR := Hid.in hR
    have HL := Hid.in hL
    clear hB hL hR
    by_cases hin : i < m
    · have hiL : i < L.length := by rw [HMm.out]; exact hin
      obtain ⟨b, o, rfl, hc⟩ := HR.out (by rw [List.length_map]; omega)
      obtain ⟨c0, c1, c2⟩ := cells3 hc i (by rw [List.length_map]; exact hiL)
      clear hc
      have HE : Hid (L[i]? = some L[i]) := List.getElem?_eq_getElem hiL
      simp only [List.getElem_map, siV] at c0 c1 c2
      generalize L[i] = s at *
      obtain ⟨l1, l2, hv, hb, hne⟩ := site_ask HSR.out HT.out HE.out
      obtain ⟨sk, sa, st⟩ := s
      simp only at c0 c1 c2 l1 l2 hv hb hne
      have HV := Hid.in (And.intro hv hb)
      have HN := Hid.in hne
      clear hv hb hne
      have hw1 : sa % 4294967296 = sa := by omega
      go_wp2_with (go_at_call 8; refine Hid.out ?_)
      refine Lib.hid ?_
      obtain ⟨w3, hw3⟩ : ∃ w3, w3 = wr.alloc (.cells #[.int .i64 sk, .int .i64 sa, .int .i64 st] 35) := ⟨_, rfl⟩
      rw [← hw3]
      have HS3 : Hid (Blk w3 wr.heap.size 35 #[.int .i64 sk, .int .i64 sa, .int .i64 st]) := by rw [hw3]; exact Blk.new _ _ _
      have HB3 : Hid (Bat w3 w.heap.size L) := by rw [hw3]; exact HB.out.below (new_alloc _ _)
      have HR3 : Hid (Row3 w3 (some ⟨b, o, none⟩) (L.map siV)) := by rw [hw3]; exact HR.out.below (new_alloc _ _)
      have HL3 : Hid (Below w.heap.size w w3) := by rw [hw3]; exact below_step HL.out (new_alloc _ _)
      clear hw3 HB HR HL c0 c1 c2
      generalize wr.heap.size = g at *
      refine (next_any _ _ sa w3 l1 (by omega) HB3.out).mono ?_
      rintro E w4 ⟨rfl, hb⟩
      rw [HV.out.1, HV.out.2]
      have HB4 := Hid.in (HB3.out.below hb)
      have HL4 := Hid.in (below_step HL3.out hb)
      have HR4 := Hid.in (HR3.out.below hb)
      have HS4 := Hid.in (HS3.out.grow hb)
      clear hb HB3 HL3 HR3 HS3 HV
      have c0 : w4.cell? ⟨g, 0, none⟩ = some (.int .i64 sk) := HS4.out.cell 0
      have c1 : w4.cell? ⟨g, 1, none⟩ = some (.int .i64 sa) := HS4.out.cell 1
      have c2 : w4.cell? ⟨g, 2, none⟩ = some (.int .i64 st) := HS4.out.cell 2
      go_wp2_with (go_at_call 12; refine Hid.out ?_)
      refine Lib.hid ?_
      refine (effect_any ⟨sk, sa, st⟩ (sk == 1) w4).mono ?_
      rintro E w5 ⟨rfl, hb⟩
      have HB5 := Hid.in (HB4.out.below hb)
      have HL5 := Hid.in (below_step HL4.out hb)
      have HR5 := Hid.in (HR4.out.below hb)
      have HS5 := Hid.in (HS4.out.grow hb)
      clear hb HB4 HL4 HR4 HS4 c0 c1 c2
      have c0 : w5.cell? ⟨g, 0, none⟩ = some (.int .i64 sk) := HS5.out.cell 0
      have c1 : w5.cell? ⟨g, 1, none⟩ = some (.int .i64 sa) := HS5.out.cell 1
      have c2 : w5.cell? ⟨g, 2, none⟩ = some (.int .i64 st) := HS5.out.cell 2
      by_cases hq : st = sa + 5
      · clear HN
        have hq2 : (st == sa + 5) = true := by simpa using hq
        have hq3 : (st != sa + 5) = false := by simpa using hq
        clear hq
        go_wp2_with fail
        go_loopw [8] (fun v8 wx => ∃ (d : Nat), v8 = .int .u32 d ∧ 1 ≤ d ∧ d ≤ 5 ∧ Bat wx w.heap.size L ∧ Row3 wx (some ⟨b, o, none⟩) (L.map siV) ∧ Below w.heap.size w wx ∧ Blk wx g 35 #[.int .i64 sk, .int .i64 sa, .int .i64 st]) (fun v8 _ => 5 - (intOf v8).toNat)
        case atStart => exact ⟨1, rfl, by omega, by omega, HB5.out, HR5.out, HL5.out, HS5.out⟩
        case round =>
          obtain ⟨d, rfl, hd1, hd5, hB, hR, hL, hS⟩ := hrel
          clear HB5 HR5 HL5 HS5 c0 c1 c2
          have HB6 := Hid.in hB
          have HR6 := Hid.in hR
          have HL6 := Hid.in hL
          have HS6 := Hid.in hS
          clear hB hR hL hS
          by_cases hd : d < 5
          · obtain ⟨n1, n2⟩ := near_ask HSR.out HE.out d hd1 hd
            simp only at n1 n2
            have hw2 : (sa + (d : Int)) % 4294967296 = sa + d := by omega
            have hw3 : ((d : Int) + 1) % 4294967296 = d + 1 := by omega
            obtain ⟨z, hz⟩ : ∃ z, (sa - (d : Int)) % 4294967296 = z := ⟨_, rfl⟩
            have hz0 : 0 ≤ z := by omega
            have hz1 : z < 4294967296 := by omega
            rw [hz] at n2
            have HN1 := Hid.in n1
            have HN2 := Hid.in n2
            clear n1 n2
            have c1 : wr.cell? ⟨g, 1, none⟩ = some (.int .i64 sa) := HS6.out.cell 1
            go_wp2_with (go_at_call 8; refine Hid.out ?_)
            refine Lib.hid ?_
            refine (next_any _ _ (sa + d) wr (by omega) (by omega) HB6.out).mono ?_
            rintro E w7 ⟨rfl, hb⟩
            rw [HN1.out]
            have HB7 := Hid.in (HB6.out.below hb)
            have HL7 := Hid.in (below_step HL6.out hb)
            have HR7 := Hid.in (HR6.out.below hb)
            have HS7 := Hid.in (HS6.out.grow hb)
            clear hb HB6 HL6 HR6 HS6 c1
            have c1 : w7.cell? ⟨g, 1, none⟩ = some (.int .i64 sa) := HS7.out.cell 1
            go_wp2_with (go_at_call 8; refine Hid.out ?_)
            refine Lib.hid ?_
            refine (next_any _ _ z w7 hz0 hz1 HB7.out).mono ?_
            rintro E w8 ⟨rfl, hb⟩
            rw [HN2.out]
            have HB8 := Hid.in (HB7.out.below hb)
            have HL8 := Hid.in (below_step HL7.out hb)
            have HR8 := Hid.in (HR7.out.below hb)
            have HS8 := Hid.in (HS7.out.grow hb)
            clear hb HB7 HL7 HR7 HS7 c1
            generalize nxtV L (sa + d) = y1 at *
            generalize nxtV L z = y2 at *
            go_wp2_with fail
            go_roundw
            case rel => exact ⟨d + 1, by go_num, by omega, by omega, HB8.out, HR8.out, HL8.out, HS8.out⟩
            case measure => simp [intOf]; omega
          · obtain rfl : d = 5 := by omega
            go_wp2_with fail
            go_roundw
            case rel => exact ⟨i + 1, by go_num, by omega, HB6.out, HR6.out, HL6.out⟩
            case measure => simp [intOf]; omega
      · have HN2 := Hid.in (HN.out hq)
        have hq2 : (st == sa + 5) = false := by simpa using hq
        have hq3 : (st != sa + 5) = true := by simpa using hq
        clear hq
        go_wp2_with (go_at_call 14; refine Hid.out ?_)
        refine Lib.hid ?_
        refine (old_any ⟨sk, sa, st⟩ (sk == 1) w5).mono ?_
        rintro E w6 ⟨rfl, hb⟩
        have HB5' := Hid.in (HB5.out.below hb)
        have HL5' := Hid.in (below_step HL5.out hb)
        have HR5' := Hid.in (HR5.out.below hb)
        have HS5' := Hid.in (HS5.out.grow hb)
        clear hb HB5 HL5 HR5 HS5 c0 c1 c2
        have c0 : w6.cell? ⟨g, 0, none⟩ = some (.int .i64 sk) := HS5'.out.cell 0
        have c1 : w6.cell? ⟨g, 1, none⟩ = some (.int .i64 sa) := HS5'.out.cell 1
        have c2 : w6.cell? ⟨g, 2, none⟩ = some (.int .i64 st) := HS5'.out.cell 2
        have HB5 := HB5'
        have HL5 := HL5'
        have HR5 := HR5'
        have HS5 := HS5'
        clear HB5' HL5' HR5' HS5'
        have hne := HN2.out
        generalize effT ⟨sk, sa, st⟩ (sk == 1) = e1 at *
        generalize effT ⟨sk, sa, st⟩ (!(sk == 1)) = e2 at *
        have hne2 : (e1 == e2) = false := by simpa using hne
        clear HN HN2 hne
        go_wp2_with fail
        go_loopw [8] (fun v8 wx => ∃ (d : Nat), v8 = .int .u32 d ∧ 1 ≤ d ∧ d ≤ 5 ∧ Bat wx w.heap.size L ∧ Row3 wx (some ⟨b, o, none⟩) (L.map siV) ∧ Below w.heap.size w wx ∧ Blk wx g 35 #[.int .i64 sk, .int .i64 sa, .int .i64 st]) (fun v8 _ => 5 - (intOf v8).toNat)
        case atStart => exact ⟨1, rfl, by omega, by omega, HB5.out, HR5.out, HL5.out, HS5.out⟩
        case round =>
          obtain ⟨d, rfl, hd1, hd5, hB, hR, hL, hS⟩ := hrel
          clear HB5 HR5 HL5 HS5 c0 c1 c2
          have HB6 := Hid.in hB
          have HR6 := Hid.in hR
          have HL6 := Hid.in hL
          have HS6 := Hid.in hS
          clear hB hR hL hS
          by_cases hd : d < 5
          · obtain ⟨n1, n2⟩ := near_ask HSR.out HE.out d hd1 hd
            simp only at n1 n2
            have hw2 : (sa + (d : Int)) % 4294967296 = sa + d := by omega
            have hw3 : ((d : Int) + 1) % 4294967296 = d + 1 := by omega
            obtain ⟨z, hz⟩ : ∃ z, (sa - (d : Int)) % 4294967296 = z := ⟨_, rfl⟩
            have hz0 : 0 ≤ z := by omega
            have hz1 : z < 4294967296 := by omega
            rw [hz] at n2
            have HN1 := Hid.in n1
            have HN2 := Hid.in n2
            clear n1 n2
            have c1 : wr.cell? ⟨g, 1, none⟩ = some (.int .i64 sa) := HS6.out.cell 1
            go_wp2_with (go_at_call 8; refine Hid.out ?_)
            refine Lib.hid ?_
            refine (next_any _ _ (sa + d) wr (by omega) (by omega) HB6.out).mono ?_
            rintro E w7 ⟨rfl, hb⟩
            rw [HN1.out]
            have HB7 := Hid.in (HB6.out.below hb)
            have HL7 := Hid.in (below_step HL6.out hb)
            have HR7 := Hid.in (HR6.out.below hb)
            have HS7 := Hid.in (HS6.out.grow hb)
            clear hb HB6 HL6 HR6 HS6 c1
            have c1 : w7.cell? ⟨g, 1, none⟩ = some (.int .i64 sa) := HS7.out.cell 1
            go_wp2_with (go_at_call 8; refine Hid.out ?_)
            refine Lib.hid ?_
            refine (next_any _ _ z w7 hz0 hz1 HB7.out).mono ?_
            rintro E w8 ⟨rfl, hb⟩
            rw [HN2.out]
            have HB8 := Hid.in (HB7.out.below hb)
            have HL8 := Hid.in (below_step HL7.out hb)
            have HR8 := Hid.in (HR7.out.below hb)
            have HS8 := Hid.in (HS7.out.grow hb)
            clear hb HB7 HL7 HR7 HS7 c1
            generalize nxtV L (sa + d) = y1 at *
            generalize nxtV L z = y2 at *
            go_wp2_with fail
            go_roundw
            case rel => exact ⟨d + 1, by go_num, by omega, by omega, HB8.out, HR8.out, HL8.out, HS8.out⟩
            case measure => simp [intOf]; omega
          · obtain rfl : d = 5 := by omega
            go_wp2_with fail
            go_roundw
            case rel => exact ⟨i + 1, by go_num, by omega, HB6.out, HR6.out, HL6.out⟩
            case measure => simp [intOf]; omega
    · obtain rfl : i = m := by omega
      go_wp2_with (go_at_call 11; refine Hid.out ?_)
      refine Lib.hid ?_
      refine (awake_any _).mono ?_
      rintro E w7 ⟨rfl, hb⟩
      have HL7 := Hid.in (below_step HL.out hb)
      clear hb
      go_wp2_with fail
      go_ret
      exact ⟨rfl, HL7.out⟩
end Go.Proofs.Ytddoakipndkhiaa
