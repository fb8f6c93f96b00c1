/- isa.Quiet; object.rightMarks. -/
import Derived.Test.YtkpieeldoielgaaRSym
import Derived.Test.YtkpieeldoielgaaHolds
import Derived.Test.YtkpieeldoielgaaEnc
import Derived.Deep.RegionLaw
import Derived.Lib.Hide
import Derived.BigQuiet
import Derived.Deep.QuietTactic
namespace Go.Proofs.Ytkpieeldoielgaa
open Go.RowKit

theorem encode_quiet (w : World) : Calls Try.prog 71 #[ins 3 0 0 0] w fun e w' => ∃ g cap, e = .returned (.tuple #[.slice (some ⟨g, 0, none⟩) 5 cap, .int .i64 0]) ∧ Own w' w.heap.size g cap quiet ∧ Below w.heap.size w w' :=
  encode_yes 3 0 0 0 w (by decide) (by decide) (by decide)
theorem quiet_any (w : World) : Calls Try.prog 59 #[] w fun e w' => ∃ g cap, e = .returned (.slice (some ⟨g, 0, none⟩) 5 cap) ∧ Own w' w.heap.size g cap quiet ∧ Below w.heap.size w w' := by
  go_enter Try.func59, Try.ntmps59
  go_wp2_with fail
  refine (encode_quiet _).mono ?_
  rintro e w1 ⟨g, cap, rfl, ho, hb⟩
  go_wp2
  go_ret
  exact ⟨g, cap, rfl, ho, hb⟩
theorem byt_quiet : Byt quiet := fun i => by
  match i with
  | 0 => decide
  | 1 => decide
  | 2 => decide
  | 3 => decide
  | 4 => decide
  | i + 5 => simp [quiet]

/-- fixes that are right end within the bytes -/
theorem rf_high (bs : List Int) : ∀ (L : List Fx) (least : Int), rfL bs least L = true → ∀ f ∈ L, f.at_ + 4 ≤ bs.length
  | [], _, _, f, hf => by cases hf
  | g :: r, least, h, f, hf => by
    unfold rfL at h
    rw [Bool.and_eq_true] at h
    rcases List.mem_cons.1 hf with rfl | hf
    · have h1 := h.1
      unfold fixB stB at h1
      simp only [Bool.and_eq_true, decide_eq_true_eq] at h1
      have h4 := h1.2.2.1
      have hl4 : ([0, 0, 0, 0] : List Int).length = 4 := rfl
      have h0 := h1.2.1
      omega
    · exact rf_high bs r _ h.2 f hf

set_option maxRecDepth 20000 in
set_option maxHeartbeats 8000000 in
theorem rightMarks_any (pb ps pf pm : Option Addr) (nb cb ns cs nf cf nm cm : Nat) (bs : List Int) (fs : List Fx) (L : List Mk) (w : World) (hb : bs.length = nb) (hnc : nb ≤ cb) (hcb : cb ≤ 9223372036854775807) (hf : fs.length = nf) (hf4 : nf ≤ 4096) (hn : L.length = nm) (hn4 : nm ≤ 4096) (hnb : nb ≤ 65536) (hbt : Byt bs) (hL : ∀ s ∈ L, MkF s) (hr1 : Row w pb bs) (hrf : Row3 w pf (fs.map fxV)) (hx : Row3 w pm (L.map mkV)) (hrt : rfL bs 0 fs = true) :
    Calls Try.prog 70 #[.agg (obA pb ps pf pm nb cb ns cs nf cf nm cm)] w fun E w' => E = .returned (.bool (rmL bs fs 0 L)) ∧ Below w.heap.size w w' := by
  have hN := fun s W => name_any s W (nmB s) (nmB_iff s)
  have hQ := quiet_any
  have hH := fun (a : Int) q d W ha ha2 k1 k2 => oholds_any pb q nb cb 5 d a bs quiet W hb rfl hnc hcb (by decide) ha ha2 k1 k2 hbt byt_quiet
  obtain ⟨hlo, hst⟩ := rf_sorted bs fs 0 hrt
  have hhi := rf_high bs fs 0 hrt
  have hS := fun (a : Int) W (ha : 0 ≤ a) (ha2 : a ≤ 65536) k => shares_any pf nf cf a fs W hf (by omega) k hst ha ha2 (fun f hf => by have := hhi f hf; omega) (fun f hf => by obtain ⟨i, hi, rfl⟩ := List.getElem_of_mem hf; exact hlo i hi)
  have HX := Hid.in hx
  have HN := Hid.in hn
  have HL := Hid.in hL
  have HRB := Hid.in hr1
  have HRF := Hid.in hrf
  have HLB := Hid.in hb
  clear hx hn hL hr1 hb hbt hlo hst hhi hrt hrf hf
  obtain ⟨r, hr⟩ : ∃ r, rmL bs fs 0 L = r := ⟨_, rfl⟩
  rw [hr]
  have HR := Hid.in hr
  clear hr
  go_enter Try.func70, Try.ntmps70
  go_upto_region 2 with fail
  have HK0 : Hid (Blk (w.alloc (.cells (obA pb ps pf pm nb cb ns cs nf cf nm cm) 105)) w.heap.size 105 (obA pb ps pf pm nb cb ns cs nf cf nm cm)) := Blk.new w 105 _
  have HB0 : Hid (Below w.heap.size w (w.alloc (.cells (obA pb ps pf pm nb cb ns cs nf cf nm cm) 105))) := new_alloc w _
  generalize w.alloc (.cells (obA pb ps pf pm nb cb ns cs nf cf nm cm) 105) = w0 at *
  have c2 : w0.cell? ⟨w.heap.size, 3, none⟩ = some (.slice pm nm cm) := HK0.out.cell 3
  go_wp2_with fail
  clear c2
  go_loopw [3, 9] (fun vl vi wr => ∃ (z : Int) (k : Nat), vl = .int .i64 z ∧ vi = .int .i64 k ∧ k ≤ nm ∧ rmL bs fs 0 L = rmL bs fs z (L.drop k) ∧ 0 ≤ z ∧ z ≤ 65540 ∧ Blk wr w.heap.size 105 (obA pb ps pf pm nb cb ns cs nf cf nm cm) ∧ Below w.heap.size w wr) (fun _ vi _ => nm - (intOf vi).toNat)
  case atStart => exact ⟨0, 0, rfl, rfl, Nat.zero_le _, rfl, by omega, by omega, HK0.out, HB0.out⟩
  case round =>
    obtain ⟨z, k, rfl, rfl, hk, hrs, hz0', hz1', hK, hB⟩ := hrel
    have HRS := Hid.in hrs
    have HK := Hid.in hK
    have HB := Hid.in hB
    clear hrs hK hB HK0 HB0
    by_cases hlt : k < nm
    · have hkl : k < L.length := by rw [HN.out]; exact hlt
      obtain ⟨b, o, rfl, hc⟩ := (HX.out.below HB.out) (by rw [List.length_map]; omega)
      obtain ⟨c0, c1, c2⟩ := cells3 hc k (by rw [List.length_map]; exact hkl)
      simp only [List.getElem_map, mkV] at c0 c1 c2
      clear hc
      obtain ⟨hsn, hsn2, hsa0, hsa1⟩ := HL.out L[k] (List.getElem_mem hkl)
      have HST := Hid.in (rm_step bs fs L k hkl z)
      generalize L[k] = f at *
      obtain ⟨fa, fk, ft⟩ := f
      simp only at c0 c1 c2 hsn hsn2 hsa0 hsa1
      have hBB : Hid (Below w.heap.size w (wr.alloc (.cells #[.int .i64 fa, .string fk, .string ft] 126))) := below_alloc HB.out _
      have HK1 : Hid (Blk (wr.alloc (.cells #[.int .i64 fa, .string fk, .string ft] 126)) w.heap.size 105 _) := HK.out.grow (new_alloc wr _)
      have HS1 : Hid (Blk (wr.alloc (.cells #[.int .i64 fa, .string fk, .string ft] 126)) wr.heap.size 126 #[.int .i64 fa, .string fk, .string ft]) := Blk.new wr 126 _
      cases hnm : nmB fk with
      | false =>
        go_wp2_with (go_at_call 76; refine (hN _ _).mono ?_; rw [hnm]; rintro E w2 ⟨rfl, hb2⟩; have HB2 := Hid.in (below_step hBB.out hb2); clear hb2)
        go_ret
        exact ⟨ret_bool (by rw [← HR.out, HRS.out, HST.out]; simp [mrkB, hnm]), HB2.out⟩
      | true =>
        go_upto_region 5 with fail
        go_wp2_with (go_at_call 76; refine (hN fk _).mono ?_; rw [hnm]; rintro E w2 ⟨rfl, hb2⟩; have HB2 := Hid.in (below_step hBB.out hb2); have HK2 := Hid.in (HK1.out.grow hb2); have HS2 := Hid.in (HS1.out.grow hb2); have s2 : w2.cell? ⟨wr.heap.size, 2, none⟩ = some (.string ft) := (HS1.out.grow hb2).cell 2; clear hb2; refine Hid.out ?_)
        refine Lib.hid ?_
        cases hnt : nmB ft with
        | false =>
          go_wp2_with (go_at_call 76; refine (hN ft _).mono ?_; rw [hnt]; rintro E w3 ⟨rfl, hb3⟩; have HB3 := Hid.in (below_step HB2.out hb3); clear hb3)
          go_ret
          exact ⟨ret_bool (by rw [← HR.out, HRS.out, HST.out]; simp [mrkB, hnt]), HB3.out⟩
        | true =>
          go_upto_region 7 with (go_at_call 76; refine (hN ft _).mono ?_; rw [hnt]; rintro E w3 ⟨rfl, hb3⟩; have HB3 := Hid.in (below_step HB2.out hb3); have HK3 := Hid.in (HK2.out.grow hb3); have HS3 := Hid.in (HS2.out.grow hb3); have s3 : w3.cell? ⟨wr.heap.size, 0, none⟩ = some (.int .i64 fa) := (HS2.out.grow hb3).cell 0; have o30 : w3.cell? ⟨w.heap.size, 0, none⟩ = some (.slice pb nb cb) := (HK2.out.grow hb3).cell 0; have o32 : w3.cell? ⟨w.heap.size, 2, none⟩ = some (.slice pf nf cf) := (HK2.out.grow hb3).cell 2; clear hb3)
          by_cases hlow : fa < z
          · clear hH hQ hS hN s2
            go_quiet (fail)
            go_wp2_with fail
            go_ret
            exact ⟨ret_bool (by rw [← HR.out, HRS.out, HST.out]; simp [mrkB, show ¬ z ≤ fa by omega]), below_draws HB3.out nq⟩
          · have hd : decide (fa < z) = false := decide_eq_false hlow
            cases hst : stB bs fa quiet with
            | false =>
              first
                | go_region_law (first
                  | (go_simp; go_at_call 59; refine (hQ _).mono ?_; rintro E w4 ⟨g4, d4, rfl, ho4, hb4⟩; have HO4 := Hid.in ho4; have HW4 := Hid.in (below_step (below_draws (below_self w3) 1) hb4); have HK4 := Hid.in (HK3.out.grow HW4.out); have HS4 := Hid.in (HS3.out.grow HW4.out); have HB4 := Hid.in (below_step HB3.out HW4.out); have s4 : w4.cell? ⟨wr.heap.size, 0, none⟩ = some (.int .i64 fa) := (HS3.out.grow HW4.out).cell 0; have o40 : w4.cell? ⟨w.heap.size, 0, none⟩ = some (.slice pb nb cb) := (HK3.out.grow HW4.out).cell 0; have o42 : w4.cell? ⟨w.heap.size, 2, none⟩ = some (.slice pf nf cf) := (HK3.out.grow HW4.out).cell 2; clear ho4 hb4)
                  | (go_simp; go_at_call 77; refine (hH fa _ _ _ (by omega) hsa1 (HRB.out.below HB4.out) HO4.out.row).mono ?_; rw [hst]; rintro E w5 ⟨rfl, rfl⟩))
                | fail
              all_goals
                go_wp2_with fail
                go_ret
                exact ⟨ret_bool (by rw [← HR.out, HRS.out, HST.out]; simp [mrkB, hst]), HB4.out⟩
            | true =>
              have htop : fa ≤ 65536 := by
                unfold stB at hst
                have h4 := (of_decide_eq_true hst).2.1
                have := HLB.out
                omega
              obtain ⟨sh, hsh⟩ : ∃ sh, shB fs fa = sh := ⟨_, rfl⟩
              have HFB : Hid (mrkB bs fs z ⟨fa, fk, ft⟩ = !sh) := by
                have : mrkB bs fs z ⟨fa, fk, ft⟩ = !sh := by simp [mrkB, hnm, hnt, hst, hsh, show z ≤ fa by omega]
                exact this
              first
                | go_region_law (first
                  | (go_simp; go_at_call 59; refine (hQ _).mono ?_; rintro E w4 ⟨g4, d4, rfl, ho4, hb4⟩; have HO4 := Hid.in ho4; have HW4 := Hid.in (below_step (below_draws (below_self w3) 1) hb4); have HK4 := Hid.in (HK3.out.grow HW4.out); have HS4 := Hid.in (HS3.out.grow HW4.out); have HB4 := Hid.in (below_step HB3.out HW4.out); have s4 : w4.cell? ⟨wr.heap.size, 0, none⟩ = some (.int .i64 fa) := (HS3.out.grow HW4.out).cell 0; have o40 : w4.cell? ⟨w.heap.size, 0, none⟩ = some (.slice pb nb cb) := (HK3.out.grow HW4.out).cell 0; have o42 : w4.cell? ⟨w.heap.size, 2, none⟩ = some (.slice pf nf cf) := (HK3.out.grow HW4.out).cell 2; clear ho4 hb4)
                  | (go_simp; go_at_call 77; refine (hH fa _ _ _ (by omega) hsa1 (HRB.out.below HB4.out) HO4.out.row).mono ?_; rw [hst]; rintro E w5 ⟨rfl, rfl⟩)
                  | (go_simp; go_at_call 78; refine (hS fa _ (by omega) htop (HRF.out.below HB4.out)).mono ?_; rw [hsh]; rintro E w6 ⟨rfl, hb6⟩; have HB6 := Hid.in (below_step HB4.out hb6); have HK6 := Hid.in (HK4.out.grow hb6); have s6 : w6.cell? ⟨wr.heap.size, 0, none⟩ = some (.int .i64 fa) := (HS4.out.grow hb6).cell 0; clear hb6))
                | fail
              all_goals
                clear hH hN hS hQ
                cases sh with
                | true =>
                  go_wp2_with fail
                  go_ret
                  exact ⟨ret_bool (by rw [← HR.out, HRS.out, HST.out, HFB.out]; rfl), HB6.out⟩
                | false =>
                  go_wp2_with fail
                  go_roundw
                  case rel => exact ⟨fa, k + 1, rfl, by go_num, by omega, by rw [HRS.out, HST.out, HFB.out]; rfl, by omega, by omega, HK6.out, HB6.out⟩
                  case measure => simp [intOf]; omega
    · have hkn : k = nm := by omega
      subst hkn
      go_wp2_with fail
      go_ret
      exact ⟨ret_bool (by rw [← HR.out, HRS.out, List.drop_eq_nil_of_le (by rw [HN.out]; exact Nat.le_refl _)]; rfl), HB.out⟩

end Go.Proofs.Ytkpieeldoielgaa
