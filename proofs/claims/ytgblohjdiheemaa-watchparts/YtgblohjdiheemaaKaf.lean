/- Texts put together: RMrk, RObj, TabW, StaL. -/
import Derived.Test.YtgblohjdiheemaaKad
import Derived.Test.YtgblohjdiheemaaKae
import Derived.Deep.RegionLaw
import Derived.Lib.Hide
import Derived.BigQuiet
import Derived.Deep.QuietTactic

/- isa.Quiet; object.rightMarks. -/
namespace Go.Proofs.Ytgblohjdiheemaa
open Go.RowKit

theorem encode_quiet (w : World) : Calls Try.prog 51 #[ins 3 0 0 0] w fun e w' => ∃ g cap, e = .returned (.tuple #[.slice (some ⟨g, 0, none⟩) 5 cap, .int .i64 0]) ∧ Own w' w.heap.size g cap quiet ∧ Below w.heap.size w w' :=
  encode_yes 3 0 0 0 w (by decide) (by decide) (by decide)
theorem quiet_any (w : World) : Calls Try.prog 40 #[] w fun e w' => ∃ g cap, e = .returned (.slice (some ⟨g, 0, none⟩) 5 cap) ∧ Own w' w.heap.size g cap quiet ∧ Below w.heap.size w w' := by
  go_enter Try.func40, Try.ntmps40
  go_wp2_with fail
  refine (encode_quiet _).mono ?_
  rintro e w1 ⟨g, cap, rfl, ho, hb⟩
  go_wp2
  go_ret
  exact ⟨g, cap, rfl, ho, hb⟩
theorem byt_quiet : Byt quiet := fun i => by
  match i with
  | 0 => decide
  | 1 => decide
  | 2 => decide
  | 3 => decide
  | 4 => decide
  | i + 5 => simp [quiet]

/-- fixes that are right end within the bytes -/
theorem rf_high (bs : List Int) : ∀ (L : List Fx) (least : Int), rfL bs least L = true → ∀ f ∈ L, f.at_ + 4 ≤ bs.length
  | [], _, _, f, hf => by cases hf
  | g :: r, least, h, f, hf => by
    unfold rfL at h
    rw [Bool.and_eq_true] at h
    rcases List.mem_cons.1 hf with rfl | hf
    · have h1 := h.1
      unfold fixB stB at h1
      simp only [Bool.and_eq_true, decide_eq_true_eq] at h1
      have h4 := h1.2.2.1
      have hl4 : ([0, 0, 0, 0] : List Int).length = 4 := rfl
      have h0 := h1.2.1
      omega
    · exact rf_high bs r _ h.2 f hf

set_option maxRecDepth 20000 in
set_option maxHeartbeats 8000000 in
theorem rightMarks_any (pb ps pf pm : Option Addr) (nb cb ns cs nf cf nm cm : Nat) (bs : List Int) (fs : List Fx) (L : List Mk) (w : World) (hb : bs.length = nb) (hnc : nb ≤ cb) (hcb : cb ≤ 9223372036854775807) (hf : fs.length = nf) (hf4 : nf ≤ 4096) (hn : L.length = nm) (hn4 : nm ≤ 4096) (hnb : nb ≤ 65536) (hbt : Byt bs) (hL : ∀ s ∈ L, MkF s) (hr1 : Row w pb bs) (hrf : Row3 w pf (fs.map fxV)) (hx : Row3 w pm (L.map mkV)) (hrt : rfL bs 0 fs = true) :
    Calls Try.prog 50 #[.agg (obA pb ps pf pm nb cb ns cs nf cf nm cm)] w fun E w' => E = .returned (.bool (rmL bs fs 0 L)) ∧ Below w.heap.size w w' := by
  have hN := fun s W => name_any s W (nmB s) (nmB_iff s)
  have hQ := quiet_any
  have hH := fun (a : Int) q d W ha ha2 k1 k2 => oholds_any pb q nb cb 5 d a bs quiet W hb rfl hnc hcb (by decide) ha ha2 k1 k2 hbt byt_quiet
  obtain ⟨hlo, hst⟩ := rf_sorted bs fs 0 hrt
  have hhi := rf_high bs fs 0 hrt
  have hS := fun (a : Int) W (ha : 0 ≤ a) (ha2 : a ≤ 65536) k => shares_any pf nf cf a fs W hf (by omega) k hst ha ha2 (fun f hf => by have := hhi f hf; omega) (fun f hf => by obtain ⟨i, hi, rfl⟩ := List.getElem_of_mem hf; exact hlo i hi)
  have HX := Hid.in hx
  have HN := Hid.in hn
  have HL := Hid.in hL
  have HRB := Hid.in hr1
  have HRF := Hid.in hrf
  have HLB := Hid.in hb
  clear hx hn hL hr1 hb hbt hlo hst hhi hrt hrf hf
  obtain ⟨r, hr⟩ : ∃ r, rmL bs fs 0 L = r := ⟨_, rfl⟩
  rw [hr]
  have HR := Hid.in hr
  clear hr
  go_enter Try.func50, Try.ntmps50
  go_upto_region 2 with fail
  have HK0 : Hid (Blk (w.alloc (.cells (obA pb ps pf pm nb cb ns cs nf cf nm cm) 97)) w.heap.size 97 (obA pb ps pf pm nb cb ns cs nf cf nm cm)) := Blk.new w 97 _
  have HB0 : Hid (Below w.heap.size w (w.alloc (.cells (obA pb ps pf pm nb cb ns cs nf cf nm cm) 97))) := new_alloc w _
  generalize w.alloc (.cells (obA pb ps pf pm nb cb ns cs nf cf nm cm) 97) = w0 at *
  have c2 : w0.cell? ⟨w.heap.size, 3, none⟩ = some (.slice pm nm cm) := HK0.out.cell 3
  go_wp2_with fail
  clear c2
  go_loopw [3, 9] (fun vl vi wr => ∃ (z : Int) (k : Nat), vl = .int .i64 z ∧ vi = .int .i64 k ∧ k ≤ nm ∧ rmL bs fs 0 L = rmL bs fs z (L.drop k) ∧ 0 ≤ z ∧ z ≤ 65540 ∧ Blk wr w.heap.size 97 (obA pb ps pf pm nb cb ns cs nf cf nm cm) ∧ Below w.heap.size w wr) (fun _ vi _ => nm - (intOf vi).toNat)
  case atStart => exact ⟨0, 0, rfl, rfl, Nat.zero_le _, rfl, by omega, by omega, HK0.out, HB0.out⟩
  case round =>
    obtain ⟨z, k, rfl, rfl, hk, hrs, hz0', hz1', hK, hB⟩ := hrel
    have HRS := Hid.in hrs
    have HK := Hid.in hK
    have HB := Hid.in hB
    clear hrs hK hB HK0 HB0
    by_cases hlt : k < nm
    · have hkl : k < L.length := by rw [HN.out]; exact hlt
      obtain ⟨b, o, rfl, hc⟩ := (HX.out.below HB.out) (by rw [List.length_map]; omega)
      obtain ⟨c0, c1, c2⟩ := cells3 hc k (by rw [List.length_map]; exact hkl)
      simp only [List.getElem_map, mkV] at c0 c1 c2
      clear hc
      obtain ⟨hsn, hsn2, hsa0, hsa1⟩ := HL.out L[k] (List.getElem_mem hkl)
      have HST := Hid.in (rm_step bs fs L k hkl z)
      generalize L[k] = f at *
      obtain ⟨fa, fk, ft⟩ := f
      simp only at c0 c1 c2 hsn hsn2 hsa0 hsa1
      have hBB : Hid (Below w.heap.size w (wr.alloc (.cells #[.int .i64 fa, .string fk, .string ft] 122))) := below_alloc HB.out _
      have HK1 : Hid (Blk (wr.alloc (.cells #[.int .i64 fa, .string fk, .string ft] 122)) w.heap.size 97 _) := HK.out.grow (new_alloc wr _)
      have HS1 : Hid (Blk (wr.alloc (.cells #[.int .i64 fa, .string fk, .string ft] 122)) wr.heap.size 122 #[.int .i64 fa, .string fk, .string ft]) := Blk.new wr 122 _
      cases hnm : nmB fk with
      | false =>
        go_wp2_with (go_at_call 57; refine (hN _ _).mono ?_; rw [hnm]; rintro E w2 ⟨rfl, hb2⟩; have HB2 := Hid.in (below_step hBB.out hb2); clear hb2)
        go_ret
        exact ⟨ret_bool (by rw [← HR.out, HRS.out, HST.out]; simp [mrkB, hnm]), HB2.out⟩
      | true =>
        go_upto_region 5 with fail
        go_wp2_with (go_at_call 57; refine (hN fk _).mono ?_; rw [hnm]; rintro E w2 ⟨rfl, hb2⟩; have HB2 := Hid.in (below_step hBB.out hb2); have HK2 := Hid.in (HK1.out.grow hb2); have HS2 := Hid.in (HS1.out.grow hb2); have s2 : w2.cell? ⟨wr.heap.size, 2, none⟩ = some (.string ft) := (HS1.out.grow hb2).cell 2; clear hb2; refine Hid.out ?_)
        refine Lib.hid ?_
        cases hnt : nmB ft with
        | false =>
          go_wp2_with (go_at_call 57; refine (hN ft _).mono ?_; rw [hnt]; rintro E w3 ⟨rfl, hb3⟩; have HB3 := Hid.in (below_step HB2.out hb3); clear hb3)
          go_ret
          exact ⟨ret_bool (by rw [← HR.out, HRS.out, HST.out]; simp [mrkB, hnt]), HB3.out⟩
        | true =>
          go_upto_region 7 with (go_at_call 57; refine (hN ft _).mono ?_; rw [hnt]; rintro E w3 ⟨rfl, hb3⟩; have HB3 := Hid.in (below_step HB2.out hb3); have HK3 := Hid.in (HK2.out.grow hb3); have HS3 := Hid.in (HS2.out.grow hb3); have s3 : w3.cell? ⟨wr.heap.size, 0, none⟩ = some (.int .i64 fa) := (HS2.out.grow hb3).cell 0; have o30 : w3.cell? ⟨w.heap.size, 0, none⟩ = some (.slice pb nb cb) := (HK2.out.grow hb3).cell 0; have o32 : w3.cell? ⟨w.heap.size, 2, none⟩ = some (.slice pf nf cf) := (HK2.out.grow hb3).cell 2; clear hb3)
          by_cases hlow : fa < z
          · clear hH hQ hS hN s2
            go_quiet (fail)
            go_wp2_with fail
            go_ret
            exact ⟨ret_bool (by rw [← HR.out, HRS.out, HST.out]; simp [mrkB, show ¬ z ≤ fa by omega]), below_draws HB3.out nq⟩
          · have hd : decide (fa < z) = false := decide_eq_false hlow
            cases hst : stB bs fa quiet with
            | false =>
              first
                | go_region_law (first
                  | (go_simp; go_at_call 40; refine (hQ _).mono ?_; rintro E w4 ⟨g4, d4, rfl, ho4, hb4⟩; have HO4 := Hid.in ho4; have HW4 := Hid.in (below_step (below_draws (below_self w3) 1) hb4); have HK4 := Hid.in (HK3.out.grow HW4.out); have HS4 := Hid.in (HS3.out.grow HW4.out); have HB4 := Hid.in (below_step HB3.out HW4.out); have s4 : w4.cell? ⟨wr.heap.size, 0, none⟩ = some (.int .i64 fa) := (HS3.out.grow HW4.out).cell 0; have o40 : w4.cell? ⟨w.heap.size, 0, none⟩ = some (.slice pb nb cb) := (HK3.out.grow HW4.out).cell 0; have o42 : w4.cell? ⟨w.heap.size, 2, none⟩ = some (.slice pf nf cf) := (HK3.out.grow HW4.out).cell 2; clear ho4 hb4)
                  | (go_simp; go_at_call 58; refine (hH fa _ _ _ (by omega) hsa1 (HRB.out.below HB4.out) HO4.out.row).mono ?_; rw [hst]; rintro E w5 ⟨rfl, rfl⟩))
                | fail
              all_goals
                go_wp2_with fail
                go_ret
                exact ⟨ret_bool (by rw [← HR.out, HRS.out, HST.out]; simp [mrkB, hst]), HB4.out⟩
            | true =>
              have htop : fa ≤ 65536 := by
                unfold stB at hst
                have h4 := (of_decide_eq_true hst).2.1
                have := HLB.out
                omega
              obtain ⟨sh, hsh⟩ : ∃ sh, shB fs fa = sh := ⟨_, rfl⟩
              have HFB : Hid (mrkB bs fs z ⟨fa, fk, ft⟩ = !sh) := by
                have : mrkB bs fs z ⟨fa, fk, ft⟩ = !sh := by simp [mrkB, hnm, hnt, hst, hsh, show z ≤ fa by omega]
                exact this
              first
                | go_region_law (first
                  | (go_simp; go_at_call 40; refine (hQ _).mono ?_; rintro E w4 ⟨g4, d4, rfl, ho4, hb4⟩; have HO4 := Hid.in ho4; have HW4 := Hid.in (below_step (below_draws (below_self w3) 1) hb4); have HK4 := Hid.in (HK3.out.grow HW4.out); have HS4 := Hid.in (HS3.out.grow HW4.out); have HB4 := Hid.in (below_step HB3.out HW4.out); have s4 : w4.cell? ⟨wr.heap.size, 0, none⟩ = some (.int .i64 fa) := (HS3.out.grow HW4.out).cell 0; have o40 : w4.cell? ⟨w.heap.size, 0, none⟩ = some (.slice pb nb cb) := (HK3.out.grow HW4.out).cell 0; have o42 : w4.cell? ⟨w.heap.size, 2, none⟩ = some (.slice pf nf cf) := (HK3.out.grow HW4.out).cell 2; clear ho4 hb4)
                  | (go_simp; go_at_call 58; refine (hH fa _ _ _ (by omega) hsa1 (HRB.out.below HB4.out) HO4.out.row).mono ?_; rw [hst]; rintro E w5 ⟨rfl, rfl⟩)
                  | (go_simp; go_at_call 59; refine (hS fa _ (by omega) htop (HRF.out.below HB4.out)).mono ?_; rw [hsh]; rintro E w6 ⟨rfl, hb6⟩; have HB6 := Hid.in (below_step HB4.out hb6); have HK6 := Hid.in (HK4.out.grow hb6); have s6 : w6.cell? ⟨wr.heap.size, 0, none⟩ = some (.int .i64 fa) := (HS4.out.grow hb6).cell 0; clear hb6))
                | fail
              all_goals
                clear hH hN hS hQ
                cases sh with
                | true =>
                  go_wp2_with fail
                  go_ret
                  exact ⟨ret_bool (by rw [← HR.out, HRS.out, HST.out, HFB.out]; rfl), HB6.out⟩
                | false =>
                  go_wp2_with fail
                  go_roundw
                  case rel => exact ⟨fa, k + 1, rfl, by go_num, by omega, by rw [HRS.out, HST.out, HFB.out]; rfl, by omega, by omega, HK6.out, HB6.out⟩
                  case measure => simp [intOf]; omega
    · have hkn : k = nm := by omega
      subst hkn
      go_wp2_with fail
      go_ret
      exact ⟨ret_bool (by rw [← HR.out, HRS.out, List.drop_eq_nil_of_le (by rw [HN.out]; exact Nat.le_refl _)]; rfl), HB.out⟩

end Go.Proofs.Ytgblohjdiheemaa

/- object.Right, for every object. -/
namespace Go.Proofs.Ytgblohjdiheemaa
open Go.RowKit

/-- an object's lists in memory -/
structure ObIn (w : World) (o : Ob) (pb ps pf pm : Option Addr) (nb cb ns cs nf cf nm cm : Nat) : Prop where
  lb : o.bs.length = nb
  ls : o.sy.length = ns
  lf : o.fx.length = nf
  lm : o.mk_.length = nm
  kb : nb ≤ cb
  mb : cb ≤ maxLen
  ks : ns ≤ maxLen
  kf : nf ≤ maxLen
  km : nm ≤ maxLen
  rb : Row w pb o.bs
  rs : Row3 w ps (o.sy.map syV)
  rf : Row3 w pf (o.fx.map fxV)
  rm : Row3 w pm (o.mk_.map mkV)
  fit : ObF o
theorem ObIn.below {w w' : World} {o : Ob} {pb ps pf pm : Option Addr} {nb cb ns cs nf cf nm cm : Nat} (h : ObIn w o pb ps pf pm nb cb ns cs nf cf nm cm) (hb : Below w.heap.size w w') : ObIn w' o pb ps pf pm nb cb ns cs nf cf nm cm :=
  { h with rb := h.rb.below hb, rs := h.rs.below hb, rf := h.rf.below hb, rm := h.rm.below hb }

set_option maxRecDepth 20000 in
set_option maxHeartbeats 2000000 in
theorem oright_any (o : Ob) (pb ps pf pm : Option Addr) (nb cb ns cs nf cf nm cm : Nat) (w : World) (h : ObIn w o pb ps pf pm nb cb ns cs nf cf nm cm) :
    Calls Try.prog 39 #[.agg (obA pb ps pf pm nb cb ns cs nf cf nm cm)] w fun E w' => E = .returned (.bool (okO o)) ∧ Below w.heap.size w w' := by
  have H := Hid.in h
  have hcb : cb ≤ 9223372036854775807 := by have := h.mb; unfold maxLen at this; omega
  have hns : ns ≤ 9223372036854775807 := by have := h.ks; unfold maxLen at this; omega
  have hnf : nf ≤ 9223372036854775807 := by have := h.kf; unfold maxLen at this; omega
  have hnm : nm ≤ 9223372036854775807 := by have := h.km; unfold maxLen at this; omega
  have hkb := h.kb
  have HE : Hid (okO o = (decide (nb ≤ 65536 ∧ ns ≤ 4096 ∧ nf ≤ 4096 ∧ nm ≤ 4096) && rsL nb 0 [] o.sy && rfL o.bs 0 o.fx && rmL o.bs o.fx 0 o.mk_)) := by
    have : okO o = (decide (nb ≤ 65536 ∧ ns ≤ 4096 ∧ nf ≤ 4096 ∧ nm ≤ 4096) && rsL nb 0 [] o.sy && rfL o.bs 0 o.fx && rmL o.bs o.fx 0 o.mk_) := by
      unfold okO
      rw [h.lb, h.ls, h.lf, h.lm]
    exact this
  clear h
  obtain ⟨r, hr⟩ : ∃ r, okO o = r := ⟨_, rfl⟩
  rw [hr]
  have HR := Hid.in hr
  clear hr
  have HK0 : Hid (Blk (w.alloc (.cells (obA pb ps pf pm nb cb ns cs nf cf nm cm) 97)) w.heap.size 97 (obA pb ps pf pm nb cb ns cs nf cf nm cm)) := Blk.new w 97 _
  have HB0 : Hid (Below w.heap.size w (w.alloc (.cells (obA pb ps pf pm nb cb ns cs nf cf nm cm) 97))) := new_alloc w _
  by_cases hs : nb ≤ 65536 ∧ ns ≤ 4096 ∧ nf ≤ 4096 ∧ nm ≤ 4096
  · obtain ⟨h1, h2, h3, h4⟩ := hs
    have hS := fun W (k : ObIn W o pb ps pf pm nb cb ns cs nf cf nm cm) => rightSymbols_any pb ps pf pm nb cb ns cs nf cf nm cm o.sy W k.ls h2 h1 k.fit.sy k.rs
    have hF := fun W (k : ObIn W o pb ps pf pm nb cb ns cs nf cf nm cm) => rightFixes_any pb ps pf pm nb cb ns cs nf cf nm cm o.bs o.fx W k.lb hkb hcb k.lf h3 h1 k.fit.byt k.fit.fx k.rb k.rf
    have hM := fun W (k : ObIn W o pb ps pf pm nb cb ns cs nf cf nm cm) => rightMarks_any pb ps pf pm nb cb ns cs nf cf nm cm o.bs o.fx o.mk_ W k.lb hkb hcb k.lf h3 k.lm h4 h1 k.fit.byt k.fit.mk_ k.rb k.rf k.rm
    have hd : decide (nb ≤ 65536 ∧ ns ≤ 4096 ∧ nf ≤ 4096 ∧ nm ≤ 4096) = true := decide_eq_true ⟨h1, h2, h3, h4⟩
    rw [hd, Bool.true_and] at HE
    clear hd
    generalize rsL nb 0 [] o.sy = r1 at *
    generalize rfL o.bs 0 o.fx = r2 at *
    generalize rmL o.bs o.fx 0 o.mk_ = r3 at *
    go_enter Try.func39, Try.ntmps39
    go_upto_region 1 with fail
    generalize w.alloc (.cells (obA pb ps pf pm nb cb ns cs nf cf nm cm) 97) = w0 at *
    have o0 : w0.cell? ⟨w.heap.size, 0, none⟩ = some (.slice pb nb cb) := HK0.out.cell 0
    have o1 : w0.cell? ⟨w.heap.size, 1, none⟩ = some (.slice ps ns cs) := HK0.out.cell 1
    have o2 : w0.cell? ⟨w.heap.size, 2, none⟩ = some (.slice pf nf cf) := HK0.out.cell 2
    have o3 : w0.cell? ⟨w.heap.size, 3, none⟩ = some (.slice pm nm cm) := HK0.out.cell 3
    cases r1 with
    | false =>
      go_wp2_with (go_at_call 48; refine (hS _ (H.out.below HB0.out)).mono ?_; rintro E w1 ⟨rfl, hb1⟩; have HK1 := Hid.in (HK0.out.grow hb1); have HB1 := Hid.in (below_step HB0.out hb1); have o10 : w1.cell? ⟨w.heap.size, 0, none⟩ = some (.slice pb nb cb) := (HK0.out.grow hb1).cell 0; have o11 : w1.cell? ⟨w.heap.size, 1, none⟩ = some (.slice ps ns cs) := (HK0.out.grow hb1).cell 1; have o12 : w1.cell? ⟨w.heap.size, 2, none⟩ = some (.slice pf nf cf) := (HK0.out.grow hb1).cell 2; have o13 : w1.cell? ⟨w.heap.size, 3, none⟩ = some (.slice pm nm cm) := (HK0.out.grow hb1).cell 3; clear hb1)
      all_goals
        go_ret
        exact ⟨ret_bool (by rw [← HR.out, HE.out]; rfl), HB1.out⟩
    | true =>
      cases r2 with
      | false =>
        go_wp2_with (first
          | (go_at_call 48; refine (hS _ (H.out.below HB0.out)).mono ?_; rintro E w1 ⟨rfl, hb1⟩; have HK1 := Hid.in (HK0.out.grow hb1); have HB1 := Hid.in (below_step HB0.out hb1); have o10 : w1.cell? ⟨w.heap.size, 0, none⟩ = some (.slice pb nb cb) := (HK0.out.grow hb1).cell 0; have o11 : w1.cell? ⟨w.heap.size, 1, none⟩ = some (.slice ps ns cs) := (HK0.out.grow hb1).cell 1; have o12 : w1.cell? ⟨w.heap.size, 2, none⟩ = some (.slice pf nf cf) := (HK0.out.grow hb1).cell 2; have o13 : w1.cell? ⟨w.heap.size, 3, none⟩ = some (.slice pm nm cm) := (HK0.out.grow hb1).cell 3; clear hb1)
          | (go_at_call 49; refine (hF _ (H.out.below HB1.out)).mono ?_; rintro E w2 ⟨rfl, hb2⟩; have HK2 := Hid.in (HK1.out.grow hb2); have HB2 := Hid.in (below_step HB1.out hb2); have o20 : w2.cell? ⟨w.heap.size, 0, none⟩ = some (.slice pb nb cb) := (HK1.out.grow hb2).cell 0; have o21 : w2.cell? ⟨w.heap.size, 1, none⟩ = some (.slice ps ns cs) := (HK1.out.grow hb2).cell 1; have o22 : w2.cell? ⟨w.heap.size, 2, none⟩ = some (.slice pf nf cf) := (HK1.out.grow hb2).cell 2; have o23 : w2.cell? ⟨w.heap.size, 3, none⟩ = some (.slice pm nm cm) := (HK1.out.grow hb2).cell 3; clear hb2))
        all_goals
          go_ret
          exact ⟨ret_bool (by rw [← HR.out, HE.out]; rfl), HB2.out⟩
      | true =>
        go_wp2_with (first
          | (go_at_call 48; refine (hS _ (H.out.below HB0.out)).mono ?_; rintro E w1 ⟨rfl, hb1⟩; have HK1 := Hid.in (HK0.out.grow hb1); have HB1 := Hid.in (below_step HB0.out hb1); have o10 : w1.cell? ⟨w.heap.size, 0, none⟩ = some (.slice pb nb cb) := (HK0.out.grow hb1).cell 0; have o11 : w1.cell? ⟨w.heap.size, 1, none⟩ = some (.slice ps ns cs) := (HK0.out.grow hb1).cell 1; have o12 : w1.cell? ⟨w.heap.size, 2, none⟩ = some (.slice pf nf cf) := (HK0.out.grow hb1).cell 2; have o13 : w1.cell? ⟨w.heap.size, 3, none⟩ = some (.slice pm nm cm) := (HK0.out.grow hb1).cell 3; clear hb1)
          | (go_at_call 49; refine (hF _ (H.out.below HB1.out)).mono ?_; rintro E w2 ⟨rfl, hb2⟩; have HK2 := Hid.in (HK1.out.grow hb2); have HB2 := Hid.in (below_step HB1.out hb2); have o20 : w2.cell? ⟨w.heap.size, 0, none⟩ = some (.slice pb nb cb) := (HK1.out.grow hb2).cell 0; have o21 : w2.cell? ⟨w.heap.size, 1, none⟩ = some (.slice ps ns cs) := (HK1.out.grow hb2).cell 1; have o22 : w2.cell? ⟨w.heap.size, 2, none⟩ = some (.slice pf nf cf) := (HK1.out.grow hb2).cell 2; have o23 : w2.cell? ⟨w.heap.size, 3, none⟩ = some (.slice pm nm cm) := (HK1.out.grow hb2).cell 3; clear hb2)
          | (go_at_call 50; refine (hM _ (H.out.below HB2.out) (by trivial)).mono ?_; rintro E w3 ⟨rfl, hb3⟩; have HB3 := Hid.in (below_step HB2.out hb3); clear hb3))
        all_goals
          go_ret
          exact ⟨ret_bool (by rw [← HR.out, HE.out]; rfl), HB3.out⟩
  · have hd : decide (nb ≤ 65536 ∧ ns ≤ 4096 ∧ nf ≤ 4096 ∧ nm ≤ 4096) = false := decide_eq_false hs
    rw [hd, Bool.false_and, Bool.false_and, Bool.false_and] at HE
    clear hd
    go_enter Try.func39, Try.ntmps39
    go_upto_region 1 with fail
    generalize w.alloc (.cells (obA pb ps pf pm nb cb ns cs nf cf nm cm) 97) = w0 at *
    have o0 : w0.cell? ⟨w.heap.size, 0, none⟩ = some (.slice pb nb cb) := HK0.out.cell 0
    have o1 : w0.cell? ⟨w.heap.size, 1, none⟩ = some (.slice ps ns cs) := HK0.out.cell 1
    have o2 : w0.cell? ⟨w.heap.size, 2, none⟩ = some (.slice pf nf cf) := HK0.out.cell 2
    have o3 : w0.cell? ⟨w.heap.size, 3, none⟩ = some (.slice pm nm cm) := HK0.out.cell 3
    go_wp2_with fail
    all_goals (try (exfalso; simp_all; omega))
    all_goals
      go_ret
      exact ⟨ret_bool (by rw [← HR.out, HE.out]), HB0.out⟩

end Go.Proofs.Ytgblohjdiheemaa

/- symbols.Table, for every list of units. -/
namespace Go.Proofs.Ytgblohjdiheemaa
open Go.RowKit

/-- a unit in a list of units -/
def UnitIn (w : World) (b o i : Nat) (x : Ob) : Prop :=
  ∃ (pb ps pf pm : Option Addr) (cb cs cf cm : Nat), (w.cell? ⟨b, o + i * 4, none⟩ = some (.slice pb x.bs.length cb) ∧ w.cell? ⟨b, o + i * 4 + 1, none⟩ = some (.slice ps x.sy.length cs) ∧ w.cell? ⟨b, o + i * 4 + 2, none⟩ = some (.slice pf x.fx.length cf) ∧ w.cell? ⟨b, o + i * 4 + 3, none⟩ = some (.slice pm x.mk_.length cm)) ∧ ObIn w x pb ps pf pm x.bs.length cb x.sy.length cs x.fx.length cf x.mk_.length cm
def Units (w : World) (p : Option Addr) (xs : List Ob) : Prop := 0 < xs.length → ∃ b o, p = some ⟨b, o, none⟩ ∧ ∀ i (h : i < xs.length), UnitIn w b o i xs[i]
theorem Units.below {w w' : World} {p : Option Addr} {xs : List Ob} (h : Units w p xs) (hb : Below w.heap.size w w') : Units w' p xs := fun h0 => by
  obtain ⟨b, o, e, hc⟩ := h h0
  refine ⟨b, o, e, fun i hi => ?_⟩
  obtain ⟨pb, ps, pf, pm, cb, cs, cf, cm, ⟨c0, c1, c2, c3⟩, hI⟩ := hc i hi
  exact ⟨pb, ps, pf, pm, cb, cs, cf, cm, ⟨(hb.cell (cell_lt c0)).trans c0, (hb.cell (cell_lt c1)).trans c1, (hb.cell (cell_lt c2)).trans c2, (hb.cell (cell_lt c3)).trans c3⟩, hI.below hb⟩
def startsV (ss : List Nat) : List Value := ss.map fun (n : Nat) => .int .i64 (n : Int)
def TabIs (xs : List Ob) (w : World) (E : Ending) (w' : World) : Prop :=
  ∃ v2 v3, E = .returned (.tuple #[v2, v3, .int .i64 (tabL xs).e, .int .i64 ((tabL xs).u : Nat)]) ∧ GOwnV 3 w' w.heap.size v2 (startsV (tabL xs).ss) ∧ TOwn 92 w' w.heap.size v3 ((tabL xs).ts.map syV) ∧ Below w.heap.size w w'
theorem tabIs_err {xs : List Ob} {w w' : World} {e : Int} {u : Nat} (h : tabL xs = noTab e u) (hb : Below w.heap.size w w') : TabIs xs w (.returned (.tuple #[.slice none 0 0, .slice none 0 0, .int .i64 e, .int .i64 (u : Nat)])) w' := by
  refine ⟨_, _, by rw [h]; rfl, ?_, ?_, hb⟩
  · rw [h]; exact GOwnV.nil _ _ _
  · rw [h]; exact TOwn.nil _ _ _
theorem rs_good (n : Nat) : ∀ (L : List Sy) (least : Int) (seen : List ByteArray), rsL n least seen L = true → ∀ s ∈ L, least ≤ s.at_ ∧ s.at_ ≤ n ∧ NameP s.name
  | [], _, _, _, s, hs => by cases hs
  | x :: L, least, seen, h, s, hs => by
    unfold rsL at h
    rw [Bool.and_eq_true] at h
    obtain ⟨h1, h2⟩ := h
    have hx : least ≤ x.at_ ∧ x.at_ ≤ n ∧ NameP x.name := by
      unfold symB at h1
      simp only [Bool.and_eq_true, decide_eq_true_eq] at h1
      obtain ⟨⟨⟨_, ha⟩, hb⟩, hc⟩ := h1
      exact ⟨hb, hc, (nmB_iff _).1 ha⟩
    rcases List.mem_cons.1 hs with rfl | hs
    · exact hx
    · obtain ⟨i1, i2, i3⟩ := rs_good n L _ _ h2 s hs
      exact ⟨by omega, i2, i3⟩
theorem ok_parts {o : Ob} (h : okO o = true) : o.bs.length ≤ 65536 ∧ o.sy.length ≤ 4096 ∧ (names o.sy).Nodup ∧ (∀ s ∈ o.sy, 0 ≤ s.at_ ∧ s.at_ ≤ 65536) ∧ ∀ s ∈ o.sy, s.name.size ≤ 16 := by
  unfold okO at h
  simp only [Bool.and_eq_true, decide_eq_true_eq] at h
  obtain ⟨⟨⟨⟨h1, h2, -, -⟩, h3⟩, -⟩, -⟩ := h
  refine ⟨h1, h2, (rs_nodup _ _ _ _ h3).2, fun s hs => ?_, fun s hs => (rs_good _ _ _ _ h3 s hs).2.2.2.2⟩
  obtain ⟨i1, i2, -⟩ := rs_good _ _ _ _ h3 s hs
  exact ⟨i1, by omega⟩

theorem row_lower {w : World} {B B' : Nat} {T : TypeId} {z : Nat} {v : Value} {n : Nat} {xs : List Value} (h : w.ownsRow B T z v n xs) (hB : B' ≤ B) : w.ownsRow B' T z v n xs := by
  obtain ⟨h0, h1⟩ := h
  refine ⟨h0, h1.imp id ?_⟩
  rintro ⟨g, cap, cur, e1, e2, e3⟩
  exact ⟨g, cap, cur, e1, Nat.le_trans hB e2, e3⟩
theorem row_far {w : World} {B b : Nat} {T : TypeId} {z : Nat} {v : Value} {n : Nat} {xs : List Value} (h : w.ownsRow B T z v n xs) (hb : b < B) : v.ownBlock ≠ some b := fun e => absurd (World.ownsRow.lt h _ e).1 (by omega)
theorem gloS_len (L : List Sy) : (gloS L).length ≤ L.length := by unfold gloS; rw [List.length_map]; exact List.length_filter_le _ _

end Go.Proofs.Ytgblohjdiheemaa

/- What a table is, unit by unit: where units begin and end, their labels, and that each is found (lists alone). -/
namespace Go.Proofs.Ytgblohjdiheemaa
open Go.RowKit

/-- where the unit ahead of the one at i ends -/
def endAt : Nat → List Ob → Nat → Nat
  | e, _, 0 => e
  | e, [], _ + 1 => e
  | e, o :: os, i + 1 => endAt (nextS e + o.bs.length) os i
def begs : Nat → List Ob → List Nat
  | _, [] => []
  | e, o :: os => nextS e :: begs (nextS e + o.bs.length) os
def labs : Nat → List Ob → List Sy
  | _, [] => []
  | e, o :: os => o.sy.map (movS (nextS e)) ++ labs (nextS e + o.bs.length) os
/-- how many labels the units ahead of the one at i have -/
def cntAt : List Ob → Nat → Nat
  | _, 0 => 0
  | [], _ + 1 => 0
  | o :: os, i + 1 => o.sy.length + cntAt os i

theorem endAt_zero (e : Nat) (xs : List Ob) : endAt e xs 0 = e := by cases xs <;> rfl
theorem cntAt_zero (xs : List Ob) : cntAt xs 0 = 0 := by cases xs <;> rfl
theorem begs_len : ∀ (xs : List Ob) (e : Nat), (begs e xs).length = xs.length
  | [], _ => rfl
  | o :: os, e => by simp [begs, begs_len os]
theorem begs_at : ∀ (xs : List Ob) (e i : Nat) (h : i < xs.length), (begs e xs)[i]'(by rw [begs_len]; exact h) = nextS (endAt e xs i)
  | o :: os, e, 0, _ => rfl
  | o :: os, e, i + 1, h => begs_at os _ i (by simpa using h)
theorem endAt_succ : ∀ (xs : List Ob) (e i : Nat) (h : i < xs.length), endAt e xs (i + 1) = nextS (endAt e xs i) + xs[i].bs.length
  | o :: os, e, 0, _ => endAt_zero (nextS e + o.bs.length) os
  | o :: os, e, i + 1, h => endAt_succ os _ i (by simpa using h)
theorem cntAt_succ : ∀ (xs : List Ob) (i : Nat) (h : i < xs.length), cntAt xs (i + 1) = cntAt xs i + xs[i].sy.length
  | o :: os, 0, _ => by show o.sy.length + cntAt os 0 = 0 + o.sy.length; rw [cntAt_zero]; omega
  | o :: os, i + 1, h => by
    show o.sy.length + cntAt os (i + 1) = o.sy.length + cntAt os i + (os[i]'(by simpa using h)).sy.length
    rw [cntAt_succ os i (by simpa using h)]; omega
theorem labs_len : ∀ (xs : List Ob) (e : Nat), (labs e xs).length = cntAt xs xs.length
  | [], _ => rfl
  | o :: os, e => by
    show (o.sy.map (movS (nextS e)) ++ labs (nextS e + o.bs.length) os).length = o.sy.length + cntAt os os.length
    rw [List.length_append, List.length_map, labs_len os]
theorem cntAt_le : ∀ (xs : List Ob) (i : Nat), i ≤ xs.length → cntAt xs i ≤ cntAt xs xs.length
  | _, 0, _ => by rw [cntAt_zero]; exact Nat.zero_le _
  | o :: os, i + 1, h => by
    show o.sy.length + cntAt os i ≤ o.sy.length + cntAt os os.length
    have := cntAt_le os i (by simpa using h); omega
theorem labs_at : ∀ (xs : List Ob) (e i j : Nat) (h : i < xs.length) (hj : j < xs[i].sy.length), (labs e xs)[cntAt xs i + j]? = some (movS (nextS (endAt e xs i)) xs[i].sy[j])
  | o :: os, e, 0, j, _, hj => by
    show (o.sy.map (movS (nextS e)) ++ labs (nextS e + o.bs.length) os)[0 + j]? = some (movS (nextS e) o.sy[j])
    have hj' : j < o.sy.length := hj
    rw [Nat.zero_add, List.getElem?_append_left (by rw [List.length_map]; exact hj'), List.getElem?_map, List.getElem?_eq_getElem hj']; rfl
  | o :: os, e, i + 1, j, h, hj => by
    show (o.sy.map (movS (nextS e)) ++ labs (nextS e + o.bs.length) os)[o.sy.length + cntAt os i + j]? = _
    rw [List.getElem?_append_right (by rw [List.length_map]; omega), List.length_map, show o.sy.length + cntAt os i + j - o.sy.length = cntAt os i + j by omega]
    exact labs_at os _ i j (by simpa using h) hj
theorem labs_app : ∀ (xs ys : List Ob) (e : Nat), labs e (xs ++ ys) = labs e xs ++ labs (endAt e xs xs.length) ys
  | [], ys, e => rfl
  | o :: os, ys, e => by
    show o.sy.map (movS (nextS e)) ++ labs _ (os ++ ys) = (o.sy.map (movS (nextS e)) ++ labs _ os) ++ labs (endAt (nextS e + o.bs.length) os os.length) ys
    rw [labs_app os ys, List.append_assoc]
theorem begs_app : ∀ (xs ys : List Ob) (e : Nat), begs e (xs ++ ys) = begs e xs ++ begs (endAt e xs xs.length) ys
  | [], ys, e => rfl
  | o :: os, ys, e => by
    show nextS e :: begs _ (os ++ ys) = nextS e :: (begs _ os ++ begs (endAt (nextS e + o.bs.length) os os.length) ys)
    rw [begs_app os ys]

theorem noTab_e {e : Int} {u : Nat} : (noTab e u).e = e := rfl
theorem glo_next {ts : List Sy} {o : Ob} (hd : ¬ dupS (gloS ts) o.sy = true) (s : Nat) (hn : (gloS ts).Nodup) (hnd : (names o.sy).Nodup) : (gloS (ts ++ o.sy.map (movS s))).Nodup := by
  rw [gloS_app, gloS_mov, List.nodup_append]
  refine ⟨hn, ?_, fun a ha b hb hab => ?_⟩
  · have : gloS o.sy = ((o.sy.filter fun x => x.g).map Sy.name) := rfl
    rw [this]
    exact List.Nodup.sublist (List.Sublist.map _ List.filter_sublist) hnd
  · subst hab
    refine hd ?_
    unfold dupS
    rw [List.any_eq_true]
    unfold gloS at hb
    rw [List.mem_map] at hb
    obtain ⟨x, hx, rfl⟩ := hb
    rw [List.mem_filter] at hx
    exact ⟨x, hx.1, by rw [hx.2, Bool.true_and, inB_iff]; exact ha⟩
theorem ok_nodup {o : Ob} (h : okO o = true) : (names o.sy).Nodup := (ok_parts h).2.2.1

theorem tabGo_eq : ∀ (xs : List Ob) (i e : Nat) (ss : List Nat) (ts : List Sy), (tabGo i e ss ts xs).e = 0 → tabGo i e ss ts xs = ⟨ss ++ begs e xs, ts ++ labs e xs, 0, 0⟩ ∧ (∀ x ∈ xs, okO x = true) ∧ (∀ j, 0 < j → j ≤ xs.length → endAt e xs j ≤ 65536) ∧ ((gloS ts).Nodup → (gloS (ts ++ labs e xs)).Nodup)
  | [], i, e, ss, ts, _ => by
    refine ⟨by simp [tabGo, begs, labs], fun x hx => (by cases hx), fun j h1 h2 => ?_, fun h => (by simpa [labs] using h)⟩
    have h3 : j ≤ 0 := h2
    omega
  | o :: os, i, e, ss, ts, h => by
    unfold tabGo at h ⊢
    by_cases h1 : okO o = false
    · rw [if_pos h1] at h; cases h
    rw [if_neg h1] at h ⊢
    by_cases h2 : nextS e + o.bs.length > 65536
    · rw [if_pos h2] at h; cases h
    rw [if_neg h2] at h ⊢
    by_cases h3 : dupS (gloS ts) o.sy = true
    · rw [if_pos h3] at h; cases h
    rw [if_neg h3] at h ⊢
    have hk : okO o = true := by simpa using h1
    obtain ⟨e1, e2, e3, e4⟩ := tabGo_eq os _ _ _ _ h
    refine ⟨?_, ?_, ?_, ?_⟩
    · rw [e1]
      simp [begs, labs]
    · intro x hx
      rcases List.mem_cons.1 hx with rfl | hx
      · exact hk
      · exact e2 x hx
    · intro j hj0 hj
      cases j with
      | zero => exact absurd hj0 (by omega)
      | succ j =>
        show endAt (nextS e + o.bs.length) os j ≤ 65536
        cases j with
        | zero => rw [endAt_zero]; omega
        | succ j => exact e3 _ (by omega) (by simpa using hj)
    · intro hn
      have := e4 (glo_next h3 _ hn (ok_nodup hk))
      simpa [labs, List.append_assoc] using this
theorem tabGo_bad : ∀ (xs : List Ob) (i e : Nat) (ss : List Nat) (ts : List Sy), (tabGo i e ss ts xs).e ≠ 0 → ∃ x u, tabGo i e ss ts xs = noTab x u ∧ i ≤ u ∧ u < i + xs.length
  | [], i, e, ss, ts, h => absurd rfl h
  | o :: os, i, e, ss, ts, h => by
    unfold tabGo at h ⊢
    by_cases h1 : okO o = false
    · rw [if_pos h1]; exact ⟨_, _, rfl, by omega, by simp⟩
    rw [if_neg h1] at h ⊢
    by_cases h2 : nextS e + o.bs.length > 65536
    · rw [if_pos h2]; exact ⟨_, _, rfl, by omega, by simp⟩
    rw [if_neg h2] at h ⊢
    by_cases h3 : dupS (gloS ts) o.sy = true
    · rw [if_pos h3]; exact ⟨_, _, rfl, by omega, by simp⟩
    rw [if_neg h3] at h ⊢
    obtain ⟨x, u, k1, k2, k3⟩ := tabGo_bad os _ _ _ _ h
    exact ⟨x, u, k1, by omega, by simp; omega⟩

theorem tab_good {xs : List Ob} (h : (tabL xs).e = 0) : xs.length ≤ 16 ∧ tabL xs = ⟨begs 0 xs, labs 0 xs, 0, 0⟩ ∧ (∀ x ∈ xs, okO x = true) ∧ (∀ j, j ≤ xs.length → endAt 0 xs j ≤ 65536) ∧ (gloS (labs 0 xs)).Nodup := by
  unfold tabL at h ⊢
  by_cases h1 : xs.length > 16
  · rw [if_pos h1] at h; cases h
  rw [if_neg h1] at h ⊢
  obtain ⟨e1, e2, e3, e4⟩ := tabGo_eq xs 0 0 [] [] h
  refine ⟨by omega, by simpa using e1, e2, fun j hj => ?_, by simpa using e4 List.nodup_nil⟩
  cases j with
  | zero => rw [endAt_zero]; omega
  | succ j => exact e3 _ (by omega) hj
theorem tab_bad {xs : List Ob} (h : (tabL xs).e ≠ 0) : (tabL xs).ss = [] ∧ (tabL xs).ts = [] ∧ ((tabL xs).u < xs.length ∨ xs.length = 0) := by
  unfold tabL at h ⊢
  by_cases h1 : xs.length > 16
  · rw [if_pos h1]; exact ⟨rfl, rfl, Or.inl (show 0 < xs.length by omega)⟩
  rw [if_neg h1] at h ⊢
  obtain ⟨x, u, k1, k2, k3⟩ := tabGo_bad xs 0 0 [] [] h
  rw [k1]
  exact ⟨rfl, rfl, Or.inl (show u < xs.length by omega)⟩

theorem find_nam : ∀ {L : List Sy} {x : Sy}, (names L).Nodup → x ∈ L → findN L x.name = some x.at_
  | y :: L, x, hn, hx => by
    unfold findN
    rw [List.find?_cons]
    have hn' : (y.name :: names L).Nodup := hn
    rw [List.nodup_cons] at hn'
    rcases List.mem_cons.1 hx with rfl | hx
    · simp
    · have hne : ¬ y.name = x.name := fun e => hn'.1 (by rw [e]; exact List.mem_map.2 ⟨x, hx, rfl⟩)
      rw [decide_eq_false hne]
      exact find_nam hn'.2 hx
theorem findN_none {L : List Sy} {s : ByteArray} (h : ∀ x ∈ L, ¬ x.name = s) : findN L s = none := by
  unfold findN
  rw [Option.map_eq_none_iff, List.find?_eq_none]
  intro x hx
  simp [h x hx]
theorem find_glo : ∀ {L : List Sy} {x : Sy}, (gloS L).Nodup → x ∈ L → x.g = true → findG L x.name = some x.at_
  | y :: L, x, hn, hx, hg => by
    unfold findG
    rw [List.find?_cons]
    have e1 : gloS (y :: L) = (if y.g = true then [y.name] else []) ++ gloS L := by
      unfold gloS
      rw [List.filter_cons]
      by_cases h : y.g = true
      · rw [if_pos h, if_pos h]; rfl
      · rw [if_neg h, if_neg h]; rfl
    rw [e1, List.nodup_append] at hn
    rcases List.mem_cons.1 hx with rfl | hx
    · simp [hg]
    · by_cases h : y.g = true
      · have hne : ¬ y.name = x.name := fun e => by
          rw [if_pos h] at hn
          refine hn.2.2 y.name (List.mem_singleton.2 rfl) x.name ?_ e
          unfold gloS
          exact List.mem_map.2 ⟨x, List.mem_filter.2 ⟨hx, hg⟩, rfl⟩
        rw [h, decide_eq_false hne]
        exact find_glo hn.2.1 hx hg
      · have h' : y.g = false := by simpa using h
        rw [h', Bool.false_and]
        exact find_glo hn.2.1 hx hg
theorem findG_app {A B : List Sy} {s : ByteArray} {a : Int} (h : findG A s = some a) : findG (A ++ B) s = some a := by
  unfold findG at h ⊢
  rw [List.find?_append]
  cases hf : A.find? (fun x => x.g && decide (x.name = s)) with
  | none => rw [hf] at h; cases h
  | some y => rw [hf] at h; simpa using h
theorem labs_mem : ∀ {xs : List Ob} {e i : Nat} (h : i < xs.length) {x : Sy}, x ∈ xs[i].sy → movS (nextS (endAt e xs i)) x ∈ labs e xs
  | o :: os, e, 0, _, x, hx => List.mem_append_left _ (List.mem_map.2 ⟨x, hx, by rw [endAt_zero]⟩)
  | o :: os, e, i + 1, h, x, hx => List.mem_append_right _ (labs_mem (xs := os) (i := i) (by simpa using h) hx)

/-- each label is found by its own unit -/
theorem res_own {xs : List Ob} (h : (tabL xs).e = 0) {i : Nat} (hi : i < xs.length) {x : Sy} (hx : x ∈ xs[i].sy) : resL xs i x.name = (((nextS (endAt 0 xs i) : Nat) : Int) + x.at_, 0) := by
  obtain ⟨-, ht, hk, -, -⟩ := tab_good h
  unfold resL
  rw [if_neg (by simpa using h), dif_pos ⟨Int.natCast_nonneg i, by exact_mod_cast hi⟩]
  have e1 : ((i : Int)).toNat = i := by simp
  simp only [e1]
  rw [find_nam (ok_nodup (hk _ (List.getElem_mem hi))) hx, ht]
  simp only
  rw [List.getD_eq_getElem?_getD, List.getElem?_eq_getElem (by rw [begs_len]; exact hi), Option.getD_some, begs_at xs 0 i hi]
/-- a global one by each unit that has none of its name -/
theorem res_glo {xs : List Ob} (h : (tabL xs).e = 0) {i k : Nat} (hi : i < xs.length) (hk : k < xs.length) {x : Sy} (hx : x ∈ xs[i].sy) (hg : x.g = true) (hn : ∀ y ∈ xs[k].sy, ¬ y.name = x.name) : resL xs k x.name = (((nextS (endAt 0 xs i) : Nat) : Int) + x.at_, 0) := by
  obtain ⟨-, ht, -, -, hnd⟩ := tab_good h
  unfold resL
  rw [if_neg (by simpa using h), dif_pos ⟨Int.natCast_nonneg k, by exact_mod_cast hk⟩]
  have e1 : ((k : Int)).toNat = k := by simp
  simp only [e1]
  rw [findN_none hn, ht]
  simp only
  have := find_glo hnd (labs_mem (e := 0) hi hx) hg
  rw [show x.name = (movS (nextS (endAt 0 xs i)) x).name from rfl, this]
  rfl

/-- what is put behind turns nothing ahead -/
theorem tabGo_ahead : ∀ (xs ys : List Ob) (i e : Nat) (ss : List Nat) (ts : List Sy), (tabGo i e ss ts (xs ++ ys)).e = 0 → (tabGo i e ss ts xs).e = 0
  | [], ys, i, e, ss, ts, _ => rfl
  | o :: os, ys, i, e, ss, ts, h => by
    rw [List.cons_append] at h
    unfold tabGo at h ⊢
    by_cases h1 : okO o = false
    · rw [if_pos h1] at h; cases h
    rw [if_neg h1] at h ⊢
    by_cases h2 : nextS e + o.bs.length > 65536
    · rw [if_pos h2] at h; cases h
    rw [if_neg h2] at h ⊢
    by_cases h3 : dupS (gloS ts) o.sy = true
    · rw [if_pos h3] at h; cases h
    rw [if_neg h3] at h ⊢
    exact tabGo_ahead os ys _ _ _ _ h
theorem tab_ahead {xs ys : List Ob} (h : (tabL (xs ++ ys)).e = 0) : (tabL xs).e = 0 := by
  have hl := (tab_good h).1
  rw [List.length_append] at hl
  unfold tabL at h ⊢
  rw [List.length_append, if_neg (by omega)] at h
  rw [if_neg (by omega)]
  exact tabGo_ahead xs ys _ _ _ _ h
theorem res_ahead {xs ys : List Ob} (h : (tabL (xs ++ ys)).e = 0) {u : Nat} (hu : u < xs.length) {s : ByteArray} (hr : (resL xs u s).2 = 0) : resL (xs ++ ys) u s = resL xs u s := by
  have h' := tab_ahead h
  obtain ⟨-, ht, -, -, -⟩ := tab_good h
  obtain ⟨-, ht', -, -, -⟩ := tab_good h'
  have e1 : ((u : Int)).toNat = u := by simp
  have hu2 : u < (xs ++ ys).length := by rw [List.length_append]; omega
  unfold resL at hr ⊢
  rw [if_neg (by simpa using h'), dif_pos ⟨Int.natCast_nonneg u, by exact_mod_cast hu⟩] at hr
  rw [if_neg (by simpa using h), dif_pos ⟨Int.natCast_nonneg u, by exact_mod_cast hu2⟩, if_neg (by simpa using h'), dif_pos ⟨Int.natCast_nonneg u, by exact_mod_cast hu⟩]
  simp only [e1, List.getElem_append_left hu] at hr ⊢
  rw [ht, ht'] at *
  cases hf : findN xs[u].sy s with
  | some a =>
    simp only
    rw [begs_app, List.getD_eq_getElem?_getD, List.getD_eq_getElem?_getD, List.getElem?_append_left (by rw [begs_len]; exact hu)]
  | none =>
    rw [hf] at hr
    simp only at hr ⊢
    cases hg : findG (labs 0 xs) s with
    | some a => rw [labs_app, findG_app hg]
    | none => rw [hg] at hr; exact absurd hr (by decide)

end Go.Proofs.Ytgblohjdiheemaa
