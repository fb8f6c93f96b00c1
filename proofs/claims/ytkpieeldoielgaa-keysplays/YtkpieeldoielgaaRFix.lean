/- object.rightFixes. -/
import Derived.Test.YtkpieeldoielgaaRSym
import Derived.Test.YtkpieeldoielgaaHolds
import Derived.Test.YtkpieeldoielgaaPut
import Derived.Deep.RegionLaw
import Derived.BigQuiet
import Derived.Deep.QuietTactic
namespace Go.Proofs.Ytkpieeldoielgaa
open Go.RowKit

abbrev zero4 : Array Value := #[.int .u8 0, .int .u8 0, .int .u8 0, .int .u8 0]
theorem run_make4 (W : World) : (Instr.makeSlice 26 (.int .i64 4) (.int .i64 4)).run Try.prog W = .ok (.slice (some ⟨W.heap.size, 0, none⟩) 4 4) (W.alloc (.cells #[.int .u8 0, .int .u8 0, .int .u8 0, .int .u8 0] 5)) := by kernel_rfl
theorem Own.new4 (W : World) : Own (W.alloc (.cells #[.int .u8 0, .int .u8 0, .int .u8 0, .int .u8 0] 5)) W.heap.size W.heap.size 4 [0, 0, 0, 0] :=
  Own.mk (Nat.le_refl _) (World.alloc_heap_new W _) (by decide) (by unfold maxLen; decide) rfl rfl
theorem byt_zero4 : Byt [0, 0, 0, 0] := fun i => by
  match i with
  | 0 => decide
  | 1 => decide
  | 2 => decide
  | 3 => decide
  | i + 4 => simp

set_option maxRecDepth 20000 in
set_option maxHeartbeats 2000000 in
theorem rightFixes_any (pb ps pf pm : Option Addr) (nb cb ns cs nf cf nm cm : Nat) (bs : List Int) (L : List Fx) (w : World) (hb : bs.length = nb) (hnc : nb ≤ cb) (hcb : cb ≤ 9223372036854775807) (hn : L.length = nf) (hn4 : nf ≤ 4096) (hnb : nb ≤ 65536) (hbt : Byt bs) (hL : ∀ s ∈ L, FxF s) (hr1 : Row w pb bs) (hx : Row3 w pf (L.map fxV)) :
    Calls Try.prog 69 #[.agg (obA pb ps pf pm nb cb ns cs nf cf nm cm)] w fun E w' => E = .returned (.bool (rfL bs 0 L)) ∧ Below w.heap.size w w' := by
  have hN := fun s W => name_any s W (nmB s) (nmB_iff s)
  have hH := fun (a : Int) q W ha ha2 k1 k2 => oholds_any pb q nb cb 4 4 a bs [0, 0, 0, 0] W hb rfl hnc hcb (by decide) ha ha2 k1 k2 hbt byt_zero4
  have HX := Hid.in hx
  have HN := Hid.in hn
  have HL := Hid.in hL
  have HRB := Hid.in hr1
  have HLB := Hid.in hb
  clear hx hn hL hr1 hb hbt
  obtain ⟨r, hr⟩ : ∃ r, rfL bs 0 L = r := ⟨_, rfl⟩
  rw [hr]
  have HR := Hid.in hr
  clear hr
  have hmk := run_make4
  go_enter Try.func69, Try.ntmps69
  go_upto_region 2 with fail
  have HK0 : Hid (Blk (w.alloc (.cells (obA pb ps pf pm nb cb ns cs nf cf nm cm) 105)) w.heap.size 105 (obA pb ps pf pm nb cb ns cs nf cf nm cm)) := Blk.new w 105 _
  have HB0 : Hid (Below w.heap.size w (w.alloc (.cells (obA pb ps pf pm nb cb ns cs nf cf nm cm) 105))) := new_alloc w _
  generalize w.alloc (.cells (obA pb ps pf pm nb cb ns cs nf cf nm cm) 105) = w0 at *
  have c2 : w0.cell? ⟨w.heap.size, 2, none⟩ = some (.slice pf nf cf) := HK0.out.cell 2
  go_wp2_with fail
  clear c2
  go_loopw [3, 9] (fun vl vi wr => ∃ (z : Int) (k : Nat), vl = .int .i64 z ∧ vi = .int .i64 k ∧ k ≤ nf ∧ rfL bs 0 L = rfL bs z (L.drop k) ∧ 0 ≤ z ∧ z ≤ 65540 ∧ Blk wr w.heap.size 105 (obA pb ps pf pm nb cb ns cs nf cf nm cm) ∧ Below w.heap.size w wr) (fun _ vi _ => nf - (intOf vi).toNat)
  case atStart => exact ⟨0, 0, rfl, rfl, Nat.zero_le _, rfl, by omega, by omega, HK0.out, HB0.out⟩
  case round =>
    obtain ⟨z, k, rfl, rfl, hk, hrs, hz0', hz1', hK, hB⟩ := hrel
    have HRS := Hid.in hrs
    have HK := Hid.in hK
    have HB := Hid.in hB
    clear hrs hK hB HK0 HB0
    by_cases hlt : k < nf
    · have hkl : k < L.length := by rw [HN.out]; exact hlt
      obtain ⟨b, o, rfl, hc⟩ := (HX.out.below HB.out) (by rw [List.length_map]; omega)
      obtain ⟨c0, c1, c2⟩ := cells3 hc k (by rw [List.length_map]; exact hkl)
      simp only [List.getElem_map, fxV] at c0 c1 c2
      clear hc
      obtain ⟨hsn, ⟨hsa0, hsa1⟩, hk0, hk1⟩ := HL.out L[k] (List.getElem_mem hkl)
      have HST := Hid.in (rf_step bs L k hkl z)
      generalize L[k] = f at *
      obtain ⟨fk, fa, fs⟩ := f
      simp only at c0 c1 c2 hsn hsa0 hsa1 hk0 hk1
      have hBB : Hid (Below w.heap.size w (wr.alloc (.cells #[.int .u8 fk, .int .i64 fa, .string fs] 123))) := below_alloc HB.out _
      have HK1 : Hid (Blk (wr.alloc (.cells #[.int .u8 fk, .int .i64 fa, .string fs] 123)) w.heap.size 105 _) := HK.out.grow (new_alloc wr _)
      have HS1 : Hid (Blk (wr.alloc (.cells #[.int .u8 fk, .int .i64 fa, .string fs] 123)) wr.heap.size 123 #[.int .u8 fk, .int .i64 fa, .string fs]) := Blk.new wr 123 _
      by_cases hkd : fk = 1 ∨ fk = 2
      · cases hnm : nmB fs with
        | false =>
          obtain rfl | rfl := hkd
          all_goals
            go_wp2_with (go_at_call 76; refine (hN _ _).mono ?_; rw [hnm]; rintro E w2 ⟨rfl, hb2⟩; have HB2 := Hid.in (below_step hBB.out hb2); clear hb2)
            go_ret
            exact ⟨ret_bool (by rw [← HR.out, HRS.out, HST.out]; simp [fixB, hnm]), HB2.out⟩
        | true =>
          by_cases hlow : fa < z
          · obtain rfl | rfl := hkd
            all_goals
              go_upto_region 7 with (go_at_call 76; refine (hN _ _).mono ?_; rw [hnm]; rintro E w2 ⟨rfl, hb2⟩; have HB2 := Hid.in (below_step hBB.out hb2); have s1 : w2.cell? ⟨wr.heap.size, 1, none⟩ = some (.int .i64 fa) := (HS1.out.grow hb2).cell 1; clear hb2)
              go_quiet (fail)
              go_wp2_with fail
              go_ret
              exact ⟨ret_bool (by rw [← HR.out, HRS.out, HST.out]; simp [fixB, show ¬ z ≤ fa by omega]), below_draws HB2.out nq⟩
          · obtain ⟨st, hst⟩ : ∃ st, stB bs fa [0, 0, 0, 0] = st := ⟨_, rfl⟩
            have HFB : Hid (fixB bs z ⟨fk, fa, fs⟩ = st) := by
              have : fixB bs z ⟨fk, fa, fs⟩ = st := by simp [fixB, hnm, hst, hkd, show z ≤ fa by omega]
              exact this
            have HTOP : Hid (st = true → fa ≤ 65536) := fun e => by
              rw [e] at hst
              unfold stB at hst
              have h4 := (of_decide_eq_true hst).2.1
              have hl4 : ([0, 0, 0, 0] : List Int).length = 4 := rfl
              have := HLB.out
              omega
            obtain rfl | rfl := hkd
            all_goals
              go_upto_region 7 with (go_at_call 76; refine (hN _ _).mono ?_; rw [hnm]; rintro E w2 ⟨rfl, hb2⟩; have HB2 := Hid.in (below_step hBB.out hb2); have HK2 := Hid.in (HK1.out.grow hb2); have HS2 := Hid.in (HS1.out.grow hb2); have s1 : w2.cell? ⟨wr.heap.size, 1, none⟩ = some (.int .i64 fa) := (HS1.out.grow hb2).cell 1; have o0 : w2.cell? ⟨w.heap.size, 0, none⟩ = some (.slice pb nb cb) := (HK1.out.grow hb2).cell 0; clear hb2)
              have hd : decide (fa < z) = false := decide_eq_false (by omega)
              have s1d : (w2.alloc (.cells zero4 5)).cell? ⟨wr.heap.size, 1, none⟩ = some (.int .i64 fa) := (HS2.out.grow (new_alloc w2 _)).cell 1
              have o0d : (w2.alloc (.cells zero4 5)).cell? ⟨w.heap.size, 0, none⟩ = some (.slice pb nb cb) := (HK2.out.grow (new_alloc w2 _)).cell 0
              have HO3 : Hid (Own ((w2.alloc (.cells zero4 5)).drew) w2.heap.size w2.heap.size 4 [0, 0, 0, 0]) := (Own.new4 w2).drewN 1
              have HB3 : Hid (Below w.heap.size w ((w2.alloc (.cells zero4 5)).drew)) := below_draws (below_alloc HB2.out _) 1
              have HK3 : Hid (Blk ((w2.alloc (.cells zero4 5)).drew) w.heap.size 105 _) := (HK2.out.grow (new_alloc w2 _)).grow (below_draws (below_self _) 1)
              go_region_law (go_simp; go_at_call 77; refine (hH fa _ _ (by omega) hsa1 (HRB.out.below HB3.out) HO3.out.row).mono ?_; rw [hst]; rintro E w4 ⟨rfl, rfl⟩)
              all_goals
                clear hH hN hmk
                cases st with
                | false =>
                  go_wp2_with fail
                  go_ret
                  exact ⟨ret_bool (by rw [← HR.out, HRS.out, HST.out, HFB.out]; rfl), HB3.out⟩
                | true =>
                  have htop := HTOP.out rfl
                  go_wp2_with fail
                  go_roundw
                  case rel => exact ⟨fa + 4, k + 1, by go_num, by go_num, by omega, by rw [HRS.out, HST.out, HFB.out, Bool.true_and], by omega, by omega, HK3.out, HB3.out⟩
                  case measure => simp [intOf]; omega
      · go_wp2_with (first
          | (refine step_store_new rfl 123 (.tmp 5) (.tmp 12) rfl rfl rfl #[.int .u8 fk, .int .i64 fa, .string fs] rfl Try.sz123 rfl rfl ?_))
        go_ret
        exact ⟨ret_bool (by rw [← HR.out, HRS.out, HST.out]; simp [fixB, hkd]), hBB.out⟩
    · have hkn : k = nf := by omega
      subst hkn
      go_wp2_with fail
      go_ret
      exact ⟨ret_bool (by rw [← HR.out, HRS.out, List.drop_eq_nil_of_le (by rw [HN.out]; exact Nat.le_refl _)]; rfl), HB.out⟩

end Go.Proofs.Ytkpieeldoielgaa
