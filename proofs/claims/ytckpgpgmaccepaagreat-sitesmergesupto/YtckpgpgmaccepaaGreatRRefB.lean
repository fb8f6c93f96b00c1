/- switchyardref06.Right, for every object. -/
import Derived.Test.YtckpgpgmaccepaaGreatRRefA
import Derived.Test.YtckpgpgmaccepaaGreatLit
import Derived.Test.YtckpgpgmaccepaaGreatQThen
import Derived.Test.YtckpgpgmaccepaaGreatKit3
import Derived.BigQuiet
import Derived.Great.BuildSlice
import Derived.Deep.QuietTactic
namespace Go.Proofs.YtckpgpgmaccepaaGreat
open Go.RowKit

set_option maxRecDepth 20000 in
set_option maxHeartbeats 40000000 in
theorem refORight_any (o : Ob) (pb ps pf pm : Option Addr) (nb cb ns cs nf cf nm cm : Nat) (w : World) (h : ObIn w o pb ps pf pm nb cb ns cs nf cf nm cm) :
    Calls Tryz.prog 67 #[.agg (obA pb ps pf pm nb cb ns cs nf cf nm cm)] w fun E w' => E = .returned (.bool (okO o)) ∧ Below w.heap.size w w' := by
  have hcb := len63 h.mb
  have hns := len63 h.ks
  have hnf := len63 h.kf
  have hnm := len63 h.km
  have hkb := h.kb
  obtain ⟨bs, L, F, M⟩ := o
  have HNB : Hid (bs.length = nb) := h.lb
  have HN1 : Hid (L.length = ns) := h.ls
  have HN2 : Hid (F.length = nf) := h.lf
  have HN3 : Hid (M.length = nm) := h.lm
  have HXB : Hid (Row w pb bs) := h.rb
  have HX1 : Hid (Row3 w ps (L.map syV)) := h.rs
  have HX2 : Hid (Row3 w pf (F.map fxV)) := h.rf
  have HX3 : Hid (Row3 w pm (M.map mkV)) := h.rm
  have HF1 : Hid (∀ s ∈ L, SyF s) := h.fit.sy
  have HF2 : Hid (∀ s ∈ F, FxF s) := h.fit.fx
  have HF3 : Hid (∀ s ∈ M, MkF s) := h.fit.mk_
  have HE : okO ⟨bs, L, F, M⟩ = (decide (nb ≤ 65536 ∧ ns ≤ 4096 ∧ nf ≤ 4096 ∧ nm ≤ 4096) && rsL nb 0 [] L && rfL bs 0 F && rmL bs F 0 M) := by
    unfold okO
    rw [h.lb, h.ls, h.lf, h.lm]
  clear h
  have HK0 : Hid (Blk (w.alloc (.cells (obA pb ps pf pm nb cb ns cs nf cf nm cm) 56)) w.heap.size 56 (obA pb ps pf pm nb cb ns cs nf cf nm cm)) := Blk.new w 56 _
  have HB0 : Hid (Below w.heap.size w (w.alloc (.cells (obA pb ps pf pm nb cb ns cs nf cf nm cm) 56))) := new_alloc w _
  obtain ⟨r, hr⟩ : ∃ r, okO ⟨bs, L, F, M⟩ = r := ⟨_, rfl⟩
  rw [hr] at HE ⊢
  clear hr
  by_cases hs : nb ≤ 65536 ∧ ns ≤ 4096 ∧ nf ≤ 4096 ∧ nm ≤ 4096
  · have G1 : Hid (rsL nb 0 [] L = false → false = r) := fun e => by rw [HE, e]; simp
    have G2 : Hid (rfL bs 0 F = false → false = r) := fun e => by rw [HE, e]; simp
    have G3 : Hid (rmL bs F 0 M = false → false = r) := fun e => by rw [HE, e]; simp
    have G4 : Hid (rsL nb 0 [] L = true → rfL bs 0 F = true → rmL bs F 0 M = true → true = r) := fun e1 e2 e3 => by rw [HE, e1, e2, e3, decide_eq_true hs]; rfl
    obtain ⟨h1, h2, h3, h4⟩ := hs
    clear HE
    have hNy := fun s W h h' => refName_yes s W h h'
    have hNn := fun s W h h' => refName_no s W h h'
    go_enter Tryz.func67, Tryz.ntmps67
    go_upto_region 1 with fail
    generalize w.alloc (.cells (obA pb ps pf pm nb cb ns cs nf cf nm cm) 56) = w0 at *
    have o0 : w0.cell? ⟨w.heap.size, 0, none⟩ = some (.slice pb nb cb) := HK0.out.cell 0
    have o1 : w0.cell? ⟨w.heap.size, 1, none⟩ = some (.slice ps ns cs) := HK0.out.cell 1
    have o2 : w0.cell? ⟨w.heap.size, 2, none⟩ = some (.slice pf nf cf) := HK0.out.cell 2
    have o3 : w0.cell? ⟨w.heap.size, 3, none⟩ = some (.slice pm nm cm) := HK0.out.cell 3
    go_wp2_with fail
    clear o0 o1 o2 o3
    go_loopw [4] (fun vi wr => ∃ k : Nat, vi = .int .i64 k ∧ k ≤ ns ∧ rsL nb 0 [] L = rsL nb (prevS L k) (names (L.take k)) (L.drop k) ∧ 0 ≤ prevS L k ∧ Blk wr w.heap.size 56 (obA pb ps pf pm nb cb ns cs nf cf nm cm) ∧ Below w.heap.size w wr) (fun vi _ => ns - (intOf vi).toNat)
    case atStart => exact ⟨0, rfl, Nat.zero_le _, rfl, Int.le_refl _, HK0.out, HB0.out⟩
    case round =>
      obtain ⟨k, rfl, hk, hrs, hz, hK, hB⟩ := hrel
      have HZ := Hid.in hz
      clear hz
      have HRS := Hid.in hrs
      have HK := Hid.in hK
      have HB := Hid.in hB
      clear hrs hK hB HK0 HB0
      have o1 : wr.cell? ⟨w.heap.size, 1, none⟩ = some (.slice ps ns cs) := HK.out.cell 1
      by_cases hlt : k < ns
      · as_aux_lemma =>
          have hkl : k < L.length := by rw [HN1.out]; exact hlt
          obtain ⟨b, o, rfl, hc⟩ := (HX1.out.below HB.out) (by rw [List.length_map]; omega)
          obtain ⟨c0, c1, c2⟩ := cells3 hc k (by rw [List.length_map]; exact hkl)
          simp only [List.getElem_map, syV] at c0 c1 c2
          obtain ⟨hsn0, hsa0, hsa1⟩ := HF1.out L[k] (List.getElem_mem hkl)
          have hsn := len63 hsn0
          clear hsn0
          have HST := Hid.in (rs_step nb L k hkl (prevS L k) (names (L.take k)))
          have HNT := Hid.in (names_take L k hkl)
          have HPV : Hid (prevS L (k + 1) = L[k].at_) := prevS_succ hkl
          have HSN := Hid.in (fun q (hq : q < k) (e : L[q].name = L[k].name) => (inB_iff L[k].name (names (L.take k))).2 (by rw [← e]; exact names_get L k q hq (by omega)))
          have HCN : Hid (∀ q (hq : q < k), wr.cell? ⟨b, o + q * 3, none⟩ = some (.string L[q].name)) := fun q hq => by
            obtain ⟨d0, d1, d2⟩ := cells3 hc q (by rw [List.length_map]; omega)
            simp only [List.getElem_map, syV] at d0
            exact d0
          have HCA : Hid (∀ q (hq : q < k), wr.cell? ⟨b, o + q * 3 + 1, none⟩ = some (.int .i64 L[q].at_)) := fun q hq => by
            obtain ⟨d0, d1, d2⟩ := cells3 hc q (by rw [List.length_map]; omega)
            simp only [List.getElem_map, syV] at d1
            exact d1
          clear hc
          have HPK : Hid (∀ j (hj : k = j + 1), prevS L k = (L[j]'(by omega)).at_ ∧ i64P (L[j]'(by omega)).at_) := fun j hj => by
            subst hj
            exact ⟨prevS_succ (by omega), (HF1.out L[j] (List.getElem_mem (by omega))).2⟩
          have HP0 : Hid (k = 0 → prevS L k = 0) := fun e => by subst e; rfl
          have HP9 : Hid (0 ≤ prevS L k) := HZ.out
          generalize hSE : L[k] = s at *
          have HSE := Hid.in hSE
          clear hSE
          obtain ⟨sn, sa, sg⟩ := s
          simp only at c0 c1 c2 hsn hsa0 hsa1
          go_upto_region 8 with fail
          have HB1 : Hid (Below w.heap.size w (wr.alloc (.cells #[.string sn, .int .i64 sa, .bool sg] 67))) := below_alloc HB.out _
          have HC1 : Hid (Below wr.heap.size wr (wr.alloc (.cells #[.string sn, .int .i64 sa, .bool sg] 67))) := new_alloc wr _
          have HK1 : Hid (Blk (wr.alloc (.cells #[.string sn, .int .i64 sa, .bool sg] 67)) w.heap.size 56 (obA pb (some ⟨b, o, none⟩) pf pm nb cb ns cs nf cf nm cm)) := HK.out.grow (new_alloc wr _)
          have HS1 : Hid (Blk (wr.alloc (.cells #[.string sn, .int .i64 sa, .bool sg] 67)) wr.heap.size 67 #[.string sn, .int .i64 sa, .bool sg]) := Blk.new wr 67 _
          generalize wr.alloc (.cells #[.string sn, .int .i64 sa, .bool sg] 67) = w1 at *
          have HCN1 : Hid (∀ q (hq : q < k), w1.cell? ⟨b, o + q * 3, none⟩ = some (.string (L[q]'(by omega)).name)) := fun q hq => (HC1.out.cell (cell_lt (HCN.out q hq))).trans (HCN.out q hq)
          have HCA1 : Hid (∀ q (hq : q < k), w1.cell? ⟨b, o + q * 3 + 1, none⟩ = some (.int .i64 (L[q]'(by omega)).at_)) := fun q hq => (HC1.out.cell (cell_lt (HCA.out q hq))).trans (HCA.out q hq)
          generalize hgs : wr.heap.size = gs at *
          clear hgs
          clear c0 c1 c2 o1
          have s0 : w1.cell? ⟨gs, 0, none⟩ = some (.string sn) := HS1.out.cell 0
          have s1 : w1.cell? ⟨gs, 1, none⟩ = some (.int .i64 sa) := HS1.out.cell 1
          have o1 : w1.cell? ⟨w.heap.size, 1, none⟩ = some (.slice (some ⟨b, o, none⟩) ns cs) := HK1.out.cell 1
          clear HCN HCA HC1 HK HB
          cases hnm : nmB sn with
          | false =>
            have hq := nm_no hnm
            go_quiet ((go_at_call 92; exact Calls.quiet_of_same (hNn sn _ hsn hq)))
            go_wp2_with fail
            go_ret
            exact ⟨ret_bool (G1.out (by rw [HRS.out, HST.out]; exact and_no (by simp [symB, hnm]))), below_draws HB1.out nq⟩
          | true =>
            have hq := nm_yes hnm
            by_cases hlo : sa < 0
            · go_quiet ((go_at_call 92; exact Calls.quiet_of_same (hNy sn _ hsn hq)))
              go_wp2_with fail
              go_ret
              exact ⟨ret_bool (G1.out (by rw [HRS.out, HST.out]; exact and_no (by have hp0 : 0 ≤ prevS L k := HP9.out; simp [symB, show ¬ prevS L k ≤ sa by omega]))), below_draws HB1.out nq⟩
            · by_cases hhi : (nb : Int) < sa
              · go_quiet ((go_at_call 92; exact Calls.quiet_of_same (hNy sn _ hsn hq)))
                go_wp2_with fail
                go_ret
                exact ⟨ret_bool (G1.out (by rw [HRS.out, HST.out]; exact and_no (by simp [symB, show ¬ sa ≤ nb by omega]))), below_draws HB1.out nq⟩
              · by_cases hpv : sa < prevS L k
                · obtain ⟨j, rfl⟩ : ∃ j, k = j + 1 := by
                    cases k with
                    | zero => exact absurd hpv (by rw [HP0.out rfl]; exact hlo)
                    | succ j => exact ⟨j, rfl⟩
                  obtain ⟨e1, e2, e3⟩ := HPK.out j rfl
                  have cj := HCA1.out j (by omega)
                  have hlj : sa < (L[j]'(by omega)).at_ := by rw [← e1]; exact hpv
                  generalize (L[j]'(by omega)).at_ = za at *
                  clear e1
                  go_quiet ((go_at_call 92; exact Calls.quiet_of_same (hNy sn _ hsn hq)))
                  go_wp2_with fail
                  go_ret
                  exact ⟨ret_bool (G1.out (by rw [HRS.out, HST.out]; exact and_no (by simp [symB, show ¬ prevS L (j + 1) ≤ sa by omega]))), below_draws HB1.out nq⟩
                · have HSY : Hid (symB nb (prevS L k) (names (L.take k)) ⟨sn, sa, sg⟩ = !inB sn (names (L.take k))) := by
                    show symB nb (prevS L k) (names (L.take k)) ⟨sn, sa, sg⟩ = !inB sn (names (L.take k))
                    simp [symB, hnm, show prevS L k ≤ sa by omega, show sa ≤ nb by omega]
                  rcases Nat.eq_zero_or_pos k with hk0 | hk0
                  · subst hk0
                    go_quiet ((go_at_call 92; exact Calls.quiet_of_same (hNy sn _ hsn hq)))
                    clear hNy hNn
                    go_wp2_with fail
                    have HBq := Hid.in (below_draws HB1.out nq)
                    have HKq := Hid.in (HK1.out.grow (below_draws (below_self w1) nq))
                    go_loopw [6] (fun vq wr => ∃ q z : Nat, vq = .int .i64 q ∧ q ≤ 0 ∧ inB sn (names (L.take q)) = false ∧ wr = w1.drewN z) (fun vq _ => 0 - (intOf vq).toNat)
                    case atStart => exact ⟨0, nq, rfl, Nat.zero_le _, inB_zero sn L, rfl⟩
                    case round =>
                      obtain ⟨q, z, rfl, hqk, hin, rfl⟩ := hrel
                      have HIN := Hid.in hin
                      clear hin
                      obtain rfl : q = 0 := by omega
                      have HNEXT : Hid (rsL nb 0 [] L = rsL nb (prevS L (0 + 1)) (names (L.take (0 + 1))) (L.drop (0 + 1)) ∧ 0 ≤ prevS L (0 + 1)) := by
                        refine ⟨?_, ?_⟩
                        · rw [HRS.out, HST.out, HNT.out, HPV.out]
                          exact and_yes (by rw [HSY.out, HIN.out]; rfl)
                        · rw [HPV.out]; show 0 ≤ sa; omega
                      go_wp2_with fail
                      go_roundw
                      case rel => exact ⟨0 + 1, by go_num, by omega, HNEXT.out.1, HNEXT.out.2, HK1.out.grow (below_draws (below_self w1) z), below_draws HB1.out z⟩
                      case measure => simp [intOf]; omega
                  · obtain ⟨j, rfl⟩ : ∃ j, k = j + 1 := ⟨k - 1, by omega⟩
                    obtain ⟨e1, e2, e3⟩ := HPK.out j rfl
                    have cj := HCA1.out j (by omega)
                    have hlj : ¬ sa < (L[j]'(by omega)).at_ := by rw [← e1]; exact hpv
                    generalize (L[j]'(by omega)).at_ = za at *
                    clear e1
                    go_quiet ((go_at_call 92; exact Calls.quiet_of_same (hNy sn _ hsn hq)))
                    clear hNy hNn
                    go_wp2_with fail
                    have HBq := Hid.in (below_draws HB1.out nq)
                    have HKq := Hid.in (HK1.out.grow (below_draws (below_self w1) nq))
                    go_loopw [6] (fun vq wr => ∃ q z : Nat, vq = .int .i64 q ∧ q ≤ (j + 1) ∧ inB sn (names (L.take q)) = false ∧ wr = w1.drewN z) (fun vq _ => (j + 1) - (intOf vq).toNat)
                    case atStart => exact ⟨0, nq, rfl, Nat.zero_le _, inB_zero sn L, rfl⟩
                    case round =>
                      obtain ⟨q, z, rfl, hqk, hin, rfl⟩ := hrel
                      have HIN := Hid.in hin
                      clear hin
                      by_cases hql : q < (j + 1)
                      · have n0 := HCN1.out q hql
                        have HNX : Hid ((L[q]'(by omega)).name ≠ sn → inB sn (names (L.take (q + 1))) = false) := fun e => names_snoc sn L q (by omega) HIN.out e
                        have HNY := Hid.in (HSN.out q hql)
                        generalize (L[q]'(by omega)).name = nq0 at *
                        by_cases he : nq0 = sn
                        · subst he
                          go_upto_region 13 with fail
                          go_quiet (fail)
                          go_wp2_with fail
                          go_ret
                          exact ⟨ret_bool (G1.out (by rw [HRS.out, HST.out]; exact and_no (by rw [HSY.out, HNY.out (by trivial)]; rfl))), below_draws HB1.out _⟩
                        · have hsl := text_ne3 he
                          have hsb : (nq0.toList == sn.toList) = false := by simpa using hsl
                          have hsd : decide (nq0.toList = sn.toList) = false := decide_eq_false hsl
                          go_upto_region 13 with fail
                          go_quiet (fail)
                          go_wp2_with fail
                          go_roundw
                          case rel => exact ⟨q + 1, z + nq, by go_num, by omega, HNX.out he, by simp⟩
                          case measure => simp [intOf]; omega
                      · have hqe : q = (j + 1) := by omega
                        subst hqe
                        have HNEXT : Hid (rsL nb 0 [] L = rsL nb (prevS L ((j + 1) + 1)) (names (L.take ((j + 1) + 1))) (L.drop ((j + 1) + 1)) ∧ 0 ≤ prevS L ((j + 1) + 1)) := by
                          refine ⟨?_, ?_⟩
                          · rw [HRS.out, HST.out, HNT.out, HPV.out]
                            exact and_yes (by rw [HSY.out, HIN.out]; rfl)
                          · rw [HPV.out]; show 0 ≤ sa; omega
                        go_wp2_with fail
                        go_roundw
                        case rel => exact ⟨(j + 1) + 1, by go_num, by omega, HNEXT.out.1, HNEXT.out.2, HK1.out.grow (below_draws (below_self w1) z), below_draws HB1.out z⟩
                        case measure => simp [intOf]; omega
      · have HR1 : Hid (rsL nb 0 [] L = true) := by
          have := HRS.out
          rw [List.drop_eq_nil_of_le (by rw [HN1.out]; omega)] at this
          exact this
        clear HRS
        go_wp2_with fail
        clear o1
        go_loopw [7] (fun vi wr => ∃ k : Nat, vi = .int .i64 k ∧ k ≤ nf ∧ rfL bs 0 F = rfL bs (prevF F k) (F.drop k) ∧ 0 ≤ prevF F k ∧ Blk wr w.heap.size 56 (obA pb ps pf pm nb cb ns cs nf cf nm cm) ∧ Below w.heap.size w wr) (fun vi _ => nf - (intOf vi).toNat)
        case atStart => exact ⟨0, rfl, Nat.zero_le _, rfl, Int.le_refl _, HK.out, HB.out⟩
        case round =>
          clear HK HB HZ
          obtain ⟨k, rfl, hk, hrs, hz, hK, hB⟩ := hrel
          have HZ := Hid.in hz
          have HRS := Hid.in hrs
          have HK := Hid.in hK
          have HB := Hid.in hB
          clear hrs hK hB hz
          have o2 : wr.cell? ⟨w.heap.size, 2, none⟩ = some (.slice pf nf cf) := HK.out.cell 2
          by_cases hlt : k < nf
          · as_aux_lemma =>
              have hkl : k < F.length := by rw [HN2.out]; exact hlt
              obtain ⟨b, o, rfl, hc⟩ := (HX2.out.below HB.out) (by rw [List.length_map]; omega)
              obtain ⟨c0, c1, c2⟩ := cells3 hc k (by rw [List.length_map]; exact hkl)
              simp only [List.getElem_map, fxV] at c0 c1 c2
              obtain ⟨hsn0, ⟨hsa0, hsa1⟩, hfk0, hfk1⟩ := HF2.out F[k] (List.getElem_mem hkl)
              have hsn := len63 hsn0
              clear hsn0
              have HST := Hid.in (rf_step bs F k hkl (prevF F k))
              have HPV : Hid (prevF F (k + 1) = F[k].at_ + 4) := prevF_succ hkl
              have HCA : Hid (∀ q (hq : q < k), wr.cell? ⟨b, o + q * 3 + 1, none⟩ = some (.int .i64 F[q].at_)) := fun q hq => by
                obtain ⟨d0, d1, d2⟩ := cells3 hc q (by rw [List.length_map]; omega)
                simp only [List.getElem_map, fxV] at d1
                exact d1
              clear hc
              have HPK : Hid (∀ j (hj : k = j + 1), prevF F k = (F[j]'(by omega)).at_ + 4 ∧ i64P (F[j]'(by omega)).at_) := fun j hj => by
                subst hj
                exact ⟨prevF_succ (by omega), (HF2.out F[j] (List.getElem_mem (by omega))).2.1⟩
              have HP0 : Hid (k = 0 → prevF F k = 0) := fun e => by subst e; rfl
              generalize F[k] = f at *
              obtain ⟨fk, fa, fn⟩ := f
              simp only at c0 c1 c2 hsn hsa0 hsa1 hfk0 hfk1
              go_upto_region 19 with fail
              have HB1 : Hid (Below w.heap.size w (wr.alloc (.cells #[.int .u8 fk, .int .i64 fa, .string fn] 116))) := below_alloc HB.out _
              have HC1 : Hid (Below wr.heap.size wr (wr.alloc (.cells #[.int .u8 fk, .int .i64 fa, .string fn] 116))) := new_alloc wr _
              have HK1 : Hid (Blk (wr.alloc (.cells #[.int .u8 fk, .int .i64 fa, .string fn] 116)) w.heap.size 56 (obA pb ps (some ⟨b, o, none⟩) pm nb cb ns cs nf cf nm cm)) := HK.out.grow (new_alloc wr _)
              have HS1 : Hid (Blk (wr.alloc (.cells #[.int .u8 fk, .int .i64 fa, .string fn] 116)) wr.heap.size 116 #[.int .u8 fk, .int .i64 fa, .string fn]) := Blk.new wr 116 _
              generalize wr.alloc (.cells #[.int .u8 fk, .int .i64 fa, .string fn] 116) = w1 at *
              have HCA1 : Hid (∀ q (hq : q < k), w1.cell? ⟨b, o + q * 3 + 1, none⟩ = some (.int .i64 (F[q]'(by omega)).at_)) := fun q hq => (HC1.out.cell (cell_lt (HCA.out q hq))).trans (HCA.out q hq)
              generalize hgs : wr.heap.size = gs at *
              clear hgs
              clear c0 c1 c2 o2
              have s0 : w1.cell? ⟨gs, 0, none⟩ = some (.int .u8 fk) := HS1.out.cell 0
              have s1 : w1.cell? ⟨gs, 1, none⟩ = some (.int .i64 fa) := HS1.out.cell 1
              have s2 : w1.cell? ⟨gs, 2, none⟩ = some (.string fn) := HS1.out.cell 2
              have o0 : w1.cell? ⟨w.heap.size, 0, none⟩ = some (.slice pb nb cb) := HK1.out.cell 0
              have o2 : w1.cell? ⟨w.heap.size, 2, none⟩ = some (.slice (some ⟨b, o, none⟩) nf cf) := HK1.out.cell 2
              clear HCA HC1 HK HB
              by_cases hki : fk = 1 ∨ fk = 2
              · have HKI : Hid (fk = 1 ∨ fk = 2) := hki
                cases hnm : nmB fn with
                | false =>
                  have hq := nm_no hnm
                  have HN : Hid (fixB bs (prevF F k) ⟨fk, fa, fn⟩ = false) := by
                    show fixB bs (prevF F k) ⟨fk, fa, fn⟩ = false
                    simp [fixB, hnm]
                  rcases hki with rfl | rfl
                  all_goals
                    go_quiet ((go_at_call 92; exact Calls.quiet_of_same (hNn fn _ hsn hq)))
                    go_wp2_with fail
                    go_ret
                    exact ⟨ret_bool (G2.out (by rw [HRS.out, HST.out]; exact and_no HN.out)), below_draws HB1.out nq⟩
                | true =>
                  have hq := nm_yes hnm
                  by_cases hlo : fa < 0
                  · have HN : Hid (fixB bs (prevF F k) ⟨fk, fa, fn⟩ = false) := by
                      show fixB bs (prevF F k) ⟨fk, fa, fn⟩ = false
                      simp [fixB, st_no (bs := bs) (part := [0, 0, 0, 0]) (.inl hlo)]
                    rcases hki with rfl | rfl
                    all_goals
                      go_quiet ((go_at_call 92; exact Calls.quiet_of_same (hNy fn _ hsn hq)))
                      go_wp2_with fail
                      go_ret
                      exact ⟨ret_bool (G2.out (by rw [HRS.out, HST.out]; exact and_no HN.out)), below_draws HB1.out nq⟩
                  · by_cases hhi : (nb : Int) - 4 < fa
                    · have HN : Hid (fixB bs (prevF F k) ⟨fk, fa, fn⟩ = false) := by
                        show fixB bs (prevF F k) ⟨fk, fa, fn⟩ = false
                        have e4 : ([0, 0, 0, 0] : List Int).length = 4 := rfl
                        simp [fixB, st_no (bs := bs) (a := fa) (part := [0, 0, 0, 0]) (.inr (by rw [HNB.out, e4]; omega))]
                      rcases hki with rfl | rfl
                      all_goals
                        go_quiet ((go_at_call 92; exact Calls.quiet_of_same (hNy fn _ hsn hq)))
                        go_wp2_with fail
                        go_ret
                        exact ⟨ret_bool (G2.out (by rw [HRS.out, HST.out]; exact and_no HN.out)), below_draws HB1.out nq⟩
                    · by_cases hpv : fa < prevF F k
                      · obtain ⟨j, rfl⟩ : ∃ j, k = j + 1 := by
                          cases k with
                          | zero => exact absurd hpv (by rw [HP0.out rfl]; exact hlo)
                          | succ j => exact ⟨j, rfl⟩
                        have HN : Hid (fixB bs (prevF F (j + 1)) ⟨fk, fa, fn⟩ = false) := by
                          show fixB bs (prevF F (j + 1)) ⟨fk, fa, fn⟩ = false
                          simp [fixB, show ¬ prevF F (j + 1) ≤ fa by omega]
                        obtain ⟨e1, e2, e3⟩ := HPK.out j rfl
                        have cj := HCA1.out j (by omega)
                        have hlj : fa - 4 < (F[j]'(by omega)).at_ := by rw [e1] at hpv; omega
                        generalize (F[j]'(by omega)).at_ = za at *
                        clear e1
                        rcases hki with rfl | rfl
                        all_goals
                          go_quiet ((go_at_call 92; exact Calls.quiet_of_same (hNy fn _ hsn hq)))
                          go_wp2_with fail
                          go_ret
                          exact ⟨ret_bool (G2.out (by rw [HRS.out, HST.out]; exact and_no HN.out)), below_draws HB1.out nq⟩
                      · obtain ⟨a, rfl⟩ : ∃ a : Nat, fa = a := ⟨fa.toNat, by omega⟩
                        have HFX : Hid (fixB bs (prevF F k) ⟨fk, a, fn⟩ = sameB ((bs.drop a).take 4) [0, 0, 0, 0]) := by
                          show fixB bs (prevF F k) ⟨fk, a, fn⟩ = sameB ((bs.drop a).take 4) [0, 0, 0, 0]
                          have e4 : ([0, 0, 0, 0] : List Int).length = 4 := rfl
                          have h4 := st_bytes bs [0, 0, 0, 0] a (by rw [HNB.out, e4]; omega)
                          rw [e4] at h4
                          have hd : decide (fk = 1 ∨ fk = 2) = true := decide_eq_true HKI.out
                          simp only [fixB, hnm, hd, h4, show prevF F k ≤ a by omega, decide_true, Bool.and_true, Bool.true_and]
                        obtain ⟨bb, ob, hpb, -⟩ := HXB.out (by rw [HNB.out]; omega)
                        subst hpb
                        have HRB := Hid.in (((HXB.out.below HB1.out).dropAt a).take 4)
                        have hS4 := fun q d W k1 k2 => sameBytes_any (some ⟨bb, ob + a, none⟩) q 4 (cb - a) 4 d ((bs.drop a).take 4) [0, 0, 0, 0] W (by rw [List.length_take, List.length_drop, HNB.out]; omega) rfl (by decide) k1 k2
                        have HNX : Hid (sameB ((bs.drop a).take 4) [0, 0, 0, 0] = true → rfL bs 0 F = rfL bs (prevF F (k + 1)) (F.drop (k + 1)) ∧ 0 ≤ prevF F (k + 1)) := fun e => by
                          refine ⟨?_, ?_⟩
                          · rw [HRS.out, HST.out, HPV.out]
                            exact and_yes (by rw [HFX.out, e])
                          · rw [HPV.out]; show 0 ≤ (a : Int) + 4; omega
                        have HNO : Hid (sameB ((bs.drop a).take 4) [0, 0, 0, 0] = false → rfL bs 0 F = false) := fun e => by
                          rw [HRS.out, HST.out]; exact and_no (by rw [HFX.out, e])
                        generalize sameB ((bs.drop a).take 4) [0, 0, 0, 0] = sb at *
                        rcases Nat.eq_zero_or_pos k with hk0 | hk0
                        · subst hk0
                          rcases hki with rfl | rfl
                          all_goals
                            go_quiet ((go_at_call 92; exact Calls.quiet_of_same (hNy fn _ hsn hq)))
                            clear hNy hNn
                            cases sb with
                            | false =>
                              go_wp2_with (go_at_call 70; refine (hS4 _ _ _ (HRB.out.below (below_alloc (below_draws (below_self w1) nq) _)) (Own.lit (w1.drewN nq) [0, 0, 0, 0] (by unfold maxLen; decide)).row).mono ?_; rintro E W ⟨rfl, z, rfl⟩)
                              go_ret
                              exact ⟨ret_bool (G2.out (HNO.out (by trivial))), below_draws (below_alloc (below_draws HB1.out nq) _) z⟩
                            | true =>
                              go_wp2_with (go_at_call 70; refine (hS4 _ _ _ (HRB.out.below (below_alloc (below_draws (below_self w1) nq) _)) (Own.lit (w1.drewN nq) [0, 0, 0, 0] (by unfold maxLen; decide)).row).mono ?_; rintro E W ⟨rfl, z, rfl⟩)
                              go_roundw
                              case rel => exact ⟨0 + 1, by go_num, by omega, (HNX.out (by trivial)).1, (HNX.out (by trivial)).2, HK1.out.grow (below_draws (below_alloc (below_draws (below_self w1) nq) _) z), below_draws (below_alloc (below_draws HB1.out nq) _) z⟩
                              case measure => simp [intOf]; omega
                        · obtain ⟨j, rfl⟩ : ∃ j, k = j + 1 := ⟨k - 1, by omega⟩
                          obtain ⟨e1, e2, e3⟩ := HPK.out j rfl
                          have cj := HCA1.out j (by omega)
                          have hlj : ¬ (a : Int) - 4 < (F[j]'(by omega)).at_ := by rw [e1] at hpv; omega
                          generalize (F[j]'(by omega)).at_ = za at *
                          clear e1
                          rcases hki with rfl | rfl
                          all_goals
                            go_quiet ((go_at_call 92; exact Calls.quiet_of_same (hNy fn _ hsn hq)))
                            clear hNy hNn
                            cases sb with
                            | false =>
                              go_wp2_with (go_at_call 70; refine (hS4 _ _ _ (HRB.out.below (below_alloc (below_draws (below_self w1) nq) _)) (Own.lit (w1.drewN nq) [0, 0, 0, 0] (by unfold maxLen; decide)).row).mono ?_; rintro E W ⟨rfl, z, rfl⟩)
                              go_ret
                              exact ⟨ret_bool (G2.out (HNO.out (by trivial))), below_draws (below_alloc (below_draws HB1.out nq) _) z⟩
                            | true =>
                              go_wp2_with (go_at_call 70; refine (hS4 _ _ _ (HRB.out.below (below_alloc (below_draws (below_self w1) nq) _)) (Own.lit (w1.drewN nq) [0, 0, 0, 0] (by unfold maxLen; decide)).row).mono ?_; rintro E W ⟨rfl, z, rfl⟩)
                              go_roundw
                              case rel => exact ⟨(j + 1) + 1, by go_num, by omega, (HNX.out (by trivial)).1, (HNX.out (by trivial)).2, HK1.out.grow (below_draws (below_alloc (below_draws (below_self w1) nq) _) z), below_draws (below_alloc (below_draws HB1.out nq) _) z⟩
                              case measure => simp [intOf]; omega
              · have hk1 : ¬ fk = 1 := fun e => hki (.inl e)
                have hk2 : ¬ fk = 2 := fun e => hki (.inr e)
                have HN : Hid (fixB bs (prevF F k) ⟨fk, fa, fn⟩ = false) := by
                  show fixB bs (prevF F k) ⟨fk, fa, fn⟩ = false
                  simp [fixB, hk1, hk2]
                clear hki
                have hb1 : (fk != 1) = true := by simpa using hk1
                have hb2 : (fk != 2) = true := by simpa using hk2
                have hb3 : decide (fk = 1) = false := decide_eq_false hk1
                have hb4 : decide (fk = 2) = false := decide_eq_false hk2
                go_quiet (fail)
                go_wp2_with fail
                go_ret
                exact ⟨ret_bool (G2.out (by rw [HRS.out, HST.out]; exact and_no HN.out)), below_draws HB1.out nq⟩
          · have HR2 : Hid (rfL bs 0 F = true) := by
              have := HRS.out
              rw [List.drop_eq_nil_of_le (by rw [HN2.out]; omega)] at this
              exact this
            clear HRS
            go_wp2_with fail
            clear o2
            have HFL : Hid (∀ f ∈ F, 0 ≤ f.at_ ∧ f.at_ ≤ 65536) := fun f hf => by
              obtain ⟨g1, g2⟩ := rf_sorted bs F 0 HR2.out
              have g3 := rf_high bs F 0 HR2.out f hf
              rw [HNB.out] at g3
              obtain ⟨i, hi, rfl⟩ := List.getElem_of_mem hf
              exact ⟨g1 i hi, by omega⟩
            go_loopw [9] (fun vi wr => ∃ k : Nat, vi = .int .i64 k ∧ k ≤ nm ∧ rmL bs F 0 M = rmL bs F (prevM M k) (M.drop k) ∧ 0 ≤ prevM M k ∧ Blk wr w.heap.size 56 (obA pb ps pf pm nb cb ns cs nf cf nm cm) ∧ Below w.heap.size w wr) (fun vi _ => nm - (intOf vi).toNat)
            case atStart => exact ⟨0, rfl, Nat.zero_le _, rfl, Int.le_refl _, HK.out, HB.out⟩
            case round =>
              clear HK HB HZ
              obtain ⟨k, rfl, hk, hrs, hz, hK, hB⟩ := hrel
              have HZ := Hid.in hz
              have HRS := Hid.in hrs
              have HK := Hid.in hK
              have HB := Hid.in hB
              clear hrs hK hB hz
              have o3 : wr.cell? ⟨w.heap.size, 3, none⟩ = some (.slice pm nm cm) := HK.out.cell 3
              by_cases hlt : k < nm
              · as_aux_lemma =>
                  have hkl : k < M.length := by rw [HN3.out]; exact hlt
                  obtain ⟨b, o, rfl, hc⟩ := (HX3.out.below HB.out) (by rw [List.length_map]; omega)
                  obtain ⟨c0, c1, c2⟩ := cells3 hc k (by rw [List.length_map]; exact hkl)
                  simp only [List.getElem_map, mkV] at c0 c1 c2
                  obtain ⟨hsn0, hst0, hsa0, hsa1⟩ := HF3.out M[k] (List.getElem_mem hkl)
                  have hsn := len63 hsn0
                  have hst := len63 hst0
                  clear hsn0 hst0
                  have HST := Hid.in (rm_step bs F M k hkl (prevM M k))
                  have HPV : Hid (prevM M (k + 1) = M[k].at_) := prevM_succ hkl
                  have HCA : Hid (∀ q (hq : q < k), wr.cell? ⟨b, o + q * 3, none⟩ = some (.int .i64 M[q].at_)) := fun q hq => by
                    obtain ⟨d0, d1, d2⟩ := cells3 hc q (by rw [List.length_map]; omega)
                    simp only [List.getElem_map, mkV] at d0
                    exact d0
                  clear hc
                  have HPK : Hid (∀ j (hj : k = j + 1), prevM M k = (M[j]'(by omega)).at_ ∧ i64P (M[j]'(by omega)).at_) := fun j hj => by
                    subst hj
                    exact ⟨prevM_succ (by omega), (HF3.out M[j] (List.getElem_mem (by omega))).2.2⟩
                  have HP0 : Hid (k = 0 → prevM M k = 0) := fun e => by subst e; rfl
                  generalize M[k] = f at *
                  obtain ⟨fa, fk, ft⟩ := f
                  simp only at c0 c1 c2 hsn hst hsa0 hsa1
                  go_upto_region 27 with fail
                  have HB1 : Hid (Below w.heap.size w (wr.alloc (.cells #[.int .i64 fa, .string fk, .string ft] 58))) := below_alloc HB.out _
                  have HC1 : Hid (Below wr.heap.size wr (wr.alloc (.cells #[.int .i64 fa, .string fk, .string ft] 58))) := new_alloc wr _
                  have HK1 : Hid (Blk (wr.alloc (.cells #[.int .i64 fa, .string fk, .string ft] 58)) w.heap.size 56 (obA pb ps pf (some ⟨b, o, none⟩) nb cb ns cs nf cf nm cm)) := HK.out.grow (new_alloc wr _)
                  have HS1 : Hid (Blk (wr.alloc (.cells #[.int .i64 fa, .string fk, .string ft] 58)) wr.heap.size 58 #[.int .i64 fa, .string fk, .string ft]) := Blk.new wr 58 _
                  generalize wr.alloc (.cells #[.int .i64 fa, .string fk, .string ft] 58) = w1 at *
                  have HCA1 : Hid (∀ q (hq : q < k), w1.cell? ⟨b, o + q * 3, none⟩ = some (.int .i64 (M[q]'(by omega)).at_)) := fun q hq => (HC1.out.cell (cell_lt (HCA.out q hq))).trans (HCA.out q hq)
                  generalize hgs : wr.heap.size = gs at *
                  clear hgs
                  clear c0 c1 c2 o3
                  have s0 : w1.cell? ⟨gs, 0, none⟩ = some (.int .i64 fa) := HS1.out.cell 0
                  have s1 : w1.cell? ⟨gs, 1, none⟩ = some (.string fk) := HS1.out.cell 1
                  have s2 : w1.cell? ⟨gs, 2, none⟩ = some (.string ft) := HS1.out.cell 2
                  have o0 : w1.cell? ⟨w.heap.size, 0, none⟩ = some (.slice pb nb cb) := HK1.out.cell 0
                  have o3 : w1.cell? ⟨w.heap.size, 3, none⟩ = some (.slice (some ⟨b, o, none⟩) nm cm) := HK1.out.cell 3
                  clear HCA HC1 HK HB
                  cases hnm : nmB fk with
                  | false =>
                    have hq := nm_no hnm
                    go_quiet ((go_at_call 92; exact Calls.quiet_of_same (hNn fk _ hsn hq)))
                    go_wp2_with fail
                    go_ret
                    exact ⟨ret_bool (G3.out (by rw [HRS.out, HST.out]; exact and_no (by simp [mrkB, hnm]))), below_draws HB1.out nq⟩
                  | true =>
                    have hq := nm_yes hnm
                    cases hnt : nmB ft with
                    | false =>
                      have hq2 := nm_no hnt
                      go_quiet ((go_at_call 92; first | with_reducible exact Calls.quiet_of_same (hNy fk _ hsn hq) | with_reducible exact Calls.quiet_of_same (hNn ft _ hst hq2)))
                      go_wp2_with fail
                      go_ret
                      exact ⟨ret_bool (G3.out (by rw [HRS.out, HST.out]; exact and_no (by simp [mrkB, hnt]))), below_draws HB1.out nq⟩
                    | true =>
                      have hq2 := nm_yes hnt
                      by_cases hlo : fa < 0
                      · have HN : Hid (mrkB bs F (prevM M k) ⟨fa, fk, ft⟩ = false) := by
                          show mrkB bs F (prevM M k) ⟨fa, fk, ft⟩ = false
                          simp [mrkB, st_no (bs := bs) (part := quiet) (.inl hlo)]
                        go_quiet ((go_at_call 92; first | with_reducible exact Calls.quiet_of_same (hNy fk _ hsn hq) | with_reducible exact Calls.quiet_of_same (hNy ft _ hst hq2)))
                        go_wp2_with fail
                        go_ret
                        exact ⟨ret_bool (G3.out (by rw [HRS.out, HST.out]; exact and_no HN.out)), below_draws HB1.out nq⟩
                      · by_cases hhi : (nb : Int) - 5 < fa
                        · have HN : Hid (mrkB bs F (prevM M k) ⟨fa, fk, ft⟩ = false) := by
                            show mrkB bs F (prevM M k) ⟨fa, fk, ft⟩ = false
                            have e5 : quiet.length = 5 := rfl
                            simp [mrkB, st_no (bs := bs) (a := fa) (part := quiet) (.inr (by rw [HNB.out, e5]; omega))]
                          go_quiet ((go_at_call 92; first | with_reducible exact Calls.quiet_of_same (hNy fk _ hsn hq) | with_reducible exact Calls.quiet_of_same (hNy ft _ hst hq2)))
                          go_wp2_with fail
                          go_ret
                          exact ⟨ret_bool (G3.out (by rw [HRS.out, HST.out]; exact and_no HN.out)), below_draws HB1.out nq⟩
                        · by_cases hpv : fa < prevM M k
                          · obtain ⟨j, rfl⟩ : ∃ j, k = j + 1 := by
                              cases k with
                              | zero => exact absurd hpv (by rw [HP0.out rfl]; exact hlo)
                              | succ j => exact ⟨j, rfl⟩
                            have HN : Hid (mrkB bs F (prevM M (j + 1)) ⟨fa, fk, ft⟩ = false) := by
                              show mrkB bs F (prevM M (j + 1)) ⟨fa, fk, ft⟩ = false
                              simp [mrkB, show ¬ prevM M (j + 1) ≤ fa by omega]
                            obtain ⟨e1, e2, e3⟩ := HPK.out j rfl
                            have cj := HCA1.out j (by omega)
                            have hlj : fa < (M[j]'(by omega)).at_ := by rw [e1] at hpv; omega
                            generalize (M[j]'(by omega)).at_ = za at *
                            clear e1
                            go_quiet ((go_at_call 92; first | with_reducible exact Calls.quiet_of_same (hNy fk _ hsn hq) | with_reducible exact Calls.quiet_of_same (hNy ft _ hst hq2)))
                            go_wp2_with fail
                            go_ret
                            exact ⟨ret_bool (G3.out (by rw [HRS.out, HST.out]; exact and_no HN.out)), below_draws HB1.out nq⟩
                          · obtain ⟨a, rfl⟩ : ∃ a : Nat, fa = a := ⟨fa.toNat, by omega⟩
                            have HFX : Hid (mrkB bs F (prevM M k) ⟨a, fk, ft⟩ = (sameB ((bs.drop a).take 5) quiet && !shB F a)) := by
                              show mrkB bs F (prevM M k) ⟨a, fk, ft⟩ = (sameB ((bs.drop a).take 5) quiet && !shB F a)
                              have e5 : quiet.length = 5 := rfl
                              have h4 := st_bytes bs quiet a (by rw [HNB.out, e5]; omega)
                              rw [e5] at h4
                              simp only [mrkB, hnm, hnt, h4, show prevM M k ≤ a by omega, decide_true, Bool.and_true, Bool.true_and]
                            obtain ⟨bb, ob, hpb, -⟩ := HXB.out (by rw [HNB.out]; omega)
                            subst hpb
                            have HRB := Hid.in (((HXB.out.below HB1.out).dropAt a).take 5)
                            have hS4 := fun q d W k1 k2 => sameBytes_any (some ⟨bb, ob + a, none⟩) q 5 (cb - a) 5 d ((bs.drop a).take 5) quiet W (by rw [List.length_take, List.length_drop, HNB.out]; omega) rfl (by decide) k1 k2
                            have HNX : Hid (sameB ((bs.drop a).take 5) quiet = true → shB F a = false → rmL bs F 0 M = rmL bs F (prevM M (k + 1)) (M.drop (k + 1)) ∧ 0 ≤ prevM M (k + 1)) := fun e e' => by
                              refine ⟨?_, ?_⟩
                              · rw [HRS.out, HST.out, HPV.out]
                                exact and_yes (by rw [HFX.out, e, e']; rfl)
                              · rw [HPV.out]; show 0 ≤ (a : Int); omega
                            have HNO : Hid (sameB ((bs.drop a).take 5) quiet = false → rmL bs F 0 M = false) := fun e => by
                              rw [HRS.out, HST.out]; exact and_no (by rw [HFX.out, e]; rfl)
                            have HNS : Hid (shB F a = true → rmL bs F 0 M = false) := fun e => by
                              rw [HRS.out, HST.out]; exact and_no (by rw [HFX.out, e]; simp)
                            clear HFX
                            generalize sameB ((bs.drop a).take 5) quiet = sb at *
                            rcases Nat.eq_zero_or_pos k with hk0 | hk0
                            · subst hk0
                              go_quiet ((go_at_call 92; first | with_reducible exact Calls.quiet_of_same (hNy fk _ hsn hq) | with_reducible exact Calls.quiet_of_same (hNy ft _ hst hq2)))
                              clear hNy hNn
                              cases sb with
                              | false =>
                                go_wp2_with (first
                                  | (refine wpList_buildFlat rfl 52 5 5 _ rfl .u8 quiet Tryz.underlying52 (by kernel_rfl) (by kernel_rfl) rfl (by decide) (by decide) rfl ?_; have HW3 : Hid (Below w1.heap.size w1 ((w1.drewN nq).alloc (.cells (quiet.map (Value.int .u8)).toArray 5))) := below_alloc (below_draws (below_self w1) nq) _; have HQ3 : Hid (Row ((w1.drewN nq).alloc (.cells (quiet.map (Value.int .u8)).toArray 5)) (some ⟨(w1.drewN nq).heap.size, 0, none⟩) quiet) := (Own.lit (w1.drewN nq) quiet (by unfold maxLen; decide)).row; generalize (w1.drewN nq).alloc (.cells (quiet.map (Value.int .u8)).toArray 5) = w3 at *)
                                  | (go_at_call 70; refine (hS4 _ _ _ (HRB.out.below HW3.out) HQ3.out).mono ?_; rintro E W ⟨rfl, z, rfl⟩))
                                go_ret
                                exact ⟨ret_bool (G3.out (HNO.out (by trivial))), below_draws (below_step HB1.out HW3.out) z⟩
                              | true =>
                                go_wp2_with (first
                                  | (refine wpList_buildFlat rfl 52 5 5 _ rfl .u8 quiet Tryz.underlying52 (by kernel_rfl) (by kernel_rfl) rfl (by decide) (by decide) rfl ?_; have HW3 : Hid (Below w1.heap.size w1 ((w1.drewN nq).alloc (.cells (quiet.map (Value.int .u8)).toArray 5))) := below_alloc (below_draws (below_self w1) nq) _; have HQ3 : Hid (Row ((w1.drewN nq).alloc (.cells (quiet.map (Value.int .u8)).toArray 5)) (some ⟨(w1.drewN nq).heap.size, 0, none⟩) quiet) := (Own.lit (w1.drewN nq) quiet (by unfold maxLen; decide)).row; generalize (w1.drewN nq).alloc (.cells (quiet.map (Value.int .u8)).toArray 5) = w3 at *)
                                  | (go_at_call 70; refine (hS4 _ _ _ (HRB.out.below HW3.out) HQ3.out).mono ?_; rintro E W ⟨rfl, z, rfl⟩))
                                have HW2 : Hid (Below w1.heap.size w1 (w3.drewN z)) := below_draws HW3.out z
                                generalize w3.drewN z = w2 at *
                                have HB2 := Hid.in (below_step HB1.out HW2.out)
                                have HK2 := Hid.in (HK1.out.grow HW2.out)
                                have t0 : w2.cell? ⟨gs, 0, none⟩ = some (.int .i64 a) := (HW2.out.cell (cell_lt s0)).trans s0
                                have u2 : w2.cell? ⟨w.heap.size, 2, none⟩ = some (.slice pf nf cf) := HK2.out.cell 2
                                clear s0 s1 s2 o0 o3
                                go_loopw [11] (fun vq wr => ∃ q z : Nat, vq = .int .i64 q ∧ q ≤ nf ∧ shB (F.take q) a = false ∧ wr = w2.drewN z) (fun vq _ => nf - (intOf vq).toNat)
                                case atStart => exact ⟨0, 0, rfl, Nat.zero_le _, sh_zero F a, rfl⟩
                                case round =>
                                  obtain ⟨q, z, rfl, hqk, hin, rfl⟩ := hrel
                                  have HIN := Hid.in hin
                                  clear hin
                                  by_cases hql' : q < nf
                                  · have hql : q < F.length := by rw [HN2.out]; exact hql'
                                    obtain ⟨bf, of, hpf, hcf⟩ := (HX2.out.below HB2.out) (by rw [List.length_map]; omega)
                                    subst hpf
                                    obtain ⟨d0, d1, d2⟩ := cells3 hcf q (by rw [List.length_map]; exact hql)
                                    simp only [List.getElem_map, fxV] at d1
                                    clear d0 d2 hcf
                                    have hlo2 := HFL.out F[q] (List.getElem_mem hql)
                                    have HNX2 := Hid.in (fun e => sh_snoc F a q hql HIN.out e)
                                    have HHT := Hid.in (fun e => sh_hit F a q hql e)
                                    generalize F[q].at_ = za2 at *
                                    obtain ⟨hz0, hz1⟩ := hlo2
                                    by_cases h5 : za2 < (a : Int) + 5
                                    · by_cases h6 : (a : Int) < za2 + 4
                                      · go_upto_region 34 with fail
                                        go_quiet (fail)
                                        go_wp2_with fail
                                        go_ret
                                        exact ⟨ret_bool (G3.out (HNS.out (HHT.out ⟨h5, h6⟩))), by first | exact below_draws HB2.out _ | exact below_draws (below_draws HB2.out _) _⟩
                                      · go_upto_region 34 with fail
                                        go_quiet (fail)
                                        go_wp2_with fail
                                        go_roundw
                                        case rel => exact ⟨q + 1, z + nq, by go_num, by omega, HNX2.out (fun e => h6 e.2), by simp⟩
                                        case measure => simp [intOf]; omega
                                    · go_upto_region 34 with fail
                                      go_quiet (fail)
                                      go_wp2_with fail
                                      go_roundw
                                      case rel => exact ⟨q + 1, z + nq, by go_num, by omega, HNX2.out (fun e => h5 e.1), by simp⟩
                                      case measure => simp [intOf]; omega
                                  · have hqe : q = nf := by omega
                                    have HSF : Hid (shB F a = false) := by
                                      have := HIN.out
                                      rw [List.take_of_length_le (by rw [HN2.out]; omega)] at this
                                      exact this
                                    go_wp2_with fail
                                    go_roundw
                                    case rel => exact ⟨0 + 1, by go_num, by omega, (HNX.out (by trivial) HSF.out).1, (HNX.out (by trivial) HSF.out).2, HK2.out.grow (below_draws (below_self w2) z), below_draws HB2.out z⟩
                                    case measure => simp [intOf]; omega
                            · obtain ⟨j, rfl⟩ : ∃ j, k = j + 1 := ⟨k - 1, by omega⟩
                              obtain ⟨e1, e2, e3⟩ := HPK.out j rfl
                              have cj := HCA1.out j (by omega)
                              have hlj : ¬ (a : Int) < (M[j]'(by omega)).at_ := by rw [e1] at hpv; omega
                              generalize (M[j]'(by omega)).at_ = za at *
                              clear e1
                              go_quiet ((go_at_call 92; first | with_reducible exact Calls.quiet_of_same (hNy fk _ hsn hq) | with_reducible exact Calls.quiet_of_same (hNy ft _ hst hq2)))
                              clear hNy hNn
                              cases sb with
                              | false =>
                                go_wp2_with (first
                                  | (refine wpList_buildFlat rfl 52 5 5 _ rfl .u8 quiet Tryz.underlying52 (by kernel_rfl) (by kernel_rfl) rfl (by decide) (by decide) rfl ?_; have HW3 : Hid (Below w1.heap.size w1 ((w1.drewN nq).alloc (.cells (quiet.map (Value.int .u8)).toArray 5))) := below_alloc (below_draws (below_self w1) nq) _; have HQ3 : Hid (Row ((w1.drewN nq).alloc (.cells (quiet.map (Value.int .u8)).toArray 5)) (some ⟨(w1.drewN nq).heap.size, 0, none⟩) quiet) := (Own.lit (w1.drewN nq) quiet (by unfold maxLen; decide)).row; generalize (w1.drewN nq).alloc (.cells (quiet.map (Value.int .u8)).toArray 5) = w3 at *)
                                  | (go_at_call 70; refine (hS4 _ _ _ (HRB.out.below HW3.out) HQ3.out).mono ?_; rintro E W ⟨rfl, z, rfl⟩))
                                go_ret
                                exact ⟨ret_bool (G3.out (HNO.out (by trivial))), below_draws (below_step HB1.out HW3.out) z⟩
                              | true =>
                                go_wp2_with (first
                                  | (refine wpList_buildFlat rfl 52 5 5 _ rfl .u8 quiet Tryz.underlying52 (by kernel_rfl) (by kernel_rfl) rfl (by decide) (by decide) rfl ?_; have HW3 : Hid (Below w1.heap.size w1 ((w1.drewN nq).alloc (.cells (quiet.map (Value.int .u8)).toArray 5))) := below_alloc (below_draws (below_self w1) nq) _; have HQ3 : Hid (Row ((w1.drewN nq).alloc (.cells (quiet.map (Value.int .u8)).toArray 5)) (some ⟨(w1.drewN nq).heap.size, 0, none⟩) quiet) := (Own.lit (w1.drewN nq) quiet (by unfold maxLen; decide)).row; generalize (w1.drewN nq).alloc (.cells (quiet.map (Value.int .u8)).toArray 5) = w3 at *)
                                  | (go_at_call 70; refine (hS4 _ _ _ (HRB.out.below HW3.out) HQ3.out).mono ?_; rintro E W ⟨rfl, z, rfl⟩))
                                have HW2 : Hid (Below w1.heap.size w1 (w3.drewN z)) := below_draws HW3.out z
                                generalize w3.drewN z = w2 at *
                                have HB2 := Hid.in (below_step HB1.out HW2.out)
                                have HK2 := Hid.in (HK1.out.grow HW2.out)
                                have t0 : w2.cell? ⟨gs, 0, none⟩ = some (.int .i64 a) := (HW2.out.cell (cell_lt s0)).trans s0
                                have u2 : w2.cell? ⟨w.heap.size, 2, none⟩ = some (.slice pf nf cf) := HK2.out.cell 2
                                clear s0 s1 s2 o0 o3
                                go_loopw [11] (fun vq wr => ∃ q z : Nat, vq = .int .i64 q ∧ q ≤ nf ∧ shB (F.take q) a = false ∧ wr = w2.drewN z) (fun vq _ => nf - (intOf vq).toNat)
                                case atStart => exact ⟨0, 0, rfl, Nat.zero_le _, sh_zero F a, rfl⟩
                                case round =>
                                  obtain ⟨q, z, rfl, hqk, hin, rfl⟩ := hrel
                                  have HIN := Hid.in hin
                                  clear hin
                                  by_cases hql' : q < nf
                                  · have hql : q < F.length := by rw [HN2.out]; exact hql'
                                    obtain ⟨bf, of, hpf, hcf⟩ := (HX2.out.below HB2.out) (by rw [List.length_map]; omega)
                                    subst hpf
                                    obtain ⟨d0, d1, d2⟩ := cells3 hcf q (by rw [List.length_map]; exact hql)
                                    simp only [List.getElem_map, fxV] at d1
                                    clear d0 d2 hcf
                                    have hlo2 := HFL.out F[q] (List.getElem_mem hql)
                                    have HNX2 := Hid.in (fun e => sh_snoc F a q hql HIN.out e)
                                    have HHT := Hid.in (fun e => sh_hit F a q hql e)
                                    generalize F[q].at_ = za2 at *
                                    obtain ⟨hz0, hz1⟩ := hlo2
                                    by_cases h5 : za2 < (a : Int) + 5
                                    · by_cases h6 : (a : Int) < za2 + 4
                                      · go_upto_region 34 with fail
                                        go_quiet (fail)
                                        go_wp2_with fail
                                        go_ret
                                        exact ⟨ret_bool (G3.out (HNS.out (HHT.out ⟨h5, h6⟩))), by first | exact below_draws HB2.out _ | exact below_draws (below_draws HB2.out _) _⟩
                                      · go_upto_region 34 with fail
                                        go_quiet (fail)
                                        go_wp2_with fail
                                        go_roundw
                                        case rel => exact ⟨q + 1, z + nq, by go_num, by omega, HNX2.out (fun e => h6 e.2), by simp⟩
                                        case measure => simp [intOf]; omega
                                    · go_upto_region 34 with fail
                                      go_quiet (fail)
                                      go_wp2_with fail
                                      go_roundw
                                      case rel => exact ⟨q + 1, z + nq, by go_num, by omega, HNX2.out (fun e => h5 e.1), by simp⟩
                                      case measure => simp [intOf]; omega
                                  · have hqe : q = nf := by omega
                                    have HSF : Hid (shB F a = false) := by
                                      have := HIN.out
                                      rw [List.take_of_length_le (by rw [HN2.out]; omega)] at this
                                      exact this
                                    go_wp2_with fail
                                    go_roundw
                                    case rel => exact ⟨(j + 1) + 1, by go_num, by omega, (HNX.out (by trivial) HSF.out).1, (HNX.out (by trivial) HSF.out).2, HK2.out.grow (below_draws (below_self w2) z), below_draws HB2.out z⟩
                                    case measure => simp [intOf]; omega
              · have hkn : k = nm := by omega
                subst hkn
                have HR3 : Hid (rmL bs F 0 M = true) := by
                  have := HRS.out
                  rw [List.drop_eq_nil_of_le (by rw [HN3.out]; exact Nat.le_refl _)] at this
                  exact this
                clear HRS
                go_wp2_with fail
                go_ret
                exact ⟨ret_bool (G4.out HR1.out HR2.out HR3.out), HB.out⟩
  · have hr : r = false := by rw [HE, decide_eq_false hs]; rfl
    subst hr
    clear HE
    go_enter Tryz.func67, Tryz.ntmps67
    go_upto_region 1 with fail
    generalize w.alloc (.cells (obA pb ps pf pm nb cb ns cs nf cf nm cm) 56) = w0 at *
    have o0 : w0.cell? ⟨w.heap.size, 0, none⟩ = some (.slice pb nb cb) := HK0.out.cell 0
    have o1 : w0.cell? ⟨w.heap.size, 1, none⟩ = some (.slice ps ns cs) := HK0.out.cell 1
    have o2 : w0.cell? ⟨w.heap.size, 2, none⟩ = some (.slice pf nf cf) := HK0.out.cell 2
    have o3 : w0.cell? ⟨w.heap.size, 3, none⟩ = some (.slice pm nm cm) := HK0.out.cell 3
    by_cases e1 : nb ≤ 65536
    · by_cases e2 : ns ≤ 4096
      · by_cases e3 : nf ≤ 4096
        · have e4 : ¬ nm ≤ 4096 := fun e => hs ⟨e1, e2, e3, e⟩
          clear hs
          go_wp2_with fail
          go_ret
          exact ⟨rfl, HB0.out⟩
        · clear hs
          go_wp2_with fail
          go_ret
          exact ⟨rfl, HB0.out⟩
      · clear hs
        go_wp2_with fail
        go_ret
        exact ⟨rfl, HB0.out⟩
    · clear hs
      go_wp2_with fail
      go_ret
      exact ⟨rfl, HB0.out⟩

end Go.Proofs.YtckpgpgmaccepaaGreat
