/- symbols.appendMoved. -/
import Derived.Test.YtckpgpgmaccepaaGreatRowsA
import Derived.Test.YtckpgpgmaccepaaGreatCln
import Derived.Deep.RegionHeld3
namespace Go.Proofs.YtckpgpgmaccepaaGreat
open Go.RowKit

theorem mov_take (A L : List Sy) (s k : Nat) (h : k < L.length) : (A ++ (L.take (k + 1)).map (movS s)).map syV = (A ++ (L.take k).map (movS s)).map syV ++ [(.string L[k].name, .int .i64 ((s : Int) + L[k].at_), .bool L[k].g)] := by
  rw [List.take_succ_eq_append_getElem h, List.map_append, List.map_append, List.map_append, List.map_append, List.append_assoc]
  rfl

set_option maxRecDepth 20000 in
set_option maxHeartbeats 4000000 in
theorem appendMoved_any (B : Nat) (v : Value) (A : List Sy) (q : Option Addr) (n c : Nat) (L : List Sy) (s : Nat) (w : World) (v2 : Value) (vs2 : List Value) (h2 : GOwnV 3 w B v2 vs2) (hB : B ≤ w.heap.size) (hv : TOwn 67 w B v (A.map syV)) (hA : A.length ≤ 1000000) (hn : L.length = n) (hn4 : n ≤ 4096) (hs : s ≤ 65536) (hr : Row3 w q (L.map syV)) (hf : ∀ x ∈ L, x.name.size ≤ 281474976710656) (hat : ∀ x ∈ L, 0 ≤ x.at_ ∧ x.at_ ≤ 65536) (hq : 0 < n → ∀ bb oo, q = some ⟨bb, oo, none⟩ → bb < B) :
    Calls Tryz.prog 53 #[v, .slice q n c, .int .i64 s] w fun E w' => ∃ v', E = .returned v' ∧ TOwn 67 w' B v' ((A ++ L.map (movS s)).map syV) ∧ GOwnV 3 w' B v2 vs2 ∧ Below B w w' := by
  have HV := Hid.in hv
  have H2 := Hid.in h2
  clear h2
  have HN := Hid.in hn
  have HR := Hid.in hr
  have HF := Hid.in hf
  have HAT := Hid.in hat
  have HQ := Hid.in hq
  obtain ⟨pv0, nv0, cv0, hvs⟩ : ∃ p n c, v = .slice p n c := by obtain ⟨p, cap, e, _⟩ := hv.shape; exact ⟨p, _, cap, e⟩
  subst hvs
  clear hv hn hr hf hat hq
  go_enter Tryz.func53, Tryz.ntmps53
  go_wp2_with fail
  go_loopw [0, 11] (fun v vi wr => ∃ k : Nat, vi = .int .i64 k ∧ k ≤ n ∧ TOwn 67 wr B v ((A ++ (L.take k).map (movS s)).map syV) ∧ GOwnV 3 wr B v2 vs2 ∧ Below B w wr ∧ B ≤ wr.heap.size) (fun _ vi _ => n - (intOf vi).toNat)
  case atStart => exact ⟨0, rfl, Nat.zero_le _, by simpa using HV.out, H2.out, Below.refl _ _, hB⟩
  case round =>
    obtain ⟨k, rfl, hk, hT, h2r, hb, hBw⟩ := hrel
    have H2r := Hid.in h2r
    clear h2r
    have HT := Hid.in hT
    have HB := Hid.in hb
    obtain ⟨pv, cv, hvv, -, -, -⟩ := hT.shape
    subst hvv
    clear hT hb
    by_cases hlt : k < n
    · have hkl : k < L.length := by rw [HN.out]; exact hlt
      obtain ⟨bq, oq, hqq, hc⟩ := HR.out (by rw [List.length_map]; omega)
      have hbq := HQ.out (by omega) bq oq hqq
      subst hqq
      obtain ⟨c0', c1', c2'⟩ := cells3 hc k (by rw [List.length_map]; exact hkl)
      simp only [List.getElem_map, syV] at c0' c1' c2'
      have c0 := (HB.out.cell (p := ⟨bq, oq + k * 3, none⟩) hbq).trans c0'
      have c1 := (HB.out.cell (p := ⟨bq, oq + k * 3 + 1, none⟩) hbq).trans c1'
      have c2 := (HB.out.cell (p := ⟨bq, oq + k * 3 + 2, none⟩) hbq).trans c2'
      have hz := HF.out L[k] (List.getElem_mem hkl)
      have hsa := HAT.out L[k] (List.getElem_mem hkl)
      have HMT := Hid.in (mov_take A L s k hkl)
      have HLN : Hid (((A ++ (L.take k).map (movS s)).map syV).length ≤ 1048576) := by
        have h : ((A ++ (L.take k).map (movS s)).map syV).length ≤ 1048576 := by
          rw [List.length_map, List.length_append, List.length_map, List.length_take]
          omega
        exact h
      clear c0' c1' c2' hc
      generalize L[k] = x at *
      obtain ⟨sn, sa, sg⟩ := x
      simp only at c0 c1 c2 hz hsa
      generalize (A ++ (L.take k).map (movS s)).map syV = LQ at *
      have hw1 : IntKind.i64.wrap ((s : Int) + sa) = (s : Int) + sa := by rw [IntKind.wrap_i64]; omega
      go_upto_region 4 with fail
      have HB1 : Hid (Below B w (wr.alloc (.cells #[.string sn, .int .i64 sa, .bool sg] 67))) := HB.out.alloc hBw _
      have HC1 : Hid (Below wr.heap.size wr (wr.alloc (.cells #[.string sn, .int .i64 sa, .bool sg] 67))) := new_alloc wr _
      have HS1 : Hid (Blk (wr.alloc (.cells #[.string sn, .int .i64 sa, .bool sg] 67)) wr.heap.size 67 #[.string sn, .int .i64 sa, .bool sg]) := Blk.new wr 67 _
      have hB1 : B ≤ (wr.alloc (.cells #[.string sn, .int .i64 sa, .bool sg] 67)).heap.size := Nat.le_trans hBw HC1.out.size
      have HT1 := Hid.in (HT.out.below HC1.out)
      have H21 := Hid.in (H2r.out.belowG HC1.out)
      have hfar : some wr.heap.size ≠ (Value.slice pv LQ.length cv).ownBlock := fun e => absurd (World.ownsRow.lt HT.out _ e.symm).2 (Nat.lt_irrefl _)
      generalize wr.alloc (.cells #[.string sn, .int .i64 sa, .bool sg] 67) = w1 at *
      generalize wr.heap.size = gs1 at *
      clear c0 c1 c2 HC1 HT
      have s0 : w1.cell? ⟨gs1, 0, none⟩ = some (.string sn) := HS1.out.cell 0
      have s1 : w1.cell? ⟨gs1, 1, none⟩ = some (.int .i64 sa) := HS1.out.cell 1
      have s2 : w1.cell? ⟨gs1, 2, none⟩ = some (.bool sg) := HS1.out.cell 2
      go_region_held3 (fun W => W.cell? ⟨gs1, 0, none⟩ = some (.string sn) ∧ W.cell? ⟨gs1, 1, none⟩ = some (.int .i64 sa) ∧ W.cell? ⟨gs1, 2, none⟩ = some (.bool sg)) (first | go_keep | exact hk2 | exact hk3)
        (first
          | (go_at_call 69; (with_reducible refine (clone_any _ _ hz).mono ?_); rintro E w2 ⟨rfl, hb2⟩; have HC2 := Hid.in (below_step (below_draws (below_self w1) 1) hb2); have HS2 := Hid.in (HS1.out.grow HC2.out); have hk2 : w2.cell? ⟨gs1, 0, none⟩ = some (.string sn) ∧ w2.cell? ⟨gs1, 1, none⟩ = some (.int .i64 sa) ∧ w2.cell? ⟨gs1, 2, none⟩ = some (.bool sg) := ⟨HS2.out.cell 0, HS2.out.cell 1, HS2.out.cell 2⟩; have hB2 : B ≤ w2.heap.size := Nat.le_trans hB1 HC2.out.size; clear hb2)
          | (refine step_tpush Tryz.elemSym _ (by rfl) _ _ (by rfl) B (.slice pv LQ.length cv) LQ (by rfl) ((HT1.out.below HC2.out).alloc _) ⟨w2.heap.size, 0, none⟩ 1 (.string sn, .int .i64 ((s : Int) + sa), .bool sg) ⟨rfl, rfl, rfl⟩ (by rfl) (news3 _ _ _) HLN.out (by decide) (by simp; omega) ?_; intro g3 c3' w3 hT3 hg3 hb3; have HT3 := Hid.in hT3; have HB3 := Hid.in (hb3 w ((HB1.out.trans (HC2.out.mono hB1)).alloc hB2 _)); have hB3 : B ≤ w3.heap.size := Nat.le_trans (Nat.le_trans hB2 (new_alloc w2 _).size) hg3.size; have hTa := (HT1.out.below HC2.out).alloc (.cells #[.string sn, .int .i64 ((s : Int) + sa), .bool sg] 67); have H23 := Hid.in (kept_row ((H21.out.belowG HC2.out).belowG (new_alloc w2 (.cells #[.string sn, .int .i64 ((s : Int) + sa), .bool sg] 67))) hg3 (rows_apart ((H21.out.belowG HC2.out).belowG (new_alloc w2 (.cells #[.string sn, .int .i64 ((s : Int) + sa), .bool sg] 67))) hTa (by decide))); clear hTa; have HS3 := Hid.in ((HS2.out.grow (new_alloc w2 (.cells #[.string sn, .int .i64 ((s : Int) + sa), .bool sg] 67))).kept hg3 hfar); have hk3 : w3.cell? ⟨gs1, 0, none⟩ = some (.string sn) ∧ w3.cell? ⟨gs1, 1, none⟩ = some (.int .i64 sa) ∧ w3.cell? ⟨gs1, 2, none⟩ = some (.bool sg) := ⟨HS3.out.cell 0, HS3.out.cell 1, HS3.out.cell 2⟩; clear hT3 hg3 hb3))
      go_wp2_with fail
      go_roundw
      case rel => exact ⟨k + 1, by go_num, by omega, by rw [HMT.out]; exact HT3.out, H23.out, HB3.out, hB3⟩
      case measure => simp [intOf]; omega
    · have hkn : L.take k = L := List.take_of_length_le (by rw [HN.out]; omega)
      have HE : Hid (TOwn 67 wr B (.slice pv ((A ++ (L.take k).map (movS s)).map syV).length cv) ((A ++ L.map (movS s)).map syV)) := by
        have h := HT.out
        rw [hkn] at h ⊢
        exact h
      clear hkn
      go_wp2_with fail
      go_ret
      exact ⟨_, rfl, HE.out, H2r.out, HB.out⟩

end Go.Proofs.YtckpgpgmaccepaaGreat
