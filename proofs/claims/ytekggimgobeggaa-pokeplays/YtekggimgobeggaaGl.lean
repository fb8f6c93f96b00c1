/- Texts put together: LokW. -/
import Derived.Test.YtekggimgobeggaaGk

/- looks: both patchers show the same. -/
namespace Go.Proofs.Ytekggimgobeggaa
open Go.RowKit Go.Sort

theorem eqInt (x : Int) (dd : Nat) (W : World) : (Op.equalIn (dd + 1) 3 (.int .i64 x) (.int .i64 x)).run Try.prog W = .ok true W := by
  unfold Op.equalIn
  simp [go_sem]
set_option maxRecDepth 20000 in
theorem eq45d (a b c d e : Int) (dd : Nat) (W : World) : (Op.equalIn (dd + 1 + 1) 45 (.agg #[.int .i64 a, .int .i64 b, .int .i64 c, .int .i64 d, .int .i64 e]) (.agg #[.int .i64 a, .int .i64 b, .int .i64 c, .int .i64 d, .int .i64 e])).run Try.prog W = .ok true W := by
  unfold Op.equalIn
  simp [go_sem, eqInt]
theorem eq45a (a b c d e : Int) (W : World) : (binOp .eql 45 (.agg #[.int .i64 a, .int .i64 b, .int .i64 c, .int .i64 d, .int .i64 e]) (.agg #[.int .i64 a, .int .i64 b, .int .i64 c, .int .i64 d, .int .i64 e])).run Try.prog W = .ok (.bool true) W := by
  have h : (Op.equalIn Op.maxDepth 45 (.agg #[.int .i64 a, .int .i64 b, .int .i64 c, .int .i64 d, .int .i64 e]) (.agg #[.int .i64 a, .int .i64 b, .int .i64 c, .int .i64 d, .int .i64 e])).run Try.prog W = .ok true W := eq45d a b c d e 9998 W
  simp [binOp, Op.equal, go_sem, h]
theorem fndP_far {L : List Si} (h : ∀ x ∈ L, x.at_ ≤ 65531) : fndP L 2147483648 = (0, false) := by
  unfold fndP
  have h1 := (fnd_none (L := L) (a := 2147483648) (fun j hj e => by have := h _ (List.getElem_mem hj); omega)).1
  rw [if_neg (by rw [h1]; decide)]
set_option maxRecDepth 20000 in
set_option maxHeartbeats 4000000 in
theorem looks_any {w : World} {B pq mq mg rq bq : Nat} {lpP : Option Addr} {lcP : Nat} {s : PS} {r : RD} {q : RP} (hP : PA w B pq mq mg rq bq lpP lcP s) (hS : SR s r) (hM : RM w mg r q) (hb : BtOk s.bt) :
    Calls Try.prog 32 #[.agg (wA mq rq pq), .agg (r.val q)] w fun e w' => e = .returned (.bool true) ∧ Below w.heap.size w w' := by
  have HFD : Hid (∀ W a, Below w.heap.size w W → 0 ≤ a → a ≤ 4294967295 → Calls Try.prog 19 #[.pointer (some ⟨pq, 0, none⟩), .int .u32 a] W fun e w' => e = .returned (.tuple #[.int .u32 (fndR r.bt r.up a).1, .bool (fndR r.bt r.up a).2]) ∧ Below W.heap.size W w') := fun W a h h0 h1 => by
    have := pfind_any (hP.below h) hb a h0 h1
    rw [hS.bt, fnd_same] at this
    exact this
  have hsi : ∀ j (h : j < r.bt.length), SiB r.bt[j] := fun j h => (hS.st _ (List.mem_append_left _ (List.getElem_mem h))).1
  have HFR : Hid (∀ W a, Below w.heap.size w W → 0 ≤ a → a ≤ 4294967295 → Calls Try.prog 72 #[.agg (r.val q), .int .u32 a] W fun e w' => e = .returned (.tuple #[.int .u32 (fndR r.bt r.up a).1, .bool (fndR r.bt r.up a).2]) ∧ Below W.heap.size W w') := fun W a h h0 h1 => rfind_any r q a W h0 (by omega) hS.b4 hsi (hM.bt.below h)
  have HFAR : Hid (fndR r.bt r.up 2147483648 = (0, false)) := by
    rw [← fnd_same]
    refine fndP_far (fun x hx => ?_)
    obtain ⟨y, hy, rfl⟩ := List.mem_map.1 hx
    exact (hS.st y (List.mem_append_left _ hy)).1.a1
  have HPH : Hid (∀ W, Below w.heap.size w W → Calls Try.prog 9 #[.pointer (some ⟨pq, 0, none⟩)] W fun e w' => e = .returned (.int .u8 r.ph) ∧ w' = W) := fun W h => by rw [← hS.ph]; exact pphase_any (hP.below h)
  have HCT : Hid (∀ W, Below w.heap.size w W → Calls Try.prog 12 #[.pointer (some ⟨pq, 0, none⟩)] W fun e w' => e = .returned (.agg (ctA r.ct)) ∧ Below W.heap.size W w') := fun W h => by rw [← hS.ct]; exact pcounts_any (hP.below h)
  have HNM : Hid (∀ W, Below w.heap.size w W → Calls Try.prog 73 #[.pointer (some ⟨rq, 0, none⟩)] W fun e w' => e = .returned (.int .i64 r.n) ∧ w' = W) := fun W h => by rw [← hS.n]; exact number_any rq s.fs s.n W (hP.below h).rnd
  have HOV : Hid (∀ W, Below w.heap.size w W → Calls Try.prog 37 #[.pointer (some ⟨rq, 0, none⟩)] W fun e w' => e = .returned (.bool (ovr r.fs)) ∧ w' = W) := fun W h => by rw [← hS.fs]; exact over_any rq s.fs s.n W (hP.below h).rnd
  have HRO : Hid (∀ W, Below w.heap.size w W → Calls Try.prog 63 #[.agg #[.int .i64 r.n, .slice q.fp r.fs.length q.fc]] W fun e w' => e = .returned (.bool (ovr r.fs)) ∧ Below W.heap.size W w') := fun W h => rover_any q.fp q.fc r.fs r.n W hS.f8 (hM.fs.below h).row
  have HBT : Hid (∀ W, Below w.heap.size w W → RowS W 0 q.tp r.bt) := fun W h => hM.bt.below h
  have hb4 := hS.b4
  have HSI := Hid.in hsi
  clear hP hS hM hb hsi
  obtain ⟨xs, n, fs, ph, sent, bt, lf, dn, up, ct⟩ := r
  obtain ⟨bp, bc, fp, fc, tp, tc, lp, lc⟩ := q
  simp only at HFD HFR HFAR HPH HCT HNM HOV HRO HBT hb4 HSI
  obtain ⟨m, hm⟩ : ∃ m, bt.length = m := ⟨_, rfl⟩
  have HL := Hid.in hm
  rw [hm] at hb4
  clear hm
  go_enter Try.func32, Try.ntmps32
  go_upto_region 1 with fail
  obtain ⟨w0, hw0⟩ : ∃ w0, w0 = (w.alloc (.cells (wA mq rq pq) 26)).alloc (.cells ((RD.mk xs n fs ph sent bt lf dn up ct).val ⟨bp, bc, fp, fc, tp, tc, lp, lc⟩) 66) := ⟨_, rfl⟩
  rw [← hw0]
  have HB1 : Hid (Blk w0 w.heap.size 26 (wA mq rq pq)) := by rw [hw0]; exact (Blk.new _ _ _).grow (new_alloc _ _)
  have HB2 : Hid (Blk w0 (w.heap.size + 1) 66 ((RD.mk xs n fs ph sent bt lf dn up ct).val ⟨bp, bc, fp, fc, tp, tc, lp, lc⟩)) := by rw [hw0]; exact blk_second _ _ _ _ _
  have HL0 : Hid (Below w.heap.size w w0) := by rw [hw0]; exact below_alloc (new_alloc _ _) _
  clear hw0
  go_wp2_with fail
  go_loopw [5] (fun vi wr => ∃ k : Nat, vi = .int .i64 k ∧ k ≤ m ∧ Below w.heap.size w wr ∧ Blk wr w.heap.size 26 (wA mq rq pq) ∧ Blk wr (w.heap.size + 1) 66 ((RD.mk xs n fs ph sent bt lf dn up ct).val ⟨bp, bc, fp, fc, tp, tc, lp, lc⟩)) (fun vi _ => m - (intOf vi).toNat)
  case atStart => exact ⟨0, rfl, Nat.zero_le _, HL0.out, HB1.out, HB2.out⟩
  case round =>
    obtain ⟨k, rfl, hk, hbl, hb1, hb2⟩ := hrel
    have HBL := Hid.in hbl
    have HA1 := Hid.in hb1
    have HA2 := Hid.in hb2
    clear hbl hb1 hb2 HL0 HB1 HB2
    have c5 : wr.cell? ⟨w.heap.size + 1, 5, none⟩ = some (.slice tp m tc) := by rw [← HL.out]; exact HA2.out.cell 5
    by_cases hkn : k < m
    · have hkL : k < bt.length := by rw [HL.out]; exact hkn
      obtain ⟨b, o, rfl, -, c1, -⟩ := siR_cells (HBT.out wr HBL.out) (List.getElem?_eq_getElem hkL)
      obtain ⟨a0, a1, -, -⟩ := HSI.out k hkL
      generalize bt[k].at_ = sa at *
      have hw1 : sa % 4294967296 = sa := by omega
      have hw2 : (sa + 1) % 4294967296 = sa + 1 := by omega
      go_upto_block 2 with fail
      obtain ⟨w2, hw2'⟩ : ∃ w2, w2 = wr.alloc (.cells #[.int .u32 sa, .int .u32 (sa + 1)] 60) := ⟨_, rfl⟩
      rw [← hw2']
      have HE3 : Hid (Blk w2 wr.heap.size 60 #[.int .u32 sa, .int .u32 (sa + 1)]) := by rw [hw2']; exact Blk.new _ _ _
      have HE1 : Hid (Blk w2 w.heap.size 26 (wA mq rq pq)) := by rw [hw2']; exact HA1.out.grow (new_alloc _ _)
      have HE2 : Hid (Blk w2 (w.heap.size + 1) 66 ((RD.mk xs n fs ph sent bt lf dn up ct).val ⟨bp, bc, fp, fc, some ⟨b, o, none⟩, tc, lp, lc⟩)) := by rw [hw2']; exact HA2.out.grow (new_alloc _ _)
      have HEL : Hid (Below w.heap.size w w2) := by rw [hw2']; exact below_alloc HBL.out _
      clear hw2' HA1 HA2 HBL c1 c5 HBT HSI
      generalize wr.heap.size = gs at *
      go_wp2_with fail
      go_loopw [34] (fun vi wr => (vi = .int .i64 0 ∨ vi = .int .i64 1 ∨ vi = .int .i64 2) ∧ Below w.heap.size w wr ∧ Blk wr w.heap.size 26 (wA mq rq pq) ∧ Blk wr (w.heap.size + 1) 66 ((RD.mk xs n fs ph sent bt lf dn up ct).val ⟨bp, bc, fp, fc, some ⟨b, o, none⟩, tc, lp, lc⟩) ∧ Blk wr gs 60 #[.int .u32 sa, .int .u32 (sa + 1)]) (fun vi _ => 2 - (intOf vi).toNat)
      case atStart => exact ⟨.inl rfl, HEL.out, HE1.out, HE2.out, HE3.out⟩
      case round =>
        obtain ⟨hvi, hbl, hb1, hb2, hb3⟩ := hrel
        have HCL := Hid.in hbl
        have HC1 := Hid.in hb1
        have HC2 := Hid.in hb2
        have HC3 := Hid.in hb3
        clear hbl hb1 hb2 hb3 HEL HE1 HE2 HE3
        rcases hvi with rfl | rfl | rfl
        · have d2 : wr.cell? ⟨w.heap.size, 2, none⟩ = some (.pointer (some ⟨pq, 0, none⟩)) := HC1.out.cell 2
          have e0 : wr.cell? ⟨gs, 0, none⟩ = some (.int .u32 sa) := HC3.out.cell 0
          go_wp2_with (go_at_call 19; refine Hid.out ?_)
          refine Lib.hid ?_
          refine (HFD.out wr sa HCL.out (by omega) (by omega)).mono ?_
          rintro E w3 ⟨rfl, hb⟩
          have HD1 := Hid.in (HC1.out.grow hb)
          have HD2 := Hid.in (HC2.out.grow hb)
          have HD3 := Hid.in (HC3.out.grow hb)
          have HDL := Hid.in (below_step HCL.out hb)
          clear hb HC1 HC2 HC3 HCL d2 e0
          have HF2 := Hid.in (HFR.out w3 sa HDL.out (by omega) (by omega))
          generalize fndR bt up sa = fr at *
          obtain ⟨fv, fb⟩ := fr
          simp only at HF2
          go_wp2_with (first | (refine step_load_blk HD2.out rfl 66 _ rfl rfl _ (List.prefix_refl _) _ Try.underlying66 rfl (by kernel_rfl) ?_) | (go_at_call 72; refine Hid.out ?_))
          refine Lib.hid ?_
          refine HF2.out.mono ?_
          rintro E w4 ⟨rfl, hb⟩
          have HG1 := Hid.in (HD1.out.grow hb)
          have HG2 := Hid.in (HD2.out.grow hb)
          have HG3 := Hid.in (HD3.out.grow hb)
          have HGL := Hid.in (below_step HDL.out hb)
          clear hb HD1 HD2 HD3 HDL HF2
          go_wp2_with fail
          go_roundw
          case rel => exact ⟨.inr (.inl (by go_num)), HGL.out, HG1.out, HG2.out, HG3.out⟩
          case measure => simp [intOf]
        · have d2 : wr.cell? ⟨w.heap.size, 2, none⟩ = some (.pointer (some ⟨pq, 0, none⟩)) := HC1.out.cell 2
          have e1 : wr.cell? ⟨gs, 1, none⟩ = some (.int .u32 (sa + 1)) := HC3.out.cell 1
          go_wp2_with (go_at_call 19; refine Hid.out ?_)
          refine Lib.hid ?_
          refine (HFD.out wr (sa + 1) HCL.out (by omega) (by omega)).mono ?_
          rintro E w3 ⟨rfl, hb⟩
          have HD1 := Hid.in (HC1.out.grow hb)
          have HD2 := Hid.in (HC2.out.grow hb)
          have HD3 := Hid.in (HC3.out.grow hb)
          have HDL := Hid.in (below_step HCL.out hb)
          clear hb HC1 HC2 HC3 HCL d2 e1
          have HF2 := Hid.in (HFR.out w3 (sa + 1) HDL.out (by omega) (by omega))
          generalize fndR bt up (sa + 1) = fr at *
          obtain ⟨fv, fb⟩ := fr
          simp only at HF2
          go_wp2_with (first | (refine step_load_blk HD2.out rfl 66 _ rfl rfl _ (List.prefix_refl _) _ Try.underlying66 rfl (by kernel_rfl) ?_) | (go_at_call 72; refine Hid.out ?_))
          refine Lib.hid ?_
          refine HF2.out.mono ?_
          rintro E w4 ⟨rfl, hb⟩
          have HG1 := Hid.in (HD1.out.grow hb)
          have HG2 := Hid.in (HD2.out.grow hb)
          have HG3 := Hid.in (HD3.out.grow hb)
          have HGL := Hid.in (below_step HDL.out hb)
          clear hb HD1 HD2 HD3 HDL HF2
          go_wp2_with fail
          go_roundw
          case rel => exact ⟨.inr (.inr (by go_num)), HGL.out, HG1.out, HG2.out, HG3.out⟩
          case measure => simp [intOf]
        · go_wp2_with fail
          go_roundw
          case rel => exact ⟨k + 1, by go_num, by omega, HCL.out, HC1.out, HC2.out⟩
          case measure => simp [intOf]; omega
    · obtain rfl : k = m := by omega
      have d2 : wr.cell? ⟨w.heap.size, 2, none⟩ = some (.pointer (some ⟨pq, 0, none⟩)) := HA1.out.cell 2
      have HFX := Hid.in (HFD.out wr 2147483648 HBL.out (by decide) (by decide))
      rw [HFAR.out] at HFX
      go_wp2_with (go_at_call 19; refine Hid.out ?_)
      refine Lib.hid ?_
      refine HFX.out.mono ?_
      rintro E w1 ⟨rfl, hb⟩
      have HD1 := Hid.in (HA1.out.grow hb)
      have HD2 := Hid.in (HA2.out.grow hb)
      have HDL := Hid.in (below_step HBL.out hb)
      clear hb HA1 HA2 HBL d2 c5 HFX HFD HFR HBT HSI HFAR
      go_upto_region 14 with fail
      have HK : Hid (∀ W, Below w1.heap.size w1 W → W.cell? ⟨w.heap.size, 0, none⟩ = some (.pointer (some ⟨mq, 0, none⟩)) ∧ W.cell? ⟨w.heap.size, 1, none⟩ = some (.pointer (some ⟨rq, 0, none⟩)) ∧ W.cell? ⟨w.heap.size, 2, none⟩ = some (.pointer (some ⟨pq, 0, none⟩)) ∧ W.cell? ⟨w.heap.size + 1, 1, none⟩ = some (.int .i64 n) ∧ W.cell? ⟨w.heap.size + 1, 2, none⟩ = some (.slice fp fs.length fc) ∧ W.cell? ⟨w.heap.size + 1, 3, none⟩ = some (.int .u8 ph) ∧ W.cell? ⟨w.heap.size + 1, 9, none⟩ = some (.int .i64 ct.si) ∧ W.cell? ⟨w.heap.size + 1, 10, none⟩ = some (.int .i64 ct.wr) ∧ W.cell? ⟨w.heap.size + 1, 11, none⟩ = some (.int .i64 ct.ro) ∧ W.cell? ⟨w.heap.size + 1, 12, none⟩ = some (.int .i64 ct.st) ∧ W.cell? ⟨w.heap.size + 1, 13, none⟩ = some (.int .i64 ct.wa)) := fun W hb => ⟨(HD1.out.grow hb).cell 0, (HD1.out.grow hb).cell 1, (HD1.out.grow hb).cell 2, (HD2.out.grow hb).cell 1, (HD2.out.grow hb).cell 2, (HD2.out.grow hb).cell 3, (HD2.out.grow hb).cell 9, (HD2.out.grow hb).cell 10, (HD2.out.grow hb).cell 11, (HD2.out.grow hb).cell 12, (HD2.out.grow hb).cell 13⟩
      obtain ⟨y0, y1, y2, y3, y4, y5, y6, y7, y8, y9, y10⟩ := HK.out w1 (below_self _)
      have heq := fun W => eq45a ct.si ct.wr ct.ro ct.st ct.wa W
      have HW1 : Hid (Below w.heap.size w w1.drew) := below_draws HDL.out 1
      go_region_held3 (fun W => W.cell? ⟨w.heap.size, 0, none⟩ = some (.pointer (some ⟨mq, 0, none⟩)) ∧ W.cell? ⟨w.heap.size, 1, none⟩ = some (.pointer (some ⟨rq, 0, none⟩)) ∧ W.cell? ⟨w.heap.size, 2, none⟩ = some (.pointer (some ⟨pq, 0, none⟩)) ∧ W.cell? ⟨w.heap.size + 1, 1, none⟩ = some (.int .i64 n) ∧ W.cell? ⟨w.heap.size + 1, 2, none⟩ = some (.slice fp fs.length fc) ∧ W.cell? ⟨w.heap.size + 1, 3, none⟩ = some (.int .u8 ph) ∧ W.cell? ⟨w.heap.size + 1, 9, none⟩ = some (.int .i64 ct.si) ∧ W.cell? ⟨w.heap.size + 1, 10, none⟩ = some (.int .i64 ct.wr) ∧ W.cell? ⟨w.heap.size + 1, 11, none⟩ = some (.int .i64 ct.ro) ∧ W.cell? ⟨w.heap.size + 1, 12, none⟩ = some (.int .i64 ct.st) ∧ W.cell? ⟨w.heap.size + 1, 13, none⟩ = some (.int .i64 ct.wa)) (first | (with_reducible exact hk1) | (with_reducible exact hk2) | go_keep)
        (first
          | (go_at_call 9; (with_reducible refine (HPH.out _ HW1.out).mono ?_); rintro E w2 ⟨rfl, hw⟩; subst hw)
          | (go_at_call 12; (with_reducible refine (HCT.out _ HW1.out).mono ?_); rintro E w3 ⟨rfl, hb3⟩; have HB3 := Hid.in (below_step (below_draws (below_self w1) 1) hb3); have hk1 := HK.out w3 HB3.out; have HW3 := Hid.in (below_step HDL.out HB3.out); clear hb3)
          | (go_at_call 73; (with_reducible refine (HNM.out _ HW3.out).mono ?_); rintro E w4 ⟨rfl, hw⟩; subst hw)
          | (go_at_call 37; (with_reducible refine (HOV.out _ HW3.out).mono ?_); rintro E w5 ⟨rfl, hw⟩; subst hw)
          | (go_at_call 63; (with_reducible refine (HRO.out _ HW3.out).mono ?_); rintro E w6 ⟨rfl, hb6⟩; have hk2 := HK.out w6 (below_step HB3.out hb6); have HW6 := Hid.in (below_step HW3.out hb6); clear hb6))
      go_wp2_with fail
      go_ret
      exact ⟨rfl, HW6.out⟩
end Go.Proofs.Ytekggimgobeggaa
