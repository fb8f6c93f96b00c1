/- Texts put together: IRgK, IRgQ, IRgW, KitS, ImO. -/
import Derived.Test.YtkpieeldoielgaaGa
import Derived.Test.YtkpieeldoielgaaCpyU
import Derived.Test.YtkpieeldoielgaaRObj
import Derived.Test.YtkpieeldoielgaaTexts
import Derived.Test.YtkpieeldoielgaaRMrk
import Derived.Test.YtkpieeldoielgaaGb
import Derived.BigQuiet
import Derived.Deep.QuietTactic

/- image.rightKeys: names, and none twice. -/
namespace Go.Proofs.Ytkpieeldoielgaa
open Go.RowKit

abbrev strV (ks : List ByteArray) : List Value := ks.map Value.string
theorem strV_cell {w : World} {p : Option Addr} {ks : List ByteArray} (h : GRow w p (strV ks)) (h0 : 0 < ks.length) : ∃ b o, p = some ⟨b, o, none⟩ ∧ ∀ i (hi : i < ks.length), w.cell? ⟨b, o + i, none⟩ = some (.string ks[i]) := by
  obtain ⟨b, o, e, hc⟩ := h (by simpa using h0)
  refine ⟨b, o, e, fun i hi => ?_⟩
  have := hc i (by simpa using hi)
  simpa [hi] using this

theorem keys_fit {ks : List ByteArray} (h : ∀ k ∈ ks, k.size ≤ maxLen) : ObF ⟨[], ks.map keySy, [], []⟩ :=
  ⟨fun i => by simp, fun s hs => by
    obtain ⟨k, hk, rfl⟩ := List.mem_map.1 hs
    exact ⟨h k hk, by show i64P 0; unfold i64P; omega⟩, fun f hf => absurd hf List.not_mem_nil, fun f hf => absurd hf List.not_mem_nil⟩

set_option maxRecDepth 20000 in
set_option maxHeartbeats 1000000 in
theorem rightKeys_any (p : Option Addr) (n c : Nat) (ks : List ByteArray) (w : World) (hn : ks.length = n) (hn6 : n ≤ 64) (hsz : ∀ k ∈ ks, k.size ≤ maxLen) (h1 : GRow w p (strV ks)) :
    Calls Try.prog 47 #[.slice p n c] w fun E w' => E = .returned (.bool (keysB ks)) ∧ Below w.heap.size w w' := by
  have HL := Hid.in hn
  have H1 := Hid.in h1
  have HS := Hid.in hsz
  have HK : Hid (okO ⟨[], ks.map keySy, [], []⟩ = keysB ks) := by
    have : okO ⟨[], ks.map keySy, [], []⟩ = keysB ks := by rw [keys_ok, decide_eq_true (by omega), Bool.true_and]
    exact this
  clear hn h1 hsz
  go_enter Try.func47, Try.ntmps47
  go_wp2_with fail
  go_loopw [3, 5, 8] (fun v _ vi wr => ∃ k : Nat, vi = .int .i64 k ∧ k ≤ n ∧ TOwn 100 wr w.heap.size v ((ks.take k).map fun s => syV (keySy s)) ∧ Below w.heap.size w wr) (fun _ _ vi _ => n - (intOf vi).toNat)
  case atStart => exact ⟨0, rfl, Nat.zero_le _, TOwn.nil _ _ _, below_self _⟩
  case round =>
    obtain ⟨k, rfl, hk, hT, hb⟩ := hrel
    have HT := Hid.in hT
    have HB := Hid.in hb
    have hlen : ((ks.take k).map fun s => syV (keySy s)).length = k := by rw [List.length_map, List.length_take, HL.out]; omega
    obtain ⟨pv, cv, hv, hv1, hv2, -⟩ := hT.shape
    rw [hlen] at hv hv1
    subst hv
    have HLEN := Hid.in hlen
    clear hT hb hlen
    by_cases hlt : k < n
    · have hk1 : k < ks.length := by rw [HL.out]; exact hlt
      obtain ⟨b, o, rfl, hc⟩ := strV_cell (H1.out.below HB.out) (by omega)
      have c0 := hc k hk1
      have HTK : Hid (((ks.take (k + 1)).map fun s => syV (keySy s)) = ((ks.take k).map fun s => syV (keySy s)) ++ [syV (keySy ks[k])]) := by
        rw [List.take_succ_eq_append_getElem hk1, List.map_append]; exact rfl
      clear hc
      generalize ((ks.take k).map fun s => syV (keySy s)) = LQ at *
      generalize ks[k] = x at *
      have hl1 : LQ.length ≤ 4398046511000 := by have := HLEN.out; omega
      have hl2 : (LQ.length + 1) * 32 ≤ 140737488355328 := by have := HLEN.out; omega
      go_wp2_with (refine tpushV Try.elemSym _ rfl _ _ rfl w.heap.size _ LQ rfl (HT.out.alloc _) ⟨wr.heap.size, 0, none⟩ 1 (.string x, .int .i64 0, .bool false) ⟨rfl, rfl, rfl⟩ rfl (news3 _ _ _) hl1 hl2 (by have := HB.out.size; simp; omega) ?_; intro v5 w5 hT5 hg5 hb5; have HT5 := Hid.in hT5; have HB5 := Hid.in (hb5 w (below_alloc HB.out _)); clear hT5 hg5 hb5)
      go_roundw
      case rel => exact ⟨k + 1, by go_num, by omega, by rw [HTK.out]; exact HT5.out, HB5.out⟩
      case measure => simp [intOf]; omega
    · have hkn : k = n := by omega
      subst hkn
      have HR : Hid (((ks.take k).map fun s => syV (keySy s)) = (ks.map keySy).map syV) := by
        rw [List.take_of_length_le (by rw [HL.out]; exact Nat.le_refl _), List.map_map]; exact rfl
      rw [HR.out] at HT
      obtain ⟨pr, cr, er, _, hcr, hrow⟩ := HT.out.row3
      obtain ⟨rfl, rfl⟩ : pv = pr ∧ cv = cr := by cases er; exact ⟨rfl, rfl⟩
      have HIN : Hid (ObIn wr ⟨[], ks.map keySy, [], []⟩ none pv none none 0 0 k cv 0 0 0 0) :=
        ⟨rfl, by rw [List.length_map]; exact HL.out, rfl, rfl, Nat.le_refl _, Nat.zero_le _, by unfold maxLen; omega, Nat.zero_le _, Nat.zero_le _, fun h => absurd h (Nat.lt_irrefl 0), hrow, Row3.nil _ _, Row3.nil _ _, keys_fit HS.out⟩
      clear hrow er
      go_wp2_with (go_at_call 58; refine (oright_any ⟨[], ks.map keySy, [], []⟩ none pv none none 0 0 k cv 0 0 0 0 wr HIN.out).mono ?_; rintro e w2 ⟨rfl, hb2⟩; rw [HK.out])
      go_ret
      exact ⟨rfl, below_step HB.out hb2⟩
end Go.Proofs.Ytkpieeldoielgaa

/- image.quietSites, image.rightUnits. -/
namespace Go.Proofs.Ytkpieeldoielgaa
open Go.RowKit

abbrev imA (pb pk ps pu : Option Addr) (nb cb nk ck ns cs nu cu : Nat) : Array Value := #[.slice pb nb cb, .slice pk nk ck, .slice ps ns cs, .slice pu nu cu]
abbrev intV (un : List Int) : List Value := un.map (Value.int .i64)
/-- an image in memory, whoever made it -/
structure ImIn (w : World) (m : IM) (pb pk ps pu : Option Addr) (nb cb nk ck ns cs nu cu : Nat) : Prop where
  lb : m.bs.length = nb
  lk : m.ks.length = nk
  ls : m.si.length = ns
  lu : m.un.length = nu
  kb : nb ≤ cb
  mb : cb ≤ 9223372036854775807
  mc : nk ≤ 140737488355328
  ms : ns ≤ 140737488355328
  mu : nu ≤ 140737488355328
  rb : Row w pb m.bs
  rk : GRow w pk (strV m.ks)
  rs : Row3 w ps (m.si.map siV)
  ru : GRow w pu (intV m.un)
  byt : Byt m.bs
  ksz : ∀ k ∈ m.ks, k.size ≤ maxLen
  uns : ∀ u ∈ m.un, i64P u
theorem ImIn.below {w w' : World} {m : IM} {pb pk ps pu : Option Addr} {nb cb nk ck ns cs nu cu : Nat} (h : ImIn w m pb pk ps pu nb cb nk ck ns cs nu cu) (hb : Below w.heap.size w w') : ImIn w' m pb pk ps pu nb cb nk ck ns cs nu cu :=
  { h with rb := h.rb.below hb, rk := h.rk.below hb, rs := h.rs.below hb, ru := h.ru.below hb }

theorem slice_lo (q : Option Addr) (n5 d5 m : Nat) (W : World) (h : m ≤ n5) : (Instr.sliceAt 26 (.slice q n5 d5) (some (.int .i64 m)) none none).run Try.prog W = .ok (.slice (if d5 = m then q else q.map (·.add (m * 1))) (n5 - m) (d5 - m)) W := by
  have h0 : (0 : Int) ≤ (m : Int) := by omega
  have h1 : (m : Int) ≤ (n5 : Int) := by omega
  simp [Instr.sliceAt, Instr.slice, Instr.sliceBounds, go_sem, h0, h1]
theorem slice_lo' (q : Option Addr) (n5 d5 m : Nat) (W : World) (h : m ≤ n5) : (Instr.slice 26 (.slice q n5 d5) (some (.int .i64 m)) none none).run Try.prog W = .ok (.slice (if d5 = m then q else q.map (·.add (m * 1))) (n5 - m) (d5 - m)) W := by
  rw [← slice_lo q n5 d5 m W h]
  simp [Instr.sliceAt, go_sem]
/-- b[k:] -/
theorem slice_from {w : World} {p : Option Addr} {n c k : Nat} {xs : List Int} (h : Row w p xs) (hn : xs.length = n) (hc : n ≤ c) (hk : k ≤ n) :
    ∃ p', (∀ W, (Instr.sliceAt 26 (.slice p n c) (some (.int .i64 k)) none none).run Try.prog W = .ok (.slice p' (n - k) (c - k)) W) ∧ (∀ W, (Instr.slice 26 (.slice p n c) (some (.int .i64 k)) none none).run Try.prog W = .ok (.slice p' (n - k) (c - k)) W) ∧ Row w p' (xs.drop k) ∧ (p = none → p' = none) ∧ (p' = none → p = none) := by
  refine ⟨_, fun W => slice_lo p n c k W hk, fun W => slice_lo' p n c k W hk, ?_, ?_, ?_⟩
  · by_cases e : c = k
    · intro h0; rw [List.length_drop] at h0; omega
    · rw [if_neg e]
      by_cases h0 : 0 < xs.length
      · obtain ⟨b, o, rfl, _⟩ := h h0
        rw [Nat.mul_one, Option.map_some]
        rw [show (⟨b, o, none⟩ : Addr).add k = ⟨b, o + k, none⟩ from Go.WideShapes.add_plain _ _ _]
        exact h.dropAt k
      · intro h1; rw [List.length_drop] at h1; omega
  · rintro rfl; split <;> rfl
  · intro e
    cases p with
    | none => rfl
    | some a => split at e <;> simp at e

set_option maxRecDepth 20000 in
set_option maxHeartbeats 1000000 in
theorem quietSites_any (m : IM) (pb pk ps pu : Option Addr) (nb cb nk ck ns cs nu cu : Nat) (w : World) (h : ImIn w m pb pk ps pu nb cb nk ck ns cs nu cu) (hat : ∀ s ∈ m.si, 0 ≤ s.at_ ∧ s.at_ ≤ 65531) :
    Calls Try.prog 48 #[.agg (imA pb pk ps pu nb cb nk ck ns cs nu cu)] w fun E w' => E = .returned (.bool (quietB m.bs m.si)) ∧ Below w.heap.size w w' := by
  have H := Hid.in h
  have HAT := Hid.in hat
  have hns := h.ms
  have hcb := h.mb
  have hkb := h.kb
  clear h hat
  obtain ⟨r, hrr⟩ : ∃ r, quietB m.bs m.si = r := ⟨_, rfl⟩
  rw [hrr]
  have HRR := Hid.in hrr
  clear hrr
  have HK0 : Hid (Blk (w.alloc (.cells (imA pb pk ps pu nb cb nk ck ns cs nu cu) 31)) w.heap.size 31 (imA pb pk ps pu nb cb nk ck ns cs nu cu)) := Blk.new _ _ _
  have HB0 : Hid (Below w.heap.size w (w.alloc (.cells (imA pb pk ps pu nb cb nk ck ns cs nu cu) 31))) := new_alloc _ _
  go_enter Try.func48, Try.ntmps48
  go_wp2_with (go_at_call 59; refine (quiet_any _).mono ?_; rintro e w1 ⟨q, cap, rfl, hq, hb1⟩; have HQ := Hid.in hq; have HK1 := Hid.in (HK0.out.grow hb1); have HB1 := Hid.in (below_step HB0.out hb1); have k0 : w1.cell? ⟨w.heap.size, 0, none⟩ = some (.slice pb nb cb) := HK1.out.cell 0; have k2 : w1.cell? ⟨w.heap.size, 2, none⟩ = some (.slice ps ns cs) := HK1.out.cell 2; clear hq hb1)
  have HI := Hid.in (H.out.below HB1.out)
  clear HK0 HB0
  go_loopw [10] (fun vi wr => ∃ j : Nat, vi = .int .i64 j ∧ j ≤ ns ∧ (∀ i (hi : i < m.si.length), i < j → stB m.bs m.si[i].at_ quiet = true) ∧ Below w1.heap.size w1 wr) (fun vi _ => ns - (intOf vi).toNat)
  case atStart => exact ⟨0, rfl, Nat.zero_le _, fun i _ h => absurd h (Nat.not_lt_zero _), below_self w1⟩
  case round =>
    obtain ⟨j, rfl, hj, hgo, hb⟩ := hrel
    have HGO := Hid.in hgo
    have HB := Hid.in hb
    clear hgo hb
    by_cases hlt : j < ns
    · have hjT : j < m.si.length := by rw [HI.out.ls]; exact hlt
      obtain ⟨b, o, rfl, hcc⟩ := ((HI.out.below HB.out).rs).at3 (by omega)
      have c0 := (hcc j hjT).1
      have c1 := (hcc j hjT).2.1
      have c2 := (hcc j hjT).2.2
      have hA := HAT.out _ (List.getElem_mem hjT)
      have HX2 := Hid.in (below_alloc HB.out (.cells #[.int .i64 m.si[j].key, .int .i64 m.si[j].at_, .int .i64 m.si[j].to_] 41))
      have HKx := Hid.in (HK1.out.grow HX2.out)
      have HQx := Hid.in (HQ.out.below HX2.out)
      have HIx := Hid.in (HI.out.below HX2.out)
      have b0 : (wr.alloc (.cells #[.int .i64 m.si[j].key, .int .i64 m.si[j].at_, .int .i64 m.si[j].to_] 41)).cell? ⟨w.heap.size, 0, none⟩ = some (.slice pb nb cb) := HKx.out.cell 0
      clear hcc
      obtain ⟨a, ha⟩ : ∃ a : Nat, m.si[j].at_ = a := ⟨m.si[j].at_.toNat, by omega⟩
      have HS : Hid (stB m.bs m.si[j].at_ quiet = stB m.bs (a : Int) quiet) := by
        have : stB m.bs m.si[j].at_ quiet = stB m.bs (a : Int) quiet := by rw [ha]
        exact this
      rw [ha] at hA
      by_cases hle : a ≤ nb
      · obtain ⟨p', e1, e2, hrow, -, -⟩ := slice_from HIx.out.rb HI.out.lb hkb hle
        have hcl := hasPrefix_any p' (some ⟨q, 0, none⟩) (nb - a) (cb - a) 5 cap (m.bs.drop a) quiet _ (by rw [List.length_drop, HI.out.lb]) rfl (by omega) (by omega) (by omega) hrow HQx.out.row (HI.out.byt.drop a) byt_quiet
        rw [← st_pre (by rw [HI.out.lb]; exact hle)] at hcl
        cases hs : stB m.bs (a : Int) quiet with
        | true =>
          have HG2 : Hid (∀ i (hi : i < m.si.length), i < j + 1 → stB m.bs m.si[i].at_ quiet = true) := fun i hi h => by
            by_cases e : i = j
            · subst e; rw [HS.out]; exact hs
            · exact HGO.out i hi (by omega)
          rw [hs] at hcl
          clear hs HS hrow HKx HIx HQx
          generalize m.si[j].key = x0 at *
          generalize m.si[j].to_ = x2 at *
          generalize m.si[j].at_ = x1 at *
          subst ha
          go_wp2_with (go_at_call 60; refine hcl.mono ?_; rintro e w2 ⟨rfl, rfl⟩)
          go_roundw
          case rel => exact ⟨j + 1, by go_num, by omega, HG2.out, HX2.out⟩
          case measure => simp [intOf]; omega
        | false =>
          have HE : Hid (r = false) := by
            have : r = false := by rw [← HRR.out]; exact all_no hjT (HS.out.trans hs)
            exact this
          rw [hs] at hcl
          clear hs HS hrow HKx HIx HQx
          generalize m.si[j].key = x0 at *
          generalize m.si[j].to_ = x2 at *
          generalize m.si[j].at_ = x1 at *
          subst ha
          go_wp2_with (go_at_call 60; refine hcl.mono ?_; rintro e w2 ⟨rfl, rfl⟩)
          go_ret
          exact ⟨by rw [HE.out]; rfl, below_step HB1.out HX2.out⟩
      · have HE : Hid (r = false) := by
          have : r = false := by rw [← HRR.out]; exact all_no hjT (HS.out.trans (st_far (by rw [HI.out.lb]; omega)))
          exact this
        have hd : decide ((nb : Int) < (a : Int)) = true := decide_eq_true (by omega)
        clear HS HKx HIx HQx
        generalize m.si[j].key = x0 at *
        generalize m.si[j].to_ = x2 at *
        generalize m.si[j].at_ = x1 at *
        subst ha
        go_wp2_with fail
        go_ret
        exact ⟨by rw [HE.out]; rfl, below_step HB1.out HX2.out⟩
    · have HE : Hid (r = true) := by
        have : r = true := by rw [← HRR.out]; exact all_yes fun i hi => HGO.out i hi (by rw [HI.out.ls] at hi; omega)
        exact this
      go_wp2_with fail
      go_ret
      exact ⟨by rw [HE.out]; rfl, below_step HB1.out HB.out⟩

theorem intV_cell {w : World} {p : Option Addr} {un : List Int} (h : GRow w p (intV un)) (h0 : 0 < un.length) : ∃ b o, p = some ⟨b, o, none⟩ ∧ ∀ i (hi : i < un.length), w.cell? ⟨b, o + i, none⟩ = some (.int .i64 un[i]) := by
  obtain ⟨b, o, e, hc⟩ := h (by simpa using h0)
  refine ⟨b, o, e, fun i hi => ?_⟩
  have := hc i (by simpa using hi)
  simpa [hi] using this
theorem unP_at {n : Nat} {un : List Int} {i : Nat} (hi : i < un.length) : unP n un i = decide (lastU un i ≤ un[i] ∧ un[i] % 4 = 0 ∧ un[i] ≤ n) := by
  unfold unP
  rw [List.getD_eq_getElem?_getD, List.getElem?_eq_getElem hi]; rfl
theorem lastU_succ {un : List Int} {i : Nat} (hi : i < un.length) : lastU un (i + 1) = un[i] := by
  unfold lastU
  rw [if_neg (by omega), Nat.add_sub_cancel, List.getD_eq_getElem?_getD, List.getElem?_eq_getElem hi]; rfl

set_option maxRecDepth 20000 in
set_option maxHeartbeats 1000000 in
theorem rightUnits_any (m : IM) (pb pk ps pu : Option Addr) (nb cb nk ck ns cs nu cu : Nat) (w : World) (h : ImIn w m pb pk ps pu nb cb nk ck ns cs nu cu) :
    Calls Try.prog 49 #[.agg (imA pb pk ps pu nb cb nk ck ns cs nu cu)] w fun E w' => E = .returned (.bool (unitsB m.bs.length m.un)) ∧ Below w.heap.size w w' := by
  have H := Hid.in h
  have hnu := h.mu
  have hcb := h.mb
  have hkb := h.kb
  clear h
  obtain ⟨r, hrr⟩ : ∃ r, unitsB m.bs.length m.un = r := ⟨_, rfl⟩
  rw [hrr]
  have HRR := Hid.in hrr
  clear hrr
  have HK0 : Hid (Blk (w.alloc (.cells (imA pb pk ps pu nb cb nk ck ns cs nu cu) 31)) w.heap.size 31 (imA pb pk ps pu nb cb nk ck ns cs nu cu)) := Blk.new _ _ _
  have HB0 : Hid (Below w.heap.size w (w.alloc (.cells (imA pb pk ps pu nb cb nk ck ns cs nu cu) 31))) := new_alloc _ _
  have HI := Hid.in (H.out.below HB0.out)
  have k0 : (w.alloc (.cells (imA pb pk ps pu nb cb nk ck ns cs nu cu) 31)).cell? ⟨w.heap.size, 0, none⟩ = some (.slice pb nb cb) := HK0.out.cell 0
  have k3 : (w.alloc (.cells (imA pb pk ps pu nb cb nk ck ns cs nu cu) 31)).cell? ⟨w.heap.size, 3, none⟩ = some (.slice pu nu cu) := HK0.out.cell 3
  by_cases h16 : nu ≤ 16
  · have q1 : decide ((16 : Int) < (nu : Int)) = false := decide_eq_false (by omega)
    by_cases h0 : 0 < nu
    · have q2 : decide ((0 : Int) < (nu : Int)) = true := decide_eq_true (by omega)
      obtain ⟨b, o, rfl, hc⟩ := intV_cell HI.out.ru (by rw [HI.out.lu]; exact h0)
      have HC := Hid.in hc
      have c0 := hc 0 (by rw [HI.out.lu]; exact h0)
      rw [Nat.add_zero] at c0
      have hu0 : m.un.getD 0 0 = m.un[0]'(by rw [HI.out.lu]; exact h0) := by rw [List.getD_eq_getElem?_getD, List.getElem?_eq_getElem (by rw [HI.out.lu]; exact h0)]; rfl
      have HU := Hid.in hu0
      have HUI := Hid.in (HI.out.uns _ (List.getElem_mem (show 0 < m.un.length by rw [HI.out.lu]; exact h0)))
      generalize hx : m.un[0]'(by rw [HI.out.lu]; exact h0) = x at *
      have HX := Hid.in hx
      clear hc hu0 hx
      by_cases hz : x = 0
      · have q3 : decide (x = 0) = true := decide_eq_true hz
        have HF : Hid (r = (List.range m.un.length).all (unP m.bs.length m.un)) := by
          have : r = (List.range m.un.length).all (unP m.bs.length m.un) := by
            rw [← HRR.out]; unfold unitsB
            rw [decide_eq_true (by rw [HI.out.lu, HU.out]; exact ⟨h16, hz⟩), Bool.true_and]
          exact this
        subst hz
        clear HC HX HUI HU
        go_enter Try.func49, Try.ntmps49
        go_wp2_with fail
        go_loopw [3, 5, 26] (fun vl _ vi wr => ∃ j : Nat, vi = .int .i64 j ∧ j ≤ nu ∧ vl = .int .i64 (lastU m.un j) ∧ 0 ≤ lastU m.un j ∧ (∀ i, i < j → unP m.bs.length m.un i = true) ∧ Below (w.alloc (.cells (imA pb pk ps (some ⟨b, o, none⟩) nb cb nk ck ns cs nu cu) 31)).heap.size (w.alloc (.cells (imA pb pk ps (some ⟨b, o, none⟩) nb cb nk ck ns cs nu cu) 31)) wr) (fun _ _ vi _ => nu - (intOf vi).toNat)
        case atStart => exact ⟨0, rfl, Nat.zero_le _, rfl, Int.le_refl _, fun i h => absurd h (Nat.not_lt_zero _), below_self _⟩
        case round =>
          obtain ⟨j, rfl, hj, rfl, hl0, hgo, hb⟩ := hrel
          have HGO := Hid.in hgo
          have HB := Hid.in hb
          clear hgo hb
          by_cases hlt : j < nu
          · have hjT : j < m.un.length := by rw [HI.out.lu]; exact hlt
            have hIx := HI.out.below HB.out
            obtain ⟨b', o', e', hcc⟩ := intV_cell hIx.ru (by rw [HI.out.lu]; exact h0)
            obtain ⟨rfl, rfl⟩ : b = b' ∧ o = o' := by cases e'; exact ⟨rfl, rfl⟩
            have cj := hcc j hjT
            have b0 : wr.cell? ⟨w.heap.size, 0, none⟩ = some (.slice pb nb cb) := (HK0.out.grow HB.out).cell 0
            have hu := HI.out.uns _ (List.getElem_mem hjT)
            unfold i64P at hu
            have HP : Hid (unP m.bs.length m.un j = decide (lastU m.un j ≤ m.un[j] ∧ m.un[j] % 4 = 0 ∧ m.un[j] ≤ nb)) := by
              have := unP_at (n := m.bs.length) hjT
              rw [HI.out.lb] at this
              rw [HI.out.lb]
              exact this
            have HLS := Hid.in (lastU_succ hjT)
            clear hcc e' hIx
            generalize m.un[j] = x at *
            generalize lastU m.un j = l at *
            by_cases g1 : x < l
            · have HE : Hid (r = false) := by
                have : r = false := by rw [HF.out]; exact range_no hjT (HP.out.trans (decide_eq_false (by omega)))
                exact this
              have q4 : decide (x < l) = true := decide_eq_true g1
              clear HP HLS HF HRR HGO
              go_wp2_with fail
              go_ret
              exact ⟨by rw [HE.out]; rfl, below_step HB0.out HB.out⟩
            · have q4 : decide (x < l) = false := decide_eq_false g1
              have ht : x.tmod 4 = x % 4 := Int.tmod_eq_emod_of_nonneg (by omega)
              by_cases g2 : x % 4 = 0
              · have q5 : x.tmod 4 = 0 := ht.trans g2
                clear ht
                by_cases g3 : x ≤ nb
                · have q6 : decide ((nb : Int) < x) = false := decide_eq_false (by omega)
                  have HG2 : Hid (∀ i, i < j + 1 → unP m.bs.length m.un i = true) := fun i h => by
                    by_cases e : i = j
                    · subst e; exact HP.out.trans (decide_eq_true ⟨by omega, g2, g3⟩)
                    · exact HGO.out i (by omega)
                  clear HP HF HRR HGO
                  go_wp2_with fail
                  go_roundw
                  case rel => exact ⟨j + 1, by go_num, by omega, by rw [HLS.out], by rw [HLS.out]; omega, HG2.out, HB.out⟩
                  case measure => simp [intOf]; omega
                · have HE : Hid (r = false) := by
                    have : r = false := by rw [HF.out]; exact range_no hjT (HP.out.trans (decide_eq_false (by omega)))
                    exact this
                  have q6 : decide ((nb : Int) < x) = true := decide_eq_true (by omega)
                  clear HP HLS HF HRR HGO
                  go_wp2_with fail
                  go_ret
                  exact ⟨by rw [HE.out]; rfl, below_step HB0.out HB.out⟩
              · have HE : Hid (r = false) := by
                  have : r = false := by rw [HF.out]; exact range_no hjT (HP.out.trans (decide_eq_false (by omega)))
                  exact this
                have q5 : decide (x.tmod 4 = 0) = false := decide_eq_false (by rw [ht]; exact g2)
                clear HP HLS HF HRR HGO
                go_wp2_with fail
                go_ret
                exact ⟨by rw [HE.out]; rfl, below_step HB0.out HB.out⟩
          · have HE : Hid (r = true) := by
              have : r = true := by rw [HF.out]; exact range_yes fun i hi => HGO.out i (by rw [HI.out.lu] at hi; omega)
              exact this
            go_wp2_with fail
            go_ret
            exact ⟨by rw [HE.out]; rfl, below_step HB0.out HB.out⟩
      · have HF : Hid (r = false) := by
          have : r = false := by
            rw [← HRR.out]; unfold unitsB
            rw [decide_eq_false (by rw [HU.out]; exact fun h => hz h.2), Bool.false_and]
          exact this
        have q3 : decide (x = 0) = false := decide_eq_false hz
        go_enter Try.func49, Try.ntmps49
        go_wp2_with fail
        go_ret
        exact ⟨by rw [HF.out]; rfl, HB0.out⟩
    · have HF : Hid (r = true) := by
        have : r = true := by
          have e : m.un = [] := List.eq_nil_of_length_eq_zero (by rw [HI.out.lu]; omega)
          rw [← HRR.out, e]; rfl
        exact this
      obtain rfl : nu = 0 := by omega
      go_enter Try.func49, Try.ntmps49
      go_wp2_with fail
      go_loopw [3, 5, 26] (fun _ _ vi wr => vi = .int .i64 0 ∧ Below w.heap.size w wr) (fun _ _ _ _ => 0)
      case atStart => exact ⟨rfl, HB0.out⟩
      case round =>
        obtain ⟨rfl, hb⟩ := hrel
        go_wp2_with fail
        go_ret
        exact ⟨by rw [HF.out]; rfl, hb⟩
  · have HF : Hid (r = false) := by
      have : r = false := by
        rw [← HRR.out]; unfold unitsB
        rw [decide_eq_false (by rw [HI.out.lu]; exact fun h => h16 h.1), Bool.false_and]
      exact this
    have q1 : decide ((16 : Int) < (nu : Int)) = true := decide_eq_true (by omega)
    go_enter Try.func49, Try.ntmps49
    go_wp2_with fail
    go_ret
    exact ⟨by rw [HF.out]; rfl, HB0.out⟩
end Go.Proofs.Ytkpieeldoielgaa

/- image.Right answers P9.3. -/
namespace Go.Proofs.Ytkpieeldoielgaa
open Go.RowKit

theorem right_sites {T : List Si} {k : Nat} (h : rightS T k = true) : k ≤ 64 ∧ T.length ≤ 256 ∧ ∀ s ∈ T, 0 ≤ s.at_ ∧ s.at_ ≤ 65531 := by
  unfold rightS at h
  simp only [Bool.and_eq_true, decide_eq_true_eq] at h
  obtain ⟨⟨⟨⟨_, h1, h2⟩, h3⟩, _⟩, _⟩ := h
  refine ⟨by omega, h2, fun s hs => ?_⟩
  have := List.all_eq_true.1 h3 s hs
  unfold siteB at this
  simp only [Bool.and_eq_true, decide_eq_true_eq] at this
  omega

set_option maxRecDepth 20000 in
set_option maxHeartbeats 1000000 in
theorem iright_any (m : IM) (pb pk ps pu : Option Addr) (nb cb nk ck ns cs nu cu : Nat) (w : World) (h : ImIn w m pb pk ps pu nb cb nk ck ns cs nu cu) :
    Calls Try.prog 26 #[.agg (imA pb pk ps pu nb cb nk ck ns cs nu cu)] w fun E w' => E = .returned (.bool (okI m)) ∧ Below w.heap.size w w' := by
  have H := Hid.in h
  have hkb := h.kb
  have hcb := h.mb
  have hnk := h.mc
  clear h
  have HE : Hid (okI m = (decide (nb ≤ 65536) && rightS m.si nk && keysB m.ks && quietB m.bs m.si && unitsB m.bs.length m.un)) := by
    have : okI m = (decide (nb ≤ 65536) && rightS m.si nk && keysB m.ks && quietB m.bs m.si && unitsB m.bs.length m.un) := by
      unfold okI; rw [H.out.lk, H.out.lb]
    exact this
  obtain ⟨r, hrr⟩ : ∃ r, okI m = r := ⟨_, rfl⟩
  rw [hrr]
  rw [hrr] at HE
  clear hrr
  have HK0 : Hid (Blk (w.alloc (.cells (imA pb pk ps pu nb cb nk ck ns cs nu cu) 31)) w.heap.size 31 (imA pb pk ps pu nb cb nk ck ns cs nu cu)) := Blk.new _ _ _
  have HB0 : Hid (Below w.heap.size w (w.alloc (.cells (imA pb pk ps pu nb cb nk ck ns cs nu cu) 31))) := new_alloc _ _
  have k0 : (w.alloc (.cells (imA pb pk ps pu nb cb nk ck ns cs nu cu) 31)).cell? ⟨w.heap.size, 0, none⟩ = some (.slice pb nb cb) := HK0.out.cell 0
  have k1 : (w.alloc (.cells (imA pb pk ps pu nb cb nk ck ns cs nu cu) 31)).cell? ⟨w.heap.size, 1, none⟩ = some (.slice pk nk ck) := HK0.out.cell 1
  have k2 : (w.alloc (.cells (imA pb pk ps pu nb cb nk ck ns cs nu cu) 31)).cell? ⟨w.heap.size, 2, none⟩ = some (.slice ps ns cs) := HK0.out.cell 2
  have hS := fun W (hW : Below w.heap.size w W) => sright_any ps ns cs m.si (nk : Int) W H.out.ls H.out.ms (H.out.below hW).rs
  by_cases h6 : nb ≤ 65536
  · have q1 : decide ((nb : Int) ≤ 65536) = true := decide_eq_true (by omega)
    rw [decide_eq_true h6, Bool.true_and] at HE
    cases hs : rightS m.si nk with
    | false =>
      rw [hs] at hS
      rw [hs, Bool.false_and, Bool.false_and, Bool.false_and] at HE
      go_enter Try.func26, Try.ntmps26
      go_wp2_with (go_at_call 46; refine (hS _ HB0.out).mono ?_; rintro e w1 ⟨rfl, hb1⟩)
      go_ret
      exact ⟨by rw [HE.out]; rfl, below_step HB0.out hb1⟩
    | true =>
      obtain ⟨h64, h256, hat⟩ := right_sites hs
      rw [hs] at hS
      rw [hs, Bool.true_and] at HE
      have HAT := Hid.in hat
      have hK := fun W (hW : Below w.heap.size w W) => rightKeys_any pk nk ck m.ks W H.out.lk h64 H.out.ksz (H.out.below hW).rk
      have hQ := fun W (hW : Below w.heap.size w W) => quietSites_any m pb pk ps pu nb cb nk ck ns cs nu cu W (H.out.below hW) HAT.out
      have hU := fun W (hW : Below w.heap.size w W) => rightUnits_any m pb pk ps pu nb cb nk ck ns cs nu cu W (H.out.below hW)
      clear hs hat
      generalize unitsB m.bs.length m.un = ru at *
      generalize keysB m.ks = rk at *
      generalize quietB m.bs m.si = rq at *
      have HFIN : ∀ {x : Bool} {w' : World}, x = r → Below w.heap.size w w' → Ending.returned (.bool x) = .returned (.bool r) ∧ Below w.heap.size w w' := fun e hb => ⟨by rw [e], hb⟩
      cases rk with
      | false =>
        go_enter Try.func26, Try.ntmps26
        go_wp2_with (first
          | (go_at_call 46; refine (hS _ HB0.out).mono ?_; rintro e w1 ⟨rfl, hb1⟩; have HB1 := Hid.in (below_step HB0.out hb1); have j1 : w1.cell? ⟨w.heap.size, 1, none⟩ = some (.slice pk nk ck) := (HK0.out.grow hb1).cell 1; clear hb1)
          | (go_at_call 47; refine (hK _ HB1.out).mono ?_; rintro e w2 ⟨rfl, hb2⟩; have HB2 := Hid.in (below_step HB1.out hb2); clear hb2))
        go_ret
        exact HFIN (by rw [HE.out]; rfl) HB2.out
      | true => 
        cases rq with
        | false =>
          go_enter Try.func26, Try.ntmps26
          go_wp2_with (first
            | (go_at_call 46; refine (hS _ HB0.out).mono ?_; rintro e w1 ⟨rfl, hb1⟩; have HB1 := Hid.in (below_step HB0.out hb1); have HK1 := Hid.in (HK0.out.grow hb1); have j1 : w1.cell? ⟨w.heap.size, 1, none⟩ = some (.slice pk nk ck) := HK1.out.cell 1; clear hb1)
            | (go_at_call 47; refine (hK _ HB1.out).mono ?_; rintro e w2 ⟨rfl, hb2⟩; have HB2 := Hid.in (below_step HB1.out hb2); have HK2 := Hid.in (HK1.out.grow hb2); have i0 : w2.cell? ⟨w.heap.size, 0, none⟩ = some (.slice pb nb cb) := HK2.out.cell 0; have i1 : w2.cell? ⟨w.heap.size, 1, none⟩ = some (.slice pk nk ck) := HK2.out.cell 1; have i2 : w2.cell? ⟨w.heap.size, 2, none⟩ = some (.slice ps ns cs) := HK2.out.cell 2; have i3 : w2.cell? ⟨w.heap.size, 3, none⟩ = some (.slice pu nu cu) := HK2.out.cell 3; clear hb2)
            | (go_at_call 48; refine (hQ _ HB2.out).mono ?_; rintro e w3 ⟨rfl, hb3⟩; have HB3 := Hid.in (below_step HB2.out hb3); have HK3 := Hid.in (HK2.out.grow hb3); have l0 : w3.cell? ⟨w.heap.size, 0, none⟩ = some (.slice pb nb cb) := HK3.out.cell 0; have l1 : w3.cell? ⟨w.heap.size, 1, none⟩ = some (.slice pk nk ck) := HK3.out.cell 1; have l2 : w3.cell? ⟨w.heap.size, 2, none⟩ = some (.slice ps ns cs) := HK3.out.cell 2; have l3 : w3.cell? ⟨w.heap.size, 3, none⟩ = some (.slice pu nu cu) := HK3.out.cell 3; clear hb3)
            | (go_at_call 49; refine (hU _ HB3.out).mono ?_; rintro e w4 ⟨rfl, hb4⟩; have HB4 := Hid.in (below_step HB3.out hb4); clear hb4))
          go_ret
          exact HFIN (by rw [HE.out]; rfl) HB3.out
        | true =>
          go_enter Try.func26, Try.ntmps26
          go_wp2_with (first
            | (go_at_call 46; refine (hS _ HB0.out).mono ?_; rintro e w1 ⟨rfl, hb1⟩; have HB1 := Hid.in (below_step HB0.out hb1); have HK1 := Hid.in (HK0.out.grow hb1); have j1 : w1.cell? ⟨w.heap.size, 1, none⟩ = some (.slice pk nk ck) := HK1.out.cell 1; clear hb1)
            | (go_at_call 47; refine (hK _ HB1.out).mono ?_; rintro e w2 ⟨rfl, hb2⟩; have HB2 := Hid.in (below_step HB1.out hb2); have HK2 := Hid.in (HK1.out.grow hb2); have i0 : w2.cell? ⟨w.heap.size, 0, none⟩ = some (.slice pb nb cb) := HK2.out.cell 0; have i1 : w2.cell? ⟨w.heap.size, 1, none⟩ = some (.slice pk nk ck) := HK2.out.cell 1; have i2 : w2.cell? ⟨w.heap.size, 2, none⟩ = some (.slice ps ns cs) := HK2.out.cell 2; have i3 : w2.cell? ⟨w.heap.size, 3, none⟩ = some (.slice pu nu cu) := HK2.out.cell 3; clear hb2)
            | (go_at_call 48; refine (hQ _ HB2.out).mono ?_; rintro e w3 ⟨rfl, hb3⟩; have HB3 := Hid.in (below_step HB2.out hb3); have HK3 := Hid.in (HK2.out.grow hb3); have l0 : w3.cell? ⟨w.heap.size, 0, none⟩ = some (.slice pb nb cb) := HK3.out.cell 0; have l1 : w3.cell? ⟨w.heap.size, 1, none⟩ = some (.slice pk nk ck) := HK3.out.cell 1; have l2 : w3.cell? ⟨w.heap.size, 2, none⟩ = some (.slice ps ns cs) := HK3.out.cell 2; have l3 : w3.cell? ⟨w.heap.size, 3, none⟩ = some (.slice pu nu cu) := HK3.out.cell 3; clear hb3)
            | (go_at_call 49; refine (hU _ HB3.out).mono ?_; rintro e w4 ⟨rfl, hb4⟩; have HB4 := Hid.in (below_step HB3.out hb4); clear hb4))
          go_ret
          exact HFIN (by rw [HE.out]; simp) HB4.out
  · have q1 : decide ((nb : Int) ≤ 65536) = false := decide_eq_false (by omega)
    rw [decide_eq_false h6, Bool.false_and, Bool.false_and, Bool.false_and, Bool.false_and] at HE
    go_enter Try.func26, Try.ntmps26
    go_wp2_with fail
    go_ret
    exact ⟨by rw [HE.out]; rfl, HB0.out⟩
end Go.Proofs.Ytkpieeldoielgaa

/- switchyardkit.SameSites and CopySites. -/
namespace Go.Proofs.Ytkpieeldoielgaa
open Go.RowKit

theorem Try.elemSite : Elem3 28 41 24 := ⟨Try.underlying28, .agg #[.int .i64 0, .int .i64 0, .int .i64 0], rfl, by kernel_rfl⟩

set_option maxRecDepth 20000 in
set_option maxHeartbeats 1000000 in
theorem sameSites_any (p q : Option Addr) (n c m d : Nat) (L M : List Si) (w : World) (hn : L.length = n) (hm : M.length = m) (hn6 : n ≤ 9223372036854775807) (_hm6 : m ≤ 9223372036854775807) (h1 : Row3 w p (L.map siV)) (h2 : Row3 w q (M.map siV)) :
    Calls Try.prog 22 #[.slice p n c, .slice q m d] w fun E w' => (∃ b, E = .returned (.bool b) ∧ (b = true ↔ L = M)) ∧ ∃ z, w' = w.drewN z := by
  by_cases hl : n = m
  · subst hl
    have HL := Hid.in hn
    have HM := Hid.in hm
    have H1 := Hid.in h1
    have H2 := Hid.in h2
    clear hn hm h1 h2
    go_enter Try.func22, Try.ntmps22
    go_wp2_with fail
    go_loopw [5] (fun vi wr => ∃ k z : Nat, vi = .int .i64 k ∧ k ≤ n ∧ L.take k = M.take k ∧ wr = w.drewN z) (fun vi _ => n - (intOf vi).toNat)
    case atStart => exact ⟨0, 0, rfl, Nat.zero_le _, rfl, rfl⟩
    case round =>
      obtain ⟨k, z, rfl, hk, ht, rfl⟩ := hrel
      have HT := Hid.in ht
      clear ht
      by_cases hlt : k < n
      · have hk1 : k < L.length := by rw [HL.out]; exact hlt
        have hk2 : k < M.length := by rw [HM.out]; exact hlt
        obtain ⟨b, o, rfl, hc⟩ := H1.out (by rw [List.length_map]; omega)
        obtain ⟨c0, c1, c2⟩ := cells3 hc k (by rw [List.length_map]; exact hk1)
        obtain ⟨b', o', rfl, hc'⟩ := H2.out (by rw [List.length_map]; omega)
        obtain ⟨e0, e1, e2⟩ := cells3 hc' k (by rw [List.length_map]; exact hk2)
        simp only [List.getElem_map, siV] at c0 c1 c2 e0 e1 e2
        have HE : Hid (L[k] = M[k] → L.take (k + 1) = M.take (k + 1)) := fun e => take_step HT.out hk1 hk2 e
        have HNE : Hid (L[k] ≠ M[k] → L ≠ M) := fun e e' => e (by subst e'; rfl)
        clear hc hc' H1 H2
        generalize L[k] = x at *
        generalize M[k] = y at *
        obtain ⟨x0, x1, x2⟩ := x
        obtain ⟨y0, y1, y2⟩ := y
        simp only at c0 c1 c2 e0 e1 e2
        by_cases h0 : x0 = y0
        · subst h0
          by_cases h1 : x1 = y1
          · subst h1
            by_cases h2 : x2 = y2
            · subst h2
              go_upto_region 6 with fail
              go_quiet (fail)
              go_wp2_with fail
              go_roundw
              case rel => exact ⟨k + 1, z + nq, by go_num, by omega, HE.out rfl, by simp⟩
              case measure => simp [intOf]; omega
            · skip
              go_upto_region 6 with fail
              go_quiet (fail)
              go_wp2_with fail
              go_ret
              exact ⟨⟨false, rfl, by simp [HNE.out (fun e => h2 (by injection e))]⟩, z + nq, drewN_two _ _ _⟩
          · skip
            go_upto_region 6 with fail
            go_quiet (fail)
            go_wp2_with fail
            go_ret
            exact ⟨⟨false, rfl, by simp [HNE.out (fun e => h1 (by injection e))]⟩, z + nq, drewN_two _ _ _⟩
        · skip
          go_upto_region 6 with fail
          go_quiet (fail)
          go_wp2_with fail
          go_ret
          exact ⟨⟨false, rfl, by simp [HNE.out (fun e => h0 (by injection e))]⟩, z + nq, drewN_two _ _ _⟩
      · have hkn : k = n := by omega
        subst hkn
        have HR : Hid (L = M) := take_all HT.out (by rw [HL.out]; exact Nat.le_refl _) (by rw [HM.out]; exact Nat.le_refl _)
        go_wp2_with fail
        go_ret
        exact ⟨⟨true, rfl, by simp [HR.out]⟩, z, rfl⟩
  · have HR : Hid (L ≠ M) := fun e => hl (by rw [← hn, ← hm, e])
    clear hn hm h1 h2
    go_enter Try.func22, Try.ntmps22
    go_wp2_with fail
    go_ret
    exact ⟨⟨false, rfl, by simp [HR.out]⟩, 0, rfl⟩

theorem tpushW {ops : Array Oper} {rest : List Oper} {o : Oper} {a : Act} {Q : Exit → Act → World → Prop} {t T : TypeId} {by_ : Nat} (he : Elem3 t T by_) (w : World) (hgd : o.guard = none) (s x : Operand)
    (ho : o.op = .call { callee := .builtin .append, args := #[s, x], argTypes := #[t, t] }) (B : Nat) (v : Value) (L : List V3) (hs : a.eval s = v) (hown : TOwn T w B v L)
    (ad : Addr) (c : Nat) (q : V3) (hq : one3 q) (hx : a.eval x = .slice (some ad) 1 c) (hnews : ∀ j u, (l3 q)[j]? = some u → w.cell? (ad.add j) = some u)
    (hlen : L.length ≤ 5864062014640) (hby : (L.length + 1) * by_ ≤ 140737488355328) (hB : B ≤ w.heap.size)
    (h : ∀ v' w', TOwn T w' B v' (L ++ [q]) → w.grownBy w' v.ownBlock → (∀ w0, Below B w0 w → Below B w0 w') → wpList Try.prog ops Q rest (a.put o.dst v') w') :
    wpList Try.prog ops Q (o :: rest) a w := by
  obtain ⟨hu, z, hzc, hinfo⟩ := he
  obtain ⟨i0, hi, hz0, hz1, hz2⟩ := info_parts hinfo
  refine wpList_append_own w hgd s x t ho B T i0 z 3 by_ hu hi hz0 hz1 hz2 hzc (by decide) v L.length (c3 L) hs hown ad 1 c (l3 q) hx rfl hnews (one3_mem hq) (by unfold maxLen; omega) hby hB ?_
  intro v' w' h2 h3 _
  refine h v' w' ?_ h3 (fun w0 hb => hb.grown h3 hB fun k hk => (World.ownsRow.lt hown k hk).1)
  unfold TOwn
  rw [List.length_append, c3_two]
  have e : c3 [q] = l3 q := by simp [c3]
  rw [e]
  exact h2

set_option maxRecDepth 20000 in
set_option maxHeartbeats 1000000 in
theorem copySites_any (p : Option Addr) (n c : Nat) (L : List Si) (w : World) (hn : L.length = n) (hn6 : n ≤ 5864062014634) (h1 : Row3 w p (L.map siV)) :
    Calls Try.prog 29 #[.slice p n c] w fun E w' => ∃ v, E = .returned v ∧ TOwn 41 w' w.heap.size v (L.map siV) ∧ Below w.heap.size w w' := by
  have HL := Hid.in hn
  have H1 := Hid.in h1
  clear hn h1
  go_enter Try.func29, Try.ntmps29
  go_wp2_with fail
  go_loopw [3, 4] (fun v vi wr => ∃ k : Nat, vi = .int .i64 k ∧ k ≤ n ∧ TOwn 41 wr w.heap.size v ((L.take k).map siV) ∧ Below w.heap.size w wr) (fun _ vi _ => n - (intOf vi).toNat)
  case atStart => exact ⟨0, rfl, Nat.zero_le _, TOwn.nil _ _ _, below_self _⟩
  case round =>
    obtain ⟨k, rfl, hk, hT, hb⟩ := hrel
    have HT := Hid.in hT
    have HB := Hid.in hb
    have hlen : ((L.take k).map siV).length = k := by rw [List.length_map, List.length_take, HL.out]; omega
    obtain ⟨pv, cv, hv, -, -, -⟩ := hT.shape
    rw [hlen] at hv
    subst hv
    have HLEN := Hid.in hlen
    clear hT hb hlen
    by_cases hlt : k < n
    · have hk1 : k < L.length := by rw [HL.out]; exact hlt
      obtain ⟨b, o, rfl, hc⟩ := (H1.out.below HB.out) (by rw [List.length_map]; omega)
      obtain ⟨c0, c1, c2⟩ := cells3 hc k (by rw [List.length_map]; exact hk1)
      simp only [List.getElem_map, siV] at c0 c1 c2
      have HTK : Hid ((L.take (k + 1)).map siV = (L.take k).map siV ++ [siV L[k]]) := by
        rw [List.take_succ_eq_append_getElem hk1, List.map_append]; exact rfl
      clear hc
      generalize (L.take k).map siV = LQ at *
      generalize L[k] = x at *
      have hl1 : LQ.length ≤ 5864062014640 := by have := HLEN.out; omega
      have hl2 : (LQ.length + 1) * 24 ≤ 140737488355328 := by have := HLEN.out; omega
      go_wp2_with (refine tpushW Try.elemSite _ rfl _ _ rfl w.heap.size _ LQ rfl (HT.out.alloc _) ⟨wr.heap.size, 0, none⟩ 1 (.int .i64 x.key, .int .i64 x.at_, .int .i64 x.to_) ⟨rfl, rfl, rfl⟩ rfl (news3 _ _ _) hl1 hl2 (by have := HB.out.size; simp; omega) ?_; intro v5 w5 hT5 hg5 hb5; have HT5 := Hid.in hT5; have HB5 := Hid.in (hb5 w (below_alloc HB.out _)); clear hT5 hg5 hb5)
      go_roundw
      case rel => exact ⟨k + 1, by go_num, by omega, by rw [HTK.out]; exact HT5.out, HB5.out⟩
      case measure => simp [intOf]; omega
    · have hkn : k = n := by omega
      subst hkn
      have HR : Hid ((L.take k).map siV = L.map siV) := by
        rw [List.take_of_length_le (by rw [HL.out]; exact Nat.le_refl _)]; exact rfl
      rw [HR.out] at HT
      go_wp2_with fail
      go_ret
      exact ⟨_, rfl, HT.out, HB.out⟩


end Go.Proofs.Ytkpieeldoielgaa

/- Ours: an image in memory of its own. -/
namespace Go.Proofs.Ytkpieeldoielgaa
open Go.RowKit

theorem Blk.cells4 {W : World} {b : Nat} {T : TypeId} {x0 x1 x2 x3 : Value} (h : Blk W b T #[x0, x1, x2, x3]) : W.cell? ⟨b, 0, none⟩ = some x0 ∧ W.cell? ⟨b, 1, none⟩ = some x1 ∧ W.cell? ⟨b, 2, none⟩ = some x2 ∧ W.cell? ⟨b, 3, none⟩ = some x3 :=
  ⟨h.cell 0, h.cell 1, h.cell 2, h.cell 3⟩
theorem own_kept {w w' : World} {B e s n g : Nat} {v : Value} {xs : List Value} (h : w.ownsRow B e s v n xs) (hg : w.grownBy w' (some g)) (hB : g < B) : w'.ownsRow B e s v n xs :=
  h.kept hg (Or.inr fun e => by have := (World.ownsRow.lt h g e).1; omega)
/-- an image in memory of its own -/
structure ImOwn (w : World) (B : Nat) (m : IM) (vb vk vs vu : Value) : Prop where
  b : OwnV w B vb m.bs
  k : GOwnV 9 w B vk (strV m.ks)
  s : TOwn 41 w B vs (m.si.map siV)
  u : GOwnV 3 w B vu (intV m.un)
abbrev nil4 : Array Value := #[.slice none 0 0, .slice none 0 0, .slice none 0 0, .slice none 0 0]
theorem own_set {w : World} {B e s n M i : Nat} {v u : Value} {xs : List Value} (h : w.ownsRow B e s v n xs) (hB : M < B) : (w.setCell ⟨M, i, none⟩ u).ownsRow B e s v n xs := own_kept h (grown_setCell _ _ _ _) hB
theorem own_lower {w : World} {B B' e s n : Nat} {v : Value} {xs : List Value} (h : w.ownsRow B e s v n xs) (hB : B' ≤ B) : w.ownsRow B' e s v n xs := by
  refine ⟨h.1, ?_⟩
  rcases h.2 with a | ⟨g, cap, cur, e1, h1, r⟩
  · exact Or.inl a
  · exact Or.inr ⟨g, cap, cur, e1, Nat.le_trans hB h1, r⟩
theorem OwnV.sliceC {w : World} {B : Nat} {v : Value} {xs : List Int} (h : OwnV w B v xs) : ∃ p cap, v = .slice p xs.length cap ∧ Row w p xs ∧ xs.length ≤ cap ∧ cap ≤ 9223372036854775807 := by
  rcases h.shape with ⟨rfl, rfl⟩ | ⟨g, cap, rfl, ho⟩
  · exact ⟨none, 0, rfl, fun h => absurd h (Nat.lt_irrefl 0), Nat.le_refl _, by omega⟩
  · obtain ⟨cur, _, _, h3, h4, _⟩ := ho.parts
    exact ⟨_, cap, rfl, ho.row, h3, by unfold maxLen at h4; omega⟩
theorem GOwnV.sl {T : TypeId} {w : World} {B : Nat} {v : Value} {vs : List Value} (h : GOwnV T w B v vs) : ∃ p n cap, v = .slice p n cap ∧ n = vs.length := by
  obtain ⟨p, cap, e, _⟩ := h.slice; exact ⟨p, _, cap, e, rfl⟩
theorem TOwn.sl {T : TypeId} {w : World} {B : Nat} {v : Value} {vs : List V3} (h : TOwn T w B v vs) : ∃ p n cap, v = .slice p n cap ∧ n = vs.length := by
  obtain ⟨p, cap, e, _⟩ := h.shape; exact ⟨p, _, cap, e, rfl⟩
theorem OwnV.sl {w : World} {B : Nat} {v : Value} {vs : List Int} (h : OwnV w B v vs) : ∃ p n cap, v = .slice p n cap ∧ n = vs.length ∧ n ≤ cap ∧ cap ≤ 9223372036854775807 := by
  obtain ⟨p, cap, e, _, h1, h2⟩ := h.sliceC; exact ⟨p, _, cap, e, rfl, h1, h2⟩
theorem ImOwn.lower {w : World} {B B' : Nat} {m : IM} {vb vk vs vu : Value} (h : ImOwn w B m vb vk vs vu) (hB : B' ≤ B) : ImOwn w B' m vb vk vs vu :=
  ⟨own_lower h.b hB, own_lower h.k hB, own_lower h.s hB, own_lower h.u hB⟩
theorem ImOwn.below {w w' : World} {B : Nat} {m : IM} {vb vk vs vu : Value} (h : ImOwn w B m vb vk vs vu) (hb : Below w.heap.size w w') : ImOwn w' B m vb vk vs vu :=
  ⟨h.b.below hb, h.k.below hb, h.s.below hb, h.u.below hb⟩
theorem ImOwn.set {w : World} {B R i : Nat} {m : IM} {vb vk vs vu : Value} (h : ImOwn w B m vb vk vs vu) (hR : R < B) (u : Value) : ImOwn (w.setCell ⟨R, i, none⟩ u) B m vb vk vs vu :=
  ⟨own_set h.b hR, own_set h.k hR, own_set h.s hR, own_set h.u hR⟩
theorem ImOwn.set4 {w : World} {B R : Nat} {m : IM} {vb vk vs vu : Value} (h : ImOwn w B m vb vk vs vu) (hR : R < B) (v0 v1 v2 v3 : Value) : ImOwn ((((w.setCell ⟨R, 0, none⟩ v0).setCell ⟨R, 1, none⟩ v1).setCell ⟨R, 2, none⟩ v2).setCell ⟨R, 3, none⟩ v3) B m vb vk vs vu :=
  (((h.set hR v0).set hR v1).set hR v2).set hR v3
theorem ImOwn.nil (w : World) (B : Nat) : ImOwn w B noIM (.slice none 0 0) (.slice none 0 0) (.slice none 0 0) (.slice none 0 0) :=
  ⟨OwnV.nil _ _, GOwnV.nil _ _ _, TOwn.nil _ _ _, GOwnV.nil _ _ _⟩
theorem Try.sz31 : (Try.prog.info? 31).map (·.size) = some 4 := by kernel_rfl
theorem load_im {W : World} {R : Nat} {v0 v1 v2 v3 : Value} (h : Blk W R 31 #[v0, v1, v2, v3]) : (loadVar 31 ⟨R, 0, none⟩).run Try.prog W = .ok (.agg #[v0, v1, v2, v3]) W :=
  run_loadVar_mid W R 0 31 [v0, v1, v2, v3] _ h.range Try.underlying31 rfl Try.sz31
theorem Blk.set4 {W : World} {R : Nat} {A : Array Value} {u0 u1 u2 u3 : Value} (h : Blk W R 31 A) (hA : A.size = 4) (v0 v1 v2 v3 : Value) (_ : A = #[u0, u1, u2, u3]) :
    Blk ((((W.setCell ⟨R, 0, none⟩ v0).setCell ⟨R, 1, none⟩ v1).setCell ⟨R, 2, none⟩ v2).setCell ⟨R, 3, none⟩ v3) R 31 #[v0, v1, v2, v3] := by
  subst A
  have := (((h.set 0 v0).set 1 v1).set 2 v2).set 3 v3
  simpa using this
theorem below4 {w W : World} {R : Nat} (h : Below R w W) (v0 v1 v2 v3 : Value) : Below R w ((((W.setCell ⟨R, 0, none⟩ v0).setCell ⟨R, 1, none⟩ v1).setCell ⟨R, 2, none⟩ v2).setCell ⟨R, 3, none⟩ v3) :=
  (((h.setCell (Nat.le_refl _) _).setCell (Nat.le_refl _) _).setCell (Nat.le_refl _) _).setCell (Nat.le_refl _) _
/-- a copy is an image in memory as the first one is -/
theorem ImOwn.like {w w0 : World} {B : Nat} {m : IM} {vb vk vs vu : Value} {pb pk ps pu : Option Addr} {nb cb nk ck ns cs nu cu : Nat} (h : ImOwn w B m vb vk vs vu) (H : ImIn w0 m pb pk ps pu nb cb nk ck ns cs nu cu) :
    ∃ qb qk qs qu db dk ds du, vb = .slice qb nb db ∧ vk = .slice qk nk dk ∧ vs = .slice qs ns ds ∧ vu = .slice qu nu du ∧ ImIn w m qb qk qs qu nb db nk dk ns ds nu du ∧ (qb = none → nb = 0 ∧ db = 0) := by
  obtain ⟨qb, db, e1, r1, l1, l2⟩ := h.b.sliceC
  obtain ⟨qk, dk, e2, r2, _⟩ := h.k.slice
  obtain ⟨qs, ds, e3, _, _, r3⟩ := h.s.row3
  obtain ⟨qu, du, e4, r4, _⟩ := h.u.slice
  have hz : qb = none → nb = 0 ∧ db = 0 := fun e => by
    rcases h.b.shape with ⟨a1, a2⟩ | ⟨g, cap, a1, _⟩
    · rw [e1] at a1
      injection a1 with _ _ a3
      rw [← H.lb, a2]; exact ⟨rfl, a3⟩
    · rw [e1] at a1
      injection a1 with a3
      rw [e] at a3; cases a3
  rw [H.lb] at e1 l1
  rw [List.length_map, H.lk] at e2
  rw [List.length_map, H.ls] at e3
  rw [List.length_map, H.lu] at e4
  exact ⟨qb, qk, qs, qu, db, dk, ds, du, e1, e2, e3, e4, ⟨H.lb, H.lk, H.ls, H.lu, l1, l2, H.mc, H.ms, H.mu, r1, r2, r3, r4, H.byt, H.ksz, H.uns⟩, hz⟩
/-- an image that a call has made and that is right, in memory -/
theorem ImOwn.inOk {w : World} {B : Nat} {m : IM} {vb vk vs vu : Value} (h : ImOwn w B m vb vk vs vu) (hok : okI m = true) (hbyt : Byt m.bs) :
    ∃ qb qk qs qu db dk ds du, vb = .slice qb m.bs.length db ∧ vk = .slice qk m.ks.length dk ∧ vs = .slice qs m.si.length ds ∧ vu = .slice qu m.un.length du ∧ ImIn w m qb qk qs qu m.bs.length db m.ks.length dk m.si.length ds m.un.length du ∧ (qb = none → m.bs.length = 0 ∧ db = 0) := by
  have hB := okI_im hok
  have b1 : m.bs.length ≤ 65536 := hB.bs
  have b2 : m.ks.length ≤ 64 := by have := hB.ks; simpa [IM.im] using this
  have b3 : m.si.length ≤ 256 := hB.si
  have b4 : m.un.length ≤ 16 := hB.un
  obtain ⟨qb, db, e1, r1, l1, l2⟩ := h.b.sliceC
  obtain ⟨qk, dk, e2, r2, _⟩ := h.k.slice
  obtain ⟨qs, ds, e3, _, _, r3⟩ := h.s.row3
  obtain ⟨qu, du, e4, r4, _⟩ := h.u.slice
  have hz : qb = none → m.bs.length = 0 ∧ db = 0 := fun e => by
    rcases h.b.shape with ⟨a1, a2⟩ | ⟨g, cap, a1, _⟩
    · rw [e1] at a1
      injection a1 with _ _ a3
      rw [a2]; exact ⟨rfl, a3⟩
    · rw [e1] at a1
      injection a1 with a3
      rw [e] at a3; cases a3
  rw [List.length_map] at e2 e3 e4
  refine ⟨qb, qk, qs, qu, db, dk, ds, du, e1, e2, e3, e4, ⟨rfl, rfl, rfl, rfl, l1, l2, by omega, by omega, by omega, r1, r2, r3, r4, hbyt, fun k hk => ?_, fun u hu => ?_⟩, hz⟩
  · obtain ⟨i, hi, rfl⟩ := List.getElem_of_mem hk
    have h1 := keysB_at (okI_parts hok).2.2.1 i hi
    unfold nmB at h1
    simp only [Bool.and_eq_true, decide_eq_true_eq] at h1
    have := h1.1.2
    unfold maxLen; omega
  · have := hB.unit u hu
    unfold sNum at this
    unfold i64P; omega
end Go.Proofs.Ytkpieeldoielgaa
