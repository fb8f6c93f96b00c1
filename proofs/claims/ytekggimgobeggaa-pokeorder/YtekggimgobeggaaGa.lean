/- Texts put together: PokB, PokC. -/
import Derived.Test.YtekggimgobeggaaPokA

/- The patcher's methods: none, rest, clear, wait. -/
namespace Go.Proofs.Ytekggimgobeggaa
open Go.RowKit

/-- what a step of the patcher leaves -/
def StIs (w : World) (B pq mq mg rq bq : Nat) (a : SA) : Ending → World → Prop := fun e w' => ∃ v lp lc, e = .returned (.tuple #[v, .bool a.back, .int .i64 a.e]) ∧ EOwn 43 w' w.heap.size v a.ev ∧ PA w' B pq mq mg rq bq lp lc a.s ∧ Keeps (GP pq mg rq bq) w w'
theorem keepsP {w w' : World} {pq mg rq bq : Nat} (h : w.grownBy w' (some pq)) : Keeps (GP pq mg rq bq) w w' := (keeps_grown h).wider (fun _ e => .inl e)
theorem keepsR {w w' : World} {pq mg rq bq : Nat} (h : w.grownBy w' (some rq)) : Keeps (GP pq mg rq bq) w w' := (keeps_grown h).wider (fun _ e => .inr (.inr (.inl e)))
theorem keepsB {w w' : World} {pq mg rq bq : Nat} (h : w.grownBy w' (some bq)) : Keeps (GP pq mg rq bq) w w' := (keeps_grown h).wider (fun _ e => .inr (.inr (.inr e)))
theorem keepsM {w w' : World} {pq mg rq bq : Nat} (h : Keeps (fun j => j = mg) w w') : Keeps (GP pq mg rq bq) w w' := h.wider (fun _ e => .inr (.inl e))
theorem PA.c (i : Nat) {v : Value} {w : World} {B pq mq mg rq bq : Nat} {lp : Option Addr} {lc : Nat} {s : PS} (h : PA w B pq mq mg rq bq lp lc s) (hv : (patA mq rq bq lp lc s)[i]? = some v) : w.cell? ⟨pq, i, none⟩ = some v := by rw [h.pat.cell]; exact hv
theorem PA.f {w : World} {B pq mq mg rq bq : Nat} {lp : Option Addr} {lc : Nat} {s : PS} (h : PA w B pq mq mg rq bq lp lc s) (i : Nat) : w.frozen? ⟨pq, i, none⟩ = false := h.pat.free i

set_option maxHeartbeats 400000 in
theorem pnone_no (q b : Nat) (w : World) (hc : w.cell? ⟨q, 2, none⟩ = some (.pointer (some ⟨b, 0, none⟩))) :
    Calls Try.prog 40 #[.pointer (some ⟨q, 0, none⟩)] w fun e w' => e = .returned (.bool false) ∧ w' = w := by
  go_enter Try.func40, Try.ntmps40
  go_wp2
  go_ret
  exact ⟨rfl, rfl⟩
set_option maxHeartbeats 400000 in
theorem pnone_zero (q : Nat) (w : World) (hc : w.cell? ⟨q, 2, none⟩ = some (.pointer none)) :
    Calls Try.prog 40 #[.pointer (some ⟨q, 0, none⟩)] w fun e w' => e = .returned (.bool true) ∧ w' = w := by
  go_enter Try.func40, Try.ntmps40
  go_wp2
  go_ret
  exact ⟨rfl, rfl⟩
set_option maxHeartbeats 400000 in
theorem pnone_nil (w : World) :
    Calls Try.prog 40 #[.pointer none] w fun e w' => e = .returned (.bool true) ∧ w' = w := by
  go_enter Try.func40, Try.ntmps40
  go_wp2
  go_ret
  exact ⟨rfl, rfl⟩
theorem stIs_of {w w' : World} {B pq mq mg rq bq : Nat} {a : SA} {v : Value} {b : Bool} {e : Int} {lp : Option Addr} {lc : Nat} (hb : a.back = b) (he : a.e = e) (hv : EOwn 43 w' w.heap.size v a.ev) (hP : PA w' B pq mq mg rq bq lp lc a.s) (hk : Keeps (GP pq mg rq bq) w w') : StIs w B pq mq mg rq bq a (.returned (.tuple #[v, .bool b, .int .i64 e])) w' :=
  ⟨v, lp, lc, by rw [hb, he], hv, hP, hk⟩
set_option maxRecDepth 20000 in
set_option maxHeartbeats 1000000 in
theorem pclear_any (B pq mq mg rq bq : Nat) (lp : Option Addr) (lc : Nat) (s : PS) (rv : Value) (w : World) (h : PA w B pq mq mg rq bq lp lc s) (h0 : 0 ≤ s.ct.st) (h1 : s.ct.st ≤ 1000000000000) :
    Calls Try.prog 47 #[.pointer (some ⟨pq, 0, none⟩), rv] w (StIs w B pq mq mg rq bq (clrP s)) := by
  have hs2 : w.cell? ⟨pq, 2, none⟩ = some (.pointer (some ⟨bq, 0, none⟩)) := h.c 2 rfl
  have hcl := bclear_any bq s.bt w h.bat
  have HP := Hid.in h
  by_cases hl : s.left.length = 0
  · have HC : Hid (clrP s = ⟨{ s with bt := [], left := [], ph := 0 }.step, [], true, 0⟩) := if_pos hl
    have HR : Hid (∀ w', PA w' B pq mq mg rq bq none 0 ({ s with bt := [], left := [], ph := 0 }.step) → Keeps (GP pq mg rq bq) w w' → StIs w B pq mq mg rq bq (clrP s) (.returned (.tuple #[.slice none 0 0, .bool true, .int .i64 0])) w') := fun w' hP hk => by
      rw [HC.out]; exact stIs_of rfl rfl (EOwn.nil _ _ _) hP hk
    generalize StIs w B pq mq mg rq bq (clrP s) = R at *
    clear h
    go_enter Try.func47, Try.ntmps47
    go_wp2_with (go_at_call 83; refine Hid.out ?_)
    refine Lib.hid ?_
    refine hcl.mono ?_
    rintro e w1 ⟨rfl, hb1, hg1⟩
    have HP1 := Hid.in (HP.out.setB hb1 hg1)
    have HK1 : Hid (Keeps (GP pq mg rq bq) w w1) := keepsB hg1
    clear hb1 hg1 hs2 hcl HC
    have c11 : w1.cell? ⟨pq, 11, none⟩ = some (.int .i64 s.ct.st) := HP1.out.c 11 rfl
    have c3 : w1.cell? ⟨pq, 3, none⟩ = some (.slice lp s.left.length lc) := HP1.out.c 3 rfl
    have c5 : w1.cell? ⟨pq, 5, none⟩ = some (.int .u8 s.ph) := HP1.out.c 5 rfl
    have f11 := HP1.out.f 11
    have f3 := HP1.out.f 3
    have f5 := HP1.out.f 5
    rw [hl] at c3
    go_wp2_with fail
    go_ret3
    refine HR.out _ (HP1.out.setP (s' := { s with bt := [], left := [], ph := 0 }.step) (lp' := none) (lc' := 0) (((HP1.out.pat.set 11 _).set 3 _).set 5 _) (((grown_setCell _ _ _ _).trans (grown_setCell _ _ _ _)).trans (grown_setCell _ _ _ _)) (RowS.nil _ _ _) (Nat.le_refl _) (Nat.zero_le _) rfl rfl rfl rfl) (HK1.out.trans' (keepsP (((grown_setCell _ _ _ _).trans (grown_setCell _ _ _ _)).trans (grown_setCell _ _ _ _))))
  · have HC : Hid (clrP s = ⟨{ s with bt := [], ph := 1 }.step, [], false, 0⟩) := if_neg hl
    have HR : Hid (∀ w', PA w' B pq mq mg rq bq lp lc ({ s with bt := [], ph := 1 }.step) → Keeps (GP pq mg rq bq) w w' → StIs w B pq mq mg rq bq (clrP s) (.returned (.tuple #[.slice none 0 0, .bool false, .int .i64 0])) w') := fun w' hP hk => by
      rw [HC.out]; exact stIs_of rfl rfl (EOwn.nil _ _ _) hP hk
    generalize StIs w B pq mq mg rq bq (clrP s) = R at *
    clear h
    have hl1 : 0 < s.left.length := by omega
    go_enter Try.func47, Try.ntmps47
    go_wp2_with (go_at_call 83; refine Hid.out ?_)
    refine Lib.hid ?_
    refine hcl.mono ?_
    rintro e w1 ⟨rfl, hb1, hg1⟩
    have HP1 := Hid.in (HP.out.setB hb1 hg1)
    have HK1 : Hid (Keeps (GP pq mg rq bq) w w1) := keepsB hg1
    clear hb1 hg1 hs2 hcl HC
    have c11 : w1.cell? ⟨pq, 11, none⟩ = some (.int .i64 s.ct.st) := HP1.out.c 11 rfl
    have c3 : w1.cell? ⟨pq, 3, none⟩ = some (.slice lp s.left.length lc) := HP1.out.c 3 rfl
    have c5 : w1.cell? ⟨pq, 5, none⟩ = some (.int .u8 s.ph) := HP1.out.c 5 rfl
    have f11 := HP1.out.f 11
    have f5 := HP1.out.f 5
    go_wp2_with fail
    go_ret3
    refine HR.out _ (HP1.out.setP (s' := { s with bt := [], ph := 1 }.step) (lp' := lp) (lc' := lc) ((HP1.out.pat.set 11 _).set 5 _) ((grown_setCell _ _ _ _).trans (grown_setCell _ _ _ _)) HP1.out.row HP1.out.lcl HP1.out.lcm rfl rfl rfl rfl) (HK1.out.trans' (keepsP ((grown_setCell _ _ _ _).trans (grown_setCell _ _ _ _))))
set_option maxRecDepth 20000 in
set_option maxHeartbeats 1000000 in
theorem prest_any (B pq mq mg rq bq : Nat) (lp : Option Addr) (lc : Nat) (s : PS) (rv : Value) (w : World) (h : PA w B pq mq mg rq bq lp lc s) :
    Calls Try.prog 41 #[.pointer (some ⟨pq, 0, none⟩), rv] w (StIs w B pq mq mg rq bq ⟨s, [], false, 0⟩) := by
  have HR : Hid (StIs w B pq mq mg rq bq ⟨s, [], false, 0⟩ (.returned (.tuple #[.slice none 0 0, .bool false, .int .i64 0])) w) := stIs_of rfl rfl (EOwn.nil _ _ _) h (Keeps.refl _ _)
  generalize StIs w B pq mq mg rq bq ⟨s, [], false, 0⟩ = R at *
  clear h
  go_enter Try.func41, Try.ntmps41
  go_wp2_with fail
  go_ret3
  exact HR.out
set_option maxRecDepth 20000 in
set_option maxHeartbeats 1000000 in
theorem pwait_any (B pq mq mg rq bq : Nat) (lp : Option Addr) (lc : Nat) (s : PS) (rv : Value) (w : World) (h : PA w B pq mq mg rq bq lp lc s) (h0 : 0 ≤ s.ct.st) (h1 : s.ct.st ≤ 1000000000000) (k0 : 0 ≤ s.ct.wa) (k1 : s.ct.wa ≤ 1000000000000) :
    Calls Try.prog 46 #[.pointer (some ⟨pq, 0, none⟩), rv] w (StIs w B pq mq mg rq bq (waiP s)) := by
  have c1 : w.cell? ⟨pq, 1, none⟩ = some (.pointer (some ⟨rq, 0, none⟩)) := h.c 1 rfl
  have c5 : w.cell? ⟨pq, 5, none⟩ = some (.int .u8 s.ph) := h.c 5 rfl
  have c7 : w.cell? ⟨pq, 7, none⟩ = some (.int .u8 s.nx) := h.c 7 rfl
  have c11 : w.cell? ⟨pq, 11, none⟩ = some (.int .i64 s.ct.st) := h.c 11 rfl
  have c12 : w.cell? ⟨pq, 12, none⟩ = some (.int .i64 s.ct.wa) := h.c 12 rfl
  have f5 := h.f 5
  have f11 := h.f 11
  have f12 := h.f 12
  have hov := over_any rq s.fs s.n w h.rnd
  have HP := Hid.in h
  clear h
  cases ho : ovr s.fs
  · rw [ho] at hov
    have HC : Hid (waiP s = ⟨{ s with ct := { s.ct with wa := s.ct.wa + 1 } }, [], false, 0⟩) := if_neg (by rw [ho]; decide)
    have HR : Hid (∀ w', PA w' B pq mq mg rq bq lp lc { s with ct := { s.ct with wa := s.ct.wa + 1 } } → Keeps (GP pq mg rq bq) w w' → StIs w B pq mq mg rq bq (waiP s) (.returned (.tuple #[.slice none 0 0, .bool false, .int .i64 0])) w') := fun w' hP hk => by
      rw [HC.out]; exact stIs_of rfl rfl (EOwn.nil _ _ _) hP hk
    generalize StIs w B pq mq mg rq bq (waiP s) = R at *
    clear HC ho
    go_enter Try.func46, Try.ntmps46
    go_wp2_with (go_at_call 37; refine Hid.out ?_)
    refine Lib.hid ?_
    refine hov.mono ?_
    rintro e w1 ⟨rfl, hw⟩
    rw [hw]
    clear hw
    go_wp2_with fail
    go_ret3
    refine HR.out _ (HP.out.setP (s' := { s with ct := { s.ct with wa := s.ct.wa + 1 } }) (lp' := lp) (lc' := lc) (HP.out.pat.set 12 _) (grown_setCell _ _ _ _) HP.out.row HP.out.lcl HP.out.lcm rfl rfl rfl rfl) (keepsP (grown_setCell _ _ _ _))
  · rw [ho] at hov
    have HC : Hid (waiP s = ⟨{ s with ph := s.nx }.step, [], false, 0⟩) := if_pos ho
    have HR : Hid (∀ w', PA w' B pq mq mg rq bq lp lc ({ s with ph := s.nx }.step) → Keeps (GP pq mg rq bq) w w' → StIs w B pq mq mg rq bq (waiP s) (.returned (.tuple #[.slice none 0 0, .bool false, .int .i64 0])) w') := fun w' hP hk => by
      rw [HC.out]; exact stIs_of rfl rfl (EOwn.nil _ _ _) hP hk
    generalize StIs w B pq mq mg rq bq (waiP s) = R at *
    clear HC ho
    go_enter Try.func46, Try.ntmps46
    go_wp2_with (go_at_call 37; refine Hid.out ?_)
    refine Lib.hid ?_
    refine hov.mono ?_
    rintro e w1 ⟨rfl, hw⟩
    rw [hw]
    clear hw
    go_wp2_with fail
    go_ret3
    refine HR.out _ (HP.out.setP (s' := { s with ph := s.nx }.step) (lp' := lp) (lc' := lc) ((HP.out.pat.set 5 _).set 11 _) ((grown_setCell _ _ _ _).trans (grown_setCell _ _ _ _)) HP.out.row HP.out.lcl HP.out.lcm rfl rfl rfl rfl) (keepsP ((grown_setCell _ _ _ _).trans (grown_setCell _ _ _ _)))
end Go.Proofs.Ytekggimgobeggaa

/- gather. -/
namespace Go.Proofs.Ytekggimgobeggaa
open Go.RowKit Go.Sort

theorem sl_one (b o n c : Nat) (W : World) : (Instr.sliceAt 49 (.slice (some ⟨b, o, none⟩) (n + 1) c) (some (.int .i64 1)) none none).run Try.prog W = .ok (.slice (some ⟨b, if c = 1 then o else o + 3, none⟩) n (c - 1)) W := by
  by_cases hc : c = 1
  · simp [Instr.sliceAt, Instr.slice, Instr.sliceBounds, go_sem, hc]
    intro h
    omega
  · simp [Instr.sliceAt, Instr.slice, Instr.sliceBounds, go_sem, hc]
    intro h
    omega
theorem RowS.tail {w : World} {B b o c : Nat} {x : Si} {l : List Si} (h : RowS w B (some ⟨b, o, none⟩) (x :: l)) (hc : (x :: l).length ≤ c) : RowS w B (some ⟨b, if c = 1 then o else o + 3, none⟩) l := fun h0 => by
  obtain ⟨b', o', cur, e, hB, hb, hc'⟩ := h (by simp)
  injection e with e
  injection e with e1 e2 _
  subst e1
  subst e2
  have hc1 : c ≠ 1 := by simp at hc; omega
  refine ⟨b, _, cur, rfl, hB, hb, fun i hi j hj => ?_⟩
  rw [if_neg hc1]
  have := hc' (i + 1) (by simpa using hi) j hj
  rw [show o + 3 + i * 3 + j = o + (i + 1) * 3 + j by omega]
  simpa using this
set_option maxRecDepth 20000 in
set_option maxHeartbeats 2000000 in
theorem pgather_any (B pq mq mg rq bq : Nat) (lp : Option Addr) (lc : Nat) (s : PS) (rv : Value) (w : World) (h : PA w B pq mq mg rq bq lp lc s) (hp1 : s.ph = 1) (h0 : 0 ≤ s.ct.st) (h1 : s.ct.st ≤ 1000000000000) :
    Calls Try.prog 42 #[.pointer (some ⟨pq, 0, none⟩), rv] w (StIs w B pq mq mg rq bq (gatP s)) := by
  obtain ⟨left, up, ph, wr, nx, ct, bt, xs, fs, n⟩ := s
  simp only at h0 h1 hp1
  subst hp1
  cases left with
  | nil =>
    have c3 : w.cell? ⟨pq, 3, none⟩ = some (.slice lp 0 lc) := h.c 3 rfl
    have hcl := pclear_any B pq mq mg rq bq lp lc _ rv w h h0 h1
    have HR : Hid (∀ e w', StIs w B pq mq mg rq bq (clrP ⟨[], up, 1, wr, nx, ct, bt, xs, fs, n⟩) e w' → StIs w B pq mq mg rq bq (gatP ⟨[], up, 1, wr, nx, ct, bt, xs, fs, n⟩) e w') := fun e w' h => h
    generalize StIs w B pq mq mg rq bq (gatP ⟨[], up, 1, wr, nx, ct, bt, xs, fs, n⟩) = R at *
    clear h
    go_enter Try.func42, Try.ntmps42
    go_wp2_with (go_at_call 47; refine Hid.out ?_)
    refine Lib.hid ?_
    refine hcl.mono ?_
    rintro e w1 ⟨v, lp', lc', rfl, hv, hP, hk⟩
    have HST := Hid.in (stIs_of rfl rfl hv hP hk)
    obtain ⟨pv, cv, ev, -⟩ := hv.shape
    clear hv hP hk hcl
    generalize clrP ⟨[], up, 1, wr, nx, ct, bt, xs, fs, n⟩ = ca at *
    subst ev
    go_wp2_with fail
    go_ret3
    exact HR.out _ _ HST.out
  | cons x l =>
    have c3 : w.cell? ⟨pq, 3, none⟩ = some (.slice lp (l.length + 1) lc) := h.c 3 rfl
    have HP := Hid.in h
    have HRW := Hid.in h.row
    have hlc : l.length + 1 ≤ lc := h.lcl
    obtain ⟨b, o, cur, rfl, hB, hb, hc⟩ := h.row (by simp)
    have d0 : w.cell? ⟨b, o, none⟩ = some (.int .i64 x.key) := by have := hc 0 (by simp) 0 (by decide); simpa [l3, siV] using this
    have d1 : w.cell? ⟨b, o + 1, none⟩ = some (.int .i64 x.at_) := by have := hc 0 (by simp) 1 (by decide); simpa [l3, siV] using this
    have d2 : w.cell? ⟨b, o + 2, none⟩ = some (.int .i64 x.to_) := by have := hc 0 (by simp) 2 (by decide); simpa [l3, siV] using this
    clear hc hb hB h
    obtain ⟨bt', hbt⟩ : ∃ bt', bt' = addR bt x.at_ x.to_ up := ⟨_, rfl⟩
    have HBT := Hid.in hbt
    have HR : Hid (∀ w' lp' lc', PA w' B pq mq mg rq bq lp' lc' ({ left := l, up := up, ph := if bt'.length = 4 ∨ l.length = 0 then 2 else 1, wr := wr, nx := nx, ct := { ct with st := ct.st + 1 }, bt := bt', xs := xs, fs := fs, n := n }) → Keeps (GP pq mg rq bq) w w' → StIs w B pq mq mg rq bq (gatP ⟨x :: l, up, 1, wr, nx, ct, bt, xs, fs, n⟩) (.returned (.tuple #[.slice none 0 0, .bool false, .int .i64 0])) w') := fun w' lp' lc' hP hk => by
      rw [hbt] at hP; exact stIs_of rfl rfl (EOwn.nil _ _ _) hP hk
    clear hbt
    generalize StIs w B pq mq mg rq bq (gatP ⟨x :: l, up, 1, wr, nx, ct, bt, xs, fs, n⟩) = R at *
    go_enter Try.func42, Try.ntmps42
    go_upto_region 4 with fail
    obtain ⟨w1, hw1⟩ : ∃ w1, w1 = w.alloc (.cells #[.int .i64 x.key, .int .i64 x.at_, .int .i64 x.to_] 48) := ⟨_, rfl⟩
    rw [← hw1]
    have HX1 : Hid (Blk w1 w.heap.size 48 #[.int .i64 x.key, .int .i64 x.at_, .int .i64 x.to_]) := by rw [hw1]; exact Blk.new _ _ _
    have HP1 : Hid (PA w1 B pq mq mg rq bq (some ⟨b, o, none⟩) lc ⟨x :: l, up, 1, wr, nx, ct, bt, xs, fs, n⟩) := by rw [hw1]; exact HP.out.below (new_alloc _ _)
    have HK1 : Hid (Keeps (GP pq mg rq bq) w w1) := by rw [hw1]; exact Keeps.ofBelow (new_alloc _ _)
    clear hw1 HP d0 d1 d2 c3 HRW
    have x1r := fun d os => cell_regrown (show w1.cell? ⟨w.heap.size, 1, none⟩ = some (.int .i64 x.at_) by rw [HX1.out.cell]; rfl) d os
    have x2r := fun d os => cell_regrown (show w1.cell? ⟨w.heap.size, 2, none⟩ = some (.int .i64 x.to_) by rw [HX1.out.cell]; rfl) d os
    have c2r := fun d os => cell_regrown (show w1.cell? ⟨pq, 2, none⟩ = some (.pointer (some ⟨bq, 0, none⟩)) from HP1.out.c 2 rfl) d os
    have c4r := fun d os => cell_regrown (show w1.cell? ⟨pq, 4, none⟩ = some (.bool up) from HP1.out.c 4 rfl) d os
    refine wp_region_noPanic ?_
    refine wp_region_sink 12 [12] 1 (by kernel_rfl) (by kernel_rfl) (by kernel_rfl) (by kernel_rfl) (by kernel_rfl) (fun _ _ _ _ _ h => h) ?_
    simp only [List.take_succ_cons, List.take_zero]
    iterate 12 (go_big_quiet_step (fail))
    refine wpQuiet_nil ?_
    rintro _ ⟨⟨dq, osq⟩, rfl⟩
    have HQ := Hid.in (below_regrown w1 dq osq)
    generalize Go.Sort.grow (redrawn w1 dq) osq = w2 at HQ ⊢
    have HP2 := Hid.in (HP1.out.below HQ.out)
    have HK2 := Hid.in (HK1.out.thenB HQ.out)
    clear HP1 HK1 HX1 HQ x1r x2r c2r c4r
    refine wpAnyG_last (i := 12) (by kernel_rfl) rfl (by kernel_rfl) (fun K hK => ?_)
    go_simp
    go_at_call 77
    refine (badd_any bq bt x.at_ x.to_ up w2 HP2.out.bat).mono ?_
    rintro e w3 ⟨rfl, hb3, hg3⟩
    rw [← HBT.out] at hb3
    have HP3 := Hid.in (HP2.out.setB hb3 hg3)
    have HK3 := Hid.in (HK2.out.trans' (keepsB hg3))
    clear hb3 hg3 HP2 HK2
    refine hK.out _ _ (wpAnyG_done (by kernel_rfl) ?_ _)
    refine NoPanic.normal ?_
    generalize addE bt x.at_ x.to_ = ee at *
    clear hK
    go_simp
    have hsA := fun W => sl_one b o l.length lc W
    have HRT := Hid.in (HP3.out.row.tail (c := lc) HP3.out.lcl)
    obtain ⟨r, hr⟩ : ∃ r, r = (if lc = 1 then o else o + 3) := ⟨_, rfl⟩
    rw [← hr] at hsA HRT
    clear hr
    have c3 : w3.cell? ⟨pq, 3, none⟩ = some (.slice (some ⟨b, o, none⟩) (l.length + 1) lc) := HP3.out.c 3 rfl
    have f3 := HP3.out.f 3
    go_upto_region 6 with fail
    obtain ⟨w4, hw4⟩ : ∃ w4, w4 = w3.setCell ⟨pq, 3, none⟩ (.slice (some ⟨b, r, none⟩) l.length (lc - 1)) := ⟨_, rfl⟩
    rw [← hw4]
    have HP4 : Hid (PA w4 B pq mq mg rq bq (some ⟨b, r, none⟩) (lc - 1) ⟨l, up, 1, wr, nx, ct, bt', xs, fs, n⟩) := by
      rw [hw4]
      exact HP3.out.setP (s' := ⟨l, up, 1, wr, nx, ct, bt', xs, fs, n⟩) (HP3.out.pat.set 3 _) (grown_setCell _ _ _ _) HRT.out (by show l.length ≤ lc - 1; omega) (Nat.le_trans (Nat.sub_le _ _) HP3.out.lcm) rfl rfl rfl rfl
    have HK4 : Hid (Keeps (GP pq mg rq bq) w w4) := by rw [hw4]; exact HK3.out.trans' (keepsP (grown_setCell _ _ _ _))
    clear hw4 hsA HRT c3 f3 HP3 HK3
    have c2 : w4.cell? ⟨pq, 2, none⟩ = some (.pointer (some ⟨bq, 0, none⟩)) := HP4.out.c 2 rfl
    have c3 : w4.cell? ⟨pq, 3, none⟩ = some (.slice (some ⟨b, r, none⟩) l.length (lc - 1)) := HP4.out.c 3 rfl
    have c5 : w4.cell? ⟨pq, 5, none⟩ = some (.int .u8 1) := HP4.out.c 5 rfl
    have c11 : w4.cell? ⟨pq, 11, none⟩ = some (.int .i64 ct.st) := HP4.out.c 11 rfl
    have f5 := HP4.out.f 5
    have f11 := HP4.out.f 11
    have hlen := blen_any bq bt' w4 HP4.out.bat
    have HTR := Hid.in ((grown_setCell w4 pq 5 (.int .u8 2)).trans (grown_setCell _ pq 11 (.int .i64 (ct.st + 1))))
    go_wp2_with (go_at_call 78; refine Hid.out ?_)
    refine Lib.hid ?_
    refine hlen.mono ?_
    rintro e w5 ⟨rfl, hw⟩
    rw [hw]
    clear hw hlen
    by_cases h4 : bt'.length = 4
    · have hph : (if bt'.length = 4 ∨ l.length = 0 then 2 else 1) = 2 := if_pos (.inl h4)
      rw [hph] at HR
      clear hph
      have g4 : (bt'.length : Int) = 4 := by omega
      go_wp2_with fail
      go_ret3
      exact HR.out _ (some ⟨b, r, none⟩) (lc - 1) (HP4.out.setP (s' := ⟨l, up, 2, wr, nx, { ct with st := ct.st + 1 }, bt', xs, fs, n⟩) ((HP4.out.pat.set 5 _).set 11 _) HTR.out HP4.out.row HP4.out.lcl HP4.out.lcm rfl rfl rfl rfl) (HK4.out.trans' (keepsP HTR.out))
    · have g4 : ¬ (bt'.length : Int) = 4 := by omega
      by_cases hl0 : l.length = 0
      · have hph : (if bt'.length = 4 ∨ l.length = 0 then 2 else 1) = 2 := if_pos (.inr hl0)
        rw [hph] at HR
        clear hph
        obtain rfl : l = [] := List.eq_nil_of_length_eq_zero hl0
        rw [hl0] at c3
        go_wp2_with fail
        go_ret3
        exact HR.out _ (some ⟨b, r, none⟩) (lc - 1) (HP4.out.setP (s' := ⟨[], up, 2, wr, nx, { ct with st := ct.st + 1 }, bt', xs, fs, n⟩) ((HP4.out.pat.set 5 _).set 11 _) HTR.out HP4.out.row HP4.out.lcl HP4.out.lcm rfl rfl rfl rfl) (HK4.out.trans' (keepsP HTR.out))
      · have hph : (if bt'.length = 4 ∨ l.length = 0 then 2 else 1) = 1 := if_neg (fun h => h.elim h4 hl0)
        rw [hph] at HR
        clear hph HTR
        have HTR := Hid.in (grown_setCell w4 pq 11 (.int .i64 (ct.st + 1)))
        have hl1 : ¬ (l.length : Int) = 0 := by omega
        have hl2 : decide ((l.length : Int) = 0) = false := decide_eq_false hl1
        have hl3 : ((l.length : Int) == 0) = false := by simpa using hl0
        have hl4 : decide (l.length = 0) = false := decide_eq_false hl0
        have hl5 : l.isEmpty = false := by cases l with | nil => exact absurd rfl hl0 | cons _ _ => rfl
        have hl6 : ¬ l = [] := fun e => hl0 (by rw [e]; rfl)
        go_wp2_with fail
        go_ret3
        exact HR.out _ (some ⟨b, r, none⟩) (lc - 1) (HP4.out.setP (s' := ⟨l, up, 1, wr, nx, { ct with st := ct.st + 1 }, bt', xs, fs, n⟩) (HP4.out.pat.set 11 _) HTR.out HP4.out.row HP4.out.lcl HP4.out.lcm rfl rfl rfl rfl) (HK4.out.trans' (keepsP HTR.out))
end Go.Proofs.Ytekggimgobeggaa
