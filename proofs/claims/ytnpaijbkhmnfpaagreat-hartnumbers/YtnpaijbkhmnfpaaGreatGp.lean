/- Texts put together: HrtV, HrtW, HrtX, HrtY. -/
import Derived.Test.YtnpaijbkhmnfpaaGreatGo
import Derived.Test.YtnpaijbkhmnfpaaGreatLinE

/- What is no hart, what is no memory; a trap. -/
namespace Go.Proofs.YtnpaijbkhmnfpaaGreat
open Go.RowKit Go.Maps

/-- what is no hart -/
def NoH (w : World) (p : Option Addr) : Prop := p = none ∨ ∃ h, p = some ⟨h, 0, none⟩ ∧ w.cell? ⟨h, 13, none⟩ = some (.pointer none)
theorem NoH.below {w w' : World} {p : Option Addr} (k : NoH w p) (hb : Below w.heap.size w w') : NoH w' p := k.imp _root_.id (fun ⟨h, e, hc⟩ => ⟨h, e, by rw [hb.cell (p := ⟨h, 13, none⟩) (cell_lt hc)]; exact hc⟩)
theorem NoH.call {w : World} {p : Option Addr} (k : NoH w p) : Calls Tryz.prog 41 #[.pointer p] w fun e w' => e = .returned (.bool true) ∧ w' = w := by
  rcases k with rfl | ⟨h, rfl, hc⟩
  · exact hnone_nil w
  · exact hnone_zero h w hc
set_option maxHeartbeats 400000 in
theorem hstep_none {p : Option Addr} (m v : Value) (hold : Bool) (w : World) (k : NoH w p) : Calls Tryz.prog 11 #[.pointer p, m, .bool hold, v] w fun e w' => e = .returned (.tuple #[.slice none 0 0, .int .i64 1]) ∧ w' = w := by
  have hN := k.call
  clear k
  go_enter Tryz.func11, Tryz.ntmps11
  go_wp2_with (go_at_call 41; (with_reducible refine hN.mono ?_); rintro e w1 ⟨rfl, rfl⟩)
  go_ret2
  exact ⟨rfl, rfl⟩
set_option maxHeartbeats 400000 in
theorem hsync_none {p : Option Addr} (w : World) (k : NoH w p) : Calls Tryz.prog 17 #[.pointer p] w fun e w' => e = .returned (.int .i64 0) ∧ w' = w := by
  have hN := k.call
  clear k
  go_enter Tryz.func17, Tryz.ntmps17
  go_wp2_with (go_at_call 41; (with_reducible refine hN.mono ?_); rintro e w1 ⟨rfl, rfl⟩)
  go_ret
  exact ⟨rfl, rfl⟩
set_option maxHeartbeats 400000 in
theorem hrun_none {p : Option Addr} (w : World) (k : NoH w p) : Calls Tryz.prog 13 #[.pointer p] w fun e w' => e = .returned (.bool false) ∧ w' = w := by
  have hN := k.call
  clear k
  go_enter Tryz.func13, Tryz.ntmps13
  go_wp2_with (go_at_call 41; (with_reducible refine hN.mono ?_); rintro e w1 ⟨rfl, rfl⟩)
  go_ret
  exact ⟨rfl, rfl⟩
set_option maxHeartbeats 400000 in
theorem hcopy_none {p : Option Addr} (w : World) (k : NoH w p) : Calls Tryz.prog 18 #[.pointer p] w fun e w' => e = .returned (.pointer none) ∧ w' = w := by
  have hN := k.call
  clear k
  go_enter Tryz.func18, Tryz.ntmps18
  go_wp2_with (go_at_call 41; (with_reducible refine hN.mono ?_); rintro e w1 ⟨rfl, rfl⟩)
  go_ret
  exact ⟨rfl, rfl⟩
abbrev zSt : Array Value := #[.int .u8 0, .int .u32 0, .int .u32 0, .int .u32 0, .int .u32 0, .int .u32 0, .int .u32 0, .int .u32 0, .int .u32 0, .int .u32 0, .slice none 0 0, .slice none 0 0, .slice none 0 0]
set_option maxHeartbeats 800000 in
theorem hstate_none {p : Option Addr} (w : World) (k : NoH w p) : Calls Tryz.prog 14 #[.pointer p] w fun e w' => e = .returned (.agg zSt) ∧ Below w.heap.size w w' := by
  have hN := (k.below (new_alloc w (.cells zSt 50))).call
  have hld := (Blk.new w 50 zSt).load 50 _ Tryz.underlying50 rfl Tryz.sz50
  clear k
  go_enter Tryz.func14, Tryz.ntmps14
  go_wp2_with (go_at_call 41; (with_reducible refine hN.mono ?_); rintro e w1 ⟨rfl, rfl⟩)
  exact bodyPost_ret (v := .agg zSt) (by simp [results, Tryz.results14, asAddr, hld]) rfl ⟨rfl, new_alloc w _⟩

/-- what is no memory -/
def NoM (w : World) (p : Option Addr) : Prop := p = none ∨ ∃ q, p = some ⟨q, 0, none⟩ ∧ w.cell? ⟨q, 0, none⟩ = some (.bool false)
theorem NoM.call {w : World} {p : Option Addr} (k : NoM w p) : Calls Tryz.prog 61 #[.pointer p] w fun e w' => e = .returned (.bool true) ∧ w' = w := by
  rcases k with rfl | ⟨h, rfl, hc⟩
  · exact none_nil w
  · exact none_zero h w hc
set_option maxHeartbeats 400000 in
theorem read_none {p : Option Addr} (a n : Int) (w : World) (k : NoM w p) : Calls Tryz.prog 69 #[.pointer p, .int .i64 a, .int .i64 n] w fun e w' => e = .returned (.tuple #[.slice none 0 0, .int .i64 1]) ∧ w' = w := by
  have hN := k.call
  clear k
  go_enter Tryz.func69, Tryz.ntmps69
  go_wp2_with (go_at_call 61; (with_reducible refine hN.mono ?_); rintro e w1 ⟨rfl, rfl⟩)
  go_ret2
  exact ⟨rfl, rfl⟩
set_option maxHeartbeats 400000 in
theorem missing_yes {p : Option Addr} (w : World) (k : NoM w p) : Calls Tryz.prog 42 #[.pointer p] w fun e w' => e = .returned (.bool true) ∧ w' = w := by
  have hN := read_none 0 0 w k
  clear k
  go_enter Tryz.func42, Tryz.ntmps42
  go_wp2_with (go_at_call 69; (with_reducible refine hN.mono ?_); rintro e w1 ⟨rfl, rfl⟩)
  go_ret
  exact ⟨rfl, rfl⟩
set_option maxHeartbeats 400000 in
theorem hstep_nomem {p : Option Addr} (h l : Nat) (v : Value) (hold : Bool) (w : World) (hc : w.cell? ⟨h, 13, none⟩ = some (.pointer (some ⟨l, 0, none⟩))) (k : NoM w p) : Calls Tryz.prog 11 #[.pointer (some ⟨h, 0, none⟩), .pointer p, .bool hold, v] w fun e w' => e = .returned (.tuple #[.slice none 0 0, .int .i64 1]) ∧ w' = w := by
  have hN := hnone_no h l w hc
  have hM := missing_yes w k
  clear k hc
  go_enter Tryz.func11, Tryz.ntmps11
  go_wp2_with (first
    | (go_at_call 41; (with_reducible refine hN.mono ?_); rintro e w1 ⟨rfl, rfl⟩)
    | (go_at_call 42; (with_reducible refine hM.mono ?_); rintro e w1 ⟨rfl, rfl⟩))
  go_ret2
  exact ⟨rfl, rfl⟩
set_option maxHeartbeats 400000 in
theorem trap_any (t : Int) (w : World) : Calls Tryz.prog 12 #[.int .i32 t] w fun e w' => e = .returned (.func (.func 46) #[] #[.pointer (some ⟨w.heap.size, 0, none⟩)]) ∧ w' = w.alloc (.cells #[.int .i32 t] 21) := by
  have hmf : ∀ (fn : Fn) (first cap : Array Value) (w : World), (Instr.makeFunc fn first cap).run Tryz.prog w = .ok (.func fn first cap) w := fun _ _ _ _ => rfl
  go_enter Tryz.func12, Tryz.ntmps12
  go_wp2
  go_ret
  exact ⟨rfl, rfl⟩
theorem trap_v (t : Int) (w : World) (ht : t ≤ 2147483647) : TrV (w.alloc (.cells #[.int .i32 t] 21)) (.func (.func 46) #[] #[.pointer (some ⟨w.heap.size, 0, none⟩)]) (if t < 0 then none else some t.toNat) :=
  .inr ⟨_, t, rfl, (Blk.new w 21 #[.int .i32 t]).cell 0, ht, rfl⟩

set_option maxHeartbeats 2000000 in
theorem sameHart_zero (w : World) : Calls Tryz.prog 19 #[.agg zSt, .agg zSt] w fun e w' => e = .returned (.bool true) ∧ Below w.heap.size w w' := by
  go_enter Tryz.func19, Tryz.ntmps19
  go_wp2_with (go_at_call 34; refine Hid.out ?_)
  refine Lib.hid ?_
  have hR := sameRegs_any Z8r Z8r none none 0 0 0 0 [] [] ((w.alloc (.cells zSt 50)).alloc (.cells zSt 50)) rfl rfl (newH_ok 0 (by decide)).wR (newH_ok 0 (by decide)).wR rfl rfl (by decide) (fun h => absurd h (Nat.lt_irrefl 0)) (fun h => absurd h (Nat.lt_irrefl 0))
  simp only [sameB_self, Bool.and_self, rgV_eight] at hR
  (with_reducible refine hR.mono ?_)
  rintro e w1 ⟨rfl, hb1⟩
  have HA1 := Hid.in (((Blk.new w 50 zSt).grow (new_alloc _ (.cells zSt 50))).grow hb1)
  have HB1 := Hid.in ((blk_two w 50 50 zSt zSt).grow hb1)
  have HW1 := Hid.in (below_step (below_alloc (new_alloc w (.cells zSt 50)) (.cells zSt 50)) hb1)
  have a0 : w1.cell? ⟨w.heap.size, 11, none⟩ = some (.slice none 0 0) := HA1.out.cell 11
  have b0 : w1.cell? ⟨w.heap.size + 1, 11, none⟩ = some (.slice none 0 0) := HB1.out.cell 11
  clear hR hb1
  have hS := sameBytes_any none none 0 0 0 0 [] [] w1 rfl rfl (by decide) (fun h => absurd h (Nat.lt_irrefl 0)) (fun h => absurd h (Nat.lt_irrefl 0))
  rw [sameB_self] at hS
  go_wp2_with (go_at_call 29; refine Hid.out ?_)
  refine Lib.hid ?_
  (with_reducible refine hS.mono ?_)
  rintro e w2 ⟨rfl, m, hw2⟩
  have hb2 : Below w1.heap.size w1 w2 := by rw [hw2]; exact below_draws (below_self w1) m
  have a1 : w2.cell? ⟨w.heap.size, 12, none⟩ = some (.slice none 0 0) := (HA1.out.grow hb2).cell 12
  have b1 : w2.cell? ⟨w.heap.size + 1, 12, none⟩ = some (.slice none 0 0) := (HB1.out.grow hb2).cell 12
  have HW2 := Hid.in (below_step HW1.out hb2)
  clear hS hw2 hb2 a0 b0
  have hL := sameLines_self none none 0 0 0 [] w2 rfl (by decide) (fun h => absurd h (Nat.lt_irrefl 0)) (fun h => absurd h (Nat.lt_irrefl 0)) (fun x hx => absurd hx List.not_mem_nil)
  go_wp2_with (go_at_call 52; refine Hid.out ?_)
  refine Lib.hid ?_
  (with_reducible refine hL.mono ?_)
  rintro e w3 ⟨rfl, m3, hw3⟩
  have HW3 : Hid (Below w.heap.size w w3) := by rw [hw3]; exact below_draws HW2.out m3
  clear hw3 hL
  go_wp2_with fail
  go_ret
  exact ⟨rfl, HW3.out⟩
end Go.Proofs.YtnpaijbkhmnfpaaGreat

/- Ours: the chapter's small harts: what so many steps leave, and the hart beside the list of bools. -/
namespace Go.Proofs.YtnpaijbkhmnfpaaGreat
open Go.RowKit Go.Maps

/-- the chapter's harts: the first two steps with that trap, then without -/
def nS (tr : Option Nat) : Nat → St
  | 0 => st0 8 smallL
  | k + 1 => stpH 3 (nS tr k).h (nS tr k).xs false (if k < 2 then tr else none)
theorem nS_ok (tr : Option Nat) (ht : ∀ z, tr = some z → z ≤ 4294967295) : ∀ k, StOk k 10 (nS tr k)
  | 0 => st0_ok 8 smallL (by decide) (by decide)
  | k + 1 => by
    have := nS_ok tr ht k
    have h2 := stpH_ok (id := 3) (hold := false) (tr := if k < 2 then tr else none) this.h this.b (fun z e => by
      split at e
      · exact ht z e
      · cases e)
    rw [this.l] at h2
    exact h2
def tS : St := stpH 3 (stpH 3 (newH 8) smallL false none).h (stpH 3 (newH 8) smallL false none).xs false (some 20)
theorem nT2 : (nS (some 9) 2).ev = [⟨3, 3, 8, 0, 9⟩] := by kernel_rfl
theorem nT2s : (nS (some 9) 2).h.st = 0 := by kernel_rfl
theorem nT4 : (nS (some 9) 4).ev = [⟨2, 3, 9, 1, 10⟩, ⟨12, 3, 9, 0, 0⟩] := by kernel_rfl
theorem nT5 : (nS (some 9) 5).ev = [] := by kernel_rfl
theorem nT5s : (nS (some 9) 5).h.st = 1 := by kernel_rfl
theorem nT5p : (nS (some 9) 5).h.pc = 10 := by kernel_rfl
theorem nT5x : (nS (some 9) 5).xs = smallL := by kernel_rfl
theorem nF2 : (nS none 2).ev = [⟨4, 3, 8, 0, 120⟩] := by kernel_rfl
theorem nF2s : (nS none 2).h.st = 2 := by kernel_rfl
theorem nF4 : (nS none 4).ev = [] := by kernel_rfl
theorem nF5 : (nS none 5).ev = [] := by kernel_rfl
theorem nF5p : (nS none 5).h.pc = 8 := by kernel_rfl
theorem nF5x : (nS none 5).xs = smallL := by kernel_rfl
theorem tS_pc : tS.h.pc = 20 := by kernel_rfl
theorem tS_xs : tS.xs = smallL := by kernel_rfl
theorem uS_ev : (stpH 0 (newH 10) smallL false none).ev = [⟨4, 0, 10, 0, 210⟩] := by kernel_rfl

/-- a hart, the memory, and the list of the two answers -/
structure NM (w1 w : World) (gB q mg h l b : Nat) (id : Int) (H : Hs) (xs : List Int) : Prop where
  hm : HM w1 w (G3 h b mg) q mg h l b id H xs
  bb : Blk w gB 4 #[.bool true, .bool false]
section
variable {w1 w w' : World} {gB q mg h l b : Nat} {id : Int} {H : Hs} {xs : List Int}
theorem NM.below (k : NM w1 w gB q mg h l b id H xs) (hb : Below w.heap.size w w') : NM w1 w' gB q mg h l b id H xs := ⟨k.hm.below hb, k.bb.grow hb⟩
theorem NM.step (k : NM w1 w gB q mg h l b id H xs) (hold : Bool) (v : Value) (tr : Option Nat) (hx6 : xs.length ≤ 65536) (hbx : Byt xs) (hok : HsOk 1000000 H) (ht : TrV w v tr) :
    Calls Tryz.prog 11 #[.pointer (some ⟨h, 0, none⟩), .pointer (some ⟨q, 0, none⟩), .bool hold, v] w fun e w' => ∃ vv, e = .returned (.tuple #[vv, .int .i64 0]) ∧ EOwn 41 w' w.heap.size vv (stpH id H xs hold tr).ev ∧ NM w1 w' gB q mg h l b id (stpH id H xs hold tr).h (stpH id H xs hold tr).xs ∧ Keeps (G3 h b mg) w w' := by
  refine (k.hm.step hold v tr hx6 hbx hok ht).mono ?_
  rintro e w' ⟨vv, rfl, ho, hk, hkp⟩
  exact ⟨vv, rfl, ho, ⟨hk, (hkp.block gB k.bb.lt (k.hm.no3 k.bb (by decide) (by decide))).trans k.bb⟩, hkp⟩
end
/-- the next of the chapter's steps -/
theorem NM.nx {w1 w : World} {gB q mg h l b k : Nat} {tr : Option Nat} (K : NM w1 w gB q mg h l b 3 (nS tr k).h (nS tr k).xs) (ht0 : ∀ z, tr = some z → z ≤ 4294967295) (hk : k ≤ 100) (v : Value) (tt : Option Nat) (hv : TrV w v tt) (e : tt = if k < 2 then tr else none) :
    Calls Tryz.prog 11 #[.pointer (some ⟨h, 0, none⟩), .pointer (some ⟨q, 0, none⟩), .bool false, v] w fun e w' => ∃ vv, e = .returned (.tuple #[vv, .int .i64 0]) ∧ EOwn 41 w' w.heap.size vv (nS tr (k + 1)).ev ∧ NM w1 w' gB q mg h l b 3 (nS tr (k + 1)).h (nS tr (k + 1)).xs ∧ Keeps (G3 h b mg) w w' := by
  have hs := nS_ok tr ht0 k
  subst e
  exact K.step false v _ (by rw [hs.l]; decide) hs.b (hs.h.more (by omega)) hv

end Go.Proofs.YtnpaijbkhmnfpaaGreat

/- Ours: helpers of HartNumbers' walk. -/
namespace Go.Proofs.YtnpaijbkhmnfpaaGreat
open Go.RowKit Go.Maps

theorem trap_c (t : Int) (tr : Option Nat) (w : World) (ht : t ≤ 2147483647) (e : (if t < 0 then none else some t.toNat) = tr) : Calls Tryz.prog 12 #[.int .i32 t] w fun e w' => ∃ v, e = .returned v ∧ TrV w' v tr ∧ Below w.heap.size w w' := by
  refine (trap_any t w).mono ?_
  rintro _ _ ⟨rfl, rfl⟩
  exact ⟨_, rfl, e ▸ trap_v t w ht, new_alloc _ _⟩
/-- the one event of a list, in memory -/
def E7 (w : World) (g : Nat) (o : Nat) (x : Ev) : Prop := w.cell? ⟨g, o, none⟩ = some (.int .u8 x.k) ∧ w.cell? ⟨g, o + 1, none⟩ = some (.int .i64 0) ∧ w.cell? ⟨g, o + 2, none⟩ = some (.int .i64 x.h) ∧ w.cell? ⟨g, o + 3, none⟩ = some (.int .i64 x.p) ∧ w.cell? ⟨g, o + 4, none⟩ = some (.int .u8 x.o) ∧ w.cell? ⟨g, o + 5, none⟩ = some (.int .i64 0) ∧ w.cell? ⟨g, o + 6, none⟩ = some (.int .i64 x.n)
theorem E7.below {w w' : World} {g o : Nat} {x : Ev} (h : E7 w g o x) (hb : Below w.heap.size w w') : E7 w' g o x := by
  obtain ⟨h0, h1, h2, h3, h4, h5, h6⟩ := h
  exact ⟨(hb.cell (cell_lt h0)).trans h0, (hb.cell (cell_lt h1)).trans h1, (hb.cell (cell_lt h2)).trans h2, (hb.cell (cell_lt h3)).trans h3, (hb.cell (cell_lt h4)).trans h4, (hb.cell (cell_lt h5)).trans h5, (hb.cell (cell_lt h6)).trans h6⟩
theorem EOwn.one8 {T : TypeId} {w : World} {B : Nat} {v : Value} {x : Ev} (h : EOwn T w B v [x]) : ∃ g cap, v = .slice (some ⟨g, 0, none⟩) 1 cap ∧ E7 w g 0 x := h.one7
theorem EOwn.two8 {T : TypeId} {w : World} {B : Nat} {v : Value} {x y : Ev} (h : EOwn T w B v [x, y]) : ∃ g cap, v = .slice (some ⟨g, 0, none⟩) 2 cap ∧ E7 w g 7 y := h.two7
theorem EOwn.nil8 {T : TypeId} {w : World} {B : Nat} {v : Value} (h : EOwn T w B v []) : ∃ p cap, v = .slice p 0 cap := by
  obtain ⟨p, cap, e, -⟩ := h.shape
  exact ⟨p, cap, e⟩
section
variable {w1 w : World} {G : Nat → Prop} {q mg h l b : Nat} {id : Int} {H : Hs} {xs : List Int}
theorem HM.run (k : HM w1 w G q mg h l b id H xs) {st : Int} (e : H.st = st) : Calls Tryz.prog 13 #[.pointer (some ⟨h, 0, none⟩)] w fun e w' => e = .returned (.bool (decide (st = 0))) ∧ w' = w := by
  obtain ⟨pS, cS, pH, cH, hB, -⟩ := k.hat.blk
  subst e
  exact running_any h l H.st w (hB.cell 1) (hB.cell 13)
theorem HM.cell13 (k : HM w1 w G q mg h l b id H xs) : w.cell? ⟨h, 13, none⟩ = some (.pointer (some ⟨l, 0, none⟩)) := by
  obtain ⟨pS, cS, pH, cH, hB, -⟩ := k.hat.blk
  exact hB.cell 13
/-- what State answers: the state and the place -/
theorem HM.state (k : HM w1 w G q mg h l b id H xs) {st pc : Int} (e1 : H.st = st) (e2 : (H.pc : Int) = pc) (hok : HsOk 1000000 H) : Calls Tryz.prog 14 #[.pointer (some ⟨h, 0, none⟩)] w fun e w' => ∃ r0 r1 r2 r3 r4 r5 r6 r7 vS vH vL, e = .returned (.agg #[.int .u8 st, .int .u32 pc, r0, r1, r2, r3, r4, r5, r6, r7, vS, vH, vL]) ∧ Below w.heap.size w w' := by
  refine (hstate_any _ h l b G id H w k.hat hok).mono ?_
  rintro e w' ⟨V, rfl, ⟨vS, vH, vL, rfl, -, -, -⟩, hb⟩
  subst e1 e2
  exact ⟨_, _, _, _, _, _, _, _, vS, vH, vL, rfl, hb⟩
end
/-- a memory behind w1, and the list of the two answers -/
structure RM (w1 w : World) (gB q mg : Nat) : Prop where
  mem : Mem w w1.heap.size q mg smallL
  bel : Below w1.heap.size w1 w
  bb : Blk w gB 4 #[.bool true, .bool false]
theorem RM.below {w1 w w' : World} {gB q mg : Nat} (k : RM w1 w gB q mg) (hb : Below w.heap.size w w') : RM w1 w' gB q mg := ⟨k.mem.below hb, below_step k.bel hb, k.bb.grow hb⟩
theorem NM.rm {w1 w : World} {gB q mg h l b : Nat} {id : Int} {H : Hs} {xs : List Int} (k : NM w1 w gB q mg h l b id H xs) (e : xs = smallL) : RM w1 w gB q mg := by
  subst e
  exact ⟨k.hm.mem, k.hm.bel, k.bb⟩
theorem RM.new {w1 w w' : World} {gB q mg h l b pc : Nat} {id : Int} (k : RM w1 w gB q mg) (hB : Blk w' h 56 (hrA id 0 pc Z8r (.slice none 0 0) (.slice none 0 0) l)) (hl : LinAt w' w.heap.size l b []) (hh : w.heap.size ≤ h) (h1 : h ≠ l) (h2 : l < h) (h3 : b < h) (hb : Below w.heap.size w w') : NM w1 w' gB q mg h l b id (newH pc) smallL :=
  ⟨HM.new k.mem k.bel hB hl hh h1 h2 h3 hb, k.bb.grow hb⟩
theorem newOk8 : HsOk 1000000 (newH 8) := (newH_ok 8 (by decide)).more (by decide)
theorem newOk10 : HsOk 1000000 (newH 10) := (newH_ok 10 (by decide)).more (by decide)
theorem tS1 : StOk 1 10 (stpH 3 (newH 8) smallL false none) := stpH_ok (newH_ok 8 (by decide)) (nS_ok none (fun z e => by cases e) 0).b (fun z e => by cases e)
theorem tS2 : StOk 2 10 tS := by
  have h := stpH_ok (id := 3) (hold := false) (tr := some 20) tS1.h tS1.b (fun z e => by injection e with e; omega)
  rw [tS1.l] at h
  exact h
theorem smallOk : Byt smallL := (nS_ok none (fun z e => by cases e) 0).b
end Go.Proofs.YtnpaijbkhmnfpaaGreat

/- Ours: HartNumbers, walked. -/
namespace Go.Proofs.YtnpaijbkhmnfpaaGreat
open Go.RowKit Go.Maps

/-- what is no hart, twice, in a list -/
structure ZM (w0 w : World) (z : Nat) : Prop where
  bel : Below w0.heap.size w0 w
  bl : Blk w (z + 1) 29 #[.pointer none, .pointer (some ⟨z, 0, none⟩)]
  hz : w.cell? ⟨z, 13, none⟩ = some (.pointer none)
theorem ZM.below {w0 w w' : World} {z : Nat} (k : ZM w0 w z) (hb : Below w.heap.size w w') : ZM w0 w' z := ⟨below_step k.bel hb, k.bl.grow hb, (hb.cell (cell_lt k.hz)).trans k.hz⟩
theorem nF5s : (nS none 5).h.st = 2 := by kernel_rfl
set_option maxHeartbeats 8000000 in
set_option maxRecDepth 8000 in
theorem numbers_walk (w : World) : Calls Tryz.prog 3 #[] w fun e w' => e = .returned (.bool true) ∧ Below w.heap.size w w' := by
  have hS := small_any w
  go_enter Tryz.func3, Tryz.ntmps3
  go_wp2_with (go_at_call 9; refine Hid.out ?_)
  refine Lib.hid ?_
  (with_reducible refine hS.mono ?_)
  rintro e w1 ⟨g1, rfl, ho1, hb1⟩
  have hN := new_ok (some ⟨g1, 0, none⟩) 10 10 smallL w1 rfl (by decide) ho1.row
  have HB1 := Hid.in hb1
  clear hS ho1 hb1
  go_wp2_with (go_at_call 8; refine Hid.out ?_)
  refine Lib.hid ?_
  (with_reducible refine hN.mono ?_)
  rintro e w2 ⟨q, mg, rfl, hm2, hb2⟩
  have HR0 : Hid (RM w1 (w2.alloc (.cells #[.bool true, .bool false] 4)) w2.heap.size q mg) := ⟨hm2.below (new_alloc _ _), below_alloc hb2 _, Blk.new _ _ _⟩
  clear hN hm2 hb2
  go_wp2_with fail
  generalize w2.heap.size = gB at *
  go_loopw [31] (fun vi wr => (vi = .int .i64 0 ∨ vi = .int .i64 1 ∨ vi = .int .i64 2) ∧ RM w1 wr gB q mg) (fun vi _ => 2 - (intOf vi).toNat)
  case atStart => exact ⟨.inl rfl, HR0.out⟩
  case round =>
    obtain ⟨hv, hr⟩ := hrel
    have HR := Hid.in hr
    clear hr HR0
    rcases hv with rfl | rfl | rfl
    · have hc : wr.cell? ⟨gB, 0, none⟩ = some (.bool true) := HR.out.bb.cell 0
      have hH : Calls Tryz.prog 10 #[.int .i64 3, .int .u32 8] wr _ := hnew_any 3 8 wr
      go_wp2_with (go_at_call 10; refine Hid.out ?_)
      refine Lib.hid ?_
      (with_reducible refine hH.mono ?_)
      rintro e w3 ⟨h, l, b, rfl, hB3, hl3, h1, h2, h3, h4, hb3⟩
      have HK3 : Hid (NM w1 w3 gB q mg h l b 3 (nS (some 9) 0).h (nS (some 9) 0).xs) := HR.out.new hB3 hl3 h1 h2 h3 h4 hb3
      clear hH hB3 hl3 h1 h2 h3 h4 hb3 HR hc
      have HT : Hid (∀ z, (some 9) = some z → z ≤ 4294967295) := fun z e => by injection e with e; omega
      have hT := trap_c 9 (some 9) w3 (by decide) (by decide)
      go_wp2_with (go_at_call 12; refine Hid.out ?_)
      refine Lib.hid ?_
      (with_reducible refine hT.mono ?_)
      rintro e w4 ⟨v4, rfl, hv4, hb4⟩
      have hSt := (HK3.out.below hb4).nx HT.out (by decide) v4 (some 9) hv4 rfl
      clear hT hv4 hb4 HK3
      go_wp2_with (go_at_call 11; refine Hid.out ?_)
      refine Lib.hid ?_
      (with_reducible refine hSt.mono ?_)
      rintro e w5 ⟨vv5, rfl, -, hk5, -⟩
      have HK5 := Hid.in hk5
      clear hSt hk5
      have hT := trap_c 9 (some 9) w5 (by decide) (by decide)
      go_wp2_with (go_at_call 12; refine Hid.out ?_)
      refine Lib.hid ?_
      (with_reducible refine hT.mono ?_)
      rintro e w6 ⟨v6, rfl, hv6, hb6⟩
      have hSt := (HK5.out.below hb6).nx HT.out (by decide) v6 (some 9) hv6 rfl
      clear hT hv6 hb6 HK5
      go_wp2_with (go_at_call 11; refine Hid.out ?_)
      refine Lib.hid ?_
      (with_reducible refine hSt.mono ?_)
      rintro e w7 ⟨vv7, rfl, ho7, hk7, -⟩
      rw [nT2] at ho7
      obtain ⟨g7, c7, rfl, k0, k1, k2, k3, k4, k5, k6⟩ := ho7.one7
      dsimp only at k0 k2 k3 k4 k6
      have HK7 := Hid.in hk7
      have hRn : Calls Tryz.prog 13 #[.pointer (some ⟨h, 0, none⟩)] w7 fun e w' => e = .returned (.bool true) ∧ w' = w7 := hk7.hm.run nT2s
      clear hSt hk7 ho7
      go_wp2_with (go_at_call 13; refine Hid.out ?_)
      refine Lib.hid ?_
      (with_reducible refine hRn.mono ?_)
      rintro e w8 ⟨rfl, rfl⟩
      clear hRn k0 k1 k2 k3 k4 k5 k6
      have hSt := HK7.out.nx HT.out (by decide) .nilFunc none (.inl ⟨rfl, rfl⟩) rfl
      go_wp2_with (go_at_call 11; refine Hid.out ?_)
      refine Lib.hid ?_
      (with_reducible refine hSt.mono ?_)
      rintro e w9 ⟨vv9, rfl, -, hk9, -⟩
      have HK9 := Hid.in hk9
      clear hSt hk9 HK7
      have hSt := HK9.out.nx HT.out (by decide) .nilFunc none (.inl ⟨rfl, rfl⟩) rfl
      go_wp2_with (go_at_call 11; refine Hid.out ?_)
      refine Lib.hid ?_
      (with_reducible refine hSt.mono ?_)
      rintro e w10 ⟨vv10, rfl, ho10, hk10, -⟩
      have HO10 := Hid.in ho10
      have HK10 := Hid.in hk10
      clear hSt hk10 ho10 HK9
      have hSt := HK10.out.nx HT.out (by decide) .nilFunc none (.inl ⟨rfl, rfl⟩) rfl
      go_wp2_with (go_at_call 11; refine Hid.out ?_)
      refine Lib.hid ?_
      (with_reducible refine hSt.mono ?_)
      rintro e w11 ⟨vv11, rfl, ho11, hk11, hkp11⟩
      rw [nT5] at ho11
      obtain ⟨p11, c11, rfl⟩ := ho11.nil8
      have hoX : EOwn 41 w11 _ vv10 (nS (some 9) 4).ev := HK10.out.hm.row hkp11 HO10.out (by decide) (by decide)
      rw [nT4] at hoX
      obtain ⟨gX, cX, rfl, k0, k1, k2, k3, k4, k5, k6⟩ := hoX.two7
      dsimp only at k0 k2 k3 k4 k6
      have HK11 := Hid.in hk11
      have hS := hk11.hm.state (st := 1) (pc := 10) nT5s (by rw [nT5p]; rfl) ((nS_ok (some 9) HT.out 5).h.more (by decide))
      clear hSt hk11 ho11 hkp11 HO10 HK10 hoX
      have q1 := fld50_0
      have q2 := fld50_1
      go_wp2_with (go_at_call 14; refine Hid.out ?_)
      refine Lib.hid ?_
      (with_reducible refine hS.mono ?_)
      rintro e w12 ⟨r0, r1, r2, r3, r4, r5, r6, r7, vS, vH, vL, rfl, hb12⟩
      have HK12 := Hid.in (HK11.out.below hb12)
      clear hS k0 k1 k2 k3 k4 k5 k6
      have hS := HK12.out.hm.state (st := 1) (pc := 10) nT5s (by rw [nT5p]; rfl) ((nS_ok (some 9) HT.out 5).h.more (by decide))
      clear hb12 HK11
      go_wp2_with (go_at_call 14; refine Hid.out ?_)
      refine Lib.hid ?_
      (with_reducible refine hS.mono ?_)
      rintro e w13 ⟨r0, r1, r2, r3, r4, r5, r6, r7, vS, vH, vL, rfl, hb13⟩
      have HK13 := Hid.in (HK12.out.below hb13)
      clear hS hb13 HK12
      go_wp2_with fail
      go_roundw
      case rel => exact ⟨.inr (.inl rfl), HK13.out.rm nT5x⟩
      case measure => simp [intOf]
    · have hc : wr.cell? ⟨gB, 1, none⟩ = some (.bool false) := HR.out.bb.cell 1
      have hH : Calls Tryz.prog 10 #[.int .i64 3, .int .u32 8] wr _ := hnew_any 3 8 wr
      go_wp2_with (go_at_call 10; refine Hid.out ?_)
      refine Lib.hid ?_
      (with_reducible refine hH.mono ?_)
      rintro e w3 ⟨h, l, b, rfl, hB3, hl3, h1, h2, h3, h4, hb3⟩
      have HK3 : Hid (NM w1 w3 gB q mg h l b 3 (nS none 0).h (nS none 0).xs) := HR.out.new hB3 hl3 h1 h2 h3 h4 hb3
      clear hH hB3 hl3 h1 h2 h3 h4 hb3 HR hc
      have HT : Hid (∀ z, none = some z → z ≤ 4294967295) := fun z e => by cases e
      have hT := trap_c (-1) none w3 (by decide) (by decide)
      go_wp2_with (go_at_call 12; refine Hid.out ?_)
      refine Lib.hid ?_
      (with_reducible refine hT.mono ?_)
      rintro e w4 ⟨v4, rfl, hv4, hb4⟩
      have hSt := (HK3.out.below hb4).nx HT.out (by decide) v4 none hv4 rfl
      clear hT hv4 hb4 HK3
      go_wp2_with (go_at_call 11; refine Hid.out ?_)
      refine Lib.hid ?_
      (with_reducible refine hSt.mono ?_)
      rintro e w5 ⟨vv5, rfl, -, hk5, -⟩
      have HK5 := Hid.in hk5
      clear hSt hk5
      have hT := trap_c (-1) none w5 (by decide) (by decide)
      go_wp2_with (go_at_call 12; refine Hid.out ?_)
      refine Lib.hid ?_
      (with_reducible refine hT.mono ?_)
      rintro e w6 ⟨v6, rfl, hv6, hb6⟩
      have hSt := (HK5.out.below hb6).nx HT.out (by decide) v6 none hv6 rfl
      clear hT hv6 hb6 HK5
      go_wp2_with (go_at_call 11; refine Hid.out ?_)
      refine Lib.hid ?_
      (with_reducible refine hSt.mono ?_)
      rintro e w7 ⟨vv7, rfl, ho7, hk7, -⟩
      rw [nF2] at ho7
      obtain ⟨g7, c7, rfl, k0, k1, k2, k3, k4, k5, k6⟩ := ho7.one7
      dsimp only at k0 k2 k3 k4 k6
      have HK7 := Hid.in hk7
      have hRn : Calls Tryz.prog 13 #[.pointer (some ⟨h, 0, none⟩)] w7 fun e w' => e = .returned (.bool false) ∧ w' = w7 := hk7.hm.run nF2s
      clear hSt hk7 ho7
      go_wp2_with (go_at_call 13; refine Hid.out ?_)
      refine Lib.hid ?_
      (with_reducible refine hRn.mono ?_)
      rintro e w8 ⟨rfl, rfl⟩
      clear hRn k0 k1 k2 k3 k4 k5 k6
      have hSt := HK7.out.nx HT.out (by decide) .nilFunc none (.inl ⟨rfl, rfl⟩) rfl
      go_wp2_with (go_at_call 11; refine Hid.out ?_)
      refine Lib.hid ?_
      (with_reducible refine hSt.mono ?_)
      rintro e w9 ⟨vv9, rfl, -, hk9, -⟩
      have HK9 := Hid.in hk9
      clear hSt hk9 HK7
      have hSt := HK9.out.nx HT.out (by decide) .nilFunc none (.inl ⟨rfl, rfl⟩) rfl
      go_wp2_with (go_at_call 11; refine Hid.out ?_)
      refine Lib.hid ?_
      (with_reducible refine hSt.mono ?_)
      rintro e w10 ⟨vv10, rfl, ho10, hk10, -⟩
      have HO10 := Hid.in ho10
      have HK10 := Hid.in hk10
      clear hSt hk10 ho10 HK9
      have hSt := HK10.out.nx HT.out (by decide) .nilFunc none (.inl ⟨rfl, rfl⟩) rfl
      go_wp2_with (go_at_call 11; refine Hid.out ?_)
      refine Lib.hid ?_
      (with_reducible refine hSt.mono ?_)
      rintro e w11 ⟨vv11, rfl, ho11, hk11, hkp11⟩
      rw [nF5] at ho11
      obtain ⟨p11, c11, rfl⟩ := ho11.nil8
      rw [nF4] at HO10
      obtain ⟨pX, cX, rfl⟩ := HO10.out.nil8
      have HK11 := Hid.in hk11
      have hS := hk11.hm.state (st := 2) (pc := 8) nF5s (by rw [nF5p]; rfl) ((nS_ok none HT.out 5).h.more (by decide))
      clear hSt hk11 ho11 hkp11 HO10 HK10
      have q1 := fld50_0
      have q2 := fld50_1
      go_wp2_with (go_at_call 14; refine Hid.out ?_)
      refine Lib.hid ?_
      (with_reducible refine hS.mono ?_)
      rintro e w12 ⟨r0, r1, r2, r3, r4, r5, r6, r7, vS, vH, vL, rfl, hb12⟩
      have HK12 := Hid.in (HK11.out.below hb12)
      clear hS hb12 HK11
      go_wp2_with fail
      go_roundw
      case rel => exact ⟨.inr (.inr rfl), HK12.out.rm nF5x⟩
      case measure => simp [intOf]
    · have hA := rounds_any wr
      go_wp2_with (go_at_call 15; refine Hid.out ?_)
      refine Lib.hid ?_
      (with_reducible refine hA.mono ?_)
      rintro e w3 ⟨rfl, hb3⟩
      have HR3 := Hid.in (HR.out.below hb3)
      have hL := loads_any w3
      clear hA hb3 HR
      go_wp2_with (go_at_call 16; refine Hid.out ?_)
      refine Lib.hid ?_
      (with_reducible refine hL.mono ?_)
      rintro e w4 ⟨rfl, hb4⟩
      have HR4 := Hid.in (HR3.out.below hb4)
      have hH : Calls Tryz.prog 10 #[.int .i64 3, .int .u32 8] w4 _ := hnew_any 3 8 w4
      clear hL hb4 HR3
      go_wp2_with (go_at_call 10; refine Hid.out ?_)
      refine Lib.hid ?_
      (with_reducible refine hH.mono ?_)
      rintro e w5 ⟨h, l, b, rfl, hB3, hl3, h1, h2, h3, h4, hb3⟩
      have hk5 : NM w1 w5 gB q mg h l b 3 (newH 8) smallL := HR4.out.new hB3 hl3 h1 h2 h3 h4 hb3
      have hSt := hk5.step false .nilFunc none (by decide) smallOk newOk8 (.inl ⟨rfl, rfl⟩)
      clear hH hB3 hl3 h1 h2 h3 h4 hb3 HR4 hk5
      go_wp2_with (go_at_call 11; refine Hid.out ?_)
      refine Lib.hid ?_
      (with_reducible refine hSt.mono ?_)
      rintro e w6 ⟨vv6, rfl, -, hk6, -⟩
      have HK6 := Hid.in hk6
      have hT := trap_c 20 (some 20) w6 (by decide) (by decide)
      clear hSt hk6
      go_wp2_with (go_at_call 12; refine Hid.out ?_)
      refine Lib.hid ?_
      (with_reducible refine hT.mono ?_)
      rintro e w7 ⟨v7, rfl, hv7, hb7⟩
      have hSt := (HK6.out.below hb7).step false v7 (some 20) (by rw [tS1.l]; decide) tS1.b (tS1.h.more (by decide)) hv7
      clear hT hv7 hb7 HK6
      go_wp2_with (go_at_call 11; refine Hid.out ?_)
      refine Lib.hid ?_
      (with_reducible refine hSt.mono ?_)
      rintro e w8 ⟨vv8, rfl, -, hk8, -⟩
      have HK8 : Hid (NM w1 w8 gB q mg h l b 3 tS.h tS.xs) := hk8
      have hS := HK8.out.hm.state (st := tS.h.st) (pc := 20) rfl (by rw [tS_pc]; rfl) (tS2.h.more (by decide))
      generalize tS.h.st = st8 at *
      clear hSt hk8
      have q2 := fld50_1
      go_wp2_with (go_at_call 14; refine Hid.out ?_)
      refine Lib.hid ?_
      (with_reducible refine hS.mono ?_)
      rintro e w9 ⟨r0, r1, r2, r3, r4, r5, r6, r7, vS, vH, vL, rfl, hb9⟩
      have HR9 := Hid.in ((HK8.out.rm tS_xs).below hb9)
      have hH : Calls Tryz.prog 10 #[.int .i64 0, .int .u32 10] w9 _ := hnew_any 0 10 w9
      clear hS hb9 HK8
      go_wp2_with (go_at_call 10; refine Hid.out ?_)
      refine Lib.hid ?_
      (with_reducible refine hH.mono ?_)
      rintro e w10 ⟨h', l', b', rfl, hB3, hl3, h1, h2, h3, h4, hb3⟩
      have hk10 : NM w1 w10 gB q mg h' l' b' 0 (newH 10) smallL := HR9.out.new hB3 hl3 h1 h2 h3 h4 hb3
      have hSt := hk10.step false .nilFunc none (by decide) smallOk newOk10 (.inl ⟨rfl, rfl⟩)
      rw [uS_ev] at hSt
      clear hH hB3 hl3 h1 h2 h3 h4 hb3 HR9 hk10
      go_wp2_with (go_at_call 11; refine Hid.out ?_)
      refine Lib.hid ?_
      (with_reducible refine hSt.mono ?_)
      rintro e w11 ⟨vv11, rfl, ho11, hk11, -⟩
      obtain ⟨g11, c11, rfl, hE11⟩ := ho11.one8
      have HE11 := Hid.in hE11
      have HB11 := Hid.in hk11.hm.bel
      have HC11 := Hid.in hk11.hm.cell13
      have hNo := hstep_nomem (p := none) h' l' .nilFunc false w11 HC11.out (.inl rfl)
      clear hSt ho11 hk11 hE11
      go_wp2_with (go_at_call 11; refine Hid.out ?_)
      refine Lib.hid ?_
      (with_reducible refine hNo.mono ?_)
      rintro e w12 ⟨rfl, rfl⟩
      clear hNo
      go_wp2_with (go_at_call 11; refine Hid.out ?_)
      refine Lib.hid ?_
      have hNo := hstep_nomem (p := some ⟨w12.heap.size, 0, none⟩) h' l' .nilFunc false (w12.alloc (.cells #[.bool false, .slice none 0 0] 53)) (((new_alloc w12 _).cell (cell_lt HC11.out)).trans HC11.out) (.inr ⟨_, rfl, (Blk.new w12 53 #[.bool false, .slice none 0 0]).cell 0⟩)
      (with_reducible refine hNo.mono ?_)
      rintro e w13 ⟨rfl, hw13⟩
      have HB13 : Hid (Below w12.heap.size w12 w13) := by rw [hw13]; exact new_alloc _ _
      clear hNo hw13 HC11
      go_wp2_with fail
      have HZ0 : Hid (ZM w12 ((w13.alloc (.cells #[.int .i64 0, .int .u8 0, .int .u32 0, .int .u32 0, .int .u32 0, .int .u32 0, .int .u32 0, .int .u32 0, .int .u32 0, .int .u32 0, .int .u32 0, .slice none 0 0, .slice none 0 0, .pointer none] 56)).alloc (.cells #[.pointer none, .pointer (some ⟨w13.heap.size, 0, none⟩)] 29)) w13.heap.size) := ⟨below_alloc (below_alloc HB13.out _) _, blk_two _ _ _ _ _, ((Blk.new w13 56 _).grow (new_alloc _ _)).cell 13⟩
      go_loopw [183] (fun vi wr => (vi = .int .i64 0 ∨ vi = .int .i64 1 ∨ vi = .int .i64 2) ∧ ZM w12 wr w13.heap.size) (fun vi _ => 2 - (intOf vi).toNat)
      case atStart => exact ⟨.inl rfl, HZ0.out⟩
      case round =>
        obtain ⟨hv, hr⟩ := hrel
        have HZ := Hid.in hr
        clear hr HZ0
        rcases hv with rfl | rfl | rfl
        · have hc : wr.cell? ⟨w13.heap.size + 1, 0, none⟩ = some (.pointer none) := HZ.out.bl.cell 0
          have HNo : Hid (NoH wr none) := .inl rfl
          have hS1 := hstep_none (p := none) (.pointer (some ⟨q, 0, none⟩)) .nilFunc true wr HNo.out
          go_wp2_with (go_at_call 11; refine Hid.out ?_)
          refine Lib.hid ?_
          (with_reducible refine hS1.mono ?_)
          rintro e w14 ⟨rfl, rfl⟩
          clear hS1 hc
          have hS2 := hsync_none (p := none) w14 HNo.out
          go_wp2_with (go_at_call 17; refine Hid.out ?_)
          refine Lib.hid ?_
          (with_reducible refine hS2.mono ?_)
          rintro e w15 ⟨rfl, rfl⟩
          clear hS2
          have hS3 := hrun_none (p := none) w15 HNo.out
          go_wp2_with (go_at_call 13; refine Hid.out ?_)
          refine Lib.hid ?_
          (with_reducible refine hS3.mono ?_)
          rintro e w16 ⟨rfl, rfl⟩
          clear hS3
          have hS4 := hcopy_none (p := none) w16 HNo.out
          go_wp2_with (go_at_call 18; refine Hid.out ?_)
          refine Lib.hid ?_
          (with_reducible refine hS4.mono ?_)
          rintro e w17 ⟨rfl, rfl⟩
          clear hS4
          have hS5 := hstate_none (p := none) w17 HNo.out
          go_wp2_with (go_at_call 14; refine Hid.out ?_)
          refine Lib.hid ?_
          (with_reducible refine hS5.mono ?_)
          rintro e w18 ⟨rfl, hb18⟩
          have HZ8 := Hid.in (HZ.out.below hb18)
          clear hS5 hb18 HZ HNo
          have hS6 := sameHart_zero w18
          go_wp2_with (go_at_call 19; refine Hid.out ?_)
          refine Lib.hid ?_
          (with_reducible refine hS6.mono ?_)
          rintro e w19 ⟨rfl, hb19⟩
          have HZ9 := Hid.in (HZ8.out.below hb19)
          clear hS6 hb19 HZ8
          go_wp2_with fail
          go_roundw
          case rel => exact ⟨.inr (.inl rfl), HZ9.out⟩
          case measure => simp [intOf]
        · have hc : wr.cell? ⟨w13.heap.size + 1, 1, none⟩ = some (.pointer (some ⟨w13.heap.size, 0, none⟩)) := HZ.out.bl.cell 1
          have HNo : Hid (NoH wr (some ⟨w13.heap.size, 0, none⟩)) := .inr ⟨_, rfl, HZ.out.hz⟩
          have hS1 := hstep_none (p := (some ⟨w13.heap.size, 0, none⟩)) (.pointer (some ⟨q, 0, none⟩)) .nilFunc true wr HNo.out
          go_wp2_with (go_at_call 11; refine Hid.out ?_)
          refine Lib.hid ?_
          (with_reducible refine hS1.mono ?_)
          rintro e w14 ⟨rfl, rfl⟩
          clear hS1 hc
          have hS2 := hsync_none (p := (some ⟨w13.heap.size, 0, none⟩)) w14 HNo.out
          go_wp2_with (go_at_call 17; refine Hid.out ?_)
          refine Lib.hid ?_
          (with_reducible refine hS2.mono ?_)
          rintro e w15 ⟨rfl, rfl⟩
          clear hS2
          have hS3 := hrun_none (p := (some ⟨w13.heap.size, 0, none⟩)) w15 HNo.out
          go_wp2_with (go_at_call 13; refine Hid.out ?_)
          refine Lib.hid ?_
          (with_reducible refine hS3.mono ?_)
          rintro e w16 ⟨rfl, rfl⟩
          clear hS3
          have hS4 := hcopy_none (p := (some ⟨w13.heap.size, 0, none⟩)) w16 HNo.out
          go_wp2_with (go_at_call 18; refine Hid.out ?_)
          refine Lib.hid ?_
          (with_reducible refine hS4.mono ?_)
          rintro e w17 ⟨rfl, rfl⟩
          clear hS4
          have hS5 := hstate_none (p := (some ⟨w13.heap.size, 0, none⟩)) w17 HNo.out
          go_wp2_with (go_at_call 14; refine Hid.out ?_)
          refine Lib.hid ?_
          (with_reducible refine hS5.mono ?_)
          rintro e w18 ⟨rfl, hb18⟩
          have HZ8 := Hid.in (HZ.out.below hb18)
          clear hS5 hb18 HZ HNo
          have hS6 := sameHart_zero w18
          go_wp2_with (go_at_call 19; refine Hid.out ?_)
          refine Lib.hid ?_
          (with_reducible refine hS6.mono ?_)
          rintro e w19 ⟨rfl, hb19⟩
          have HZ9 := Hid.in (HZ8.out.below hb19)
          clear hS6 hb19 HZ8
          go_wp2_with fail
          go_roundw
          case rel => exact ⟨.inr (.inr rfl), HZ9.out⟩
          case measure => simp [intOf]
        · have hE := HE11.out.below HZ.out.bel
          have k0 : wr.cell? ⟨g11, 0, none⟩ = some (.int .u8 4) := hE.1
          have k1 : wr.cell? ⟨g11, 1, none⟩ = some (.int .i64 0) := hE.2.1
          have k2 : wr.cell? ⟨g11, 2, none⟩ = some (.int .i64 0) := hE.2.2.1
          have k3 : wr.cell? ⟨g11, 3, none⟩ = some (.int .i64 10) := hE.2.2.2.1
          have k4 : wr.cell? ⟨g11, 4, none⟩ = some (.int .u8 0) := hE.2.2.2.2.1
          have k5 : wr.cell? ⟨g11, 5, none⟩ = some (.int .i64 0) := hE.2.2.2.2.2.1
          have k6 : wr.cell? ⟨g11, 6, none⟩ = some (.int .i64 210) := hE.2.2.2.2.2.2
          have HBz := Hid.in (below_step HB1.out (below_step HB11.out HZ.out.bel))
          clear hE HZ
          have hAw := awake_any wr
          go_wp2_with (go_at_call 20; refine Hid.out ?_)
          refine Lib.hid ?_
          (with_reducible refine hAw.mono ?_)
          rintro e w20 ⟨rfl, hb20⟩
          have HBy := Hid.in (below_step HBz.out hb20)
          clear hAw hb20
          go_wp2_with fail
          go_ret
          exact ⟨rfl, HBy.out⟩
end Go.Proofs.YtnpaijbkhmnfpaaGreat
