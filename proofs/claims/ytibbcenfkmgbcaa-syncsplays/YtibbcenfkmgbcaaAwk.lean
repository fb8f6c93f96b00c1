/- awake; the methods of what are no rounds. -/
import Derived.Test.YtibbcenfkmgbcaaRnm
import Derived.Great.BuildSlice
namespace Go.Proofs.Ytibbcenfkmgbcaa
open Go.RowKit

theorem below_kept {w0 w w' : World} {q : Nat} (h : Below w0.heap.size w0 w) (hg : w.grownBy w' (some q)) (hq : w0.heap.size ≤ q) : Below w0.heap.size w0 w' := h.trans (below_grown hg hq h.size)
theorem flags_new (w : World) (hs : List Bool) : BRow (w.alloc (.cells (flgs hs).toArray 4)) (some ⟨w.heap.size, 0, none⟩) hs := fun _ =>
  ⟨_, 0, rfl, fun i hi => by
    have := (Blk.new w 4 (flgs hs).toArray).cell (0 + i)
    rw [this, Nat.zero_add, List.getElem?_toArray, getD_flgs hs i hi]⟩

/-- rounds that were made behind the world w0 -/
structure RW (w0 w : World) (q : Nat) (fs : List Bool) (n : Int) : Prop where
  bel : Below w0.heap.size w0 w
  ge : w0.heap.size ≤ q
  rnd : Rnd w q fs n
theorem RW.below {w0 w w' : World} {q : Nat} {fs : List Bool} {n : Int} (h : RW w0 w q fs n) (hb : Below w.heap.size w w') : RW w0 w' q fs n := ⟨below_step h.bel hb, h.ge, h.rnd.below hb⟩
theorem RW.new (h : Nat) (w0 w : World) (hh : h ≤ 8) (hb : Below w0.heap.size w0 w) : Calls Try.prog 8 #[.int .i64 h] w fun e w' => ∃ q, e = .returned (.tuple #[.pointer (some ⟨q, 0, none⟩), .int .i64 0]) ∧ RW w0 w' q (List.replicate h false) 0 ∧ Below w.heap.size w w' ∧ w.heap.size ≤ q := by
  refine (new_ok h w hh).mono ?_
  rintro e w1 ⟨rfl, hr, hb1⟩
  exact ⟨_, rfl, ⟨below_step hb hb1, hb.size, hr⟩, hb1, Nat.le_refl _⟩
theorem RW.drop {w0 w : World} {q : Nat} {fs : List Bool} {n : Int} (h : RW w0 w q fs n) (z : Int) : Calls Try.prog 20 #[.pointer (some ⟨q, 0, none⟩), .int .i64 z] w fun e w' => e = .returned (.bool (pnd fs z)) ∧ RW w0 w' q (drp fs z) n := by
  refine (drop_any q fs n z w h.rnd).mono ?_
  rintro e w1 ⟨rfl, hr, hg⟩
  exact ⟨rfl, below_kept h.bel hg h.ge, h.ge, hr⟩
theorem RW.take {w0 w : World} {q : Nat} {fs : List Bool} {n : Int} (h : RW w0 w q fs n) (z : Int) : Calls Try.prog 13 #[.pointer (some ⟨q, 0, none⟩), .int .i64 z] w fun e w' => e = .returned (.tuple #[.int .i64 (tkN fs n z), .bool (pnd fs z)]) ∧ RW w0 w' q (drp fs z) n := by
  refine (take_any q fs n z w h.rnd).mono ?_
  rintro e w1 ⟨rfl, hr, hg⟩
  exact ⟨rfl, below_kept h.bel hg h.ge, h.ge, hr⟩
theorem RW.send {w0 w : World} {q : Nat} {fs : List Bool} {n : Int} (h : RW w0 w q fs n) (c : Nat) (p : Option Addr) (rs : List Bool) (hr : BRow w p rs) (hn0 : 0 ≤ n) (hn : n ≤ 1000000) (hl : rs.length = fs.length) (ho : ovr fs = true) : Calls Try.prog 9 #[.pointer (some ⟨q, 0, none⟩), .slice p rs.length c] w fun e w' => e = .returned (.tuple #[.int .i64 (n + 1), .int .i64 0]) ∧ RW w0 w' q rs (n + 1) := by
  refine (send_ok q c p fs rs n w h.rnd hr hn0 hn hl ho).mono ?_
  rintro e w1 ⟨rfl, hr, hg⟩
  exact ⟨rfl, below_kept h.bel hg h.ge, h.ge, hr⟩

set_option maxHeartbeats 1000000 in
theorem awake_any (w : World) : Calls Try.prog 14 #[] w fun e w' => e = .returned (.bool true) ∧ Below w.heap.size w w' := by
  go_enter Try.func14, Try.ntmps14
  go_wp2_with (go_at_call 8; refine Hid.out ?_)
  refine Lib.hid ?_
  refine (RW.new 3 w w (by decide) (below_self w)).mono ?_
  rintro e w1 ⟨q, rfl, hr, -, -⟩
  have HR := Hid.in hr
  clear hr
  go_wp2_with (go_at_call 9; refine Hid.out ?_)
  refine Lib.hid ?_
  refine ((HR.out.below (new_alloc _ _)).send 3 _ [true, false, true] (flags_new w1 [true, false, true]) (by decide) (by decide) rfl rfl).mono ?_
  rintro e w2 ⟨rfl, hr2⟩
  have HR2 := Hid.in hr2
  clear hr2 HR
  go_wp2_with (go_at_call 13; refine Hid.out ?_)
  refine Lib.hid ?_
  refine (HR2.out.take 0).mono ?_
  rintro e w3 ⟨rfl, hr3⟩
  have HR3 : Hid (RW w w3 q [false, false, true] 1) := Hid.in hr3
  clear hr3 HR2
  have e1 : tkN [true, false, true] (0 + 1) 0 = 1 := rfl
  have e2 : pnd [true, false, true] 0 = true := rfl
  rw [e1, e2]
  have h2 := pending_any q _ _ 2 w3 HR3.out.rnd
  have h0 := pending_any q _ _ 0 w3 HR3.out.rnd
  have h10 := over_any q _ _ w3 HR3.out.rnd
  have e3 : pnd [false, false, true] 2 = true := rfl
  have e4 : pnd [false, false, true] 0 = false := rfl
  have e5 : ovr [false, false, true] = false := rfl
  rw [e3] at h2
  rw [e4] at h0
  rw [e5] at h10
  clear e1 e2 e3 e4 e5
  go_wp2_with (go_at_call 12; refine Hid.out ?_)
  refine Lib.hid ?_
  refine h2.mono ?_
  rintro e w4 ⟨rfl, hw⟩
  rw [hw]
  clear hw
  go_wp2_with (go_at_call 12; refine Hid.out ?_)
  refine Lib.hid ?_
  refine h0.mono ?_
  rintro e w4 ⟨rfl, hw⟩
  rw [hw]
  clear hw
  go_wp2_with (go_at_call 10; refine Hid.out ?_)
  refine Lib.hid ?_
  refine h10.mono ?_
  rintro e w4 ⟨rfl, hw⟩
  rw [hw]
  clear hw
  go_wp2_with (go_at_call 20; refine Hid.out ?_)
  refine Lib.hid ?_
  refine (HR3.out.drop 2).mono ?_
  rintro e w5 ⟨rfl, hr5⟩
  have HR5 : Hid (RW w w5 q [false, false, false] 1) := Hid.in hr5
  clear hr5 HR3 h2 h0 h10
  have e6 : pnd [false, false, true] 2 = true := rfl
  rw [e6]
  have h11 := over_any q _ _ w5 HR5.out.rnd
  have e7 : ovr [false, false, false] = true := rfl
  rw [e7] at h11
  clear e6 e7
  go_wp2_with (go_at_call 10; refine h11.mono ?_; rintro e w6 ⟨rfl, rfl⟩)
  go_ret
  exact ⟨rfl, HR5.out.bel⟩

/-- what are no rounds: nil, or such as no call made -/
def NoR (w : World) (p : Option Addr) : Prop := p = none ∨ ∃ q, p = some ⟨q, 0, none⟩ ∧ w.cell? ⟨q, 0, none⟩ = some (.bool false)
theorem none_any {w : World} {p : Option Addr} (h : NoR w p) : Calls Try.prog 24 #[.pointer p] w fun e w' => e = .returned (.bool true) ∧ w' = w := by
  rcases h with rfl | ⟨q, rfl, hc⟩
  · exact none_nil w
  · exact none_zero q w hc
set_option maxHeartbeats 400000 in
theorem npending {w : World} {p : Option Addr} (h : NoR w p) (z : Int) : Calls Try.prog 12 #[.pointer p, .int .i64 z] w fun e w' => e = .returned (.bool false) ∧ w' = w := by
  have h24 := none_any h
  clear h
  go_enter Try.func12, Try.ntmps12
  go_wp2_with (go_at_call 24; refine h24.mono ?_; rintro e w1 ⟨rfl, rfl⟩)
  go_ret
  exact ⟨rfl, rfl⟩
set_option maxHeartbeats 400000 in
theorem nover {w : World} {p : Option Addr} (h : NoR w p) : Calls Try.prog 10 #[.pointer p] w fun e w' => e = .returned (.bool false) ∧ w' = w := by
  have h24 := none_any h
  clear h
  go_enter Try.func10, Try.ntmps10
  go_wp2_with (go_at_call 24; refine h24.mono ?_; rintro e w1 ⟨rfl, rfl⟩)
  go_ret
  exact ⟨rfl, rfl⟩
set_option maxHeartbeats 400000 in
theorem nnumber {w : World} {p : Option Addr} (h : NoR w p) : Calls Try.prog 11 #[.pointer p] w fun e w' => e = .returned (.int .i64 0) ∧ w' = w := by
  have h24 := none_any h
  clear h
  go_enter Try.func11, Try.ntmps11
  go_wp2_with (go_at_call 24; refine h24.mono ?_; rintro e w1 ⟨rfl, rfl⟩)
  go_ret
  exact ⟨rfl, rfl⟩
set_option maxHeartbeats 400000 in
theorem ncopy {w : World} {p : Option Addr} (h : NoR w p) : Calls Try.prog 21 #[.pointer p] w fun e w' => e = .returned (.pointer none) ∧ w' = w := by
  have h24 := none_any h
  clear h
  go_enter Try.func21, Try.ntmps21
  go_wp2_with (go_at_call 24; refine h24.mono ?_; rintro e w1 ⟨rfl, rfl⟩)
  go_ret
  exact ⟨rfl, rfl⟩
set_option maxHeartbeats 400000 in
theorem nsend {w : World} {p : Option Addr} (h : NoR w p) (v : Value) : Calls Try.prog 9 #[.pointer p, v] w fun e w' => e = .returned (.tuple #[.int .i64 0, .int .i64 1]) ∧ w' = w := by
  have h24 := none_any h
  clear h
  go_enter Try.func9, Try.ntmps9
  go_wp2_with (go_at_call 24; refine h24.mono ?_; rintro e w1 ⟨rfl, rfl⟩)
  go_ret2
  exact ⟨rfl, rfl⟩
set_option maxHeartbeats 400000 in
theorem ndrop {w : World} {p : Option Addr} (h : NoR w p) (z : Int) : Calls Try.prog 20 #[.pointer p, .int .i64 z] w fun e w' => e = .returned (.bool false) ∧ w' = w := by
  have h12 := npending h z
  clear h
  go_enter Try.func20, Try.ntmps20
  go_wp2_with (go_at_call 12; refine h12.mono ?_; rintro e w1 ⟨rfl, rfl⟩)
  go_ret
  exact ⟨rfl, rfl⟩
set_option maxHeartbeats 400000 in
theorem ntake {w : World} {p : Option Addr} (h : NoR w p) (z : Int) : Calls Try.prog 13 #[.pointer p, .int .i64 z] w fun e w' => e = .returned (.tuple #[.int .i64 0, .bool false]) ∧ w' = w := by
  have h20 := ndrop h z
  clear h
  go_enter Try.func13, Try.ntmps13
  go_wp2_with (go_at_call 20; refine h20.mono ?_; rintro e w1 ⟨rfl, rfl⟩)
  go_ret2
  exact ⟨rfl, rfl⟩

end Go.Proofs.Ytibbcenfkmgbcaa
