/- awake; the methods of what are no rounds. -/
import Derived.Test.YtekggimgobeggaaRnm
import Derived.Great.BuildSlice
namespace Go.Proofs.Ytekggimgobeggaa
open Go.RowKit

theorem below_kept {w0 w w' : World} {q : Nat} (h : Below w0.heap.size w0 w) (hg : w.grownBy w' (some q)) (hq : w0.heap.size ≤ q) : Below w0.heap.size w0 w' := h.trans (below_grown hg hq h.size)
theorem flags_new (w : World) (hs : List Bool) : BRow (w.alloc (.cells (flgs hs).toArray 4)) (some ⟨w.heap.size, 0, none⟩) hs := fun _ =>
  ⟨_, 0, rfl, fun i hi => by
    have := (Blk.new w 4 (flgs hs).toArray).cell (0 + i)
    rw [this, Nat.zero_add, List.getElem?_toArray, getD_flgs hs i hi]⟩

/-- rounds that were made behind the world w0 -/
structure RW (w0 w : World) (q : Nat) (fs : List Bool) (n : Int) : Prop where
  bel : Below w0.heap.size w0 w
  ge : w0.heap.size ≤ q
  rnd : Rnd w q fs n
theorem RW.below {w0 w w' : World} {q : Nat} {fs : List Bool} {n : Int} (h : RW w0 w q fs n) (hb : Below w.heap.size w w') : RW w0 w' q fs n := ⟨below_step h.bel hb, h.ge, h.rnd.below hb⟩
theorem RW.new (h : Nat) (w0 w : World) (hh : h ≤ 8) (hb : Below w0.heap.size w0 w) : Calls Try.prog 60 #[.int .i64 h] w fun e w' => ∃ q, e = .returned (.tuple #[.pointer (some ⟨q, 0, none⟩), .int .i64 0]) ∧ RW w0 w' q (List.replicate h false) 0 ∧ Below w.heap.size w w' ∧ w.heap.size ≤ q := by
  refine (new_ok h w hh).mono ?_
  rintro e w1 ⟨rfl, hr, hb1⟩
  exact ⟨_, rfl, ⟨below_step hb hb1, hb.size, hr⟩, hb1, Nat.le_refl _⟩
theorem RW.drop {w0 w : World} {q : Nat} {fs : List Bool} {n : Int} (h : RW w0 w q fs n) (z : Int) : Calls Try.prog 28 #[.pointer (some ⟨q, 0, none⟩), .int .i64 z] w fun e w' => e = .returned (.bool (pnd fs z)) ∧ RW w0 w' q (drp fs z) n := by
  refine (drop_any q fs n z w h.rnd).mono ?_
  rintro e w1 ⟨rfl, hr, hg⟩
  exact ⟨rfl, below_kept h.bel hg h.ge, h.ge, hr⟩
theorem RW.take {w0 w : World} {q : Nat} {fs : List Bool} {n : Int} (h : RW w0 w q fs n) (z : Int) : Calls Try.prog 10 #[.pointer (some ⟨q, 0, none⟩), .int .i64 z] w fun e w' => e = .returned (.tuple #[.int .i64 (tkN fs n z), .bool (pnd fs z)]) ∧ RW w0 w' q (drp fs z) n := by
  refine (rtake_any q fs n z w h.rnd).mono ?_
  rintro e w1 ⟨rfl, hr, hg⟩
  exact ⟨rfl, below_kept h.bel hg h.ge, h.ge, hr⟩
theorem RW.send {w0 w : World} {q : Nat} {fs : List Bool} {n : Int} (h : RW w0 w q fs n) (c : Nat) (p : Option Addr) (rs : List Bool) (hr : BRow w p rs) (hn0 : 0 ≤ n) (hn : n ≤ 1000000) (hl : rs.length = fs.length) (ho : ovr fs = true) : Calls Try.prog 29 #[.pointer (some ⟨q, 0, none⟩), .slice p rs.length c] w fun e w' => e = .returned (.tuple #[.int .i64 (n + 1), .int .i64 0]) ∧ RW w0 w' q rs (n + 1) := by
  refine (send_ok q c p fs rs n w h.rnd hr hn0 hn hl ho).mono ?_
  rintro e w1 ⟨rfl, hr, hg⟩
  exact ⟨rfl, below_kept h.bel hg h.ge, h.ge, hr⟩

/-- what are no rounds: nil, or such as no call made -/
def NoR (w : World) (p : Option Addr) : Prop := p = none ∨ ∃ q, p = some ⟨q, 0, none⟩ ∧ w.cell? ⟨q, 0, none⟩ = some (.bool false)
theorem none_any {w : World} {p : Option Addr} (h : NoR w p) : Calls Try.prog 56 #[.pointer p] w fun e w' => e = .returned (.bool true) ∧ w' = w := by
  rcases h with rfl | ⟨q, rfl, hc⟩
  · exact none_nil w
  · exact none_zero q w hc
set_option maxHeartbeats 400000 in
theorem npending {w : World} {p : Option Addr} (h : NoR w p) (z : Int) : Calls Try.prog 70 #[.pointer p, .int .i64 z] w fun e w' => e = .returned (.bool false) ∧ w' = w := by
  have h24 := none_any h
  clear h
  go_enter Try.func70, Try.ntmps70
  go_wp2_with (go_at_call 56; refine h24.mono ?_; rintro e w1 ⟨rfl, rfl⟩)
  go_ret
  exact ⟨rfl, rfl⟩
set_option maxHeartbeats 400000 in
theorem nover {w : World} {p : Option Addr} (h : NoR w p) : Calls Try.prog 37 #[.pointer p] w fun e w' => e = .returned (.bool false) ∧ w' = w := by
  have h24 := none_any h
  clear h
  go_enter Try.func37, Try.ntmps37
  go_wp2_with (go_at_call 56; refine h24.mono ?_; rintro e w1 ⟨rfl, rfl⟩)
  go_ret
  exact ⟨rfl, rfl⟩
set_option maxHeartbeats 400000 in
theorem nnumber {w : World} {p : Option Addr} (h : NoR w p) : Calls Try.prog 73 #[.pointer p] w fun e w' => e = .returned (.int .i64 0) ∧ w' = w := by
  have h24 := none_any h
  clear h
  go_enter Try.func73, Try.ntmps73
  go_wp2_with (go_at_call 56; refine h24.mono ?_; rintro e w1 ⟨rfl, rfl⟩)
  go_ret
  exact ⟨rfl, rfl⟩
set_option maxHeartbeats 400000 in
theorem ncopy {w : World} {p : Option Addr} (h : NoR w p) : Calls Try.prog 18 #[.pointer p] w fun e w' => e = .returned (.pointer none) ∧ w' = w := by
  have h24 := none_any h
  clear h
  go_enter Try.func18, Try.ntmps18
  go_wp2_with (go_at_call 56; refine h24.mono ?_; rintro e w1 ⟨rfl, rfl⟩)
  go_ret
  exact ⟨rfl, rfl⟩
set_option maxHeartbeats 400000 in
theorem nsend {w : World} {p : Option Addr} (h : NoR w p) (v : Value) : Calls Try.prog 29 #[.pointer p, v] w fun e w' => e = .returned (.tuple #[.int .i64 0, .int .i64 1]) ∧ w' = w := by
  have h24 := none_any h
  clear h
  go_enter Try.func29, Try.ntmps29
  go_wp2_with (go_at_call 56; refine h24.mono ?_; rintro e w1 ⟨rfl, rfl⟩)
  go_ret2
  exact ⟨rfl, rfl⟩
set_option maxHeartbeats 400000 in
theorem ndrop {w : World} {p : Option Addr} (h : NoR w p) (z : Int) : Calls Try.prog 28 #[.pointer p, .int .i64 z] w fun e w' => e = .returned (.bool false) ∧ w' = w := by
  have h12 := npending h z
  clear h
  go_enter Try.func28, Try.ntmps28
  go_wp2_with (go_at_call 70; refine h12.mono ?_; rintro e w1 ⟨rfl, rfl⟩)
  go_ret
  exact ⟨rfl, rfl⟩
set_option maxHeartbeats 400000 in
theorem ntake {w : World} {p : Option Addr} (h : NoR w p) (z : Int) : Calls Try.prog 10 #[.pointer p, .int .i64 z] w fun e w' => e = .returned (.tuple #[.int .i64 0, .bool false]) ∧ w' = w := by
  have h20 := ndrop h z
  clear h
  go_enter Try.func10, Try.ntmps10
  go_wp2_with (go_at_call 28; refine h20.mono ?_; rintro e w1 ⟨rfl, rfl⟩)
  go_ret2
  exact ⟨rfl, rfl⟩

end Go.Proofs.Ytekggimgobeggaa
