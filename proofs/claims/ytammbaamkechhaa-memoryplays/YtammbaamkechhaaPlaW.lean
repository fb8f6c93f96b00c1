/- MemoryPlays: any script on two memories. -/
import Derived.Test.YtammbaamkechhaaPlaL
import Derived.Deep.RegionHeld3
namespace Go.Proofs.Ytammbaamkechhaa
open Go.RowKit

/-- a call of a script -/
structure OpD where
  kind : Int
  on : Int
  a : Int
  n : Int
  r : Option Addr
  d : Nat
  ys : List Int

structure OpIn (W : World) (b o : Nat) (x : OpD) : Prop where
  c0 : W.cell? ⟨b, o, none⟩ = some (.int .i64 x.kind)
  c1 : W.cell? ⟨b, o + 1, none⟩ = some (.int .i64 x.on)
  c2 : W.cell? ⟨b, o + 2, none⟩ = some (.int .i64 x.a)
  c3 : W.cell? ⟨b, o + 3, none⟩ = some (.int .i64 x.n)
  c4 : W.cell? ⟨b, o + 4, none⟩ = some (.slice x.r x.ys.length x.d)
  row : Row W x.r x.ys
  byt : Byt x.ys
  len : x.ys.length ≤ 140737488351232
  nle : x.n ≤ 9223372036854775807

def Scr (W : World) (p : Option Addr) (L : List OpD) : Prop := 0 < L.length → ∃ b o, p = some ⟨b, o, none⟩ ∧ ∀ i x, L[i]? = some x → OpIn W b (o + i * 5) x

theorem OpIn.below {W w' : World} {b o : Nat} {x : OpD} (h : OpIn W b o x) (hb : Below W.heap.size W w') : OpIn w' b o x :=
  ⟨(hb.cell (p := ⟨b, o, none⟩) (cell_lt h.c0)).trans h.c0, (hb.cell (p := ⟨b, o + 1, none⟩) (cell_lt h.c1)).trans h.c1, (hb.cell (p := ⟨b, o + 2, none⟩) (cell_lt h.c2)).trans h.c2, (hb.cell (p := ⟨b, o + 3, none⟩) (cell_lt h.c3)).trans h.c3, (hb.cell (p := ⟨b, o + 4, none⟩) (cell_lt h.c4)).trans h.c4, h.row.below hb, h.byt, h.len, h.nle⟩
theorem Scr.below {W w' : World} {p : Option Addr} {L : List OpD} (h : Scr W p L) (hb : Below W.heap.size W w') : Scr w' p L := fun h0 => by
  obtain ⟨b, o, rfl, hc⟩ := h h0
  exact ⟨b, o, rfl, fun i x hx => (hc i x hx).below hb⟩

set_option maxRecDepth 4000 in
set_option maxHeartbeats 2000000 in
theorem plays_mid (p r s : Option Addr) (n c m d l e : Nat) (w : World) (hn : n ≤ 9223372036854775807) (hm : m ≤ 9223372036854775807) (h : (2000 < n ∧ n ≤ 65536) ∨ (2000 < m ∧ m ≤ 65536)) :
    Calls Try.prog 4 #[.slice p n c, .slice r m d, .slice s l e] w fun e w' => e = .returned (.bool true) ∧ Below w.heap.size w w' := by
  by_cases h1 : 2000 < n ∧ n ≤ 65536
  · obtain ⟨h1, h2⟩ := h1
    go_enter Try.func4, Try.ntmps4
    go_wp2_with (go_at_call 14; refine (awake_any _).mono ?_; rintro e w1 ⟨rfl, hb⟩; have HB1 := Hid.in hb; clear hb)
    go_ret
    exact ⟨rfl, HB1.out⟩
  · obtain ⟨h3, h4⟩ : 2000 < m ∧ m ≤ 65536 := by omega
    rcases (by omega : n ≤ 2000 ∨ (2000 < n ∧ 65536 < n)) with h5 | ⟨h5, h6⟩
    all_goals
      clear h1 h
      go_enter Try.func4, Try.ntmps4
      go_wp2_with (go_at_call 14; refine (awake_any _).mono ?_; rintro e w1 ⟨rfl, hb⟩; have HB1 := Hid.in hb; clear hb)
      go_ret
      exact ⟨rfl, HB1.out⟩

/-- how a length is: such as may be, or too long -/
def Fits (n : Nat) : Prop := n ≤ 2000 ∨ 65536 < n

set_option maxRecDepth 4000 in
set_option maxHeartbeats 4000000 in
theorem plays_long (p r s : Option Addr) (c d l e : Nat) (xs ys : List Int) (w : World) (hr : Row w p xs) (hs : Row w r ys) (hx : xs.length ≤ 140737488351232) (hy : ys.length ≤ 140737488351232)
    (h : (65536 < xs.length ∧ 65536 < ys.length) ∨ (65536 < xs.length ∧ ys.length ≤ 2000) ∨ (xs.length ≤ 2000 ∧ 65536 < ys.length)) :
    Calls Try.prog 4 #[.slice p xs.length c, .slice r ys.length d, .slice s l e] w fun e w' => e = .returned (.bool true) ∧ Below w.heap.size w w' := by
  have HR : Hid (∀ W, Below w.heap.size w W → Row W p xs) := fun W hW => hr.below hW
  have HS : Hid (∀ W, Below w.heap.size w W → Row W r ys) := fun W hW => hs.below hW
  rcases h with ⟨h1, h2⟩ | ⟨h1, h2⟩ | ⟨h1, h2⟩
  · clear hs
    go_enter Try.func4, Try.ntmps4
    go_wp2_with (first
      | (go_at_call 15; refine (lent_any p xs.length c xs _ rfl hx hr).mono ?_; rintro e w1 ⟨g1, cap, rfl, ho1, hb⟩; have HO1 := Hid.in ho1; have HB1 := Hid.in hb; have hr1 := HR.out _ hb; clear ho1 hb hr)
      | (go_at_call 7; first
        | ((with_reducible refine (new_long _ xs.length cap w1 (by omega) h1).mono ?_); rintro e w2 ⟨rfl, rfl⟩)
        | ((with_reducible refine (new_long r ys.length d _ (by omega) h2).mono ?_); rintro e w2 ⟨rfl, rfl⟩))
      | (go_at_call 16; first
        | ((with_reducible refine (refNew_long p xs.length c _ (by omega) h1).mono ?_); rintro e w2 ⟨rfl, rfl⟩)
        | ((with_reducible refine (refNew_long r ys.length d _ (by omega) h2).mono ?_); rintro e w2 ⟨rfl, rfl⟩))
      | (go_at_call 17; refine (kept_any p g1 xs.length cap c _ xs _ rfl hx HO1.out hr1).mono ?_; rintro e w4 ⟨rfl, m4, hw4⟩; have HB4 : Hid (Below w.heap.size w w4) := (by rw [hw4]; exact below_draws HB1.out _); clear hw4)
      | (go_at_call 14; refine (awake_any _).mono ?_; rintro e w5 ⟨rfl, hb⟩; have HB5 := Hid.in (below_step HB4.out hb); clear hb))
    go_ret
    exact ⟨rfl, HB5.out⟩
  · go_enter Try.func4, Try.ntmps4
    go_wp2_with (first
      | (go_at_call 15; refine (lent_any p xs.length c xs _ rfl hx hr).mono ?_; rintro e w1 ⟨g1, cap, rfl, ho1, hb⟩; have HO1 := Hid.in ho1; have HB1 := Hid.in hb; have hs1 := HS.out _ hb; clear ho1 hb hr hs)
      | (go_at_call 7; first
        | ((with_reducible refine (new_long _ xs.length cap w1 (by omega) h1).mono ?_); rintro e w2 ⟨rfl, rfl⟩)
        | ((with_reducible refine (new_ok r ys.length d ys _ rfl (by omega) hs1).mono ?_); rintro e w2 ⟨q, g, rfl, hm, hb⟩; have HO2 := Hid.in (HO1.out.below hb); have HB2 := Hid.in (below_step HB1.out hb); have hr2 := HR.out _ (below_step HB1.out hb); clear hm hb HO1))
      | (go_at_call 16; first
        | ((with_reducible refine (refNew_long p xs.length c _ (by omega) h1).mono ?_); rintro e w2 ⟨rfl, rfl⟩)
        | ((with_reducible refine (refNew_ok r ys.length d _ (by omega)).mono ?_); rintro e w2 ⟨rfl, rfl⟩))
      | (go_at_call 17; refine (kept_any p g1 xs.length cap c _ xs _ rfl hx HO2.out hr2).mono ?_; rintro e w4 ⟨rfl, m4, hw4⟩; have HB4 : Hid (Below w.heap.size w w4) := (by rw [hw4]; exact below_draws HB2.out _); clear hw4)
      | (go_at_call 14; refine (awake_any _).mono ?_; rintro e w5 ⟨rfl, hb⟩; have HB5 := Hid.in (below_step HB4.out hb); clear hb))
    go_ret
    exact ⟨rfl, HB5.out⟩
  · go_enter Try.func4, Try.ntmps4
    go_wp2_with (first
      | (go_at_call 15; refine (lent_any p xs.length c xs _ rfl hx hr).mono ?_; rintro e w1 ⟨g1, cap, rfl, ho1, hb⟩; have HO1 := Hid.in ho1; have HB1 := Hid.in hb; clear ho1 hb hr hs)
      | (go_at_call 7; first
        | ((with_reducible refine (new_ok _ xs.length cap xs w1 rfl (by omega) HO1.out.front.row).mono ?_); rintro e w2 ⟨q, g, rfl, hm, hb⟩; have HO2 := Hid.in (HO1.out.below hb); have HB2 := Hid.in (below_step HB1.out hb); have hr2 := HR.out _ (below_step HB1.out hb); clear hm hb HO1)
        | ((with_reducible refine (new_long r ys.length d _ (by omega) h2).mono ?_); rintro e w2 ⟨rfl, rfl⟩))
      | (go_at_call 16; first
        | ((with_reducible refine (refNew_ok p xs.length c _ (by omega)).mono ?_); rintro e w2 ⟨rfl, rfl⟩)
        | ((with_reducible refine (refNew_long r ys.length d _ (by omega) h2).mono ?_); rintro e w2 ⟨rfl, rfl⟩))
      | (go_at_call 17; refine (kept_any p g1 xs.length cap c _ xs _ rfl hx HO2.out hr2).mono ?_; rintro e w4 ⟨rfl, m4, hw4⟩; have HB4 : Hid (Below w.heap.size w w4) := (by rw [hw4]; exact below_draws HB2.out _); clear hw4)
      | (go_at_call 14; refine (awake_any _).mono ?_; rintro e w5 ⟨rfl, hb⟩; have HB5 := Hid.in (below_step HB4.out hb); clear hb))
    go_ret
    exact ⟨rfl, HB5.out⟩

end Go.Proofs.Ytammbaamkechhaa
