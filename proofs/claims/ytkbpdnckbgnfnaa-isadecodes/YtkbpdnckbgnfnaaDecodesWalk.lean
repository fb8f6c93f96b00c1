/- What the law IsaDecodes answers: true, for every slice of bytes. -/
import Derived.Test.YtkbpdnckbgnfnaaRefDecAll
namespace Go.Proofs.Ytkbpdnckbgnfnaa
open Go.RowKit

theorem lens (z : Int) : ∃ L : Int, (∀ w, Calls Try.prog 12 #[.int .u8 z] w fun e w' => e = .returned (.int .i64 L) ∧ Below w.heap.size w w') ∧ ∀ w, Calls Try.prog 13 #[.int .u8 z] w fun e w' => e = .returned (.int .i64 L) ∧ Below w.heap.size w w' := by
  rcases op_cases z with ⟨o, h1, h2, rfl⟩ | hno
  · exact ⟨lenN o, fun w => len_yes o w h1 h2, fun w => rlen_yes o w h1 h2⟩
  · exact ⟨1, fun w => len_no z w hno, fun w => rlen_no z w hno⟩

set_option maxHeartbeats 1000000 in
theorem lawDecodes_at (p : Option Addr) (n cp : Nat) (xs : List Int) (o a b m l er : Int) (w : World) (hx : xs.length = n) (hn : n ≤ 140737488351232) (hr : Row w p xs) (hd : dec xs = ⟨o, a, b, m, l, er⟩) (hby : Byt xs) :
    Calls Try.prog 3 #[.slice p n cp] w fun e w' => e = .returned (.bool true) ∧ Below w.heap.size w w' := by
  have HX : Hid (xs.length = n) := hx
  have HR : Hid (Row w p xs) := hr
  have HD : Hid (dec xs = ⟨o, a, b, m, l, er⟩) := hd
  have HY : Hid (Byt xs) := hby
  clear hx hr hd hby
  go_enter Try.func3, Try.ntmps3
  go_wp2_with fail
  refine (lent_any p n cp xs _ HX.out hn HR.out).mono ?_
  rintro e w1 ⟨g, cap, rfl, ho, hb1⟩
  go_wp2_with fail
  refine (decode_any _ n cap xs _ HX.out (by omega) ho.front.row HY.out).mono ?_
  rw [HD.out]
  rintro e w2 ⟨rfl, hb2⟩
  have hI := At4.new w2 (.int .u8 o) (.int .u8 a) (.int .u8 b) (.int .i32 m) 26
  have ho2 := (ho.below hb2).below (new_alloc w2 (.cells #[.int .u8 o, .int .u8 a, .int .u8 b, .int .i32 m] 26))
  have hbw2 := below_alloc (below_step hb1 hb2) (.cells #[.int .u8 o, .int .u8 a, .int .u8 b, .int .i32 m] 26)
  clear hb1 hb2 ho
  go_wp2_with fail
  refine (rdecode_any p n cp xs _ HX.out (by omega) (HR.out.below hbw2) HY.out).mono ?_
  rw [HD.out]
  rintro e w3 ⟨rfl, hb3⟩
  have hI3 := (hI.below hb3).below (new_alloc w3 (.cells #[.int .u8 o, .int .u8 a, .int .u8 b, .int .i32 m] 26))
  have hJ3 := At4.new w3 (.int .u8 o) (.int .u8 a) (.int .u8 b) (.int .i32 m) 26
  have ho3 := (ho2.below hb3).below (new_alloc w3 (.cells #[.int .u8 o, .int .u8 a, .int .u8 b, .int .i32 m] 26))
  have hbw3 := below_alloc (below_step hbw2 hb3) (.cells #[.int .u8 o, .int .u8 a, .int .u8 b, .int .i32 m] 26)
  clear hI ho2 hb3 hbw2
  obtain ⟨i0, i1, i2, i3⟩ := hI3
  obtain ⟨j0, j1, j2, j3⟩ := hJ3
  rcases Nat.eq_zero_or_pos n with h0 | h0
  · subst h0
    obtain ⟨L, hl1, hl2⟩ := lens 0
    go_wp2_with fail
    refine (hl1 _).mono ?_
    rintro e w4 ⟨rfl, hb4⟩
    go_wp2_with fail
    refine (hl2 _).mono ?_
    rintro e w5 ⟨rfl, hb5⟩
    have hbw5 := below_step (below_step hbw3 hb4) hb5
    have ho5 := (ho3.below hb4).below hb5
    clear hbw3 hb4 hb5 ho3 i0 i1 i2 i3 j0 j1 j2 j3 hl1 hl2
    go_wp2_with fail
    refine (kept_any p g 0 cap cp _ xs _ HX.out hn ho5 (HR.out.below hbw5)).mono ?_
    rintro e w6 ⟨rfl, k6, hw6⟩
    have hbw6 : Below w.heap.size w w6 := by rw [hw6]; exact below_draws hbw5 k6
    clear hw6 hbw5 ho5
    go_wp2_with fail
    refine (awake_any _).mono ?_
    rintro e w7 ⟨rfl, hb7⟩
    go_wp2
    go_ret
    exact ⟨rfl, below_step hbw6 hb7⟩
  · obtain ⟨b', f', rfl, hc⟩ := (HR.out.below hbw3) (by rw [HX.out]; exact h0)
    have cz := hc 0 (by rw [HX.out]; exact h0)
    rw [Nat.add_zero] at cz
    clear hc
    generalize xs.getD 0 0 = z at *
    obtain ⟨L, hl1, hl2⟩ := lens z
    go_wp2_with fail
    refine (hl1 _).mono ?_
    rintro e w4 ⟨rfl, hb4⟩
    go_wp2_with fail
    refine (hl2 _).mono ?_
    rintro e w5 ⟨rfl, hb5⟩
    have hbw5 := below_step (below_step hbw3 hb4) hb5
    have ho5 := (ho3.below hb4).below hb5
    clear hbw3 hb4 hb5 ho3 i0 i1 i2 i3 j0 j1 j2 j3 hl1 hl2 cz
    go_wp2_with fail
    refine (kept_any (some ⟨b', f', none⟩) g n cap cp _ xs _ HX.out hn ho5 (HR.out.below hbw5)).mono ?_
    rintro e w6 ⟨rfl, k6, hw6⟩
    have hbw6 : Below w.heap.size w w6 := by rw [hw6]; exact below_draws hbw5 k6
    clear hw6 hbw5 ho5
    go_wp2_with fail
    refine (awake_any _).mono ?_
    rintro e w7 ⟨rfl, hb7⟩
    go_wp2
    go_ret
    exact ⟨rfl, below_step hbw6 hb7⟩

theorem lawDecodes_any (p : Option Addr) (n cp : Nat) (xs : List Int) (w : World) (hx : xs.length = n) (hn : n ≤ 140737488351232) (hr : Row w p xs) (hby : Byt xs) :
    Calls Try.prog 3 #[.slice p n cp] w fun e w' => e = .returned (.bool true) ∧ Below w.heap.size w w' := by
  obtain ⟨d, hd⟩ : ∃ d, dec xs = d := ⟨_, rfl⟩
  cases d with
  | mk o a b m l er => exact lawDecodes_at p n cp xs o a b m l er w hx hn hr hd hby
end Go.Proofs.Ytkbpdnckbgnfnaa
