/- FetchTells. -/
import Derived.Test.YteeeedphhaphpaaRefF
import Derived.Test.YteeeedphhaphpaaLent
namespace Go.Proofs.Yteeeedphhaphpaa
open Go.RowKit Go.Maps

set_option maxHeartbeats 1000000 in
theorem tells_walk (pc : Nat) (p : Option Addr) (n c : Nat) (xs : List Int) (w : World) (hpc : pc ≤ 4294967295) (hx : xs.length = n) (hn : n ≤ 140737488351232) (hr : Row w p xs) :
    Calls Try.prog 4 #[.int .u32 pc, .slice p n c] w fun e w' => e = .returned (.bool true) ∧ Below w.heap.size w w' := by
  have HX := Hid.in hx
  have HR : Hid (∀ W, Below w.heap.size w W → Row W p xs) := fun W hW => hr.below hW
  have h16 := lent_any p n c xs w hx hn hr
  clear hx hr
  go_enter Try.func4, Try.ntmps4
  go_wp2_with (go_at_call 16; refine Hid.out ?_)
  refine Lib.hid ?_
  refine h16.mono ?_
  rintro e w1 ⟨g, cap, rfl, ho, hb⟩
  have HO := Hid.in ho
  have HB := Hid.in hb
  clear ho hb h16
  have hq : ((pc : Int) + n) / 4 = (((pc + n) / 4 : Nat) : Int) := by omega
  have h12 := next_any pc (some ⟨g, 0, none⟩) n cap w1 hpc (by omega)
  have h17 := rplace_any pc p n c w1 (by omega) (by omega) (by omega)
  generalize (pc + n) / 4 = G at *
  have h13 := done_any (some ⟨g, 0, none⟩) n cap xs w1 HX.out (by omega) HO.out.front.row
  generalize hd : doneB xs = d at *
  have HD := Hid.in hd
  clear hd
  have heq : ∀ W, (Op.equal 4 (.bool d) (.bool d)).run Try.prog W = .ok true W := fun W => by cases d <;> kernel_rfl
  go_wp2_with (first
    | (go_at_call 12; (with_reducible refine h12.mono ?_); rintro e w2 ⟨rfl, rfl⟩)
    | (go_at_call 17; (with_reducible refine h17.mono ?_); rintro e w2 ⟨rfl, rfl⟩)
    | (go_at_call 13; refine Hid.out ?_))
  refine Lib.hid ?_
  refine h13.mono ?_
  rintro e w2 ⟨rfl, hb2⟩
  have HB2 := Hid.in (below_step HB.out hb2)
  have HO2 := Hid.in (HO.out.below hb2)
  clear hb2 HB HO h12 h17 h13
  have h18 := rdone_any p n c xs w2 HX.out (by omega) (HR.out _ HB2.out)
  rw [HD.out] at h18
  cases d
  all_goals
    go_wp2_with (go_at_call 18; refine Hid.out ?_)
    refine Lib.hid ?_
    refine h18.mono ?_
    rintro e w3 ⟨rfl, hb3⟩
    have HB3 := Hid.in (below_step HB2.out hb3)
    have HO3 := Hid.in (HO2.out.below hb3)
    clear hb3 HB2 HO2 h18
    go_wp2_with (go_at_call 19; refine Hid.out ?_)
    refine Lib.hid ?_
    refine (kept_any p g n cap c _ xs w3 HX.out hn HO3.out (HR.out _ HB3.out)).mono ?_
    rintro e w4 ⟨rfl, m4, rfl⟩
    have HB4 := Hid.in (below_draws HB3.out m4)
    clear HB3 HO3
    go_wp2_with (go_at_call 15; refine Hid.out ?_)
    refine Lib.hid ?_
    refine (awake_any _).mono ?_
    rintro e w5 ⟨rfl, hb5⟩
    have HB5 := Hid.in (below_step HB4.out hb5)
    clear hb5 HB4
    go_wp2_with fail
    go_ret
    exact ⟨rfl, HB5.out⟩

end Go.Proofs.Yteeeedphhaphpaa
