/- Texts put together: KitS, KitT. -/
import Derived.Test.YthjbdbmncfbihaaGreatDoorKo
import Derived.Deep.RegionLaw

/- switchyardkit.SameItem of two items that are the same. -/
namespace Go.Proofs.YthjbdbmncfbihaaGreatDoor
open Go.RowKit

set_option maxRecDepth 20000 in
set_option maxHeartbeats 1000000 in
theorem sameItem_yes (x : Src) (p q : Option Addr) (m e m' e' : Nat) (w : World) (h1 : x.d.length = m) (h2 : x.d.length = m') (hm : m ≤ 9223372036854775807) (hr1 : Row w p x.d) (hr2 : Row w q x.d) :
    Calls Tryz.prog 10 #[.agg (cellsOf x (.slice p m e)), .agg (cellsOf x (.slice q m' e'))] w fun E w' => E = .returned (.bool true) ∧ Below w.heap.size w w' := by
  have hS := fun W k1 k2 => sameBytes_any p q m e m' e' x.d x.d W h1 h2 hm k1 k2
  rw [sameB_self] at hS
  have HR1 := fun o o' => Hid.in ((hr1.below (new_alloc w o)).below (new_alloc (w.alloc o) o'))
  have HR2 := fun o o' => Hid.in ((hr2.below (new_alloc w o)).below (new_alloc (w.alloc o) o'))
  clear hr1 hr2 h1 h2 hm
  unfold cellsOf
  obtain ⟨k, name, tg, o, a, b, n4, n, d⟩ := x
  simp only at *
  go_enter Tryz.func10, Tryz.ntmps10
  go_wp2_with (go_at_call 18; refine (hS _ (HR1 _ _).out (HR2 _ _).out).mono ?_; rintro E w1 ⟨rfl, z, rfl⟩)
  go_ret
  exact ⟨rfl, below_draws (below_alloc (new_alloc _ _) _) z⟩

end Go.Proofs.YthjbdbmncfbihaaGreatDoor

/- switchyardkit.SameItems of two lists that are the same. -/
namespace Go.Proofs.YthjbdbmncfbihaaGreatDoor
open Go.RowKit

/-- the nine cells of an item, one by one -/
theorem range9 {w : World} {b o : Nat} {x : Src} {d : Value} (h : w.rangeAt b o (cellsOf x d).toList) :
    w.cell? ⟨b, o, none⟩ = some (.int .u8 x.k) ∧ w.cell? ⟨b, o + 1, none⟩ = some (.string x.name) ∧ w.cell? ⟨b, o + 2, none⟩ = some (.string x.tg) ∧ w.cell? ⟨b, o + 3, none⟩ = some (.int .u8 x.o) ∧ w.cell? ⟨b, o + 4, none⟩ = some (.int .u8 x.a) ∧ w.cell? ⟨b, o + 5, none⟩ = some (.int .u8 x.b) ∧ w.cell? ⟨b, o + 6, none⟩ = some (.int .i32 x.m) ∧ w.cell? ⟨b, o + 7, none⟩ = some (.int .i64 x.n) ∧ w.cell? ⟨b, o + 8, none⟩ = some d :=
  ⟨h 0 _ rfl, h 1 _ rfl, h 2 _ rfl, h 3 _ rfl, h 4 _ rfl, h 5 _ rfl, h 6 _ rfl, h 7 _ rfl, h 8 _ rfl⟩

set_option maxRecDepth 20000 in
set_option maxHeartbeats 1000000 in
theorem sameItems_yes (p q : Option Addr) (n c c' : Nat) (xs : List Src) (w : World) (hn : xs.length = n) (hn63 : n ≤ 4611686018427387904) (hd : ∀ x ∈ xs, x.d.length ≤ 9223372036854775807) (hx : Items w p xs) (hy : Items w q xs) :
    Calls Tryz.prog 19 #[.slice p n c, .slice q n c'] w fun E w' => E = .returned (.bool true) ∧ Below w.heap.size w w' := by
  have HX := Hid.in hx
  have HY := Hid.in hy
  have HN := Hid.in hn
  have HD := Hid.in hd
  clear hx hy hn hd
  go_enter Tryz.func19, Tryz.ntmps19
  go_wp2
  go_loopw [5] (fun i wr => ∃ k : Nat, k ≤ n ∧ i = .int .i64 k ∧ Below w.heap.size w wr) (fun i _ => n - (intOf i).toNat)
  case atStart => exact ⟨0, Nat.zero_le _, rfl, below_self _⟩
  case round =>
    obtain ⟨k, hk, rfl, hb⟩ := hrel
    have HB := Hid.in hb
    clear hb
    by_cases hlt : k < n
    · have hlt' : k < xs.length := by rw [HN.out]; exact hlt
      obtain ⟨b, o, hp, hc⟩ := HX.out.below HB.out (by omega)
      subst hp
      obtain ⟨b2, o2, hq, hc2⟩ := HY.out.below HB.out (by omega)
      subst hq
      obtain ⟨q1, e1, hR1, hrow1, -⟩ := hc k hlt'
      obtain ⟨q2, e2, hR2, hrow2, -⟩ := hc2 k hlt'
      have hdl := HD.out _ (List.getElem_mem hlt')
      have hS := fun (W : World) (k1 : Row W q1 (xs[k]'hlt').d) (k2 : Row W q2 (xs[k]'hlt').d) => sameItem_yes (xs[k]'hlt') q1 q2 _ e1 _ e2 W rfl rfl hdl k1 k2
      have HR1 := fun z => Hid.in (hrow1.below (below_draws (below_self wr) z))
      have HR2 := fun z => Hid.in (hrow2.below (below_draws (below_self wr) z))
      obtain ⟨a0, a1, a2, a3, a4, a5, a6, a7, a8⟩ := range9 hR1
      obtain ⟨b0, b1, b2', b3, b4, b5, b6, b7, b8⟩ := range9 hR2
      unfold cellsOf at hS
      clear hc hc2 hrow1 hrow2 hR1 hR2 hdl
      generalize xs[k] = x at *
      obtain ⟨xk, name, tg, xo, xa, xb, n4, xn, d⟩ := x
      simp only at *
      go_wp2_with fail
      go_region_law (go_simp; go_at_call 10; refine (hS _ (HR1 _).out (HR2 _).out).mono ?_; rintro E w5 ⟨rfl, hb5⟩; have HB5 := Hid.in hb5; clear hb5)
      all_goals
        go_wp2_with fail
        go_roundw
        case rel => exact ⟨k + 1, by omega, by go_num, below_step (below_drewN HB.out 1) HB5.out⟩
        case measure => simp [intOf]; omega
    · go_wp2
      go_ret
      exact ⟨rfl, HB.out⟩

end Go.Proofs.YthjbdbmncfbihaaGreatDoor
