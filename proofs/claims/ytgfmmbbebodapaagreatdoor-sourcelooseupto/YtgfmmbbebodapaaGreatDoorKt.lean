/- Texts put together: App9, KitT. -/
import Derived.Test.YtgfmmbbebodapaaGreatDoorKq
import Derived.Laws.AppendOwnNone
import Derived.Test.YtgfmmbbebodapaaGreatDoorKs
import Derived.Deep.RegionLaw

/- A list of items behind another one: append(l, m...). -/
namespace Go.Proofs.YtgfmmbbebodapaaGreatDoor
open Go.RowKit

theorem cells9_two (L M : List (Src × Value)) : cells9 (L ++ M) = cells9 L ++ cells9 M := by simp [cells9]
theorem cells9_one {L : List (Src × Value)} (h : ∀ q ∈ L, ∃ p m e, q.2 = .slice p m e) : ∀ u ∈ cells9 L, u.oneCell' = true := by
  intro u hu
  unfold cells9 at hu
  rw [List.mem_flatMap] at hu
  obtain ⟨q, hq, hu⟩ := hu
  obtain ⟨p, m, e, hp⟩ := h q hq
  rw [hp] at hu
  exact cells_mem_one _ _ _ _ u hu
theorem IOwn.slices {w : World} {B : Nat} {v : Value} {L : List (Src × Value)} (h : IOwn w B v L) : ∀ q ∈ L, ∃ p m e, q.2 = .slice p m e := fun q hq => by
  obtain ⟨p, cap, e, _⟩ := (h.dat q hq).rowC
  exact ⟨p, _, cap, e⟩
/-- a list of items that lies elsewhere is kept -/
theorem IOwn.other {w w' : World} {B B' : Nat} {v v2 : Value} {L M : List (Src × Value)} (h : IOwn w B' v2 M) (hown : IOwn w B v L) (hg : w.grownBy w' v.ownBlock) (hne : v2 = .slice none 0 0 ∨ v2.ownBlock ≠ v.ownBlock) : IOwn w' B' v2 M :=
  ⟨World.ownsRow.kept h.row hg (hne.imp (fun e => by rw [e]; rfl) id), fun q hq => (h.dat q hq).grownOther hg (row_apart (h.dat q hq) hown.row (by decide))⟩
/-- of two lists the later one lies elsewhere -/
theorem IOwn.later {w0 w : World} {B : Nat} {v v2 : Value} {L M : List (Src × Value)} (hown : IOwn w0 B v L) (h : IOwn w w0.heap.size v2 M) : v2 = .slice none 0 0 ∨ v2.ownBlock ≠ v.ownBlock := by
  rcases h.row.2 with ⟨e, _⟩ | ⟨g, cap, cur, e, hg, _⟩
  · exact .inl e
  · refine .inr ?_
    rcases hown.row.2 with ⟨e2, _⟩ | ⟨g2, cap2, cur2, e2, _, h3, _⟩
    · rw [e, e2]; simp [Value.ownBlock]
    · have := (Array.getElem?_eq_some_iff.1 h3).1
      rw [e, e2]
      simp only [Value.ownBlock]
      intro ee; injection ee with ee; omega

/-- 'append(l, m...)' -/
theorem gappend9 {ops : Array Oper} {rest : List Oper} {o : Oper} {a : Act} {Q : Exit → Act → World → Prop} (w : World) (hwt : Region.wanted o (yielded ops a.tmps) = true) (s x : Operand)
    (ho : o.op = .call { callee := .builtin .append, args := #[s, x], argTypes := #[35, 35] }) (B : Nat) (v v2 : Value) (L M : List (Src × Value)) (hs : a.eval s = v) (hx : a.eval x = v2) (hown : IOwn w B v L) (hown2 : IOwn w B v2 M)
    (hlen : L.length + M.length ≤ 1073741824) (hBw : B ≤ w.heap.size)
    (h : ∀ v' w', IOwn w' B v' (L ++ M) → w.grownBy w' v.ownBlock → (∀ w0, Below B w0 w → Below B w0 w') → wpList Tryz.prog ops Q rest (a.put o.dst v') w') :
    wpList Tryz.prog ops Q (o :: rest) a w := by
  obtain ⟨i0, hi, hz0, hz1, hz2⟩ := info_parts Tryz.info28
  refine wpList_step fun K hK => ?_
  rw [if_pos hwt]
  rcases hown2.row.2 with ⟨e1, e2⟩ | ⟨g, cap, cur, e1, e2, e3, e4, e5, e6⟩
  · have hM : M = [] := List.eq_nil_of_length_eq_zero e2
    subst hM
    have hrun := run_append_owned_none (P := Tryz.prog) (w := w) B 35 o.type 28 i0 9 Tryz.und35 hi v L.length (cells9 L) hown.row
    rw [e1] at hx
    unfold Oper.wp
    simp [execOp, ho, resolve, invoke, builtin, hs, hx, hrun, Result.andThen]
    exact hK _ _ (h v w (by rw [List.append_nil]; exact hown) (World.grownBy.refl w _) (fun _ hb => hb))
  · have hr := hown2.row
    rw [e1] at hr
    refine wp_append_own w s x 35 ho B 28 i0 (.agg item0) 9 80 Tryz.und35 hi hz0 hz1 hz2 rfl (by decide) v L.length (cells9 L) hs hown.row ⟨g, 0, none⟩ M.length cap (cells9 M) (by rw [hx, e1]) (cells9_len M) ?_ (cells9_one hown2.slices) (by unfold maxLen; omega) (by omega) hBw ?_
    · intro j u hu
      rw [Addr.add_mid, Nat.zero_add]
      have hj : j < M.length * 9 := by rw [← cells9_len]; exact (List.getElem?_eq_some_iff.1 hu).1
      rw [hr.cellAt j hj]; exact hu
    · intro v' w' h2 h3 _
      refine hK _ _ (h v' w' ⟨?_, fun q' hq => ?_⟩ h3 (fun w0 hb => hb.grown h3 hBw fun k hk => (hown.row.lt k hk).1))
      · rw [List.length_append, cells9_two]; exact h2
      · rcases List.mem_append.1 hq with hq | hq
        · exact (hown.dat q' hq).grownOther h3 (row_apart (hown.dat q' hq) hown.row (by decide))
        · exact (hown2.dat q' hq).grownOther h3 (row_apart (hown2.dat q' hq) hown.row (by decide))

end Go.Proofs.YtgfmmbbebodapaaGreatDoor

/- switchyardkit.SameItems of two lists that are the same. -/
namespace Go.Proofs.YtgfmmbbebodapaaGreatDoor
open Go.RowKit

/-- the nine cells of an item, one by one -/
theorem range9 {w : World} {b o : Nat} {x : Src} {d : Value} (h : w.rangeAt b o (cellsOf x d).toList) :
    w.cell? ⟨b, o, none⟩ = some (.int .u8 x.k) ∧ w.cell? ⟨b, o + 1, none⟩ = some (.string x.name) ∧ w.cell? ⟨b, o + 2, none⟩ = some (.string x.tg) ∧ w.cell? ⟨b, o + 3, none⟩ = some (.int .u8 x.o) ∧ w.cell? ⟨b, o + 4, none⟩ = some (.int .u8 x.a) ∧ w.cell? ⟨b, o + 5, none⟩ = some (.int .u8 x.b) ∧ w.cell? ⟨b, o + 6, none⟩ = some (.int .i32 x.m) ∧ w.cell? ⟨b, o + 7, none⟩ = some (.int .i64 x.n) ∧ w.cell? ⟨b, o + 8, none⟩ = some d :=
  ⟨h 0 _ rfl, h 1 _ rfl, h 2 _ rfl, h 3 _ rfl, h 4 _ rfl, h 5 _ rfl, h 6 _ rfl, h 7 _ rfl, h 8 _ rfl⟩

set_option maxRecDepth 20000 in
set_option maxHeartbeats 1000000 in
theorem sameItems_yes (p q : Option Addr) (n c c' : Nat) (xs : List Src) (w : World) (hn : xs.length = n) (hn63 : n ≤ 4611686018427387904) (hd : ∀ x ∈ xs, x.d.length ≤ 9223372036854775807) (hx : Items w p xs) (hy : Items w q xs) :
    Calls Tryz.prog 14 #[.slice p n c, .slice q n c'] w fun E w' => E = .returned (.bool true) ∧ Below w.heap.size w w' := by
  have HX := Hid.in hx
  have HY := Hid.in hy
  have HN := Hid.in hn
  have HD := Hid.in hd
  clear hx hy hn hd
  go_enter Tryz.func14, Tryz.ntmps14
  go_wp2
  go_loopw [5] (fun i wr => ∃ k : Nat, k ≤ n ∧ i = .int .i64 k ∧ Below w.heap.size w wr) (fun i _ => n - (intOf i).toNat)
  case atStart => exact ⟨0, Nat.zero_le _, rfl, below_self _⟩
  case round =>
    obtain ⟨k, hk, rfl, hb⟩ := hrel
    have HB := Hid.in hb
    clear hb
    by_cases hlt : k < n
    · have hlt' : k < xs.length := by rw [HN.out]; exact hlt
      obtain ⟨b, o, hp, hc⟩ := HX.out.below HB.out (by omega)
      subst hp
      obtain ⟨b2, o2, hq, hc2⟩ := HY.out.below HB.out (by omega)
      subst hq
      obtain ⟨q1, e1, hR1, hrow1, -⟩ := hc k hlt'
      obtain ⟨q2, e2, hR2, hrow2, -⟩ := hc2 k hlt'
      have hdl := HD.out _ (List.getElem_mem hlt')
      have hS := fun (W : World) (k1 : Row W q1 (xs[k]'hlt').d) (k2 : Row W q2 (xs[k]'hlt').d) => sameItem_yes (xs[k]'hlt') q1 q2 _ e1 _ e2 W rfl rfl hdl k1 k2
      have HR1 := fun z => Hid.in (hrow1.below (below_draws (below_self wr) z))
      have HR2 := fun z => Hid.in (hrow2.below (below_draws (below_self wr) z))
      obtain ⟨a0, a1, a2, a3, a4, a5, a6, a7, a8⟩ := range9 hR1
      obtain ⟨b0, b1, b2', b3, b4, b5, b6, b7, b8⟩ := range9 hR2
      unfold cellsOf at hS
      clear hc hc2 hrow1 hrow2 hR1 hR2 hdl
      generalize xs[k] = x at *
      obtain ⟨xk, name, tg, xo, xa, xb, n4, xn, d⟩ := x
      simp only at *
      go_wp2_with fail
      go_region_law (go_simp; go_at_call 10; refine (hS _ (HR1 _).out (HR2 _).out).mono ?_; rintro E w5 ⟨rfl, hb5⟩; have HB5 := Hid.in hb5; clear hb5)
      all_goals
        go_wp2_with fail
        go_roundw
        case rel => exact ⟨k + 1, by omega, by go_num, below_step (below_drewN HB.out 1) HB5.out⟩
        case measure => simp [intOf]; omega
    · go_wp2
      go_ret
      exact ⟨rfl, HB.out⟩

end Go.Proofs.YtgfmmbbebodapaaGreatDoor
