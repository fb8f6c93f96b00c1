/- Texts put together: PrgD, PrgE. -/
import Derived.Test.YtgblohjdiheemaaGreatKap
import Derived.Test.YtgblohjdiheemaaGreatKac
import Derived.Deep.QuietTactic
import Derived.BigQuiet
import Derived.Lib.Hide

/- Ours: sites sorted (switchyardmade.sorted). -/
namespace Go.Proofs.YtgblohjdiheemaaGreat
open Go.RowKit

def z3V (q : Z3) : V3 := (.int .i64 q.1, .int .i64 q.2.1, .int .i64 q.2.2)
theorem z3V_one (q : Z3) : one3 (z3V q) := ⟨rfl, rfl, rfl⟩
def set3 (w : World) (g i : Nat) (q : V3) : World := ((w.setCell ⟨g, i * 3, none⟩ q.1).setCell ⟨g, i * 3 + 1, none⟩ q.2.1).setCell ⟨g, i * 3 + 2, none⟩ q.2.2
theorem c3_set3 : ∀ (L : List V3) (i : Nat) (q : V3), i < L.length → (((c3 L).set (i * 3) q.1).set (i * 3 + 1) q.2.1).set (i * 3 + 2) q.2.2 = c3 (L.set i q)
  | x :: L, 0, q, _ => by
    show (((l3 x ++ c3 L).set (0 * 3) q.1).set (0 * 3 + 1) q.2.1).set (0 * 3 + 2) q.2.2 = l3 q ++ c3 L
    rfl
  | x :: L, i + 1, q, h => by
    have ih := c3_set3 L i q (by simpa using h)
    have h3 : (l3 x).length = 3 := rfl
    show (((l3 x ++ c3 L).set ((i + 1) * 3) q.1).set ((i + 1) * 3 + 1) q.2.1).set ((i + 1) * 3 + 2) q.2.2 = l3 x ++ c3 (L.set i q)
    rw [List.set_append_right _ _ (by rw [h3]; omega), List.set_append_right _ _ (by rw [h3]; omega), List.set_append_right _ _ (by rw [h3]; omega), h3, show (i + 1) * 3 - 3 = i * 3 by omega, show (i + 1) * 3 + 1 - 3 = i * 3 + 1 by omega, show (i + 1) * 3 + 2 - 3 = i * 3 + 2 by omega, ih]
theorem grown_two {a b c : World} {r : Option Nat} (h1 : a.grownBy b r) (h2 : b.grownBy c r) : a.grownBy c r :=
  ⟨h2.os.trans h1.os, h2.tape.trans h1.tape, h2.output.trans h1.output, Nat.le_trans h1.size h2.size, fun i hi hn => (h2.block i (Nat.lt_of_lt_of_le hi h1.size) hn).trans (h1.block i hi hn)⟩
theorem TOwn.set3 {T : TypeId} {w : World} {B g n c : Nat} {L : List V3} (h : TOwn T w B (.slice (some ⟨g, 0, none⟩) n c) L) {x : Nat} (hx : x < L.length) (q : V3) : TOwn T (Go.Proofs.YtgblohjdiheemaaGreat.set3 w g x q) B (.slice (some ⟨g, 0, none⟩) n c) (L.set x q) ∧ w.grownBy (Go.Proofs.YtgblohjdiheemaaGreat.set3 w g x q) (some g) := by
  have h0 : w.ownsRow B T 3 (.slice (some ⟨g, 0, none⟩) n c) L.length (c3 L) := h
  have hn : n = L.length := by
    obtain ⟨p, cc, e, -⟩ := h.shape
    injection e
  subst hn
  have h1 := World.ownsRow.stored h0 (x * 3) q.1
  have h2 := World.ownsRow.stored h1.1 (x * 3 + 1) q.2.1
  have h3 := World.ownsRow.stored h2.1 (x * 3 + 2) q.2.2
  have hg : w.grownBy (Go.Proofs.YtgblohjdiheemaaGreat.set3 w g x q) (some g) := grown_two (grown_two h1.2 h2.2) h3.2
  have h4 := h3.1
  rw [c3_set3 _ x _ hx] at h4
  refine ⟨?_, hg⟩
  unfold TOwn
  rw [List.length_set]
  exact h4
/-- how a list of sites lies -/
def TRow (w : World) (p : Option Addr) (L : List Z3) : Prop := 0 < L.length → ∃ b o, p = some ⟨b, o, none⟩ ∧ ∀ i, i < L.length → w.cell? ⟨b, o + i * 3, none⟩ = some (.int .i64 (L.getD i (0, 0, 0)).1) ∧ w.cell? ⟨b, o + i * 3 + 1, none⟩ = some (.int .i64 (L.getD i (0, 0, 0)).2.1) ∧ w.cell? ⟨b, o + i * 3 + 2, none⟩ = some (.int .i64 (L.getD i (0, 0, 0)).2.2)
theorem TOwn.cells {T : TypeId} {w : World} {B g n c : Nat} {L : List Z3} (h : TOwn T w B (.slice (some ⟨g, 0, none⟩) n c) (L.map z3V)) (i : Nat) (hi : i < L.length) : w.cell? ⟨g, i * 3, none⟩ = some (.int .i64 (L.getD i (0, 0, 0)).1) ∧ w.cell? ⟨g, i * 3 + 1, none⟩ = some (.int .i64 (L.getD i (0, 0, 0)).2.1) ∧ w.cell? ⟨g, i * 3 + 2, none⟩ = some (.int .i64 (L.getD i (0, 0, 0)).2.2) := by
  obtain ⟨p, cap, e, -, -, hs⟩ := h.shape
  obtain ⟨g', e', -, -, hc⟩ := hs (by rw [List.length_map]; omega)
  have e1 : some (⟨g, 0, none⟩ : Addr) = p := by injection e
  rw [← e1] at e'
  have e2 : g = g' := by injection e' with e'; injection e'
  subst e2
  have hi' : i < (L.map z3V).length := by rw [List.length_map]; exact hi
  have hz : L.getD i (0, 0, 0) = L[i] := by simp [List.getD, List.getElem?_eq_getElem hi]
  rw [hz]
  have h0 := hc i hi' 0 (by decide)
  have h1 := hc i hi' 1 (by decide)
  have h2 := hc i hi' 2 (by decide)
  rw [List.getElem_map] at h0 h1 h2
  exact ⟨h0, h1, h2⟩
theorem TOwn.freeAt {T : TypeId} {w : World} {B g n c : Nat} {L : List V3} (h : TOwn T w B (.slice (some ⟨g, 0, none⟩) n c) L) (i : Nat) : w.frozen? ⟨g, i, none⟩ = false := by
  have h0 : w.ownsRow B T 3 (.slice (some ⟨g, 0, none⟩) n c) L.length (c3 L) := h
  have hn : n = L.length := by
    obtain ⟨p, cc, e, -⟩ := h.shape
    injection e
  subst hn
  exact World.ownsRow.frozenAt h0 i
theorem TOwn.trow {T : TypeId} {w : World} {B : Nat} {v : Value} {L : List Z3} (h : TOwn T w B v (L.map z3V)) : ∃ p c, v = .slice p L.length c ∧ TRow w p L := by
  obtain ⟨p, cap, e, -, -, hs⟩ := h.shape
  rw [List.length_map] at e
  refine ⟨p, cap, e, fun h0 => ?_⟩
  obtain ⟨g, rfl, -, -, -⟩ := hs (by rw [List.length_map]; exact h0)
  subst e
  exact ⟨g, 0, rfl, fun i hi => by
    have := h.cells i hi
    simpa using this⟩
theorem posZ_down {L : List Z3} {x : Z3} {p : Nat} (h : gtZ (L.getD p (0, 0, 0)) x = true) : posZ L x (p + 1) = posZ L x p := by rw [posZ, if_pos h]
theorem posZ_stop {L : List Z3} {x : Z3} {p : Nat} (h : gtZ (L.getD p (0, 0, 0)) x = false) : posZ L x (p + 1) = p + 1 := by rw [posZ, if_neg (by rw [h]; decide)]
theorem shZ_getD {A : List Z3} {s : Z3} {x : Nat} (h : x < A.length) : (shZ A s (x + 1)).getD x (0, 0, 0) = A.getD x (0, 0, 0) := by
  simp [List.getD, shZ_get h, List.getElem?_eq_getElem h]

theorem shZ_step' {A : List Z3} {s : Z3} {x : Nat} (h : x < A.length) : (shZ A s (x + 1)).set (x + 1) (A.getD x (0, 0, 0)) = shZ A s x := by
  have e : A.getD x (0, 0, 0) = A[x] := by simp [List.getD, List.getElem?_eq_getElem h]
  rw [e, shZ_step h]

set_option maxHeartbeats 4000000 in
set_option maxRecDepth 20000 in
theorem sortedP_any (p : Option Addr) (n c : Nat) (l : List Z3) (w : World) (hl : l.length = n) (hn : n ≤ 24) (hr : TRow w p l) :
    Calls Tryz.prog 30 #[.slice p n c] w fun e w' => ∃ v, e = .returned v ∧ TOwn 68 w' w.heap.size v ((sortZ l n).map z3V) ∧ Below w.heap.size w w' := by
  have HR := Hid.in hr
  have HL := Hid.in hl
  clear hr hl
  go_enter Tryz.func30, Tryz.ntmps30
  go_wp2
  go_loopw [3, 4] (fun v3 vi wr => ∃ i : Nat, i ≤ n ∧ vi = .int .i64 i ∧ TOwn 68 wr w.heap.size v3 ((sortZ l i).map z3V) ∧ Below w.heap.size w wr) (fun _ vi _ => n - (intOf vi).toNat)
  case atStart => exact ⟨0, Nat.zero_le _, rfl, TOwn.nil _ _ _, Below.refl _ _⟩
  case round =>
    obtain ⟨i, hi, rfl, ho, hb⟩ := hrel
    have HO := Hid.in ho
    have HB := Hid.in hb
    obtain ⟨p3, cc3, e3, -⟩ := ho.trow
    rw [sortZ_len] at e3
    subst e3
    clear ho hb
    by_cases hlt : i < n
    · obtain ⟨b, o, rfl, hc⟩ := HR.out (by rw [HL.out]; omega)
      obtain ⟨q0, q1, q2⟩ := hc i (by rw [HL.out]; exact hlt)
      have c0 : wr.cell? ⟨b, o + i * 3, none⟩ = _ := (HB.out.cell (p := ⟨b, o + i * 3, none⟩) (cell_lt q0)).trans q0
      have c1 : wr.cell? ⟨b, o + i * 3 + 1, none⟩ = _ := (HB.out.cell (p := ⟨b, o + i * 3 + 1, none⟩) (cell_lt q1)).trans q1
      have c2 : wr.cell? ⟨b, o + i * 3 + 2, none⟩ = _ := (HB.out.cell (p := ⟨b, o + i * 3 + 2, none⟩) (cell_lt q2)).trans q2
      have HQ : Hid (w.cell? ⟨b, o + i * 3, none⟩ = some (.int .i64 (l.getD i (0, 0, 0)).1) ∧ w.cell? ⟨b, o + i * 3 + 1, none⟩ = some (.int .i64 (l.getD i (0, 0, 0)).2.1)) := ⟨q0, q1⟩
      have HS : Hid (sortZ l (i + 1) = insZ (sortZ l i) (l.getD i (0, 0, 0))) := rfl
      have HLn := Hid.in (sortZ_len l i)
      have HQ2 := Hid.in q2
      clear q0 q1 q2 hc
      generalize l.getD i (0, 0, 0) = x at *
      generalize sortZ l i = A at *
      obtain ⟨xk, xa, xt⟩ := x
      dsimp only at c0 c1 c2 HQ HQ2
      have HN0 := Hid.in (HO.out.alloc (.cells #[.int .i64 xk, .int .i64 xa, .int .i64 xt] 68))
      have hA1 : (A.map z3V).length ≤ 1048576 := by rw [List.length_map, HLn.out]; omega
      have HB0 := Hid.in (below_alloc HB.out (.cells #[.int .i64 xk, .int .i64 xa, .int .i64 xt] 68))
      go_wp2_with (at_builtin; refine tpush Tryz.elemSite _ rfl _ _ rfl w.heap.size _ (A.map z3V) rfl HN0.out ⟨wr.heap.size, 0, none⟩ 1 (z3V (xk, xa, xt)) (z3V_one _) rfl (news3 wr (z3V (xk, xa, xt)) 68) hA1 (by decide) HB0.out.size ?_; intro v2 w2 ho2 hg2 hb2; refine Hid.out ?_)
      refine Lib.hid ?_
      obtain ⟨p2, cc2, e2, -, -, hs2⟩ := ho2.shape
      obtain ⟨g2, rfl, -, -, -⟩ := hs2 (by simp)
      rw [List.length_append, List.length_map, HLn.out, List.length_singleton] at e2
      subst e2
      have hA2 : (A.map z3V ++ [z3V (xk, xa, xt)]) = (shZ A (xk, xa, xt) i).map z3V := by rw [← HLn.out, shZ_start, List.map_append]; rfl
      rw [hA2] at ho2
      have HO2 := Hid.in ho2
      have HB2 := Hid.in (hb2 w HB0.out)
      clear ho2 hg2 hb2 hs2 hA2 HN0 HB0 c0 c1 c2 hA1 HO HB
      go_wp2_with fail
      go_loopw [5] (fun va wz => ∃ q : Nat, q ≤ i ∧ va = .int .i64 q ∧ TOwn 68 wz w.heap.size (.slice (some ⟨g2, 0, none⟩) (i + 1) cc2) ((shZ A (xk, xa, xt) q).map z3V) ∧ Below w.heap.size w wz ∧ posZ A (xk, xa, xt) A.length = posZ A (xk, xa, xt) q) (fun va _ => (intOf va).toNat)
      case atStart => exact ⟨i, Nat.le_refl _, rfl, HO2.out, HB2.out, by rw [HLn.out]⟩
      case round =>
        obtain ⟨q, hq, rfl, ho3, hb3, hp3⟩ := hrel
        have HO3 := Hid.in ho3
        have HB3 := Hid.in hb3
        have HP3 := Hid.in hp3
        have x0 : wr.cell? ⟨b, o + i * 3, none⟩ = some (.int .i64 xk) := (HB3.out.cell (p := ⟨b, o + i * 3, none⟩) (cell_lt HQ.out.1)).trans HQ.out.1
        have x1 : wr.cell? ⟨b, o + i * 3 + 1, none⟩ = some (.int .i64 xa) := (HB3.out.cell (p := ⟨b, o + i * 3 + 1, none⟩) (cell_lt HQ.out.2)).trans HQ.out.2
        clear ho3 hb3 hp3
        rcases q with _ | y
        · have hg0 : decide ((0 : Int) < ((0 : Nat) : Int)) = false := by simp
          go_wp2_with fail
          go_quiet (fail)
          have HW := Hid.in (HO3.out.drewN nq)
          have HBW := Hid.in (below_draws HB3.out nq)
          have f0 := HO3.out.freeAt (0 * 3)
          have f1 := HO3.out.freeAt (0 * 3 + 1)
          have f2 := HO3.out.freeAt (0 * 3 + 2)
          obtain ⟨n0, n1, n2⟩ := HO3.out.cells (0) (by rw [shZ_len (by rw [HLn.out]; exact hq)]; have := HLn.out; omega)
          have x2 : wr.cell? ⟨b, o + i * 3 + 2, none⟩ = some (.int .i64 xt) := (HB3.out.cell (p := ⟨b, o + i * 3 + 2, none⟩) (cell_lt HQ2.out)).trans HQ2.out
          generalize (shZ A (xk, xa, xt) (0)).getD (0) (0, 0, 0) = en at *
          go_wp2_with fail
          go_roundw
          case rel =>
            have hs := HW.out.set3 (x := 0) (by rw [List.length_map, shZ_len (by rw [HLn.out]; exact hq)]; have := HLn.out; omega) (z3V (xk, xa, xt))
            have he : ((shZ A (xk, xa, xt) (0)).map z3V).set (0) (z3V (xk, xa, xt)) = (insZ A (xk, xa, xt)).map z3V := by
              rw [← List.map_set, shZ_end (by rw [HLn.out]; exact hq), insZ, HP3.out, posZ]
            rw [he] at hs
            exact ⟨i + 1, by omega, by go_num, by rw [HS.out]; exact hs.1, HBW.out.grown hs.2 HBW.out.size (fun k hk => (World.ownsRow.lt HW.out k hk).1)⟩
          case measure => simp [intOf]; omega
        · obtain ⟨k0, k1, k2⟩ := HO3.out.cells y (by rw [shZ_len (by rw [HLn.out]; exact hq)]; have := HLn.out; omega)
          rw [shZ_getD (by rw [HLn.out]; omega)] at k0 k1 k2
          have HD := Hid.in (@posZ_down A (xk, xa, xt) y)
          have HT := Hid.in (@posZ_stop A (xk, xa, xt) y)
          have HE : Hid (A.getD y (0, 0, 0) = A.getD y (0, 0, 0)) := rfl
          generalize hey : A.getD y (0, 0, 0) = ey at k0 k1 k2 HD HT HE
          replace HE : Hid (A.getD y (0, 0, 0) = ey) := hey
          clear hey
          obtain ⟨yk, ya, yt⟩ := ey
          dsimp only at k0 k1 k2
          have hg0 : decide ((0 : Int) < ((y + 1 : Nat) : Int)) = true := by simp
          by_cases hgt : xk < yk
          · have HGT : Hid (gtZ (yk, ya, yt) (xk, xa, xt) = true) := by show gtZ _ _ = true; simp [gtZ, hgt]
            have d1 : decide (xk < yk) = true := by simpa using hgt
            go_wp2_with fail
            go_quiet (fail)
            have HW := Hid.in (HO3.out.drewN nq)
            have HBW := Hid.in (below_draws HB3.out nq)
            have f0 := HO3.out.freeAt ((y + 1) * 3)
            have f1 := HO3.out.freeAt ((y + 1) * 3 + 1)
            have f2 := HO3.out.freeAt ((y + 1) * 3 + 2)
            obtain ⟨n0, n1, n2⟩ := HO3.out.cells (y + 1) (by rw [shZ_len (by rw [HLn.out]; exact hq)]; have := HLn.out; omega)
            generalize (shZ A (xk, xa, xt) (y + 1)).getD (y + 1) (0, 0, 0) = en at *
            go_wp2_with fail
            go_roundw
            case rel =>
              have hs := HW.out.set3 (x := y + 1) (by rw [List.length_map, shZ_len (by rw [HLn.out]; exact hq)]; have := HLn.out; omega) (z3V (yk, ya, yt))
              have he : ((shZ A (xk, xa, xt) (y + 1)).map z3V).set (y + 1) (z3V (yk, ya, yt)) = (shZ A (xk, xa, xt) y).map z3V := by
                rw [← List.map_set, ← HE.out, shZ_step']
                rw [HLn.out]; omega
              rw [he] at hs
              exact ⟨y, by omega, by go_num, hs.1, HBW.out.grown hs.2 HBW.out.size (fun k hk => (World.ownsRow.lt HW.out k hk).1), by rw [HP3.out]; exact HD.out HGT.out⟩
            case measure => simp [intOf]
          · have d1 : decide (xk < yk) = false := by simpa using hgt
            by_cases heq : yk = xk
            · have d2 : (yk == xk) = true := by simpa using heq
              by_cases hat : xa < ya
              · have HGT : Hid (gtZ (yk, ya, yt) (xk, xa, xt) = true) := by show gtZ _ _ = true; simp [gtZ, heq, hat]
                have d3 : decide (xa < ya) = true := by simpa using hat
                have HEQ := Hid.in heq
                clear heq
                go_wp2_with fail
                go_quiet (fail)
                have HW := Hid.in (HO3.out.drewN nq)
                have HBW := Hid.in (below_draws HB3.out nq)
                have f0 := HO3.out.freeAt ((y + 1) * 3)
                have f1 := HO3.out.freeAt ((y + 1) * 3 + 1)
                have f2 := HO3.out.freeAt ((y + 1) * 3 + 2)
                obtain ⟨n0, n1, n2⟩ := HO3.out.cells (y + 1) (by rw [shZ_len (by rw [HLn.out]; exact hq)]; have := HLn.out; omega)
                generalize (shZ A (xk, xa, xt) (y + 1)).getD (y + 1) (0, 0, 0) = en at *
                go_wp2_with fail
                go_roundw
                case rel =>
                  have hs := HW.out.set3 (x := y + 1) (by rw [List.length_map, shZ_len (by rw [HLn.out]; exact hq)]; have := HLn.out; omega) (z3V (yk, ya, yt))
                  have he : ((shZ A (xk, xa, xt) (y + 1)).map z3V).set (y + 1) (z3V (yk, ya, yt)) = (shZ A (xk, xa, xt) y).map z3V := by
                    rw [← List.map_set, ← HE.out, shZ_step']
                    rw [HLn.out]; omega
                  rw [he] at hs
                  exact ⟨y, by omega, by go_num, hs.1, HBW.out.grown hs.2 HBW.out.size (fun k hk => (World.ownsRow.lt HW.out k hk).1), by rw [HP3.out]; exact HD.out HGT.out⟩
                case measure => simp [intOf]
              · have HNG : Hid (gtZ (yk, ya, yt) (xk, xa, xt) = false) := by show gtZ _ _ = false; simp [gtZ, heq, hat]
                have d3 : decide (xa < ya) = false := by simpa using hat
                have HEQ := Hid.in heq
                clear heq
                go_wp2_with fail
                go_quiet (fail)
                have HW := Hid.in (HO3.out.drewN nq)
                have HBW := Hid.in (below_draws HB3.out nq)
                have f0 := HO3.out.freeAt ((y + 1) * 3)
                have f1 := HO3.out.freeAt ((y + 1) * 3 + 1)
                have f2 := HO3.out.freeAt ((y + 1) * 3 + 2)
                obtain ⟨n0, n1, n2⟩ := HO3.out.cells (y + 1) (by rw [shZ_len (by rw [HLn.out]; exact hq)]; have := HLn.out; omega)
                have x2 : wr.cell? ⟨b, o + i * 3 + 2, none⟩ = some (.int .i64 xt) := (HB3.out.cell (p := ⟨b, o + i * 3 + 2, none⟩) (cell_lt HQ2.out)).trans HQ2.out
                generalize (shZ A (xk, xa, xt) (y + 1)).getD (y + 1) (0, 0, 0) = en at *
                go_wp2_with fail
                go_roundw
                case rel =>
                  have hs := HW.out.set3 (x := y + 1) (by rw [List.length_map, shZ_len (by rw [HLn.out]; exact hq)]; have := HLn.out; omega) (z3V (xk, xa, xt))
                  have he : ((shZ A (xk, xa, xt) (y + 1)).map z3V).set (y + 1) (z3V (xk, xa, xt)) = (insZ A (xk, xa, xt)).map z3V := by
                    rw [← List.map_set, shZ_end (by rw [HLn.out]; exact hq), insZ, HP3.out, HT.out HNG.out]
                  rw [he] at hs
                  exact ⟨i + 1, by omega, by go_num, by rw [HS.out]; exact hs.1, HBW.out.grown hs.2 HBW.out.size (fun k hk => (World.ownsRow.lt HW.out k hk).1)⟩
                case measure => simp [intOf]; omega
            · have HNG : Hid (gtZ (yk, ya, yt) (xk, xa, xt) = false) := by show gtZ _ _ = false; simp [gtZ, heq, hgt]
              have d2 : (yk == xk) = false := by simpa using heq
              go_wp2_with fail
              go_quiet (fail)
              have HW := Hid.in (HO3.out.drewN nq)
              have HBW := Hid.in (below_draws HB3.out nq)
              have f0 := HO3.out.freeAt ((y + 1) * 3)
              have f1 := HO3.out.freeAt ((y + 1) * 3 + 1)
              have f2 := HO3.out.freeAt ((y + 1) * 3 + 2)
              obtain ⟨n0, n1, n2⟩ := HO3.out.cells (y + 1) (by rw [shZ_len (by rw [HLn.out]; exact hq)]; have := HLn.out; omega)
              have x2 : wr.cell? ⟨b, o + i * 3 + 2, none⟩ = some (.int .i64 xt) := (HB3.out.cell (p := ⟨b, o + i * 3 + 2, none⟩) (cell_lt HQ2.out)).trans HQ2.out
              generalize (shZ A (xk, xa, xt) (y + 1)).getD (y + 1) (0, 0, 0) = en at *
              go_wp2_with fail
              go_roundw
              case rel =>
                have hs := HW.out.set3 (x := y + 1) (by rw [List.length_map, shZ_len (by rw [HLn.out]; exact hq)]; have := HLn.out; omega) (z3V (xk, xa, xt))
                have he : ((shZ A (xk, xa, xt) (y + 1)).map z3V).set (y + 1) (z3V (xk, xa, xt)) = (insZ A (xk, xa, xt)).map z3V := by
                  rw [← List.map_set, shZ_end (by rw [HLn.out]; exact hq), insZ, HP3.out, HT.out HNG.out]
                rw [he] at hs
                exact ⟨i + 1, by omega, by go_num, by rw [HS.out]; exact hs.1, HBW.out.grown hs.2 HBW.out.size (fun k hk => (World.ownsRow.lt HW.out k hk).1)⟩
              case measure => simp [intOf]; omega
    · obtain rfl : i = n := by omega
      go_wp2_with fail
      go_ret
      exact ⟨_, rfl, HO.out, HB.out⟩
end Go.Proofs.YtgblohjdiheemaaGreat

/- Ours: Program's memory: what its loops carry; append of noughts. -/
namespace Go.Proofs.YtgblohjdiheemaaGreat
open Go.RowKit

theorem zeros_list (m : Nat) : (Builtin.zeroCells (Value.int .u8 0).cells m).toList = byts (List.replicate m 0) := by
  apply List.ext_getElem?
  intro i
  have hs : (Value.int .u8 0).cells = #[Value.int .u8 0] := rfl
  rw [hs]
  simp only [Builtin.zeroCells, byts, List.map_replicate, Array.toList_map, Array.toList_range, List.getElem?_map, List.getElem?_replicate]
  by_cases h : i < m
  · rw [if_pos h]
    have h1 : i < m * 1 := by omega
    simp [h, Nat.mod_one]
  · rw [if_neg h]
    simp [Nat.le_of_not_lt h]
/-- 'append(b, make([]byte, m)...)' onto bytes that the call has made -/
theorem run_zeros {B g cap : Nat} {xs : List Int} (w : World) (h : Own w B g cap xs) (m : Nat) (h0 : 0 < m) (hm : m ≤ 1000) (hl : xs.length ≤ 1000) (hB : B ≤ w.heap.size) (ty : TypeId) :
    ∃ g' cap' w', (Builtin.append_ #[22, 3] ty #[.slice (some ⟨g, 0, none⟩) xs.length cap, .int .i64 m]).run Tryz.prog w = .ok (.slice (some ⟨g', 0, none⟩) (xs.length + m) cap') w' ∧ OwnV w' B (.slice (some ⟨g', 0, none⟩) (xs.length + m) cap') (xs ++ List.replicate m 0) ∧ w.grownBy w' (some g) := by
  obtain ⟨i0, hi, hz0, hz1, hz2⟩ := info_parts Tryz.info5
  obtain ⟨cur, hbg, hg, hnc, hcm, hcs, htake⟩ := h.parts
  have hu : Tryz.prog.underlying 22 = some (.slice 5) := Tryz.underlying22
  have hun : Tryz.prog.underlying 3 = some (.int .i64) := Tryz.underlying3
  have hw : IntKind.i64.wrap (m : Int) = m := by rw [IntKind.wrap_i64]; omega
  have hneg : ¬ ((m : Int) < 0) := by omega
  have h48 : ¬ (281474976710656 < (m : Int)) := by omega
  have hm0 : m ≠ 0 := by omega
  have hlen : (xs ++ List.replicate m 0).length = xs.length + m := by simp
  have e1 : byts (xs ++ List.replicate m 0) = byts xs ++ byts (List.replicate m 0) := by simp [byts]
  have e2 : (xs.length + m) * 1 = (byts xs ++ byts (List.replicate m 0)).length := by simp
  by_cases hroom : xs.length + m ≤ cap
  · have hst := run_storeCells_at Tryz.prog g xs.length 5 (byts (List.replicate m 0)) 0 cur w hg (by rw [hcs]; simp; omega) (fun u hu => by
      simp only [byts, List.mem_map] at hu
      obtain ⟨z, -, rfl⟩ := hu
      rfl)
    simp only [Nat.add_zero, byts, List.map_replicate, List.length_replicate, List.append_assoc] at hst
    have hrun : (Builtin.append_ #[22, 3] ty #[.slice (some ⟨g, 0, none⟩) xs.length cap, .int .i64 m]).run Tryz.prog w = .ok (.slice (some ⟨g, 0, none⟩) (xs.length + m) cap) (w.setRow g (cur.toList.take xs.length ++ byts (List.replicate m 0) ++ cur.toList.drop (xs.length + (byts (List.replicate m 0)).length)).toArray) := by
      simp [Builtin.append_, run_underlying hu, run_underlying hun, sizeOf, typeInfo, zeroValue, hi, hz0, hz1, hz2, hw, hneg, h48, hm0, hroom, Addr.add_lit, asInt, asIntOf, zeros_list, hst]
    refine ⟨g, cap, _, hrun, ?_, ⟨rfl, rfl, rfl, by simp, fun k _ hk => setRow_other w g k _ (fun e => hk (by rw [e]))⟩⟩
    unfold OwnV
    rw [hlen]
    refine ⟨by simp, .inr ⟨g, cap, _, rfl, hbg, setRow_heap w g cur _ 5 _ hg, hroom, hcm, ?_, ?_⟩⟩
    · simp only [List.size_toArray, List.length_append, List.length_take, List.length_drop, Array.length_toList, byts, List.length_map, List.length_replicate]
      omega
    · rw [htake, e1, e2]
      exact List.take_left
  · have hn : ¬ (xs.length + m ≤ cap) := hroom
    have h63' : ¬ (9223372036854775807 < ((xs.length : Int) + (m : Int))) := by omega
    have hnx : Builtin.nextslicecap (xs.length + m) cap ≤ 100000 := by
      unfold Builtin.nextslicecap
      split
      · omega
      · rename_i h1
        split
        · omega
        · simp only [Builtin.growBy]
          repeat' split
          all_goals omega
    have hge := grownCap_ge w (xs.length + m) cap 5
    have hcm' : grownCap w (xs.length + m) cap 5 ≤ maxLen := grownCap_le_maxLen w (xs.length + m) cap 5 (by unfold maxLen; omega)
    have hf := run_firstCells_some (P := Tryz.prog) w.drew 1 xs.length ⟨g, 0, none⟩ xs.length cap (byts xs) (by simp) (fun j u hj => by
      have hjl : j < xs.length := by simpa using (List.getElem?_eq_some_iff.1 hj).1
      rw [Go.WideShapes.add_plain, Nat.zero_add]
      have := h.cell j hjl
      rw [getD_byts xs j hjl] at hj
      rw [← hj]
      exact this)
    have hrun : (Builtin.append_ #[22, 3] ty #[.slice (some ⟨g, 0, none⟩) xs.length cap, .int .i64 m]).run Tryz.prog w = .ok (.slice (some ⟨w.heap.size, 0, none⟩) (xs.length + m) (grownCap w (xs.length + m) cap 5)) (w.drew.alloc (.cells ((byts xs).toArray ++ (Builtin.zeroCells (Value.int .u8 0).cells m) ++ Builtin.zeroCells (Value.int .u8 0).cells (grownCap w (xs.length + m) cap 5 - (xs.length + m))) 5)) := by
      simp [Builtin.append_, run_underlying hu, run_underlying hun, sizeOf, typeInfo, zeroValue, hi, hz0, hz1, hz2, hw, hneg, h48, hm0, hn, h63', Question.forced, hf, newRow, grownCap, asInt, asIntOf]
      exact fun hx => absurd hx (by omega)
    refine ⟨w.heap.size, _, _, hrun, ?_, ⟨rfl, rfl, rfl, by simp, fun k hk _ => heap_alloc_old w.drew _ hk⟩⟩
    unfold OwnV
    rw [hlen]
    refine ⟨by simp, .inr ⟨w.heap.size, _, _, rfl, hB, heap_alloc_new w.drew _, hge, hcm', ?_, ?_⟩⟩
    · simp only [Array.size_append, List.size_toArray, size_zeroCells, byts, List.length_map]
      show _ + m * 1 + _ * 1 = _
      omega
    · simp only [Array.toList_append, zeros_list]
      rw [e1, e2]
      exact List.take_left
theorem wp_zeros {ops : Array Oper} {rest : List Oper} {o : Oper} {a : Act} {Q : Exit → Act → World → Prop} (w : World) (hgd : o.guard = none) (s x : Operand)
    (ho : o.op = .call { callee := .builtin .append, args := #[s, x], argTypes := #[22, 3] }) (B g cap : Nat) (xs : List Int) (n m : Nat) (hn : xs.length = n) (hs : a.eval s = .slice (some ⟨g, 0, none⟩) n cap) (hown : Own w B g cap xs)
    (hx : a.eval x = .int .i64 m) (h0 : 0 < m) (hm : m ≤ 1000) (hl : xs.length ≤ 1000) (hB : B ≤ w.heap.size)
    (h : ∀ g' cap' w', OwnV w' B (.slice (some ⟨g', 0, none⟩) (n + m) cap') (xs ++ List.replicate m 0) → w.grownBy w' (some g) → wpList Tryz.prog ops Q rest (a.put o.dst (.slice (some ⟨g', 0, none⟩) (n + m) cap')) w') :
    wpList Tryz.prog ops Q (o :: rest) a w := by
  subst hn
  obtain ⟨g', cap', w', hr, h1, h2⟩ := run_zeros w hown m h0 hm hl hB o.type
  refine wpList_plain hgd fun _ hK => ?_
  unfold Oper.wp execOp
  simp only [ho, resolve, invoke, builtin, Sem.run_bind, Sem.run_pure, Result.andThen_ok, List.map_toArray, List.map_cons, List.map_nil, hs, hx, hr]
  exact hK _ _ (h g' cap' w' h1 h2)
/-- rows of unlike types lie apart -/
theorem rows_ap {T T' : TypeId} {z z' B B' n n' : Nat} {v v' : Value} {vs vs' : List Value} {w : World} (h : w.ownsRow B T z v n vs) (h' : w.ownsRow B' T' z' v' n' vs') (hT : T ≠ T') : ∀ g, v.ownBlock = some g → v'.ownBlock ≠ some g := fun g h1 h2 => by
  rcases h.2 with ⟨e1, _⟩ | ⟨a, cap, cur, e1, _, e3, _⟩
  · rw [e1] at h1; cases h1
  · rcases h'.2 with ⟨e1', _⟩ | ⟨a', cap', cur', e1', _, e3', _⟩
    · rw [e1'] at h2; cases h2
    · rw [e1] at h1
      rw [e1'] at h2
      have h1' : some a = some g := h1
      have h2' : some a' = some g := h2
      injection h1' with h1'
      injection h2' with h2'
      subst h1' h2'
      rw [e3] at e3'
      injection e3' with e3'
      injection e3' with _ e3' _
      exact hT e3'
theorem Blk.rowStay {T : TypeId} {z B n g : Nat} {v : Value} {vs : List Value} {w w' : World} {Tg : TypeId} {c : Array Value} (hb : Blk w g Tg c) (h : w.ownsRow B T z v n vs) (hg : w.grownBy w' v.ownBlock) (hlt : g < B) : Blk w' g Tg c :=
  hb.kept hg (fun e => by have := (World.ownsRow.lt h g e.symm).1; omega)
/-- Program's image and lists, behind wA: the units' block is made first, then the image's -/
structure PM (wA w : World) (vB vK v10 v11 : Value) (bs : List Int) (ss : List ByteArray) (S : List Z3) (ks : List Int) : Prop where
  mb : Blk w (wA.heap.size + 1) 27 #[vB, vK, .slice none 0 0, .slice (some ⟨wA.heap.size, 0, none⟩) 1 1]
  un : Blk w wA.heap.size 3 #[.int .i64 0]
  by_ : OwnV w (wA.heap.size + 2) vB bs
  kk : GOwnV 9 w (wA.heap.size + 2) vK (ss.map Value.string)
  st : TOwn 68 w (wA.heap.size + 2) v10 (S.map z3V)
  ky : GOwnV 3 w (wA.heap.size + 2) v11 (numZ ks)
  bel : Below wA.heap.size wA w
section
variable {wA w w' : World} {vB vK v10 v11 v' : Value} {bs bs' : List Int} {ss ss' : List ByteArray} {S S' : List Z3} {ks ks' : List Int}
theorem PM.below (h : PM wA w vB vK v10 v11 bs ss S ks) (hb : Below w.heap.size w w') : PM wA w' vB vK v10 v11 bs ss S ks :=
  ⟨h.mb.grow hb, h.un.grow hb, h.by_.below hb, h.kk.below hb, h.st.below hb, h.ky.below hb, below_step h.bel hb⟩
theorem PM.size (h : PM wA w vB vK v10 v11 bs ss S ks) : wA.heap.size + 2 ≤ w.heap.size := h.mb.lt
/-- bytes are appended -/
theorem PM.bytes (h : PM wA w vB vK v10 v11 bs ss S ks) (ho : OwnV w' (wA.heap.size + 2) v' bs') (hg : w.grownBy w' vB.ownBlock) : PM wA (w'.setCell ⟨wA.heap.size + 1, 0, none⟩ v') v' vK v10 v11 bs' ss S ks := by
  have hm := h.mb.rowStay h.by_ hg (by omega)
  have hu := h.un.rowStay h.by_ hg (by omega)
  have hs := grown_setCell w' (wA.heap.size + 1) 0 v'
  have far : ∀ {T : TypeId} {z n : Nat} {v : Value} {vs : List Value}, w'.ownsRow (wA.heap.size + 2) T z v n vs → ∀ g, v.ownBlock = some g → some (wA.heap.size + 1) ≠ some g := fun hr g e e' => by
    have := (World.ownsRow.lt hr g e).1
    injection e' with e'
    omega
  have k1 : GOwnV 9 w' (wA.heap.size + 2) vK (ss.map Value.string) := row_stay h.kk hg (fun g e => rows_ap h.kk h.by_ (by decide) g e)
  have k2 : TOwn 68 w' (wA.heap.size + 2) v10 (S.map z3V) := row_stay h.st hg (fun g e => rows_ap h.st h.by_ (by decide) g e)
  have k3 : GOwnV 3 w' (wA.heap.size + 2) v11 (numZ ks) := row_stay h.ky hg (fun g e => rows_ap h.ky h.by_ (by decide) g e)
  exact ⟨hm.set 0 v', hu.other (by omega) 0 v', row_stay ho hs (far ho), row_stay k1 hs (far k1), row_stay k2 hs (far k2), row_stay k3 hs (far k3),
    (h.bel.grown hg h.bel.size fun k hk => by have := (World.ownsRow.lt h.by_ k hk).1; omega).grown hs (Nat.le_trans h.bel.size hg.size) fun k hk => by injection hk with hk; omega⟩
/-- a key's text is appended -/
theorem PM.text (h : PM wA w vB vK v10 v11 bs ss S ks) (ho : GOwnV 9 w' (wA.heap.size + 2) v' (ss'.map Value.string)) (hg : w.grownBy w' vK.ownBlock) : PM wA (w'.setCell ⟨wA.heap.size + 1, 1, none⟩ v') vB v' v10 v11 bs ss' S ks := by
  have hm := h.mb.rowStay h.kk hg (by omega)
  have hu := h.un.rowStay h.kk hg (by omega)
  have hs := grown_setCell w' (wA.heap.size + 1) 1 v'
  have far : ∀ {T : TypeId} {z n : Nat} {v : Value} {vs : List Value}, w'.ownsRow (wA.heap.size + 2) T z v n vs → ∀ g, v.ownBlock = some g → some (wA.heap.size + 1) ≠ some g := fun hr g e e' => by
    have := (World.ownsRow.lt hr g e).1
    injection e' with e'
    omega
  have k1 : OwnV w' (wA.heap.size + 2) vB bs := row_stay h.by_ hg (fun g e => rows_ap h.by_ h.kk (by decide) g e)
  have k2 : TOwn 68 w' (wA.heap.size + 2) v10 (S.map z3V) := row_stay h.st hg (fun g e => rows_ap h.st h.kk (by decide) g e)
  have k3 : GOwnV 3 w' (wA.heap.size + 2) v11 (numZ ks) := row_stay h.ky hg (fun g e => rows_ap h.ky h.kk (by decide) g e)
  exact ⟨hm.set 1 v', hu.other (by omega) 1 v', row_stay k1 hs (far k1), row_stay ho hs (far ho), row_stay k2 hs (far k2), row_stay k3 hs (far k3),
    (h.bel.grown hg h.bel.size fun k hk => by have := (World.ownsRow.lt h.kk k hk).1; omega).grown hs (Nat.le_trans h.bel.size hg.size) fun k hk => by injection hk with hk; omega⟩
/-- a number is appended to the keys' -/
theorem PM.key (h : PM wA w vB vK v10 v11 bs ss S ks) (ho : GOwnV 3 w' (wA.heap.size + 2) v' (numZ ks')) (hg : w.grownBy w' v11.ownBlock) : PM wA w' vB vK v10 v' bs ss S ks' :=
  ⟨h.mb.rowStay h.ky hg (by omega), h.un.rowStay h.ky hg (by omega), row_stay h.by_ hg (fun g e => rows_ap h.by_ h.ky (by decide) g e), row_stay h.kk hg (fun g e => rows_ap h.kk h.ky (by decide) g e), row_stay h.st hg (fun g e => rows_ap h.st h.ky (by decide) g e), ho,
    h.bel.grown hg h.bel.size fun k hk => by have := (World.ownsRow.lt h.ky k hk).1; omega⟩
/-- a site is appended, or one is turned -/
theorem PM.site (h : PM wA w vB vK v10 v11 bs ss S ks) (ho : TOwn 68 w' (wA.heap.size + 2) v' (S'.map z3V)) (hg : w.grownBy w' v10.ownBlock) : PM wA w' vB vK v' v11 bs ss S' ks :=
  ⟨h.mb.rowStay h.st hg (by omega), h.un.rowStay h.st hg (by omega), row_stay h.by_ hg (fun g e => rows_ap h.by_ h.st (by decide) g e), row_stay h.kk hg (fun g e => rows_ap h.kk h.st (by decide) g e), ho, row_stay h.ky hg (fun g e => rows_ap h.ky h.st (by decide) g e),
    h.bel.grown hg h.bel.size fun k hk => by have := (World.ownsRow.lt h.st k hk).1; omega⟩
end
/-- kinds and places, as they are gathered -/
def kdI (l : List Int) (i : Nat) : List Int := ((kindL l).take i).map fun k : Nat => (k : Int)
def plI (l : List Int) (i : Nat) : List Int := (List.range i).map fun j => ((plcK (kindL l) j : Nat) : Int)
theorem kdI_succ {l : List Int} {i : Nat} (h : i < l.length) : kdI l (i + 1) = kdI l i ++ [((pickZ (l.getD i 0) 16 : Nat) : Int)] := by
  have h' : i < (kindL l).length := by rw [kindL_len]; exact h
  unfold kdI
  rw [List.take_succ_eq_append_getElem h', List.map_append, List.map_cons, List.map_nil, ← kindL_at l i h]
  simp [List.getD, List.getElem?_eq_getElem h']
theorem plI_succ (l : List Int) (i : Nat) : plI l (i + 1) = plI l i ++ [((plcK (kindL l) i : Nat) : Int)] := by
  unfold plI
  rw [List.range_succ, List.map_append, List.map_cons, List.map_nil]
theorem kdI_len (l : List Int) {i : Nat} (h : i ≤ l.length) : (kdI l i).length = i := by
  unfold kdI
  rw [List.length_map, List.length_take, kindL_len]
  omega
theorem plI_len (l : List Int) (i : Nat) : (plI l i).length = i := by simp [plI]
theorem kdI_at {l : List Int} {i n : Nat} (h : i < n) (hn : n ≤ l.length) : (kdI l n).getD i 0 = (((kindL l).getD i 0 : Nat) : Int) := by
  have h' : i < (kindL l).length := by rw [kindL_len]; omega
  simp [kdI, List.getD, List.getElem?_take_of_lt h, List.getElem?_eq_getElem h']
theorem plI_at {l : List Int} {i n : Nat} (h : i < n) : (plI l n).getD i 0 = ((plcK (kindL l) i : Nat) : Int) := by
  simp [plI, List.getD, h]
theorem rawI_len (l : List Int) (j : Nat) : (rawI l j).length = (keysP l j).length := by rw [rawI, List.length_map, (keysP_len l j).1]
theorem site_step {l : List Int} {j : Nat} (h : (kindL l).getD j 0 < 5) : keysP l (j + 1) = keysP l j ++ [((numP l j : Nat) : Int)] ∧ rawI l (j + 1) = rawI l j ++ [(0, ((plcK (kindL l) j : Nat) : Int), ((tgtP l j : Nat) : Int))] ∧ bodyP l (j + 1) = bodyP l j ++ quietL := by
  refine ⟨by rw [keysP, if_pos h], ?_, by rw [bodyP, pieceP, if_pos h]⟩
  unfold rawI
  rw [sitesP, if_pos h, List.map_append]
  rfl
theorem code_step {l : List Int} {j : Nat} (h : ¬ (kindL l).getD j 0 < 5) : keysP l (j + 1) = keysP l j ∧ rawI l (j + 1) = rawI l j ∧ bodyP l (j + 1) = bodyP l j ++ codeL ((kindL l).getD j 0) (numP l j : Nat) (plcK (kindL l) j : Nat) (tgtP l j : Nat) (roomN (plcK (kindL l) l.length) : Nat) := by
  refine ⟨by rw [keysP, if_neg h], ?_, by rw [bodyP, pieceP, if_neg h]⟩
  unfold rawI
  rw [sitesP, if_neg h]
theorem c3_set1 : ∀ (L : List Z3) (i : Nat) (k : Int), i < L.length → (c3 (L.map z3V)).set (i * 3) (.int .i64 k) = c3 ((L.set i (k, (L.getD i (0, 0, 0)).2)).map z3V)
  | x :: L, 0, k, _ => rfl
  | x :: L, i + 1, k, h => by
    have ih := c3_set1 L i k (by simpa using h)
    have h3 : (l3 (z3V x)).length = 3 := rfl
    show (l3 (z3V x) ++ c3 (L.map z3V)).set ((i + 1) * 3) (.int .i64 k) = l3 (z3V x) ++ c3 ((L.set i (k, (L.getD i (0, 0, 0)).2)).map z3V)
    rw [List.set_append_right _ _ (by rw [h3]; omega), h3, show (i + 1) * 3 - 3 = i * 3 by omega, ih]
/-- a site's key is turned -/
theorem TOwn.set1 {T : TypeId} {w : World} {B g n c : Nat} {L : List Z3} (h : TOwn T w B (.slice (some ⟨g, 0, none⟩) n c) (L.map z3V)) {x : Nat} (hx : x < L.length) (k : Int) : TOwn T (w.setCell ⟨g, x * 3, none⟩ (.int .i64 k)) B (.slice (some ⟨g, 0, none⟩) n c) ((L.set x (k, (L.getD x (0, 0, 0)).2)).map z3V) ∧ w.grownBy (w.setCell ⟨g, x * 3, none⟩ (.int .i64 k)) (some g) := by
  have h0 : w.ownsRow B T 3 (.slice (some ⟨g, 0, none⟩) n c) (L.map z3V).length (c3 (L.map z3V)) := h
  have hn : n = (L.map z3V).length := by
    obtain ⟨p, cc, e, -⟩ := h.shape
    injection e
  subst hn
  have h1 := World.ownsRow.stored h0 (x * 3) (.int .i64 k)
  refine ⟨?_, h1.2⟩
  have h2 := h1.1
  rw [c3_set1 _ x _ hx] at h2
  unfold TOwn
  have e : ((L.set x (k, (L.getD x (0, 0, 0)).2)).map z3V).length = (L.map z3V).length := by rw [List.length_map, List.length_set, List.length_map]
  rw [e]
  exact h2
/-- the keys' texts -/
def txtP (k : Nat) : List ByteArray := (List.range k).map fun j : Nat => strOfNums [97 + (j : Int)]
theorem txtP_succ (k : Nat) : txtP (k + 1) = txtP k ++ [strOfNums [97 + (k : Int)]] := by
  unfold txtP
  rw [List.range_succ, List.map_append, List.map_cons, List.map_nil]
theorem txtP_len (k : Nat) : (txtP k).length = k := by simp [txtP]
theorem Tryz.elemT : Elem 23 9 16 := ⟨Tryz.underlying23, .string ByteArray.empty, rfl, by kernel_rfl⟩
theorem plc_step16 (l : List Int) (i : Nat) (h : i < l.length) : plcK (kindL l) (i + 1) = plcK (kindL l) i + lenK (pickZ (l.getD i 0) 16) := by rw [plc_step l i h, kindL_at l i h]
end Go.Proofs.YtgblohjdiheemaaGreat
