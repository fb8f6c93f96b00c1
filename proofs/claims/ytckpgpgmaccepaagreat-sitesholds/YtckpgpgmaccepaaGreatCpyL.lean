/- Lists of units that a call has made; switchyardkit.CopyObjects. -/
import Derived.Test.YtckpgpgmaccepaaGreatCpyU
import Derived.Test.YtckpgpgmaccepaaGreatHvyW
namespace Go.Proofs.YtckpgpgmaccepaaGreat
open Go.RowKit

abbrev V4 : Type := Value × Value × Value × Value
def l4 (q : V4) : List Value := [q.1, q.2.1, q.2.2.1, q.2.2.2]
/-- the cells of a list of such elements -/
def c4 (L : List V4) : List Value := L.flatMap l4
theorem c4_len (L : List V4) : (c4 L).length = L.length * 4 := by
  induction L with
  | nil => rfl
  | cons q L ih =>
    unfold c4 at *
    rw [List.flatMap_cons, List.length_append, ih, List.length_cons]
    have : (l4 q).length = 4 := rfl
    omega
theorem c4_two (L M : List V4) : c4 (L ++ M) = c4 L ++ c4 M := by simp [c4]
theorem c4_at : ∀ (L : List V4) (i : Nat) (h : i < L.length) (j : Nat), j < 4 → (c4 L)[i * 4 + j]? = (l4 L[i])[j]?
  | [], i, h, _, _ => absurd h (by simp)
  | q :: L, 0, _, j, hj => by
    unfold c4
    rw [List.flatMap_cons, Nat.zero_mul, Nat.zero_add, List.getElem?_append_left (by show j < 4; exact hj)]
    rfl
  | q :: L, i + 1, h, j, hj => by
    have h' : i < L.length := by simpa using h
    have ih := c4_at L i h' j hj
    unfold c4 at *
    have h3 : (l4 q).length = 4 := rfl
    rw [List.flatMap_cons, List.getElem?_append_right (by rw [h3]; omega), h3, show (i + 1) * 4 + j - 4 = i * 4 + j by omega, ih]
    rfl
/-- a row of units, nil or not -/
def QOwn (w : World) (B : Nat) (v : Value) (L : List V4) : Prop := w.ownsRow B 56 4 v L.length (c4 L)
theorem QOwn.nil (w : World) (B : Nat) : QOwn w B (.slice none 0 0) [] := World.ownsRow_nil _ _ _ _
theorem QOwn.below {w w' : World} {B : Nat} {v : Value} {L : List V4} (h : QOwn w B v L) (hb : Below w.heap.size w w') : QOwn w' B v L := by
  obtain ⟨h0, h1⟩ := h
  refine ⟨h0, h1.imp id ?_⟩
  rintro ⟨g, cap, cur, e1, e2, e3, e4⟩
  exact ⟨g, cap, cur, e1, e2, (hb.block g (Array.getElem?_eq_some_iff.1 e3).1).trans e3, e4⟩
theorem QOwn.shape {w : World} {B : Nat} {v : Value} {L : List V4} (h : QOwn w B v L) : ∃ p cap, v = .slice p L.length cap ∧ L.length ≤ cap ∧ cap ≤ maxLen ∧ (0 < L.length → ∃ g, p = some ⟨g, 0, none⟩ ∧ B ≤ g ∧ g < w.heap.size ∧ ∀ i (hi : i < L.length) j, j < 4 → w.cell? ⟨g, i * 4 + j, none⟩ = (l4 L[i])[j]?) := by
  rcases h.2 with ⟨e1, e2⟩ | ⟨g, cap, cur, e1, e2, e3, e4, e5, _⟩
  · exact ⟨none, 0, by rw [e1, e2], by omega, Nat.zero_le _, fun h0 => by omega⟩
  · refine ⟨_, cap, e1, e4, e5, fun _ => ⟨g, rfl, e2, (Array.getElem?_eq_some_iff.1 e3).1, fun i hi j hj => ?_⟩⟩
    have hr : w.ownsRow B 56 4 v L.length (c4 L) := h
    rw [e1] at hr
    rw [hr.cellAt (i * 4 + j) (by omega), c4_at L i hi j hj]
def one4 (q : V4) : Prop := q.1.oneCell' = true ∧ q.2.1.oneCell' = true ∧ q.2.2.1.oneCell' = true ∧ q.2.2.2.oneCell' = true
theorem one4_mem {q : V4} (h : one4 q) : ∀ u ∈ l4 q, u.oneCell' = true := by
  intro u hu
  simp only [l4, List.mem_cons, List.not_mem_nil, or_false] at hu
  rcases hu with rfl | rfl | rfl | rfl
  · exact h.1
  · exact h.2.1
  · exact h.2.2.1
  · exact h.2.2.2
theorem news4 (w : World) (q : V4) (T : TypeId) : ∀ j u, (l4 q)[j]? = some u → (w.alloc (.cells #[q.1, q.2.1, q.2.2.1, q.2.2.2] T)).cell? ((⟨w.heap.size, 0, none⟩ : Addr).add j) = some u := by
  intro j u hj
  rw [Go.WideShapes.add_plain]
  match j, hj with
  | 0, hj => simpa [l4] using hj
  | 1, hj => simpa [l4] using hj
  | 2, hj => simpa [l4] using hj
  | 3, hj => simpa [l4] using hj
  | j + 4, hj => simp [l4] at hj
theorem Tryz.elemOb : Tryz.prog.underlying 22 = some (.slice 56) ∧ ∃ z, z.cells.size = 4 ∧ (Tryz.prog.info? 56).map (fun i => (i.zero, i.size, i.bytes)) = some (some z, 4, 96) := ⟨Tryz.underlying22, .agg noObj, rfl, by kernel_rfl⟩

/-- 'append(l, x)' -/
theorem qpush {ops : Array Oper} {rest : List Oper} {o : Oper} {a : Act} {Q : Exit → Act → World → Prop} (w : World) (hgd : o.guard = none) (s x : Operand)
    (ho : o.op = .call { callee := .builtin .append, args := #[s, x], argTypes := #[22, 22] }) (B : Nat) (v : Value) (L : List V4) (hs : a.eval s = v) (hown : QOwn w B v L)
    (ad : Addr) (c : Nat) (q : V4) (hq : one4 q) (hx : a.eval x = .slice (some ad) 1 c) (hnews : ∀ j u, (l4 q)[j]? = some u → w.cell? (ad.add j) = some u)
    (hby : (L.length + 1) * 96 ≤ 140737488355328) (hB : B ≤ w.heap.size)
    (h : ∀ v' w', QOwn w' B v' (L ++ [q]) → w.grownBy w' v.ownBlock → (∀ w0, Below B w0 w → Below B w0 w') → wpList Tryz.prog ops Q rest (a.put o.dst v') w') :
    wpList Tryz.prog ops Q (o :: rest) a w := by
  obtain ⟨hu, z, hzc, hinfo⟩ := Tryz.elemOb
  obtain ⟨i0, hi, hz0, hz1, hz2⟩ := info_parts hinfo
  refine wpList_append_own w hgd s x 22 ho B 56 i0 z 4 96 hu hi hz0 hz1 hz2 hzc (by decide) v L.length (c4 L) hs hown ad 1 c (l4 q) hx rfl hnews (one4_mem hq) (by unfold maxLen; omega) hby hB ?_
  intro v' w' h2 h3 _
  refine h v' w' ?_ h3 (fun w0 hb => hb.grown h3 hB fun k hk => (World.ownsRow.lt hown k hk).1)
  unfold QOwn
  rw [List.length_append, c4_two]
  have e : c4 [q] = l4 q := by simp [c4]
  rw [e]
  exact h2

/-- a list of units that a call has made, with all their lists -/
def UOwn (w : World) (B : Nat) (v : Value) (xs : List Ob) : Prop :=
  ∃ L : List V4, L.length = xs.length ∧ QOwn w B v L ∧ ∀ i (h : i < xs.length), ObF xs[i] ∧ ∃ q, L[i]? = some q ∧ ObOwn w B xs[i] q.1 q.2.1 q.2.2.1 q.2.2.2
theorem UOwn.nil (w : World) (B : Nat) : UOwn w B (.slice none 0 0) [] := ⟨[], rfl, QOwn.nil _ _, fun i h => absurd h (by simp)⟩
theorem UOwn.below {w w' : World} {B : Nat} {v : Value} {xs : List Ob} (h : UOwn w B v xs) (hb : Below w.heap.size w w') : UOwn w' B v xs := by
  obtain ⟨L, h1, h2, h3⟩ := h
  refine ⟨L, h1, h2.below hb, fun i hi => ?_⟩
  obtain ⟨hf, q, hq, ho⟩ := h3 i hi
  exact ⟨hf, q, hq, ho.below hb⟩
theorem UOwn.slice {w : World} {B : Nat} {v : Value} {xs : List Ob} (h : UOwn w B v xs) : ∃ p c, v = .slice p xs.length c ∧ xs.length ≤ c ∧ c ≤ maxLen ∧ Units w p xs := by
  obtain ⟨L, h1, h2, h3⟩ := h
  obtain ⟨p, cap, e1, e2, e3, e4⟩ := h2.shape
  refine ⟨p, cap, by rw [e1, h1], by omega, e3, fun h0 => ?_⟩
  obtain ⟨g, hp, -, -, hc⟩ := e4 (by omega)
  refine ⟨g, 0, hp, fun i hi => ?_⟩
  obtain ⟨hf, q, hq, ho⟩ := h3 i hi
  have hiL : i < L.length := by omega
  obtain rfl : L[i] = q := by rw [List.getElem?_eq_getElem hiL] at hq; exact Option.some.inj hq
  obtain ⟨pb, ps, pf, pm, cb, cs, cf, cm, ⟨k1, k2, k3, k4⟩, hI⟩ := ho.inn hf
  have c0 := hc i hiL 0 (by decide)
  have c1 := hc i hiL 1 (by decide)
  have c2 := hc i hiL 2 (by decide)
  have c3 := hc i hiL 3 (by decide)
  have d0 : w.cell? ⟨g, i * 4 + 0, none⟩ = some L[i].1 := c0
  have d1 : w.cell? ⟨g, i * 4 + 1, none⟩ = some L[i].2.1 := c1
  have d2 : w.cell? ⟨g, i * 4 + 2, none⟩ = some L[i].2.2.1 := c2
  have d3 : w.cell? ⟨g, i * 4 + 3, none⟩ = some L[i].2.2.2 := c3
  rw [k1] at d0
  rw [k2] at d1
  rw [k3] at d2
  rw [k4] at d3
  refine ⟨pb, ps, pf, pm, cb, cs, cf, cm, ⟨?_, ?_, ?_, ?_⟩, hI⟩
  · rw [Nat.zero_add]; exact d0
  · rw [Nat.zero_add]; exact d1
  · rw [Nat.zero_add]; exact d2
  · rw [Nat.zero_add]; exact d3
/-- a unit's lists stay where a row of units grows -/
theorem ObOwn.keptU {w w' : World} {B B' n : Nat} {o : Ob} {vb vs vf vm v : Value} {xs : List Value} (h : ObOwn w B o vb vs vf vm) (hv : w.ownsRow B' 56 4 v n xs) (hg : w.grownBy w' v.ownBlock) : ObOwn w' B o vb vs vf vm :=
  ⟨kept_row h.b hg (rows_apart h.b hv (by decide)), kept_row h.s hg (rows_apart h.s hv (by decide)), kept_row h.f hg (rows_apart h.f hv (by decide)), kept_row h.m hg (rows_apart h.m hv (by decide))⟩
theorem UOwn.grown {w w' : World} {B : Nat} {v v' : Value} {xs : List Ob} {L : List V4} {x : Ob} {q : V4} (h1 : L.length = xs.length) (h2 : QOwn w B v L) (h3 : ∀ i (h : i < xs.length), ObF xs[i] ∧ ∃ q, L[i]? = some q ∧ ObOwn w B xs[i] q.1 q.2.1 q.2.2.1 q.2.2.2)
    (hx : ObOwn w B x q.1 q.2.1 q.2.2.1 q.2.2.2) (hf : ObF x) (hq : QOwn w' B v' (L ++ [q])) (hg : w.grownBy w' v.ownBlock) : UOwn w' B v' (xs ++ [x]) := by
  refine ⟨L ++ [q], by simp [h1], hq, fun i hi => ?_⟩
  by_cases hin : i < xs.length
  · obtain ⟨hfi, q', hq', ho⟩ := h3 i hin
    rw [List.getElem_append_left hin]
    exact ⟨hfi, q', by rw [List.getElem?_append_left (by omega)]; exact hq', ho.keptU h2 hg⟩
  · have e : i = xs.length := by simp at hi; omega
    subst e
    rw [List.getElem_append_right (Nat.le_refl _)]
    simp only [Nat.sub_self, List.getElem_cons_zero]
    exact ⟨hf, q, by rw [List.getElem?_append_right (by omega), h1]; simp, hx.keptU h2 hg⟩

set_option maxRecDepth 20000 in
set_option maxHeartbeats 4000000 in
theorem copyObjects_any (p : Option Addr) (n c : Nat) (xs : List Ob) (w : World) (hn : xs.length = n) (hn96 : n * 96 ≤ 140737488351232) (hx : Units w p xs) (hW : ∀ x ∈ xs, ObW x) :
    Calls Tryz.prog 6 #[.slice p n c] w fun E w' => ∃ v, E = .returned v ∧ UOwn w' w.heap.size v xs ∧ Below w.heap.size w w' := by
  have HX := Hid.in hx
  have HN := Hid.in hn
  have HW := Hid.in hW
  clear hx hn hW
  go_enter Tryz.func6, Tryz.ntmps6
  go_wp2_with fail
  go_loopw [3, 4] (fun v vi wr => ∃ k : Nat, vi = .int .i64 k ∧ k ≤ n ∧ UOwn wr w.heap.size v (xs.take k) ∧ Below w.heap.size w wr) (fun _ vi _ => n - (intOf vi).toNat)
  case atStart => exact ⟨0, rfl, Nat.zero_le _, by rw [List.take_zero]; exact UOwn.nil _ _, below_self _⟩
  case round =>
    obtain ⟨k, rfl, hk, hT, hb⟩ := hrel
    have HB := Hid.in hb
    have HT := Hid.in hT
    have hlen : (xs.take k).length = k := by rw [List.length_take, HN.out]; omega
    obtain ⟨pv, cv, hv, -, -, -⟩ := hT.slice
    rw [hlen] at hv
    subst hv
    clear hT hb
    by_cases hlt : k < n
    · have hkl : k < xs.length := by rw [HN.out]; exact hlt
      obtain ⟨b, o, hp, hc⟩ := HX.out.below HB.out (by omega)
      obtain ⟨pb, ps, pf, pm, cb, cs, cf, cm, ⟨c0, c1, c2, c3⟩, hI⟩ := hc k hkl
      subst hp
      obtain ⟨w1, w2, w3, w4⟩ := HW.out xs[k] (List.getElem_mem hkl)
      have HTK : Hid (xs.take (k + 1) = xs.take k ++ [xs[k]]) := by
        have h : xs.take (k + 1) = xs.take k ++ [xs[k]] := List.take_succ_eq_append_getElem hkl
        exact h
      have HFX := Hid.in hI.fit
      have hC := copyObjectV_any xs[k] pb ps pf pm _ cb _ cs _ cf _ cm wr hI w1 w2 w3 w4
      have HLEN := Hid.in hlen
      clear hc hI w1 w2 w3 w4 hlen
      generalize xs[k] = x at *
      go_wp2_with (first
        | (go_at_call 25; refine hC.mono ?_; rintro E w2 ⟨⟨vb, vs, vf, vm, rfl, ho2⟩, hb2⟩; obtain ⟨pb2, ps2, pf2, pm2, cb2, cs2, cf2, cm2, ⟨rfl, rfl, rfl, rfl⟩, hI2⟩ := ho2.inn HFX.out; have HO2 := Hid.in ho2; have HD2 := Hid.in hb2; have HB2 := Hid.in (below_step HB.out hb2); obtain ⟨L, hL1, hL2, hL3⟩ := HT.out.below hb2; have HL1 := Hid.in hL1; have HL2 := Hid.in hL2; have HL3 := Hid.in hL3; clear hI2 ho2 hb2 hL1 hL2 hL3)
        | (refine qpush _ rfl _ _ rfl w.heap.size _ L rfl (HL2.out.below (new_alloc _ _)) ⟨w2.heap.size, 0, none⟩ 1 (.slice pb2 x.bs.length cb2, .slice ps2 x.sy.length cs2, .slice pf2 x.fx.length cf2, .slice pm2 x.mk_.length cm2) ⟨rfl, rfl, rfl, rfl⟩ rfl (news4 _ _ _) (by have := HL1.out; have := HLEN.out; omega) (by have := HB2.out.size; simp; omega) ?_; intro v5 w5 hT5 hg5 hb5; have HU5 := Hid.in (UOwn.grown HL1.out (HL2.out.below (new_alloc w2 (.cells #[.slice pb2 x.bs.length cb2, .slice ps2 x.sy.length cs2, .slice pf2 x.fx.length cf2, .slice pm2 x.mk_.length cm2] 56))) (fun i hi => ⟨(HL3.out i hi).1, (HL3.out i hi).2.choose, (HL3.out i hi).2.choose_spec.1, (HL3.out i hi).2.choose_spec.2.below (new_alloc w2 _)⟩) ((HO2.out.lower HB.out.size).below (new_alloc w2 _)) HFX.out hT5 hg5); have HB5 := Hid.in (hb5 w (below_alloc HB2.out _)); clear hT5 hg5 hb5))
      go_roundw
      case rel => exact ⟨k + 1, by go_num, by omega, by rw [HTK.out]; exact HU5.out, HB5.out⟩
      case measure => simp [intOf]; omega
    · obtain rfl : k = n := by omega
      have HR : Hid (xs.take k = xs) := by
        have h : xs.take k = xs := List.take_of_length_le (by rw [HN.out]; exact Nat.le_refl _)
        exact h
      rw [HR.out] at HT
      go_wp2_with fail
      go_ret
      exact ⟨_, rfl, HT.out, HB.out⟩

end Go.Proofs.YtckpgpgmaccepaaGreat
