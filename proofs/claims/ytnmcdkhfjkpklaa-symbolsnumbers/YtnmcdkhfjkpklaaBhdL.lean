/- One unit more behind a list of units that a call has made; beginnings of rows. -/
import Derived.Test.YtnmcdkhfjkpklaaCpyL
import Derived.Test.YtnmcdkhfjkpklaaOpenU
namespace Go.Proofs.Ytnmcdkhfjkpklaa
open Go.ChangeShapes Go.WideShapes Go.ChangeAt Go.RowKit

/-- 'append(l, x)' in a region that draws -/
theorem step_qpush {ops : Array Oper} {o : Oper} {a : Act} {K : Act → World → Prop} {Q : Exit → Act → World → Prop} {E : Prop} (w : World) (hgd : o.guard = none) (s x : Operand)
    (ho : o.op = .call { callee := .builtin .append, args := #[s, x], argTypes := #[27, 27] }) (B : Nat) (v : Value) (L : List V4) (hs : a.eval s = v) (hown : QOwn w B v L)
    (ad : Addr) (c : Nat) (q : V4) (hq : one4 q) (hx : a.eval x = .slice (some ad) 1 c) (hnews : ∀ j u, (l4 q)[j]? = some u → w.cell? (ad.add j) = some u)
    (hby : (L.length + 1) * 96 ≤ 140737488355328) (hB : B ≤ w.heap.size)
    (h : ∀ g cap w', QOwn w' B (.slice (some ⟨g, 0, none⟩) (L.length + 1) cap) (L ++ [q]) → w.grownBy w' v.ownBlock → (∀ w0, Below B w0 w → Below B w0 w') → K (a.put o.dst (.slice (some ⟨g, 0, none⟩) (L.length + 1) cap)) w') :
    if Region.wanted o (yielded ops a.tmps) = true then Oper.wp Try.prog o a w K Q else E := by
  obtain ⟨hu, z, hzc, hinfo⟩ := Try.elemOb
  obtain ⟨i0, hi, hz0, hz1, hz2⟩ := info_parts hinfo
  refine step_append_lies w hgd s x 27 ho B 39 i0 z 4 96 hu hi hz0 hz1 hz2 hzc (by decide) v L.length (c4 L) hs hown ad 1 c (l4 q) hx rfl hnews (one4_mem hq) (by decide) (by unfold maxLen; omega) hby hB w.heap.size rfl ?_
  intro g cap w' h2 h3 _ _
  refine h g cap w' ?_ h3 (fun w0 hb => hb.grown h3 hB fun k hk => (World.ownsRow.lt hown k hk).1)
  unfold QOwn
  rw [List.length_append, c4_two]
  have e : c4 [q] = l4 q := by simp [c4]
  rw [e]
  exact h2

/-- a row's units, where each of its lists lies somewhere -/
theorem units_row {w : World} {B : Nat} {v : Value} {L : List V4} {xs : List Ob} (hl : L.length = xs.length) (hq : QOwn w B v L)
    (h : ∀ i (hi : i < xs.length), ∃ (pb ps pf pm : Option Addr) (cb cs cf cm : Nat), L[i]? = some (.slice pb xs[i].bs.length cb, .slice ps xs[i].sy.length cs, .slice pf xs[i].fx.length cf, .slice pm xs[i].mk_.length cm) ∧ ObIn w xs[i] pb ps pf pm xs[i].bs.length cb xs[i].sy.length cs xs[i].fx.length cf xs[i].mk_.length cm) :
    ∃ p c, v = .slice p xs.length c ∧ Units w p xs := by
  obtain ⟨p, cap, e1, e2, e3, e4⟩ := hq.shape
  refine ⟨p, cap, by rw [e1, hl], fun h0 => ?_⟩
  obtain ⟨g, hp, -, -, hc⟩ := e4 (by omega)
  refine ⟨g, 0, hp, fun i hi => ?_⟩
  obtain ⟨pb, ps, pf, pm, cb, cs, cf, cm, hL, hI⟩ := h i hi
  have hiL : i < L.length := by omega
  have hLi : L[i] = (.slice pb xs[i].bs.length cb, .slice ps xs[i].sy.length cs, .slice pf xs[i].fx.length cf, .slice pm xs[i].mk_.length cm) := by
    rw [List.getElem?_eq_getElem hiL] at hL
    exact Option.some.inj hL
  have c0 := hc i hiL 0 (by decide)
  have c1 := hc i hiL 1 (by decide)
  have c2 := hc i hiL 2 (by decide)
  have c3 := hc i hiL 3 (by decide)
  rw [hLi] at c0 c1 c2 c3
  refine ⟨pb, ps, pf, pm, cb, cs, cf, cm, ⟨?_, ?_, ?_, ?_⟩, hI⟩
  · rw [Nat.zero_add]; exact c0
  · rw [Nat.zero_add]; exact c1
  · rw [Nat.zero_add]; exact c2
  · rw [Nat.zero_add]; exact c3
theorem units_behind {w w' : World} {B : Nat} {v v' : Value} {xs : List Ob} {L : List V4} {x : Ob} {pb ps pf pm : Option Addr} {cb cs cf cm : Nat} (h1 : L.length = xs.length) (h2 : QOwn w B v L) (h3 : ∀ i (h : i < xs.length), ObF xs[i] ∧ ∃ q, L[i]? = some q ∧ ObOwn w B xs[i] q.1 q.2.1 q.2.2.1 q.2.2.2)
    (hx : ObIn w' x pb ps pf pm x.bs.length cb x.sy.length cs x.fx.length cf x.mk_.length cm) (hq : QOwn w' B v' (L ++ [(.slice pb x.bs.length cb, .slice ps x.sy.length cs, .slice pf x.fx.length cf, .slice pm x.mk_.length cm)])) (hg : w.grownBy w' v.ownBlock) : ∃ p c, v' = .slice p (xs ++ [x]).length c ∧ Units w' p (xs ++ [x]) := by
  refine units_row (by simp [h1]) hq fun i hi => ?_
  by_cases hin : i < xs.length
  · obtain ⟨hfi, q, hq', ho⟩ := h3 i hin
    rw [List.getElem_append_left hin]
    obtain ⟨pb', ps', pf', pm', cb', cs', cf', cm', ⟨k1, k2, k3, k4⟩, hI⟩ := (ho.keptU h2 hg).inn hfi
    refine ⟨pb', ps', pf', pm', cb', cs', cf', cm', ?_, hI⟩
    rw [List.getElem?_append_left (by omega), hq', ← k1, ← k2, ← k3, ← k4]
  · have e : i = xs.length := by simp at hi; omega
    subst e
    rw [List.getElem_append_right (Nat.le_refl _)]
    simp only [Nat.sub_self, List.getElem_cons_zero]
    exact ⟨pb, ps, pf, pm, cb, cs, cf, cm, by rw [List.getElem?_append_right (by omega), h1]; simp, hx⟩
/-- one unit alone -/
theorem units_one {w : World} {g : Nat} {x : Ob} {pb ps pf pm : Option Addr} {cb cs cf cm : Nat} (hb : Blk w g 39 #[.slice pb x.bs.length cb, .slice ps x.sy.length cs, .slice pf x.fx.length cf, .slice pm x.mk_.length cm])
    (hx : ObIn w x pb ps pf pm x.bs.length cb x.sy.length cs x.fx.length cf x.mk_.length cm) : Units w (some ⟨g, 0, none⟩) [x] := fun _ => ⟨g, 0, rfl, fun i hi => by
  have : i = 0 := by simp at hi; exact hi
  subst this
  exact ⟨pb, ps, pf, pm, cb, cs, cf, cm, ⟨hb.cell 0, hb.cell 1, hb.cell 2, hb.cell 3⟩, hx⟩⟩
theorem GRow.ahead {w : World} {p : Option Addr} {A B : List Value} (h : GRow w p (A ++ B)) : GRow w p A := fun h0 => by
  obtain ⟨b, o, e, hc⟩ := h (by rw [List.length_append]; omega)
  refine ⟨b, o, e, fun i hi => (hc i (by rw [List.length_append]; omega)).trans ?_⟩
  rw [List.getElem?_append_left hi]
theorem Row3.ahead {w : World} {p : Option Addr} {A B : List V3} (h : Row3 w p (A ++ B)) : Row3 w p A := fun h0 => by
  obtain ⟨b, o, e, hc⟩ := h (by rw [List.length_append]; omega)
  refine ⟨b, o, e, fun i hi j hj => (hc i (by rw [List.length_append]; omega) j hj).trans ?_⟩
  rw [List.getElem_append_left hi]

set_option maxRecDepth 20000 in
theorem open_unit_val {H : Type} {enc : TypeId × Value → H} {W : World} {base : Nat} {v : Value} {d : DataW H} {p : List MemPlace} (hv : Value.okWide Try.prog W .any base 39 v)
    (h : DataW.Trod enc Try.prog W 0 (fun _ => true) true 39 v d p) {ts : List TypeId} {ds : List (DataW H)} (hsz : (DataW.weightsEach Try.prog ts ds).all (· ≤ reachBytes) = true) {j : Nat} (ht : ts[j]? = some 39) (hd : ds[j]? = some d) :
    ∃ (o : Ob) (pb ps pf pm : Option Addr) (cb cs' cf cm : Nat), v = .agg #[.slice pb o.bs.length cb, .slice ps o.sy.length cs', .slice pf o.fx.length cf, .slice pm o.mk_.length cm] ∧ ObIn W o pb ps pf pm o.bs.length cb o.sy.length cs' o.fx.length cf o.mk_.length cm ∧ ObW o := by
  obtain ⟨fuel, hf⟩ := h
  simp only [Value.okWide, Try.underlying39] at hv
  obtain ⟨cs, rfl, _, _⟩ := hv
  obtain ⟨o, pb, ps, pf, pm, cb, cs', cf, cm, hc, hr⟩ := open_unit hf (weights_of hsz ht hd)
  refine ⟨o, pb, ps, pf, pm, cb, cs', cf, cm, ?_, hr⟩
  have h2 : cs.toList = (#[.slice pb o.bs.length cb, .slice ps o.sy.length cs', .slice pf o.fx.length cf, .slice pm o.mk_.length cm] : Array Value).toList := hc
  rw [Array.toList_inj.1 h2]

end Go.Proofs.Ytnmcdkhfjkpklaa
