/- Texts put together: App9, App9b. -/
import Derived.Test.YthjbdbmncfbihaaGreatDoorKo
import Derived.Laws.AppendOwnNone
import Derived.Test.YthjbdbmncfbihaaGreatDoorKze

/- A list of items behind another one: append(l, m...). -/
namespace Go.Proofs.YthjbdbmncfbihaaGreatDoor
open Go.RowKit

theorem cells9_two (L M : List (Src × Value)) : cells9 (L ++ M) = cells9 L ++ cells9 M := by simp [cells9]
theorem cells9_one {L : List (Src × Value)} (h : ∀ q ∈ L, ∃ p m e, q.2 = .slice p m e) : ∀ u ∈ cells9 L, u.oneCell' = true := by
  intro u hu
  unfold cells9 at hu
  rw [List.mem_flatMap] at hu
  obtain ⟨q, hq, hu⟩ := hu
  obtain ⟨p, m, e, hp⟩ := h q hq
  rw [hp] at hu
  exact cells_mem_one _ _ _ _ u hu
theorem IOwn.slices {w : World} {B : Nat} {v : Value} {L : List (Src × Value)} (h : IOwn w B v L) : ∀ q ∈ L, ∃ p m e, q.2 = .slice p m e := fun q hq => by
  obtain ⟨p, cap, e, _⟩ := (h.dat q hq).rowC
  exact ⟨p, _, cap, e⟩
/-- a list of items that lies elsewhere is kept -/
theorem IOwn.other {w w' : World} {B B' : Nat} {v v2 : Value} {L M : List (Src × Value)} (h : IOwn w B' v2 M) (hown : IOwn w B v L) (hg : w.grownBy w' v.ownBlock) (hne : v2 = .slice none 0 0 ∨ v2.ownBlock ≠ v.ownBlock) : IOwn w' B' v2 M :=
  ⟨World.ownsRow.kept h.row hg (hne.imp (fun e => by rw [e]; rfl) id), fun q hq => (h.dat q hq).grownOther hg (row_apart (h.dat q hq) hown.row (by decide))⟩
/-- of two lists the later one lies elsewhere -/
theorem IOwn.later {w0 w : World} {B : Nat} {v v2 : Value} {L M : List (Src × Value)} (hown : IOwn w0 B v L) (h : IOwn w w0.heap.size v2 M) : v2 = .slice none 0 0 ∨ v2.ownBlock ≠ v.ownBlock := by
  rcases h.row.2 with ⟨e, _⟩ | ⟨g, cap, cur, e, hg, _⟩
  · exact .inl e
  · refine .inr ?_
    rcases hown.row.2 with ⟨e2, _⟩ | ⟨g2, cap2, cur2, e2, _, h3, _⟩
    · rw [e, e2]; simp [Value.ownBlock]
    · have := (Array.getElem?_eq_some_iff.1 h3).1
      rw [e, e2]
      simp only [Value.ownBlock]
      intro ee; injection ee with ee; omega

/-- 'append(l, m...)' -/
theorem gappend9 {ops : Array Oper} {rest : List Oper} {o : Oper} {a : Act} {Q : Exit → Act → World → Prop} (w : World) (hwt : Region.wanted o (yielded ops a.tmps) = true) (s x : Operand)
    (ho : o.op = .call { callee := .builtin .append, args := #[s, x], argTypes := #[34, 34] }) (B : Nat) (v v2 : Value) (L M : List (Src × Value)) (hs : a.eval s = v) (hx : a.eval x = v2) (hown : IOwn w B v L) (hown2 : IOwn w B v2 M)
    (hlen : L.length + M.length ≤ 1073741824) (hBw : B ≤ w.heap.size)
    (h : ∀ v' w', IOwn w' B v' (L ++ M) → w.grownBy w' v.ownBlock → (∀ w0, Below B w0 w → Below B w0 w') → wpList Tryz.prog ops Q rest (a.put o.dst v') w') :
    wpList Tryz.prog ops Q (o :: rest) a w := by
  obtain ⟨i0, hi, hz0, hz1, hz2⟩ := info_parts Tryz.info28
  refine wpList_step fun K hK => ?_
  rw [if_pos hwt]
  rcases hown2.row.2 with ⟨e1, e2⟩ | ⟨g, cap, cur, e1, e2, e3, e4, e5, e6⟩
  · have hM : M = [] := List.eq_nil_of_length_eq_zero e2
    subst hM
    have hrun := run_append_owned_none (P := Tryz.prog) (w := w) B 34 o.type 28 i0 9 Tryz.und34 hi v L.length (cells9 L) hown.row
    rw [e1] at hx
    unfold Oper.wp
    simp [execOp, ho, resolve, invoke, builtin, hs, hx, hrun, Result.andThen]
    exact hK _ _ (h v w (by rw [List.append_nil]; exact hown) (World.grownBy.refl w _) (fun _ hb => hb))
  · have hr := hown2.row
    rw [e1] at hr
    refine wp_append_own w s x 34 ho B 28 i0 (.agg item0) 9 80 Tryz.und34 hi hz0 hz1 hz2 rfl (by decide) v L.length (cells9 L) hs hown.row ⟨g, 0, none⟩ M.length cap (cells9 M) (by rw [hx, e1]) (cells9_len M) ?_ (cells9_one hown2.slices) (by unfold maxLen; omega) (by omega) hBw ?_
    · intro j u hu
      rw [Addr.add_mid, Nat.zero_add]
      have hj : j < M.length * 9 := by rw [← cells9_len]; exact (List.getElem?_eq_some_iff.1 hu).1
      rw [hr.cellAt j hj]; exact hu
    · intro v' w' h2 h3 _
      refine hK _ _ (h v' w' ⟨?_, fun q' hq => ?_⟩ h3 (fun w0 hb => hb.grown h3 hBw fun k hk => (hown.row.lt k hk).1))
      · rw [List.length_append, cells9_two]; exact h2
      · rcases List.mem_append.1 hq with hq | hq
        · exact (hown.dat q' hq).grownOther h3 (row_apart (hown.dat q' hq) hown.row (by decide))
        · exact (hown2.dat q' hq).grownOther h3 (row_apart (hown2.dat q' hq) hown.row (by decide))

end Go.Proofs.YthjbdbmncfbihaaGreatDoor

/- A list of items that came in, put behind one that the call has made: append(l, more...). -/
namespace Go.Proofs.YthjbdbmncfbihaaGreatDoor
open Go.ChangeShapes Go.WideShapes Go.ChangeAt Go.RowKit

theorem list_for {α : Type} {P : Nat → α → Prop} : ∀ n, (∀ i, i < n → ∃ x, P i x) → ∃ xs : List α, xs.length = n ∧ ∀ i (h : i < xs.length), P i xs[i]
  | 0, _ => ⟨[], rfl, fun i h => absurd h (by simp)⟩
  | n + 1, h => by
    obtain ⟨xs, hl, hx⟩ := list_for n fun i hi => h i (by omega)
    obtain ⟨x, hp⟩ := h n (by omega)
    refine ⟨xs ++ [x], by simp [hl], fun i hi => ?_⟩
    by_cases hin : i < xs.length
    · rw [List.getElem_append_left hin]; exact hx i hin
    · have : i = n := by simp at hi; omega
      subst this
      rw [List.getElem_append_right (by omega)]
      simp [hl]
      exact hp
/-- a list of items in memory, each with its data's slice -/
theorem items_list {w : World} {p : Option Addr} {ys : List Src} (h : Items w p ys) :
    ∃ M : List (Src × Value), M.map Prod.fst = ys ∧ (∀ r ∈ M, ∃ q e, r.2 = .slice q r.1.d.length e ∧ Row w q r.1.d ∧ Fit r.1) ∧ (0 < ys.length → ∃ b o, p = some ⟨b, o, none⟩ ∧ w.rangeAt b o (cells9 M)) := by
  by_cases h0 : 0 < ys.length
  · obtain ⟨b, o, hp, hc⟩ := h h0
    obtain ⟨M, hl, hM⟩ := list_for (P := fun i (r : Src × Value) => ∃ hi : i < ys.length, r.1 = ys[i] ∧ ∃ q e, r.2 = .slice q r.1.d.length e ∧ w.rangeAt b (o + i * 9) (cellsOf r.1 r.2).toList ∧ Row w q r.1.d ∧ Fit r.1) ys.length fun i hi => by
      obtain ⟨q, e, h1, h2, h3⟩ := hc i hi
      exact ⟨(ys[i], .slice q ys[i].d.length e), hi, rfl, q, e, rfl, h1, h2, h3⟩
    refine ⟨M, ?_, fun r hr => ?_, fun _ => ⟨b, o, hp, fun j v hv => ?_⟩⟩
    · refine List.ext_getElem (by rw [List.length_map, hl]) fun i h1 h2 => ?_
      rw [List.getElem_map]
      rw [List.length_map] at h1
      obtain ⟨_, e, _⟩ := hM i h1
      exact e
    · obtain ⟨i, hi, rfl⟩ := List.getElem_of_mem hr
      obtain ⟨_, _, q, e, h1, _, h2, h3⟩ := hM i hi
      exact ⟨q, e, h1, h2, h3⟩
    · have hj : j < M.length * 9 := by rw [← cells9_len]; exact (List.getElem?_eq_some_iff.1 hv).1
      have hi : j / 9 < M.length := by omega
      obtain ⟨_, _, q, e, h1, hR, _⟩ := hM (j / 9) hi
      have e9 : j = j / 9 * 9 + j % 9 := by omega
      rw [e9, cells9_at M (j / 9) hi (j % 9) (Nat.mod_lt _ (by decide))] at hv
      have := hR (j % 9) v hv
      rw [show o + j / 9 * 9 + j % 9 = o + j by omega] at this
      exact this
  · have : ys = [] := List.eq_nil_of_length_eq_zero (by omega)
    subst this
    exact ⟨[], rfl, fun r hr => by simp at hr, fun h => absurd h h0⟩
/-- a nil list that came in -/
theorem opened_nil {H : Type} {enc : TypeId × Value → H} {W : World} {a : Option Addr} {n c : Nat} {d : DataW H} {p : List MemPlace}
    (h : DataW.Trod enc Tryz.prog W 0 (fun _ => true) true 34 (.slice a n c) d p) : a = none → n = 0 ∧ c = 0 := by
  obtain ⟨fuel, hf⟩ := h
  rcases DataW.trod_slice Tryz.underlying34 hf with ⟨hcs, hx⟩ | ⟨ad, l, cc, elems, rest, f, hfu, hcs, hx, _⟩
  · simp [Value.cells] at hcs
    obtain ⟨rfl, rfl, rfl⟩ := hcs
    exact fun _ => ⟨rfl, rfl⟩
  · simp [Value.cells] at hcs
    obtain ⟨rfl, rfl, rfl⟩ := hcs
    intro h; cases h
theorem ownsRow_slice {w : World} {B : Nat} {T : TypeId} {z : Nat} {v : Value} {n : Nat} {xs : List Value} (h : w.ownsRow B T z v n xs) : ∃ p cap, v = .slice p n cap ∧ n ≤ cap ∧ cap ≤ maxLen ∧ (0 < n → ∃ g, p = some ⟨g, 0, none⟩ ∧ B ≤ g) := by
  rcases h.2 with ⟨e1, e2⟩ | ⟨g, cap, cur, e1, e2, e3, e4, e5, _⟩
  · exact ⟨none, 0, by rw [e1, e2], by omega, Nat.zero_le _, fun h0 => by omega⟩
  · exact ⟨_, cap, e1, e4, e5, fun _ => ⟨g, rfl, e2⟩⟩

/-- 'append(l, more...)': l the call's own, more in memory that stays (that of w0) -/
theorem gappendI {ops : Array Oper} {rest : List Oper} {o : Oper} {a : Act} {Q : Exit → Act → World → Prop} (w0 w : World) (hgd : o.guard = none) (s x : Operand)
    (ho : o.op = .call { callee := .builtin .append, args := #[s, x], argTypes := #[34, 34] }) (v : Value) (L : List (Src × Value)) (xs ys : List Src) (hs : a.eval s = v) (hown : IOwn w w0.heap.size v L) (hL : L.map Prod.fst = xs) (hfx : ∀ x ∈ xs, Fit x)
    (q : Option Addr) (m c : Nat) (hx : a.eval x = .slice q m c) (hm : ys.length = m) (hq : q = none → m = 0 ∧ c = 0) (hy : Items w0 q ys) (hb : Below w0.heap.size w0 w) (hlen : xs.length + m ≤ 1073741824)
    (h : ∀ p' cap' w', xs.length + m ≤ cap' → cap' ≤ maxLen → Items w' p' (xs ++ ys) → Below w0.heap.size w0 w' → w.grownBy w' v.ownBlock → wpList Tryz.prog ops Q rest (a.put o.dst (.slice p' (xs.length + m) cap')) w') :
    wpList Tryz.prog ops Q (o :: rest) a w := by
  obtain ⟨i0, hi, hz0, hz1, hz2⟩ := info_parts Tryz.info28
  have hll : L.length = xs.length := by rw [← hL, List.length_map]
  cases q with
  | none =>
    obtain ⟨rfl, rfl⟩ := hq rfl
    obtain rfl : ys = [] := List.eq_nil_of_length_eq_zero hm
    refine wpList_append_own_none hgd s x 34 ho w0.heap.size 28 i0 9 Tryz.und34 hi v L.length (cells9 L) hs hown.row hx ?_
    obtain ⟨p', cap', hv, h1, h2, _⟩ := hown.shape
    rw [hll] at hv h1
    have := h p' cap' w (by omega) h2 (by rw [List.append_nil, ← hL]; exact hown.items (fun r hr => hfx _ (by rw [← hL]; exact List.mem_map_of_mem hr)) hv) hb (World.grownBy.refl w _)
    rw [Nat.add_zero, ← hv] at this
    exact this
  | some ad =>
    obtain ⟨M, hM, hMd, hMr⟩ := items_list hy
    have hml : M.length = m := by rw [← hm, ← hM, List.length_map]
    refine wpList_append_own w hgd s x 34 ho w0.heap.size 28 i0 (.agg item0) 9 80 Tryz.und34 hi hz0 hz1 hz2 rfl (by decide) v L.length (cells9 L) hs hown.row ad m c (cells9 M) hx (by rw [cells9_len, hml]) ?_ (cells9_one fun r hr => by obtain ⟨q', e', h1, _⟩ := hMd r hr; exact ⟨_, _, _, h1⟩) (by unfold maxLen; omega) (by omega) hb.size ?_
    · intro j u hu
      have hj : j < M.length * 9 := by rw [← cells9_len]; exact (List.getElem?_eq_some_iff.1 hu).1
      obtain ⟨b, o', hp, hR⟩ := hMr (by omega)
      cases hp
      rw [Addr.add_mid]
      have := hR j u hu
      exact (hb.cell (p := ⟨b, o' + j, none⟩) (cell_lt this)).trans this
    · intro v' w' h2 h3 _
      have hb' : Below w0.heap.size w0 w' := hb.grown h3 hb.size fun k hk => (hown.row.lt k hk).1
      have h2' : w'.ownsRow w0.heap.size 28 9 v' (L.length + m) (cells9 (L ++ M)) := by rw [cells9_two]; exact h2
      obtain ⟨p', cap', rfl, h4, h5, h6⟩ := ownsRow_slice h2'
      rw [hll] at h2' h4 h6 ⊢
      refine h p' cap' w' h4 h5 (fun h0 => ?_) hb' h3
      have hl2 : (xs ++ ys).length = xs.length + m := by rw [List.length_append, hm]
      obtain ⟨g, hp, _⟩ := h6 (by omega)
      subst hp
      refine ⟨g, 0, rfl, fun i hi => ?_⟩
      have hiL : i < (L ++ M).length := by rw [List.length_append, hll, hml]; omega
      have hcell : ∀ j, j < 9 → w'.cell? ⟨g, 0 + i * 9 + j, none⟩ = (cellsOf (L ++ M)[i].1 (L ++ M)[i].2).toList[j]? := fun j hj => by
        rw [Nat.zero_add, h2'.cellAt (i * 9 + j) (by omega), cells9_at (L ++ M) i hiL j hj]
      have hx1 : (L ++ M)[i].1 = (xs ++ ys)[i] := by
        have e : (L ++ M).map Prod.fst = xs ++ ys := by rw [List.map_append, hL, hM]
        have := List.getElem_map (f := Prod.fst) (l := L ++ M) (i := i) (h := by rw [List.length_map]; exact hiL)
        simp only [e] at this
        exact this.symm
      have hdat : ∃ q' e', (L ++ M)[i].2 = .slice q' (L ++ M)[i].1.d.length e' ∧ Row w' q' (L ++ M)[i].1.d ∧ Fit (L ++ M)[i].1 := by
        rcases List.mem_append.1 (List.getElem_mem hiL) with hm' | hm'
        · obtain ⟨q', c', h7, h8⟩ := ((hown.dat _ hm').grownOther h3 (row_apart (hown.dat _ hm') hown.row (by decide))).rowC
          exact ⟨q', c', h7, h8, hfx _ (by rw [← hL]; exact List.mem_map_of_mem hm')⟩
        · obtain ⟨q', e', h7, h8, h9⟩ := hMd _ hm'
          exact ⟨q', e', h7, h8.below hb', h9⟩
      obtain ⟨q', e', h7, h8, h9⟩ := hdat
      rw [← hx1]
      refine ⟨q', e', fun j u hu => ?_, h8, h9⟩
      have hj : j < 9 := (List.getElem?_eq_some_iff.1 hu).1
      rw [hcell j hj, h7]
      exact hu

end Go.Proofs.YthjbdbmncfbihaaGreatDoor
