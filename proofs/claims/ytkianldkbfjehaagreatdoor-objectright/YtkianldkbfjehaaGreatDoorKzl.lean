/- Texts put together: App9, App9b, App9c. -/
import Derived.Test.YtkianldkbfjehaaGreatDoorKo
import Derived.Laws.AppendOwnNone
import Derived.Test.YtkianldkbfjehaaGreatDoorKze
import Derived.Test.YtkianldkbfjehaaGreatDoorKs

/- A list of items behind another one: append(l, m...). -/
namespace Go.Proofs.YtkianldkbfjehaaGreatDoor
open Go.RowKit

theorem cells9_two (L M : List (Src × Value)) : cells9 (L ++ M) = cells9 L ++ cells9 M := by simp [cells9]
theorem cells9_one {L : List (Src × Value)} (h : ∀ q ∈ L, ∃ p m e, q.2 = .slice p m e) : ∀ u ∈ cells9 L, u.oneCell' = true := by
  intro u hu
  unfold cells9 at hu
  rw [List.mem_flatMap] at hu
  obtain ⟨q, hq, hu⟩ := hu
  obtain ⟨p, m, e, hp⟩ := h q hq
  rw [hp] at hu
  exact cells_mem_one _ _ _ _ u hu
theorem IOwn.slices {w : World} {B : Nat} {v : Value} {L : List (Src × Value)} (h : IOwn w B v L) : ∀ q ∈ L, ∃ p m e, q.2 = .slice p m e := fun q hq => by
  obtain ⟨p, cap, e, _⟩ := (h.dat q hq).rowC
  exact ⟨p, _, cap, e⟩
/-- a list of items that lies elsewhere is kept -/
theorem IOwn.other {w w' : World} {B B' : Nat} {v v2 : Value} {L M : List (Src × Value)} (h : IOwn w B' v2 M) (hown : IOwn w B v L) (hg : w.grownBy w' v.ownBlock) (hne : v2 = .slice none 0 0 ∨ v2.ownBlock ≠ v.ownBlock) : IOwn w' B' v2 M :=
  ⟨World.ownsRow.kept h.row hg (hne.imp (fun e => by rw [e]; rfl) id), fun q hq => (h.dat q hq).grownOther hg (row_apart (h.dat q hq) hown.row (by decide))⟩
/-- of two lists the later one lies elsewhere -/
theorem IOwn.later {w0 w : World} {B : Nat} {v v2 : Value} {L M : List (Src × Value)} (hown : IOwn w0 B v L) (h : IOwn w w0.heap.size v2 M) : v2 = .slice none 0 0 ∨ v2.ownBlock ≠ v.ownBlock := by
  rcases h.row.2 with ⟨e, _⟩ | ⟨g, cap, cur, e, hg, _⟩
  · exact .inl e
  · refine .inr ?_
    rcases hown.row.2 with ⟨e2, _⟩ | ⟨g2, cap2, cur2, e2, _, h3, _⟩
    · rw [e, e2]; simp [Value.ownBlock]
    · have := (Array.getElem?_eq_some_iff.1 h3).1
      rw [e, e2]
      simp only [Value.ownBlock]
      intro ee; injection ee with ee; omega

/-- 'append(l, m...)' -/
theorem gappend9 {ops : Array Oper} {rest : List Oper} {o : Oper} {a : Act} {Q : Exit → Act → World → Prop} (w : World) (hwt : Region.wanted o (yielded ops a.tmps) = true) (s x : Operand)
    (ho : o.op = .call { callee := .builtin .append, args := #[s, x], argTypes := #[22, 22] }) (B : Nat) (v v2 : Value) (L M : List (Src × Value)) (hs : a.eval s = v) (hx : a.eval x = v2) (hown : IOwn w B v L) (hown2 : IOwn w B v2 M)
    (hlen : L.length + M.length ≤ 1073741824) (hBw : B ≤ w.heap.size)
    (h : ∀ v' w', IOwn w' B v' (L ++ M) → w.grownBy w' v.ownBlock → (∀ w0, Below B w0 w → Below B w0 w') → wpList Tryz.prog ops Q rest (a.put o.dst v') w') :
    wpList Tryz.prog ops Q (o :: rest) a w := by
  obtain ⟨i0, hi, hz0, hz1, hz2⟩ := info_parts Tryz.info57
  refine wpList_step fun K hK => ?_
  rw [if_pos hwt]
  rcases hown2.row.2 with ⟨e1, e2⟩ | ⟨g, cap, cur, e1, e2, e3, e4, e5, e6⟩
  · have hM : M = [] := List.eq_nil_of_length_eq_zero e2
    subst hM
    have hrun := run_append_owned_none (P := Tryz.prog) (w := w) B 22 o.type 57 i0 9 Tryz.und22 hi v L.length (cells9 L) hown.row
    rw [e1] at hx
    unfold Oper.wp
    simp [execOp, ho, resolve, invoke, builtin, hs, hx, hrun, Result.andThen]
    exact hK _ _ (h v w (by rw [List.append_nil]; exact hown) (World.grownBy.refl w _) (fun _ hb => hb))
  · have hr := hown2.row
    rw [e1] at hr
    refine wp_append_own w s x 22 ho B 57 i0 (.agg item0) 9 80 Tryz.und22 hi hz0 hz1 hz2 rfl (by decide) v L.length (cells9 L) hs hown.row ⟨g, 0, none⟩ M.length cap (cells9 M) (by rw [hx, e1]) (cells9_len M) ?_ (cells9_one hown2.slices) (by unfold maxLen; omega) (by omega) hBw ?_
    · intro j u hu
      rw [Addr.add_mid, Nat.zero_add]
      have hj : j < M.length * 9 := by rw [← cells9_len]; exact (List.getElem?_eq_some_iff.1 hu).1
      rw [hr.cellAt j hj]; exact hu
    · intro v' w' h2 h3 _
      refine hK _ _ (h v' w' ⟨?_, fun q' hq => ?_⟩ h3 (fun w0 hb => hb.grown h3 hBw fun k hk => (hown.row.lt k hk).1))
      · rw [List.length_append, cells9_two]; exact h2
      · rcases List.mem_append.1 hq with hq | hq
        · exact (hown.dat q' hq).grownOther h3 (row_apart (hown.dat q' hq) hown.row (by decide))
        · exact (hown2.dat q' hq).grownOther h3 (row_apart (hown2.dat q' hq) hown.row (by decide))

end Go.Proofs.YtkianldkbfjehaaGreatDoor

/- A list of items that came in, put behind one that the call has made: append(l, more...). -/
namespace Go.Proofs.YtkianldkbfjehaaGreatDoor
open Go.ChangeShapes Go.WideShapes Go.ChangeAt Go.RowKit

theorem list_for {α : Type} {P : Nat → α → Prop} : ∀ n, (∀ i, i < n → ∃ x, P i x) → ∃ xs : List α, xs.length = n ∧ ∀ i (h : i < xs.length), P i xs[i]
  | 0, _ => ⟨[], rfl, fun i h => absurd h (by simp)⟩
  | n + 1, h => by
    obtain ⟨xs, hl, hx⟩ := list_for n fun i hi => h i (by omega)
    obtain ⟨x, hp⟩ := h n (by omega)
    refine ⟨xs ++ [x], by simp [hl], fun i hi => ?_⟩
    by_cases hin : i < xs.length
    · rw [List.getElem_append_left hin]; exact hx i hin
    · have : i = n := by simp at hi; omega
      subst this
      rw [List.getElem_append_right (by omega)]
      simp [hl]
      exact hp
/-- a list of items in memory, each with its data's slice -/
theorem items_list {w : World} {p : Option Addr} {ys : List Src} (h : Items w p ys) :
    ∃ M : List (Src × Value), M.map Prod.fst = ys ∧ (∀ r ∈ M, ∃ q e, r.2 = .slice q r.1.d.length e ∧ Row w q r.1.d ∧ Fit r.1) ∧ (0 < ys.length → ∃ b o, p = some ⟨b, o, none⟩ ∧ w.rangeAt b o (cells9 M)) := by
  by_cases h0 : 0 < ys.length
  · obtain ⟨b, o, hp, hc⟩ := h h0
    obtain ⟨M, hl, hM⟩ := list_for (P := fun i (r : Src × Value) => ∃ hi : i < ys.length, r.1 = ys[i] ∧ ∃ q e, r.2 = .slice q r.1.d.length e ∧ w.rangeAt b (o + i * 9) (cellsOf r.1 r.2).toList ∧ Row w q r.1.d ∧ Fit r.1) ys.length fun i hi => by
      obtain ⟨q, e, h1, h2, h3⟩ := hc i hi
      exact ⟨(ys[i], .slice q ys[i].d.length e), hi, rfl, q, e, rfl, h1, h2, h3⟩
    refine ⟨M, ?_, fun r hr => ?_, fun _ => ⟨b, o, hp, fun j v hv => ?_⟩⟩
    · refine List.ext_getElem (by rw [List.length_map, hl]) fun i h1 h2 => ?_
      rw [List.getElem_map]
      rw [List.length_map] at h1
      obtain ⟨_, e, _⟩ := hM i h1
      exact e
    · obtain ⟨i, hi, rfl⟩ := List.getElem_of_mem hr
      obtain ⟨_, _, q, e, h1, _, h2, h3⟩ := hM i hi
      exact ⟨q, e, h1, h2, h3⟩
    · have hj : j < M.length * 9 := by rw [← cells9_len]; exact (List.getElem?_eq_some_iff.1 hv).1
      have hi : j / 9 < M.length := by omega
      obtain ⟨_, _, q, e, h1, hR, _⟩ := hM (j / 9) hi
      have e9 : j = j / 9 * 9 + j % 9 := by omega
      rw [e9, cells9_at M (j / 9) hi (j % 9) (Nat.mod_lt _ (by decide))] at hv
      have := hR (j % 9) v hv
      rw [show o + j / 9 * 9 + j % 9 = o + j by omega] at this
      exact this
  · have : ys = [] := List.eq_nil_of_length_eq_zero (by omega)
    subst this
    exact ⟨[], rfl, fun r hr => by simp at hr, fun h => absurd h h0⟩
/-- a nil list that came in -/
theorem opened_nil {H : Type} {enc : TypeId × Value → H} {W : World} {a : Option Addr} {n c : Nat} {d : DataW H} {p : List MemPlace}
    (h : DataW.Trod enc Tryz.prog W 0 (fun _ => true) true 22 (.slice a n c) d p) : a = none → n = 0 ∧ c = 0 := by
  obtain ⟨fuel, hf⟩ := h
  rcases DataW.trod_slice Tryz.underlying22 hf with ⟨hcs, hx⟩ | ⟨ad, l, cc, elems, rest, f, hfu, hcs, hx, _⟩
  · simp [Value.cells] at hcs
    obtain ⟨rfl, rfl, rfl⟩ := hcs
    exact fun _ => ⟨rfl, rfl⟩
  · simp [Value.cells] at hcs
    obtain ⟨rfl, rfl, rfl⟩ := hcs
    intro h; cases h
theorem ownsRow_slice {w : World} {B : Nat} {T : TypeId} {z : Nat} {v : Value} {n : Nat} {xs : List Value} (h : w.ownsRow B T z v n xs) : ∃ p cap, v = .slice p n cap ∧ n ≤ cap ∧ cap ≤ maxLen ∧ (0 < n → ∃ g, p = some ⟨g, 0, none⟩ ∧ B ≤ g) := by
  rcases h.2 with ⟨e1, e2⟩ | ⟨g, cap, cur, e1, e2, e3, e4, e5, _⟩
  · exact ⟨none, 0, by rw [e1, e2], by omega, Nat.zero_le _, fun h0 => by omega⟩
  · exact ⟨_, cap, e1, e4, e5, fun _ => ⟨g, rfl, e2⟩⟩

/-- 'append(l, more...)': l the call's own, more in memory that stays (that of w0) -/
theorem gappendI {ops : Array Oper} {rest : List Oper} {o : Oper} {a : Act} {Q : Exit → Act → World → Prop} (w0 w : World) (hgd : o.guard = none) (s x : Operand)
    (ho : o.op = .call { callee := .builtin .append, args := #[s, x], argTypes := #[22, 22] }) (v : Value) (L : List (Src × Value)) (xs ys : List Src) (hs : a.eval s = v) (hown : IOwn w w0.heap.size v L) (hL : L.map Prod.fst = xs) (hfx : ∀ x ∈ xs, Fit x)
    (q : Option Addr) (m c : Nat) (hx : a.eval x = .slice q m c) (hm : ys.length = m) (hq : q = none → m = 0 ∧ c = 0) (hy : Items w0 q ys) (hb : Below w0.heap.size w0 w) (hlen : xs.length + m ≤ 1073741824)
    (h : ∀ p' cap' w', xs.length + m ≤ cap' → cap' ≤ maxLen → Items w' p' (xs ++ ys) → Below w0.heap.size w0 w' → w.grownBy w' v.ownBlock → wpList Tryz.prog ops Q rest (a.put o.dst (.slice p' (xs.length + m) cap')) w') :
    wpList Tryz.prog ops Q (o :: rest) a w := by
  obtain ⟨i0, hi, hz0, hz1, hz2⟩ := info_parts Tryz.info57
  have hll : L.length = xs.length := by rw [← hL, List.length_map]
  cases q with
  | none =>
    obtain ⟨rfl, rfl⟩ := hq rfl
    obtain rfl : ys = [] := List.eq_nil_of_length_eq_zero hm
    refine wpList_append_own_none hgd s x 22 ho w0.heap.size 57 i0 9 Tryz.und22 hi v L.length (cells9 L) hs hown.row hx ?_
    obtain ⟨p', cap', hv, h1, h2, _⟩ := hown.shape
    rw [hll] at hv h1
    have := h p' cap' w (by omega) h2 (by rw [List.append_nil, ← hL]; exact hown.items (fun r hr => hfx _ (by rw [← hL]; exact List.mem_map_of_mem hr)) hv) hb (World.grownBy.refl w _)
    rw [Nat.add_zero, ← hv] at this
    exact this
  | some ad =>
    obtain ⟨M, hM, hMd, hMr⟩ := items_list hy
    have hml : M.length = m := by rw [← hm, ← hM, List.length_map]
    refine wpList_append_own w hgd s x 22 ho w0.heap.size 57 i0 (.agg item0) 9 80 Tryz.und22 hi hz0 hz1 hz2 rfl (by decide) v L.length (cells9 L) hs hown.row ad m c (cells9 M) hx (by rw [cells9_len, hml]) ?_ (cells9_one fun r hr => by obtain ⟨q', e', h1, _⟩ := hMd r hr; exact ⟨_, _, _, h1⟩) (by unfold maxLen; omega) (by omega) hb.size ?_
    · intro j u hu
      have hj : j < M.length * 9 := by rw [← cells9_len]; exact (List.getElem?_eq_some_iff.1 hu).1
      obtain ⟨b, o', hp, hR⟩ := hMr (by omega)
      cases hp
      rw [Addr.add_mid]
      have := hR j u hu
      exact (hb.cell (p := ⟨b, o' + j, none⟩) (cell_lt this)).trans this
    · intro v' w' h2 h3 _
      have hb' : Below w0.heap.size w0 w' := hb.grown h3 hb.size fun k hk => (hown.row.lt k hk).1
      have h2' : w'.ownsRow w0.heap.size 57 9 v' (L.length + m) (cells9 (L ++ M)) := by rw [cells9_two]; exact h2
      obtain ⟨p', cap', rfl, h4, h5, h6⟩ := ownsRow_slice h2'
      rw [hll] at h2' h4 h6 ⊢
      refine h p' cap' w' h4 h5 (fun h0 => ?_) hb' h3
      have hl2 : (xs ++ ys).length = xs.length + m := by rw [List.length_append, hm]
      obtain ⟨g, hp, _⟩ := h6 (by omega)
      subst hp
      refine ⟨g, 0, rfl, fun i hi => ?_⟩
      have hiL : i < (L ++ M).length := by rw [List.length_append, hll, hml]; omega
      have hcell : ∀ j, j < 9 → w'.cell? ⟨g, 0 + i * 9 + j, none⟩ = (cellsOf (L ++ M)[i].1 (L ++ M)[i].2).toList[j]? := fun j hj => by
        rw [Nat.zero_add, h2'.cellAt (i * 9 + j) (by omega), cells9_at (L ++ M) i hiL j hj]
      have hx1 : (L ++ M)[i].1 = (xs ++ ys)[i] := by
        have e : (L ++ M).map Prod.fst = xs ++ ys := by rw [List.map_append, hL, hM]
        have := List.getElem_map (f := Prod.fst) (l := L ++ M) (i := i) (h := by rw [List.length_map]; exact hiL)
        simp only [e] at this
        exact this.symm
      have hdat : ∃ q' e', (L ++ M)[i].2 = .slice q' (L ++ M)[i].1.d.length e' ∧ Row w' q' (L ++ M)[i].1.d ∧ Fit (L ++ M)[i].1 := by
        rcases List.mem_append.1 (List.getElem_mem hiL) with hm' | hm'
        · obtain ⟨q', c', h7, h8⟩ := ((hown.dat _ hm').grownOther h3 (row_apart (hown.dat _ hm') hown.row (by decide))).rowC
          exact ⟨q', c', h7, h8, hfx _ (by rw [← hL]; exact List.mem_map_of_mem hm')⟩
        · obtain ⟨q', e', h7, h8, h9⟩ := hMd _ hm'
          exact ⟨q', e', h7, h8.below hb', h9⟩
      obtain ⟨q', e', h7, h8, h9⟩ := hdat
      rw [← hx1]
      refine ⟨q', e', fun j u hu => ?_, h8, h9⟩
      have hj : j < 9 := (List.getElem?_eq_some_iff.1 hu).1
      rw [hcell j hj, h7]
      exact hu

end Go.Proofs.YtkianldkbfjehaaGreatDoor

/- A list of items that is grown twice from the same slice; lists that are too long. -/
namespace Go.Proofs.YtkianldkbfjehaaGreatDoor
open Go.RowKit

theorem ownsRow_front {w : World} {B : Nat} {T : TypeId} {z g cap n m : Nat} {xs cs : List Value} (h : w.ownsRow B T z (.slice (some ⟨g, 0, none⟩) (n + m) cap) (n + m) (xs ++ cs)) (hx : xs.length = n * z) : w.ownsRow B T z (.slice (some ⟨g, 0, none⟩) n cap) n xs := by
  refine ⟨hx, .inr ?_⟩
  rcases h.2 with ⟨e, _⟩ | ⟨g', cap', cur, e1, e2, e3, e4, e5, e6, e7⟩
  · cases e
  · injection e1 with h1 _ h3
    injection h1 with h1
    injection h1 with h1
    subst h1 h3
    refine ⟨g, cap, cur, rfl, e2, e3, by omega, e5, e6, ?_⟩
    have e8 : cur.toList.take (n * z) = (cur.toList.take ((n + m) * z)).take (n * z) := by
      rw [List.take_take, Nat.min_eq_left (Nat.mul_le_mul_right z (Nat.le_add_right n m))]
    rw [e8, e7, List.take_left' hx]
/-- 'append(l, y)', l being used again -/
theorem gpush9two {ops : Array Oper} {rest : List Oper} {o : Oper} {a : Act} {Q : Exit → Act → World → Prop} (w : World) (hgd : o.guard = none) (s x : Operand)
    (ho : o.op = .call { callee := .builtin .append, args := #[s, x], argTypes := #[22, 22] }) (B g0 cap : Nat) (L : List (Src × Value)) (hs : a.eval s = .slice (some ⟨g0, 0, none⟩) L.length cap) (hown : IOwn w B (.slice (some ⟨g0, 0, none⟩) L.length cap) L)
    (g : Nat) (y : Src) (hyd : y.d = []) (hLd : ∀ r ∈ L, r.2 = .slice none 0 0 ∧ r.1.d = []) (hx : a.eval x = .slice (some ⟨g, 0, none⟩) 1 1) (hB : Blk w g 57 (cellsOf y (.slice none 0 0)))
    (hlen : L.length ≤ 1048576) (hBw : B ≤ w.heap.size)
    (h : ∀ v' w', IOwn w' B v' (L ++ [(y, .slice none 0 0)]) → IOwn w' B (.slice (some ⟨g0, 0, none⟩) L.length cap) L → (∀ w0, Below B w0 w → Below B w0 w') → (∀ b, b < w.heap.size → b ≠ g0 → w'.heap[b]? = w.heap[b]?) → wpList Tryz.prog ops Q rest (a.put o.dst v') w') :
    wpList Tryz.prog ops Q (o :: rest) a w := by
  obtain ⟨i0, hi, hz0, hz1, hz2⟩ := info_parts Tryz.info57
  have hnews : ∀ j u, (cellsOf y (.slice none 0 0)).toList[j]? = some u → w.cell? ((⟨g, 0, none⟩ : Addr).add j) = some u := fun j u hu => by
    rw [Addr.add_mid, Nat.zero_add, hB.cell]
    rw [Array.getElem?_toList] at hu
    exact hu
  have hnil : ∀ w', ∀ r ∈ L ++ [(y, (.slice none 0 0 : Value))], GOwnV 5 w' B r.2 (byts r.1.d) := fun w' r hr => by
    rcases List.mem_append.1 hr with hr | hr
    · obtain ⟨e1, e2⟩ := hLd r hr
      rw [e1, e2]; exact GOwnV.nil _ _ _
    · rw [List.mem_singleton] at hr
      subst hr
      simp only [hyd]
      exact GOwnV.nil _ _ _
  have hLl := cells9_len L
  by_cases hroom : L.length + 1 ≤ cap
  · refine wpList_append_fits w hgd s x 22 ho B 57 i0 9 Tryz.und22 hi hz1 g0 L.length cap (cells9 L) hs hown.row ⟨g, 0, none⟩ 1 1 (cellsOf y (.slice none 0 0)).toList hx rfl hnews (cells_mem_one _ _ _ _) hroom fun w' h1 h2 => ?_
    refine h _ w' ⟨?_, hnil w'⟩ ⟨ownsRow_front h1 hLl, fun r hr => hnil w' r (List.mem_append_left _ hr)⟩ (fun w0 hb => hb.grown h2 hBw fun k hk => (hown.row.lt k hk).1) (fun b hb hne => h2.block b hb fun e => hne (Option.some.inj e))
    rw [List.length_append, cells9_snoc]; exact h1
  · refine wpList_append_grows w hgd s x 22 ho 57 i0 (.agg item0) 9 80 Tryz.und22 hi hz0 hz1 hz2 rfl (by decide) _ L.length cap (cells9 L) hs (fun e => by cases e) hLl (fun b e j u hj => ?_) ⟨g, 0, none⟩ 1 1 (cellsOf y (.slice none 0 0)).toList hx rfl hnews (cells_mem_one _ _ _ _) (by omega) (by unfold maxLen; omega) (by omega) fun v' w' h1 h2 => ?_
    · cases e
      have hj' : j < L.length * 9 := by rw [← hLl]; exact (List.getElem?_eq_some_iff.1 hj).1
      rw [Addr.add_mid, Nat.zero_add, hown.row.cellAt j hj']; exact hj
    · refine h v' w' ⟨?_, hnil w'⟩ ⟨World.ownsRow.kept hown.row h2 (.inr (by simp [Value.ownBlock])), fun r hr => hnil w' r (List.mem_append_left _ hr)⟩ (fun w0 hb => hb.grown h2 hBw fun k hk => by cases hk) (fun b hb _ => h2.block b hb (by simp))
      rw [List.length_append, cells9_snoc]
      obtain ⟨h3, h4⟩ := h1
      refine ⟨h3, h4.imp id ?_⟩
      rintro ⟨g', cap', cur, e1, e2, e3⟩
      exact ⟨g', cap', cur, e1, Nat.le_trans hBw e2, e3⟩

/-- 'make' behind a guard that is met -/
theorem make_wanted {ops : Array Oper} {rest : List Oper} {o : Oper} {a : Act} {Q : Exit → Act → World → Prop} (w : World) (hwt : Region.wanted o (yielded ops a.tmps) = true) (l c : Operand) (t : TypeId) (hop : o.op = Op.makeSlice t l c)
    (base : Nat) (e : TypeId) (i : TypeInfo) (z : Value) (size : Nat) (h1 : Tryz.prog.underlying t = some (.slice e)) (h2 : Tryz.prog.info? e = some i) (h3 : i.zero = some z) (h4 : i.size = size)
    (kl kc : IntKind) (n : Nat) (hl : a.eval l = .int kl n) (hc : a.eval c = .int kc n) (b2 : i.bytes * n ≤ 281474976710656) (b3 : n ≤ maxLen) (b4 : base ≤ w.heap.size)
    (h : ∀ w', w'.ownsRow base e size (.slice (some ⟨w.heap.size, 0, none⟩) n n) n (madeCells z.cells (n * size)).toList → w.grownBy w' none → wpList Tryz.prog ops Q rest (a.put o.dst (.slice (some ⟨w.heap.size, 0, none⟩) n n)) w') :
    wpList Tryz.prog ops Q (o :: rest) a w := by
  refine wpList_step fun K hK => ?_
  rw [if_pos hwt]
  obtain ⟨w', hrun, r1, r2⟩ := run_make_full (P := Tryz.prog) w base t e i z size h1 h2 h3 h4 kl kc n b2 b3 b4
  unfold Oper.wp
  simp [execOp, hop, hl, hc, hrun, Result.andThen]
  exact hK _ _ (h w' r1 r2)

set_option maxHeartbeats 400000 in
theorem check_long (p : Option Addr) (n c : Nat) (w : World) (hbig : 4096 < n) (hn63 : n ≤ 9223372036854775807) :
    Calls Tryz.prog 23 #[.slice p n c] w fun E w' => E = .returned (.tuple #[.int .i64 3, .int .i64 0]) ∧ Below w.heap.size w w' := by
  go_enter Tryz.func23, Tryz.ntmps23
  go_wp2
  go_ret2
  exact ⟨rfl, below_self _⟩
set_option maxHeartbeats 400000 in
theorem places_long (p : Option Addr) (n c : Nat) (w : World) (hbig : 4096 < n) (hn63 : n ≤ 9223372036854775807) :
    Calls Tryz.prog 18 #[.slice p n c] w fun E w' => ∃ v, E = .returned (.tuple #[v, .int .i64 0, .int .i64 3]) ∧ Below w.heap.size w w' := by
  have hC := fun W => check_long p n c W hbig hn63
  go_enter Tryz.func18, Tryz.ntmps18
  go_wp2_with (go_at_call 23; refine (hC _).mono ?_; rintro E w1 ⟨rfl, hb1⟩)
  go_ret3
  exact ⟨_, rfl, below_step (new_alloc w _) hb1⟩

end Go.Proofs.YtkianldkbfjehaaGreatDoor
