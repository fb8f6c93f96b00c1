/- Texts put together: OpenObj. -/
import Derived.Test.YtkianldkbfjehaaGreatDoorKze
import Derived.Test.YtkianldkbfjehaaGreatDoorKzy

/- How an object that came in by value is opened. -/
namespace Go.Proofs.YtkianldkbfjehaaGreatDoor
open Go.ChangeShapes Go.WideShapes Go.ChangeAt Go.RowKit

theorem Tryz.cells25 : Tryz.prog.cellsOf 25 = 1 := by kernel_rfl
theorem Tryz.cells26 : Tryz.prog.cellsOf 26 = 1 := by kernel_rfl
theorem Tryz.cells27 : Tryz.prog.cellsOf 27 = 1 := by kernel_rfl
theorem Tryz.cells29 : Tryz.prog.cellsOf 29 = 4 := by kernel_rfl
theorem Tryz.cells36 : Tryz.prog.cellsOf 36 = 3 := by kernel_rfl
theorem Tryz.cells39 : Tryz.prog.cellsOf 39 = 3 := by kernel_rfl
theorem Tryz.cells41 : Tryz.prog.cellsOf 41 = 3 := by kernel_rfl
theorem Tryz.cells4 : Tryz.prog.cellsOf 4 = 1 := by kernel_rfl
theorem Tryz.cells37 : Tryz.prog.cellsOf 37 = 1 := by kernel_rfl

theorem list_three {X : Type} {l : List X} (h : l.length = 3) : ∃ a b c, l = [a, b, c] := by
  match l, h with
  | [a, b, c], _ => exact ⟨a, b, c, rfl⟩
theorem list_four {X : Type} {l : List X} (h : l.length = 4) : ∃ a b c d, l = [a, b, c, d] := by
  match l, h with
  | [a, b, c, d], _ => exact ⟨a, b, c, d, rfl⟩
theorem list_ofG {X : Type} {P : Nat → X → Prop} : ∀ n, (∀ i, i < n → ∃ x, P i x) → ∃ xs : List X, xs.length = n ∧ ∀ i (h : i < xs.length), P i xs[i]
  | 0, _ => ⟨[], rfl, fun i h => absurd h (by simp)⟩
  | n + 1, h => by
    obtain ⟨xs, hl, hx⟩ := list_ofG n fun i hi => h i (by omega)
    obtain ⟨x, hp⟩ := h n (by omega)
    refine ⟨xs ++ [x], by simp [hl], fun i hi => ?_⟩
    by_cases hin : i < xs.length
    · rw [List.getElem_append_left hin]; exact hx i hin
    · have : i = n := by simp at hi; omega
      subst this
      rw [List.getElem_append_right (by omega)]
      simp [hl]
      exact hp

theorem opened3 {H : Type} {enc : TypeId × Value → H} {W : World} {fuel : Nat} {v : Value} {x : DataW H × List MemPlace} {ST ET : TypeId} {X : Type} (V : X → V3) (P : X → Prop) (hu : Tryz.prog.underlying ST = some (.slice ET)) (hc3 : Tryz.prog.cellsOf ET = 3)
    (hone : ∀ (fuel : Nat) (cs : List Value) (x : DataW H × List MemPlace), DataW.trod enc Tryz.prog W 0 (fun _ => true) true fuel ET cs = some x → ∃ y, cs = l3 (V y) ∧ P y)
    (h : DataW.trod enc Tryz.prog W 0 (fun _ => true) true fuel ST [v] = some x) :
    ∃ (q : Option Addr) (e : Nat) (L : List X), v = .slice q L.length e ∧ L.length ≤ Rows.uptoBulk x.1 ∧ Row3 W q (L.map V) ∧ ∀ y ∈ L, P y := by
  rcases DataW.trod_slice hu h with ⟨hcs, hx⟩ | ⟨ad, l, cc, elems, rest, f, hfu, hcs, hx, _, hl, hm, hlen, hel, hsp, _⟩
  · simp only [List.cons.injEq, and_true] at hcs
    exact ⟨none, 0, [], by rw [hcs]; rfl, Nat.zero_le _, Row3.nil W none, fun y hy => by cases hy⟩
  · simp only [List.cons.injEq, and_true] at hcs
    have hb := congrArg Prod.fst hx
    simp only at hb
    have h1 := bulk_len (elems.map (·.1))
    rw [List.length_map] at h1
    obtain ⟨L, hL, hP⟩ := list_ofG (P := fun i y => (∀ j u, (l3 (V y))[j]? = some u → W.cell? ((ad.add (i * 3)).add j) = some u) ∧ P y) l fun i hi => by
      have he := hel i hi
      rw [hc3, List.getElem?_eq_getElem (by omega), Option.bind_eq_some_iff] at he
      obtain ⟨cs, hcs, htr⟩ := he
      obtain ⟨_, hcl, hcc⟩ := World.cells?_some hcs
      obtain ⟨y, hy, hp⟩ := hone _ _ _ htr
      refine ⟨y, fun j u hu => ?_, hp⟩
      rw [← hy] at hu
      have hj : j < 3 := by rw [← hcl]; exact (List.getElem?_eq_some_iff.1 hu).1
      rw [hcc j hj]; exact hu
    refine ⟨some ad, cc, L, by rw [hcs, hL], ?_, fun h0 => ?_, fun y hy => ?_⟩
    · rw [hb]
      simp only [Rows.uptoBulk]
      omega
    · rw [List.length_map] at h0
      obtain ⟨b, o, s⟩ := ad
      obtain rfl : s = none := by
        have := (hP 0 h0).1 0 _ rfl
        simpa [Addr.add] using World.cell?_spot this
      refine ⟨b, o, rfl, fun i hi j hj => ?_⟩
      rw [List.length_map] at hi
      rw [List.getElem_map]
      have hl3 : j < (l3 (V L[i])).length := hj
      have := (hP i hi).1 j _ (List.getElem?_eq_getElem hl3)
      rw [Addr.add_mid, Addr.add_mid] at this
      rw [this, List.getElem?_eq_getElem hl3]
    · obtain ⟨i, hi, rfl⟩ := List.getElem_of_mem hy
      exact (hP i hi).2

theorem open_sym {H : Type} {enc : TypeId × Value → H} {W : World} (fuel : Nat) (cs : List Value) (x : DataW H × List MemPlace) (h : DataW.trod enc Tryz.prog W 0 (fun _ => true) true fuel 36 cs = some x) : ∃ y, cs = l3 (syV y) ∧ SyF y := by
  obtain ⟨xs, n, rfl, hx, hlen, hxl, hf⟩ := DataW.trod_struct Tryz.underlying36 h
  rw [Tryz.cells36] at hlen
  obtain ⟨a, b, c, rfl⟩ := list_three hlen
  have f0 := hf 0
  have f1 := hf 1
  have f2 := hf 2
  simp [Tryz.cells9, Tryz.cells3, Tryz.cells4] at f0 f1 f2
  obtain ⟨x0, x1, x2, rfl⟩ := list_three (show xs.length = 3 from hxl)
  simp only [List.getElem?_cons_zero, List.getElem?_cons_succ] at f0 f1 f2
  obtain ⟨nm, e0, y0, w0⟩ := DataW.trod_string Tryz.underlying9 f0
  obtain ⟨m, e1, y1, w1⟩ := DataW.trod_int Tryz.underlying3 f1
  obtain ⟨g, e2, y2⟩ := DataW.trod_bool Tryz.underlying4 f2
  simp only [List.cons.injEq, and_true] at e0 e1 e2
  subst e0 e1 e2
  exact ⟨⟨nm, m, g⟩, rfl, w0, wf_i64 w1⟩

theorem open_fix {H : Type} {enc : TypeId × Value → H} {W : World} (fuel : Nat) (cs : List Value) (x : DataW H × List MemPlace) (h : DataW.trod enc Tryz.prog W 0 (fun _ => true) true fuel 39 cs = some x) : ∃ y, cs = l3 (fxV y) ∧ FxF y := by
  obtain ⟨xs, n, rfl, hx, hlen, hxl, hf⟩ := DataW.trod_struct Tryz.underlying39 h
  rw [Tryz.cells39] at hlen
  obtain ⟨a, b, c, rfl⟩ := list_three hlen
  have f0 := hf 0
  have f1 := hf 1
  have f2 := hf 2
  simp [Tryz.cells9, Tryz.cells3, Tryz.cells37] at f0 f1 f2
  obtain ⟨x0, x1, x2, rfl⟩ := list_three (show xs.length = 3 from hxl)
  simp only [List.getElem?_cons_zero, List.getElem?_cons_succ] at f0 f1 f2
  obtain ⟨k, e0, y0, w0⟩ := DataW.trod_int Tryz.underlying37 f0
  obtain ⟨m, e1, y1, w1⟩ := DataW.trod_int Tryz.underlying3 f1
  obtain ⟨nm, e2, y2, w2⟩ := DataW.trod_string Tryz.underlying9 f2
  simp only [List.cons.injEq, and_true] at e0 e1 e2
  subst e0 e1 e2
  exact ⟨⟨k, m, nm⟩, rfl, w2, wf_i64 w1, wf_u8 w0⟩

theorem open_mark {H : Type} {enc : TypeId × Value → H} {W : World} (fuel : Nat) (cs : List Value) (x : DataW H × List MemPlace) (h : DataW.trod enc Tryz.prog W 0 (fun _ => true) true fuel 41 cs = some x) : ∃ y, cs = l3 (mkV y) ∧ MkF y := by
  obtain ⟨xs, n, rfl, hx, hlen, hxl, hf⟩ := DataW.trod_struct Tryz.underlying41 h
  rw [Tryz.cells41] at hlen
  obtain ⟨a, b, c, rfl⟩ := list_three hlen
  have f0 := hf 0
  have f1 := hf 1
  have f2 := hf 2
  simp [Tryz.cells9, Tryz.cells3] at f0 f1 f2
  obtain ⟨x0, x1, x2, rfl⟩ := list_three (show xs.length = 3 from hxl)
  simp only [List.getElem?_cons_zero, List.getElem?_cons_succ] at f0 f1 f2
  obtain ⟨m, e0, y0, w0⟩ := DataW.trod_int Tryz.underlying3 f0
  obtain ⟨k, e1, y1, w1⟩ := DataW.trod_string Tryz.underlying9 f1
  obtain ⟨t, e2, y2, w2⟩ := DataW.trod_string Tryz.underlying9 f2
  simp only [List.cons.injEq, and_true] at e0 e1 e2
  subst e0 e1 e2
  exact ⟨⟨m, k, t⟩, rfl, w1, w2, wf_i64 w0⟩

/-- a slice of bytes within an object -/
theorem open_data2 {H : Type} {enc : TypeId × Value → H} {W : World} {fuel : Nat} {v : Value} {x : DataW H × List MemPlace} (h : DataW.trod enc Tryz.prog W 0 (fun _ => true) true fuel 24 [v] = some x) :
    ∃ (q : Option Addr) (e : Nat) (xs : List Int), v = .slice q xs.length e ∧ Row W q xs ∧ Byt xs ∧ xs.length ≤ Rows.uptoBulk x.1 ∧ xs.length ≤ e ∧ e ≤ maxLen := by
  obtain ⟨q, e, xs, rfl, h1, h2, h3⟩ := open_data h
  refine ⟨q, e, xs, rfl, h1, h2, h3, ?_⟩
  rcases DataW.trod_slice Tryz.underlying24 h with ⟨hcs, hx⟩ | ⟨ad, l, cc, elems, rest, f, hfu, hcs, hx, _, hl, hm, hlen, hel, hsp, _⟩
  · simp only [List.cons.injEq, and_true, Value.slice.injEq] at hcs
    obtain ⟨-, e1, e2⟩ := hcs
    rw [e1, e2]; exact ⟨Nat.le_refl _, Nat.zero_le _⟩
  · simp only [List.cons.injEq, and_true, Value.slice.injEq] at hcs
    obtain ⟨-, e1, e2⟩ := hcs
    rw [e1, e2]; exact ⟨hl, hm⟩

theorem open_obj {H : Type} {enc : TypeId × Value → H} {W : World} {fuel : Nat} {cs : List Value} {x : DataW H × List MemPlace} (h : DataW.trod enc Tryz.prog W 0 (fun _ => true) true fuel 29 cs = some x) (hbulk : Rows.uptoBulk x.1 ≤ 1048576) :
    ∃ (o : Ob) (pb ps pf pm : Option Addr) (nb cb ns cs' nf cf nm cm : Nat), cs = (obA pb ps pf pm nb cb ns cs' nf cf nm cm).toList ∧ ObIn W o pb ps pf pm nb cb ns cs' nf cf nm cm ∧ nb ≤ 1048576 ∧ ns ≤ 1048576 ∧ nf ≤ 1048576 ∧ nm ≤ 1048576 := by
  obtain ⟨xs, n, rfl, hx, hlen, hxl, hf⟩ := DataW.trod_struct Tryz.underlying29 h
  rw [Tryz.cells29] at hlen
  obtain ⟨a, b, c, d, rfl⟩ := list_four hlen
  have f0 := hf 0
  have f1 := hf 1
  have f2 := hf 2
  have f3 := hf 3
  simp [Tryz.cells24, Tryz.cells25, Tryz.cells26, Tryz.cells27] at f0 f1 f2 f3
  obtain ⟨x0, x1, x2, x3, rfl⟩ := list_four (show xs.length = 4 from hxl)
  simp only [List.getElem?_cons_zero, List.getElem?_cons_succ] at f0 f1 f2 f3
  obtain ⟨qb, eb, bs, rfl, hb1, hb2, hb3, hb4, hb5⟩ := open_data2 f0
  obtain ⟨qs, es, S, rfl, hs1, hs2, hs3⟩ := opened3 syV SyF Tryz.underlying25 Tryz.cells36 open_sym f1
  obtain ⟨qf, ef, F, rfl, hf1, hf2, hf3⟩ := opened3 fxV FxF Tryz.underlying26 Tryz.cells39 open_fix f2
  obtain ⟨qm, em, M, rfl, hm1, hm2, hm3⟩ := opened3 mkV MkF Tryz.underlying27 Tryz.cells41 open_mark f3
  rw [hx] at hbulk
  simp only [Rows.uptoBulk, List.map_cons, List.map_nil, Rows.uptoBulkAll] at hbulk
  have k1 : bs.length ≤ 1048576 := by omega
  have k2 : S.length ≤ 1048576 := by omega
  have k3 : F.length ≤ 1048576 := by omega
  have k4 : M.length ≤ 1048576 := by omega
  refine ⟨⟨bs, S, F, M⟩, qb, qs, qf, qm, _, eb, _, es, _, ef, _, em, rfl, ⟨rfl, rfl, rfl, rfl, hb4, hb5, ?_, ?_, ?_, hb1, hs2, hf2, hm2, ⟨hb2, hs3, hf3, hm3⟩⟩, k1, k2, k3, k4⟩
  · unfold maxLen; omega
  · unfold maxLen; omega
  · unfold maxLen; omega

set_option maxRecDepth 20000 in
theorem open_obj_val {H : Type} {enc : TypeId × Value → H} {W : World} {base : Nat} {v : Value} {d : DataW H} {p : List MemPlace} (hv : Value.okWide Tryz.prog W .any base 29 v)
    (h : DataW.Trod enc Tryz.prog W 0 (fun _ => true) true 29 v d p) (hb : Rows.uptoBulk d ≤ 1048576) :
    ∃ (o : Ob) (pb ps pf pm : Option Addr) (nb cb ns cs' nf cf nm cm : Nat), v = .agg (obA pb ps pf pm nb cb ns cs' nf cf nm cm) ∧ ObIn W o pb ps pf pm nb cb ns cs' nf cf nm cm ∧ nb ≤ 1048576 ∧ ns ≤ 1048576 ∧ nf ≤ 1048576 ∧ nm ≤ 1048576 := by
  obtain ⟨fuel, hf⟩ := h
  simp only [Value.okWide, Tryz.underlying29] at hv
  obtain ⟨cs, rfl, _, _⟩ := hv
  obtain ⟨o, pb, ps, pf, pm, nb, cb, ns, cs', nf, cf, nm, cm, hc, hr⟩ := open_obj hf hb
  refine ⟨o, pb, ps, pf, pm, nb, cb, ns, cs', nf, cf, nm, cm, ?_, hr⟩
  have h2 : cs.toList = (obA pb ps pf pm nb cb ns cs' nf cf nm cm).toList := hc
  rw [Array.toList_inj.1 h2]

end Go.Proofs.YtkianldkbfjehaaGreatDoor
