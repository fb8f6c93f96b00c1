/- How a list of units, a unit and a list of labels that came in are opened, of every size that an argument may have. -/
import Derived.Test.YtckpgpgmaccepaaGreatHvyW
import Derived.Test.YtckpgpgmaccepaaGreatOpen
import Derived.SizedLaws
namespace Go.Proofs.YtckpgpgmaccepaaGreat
open Go.ChangeShapes Go.WideShapes Go.ChangeAt Go.RowKit

theorem Tryz.cells3 : Tryz.prog.cellsOf 3 = 1 := by kernel_rfl
theorem Tryz.cells4 : Tryz.prog.cellsOf 4 = 1 := by kernel_rfl
theorem Tryz.cells9 : Tryz.prog.cellsOf 9 = 1 := by kernel_rfl
theorem Tryz.cells114 : Tryz.prog.cellsOf 114 = 1 := by kernel_rfl
theorem Tryz.cells52 : Tryz.prog.cellsOf 52 = 1 := by kernel_rfl
theorem Tryz.cells48 : Tryz.prog.cellsOf 48 = 1 := by kernel_rfl
theorem Tryz.cells53 : Tryz.prog.cellsOf 53 = 1 := by kernel_rfl
theorem Tryz.cells54 : Tryz.prog.cellsOf 54 = 1 := by kernel_rfl
theorem Tryz.cells56 : Tryz.prog.cellsOf 56 = 4 := by kernel_rfl
theorem Tryz.cells67 : Tryz.prog.cellsOf 67 = 3 := by kernel_rfl
theorem Tryz.cells116 : Tryz.prog.cellsOf 116 = 3 := by kernel_rfl
theorem Tryz.cells58 : Tryz.prog.cellsOf 58 = 3 := by kernel_rfl
theorem Tryz.bytes67 : Tryz.prog.bytesOf 67 = 32 := by kernel_rfl
theorem Tryz.bytes116 : Tryz.prog.bytesOf 116 = 32 := by kernel_rfl
theorem Tryz.bytes58 : Tryz.prog.bytesOf 58 = 40 := by kernel_rfl
theorem Tryz.bytes56 : Tryz.prog.bytesOf 56 = 96 := by kernel_rfl

theorem list_three {X : Type} {l : List X} (h : l.length = 3) : ∃ a b c, l = [a, b, c] := by
  match l, h with
  | [a, b, c], _ => exact ⟨a, b, c, rfl⟩
theorem list_four {X : Type} {l : List X} (h : l.length = 4) : ∃ a b c d, l = [a, b, c, d] := by
  match l, h with
  | [a, b, c, d], _ => exact ⟨a, b, c, d, rfl⟩
theorem list_ofG {X : Type} {P : Nat → X → Prop} : ∀ n, (∀ i, i < n → ∃ x, P i x) → ∃ xs : List X, xs.length = n ∧ ∀ i (h : i < xs.length), P i xs[i]
  | 0, _ => ⟨[], rfl, fun i h => absurd h (by simp)⟩
  | n + 1, h => by
    obtain ⟨xs, hl, hx⟩ := list_ofG n fun i hi => h i (by omega)
    obtain ⟨x, hp⟩ := h n (by omega)
    refine ⟨xs ++ [x], by simp [hl], fun i hi => ?_⟩
    by_cases hin : i < xs.length
    · rw [List.getElem_append_left hin]; exact hx i hin
    · have : i = n := by simp at hi; omega
      subst this
      rw [List.getElem_append_right (by omega)]
      simp [hl]
      exact hp

theorem opened3 {H : Type} {enc : TypeId × Value → H} {W : World} {fuel : Nat} {v : Value} {x : DataW H × List MemPlace} {ST ET : TypeId} {X : Type} (V : X → V3) (P : X → Prop) (hu : Tryz.prog.underlying ST = some (.slice ET)) (hc3 : Tryz.prog.cellsOf ET = 3)
    (hone : ∀ (fuel : Nat) (cs : List Value) (x : DataW H × List MemPlace), DataW.trod enc Tryz.prog W 0 (fun _ => true) true fuel ET cs = some x → ∃ y, cs = l3 (V y) ∧ P y)
    (h : DataW.trod enc Tryz.prog W 0 (fun _ => true) true fuel ST [v] = some x) (hw : ∀ m ∈ x.1.weights Tryz.prog ST, m ≤ reachBytes) :
    ∃ (q : Option Addr) (e : Nat) (L : List X), v = .slice q L.length e ∧ L.length ≤ e ∧ e ≤ maxLen ∧ L.length * Tryz.prog.bytesOf ET ≤ reachBytes ∧ Row3 W q (L.map V) ∧ ∀ y ∈ L, P y := by
  rcases DataW.trod_slice hu h with ⟨hcs, hx⟩ | ⟨ad, l, cc, elems, rest, f, hfu, hcs, hx, _, hl, hm, hlen, hel, hsp, _⟩
  · simp only [List.cons.injEq, and_true] at hcs
    exact ⟨none, 0, [], by rw [hcs]; rfl, Nat.le_refl _, Nat.zero_le _, by simp, Row3.nil W none, fun y hy => by cases hy⟩
  · simp only [List.cons.injEq, and_true] at hcs
    have hwt : l * Tryz.prog.bytesOf ET ≤ reachBytes := by
      have := hw ((elems.length + rest.length) * Tryz.prog.bytesOf ET) (by rw [hx]; simp [DataW.weights, hu])
      exact Nat.le_trans (Nat.mul_le_mul_right _ (by omega)) this
    obtain ⟨L, hL, hP⟩ := list_ofG (P := fun i y => (∀ j u, (l3 (V y))[j]? = some u → W.cell? ((ad.add (i * 3)).add j) = some u) ∧ P y) l fun i hi => by
      have he := hel i hi
      rw [hc3, List.getElem?_eq_getElem (by omega), Option.bind_eq_some_iff] at he
      obtain ⟨cs, hcs, htr⟩ := he
      obtain ⟨_, hcl, hcc⟩ := World.cells?_some hcs
      obtain ⟨y, hy, hp⟩ := hone _ _ _ htr
      refine ⟨y, fun j u hu => ?_, hp⟩
      rw [← hy] at hu
      have hj : j < 3 := by rw [← hcl]; exact (List.getElem?_eq_some_iff.1 hu).1
      rw [hcc j hj]; exact hu
    refine ⟨some ad, cc, L, by rw [hcs, hL], by rw [hL]; exact hl, hm, by rw [hL]; exact hwt, fun h0 => ?_, fun y hy => ?_⟩
    · rw [List.length_map] at h0
      obtain ⟨b, o, s⟩ := ad
      obtain rfl : s = none := by
        have := (hP 0 h0).1 0 _ rfl
        simpa [Addr.add] using World.cell?_spot this
      refine ⟨b, o, rfl, fun i hi j hj => ?_⟩
      rw [List.length_map] at hi
      rw [List.getElem_map]
      have hl3 : j < (l3 (V L[i])).length := hj
      have := (hP i hi).1 j _ (List.getElem?_eq_getElem hl3)
      rw [Addr.add_mid, Addr.add_mid] at this
      rw [this, List.getElem?_eq_getElem hl3]
    · obtain ⟨i, hi, rfl⟩ := List.getElem_of_mem hy
      exact (hP i hi).2

theorem open_sym {H : Type} {enc : TypeId × Value → H} {W : World} (fuel : Nat) (cs : List Value) (x : DataW H × List MemPlace) (h : DataW.trod enc Tryz.prog W 0 (fun _ => true) true fuel 67 cs = some x) : ∃ y, cs = l3 (syV y) ∧ SyF y := by
  obtain ⟨xs, n, rfl, hx, hlen, hxl, hf⟩ := DataW.trod_struct Tryz.underlying67 h
  rw [Tryz.cells67] at hlen
  obtain ⟨a, b, c, rfl⟩ := list_three hlen
  have f0 := hf 0
  have f1 := hf 1
  have f2 := hf 2
  simp [Tryz.cells9, Tryz.cells3, Tryz.cells4] at f0 f1 f2
  obtain ⟨x0, x1, x2, rfl⟩ := list_three (show xs.length = 3 from hxl)
  simp only [List.getElem?_cons_zero, List.getElem?_cons_succ] at f0 f1 f2
  obtain ⟨nm, e0, y0, w0⟩ := DataW.trod_string Tryz.underlying9 f0
  obtain ⟨m, e1, y1, w1⟩ := DataW.trod_int Tryz.underlying3 f1
  obtain ⟨g, e2, y2⟩ := DataW.trod_bool Tryz.underlying4 f2
  simp only [List.cons.injEq, and_true] at e0 e1 e2
  subst e0 e1 e2
  exact ⟨⟨nm, m, g⟩, rfl, w0, wf_i64 w1⟩

theorem open_fix {H : Type} {enc : TypeId × Value → H} {W : World} (fuel : Nat) (cs : List Value) (x : DataW H × List MemPlace) (h : DataW.trod enc Tryz.prog W 0 (fun _ => true) true fuel 116 cs = some x) : ∃ y, cs = l3 (fxV y) ∧ FxF y := by
  obtain ⟨xs, n, rfl, hx, hlen, hxl, hf⟩ := DataW.trod_struct Tryz.underlying116 h
  rw [Tryz.cells116] at hlen
  obtain ⟨a, b, c, rfl⟩ := list_three hlen
  have f0 := hf 0
  have f1 := hf 1
  have f2 := hf 2
  simp [Tryz.cells9, Tryz.cells3, Tryz.cells114] at f0 f1 f2
  obtain ⟨x0, x1, x2, rfl⟩ := list_three (show xs.length = 3 from hxl)
  simp only [List.getElem?_cons_zero, List.getElem?_cons_succ] at f0 f1 f2
  obtain ⟨k, e0, y0, w0⟩ := DataW.trod_int Tryz.underlying114 f0
  obtain ⟨m, e1, y1, w1⟩ := DataW.trod_int Tryz.underlying3 f1
  obtain ⟨nm, e2, y2, w2⟩ := DataW.trod_string Tryz.underlying9 f2
  simp only [List.cons.injEq, and_true] at e0 e1 e2
  subst e0 e1 e2
  exact ⟨⟨k, m, nm⟩, rfl, w2, wf_i64 w1, wf_u8 w0⟩

theorem open_mark {H : Type} {enc : TypeId × Value → H} {W : World} (fuel : Nat) (cs : List Value) (x : DataW H × List MemPlace) (h : DataW.trod enc Tryz.prog W 0 (fun _ => true) true fuel 58 cs = some x) : ∃ y, cs = l3 (mkV y) ∧ MkF y := by
  obtain ⟨xs, n, rfl, hx, hlen, hxl, hf⟩ := DataW.trod_struct Tryz.underlying58 h
  rw [Tryz.cells58] at hlen
  obtain ⟨a, b, c, rfl⟩ := list_three hlen
  have f0 := hf 0
  have f1 := hf 1
  have f2 := hf 2
  simp [Tryz.cells9, Tryz.cells3] at f0 f1 f2
  obtain ⟨x0, x1, x2, rfl⟩ := list_three (show xs.length = 3 from hxl)
  simp only [List.getElem?_cons_zero, List.getElem?_cons_succ] at f0 f1 f2
  obtain ⟨m, e0, y0, w0⟩ := DataW.trod_int Tryz.underlying3 f0
  obtain ⟨k, e1, y1, w1⟩ := DataW.trod_string Tryz.underlying9 f1
  obtain ⟨t, e2, y2, w2⟩ := DataW.trod_string Tryz.underlying9 f2
  simp only [List.cons.injEq, and_true] at e0 e1 e2
  subst e0 e1 e2
  exact ⟨⟨m, k, t⟩, rfl, w1, w2, wf_i64 w0⟩

/-- a slice of bytes within a unit -/
theorem open_data {H : Type} {enc : TypeId × Value → H} {W : World} {fuel : Nat} {v : Value} {x : DataW H × List MemPlace} (h : DataW.trod enc Tryz.prog W 0 (fun _ => true) true fuel 52 [v] = some x) (hw : ∀ m ∈ x.1.weights Tryz.prog 52, m ≤ reachBytes) :
    ∃ (q : Option Addr) (e : Nat) (xs : List Int), v = .slice q xs.length e ∧ Row W q xs ∧ Byt xs ∧ xs.length ≤ e ∧ e ≤ maxLen ∧ xs.length ≤ reachBytes := by
  have hr : ∀ q n c, v = .slice q n c → n * 1 ≤ reachBytes := by
    intro q n c hv
    rcases DataW.trod_slice Tryz.underlying52 h with ⟨hcs, hx⟩ | ⟨ad, l, cc, elems, rest, f, hfu, hcs, hx, _, hl, hm, hlen, hel, hsp, _⟩
    · simp only [List.cons.injEq, and_true] at hcs
      rw [hv] at hcs
      simp only [Value.slice.injEq] at hcs
      rw [hcs.2.1]; exact Nat.zero_le _
    · simp only [List.cons.injEq, and_true] at hcs
      rw [hv] at hcs
      simp only [Value.slice.injEq] at hcs
      have := hw ((elems.length + rest.length) * Tryz.prog.bytesOf 5) (by rw [hx]; simp [DataW.weights, Tryz.underlying52])
      rw [Tryz.bytes5] at this
      rw [hcs.2.1]
      omega
  rcases open_ints Tryz.underlying52 Tryz.underlying5 Tryz.cells5 h with ⟨hcs, hx⟩ | ⟨ad, l, cc, zs, hcs, _, hl, hm, hz, hx, hcell, hwz⟩
  · simp only [List.cons.injEq, and_true] at hcs
    exact ⟨none, 0, [], by rw [hcs]; rfl, fun h => absurd h (Nat.lt_irrefl 0), fun i => by simp, Nat.le_refl _, Nat.zero_le _, Nat.zero_le _⟩
  · simp only [List.cons.injEq, and_true] at hcs
    simp only [if_true] at hz
    have hlen : (zs.take l).length = l := by rw [List.length_take]; omega
    have hrr := hr _ _ _ hcs
    refine ⟨some ad, cc, zs.take l, by rw [hcs, hlen], fun h0 => ?_, fun i => getD_of_mem (P := fun x => 0 ≤ x ∧ x ≤ 255) (by decide) (fun x hx' => wf_u8 (hwz x (List.mem_of_mem_take hx'))) i, by omega, hm, by omega⟩
    obtain ⟨b, o, s⟩ := ad
    rw [hlen] at h0
    obtain rfl : s = none := by simpa [Addr.add] using World.cell?_spot (hcell 0 (by omega))
    exact ⟨b, o, rfl, fun i hi => by rw [hlen] at hi; rw [← Go.WideShapes.add_plain, hcell i (by omega)]; simp [List.getD, show i < l by omega]⟩

theorem open_unit {H : Type} {enc : TypeId × Value → H} {W : World} {fuel : Nat} {cs : List Value} {x : DataW H × List MemPlace} (h : DataW.trod enc Tryz.prog W 0 (fun _ => true) true fuel 56 cs = some x) (hw : ∀ m ∈ x.1.weights Tryz.prog 56, m ≤ reachBytes) :
    ∃ (o : Ob) (pb ps pf pm : Option Addr) (cb cs' cf cm : Nat), cs = [.slice pb o.bs.length cb, .slice ps o.sy.length cs', .slice pf o.fx.length cf, .slice pm o.mk_.length cm] ∧ ObIn W o pb ps pf pm o.bs.length cb o.sy.length cs' o.fx.length cf o.mk_.length cm ∧ ObW o := by
  obtain ⟨xs, n, rfl, hx, hlen, hxl, hf⟩ := DataW.trod_struct Tryz.underlying56 h
  rw [Tryz.cells56] at hlen
  obtain ⟨a, b, c, d, rfl⟩ := list_four hlen
  have f0 := hf 0
  have f1 := hf 1
  have f2 := hf 2
  have f3 := hf 3
  simp [Tryz.cells52, Tryz.cells48, Tryz.cells53, Tryz.cells54] at f0 f1 f2 f3
  obtain ⟨x0, x1, x2, x3, rfl⟩ := list_four (show xs.length = 4 from hxl)
  simp only [List.getElem?_cons_zero, List.getElem?_cons_succ] at f0 f1 f2 f3
  have hin : ∀ m ∈ DataW.weightsEach Tryz.prog [52, 48, 53, 54] [x0.1, x1.1, x2.1, x3.1], m ≤ reachBytes := by
    intro m hm
    have hd' : x.1 = .agg [x0.1, x1.1, x2.1, x3.1] := by rw [hx]; rfl
    refine hw m ?_
    rw [hd']
    simp only [DataW.weights, Tryz.underlying56]
    exact hm
  obtain ⟨qb, eb, bs, rfl, hb1, hb2, hb4, hb5, k1⟩ := open_data f0 fun m hm => hin m (DataW.weights_mem_each (j := 0) rfl rfl m hm)
  obtain ⟨qs, es, S, rfl, hs0, hs1, k2, hs2, hs3⟩ := opened3 syV SyF Tryz.underlying48 Tryz.cells67 open_sym f1 fun m hm => hin m (DataW.weights_mem_each (j := 1) rfl rfl m hm)
  obtain ⟨qf, ef, F, rfl, hf0, hf1, k3, hf2, hf3⟩ := opened3 fxV FxF Tryz.underlying53 Tryz.cells116 open_fix f2 fun m hm => hin m (DataW.weights_mem_each (j := 2) rfl rfl m hm)
  obtain ⟨qm, em, M, rfl, hm0, hm1, k4, hm2, hm3⟩ := opened3 mkV MkF Tryz.underlying54 Tryz.cells58 open_mark f3 fun m hm => hin m (DataW.weights_mem_each (j := 3) rfl rfl m hm)
  rw [Tryz.bytes67] at k2
  rw [Tryz.bytes116] at k3
  rw [Tryz.bytes58] at k4
  simp only [reachBytes] at k1 k2 k3 k4
  exact ⟨⟨bs, S, F, M⟩, qb, qs, qf, qm, eb, es, ef, em, rfl, ⟨rfl, rfl, rfl, rfl, hb4, hb5, Nat.le_trans hs0 hs1, Nat.le_trans hf0 hf1, Nat.le_trans hm0 hm1, hb1, hs2, hf2, hm2, ⟨hb2, hs3, hf3, hm3⟩⟩, ⟨by show bs.length ≤ _; omega, by show S.length ≤ _; omega, by show F.length ≤ _; omega, by show M.length ≤ _; omega⟩⟩

theorem weights_all {H : Type} {P : Program} {e : TypeId} : ∀ {l : List (DataW H)} {i : Nat} {d : DataW H} {m : Nat}, l[i]? = some d → m ∈ d.weights P e → m ∈ DataW.weightsAll P e l
  | c :: l, 0, d, m, h, hm => by
    simp only [List.getElem?_cons_zero, Option.some.injEq] at h
    subst h
    simp only [DataW.weightsAll]
    exact List.mem_append_left _ hm
  | c :: l, i + 1, d, m, h, hm => by
    simp only [List.getElem?_cons_succ] at h
    simp only [DataW.weightsAll]
    exact List.mem_append_right _ (weights_all h hm)

/-- a list of units -/
theorem open_units {H : Type} {enc : TypeId × Value → H} {W : World} {fuel : Nat} {v : Value} {x : DataW H × List MemPlace} (h : DataW.trod enc Tryz.prog W 0 (fun _ => true) true fuel 22 [v] = some x) (hw : ∀ m ∈ x.1.weights Tryz.prog 22, m ≤ reachBytes) :
    ∃ (q : Option Addr) (e : Nat) (L : List Ob), v = .slice q L.length e ∧ L.length ≤ e ∧ e ≤ maxLen ∧ L.length * 96 ≤ reachBytes ∧ Units W q L ∧ ∀ y ∈ L, ObW y := by
  rcases DataW.trod_slice Tryz.underlying22 h with ⟨hcs, hx⟩ | ⟨ad, l, cc, elems, rest, f, hfu, hcs, hx, _, hl, hm, hlen, hel, hsp, _⟩
  · simp only [List.cons.injEq, and_true] at hcs
    exact ⟨none, 0, [], by rw [hcs]; rfl, Nat.le_refl _, Nat.zero_le _, by simp, fun h => absurd h (by simp), fun y hy => by cases hy⟩
  · simp only [List.cons.injEq, and_true] at hcs
    have hwt : l * 96 ≤ reachBytes := by
      have := hw ((elems.length + rest.length) * Tryz.prog.bytesOf 56) (by rw [hx]; simp [DataW.weights, Tryz.underlying22])
      rw [Tryz.bytes56] at this
      exact Nat.le_trans (Nat.mul_le_mul_right _ (by omega)) this
    have hwi : ∀ i (hi : i < elems.length), ∀ m ∈ elems[i].1.weights Tryz.prog 56, m ≤ reachBytes := by
      intro i hi m hm
      refine hw m ?_
      rw [hx]
      simp only [DataW.weights, Tryz.underlying22]
      refine List.mem_cons_of_mem _ (List.mem_append_left _ (weights_all (i := i) ?_ hm))
      rw [List.getElem?_map, List.getElem?_eq_getElem hi]; rfl
    obtain ⟨L, hL, hP⟩ := list_ofG (P := fun i (y : Ob) => ∃ (pb ps pf pm : Option Addr) (cb cs' cf cm : Nat), (∀ j u, ([.slice pb y.bs.length cb, .slice ps y.sy.length cs', .slice pf y.fx.length cf, .slice pm y.mk_.length cm] : List Value)[j]? = some u → W.cell? ((ad.add (i * 4)).add j) = some u) ∧ ObIn W y pb ps pf pm y.bs.length cb y.sy.length cs' y.fx.length cf y.mk_.length cm ∧ ObW y) l fun i hi => by
      have he := hel i hi
      rw [Tryz.cells56, List.getElem?_eq_getElem (by omega), Option.bind_eq_some_iff] at he
      obtain ⟨cs, hcs, htr⟩ := he
      obtain ⟨_, hcl, hcc⟩ := World.cells?_some hcs
      obtain ⟨y, pb, ps, pf, pm, cb, cs', cf, cm, hy, hp⟩ := open_unit htr (hwi i (by omega))
      refine ⟨y, pb, ps, pf, pm, cb, cs', cf, cm, fun j u hu => ?_, hp⟩
      rw [← hy] at hu
      have hj : j < 4 := by rw [← hcl]; exact (List.getElem?_eq_some_iff.1 hu).1
      rw [hcc j hj]; exact hu
    refine ⟨some ad, cc, L, by rw [hcs, hL], by rw [hL]; exact hl, hm, by rw [hL]; exact hwt, fun h0 => ?_, fun y hy => ?_⟩
    · obtain ⟨b, o, s⟩ := ad
      obtain rfl : s = none := by
        obtain ⟨pb, ps, pf, pm, cb, cs', cf, cm, hc, -⟩ := hP 0 h0
        have := hc 0 _ rfl
        simpa [Addr.add] using World.cell?_spot this
      refine ⟨b, o, rfl, fun i hi => ?_⟩
      obtain ⟨pb, ps, pf, pm, cb, cs', cf, cm, hc, hI, -⟩ := hP i hi
      have g0 := hc 0 _ rfl
      have g1 := hc 1 _ rfl
      have g2 := hc 2 _ rfl
      have g3 := hc 3 _ rfl
      rw [Addr.add_mid, Addr.add_mid] at g0 g1 g2 g3
      exact ⟨pb, ps, pf, pm, cb, cs', cf, cm, ⟨g0, g1, g2, g3⟩, hI⟩
    · obtain ⟨i, hi, rfl⟩ := List.getElem_of_mem hy
      obtain ⟨pb, ps, pf, pm, cb, cs', cf, cm, hc, hI, hW⟩ := hP i hi
      exact hW

theorem weights_of {H : Type} {P : Program} {ts : List TypeId} {ds : List (DataW H)} (hsz : (DataW.weightsEach P ts ds).all (· ≤ reachBytes) = true) {j : Nat} {t : TypeId} {d : DataW H} (ht : ts[j]? = some t) (hd : ds[j]? = some d) : ∀ m ∈ d.weights P t, m ≤ reachBytes := by
  intro m hm
  have := List.all_eq_true.1 hsz m (DataW.weights_mem_each ht hd m hm)
  simpa using this

set_option maxRecDepth 20000 in
theorem open_units_val {H : Type} {enc : TypeId × Value → H} {W : World} {base : Nat} {v : Value} {d : DataW H} {p : List MemPlace} (hv : Value.okWide Tryz.prog W .any base 22 v)
    (h : DataW.Trod enc Tryz.prog W 0 (fun _ => true) true 22 v d p) {ts : List TypeId} {ds : List (DataW H)} (hsz : (DataW.weightsEach Tryz.prog ts ds).all (· ≤ reachBytes) = true) {j : Nat} (ht : ts[j]? = some 22) (hd : ds[j]? = some d) :
    ∃ (q : Option Addr) (e : Nat) (L : List Ob), v = .slice q L.length e ∧ L.length ≤ e ∧ e ≤ maxLen ∧ L.length * 96 ≤ reachBytes ∧ Units W q L ∧ ∀ y ∈ L, ObW y := by
  obtain ⟨fuel, hf⟩ := h
  have hcs : v.cells.toList = [v] := by
    obtain ⟨_, _, _, rfl⟩ := Go.WideShapes.okWide_slice Tryz.underlying22 hv
    rfl
  rw [hcs] at hf
  exact open_units hf (weights_of hsz ht hd)

set_option maxRecDepth 20000 in
theorem open_syms_val {H : Type} {enc : TypeId × Value → H} {W : World} {base : Nat} {v : Value} {d : DataW H} {p : List MemPlace} (hv : Value.okWide Tryz.prog W .any base 48 v)
    (h : DataW.Trod enc Tryz.prog W 0 (fun _ => true) true 48 v d p) {ts : List TypeId} {ds : List (DataW H)} (hsz : (DataW.weightsEach Tryz.prog ts ds).all (· ≤ reachBytes) = true) {j : Nat} (ht : ts[j]? = some 48) (hd : ds[j]? = some d) :
    ∃ (q : Option Addr) (e : Nat) (L : List Sy), v = .slice q L.length e ∧ L.length ≤ e ∧ e ≤ maxLen ∧ L.length * 32 ≤ reachBytes ∧ Row3 W q (L.map syV) ∧ ∀ y ∈ L, SyF y := by
  obtain ⟨fuel, hf⟩ := h
  have hcs : v.cells.toList = [v] := by
    obtain ⟨_, _, _, rfl⟩ := Go.WideShapes.okWide_slice Tryz.underlying48 hv
    rfl
  rw [hcs] at hf
  have h2 := opened3 syV SyF Tryz.underlying48 Tryz.cells67 open_sym hf (weights_of hsz ht hd)
  rw [Tryz.bytes67] at h2
  exact h2

end Go.Proofs.YtckpgpgmaccepaaGreat
