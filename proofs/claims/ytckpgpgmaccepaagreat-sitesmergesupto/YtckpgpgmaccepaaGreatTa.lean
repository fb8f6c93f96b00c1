/- Texts put together: HvyW, OpenU, StaL, FndW, Cpy3, Copy, CpyU, RFnd, RTab, ResW, RRes, KitO, SamL, CpyL. -/
import Derived.Test.YtckpgpgmaccepaaGreatTabW
import Derived.BigQuiet
import Derived.Test.YtckpgpgmaccepaaGreatOpen
import Derived.SizedLaws
import Derived.Test.YtckpgpgmaccepaaGreatKit3
import Derived.Test.YtckpgpgmaccepaaGreatLit
import Derived.Test.YtckpgpgmaccepaaGreatRObj
import Derived.Test.YtckpgpgmaccepaaGreatRowsA
import Derived.Deep.RegionHeld3
import Derived.Test.YtckpgpgmaccepaaGreatRRefB
import Derived.Laws.AppendOwnNone
import Derived.Test.YtckpgpgmaccepaaGreatSame

/- switchyardlaw07.heavy. -/
namespace Go.Proofs.YtckpgpgmaccepaaGreat
open Go.RowKit

/-- how much a unit that came in may hold -/
def ObW (o : Ob) : Prop := o.bs.length ≤ 140737488351232 ∧ o.sy.length ≤ 4398046510976 ∧ o.fx.length ≤ 4398046510976 ∧ o.mk_.length ≤ 3518437208780


end Go.Proofs.YtckpgpgmaccepaaGreat

/- How a list of units, a unit and a list of labels that came in are opened, of every size that an argument may have. -/
namespace Go.Proofs.YtckpgpgmaccepaaGreat
open Go.ChangeShapes Go.WideShapes Go.ChangeAt Go.RowKit

theorem Tryz.cells3 : Tryz.prog.cellsOf 3 = 1 := by kernel_rfl
theorem Tryz.cells4 : Tryz.prog.cellsOf 4 = 1 := by kernel_rfl
theorem Tryz.cells9 : Tryz.prog.cellsOf 9 = 1 := by kernel_rfl
theorem Tryz.cells114 : Tryz.prog.cellsOf 114 = 1 := by kernel_rfl
theorem Tryz.cells52 : Tryz.prog.cellsOf 52 = 1 := by kernel_rfl
theorem Tryz.cells48 : Tryz.prog.cellsOf 48 = 1 := by kernel_rfl
theorem Tryz.cells53 : Tryz.prog.cellsOf 53 = 1 := by kernel_rfl
theorem Tryz.cells54 : Tryz.prog.cellsOf 54 = 1 := by kernel_rfl
theorem Tryz.cells56 : Tryz.prog.cellsOf 56 = 4 := by kernel_rfl
theorem Tryz.cells67 : Tryz.prog.cellsOf 67 = 3 := by kernel_rfl
theorem Tryz.cells116 : Tryz.prog.cellsOf 116 = 3 := by kernel_rfl
theorem Tryz.cells58 : Tryz.prog.cellsOf 58 = 3 := by kernel_rfl
theorem Tryz.bytes67 : Tryz.prog.bytesOf 67 = 32 := by kernel_rfl
theorem Tryz.bytes116 : Tryz.prog.bytesOf 116 = 32 := by kernel_rfl
theorem Tryz.bytes58 : Tryz.prog.bytesOf 58 = 40 := by kernel_rfl
theorem Tryz.bytes56 : Tryz.prog.bytesOf 56 = 96 := by kernel_rfl

theorem list_three {X : Type} {l : List X} (h : l.length = 3) : ∃ a b c, l = [a, b, c] := by
  match l, h with
  | [a, b, c], _ => exact ⟨a, b, c, rfl⟩
theorem list_four {X : Type} {l : List X} (h : l.length = 4) : ∃ a b c d, l = [a, b, c, d] := by
  match l, h with
  | [a, b, c, d], _ => exact ⟨a, b, c, d, rfl⟩
theorem list_ofG {X : Type} {P : Nat → X → Prop} : ∀ n, (∀ i, i < n → ∃ x, P i x) → ∃ xs : List X, xs.length = n ∧ ∀ i (h : i < xs.length), P i xs[i]
  | 0, _ => ⟨[], rfl, fun i h => absurd h (by simp)⟩
  | n + 1, h => by
    obtain ⟨xs, hl, hx⟩ := list_ofG n fun i hi => h i (by omega)
    obtain ⟨x, hp⟩ := h n (by omega)
    refine ⟨xs ++ [x], by simp [hl], fun i hi => ?_⟩
    by_cases hin : i < xs.length
    · rw [List.getElem_append_left hin]; exact hx i hin
    · have : i = n := by simp at hi; omega
      subst this
      rw [List.getElem_append_right (by omega)]
      simp [hl]
      exact hp

theorem opened3 {H : Type} {enc : TypeId × Value → H} {W : World} {fuel : Nat} {v : Value} {x : DataW H × List MemPlace} {ST ET : TypeId} {X : Type} (V : X → V3) (P : X → Prop) (hu : Tryz.prog.underlying ST = some (.slice ET)) (hc3 : Tryz.prog.cellsOf ET = 3)
    (hone : ∀ (fuel : Nat) (cs : List Value) (x : DataW H × List MemPlace), DataW.trod enc Tryz.prog W 0 (fun _ => true) true fuel ET cs = some x → ∃ y, cs = l3 (V y) ∧ P y)
    (h : DataW.trod enc Tryz.prog W 0 (fun _ => true) true fuel ST [v] = some x) (hw : ∀ m ∈ x.1.weights Tryz.prog ST, m ≤ reachBytes) :
    ∃ (q : Option Addr) (e : Nat) (L : List X), v = .slice q L.length e ∧ L.length ≤ e ∧ e ≤ maxLen ∧ L.length * Tryz.prog.bytesOf ET ≤ reachBytes ∧ Row3 W q (L.map V) ∧ ∀ y ∈ L, P y := by
  rcases DataW.trod_slice hu h with ⟨hcs, hx⟩ | ⟨ad, l, cc, elems, rest, f, hfu, hcs, hx, _, hl, hm, hlen, hel, hsp, _⟩
  · simp only [List.cons.injEq, and_true] at hcs
    exact ⟨none, 0, [], by rw [hcs]; rfl, Nat.le_refl _, Nat.zero_le _, by simp, Row3.nil W none, fun y hy => by cases hy⟩
  · simp only [List.cons.injEq, and_true] at hcs
    have hwt : l * Tryz.prog.bytesOf ET ≤ reachBytes := by
      have := hw ((elems.length + rest.length) * Tryz.prog.bytesOf ET) (by rw [hx]; simp [DataW.weights, hu])
      exact Nat.le_trans (Nat.mul_le_mul_right _ (by omega)) this
    obtain ⟨L, hL, hP⟩ := list_ofG (P := fun i y => (∀ j u, (l3 (V y))[j]? = some u → W.cell? ((ad.add (i * 3)).add j) = some u) ∧ P y) l fun i hi => by
      have he := hel i hi
      rw [hc3, List.getElem?_eq_getElem (by omega), Option.bind_eq_some_iff] at he
      obtain ⟨cs, hcs, htr⟩ := he
      obtain ⟨_, hcl, hcc⟩ := World.cells?_some hcs
      obtain ⟨y, hy, hp⟩ := hone _ _ _ htr
      refine ⟨y, fun j u hu => ?_, hp⟩
      rw [← hy] at hu
      have hj : j < 3 := by rw [← hcl]; exact (List.getElem?_eq_some_iff.1 hu).1
      rw [hcc j hj]; exact hu
    refine ⟨some ad, cc, L, by rw [hcs, hL], by rw [hL]; exact hl, hm, by rw [hL]; exact hwt, fun h0 => ?_, fun y hy => ?_⟩
    · rw [List.length_map] at h0
      obtain ⟨b, o, s⟩ := ad
      obtain rfl : s = none := by
        have := (hP 0 h0).1 0 _ rfl
        simpa [Addr.add] using World.cell?_spot this
      refine ⟨b, o, rfl, fun i hi j hj => ?_⟩
      rw [List.length_map] at hi
      rw [List.getElem_map]
      have hl3 : j < (l3 (V L[i])).length := hj
      have := (hP i hi).1 j _ (List.getElem?_eq_getElem hl3)
      rw [Addr.add_mid, Addr.add_mid] at this
      rw [this, List.getElem?_eq_getElem hl3]
    · obtain ⟨i, hi, rfl⟩ := List.getElem_of_mem hy
      exact (hP i hi).2

theorem open_sym {H : Type} {enc : TypeId × Value → H} {W : World} (fuel : Nat) (cs : List Value) (x : DataW H × List MemPlace) (h : DataW.trod enc Tryz.prog W 0 (fun _ => true) true fuel 67 cs = some x) : ∃ y, cs = l3 (syV y) ∧ SyF y := by
  obtain ⟨xs, n, rfl, hx, hlen, hxl, hf⟩ := DataW.trod_struct Tryz.underlying67 h
  rw [Tryz.cells67] at hlen
  obtain ⟨a, b, c, rfl⟩ := list_three hlen
  have f0 := hf 0
  have f1 := hf 1
  have f2 := hf 2
  simp [Tryz.cells9, Tryz.cells3, Tryz.cells4] at f0 f1 f2
  obtain ⟨x0, x1, x2, rfl⟩ := list_three (show xs.length = 3 from hxl)
  simp only [List.getElem?_cons_zero, List.getElem?_cons_succ] at f0 f1 f2
  obtain ⟨nm, e0, y0, w0⟩ := DataW.trod_string Tryz.underlying9 f0
  obtain ⟨m, e1, y1, w1⟩ := DataW.trod_int Tryz.underlying3 f1
  obtain ⟨g, e2, y2⟩ := DataW.trod_bool Tryz.underlying4 f2
  simp only [List.cons.injEq, and_true] at e0 e1 e2
  subst e0 e1 e2
  exact ⟨⟨nm, m, g⟩, rfl, w0, wf_i64 w1⟩

theorem open_fix {H : Type} {enc : TypeId × Value → H} {W : World} (fuel : Nat) (cs : List Value) (x : DataW H × List MemPlace) (h : DataW.trod enc Tryz.prog W 0 (fun _ => true) true fuel 116 cs = some x) : ∃ y, cs = l3 (fxV y) ∧ FxF y := by
  obtain ⟨xs, n, rfl, hx, hlen, hxl, hf⟩ := DataW.trod_struct Tryz.underlying116 h
  rw [Tryz.cells116] at hlen
  obtain ⟨a, b, c, rfl⟩ := list_three hlen
  have f0 := hf 0
  have f1 := hf 1
  have f2 := hf 2
  simp [Tryz.cells9, Tryz.cells3, Tryz.cells114] at f0 f1 f2
  obtain ⟨x0, x1, x2, rfl⟩ := list_three (show xs.length = 3 from hxl)
  simp only [List.getElem?_cons_zero, List.getElem?_cons_succ] at f0 f1 f2
  obtain ⟨k, e0, y0, w0⟩ := DataW.trod_int Tryz.underlying114 f0
  obtain ⟨m, e1, y1, w1⟩ := DataW.trod_int Tryz.underlying3 f1
  obtain ⟨nm, e2, y2, w2⟩ := DataW.trod_string Tryz.underlying9 f2
  simp only [List.cons.injEq, and_true] at e0 e1 e2
  subst e0 e1 e2
  exact ⟨⟨k, m, nm⟩, rfl, w2, wf_i64 w1, wf_u8 w0⟩

theorem open_mark {H : Type} {enc : TypeId × Value → H} {W : World} (fuel : Nat) (cs : List Value) (x : DataW H × List MemPlace) (h : DataW.trod enc Tryz.prog W 0 (fun _ => true) true fuel 58 cs = some x) : ∃ y, cs = l3 (mkV y) ∧ MkF y := by
  obtain ⟨xs, n, rfl, hx, hlen, hxl, hf⟩ := DataW.trod_struct Tryz.underlying58 h
  rw [Tryz.cells58] at hlen
  obtain ⟨a, b, c, rfl⟩ := list_three hlen
  have f0 := hf 0
  have f1 := hf 1
  have f2 := hf 2
  simp [Tryz.cells9, Tryz.cells3] at f0 f1 f2
  obtain ⟨x0, x1, x2, rfl⟩ := list_three (show xs.length = 3 from hxl)
  simp only [List.getElem?_cons_zero, List.getElem?_cons_succ] at f0 f1 f2
  obtain ⟨m, e0, y0, w0⟩ := DataW.trod_int Tryz.underlying3 f0
  obtain ⟨k, e1, y1, w1⟩ := DataW.trod_string Tryz.underlying9 f1
  obtain ⟨t, e2, y2, w2⟩ := DataW.trod_string Tryz.underlying9 f2
  simp only [List.cons.injEq, and_true] at e0 e1 e2
  subst e0 e1 e2
  exact ⟨⟨m, k, t⟩, rfl, w1, w2, wf_i64 w0⟩

/-- a slice of bytes within a unit -/
theorem open_data {H : Type} {enc : TypeId × Value → H} {W : World} {fuel : Nat} {v : Value} {x : DataW H × List MemPlace} (h : DataW.trod enc Tryz.prog W 0 (fun _ => true) true fuel 52 [v] = some x) (hw : ∀ m ∈ x.1.weights Tryz.prog 52, m ≤ reachBytes) :
    ∃ (q : Option Addr) (e : Nat) (xs : List Int), v = .slice q xs.length e ∧ Row W q xs ∧ Byt xs ∧ xs.length ≤ e ∧ e ≤ maxLen ∧ xs.length ≤ reachBytes := by
  have hr : ∀ q n c, v = .slice q n c → n * 1 ≤ reachBytes := by
    intro q n c hv
    rcases DataW.trod_slice Tryz.underlying52 h with ⟨hcs, hx⟩ | ⟨ad, l, cc, elems, rest, f, hfu, hcs, hx, _, hl, hm, hlen, hel, hsp, _⟩
    · simp only [List.cons.injEq, and_true] at hcs
      rw [hv] at hcs
      simp only [Value.slice.injEq] at hcs
      rw [hcs.2.1]; exact Nat.zero_le _
    · simp only [List.cons.injEq, and_true] at hcs
      rw [hv] at hcs
      simp only [Value.slice.injEq] at hcs
      have := hw ((elems.length + rest.length) * Tryz.prog.bytesOf 5) (by rw [hx]; simp [DataW.weights, Tryz.underlying52])
      rw [Tryz.bytes5] at this
      rw [hcs.2.1]
      omega
  rcases open_ints Tryz.underlying52 Tryz.underlying5 Tryz.cells5 h with ⟨hcs, hx⟩ | ⟨ad, l, cc, zs, hcs, _, hl, hm, hz, hx, hcell, hwz⟩
  · simp only [List.cons.injEq, and_true] at hcs
    exact ⟨none, 0, [], by rw [hcs]; rfl, fun h => absurd h (Nat.lt_irrefl 0), fun i => by simp, Nat.le_refl _, Nat.zero_le _, Nat.zero_le _⟩
  · simp only [List.cons.injEq, and_true] at hcs
    simp only [if_true] at hz
    have hlen : (zs.take l).length = l := by rw [List.length_take]; omega
    have hrr := hr _ _ _ hcs
    refine ⟨some ad, cc, zs.take l, by rw [hcs, hlen], fun h0 => ?_, fun i => getD_of_mem (P := fun x => 0 ≤ x ∧ x ≤ 255) (by decide) (fun x hx' => wf_u8 (hwz x (List.mem_of_mem_take hx'))) i, by omega, hm, by omega⟩
    obtain ⟨b, o, s⟩ := ad
    rw [hlen] at h0
    obtain rfl : s = none := by simpa [Addr.add] using World.cell?_spot (hcell 0 (by omega))
    exact ⟨b, o, rfl, fun i hi => by rw [hlen] at hi; rw [← Go.WideShapes.add_plain, hcell i (by omega)]; simp [List.getD, show i < l by omega]⟩

theorem open_unit {H : Type} {enc : TypeId × Value → H} {W : World} {fuel : Nat} {cs : List Value} {x : DataW H × List MemPlace} (h : DataW.trod enc Tryz.prog W 0 (fun _ => true) true fuel 56 cs = some x) (hw : ∀ m ∈ x.1.weights Tryz.prog 56, m ≤ reachBytes) :
    ∃ (o : Ob) (pb ps pf pm : Option Addr) (cb cs' cf cm : Nat), cs = [.slice pb o.bs.length cb, .slice ps o.sy.length cs', .slice pf o.fx.length cf, .slice pm o.mk_.length cm] ∧ ObIn W o pb ps pf pm o.bs.length cb o.sy.length cs' o.fx.length cf o.mk_.length cm ∧ ObW o := by
  obtain ⟨xs, n, rfl, hx, hlen, hxl, hf⟩ := DataW.trod_struct Tryz.underlying56 h
  rw [Tryz.cells56] at hlen
  obtain ⟨a, b, c, d, rfl⟩ := list_four hlen
  have f0 := hf 0
  have f1 := hf 1
  have f2 := hf 2
  have f3 := hf 3
  simp [Tryz.cells52, Tryz.cells48, Tryz.cells53, Tryz.cells54] at f0 f1 f2 f3
  obtain ⟨x0, x1, x2, x3, rfl⟩ := list_four (show xs.length = 4 from hxl)
  simp only [List.getElem?_cons_zero, List.getElem?_cons_succ] at f0 f1 f2 f3
  have hin : ∀ m ∈ DataW.weightsEach Tryz.prog [52, 48, 53, 54] [x0.1, x1.1, x2.1, x3.1], m ≤ reachBytes := by
    intro m hm
    have hd' : x.1 = .agg [x0.1, x1.1, x2.1, x3.1] := by rw [hx]; rfl
    refine hw m ?_
    rw [hd']
    simp only [DataW.weights, Tryz.underlying56]
    exact hm
  obtain ⟨qb, eb, bs, rfl, hb1, hb2, hb4, hb5, k1⟩ := open_data f0 fun m hm => hin m (DataW.weights_mem_each (j := 0) rfl rfl m hm)
  obtain ⟨qs, es, S, rfl, hs0, hs1, k2, hs2, hs3⟩ := opened3 syV SyF Tryz.underlying48 Tryz.cells67 open_sym f1 fun m hm => hin m (DataW.weights_mem_each (j := 1) rfl rfl m hm)
  obtain ⟨qf, ef, F, rfl, hf0, hf1, k3, hf2, hf3⟩ := opened3 fxV FxF Tryz.underlying53 Tryz.cells116 open_fix f2 fun m hm => hin m (DataW.weights_mem_each (j := 2) rfl rfl m hm)
  obtain ⟨qm, em, M, rfl, hm0, hm1, k4, hm2, hm3⟩ := opened3 mkV MkF Tryz.underlying54 Tryz.cells58 open_mark f3 fun m hm => hin m (DataW.weights_mem_each (j := 3) rfl rfl m hm)
  rw [Tryz.bytes67] at k2
  rw [Tryz.bytes116] at k3
  rw [Tryz.bytes58] at k4
  simp only [reachBytes] at k1 k2 k3 k4
  exact ⟨⟨bs, S, F, M⟩, qb, qs, qf, qm, eb, es, ef, em, rfl, ⟨rfl, rfl, rfl, rfl, hb4, hb5, Nat.le_trans hs0 hs1, Nat.le_trans hf0 hf1, Nat.le_trans hm0 hm1, hb1, hs2, hf2, hm2, ⟨hb2, hs3, hf3, hm3⟩⟩, ⟨by show bs.length ≤ _; omega, by show S.length ≤ _; omega, by show F.length ≤ _; omega, by show M.length ≤ _; omega⟩⟩

theorem weights_all {H : Type} {P : Program} {e : TypeId} : ∀ {l : List (DataW H)} {i : Nat} {d : DataW H} {m : Nat}, l[i]? = some d → m ∈ d.weights P e → m ∈ DataW.weightsAll P e l
  | c :: l, 0, d, m, h, hm => by
    simp only [List.getElem?_cons_zero, Option.some.injEq] at h
    subst h
    simp only [DataW.weightsAll]
    exact List.mem_append_left _ hm
  | c :: l, i + 1, d, m, h, hm => by
    simp only [List.getElem?_cons_succ] at h
    simp only [DataW.weightsAll]
    exact List.mem_append_right _ (weights_all h hm)

/-- a list of units -/
theorem open_units {H : Type} {enc : TypeId × Value → H} {W : World} {fuel : Nat} {v : Value} {x : DataW H × List MemPlace} (h : DataW.trod enc Tryz.prog W 0 (fun _ => true) true fuel 22 [v] = some x) (hw : ∀ m ∈ x.1.weights Tryz.prog 22, m ≤ reachBytes) :
    ∃ (q : Option Addr) (e : Nat) (L : List Ob), v = .slice q L.length e ∧ L.length ≤ e ∧ e ≤ maxLen ∧ L.length * 96 ≤ reachBytes ∧ Units W q L ∧ ∀ y ∈ L, ObW y := by
  rcases DataW.trod_slice Tryz.underlying22 h with ⟨hcs, hx⟩ | ⟨ad, l, cc, elems, rest, f, hfu, hcs, hx, _, hl, hm, hlen, hel, hsp, _⟩
  · simp only [List.cons.injEq, and_true] at hcs
    exact ⟨none, 0, [], by rw [hcs]; rfl, Nat.le_refl _, Nat.zero_le _, by simp, fun h => absurd h (by simp), fun y hy => by cases hy⟩
  · simp only [List.cons.injEq, and_true] at hcs
    have hwt : l * 96 ≤ reachBytes := by
      have := hw ((elems.length + rest.length) * Tryz.prog.bytesOf 56) (by rw [hx]; simp [DataW.weights, Tryz.underlying22])
      rw [Tryz.bytes56] at this
      exact Nat.le_trans (Nat.mul_le_mul_right _ (by omega)) this
    have hwi : ∀ i (hi : i < elems.length), ∀ m ∈ elems[i].1.weights Tryz.prog 56, m ≤ reachBytes := by
      intro i hi m hm
      refine hw m ?_
      rw [hx]
      simp only [DataW.weights, Tryz.underlying22]
      refine List.mem_cons_of_mem _ (List.mem_append_left _ (weights_all (i := i) ?_ hm))
      rw [List.getElem?_map, List.getElem?_eq_getElem hi]; rfl
    obtain ⟨L, hL, hP⟩ := list_ofG (P := fun i (y : Ob) => ∃ (pb ps pf pm : Option Addr) (cb cs' cf cm : Nat), (∀ j u, ([.slice pb y.bs.length cb, .slice ps y.sy.length cs', .slice pf y.fx.length cf, .slice pm y.mk_.length cm] : List Value)[j]? = some u → W.cell? ((ad.add (i * 4)).add j) = some u) ∧ ObIn W y pb ps pf pm y.bs.length cb y.sy.length cs' y.fx.length cf y.mk_.length cm ∧ ObW y) l fun i hi => by
      have he := hel i hi
      rw [Tryz.cells56, List.getElem?_eq_getElem (by omega), Option.bind_eq_some_iff] at he
      obtain ⟨cs, hcs, htr⟩ := he
      obtain ⟨_, hcl, hcc⟩ := World.cells?_some hcs
      obtain ⟨y, pb, ps, pf, pm, cb, cs', cf, cm, hy, hp⟩ := open_unit htr (hwi i (by omega))
      refine ⟨y, pb, ps, pf, pm, cb, cs', cf, cm, fun j u hu => ?_, hp⟩
      rw [← hy] at hu
      have hj : j < 4 := by rw [← hcl]; exact (List.getElem?_eq_some_iff.1 hu).1
      rw [hcc j hj]; exact hu
    refine ⟨some ad, cc, L, by rw [hcs, hL], by rw [hL]; exact hl, hm, by rw [hL]; exact hwt, fun h0 => ?_, fun y hy => ?_⟩
    · obtain ⟨b, o, s⟩ := ad
      obtain rfl : s = none := by
        obtain ⟨pb, ps, pf, pm, cb, cs', cf, cm, hc, -⟩ := hP 0 h0
        have := hc 0 _ rfl
        simpa [Addr.add] using World.cell?_spot this
      refine ⟨b, o, rfl, fun i hi => ?_⟩
      obtain ⟨pb, ps, pf, pm, cb, cs', cf, cm, hc, hI, -⟩ := hP i hi
      have g0 := hc 0 _ rfl
      have g1 := hc 1 _ rfl
      have g2 := hc 2 _ rfl
      have g3 := hc 3 _ rfl
      rw [Addr.add_mid, Addr.add_mid] at g0 g1 g2 g3
      exact ⟨pb, ps, pf, pm, cb, cs', cf, cm, ⟨g0, g1, g2, g3⟩, hI⟩
    · obtain ⟨i, hi, rfl⟩ := List.getElem_of_mem hy
      obtain ⟨pb, ps, pf, pm, cb, cs', cf, cm, hc, hI, hW⟩ := hP i hi
      exact hW

theorem weights_of {H : Type} {P : Program} {ts : List TypeId} {ds : List (DataW H)} (hsz : (DataW.weightsEach P ts ds).all (· ≤ reachBytes) = true) {j : Nat} {t : TypeId} {d : DataW H} (ht : ts[j]? = some t) (hd : ds[j]? = some d) : ∀ m ∈ d.weights P t, m ≤ reachBytes := by
  intro m hm
  have := List.all_eq_true.1 hsz m (DataW.weights_mem_each ht hd m hm)
  simpa using this

set_option maxRecDepth 20000 in
theorem open_units_val {H : Type} {enc : TypeId × Value → H} {W : World} {base : Nat} {v : Value} {d : DataW H} {p : List MemPlace} (hv : Value.okWide Tryz.prog W .any base 22 v)
    (h : DataW.Trod enc Tryz.prog W 0 (fun _ => true) true 22 v d p) {ts : List TypeId} {ds : List (DataW H)} (hsz : (DataW.weightsEach Tryz.prog ts ds).all (· ≤ reachBytes) = true) {j : Nat} (ht : ts[j]? = some 22) (hd : ds[j]? = some d) :
    ∃ (q : Option Addr) (e : Nat) (L : List Ob), v = .slice q L.length e ∧ L.length ≤ e ∧ e ≤ maxLen ∧ L.length * 96 ≤ reachBytes ∧ Units W q L ∧ ∀ y ∈ L, ObW y := by
  obtain ⟨fuel, hf⟩ := h
  have hcs : v.cells.toList = [v] := by
    obtain ⟨_, _, _, rfl⟩ := Go.WideShapes.okWide_slice Tryz.underlying22 hv
    rfl
  rw [hcs] at hf
  exact open_units hf (weights_of hsz ht hd)

set_option maxRecDepth 20000 in
theorem open_syms_val {H : Type} {enc : TypeId × Value → H} {W : World} {base : Nat} {v : Value} {d : DataW H} {p : List MemPlace} (hv : Value.okWide Tryz.prog W .any base 48 v)
    (h : DataW.Trod enc Tryz.prog W 0 (fun _ => true) true 48 v d p) {ts : List TypeId} {ds : List (DataW H)} (hsz : (DataW.weightsEach Tryz.prog ts ds).all (· ≤ reachBytes) = true) {j : Nat} (ht : ts[j]? = some 48) (hd : ds[j]? = some d) :
    ∃ (q : Option Addr) (e : Nat) (L : List Sy), v = .slice q L.length e ∧ L.length ≤ e ∧ e ≤ maxLen ∧ L.length * 32 ≤ reachBytes ∧ Row3 W q (L.map syV) ∧ ∀ y ∈ L, SyF y := by
  obtain ⟨fuel, hf⟩ := h
  have hcs : v.cells.toList = [v] := by
    obtain ⟨_, _, _, rfl⟩ := Go.WideShapes.okWide_slice Tryz.underlying48 hv
    rfl
  rw [hcs] at hf
  have h2 := opened3 syV SyF Tryz.underlying48 Tryz.cells67 open_sym hf (weights_of hsz ht hd)
  rw [Tryz.bytes67] at h2
  exact h2

end Go.Proofs.YtckpgpgmaccepaaGreat

/- What a table is, unit by unit: where units begin and end, their labels, and that each is found (lists alone). -/
namespace Go.Proofs.YtckpgpgmaccepaaGreat
open Go.RowKit

/-- where the unit ahead of the one at i ends -/
def endAt : Nat → List Ob → Nat → Nat
  | e, _, 0 => e
  | e, [], _ + 1 => e
  | e, o :: os, i + 1 => endAt (nextS e + o.bs.length) os i
def begs : Nat → List Ob → List Nat
  | _, [] => []
  | e, o :: os => nextS e :: begs (nextS e + o.bs.length) os
def labs : Nat → List Ob → List Sy
  | _, [] => []
  | e, o :: os => o.sy.map (movS (nextS e)) ++ labs (nextS e + o.bs.length) os
/-- how many labels the units ahead of the one at i have -/
def cntAt : List Ob → Nat → Nat
  | _, 0 => 0
  | [], _ + 1 => 0
  | o :: os, i + 1 => o.sy.length + cntAt os i

theorem endAt_zero (e : Nat) (xs : List Ob) : endAt e xs 0 = e := by cases xs <;> rfl
theorem cntAt_zero (xs : List Ob) : cntAt xs 0 = 0 := by cases xs <;> rfl
theorem begs_len : ∀ (xs : List Ob) (e : Nat), (begs e xs).length = xs.length
  | [], _ => rfl
  | o :: os, e => by simp [begs, begs_len os]
theorem begs_at : ∀ (xs : List Ob) (e i : Nat) (h : i < xs.length), (begs e xs)[i]'(by rw [begs_len]; exact h) = nextS (endAt e xs i)
  | o :: os, e, 0, _ => rfl
  | o :: os, e, i + 1, h => begs_at os _ i (by simpa using h)
theorem endAt_succ : ∀ (xs : List Ob) (e i : Nat) (h : i < xs.length), endAt e xs (i + 1) = nextS (endAt e xs i) + xs[i].bs.length
  | o :: os, e, 0, _ => endAt_zero (nextS e + o.bs.length) os
  | o :: os, e, i + 1, h => endAt_succ os _ i (by simpa using h)
theorem cntAt_succ : ∀ (xs : List Ob) (i : Nat) (h : i < xs.length), cntAt xs (i + 1) = cntAt xs i + xs[i].sy.length
  | o :: os, 0, _ => by show o.sy.length + cntAt os 0 = 0 + o.sy.length; rw [cntAt_zero]; omega
  | o :: os, i + 1, h => by
    show o.sy.length + cntAt os (i + 1) = o.sy.length + cntAt os i + (os[i]'(by simpa using h)).sy.length
    rw [cntAt_succ os i (by simpa using h)]; omega
theorem labs_len : ∀ (xs : List Ob) (e : Nat), (labs e xs).length = cntAt xs xs.length
  | [], _ => rfl
  | o :: os, e => by
    show (o.sy.map (movS (nextS e)) ++ labs (nextS e + o.bs.length) os).length = o.sy.length + cntAt os os.length
    rw [List.length_append, List.length_map, labs_len os]
theorem cntAt_le : ∀ (xs : List Ob) (i : Nat), i ≤ xs.length → cntAt xs i ≤ cntAt xs xs.length
  | _, 0, _ => by rw [cntAt_zero]; exact Nat.zero_le _
  | o :: os, i + 1, h => by
    show o.sy.length + cntAt os i ≤ o.sy.length + cntAt os os.length
    have := cntAt_le os i (by simpa using h); omega
theorem labs_at : ∀ (xs : List Ob) (e i j : Nat) (h : i < xs.length) (hj : j < xs[i].sy.length), (labs e xs)[cntAt xs i + j]? = some (movS (nextS (endAt e xs i)) xs[i].sy[j])
  | o :: os, e, 0, j, _, hj => by
    show (o.sy.map (movS (nextS e)) ++ labs (nextS e + o.bs.length) os)[0 + j]? = some (movS (nextS e) o.sy[j])
    have hj' : j < o.sy.length := hj
    rw [Nat.zero_add, List.getElem?_append_left (by rw [List.length_map]; exact hj'), List.getElem?_map, List.getElem?_eq_getElem hj']; rfl
  | o :: os, e, i + 1, j, h, hj => by
    show (o.sy.map (movS (nextS e)) ++ labs (nextS e + o.bs.length) os)[o.sy.length + cntAt os i + j]? = _
    rw [List.getElem?_append_right (by rw [List.length_map]; omega), List.length_map, show o.sy.length + cntAt os i + j - o.sy.length = cntAt os i + j by omega]
    exact labs_at os _ i j (by simpa using h) hj
theorem labs_app : ∀ (xs ys : List Ob) (e : Nat), labs e (xs ++ ys) = labs e xs ++ labs (endAt e xs xs.length) ys
  | [], ys, e => rfl
  | o :: os, ys, e => by
    show o.sy.map (movS (nextS e)) ++ labs _ (os ++ ys) = (o.sy.map (movS (nextS e)) ++ labs _ os) ++ labs (endAt (nextS e + o.bs.length) os os.length) ys
    rw [labs_app os ys, List.append_assoc]
theorem begs_app : ∀ (xs ys : List Ob) (e : Nat), begs e (xs ++ ys) = begs e xs ++ begs (endAt e xs xs.length) ys
  | [], ys, e => rfl
  | o :: os, ys, e => by
    show nextS e :: begs _ (os ++ ys) = nextS e :: (begs _ os ++ begs (endAt (nextS e + o.bs.length) os os.length) ys)
    rw [begs_app os ys]

theorem noTab_e {e : Int} {u : Nat} : (noTab e u).e = e := rfl
theorem glo_next {ts : List Sy} {o : Ob} (hd : ¬ dupS (gloS ts) o.sy = true) (s : Nat) (hn : (gloS ts).Nodup) (hnd : (names o.sy).Nodup) : (gloS (ts ++ o.sy.map (movS s))).Nodup := by
  rw [gloS_app, gloS_mov, List.nodup_append]
  refine ⟨hn, ?_, fun a ha b hb hab => ?_⟩
  · have : gloS o.sy = ((o.sy.filter fun x => x.g).map Sy.name) := rfl
    rw [this]
    exact List.Nodup.sublist (List.Sublist.map _ List.filter_sublist) hnd
  · subst hab
    refine hd ?_
    unfold dupS
    rw [List.any_eq_true]
    unfold gloS at hb
    rw [List.mem_map] at hb
    obtain ⟨x, hx, rfl⟩ := hb
    rw [List.mem_filter] at hx
    exact ⟨x, hx.1, by rw [hx.2, Bool.true_and, inB_iff]; exact ha⟩
theorem ok_nodup {o : Ob} (h : okO o = true) : (names o.sy).Nodup := (ok_parts h).2.2.1

theorem tabGo_eq : ∀ (xs : List Ob) (i e : Nat) (ss : List Nat) (ts : List Sy), (tabGo i e ss ts xs).e = 0 → tabGo i e ss ts xs = ⟨ss ++ begs e xs, ts ++ labs e xs, 0, 0⟩ ∧ (∀ x ∈ xs, okO x = true) ∧ (∀ j, 0 < j → j ≤ xs.length → endAt e xs j ≤ 65536) ∧ ((gloS ts).Nodup → (gloS (ts ++ labs e xs)).Nodup)
  | [], i, e, ss, ts, _ => by
    refine ⟨by simp [tabGo, begs, labs], fun x hx => (by cases hx), fun j h1 h2 => ?_, fun h => (by simpa [labs] using h)⟩
    have h3 : j ≤ 0 := h2
    omega
  | o :: os, i, e, ss, ts, h => by
    unfold tabGo at h ⊢
    by_cases h1 : okO o = false
    · rw [if_pos h1] at h; cases h
    rw [if_neg h1] at h ⊢
    by_cases h2 : nextS e + o.bs.length > 65536
    · rw [if_pos h2] at h; cases h
    rw [if_neg h2] at h ⊢
    by_cases h3 : dupS (gloS ts) o.sy = true
    · rw [if_pos h3] at h; cases h
    rw [if_neg h3] at h ⊢
    have hk : okO o = true := by simpa using h1
    obtain ⟨e1, e2, e3, e4⟩ := tabGo_eq os _ _ _ _ h
    refine ⟨?_, ?_, ?_, ?_⟩
    · rw [e1]
      simp [begs, labs]
    · intro x hx
      rcases List.mem_cons.1 hx with rfl | hx
      · exact hk
      · exact e2 x hx
    · intro j hj0 hj
      cases j with
      | zero => exact absurd hj0 (by omega)
      | succ j =>
        show endAt (nextS e + o.bs.length) os j ≤ 65536
        cases j with
        | zero => rw [endAt_zero]; omega
        | succ j => exact e3 _ (by omega) (by simpa using hj)
    · intro hn
      have := e4 (glo_next h3 _ hn (ok_nodup hk))
      simpa [labs, List.append_assoc] using this
theorem tabGo_bad : ∀ (xs : List Ob) (i e : Nat) (ss : List Nat) (ts : List Sy), (tabGo i e ss ts xs).e ≠ 0 → ∃ x u, tabGo i e ss ts xs = noTab x u ∧ i ≤ u ∧ u < i + xs.length
  | [], i, e, ss, ts, h => absurd rfl h
  | o :: os, i, e, ss, ts, h => by
    unfold tabGo at h ⊢
    by_cases h1 : okO o = false
    · rw [if_pos h1]; exact ⟨_, _, rfl, by omega, by simp⟩
    rw [if_neg h1] at h ⊢
    by_cases h2 : nextS e + o.bs.length > 65536
    · rw [if_pos h2]; exact ⟨_, _, rfl, by omega, by simp⟩
    rw [if_neg h2] at h ⊢
    by_cases h3 : dupS (gloS ts) o.sy = true
    · rw [if_pos h3]; exact ⟨_, _, rfl, by omega, by simp⟩
    rw [if_neg h3] at h ⊢
    obtain ⟨x, u, k1, k2, k3⟩ := tabGo_bad os _ _ _ _ h
    exact ⟨x, u, k1, by omega, by simp; omega⟩

theorem tab_good {xs : List Ob} (h : (tabL xs).e = 0) : xs.length ≤ 16 ∧ tabL xs = ⟨begs 0 xs, labs 0 xs, 0, 0⟩ ∧ (∀ x ∈ xs, okO x = true) ∧ (∀ j, j ≤ xs.length → endAt 0 xs j ≤ 65536) ∧ (gloS (labs 0 xs)).Nodup := by
  unfold tabL at h ⊢
  by_cases h1 : xs.length > 16
  · rw [if_pos h1] at h; cases h
  rw [if_neg h1] at h ⊢
  obtain ⟨e1, e2, e3, e4⟩ := tabGo_eq xs 0 0 [] [] h
  refine ⟨by omega, by simpa using e1, e2, fun j hj => ?_, by simpa using e4 List.nodup_nil⟩
  cases j with
  | zero => rw [endAt_zero]; omega
  | succ j => exact e3 _ (by omega) hj
theorem tab_bad {xs : List Ob} (h : (tabL xs).e ≠ 0) : (tabL xs).ss = [] ∧ (tabL xs).ts = [] ∧ ((tabL xs).u < xs.length ∨ xs.length = 0) := by
  unfold tabL at h ⊢
  by_cases h1 : xs.length > 16
  · rw [if_pos h1]; exact ⟨rfl, rfl, Or.inl (show 0 < xs.length by omega)⟩
  rw [if_neg h1] at h ⊢
  obtain ⟨x, u, k1, k2, k3⟩ := tabGo_bad xs 0 0 [] [] h
  rw [k1]
  exact ⟨rfl, rfl, Or.inl (show u < xs.length by omega)⟩

theorem find_nam : ∀ {L : List Sy} {x : Sy}, (names L).Nodup → x ∈ L → findN L x.name = some x.at_
  | y :: L, x, hn, hx => by
    unfold findN
    rw [List.find?_cons]
    have hn' : (y.name :: names L).Nodup := hn
    rw [List.nodup_cons] at hn'
    rcases List.mem_cons.1 hx with rfl | hx
    · simp
    · have hne : ¬ y.name = x.name := fun e => hn'.1 (by rw [e]; exact List.mem_map.2 ⟨x, hx, rfl⟩)
      rw [decide_eq_false hne]
      exact find_nam hn'.2 hx
theorem findN_none {L : List Sy} {s : ByteArray} (h : ∀ x ∈ L, ¬ x.name = s) : findN L s = none := by
  unfold findN
  rw [Option.map_eq_none_iff, List.find?_eq_none]
  intro x hx
  simp [h x hx]
theorem find_glo : ∀ {L : List Sy} {x : Sy}, (gloS L).Nodup → x ∈ L → x.g = true → findG L x.name = some x.at_
  | y :: L, x, hn, hx, hg => by
    unfold findG
    rw [List.find?_cons]
    have e1 : gloS (y :: L) = (if y.g = true then [y.name] else []) ++ gloS L := by
      unfold gloS
      rw [List.filter_cons]
      by_cases h : y.g = true
      · rw [if_pos h, if_pos h]; rfl
      · rw [if_neg h, if_neg h]; rfl
    rw [e1, List.nodup_append] at hn
    rcases List.mem_cons.1 hx with rfl | hx
    · simp [hg]
    · by_cases h : y.g = true
      · have hne : ¬ y.name = x.name := fun e => by
          rw [if_pos h] at hn
          refine hn.2.2 y.name (List.mem_singleton.2 rfl) x.name ?_ e
          unfold gloS
          exact List.mem_map.2 ⟨x, List.mem_filter.2 ⟨hx, hg⟩, rfl⟩
        rw [h, decide_eq_false hne]
        exact find_glo hn.2.1 hx hg
      · have h' : y.g = false := by simpa using h
        rw [h', Bool.false_and]
        exact find_glo hn.2.1 hx hg
theorem findG_app {A B : List Sy} {s : ByteArray} {a : Int} (h : findG A s = some a) : findG (A ++ B) s = some a := by
  unfold findG at h ⊢
  rw [List.find?_append]
  cases hf : A.find? (fun x => x.g && decide (x.name = s)) with
  | none => rw [hf] at h; cases h
  | some y => rw [hf] at h; simpa using h
theorem labs_mem : ∀ {xs : List Ob} {e i : Nat} (h : i < xs.length) {x : Sy}, x ∈ xs[i].sy → movS (nextS (endAt e xs i)) x ∈ labs e xs
  | o :: os, e, 0, _, x, hx => List.mem_append_left _ (List.mem_map.2 ⟨x, hx, by rw [endAt_zero]⟩)
  | o :: os, e, i + 1, h, x, hx => List.mem_append_right _ (labs_mem (xs := os) (i := i) (by simpa using h) hx)

/-- each label is found by its own unit -/
theorem res_own {xs : List Ob} (h : (tabL xs).e = 0) {i : Nat} (hi : i < xs.length) {x : Sy} (hx : x ∈ xs[i].sy) : resL xs i x.name = (((nextS (endAt 0 xs i) : Nat) : Int) + x.at_, 0) := by
  obtain ⟨-, ht, hk, -, -⟩ := tab_good h
  unfold resL
  rw [if_neg (by simpa using h), dif_pos ⟨Int.natCast_nonneg i, by exact_mod_cast hi⟩]
  have e1 : ((i : Int)).toNat = i := by simp
  simp only [e1]
  rw [find_nam (ok_nodup (hk _ (List.getElem_mem hi))) hx, ht]
  simp only
  rw [List.getD_eq_getElem?_getD, List.getElem?_eq_getElem (by rw [begs_len]; exact hi), Option.getD_some, begs_at xs 0 i hi]
/-- a global one by each unit that has none of its name -/
theorem res_glo {xs : List Ob} (h : (tabL xs).e = 0) {i k : Nat} (hi : i < xs.length) (hk : k < xs.length) {x : Sy} (hx : x ∈ xs[i].sy) (hg : x.g = true) (hn : ∀ y ∈ xs[k].sy, ¬ y.name = x.name) : resL xs k x.name = (((nextS (endAt 0 xs i) : Nat) : Int) + x.at_, 0) := by
  obtain ⟨-, ht, -, -, hnd⟩ := tab_good h
  unfold resL
  rw [if_neg (by simpa using h), dif_pos ⟨Int.natCast_nonneg k, by exact_mod_cast hk⟩]
  have e1 : ((k : Int)).toNat = k := by simp
  simp only [e1]
  rw [findN_none hn, ht]
  simp only
  have := find_glo hnd (labs_mem (e := 0) hi hx) hg
  rw [show x.name = (movS (nextS (endAt 0 xs i)) x).name from rfl, this]
  rfl

/-- what is put behind turns nothing ahead -/
theorem tabGo_ahead : ∀ (xs ys : List Ob) (i e : Nat) (ss : List Nat) (ts : List Sy), (tabGo i e ss ts (xs ++ ys)).e = 0 → (tabGo i e ss ts xs).e = 0
  | [], ys, i, e, ss, ts, _ => rfl
  | o :: os, ys, i, e, ss, ts, h => by
    rw [List.cons_append] at h
    unfold tabGo at h ⊢
    by_cases h1 : okO o = false
    · rw [if_pos h1] at h; cases h
    rw [if_neg h1] at h ⊢
    by_cases h2 : nextS e + o.bs.length > 65536
    · rw [if_pos h2] at h; cases h
    rw [if_neg h2] at h ⊢
    by_cases h3 : dupS (gloS ts) o.sy = true
    · rw [if_pos h3] at h; cases h
    rw [if_neg h3] at h ⊢
    exact tabGo_ahead os ys _ _ _ _ h
theorem tab_ahead {xs ys : List Ob} (h : (tabL (xs ++ ys)).e = 0) : (tabL xs).e = 0 := by
  have hl := (tab_good h).1
  rw [List.length_append] at hl
  unfold tabL at h ⊢
  rw [List.length_append, if_neg (by omega)] at h
  rw [if_neg (by omega)]
  exact tabGo_ahead xs ys _ _ _ _ h
theorem res_ahead {xs ys : List Ob} (h : (tabL (xs ++ ys)).e = 0) {u : Nat} (hu : u < xs.length) {s : ByteArray} (hr : (resL xs u s).2 = 0) : resL (xs ++ ys) u s = resL xs u s := by
  have h' := tab_ahead h
  obtain ⟨-, ht, -, -, -⟩ := tab_good h
  obtain ⟨-, ht', -, -, -⟩ := tab_good h'
  have e1 : ((u : Int)).toNat = u := by simp
  have hu2 : u < (xs ++ ys).length := by rw [List.length_append]; omega
  unfold resL at hr ⊢
  rw [if_neg (by simpa using h'), dif_pos ⟨Int.natCast_nonneg u, by exact_mod_cast hu⟩] at hr
  rw [if_neg (by simpa using h), dif_pos ⟨Int.natCast_nonneg u, by exact_mod_cast hu2⟩, if_neg (by simpa using h'), dif_pos ⟨Int.natCast_nonneg u, by exact_mod_cast hu⟩]
  simp only [e1, List.getElem_append_left hu] at hr ⊢
  rw [ht, ht'] at *
  cases hf : findN xs[u].sy s with
  | some a =>
    simp only
    rw [begs_app, List.getD_eq_getElem?_getD, List.getD_eq_getElem?_getD, List.getElem?_append_left (by rw [begs_len]; exact hu)]
  | none =>
    rw [hf] at hr
    simp only at hr ⊢
    cases hg : findG (labs 0 xs) s with
    | some a => rw [labs_app, findG_app hg]
    | none => rw [hg] at hr; exact absurd hr (by decide)

end Go.Proofs.YtckpgpgmaccepaaGreat

/- symbols.lookFor, by its two closures; symbols.Find. -/
namespace Go.Proofs.YtckpgpgmaccepaaGreat
open Go.RowKit

def meantG (s : ByteArray) (x : Sy) : Bool := x.g && decide (x.name = s)
def meantN (s : ByteArray) (x : Sy) : Bool := decide (x.name = s)
theorem findG_eq (t : List Sy) (s : ByteArray) : findG t s = (t.find? (meantG s)).map Sy.at_ := rfl
theorem findN_eq (t : List Sy) (s : ByteArray) : findN t s = (t.find? (meantN s)).map Sy.at_ := rfl
/-- the number of the first that is meant -/
def idxG (P : Sy → Bool) : Nat → List Sy → Int
  | _, [] => -1
  | i, x :: L => if P x = true then (i : Int) else idxG P (i + 1) L
theorem idx_step (P : Sy → Bool) (L : List Sy) (k : Nat) (h : k < L.length) : idxG P k (L.drop k) = if P L[k] = true then (k : Int) else idxG P (k + 1) (L.drop (k + 1)) := by
  rw [List.drop_eq_getElem_cons h]; rfl
theorem idx_go (P : Sy → Bool) : ∀ (L : List Sy) (j : Nat), (idxG P j L = -1 ∧ L.find? P = none) ∨ ∃ i, ∃ h : i < L.length, idxG P j L = ((j + i : Nat) : Int) ∧ L.find? P = some L[i]
  | [], _ => .inl ⟨rfl, rfl⟩
  | x :: L, j => by
    by_cases hx : P x = true
    · refine .inr ⟨0, by simp, ?_, ?_⟩
      · unfold idxG; rw [if_pos hx]; rfl
      · rw [List.find?_cons, hx]; rfl
    · rcases idx_go P L (j + 1) with ⟨h1, h2⟩ | ⟨i, hi, h1, h2⟩
      · refine .inl ⟨?_, ?_⟩
        · unfold idxG; rw [if_neg hx]; exact h1
        · rw [List.find?_cons, (by simpa using hx : P x = false)]; exact h2
      · refine .inr ⟨i + 1, by simpa using hi, ?_, ?_⟩
        · unfold idxG; rw [if_neg hx, h1]; omega
        · rw [List.find?_cons, (by simpa using hx : P x = false)]; exact h2
theorem idx_find (P : Sy → Bool) (L : List Sy) : (idxG P 0 L = -1 ∧ L.find? P = none) ∨ ∃ i, ∃ h : i < L.length, idxG P 0 L = (i : Int) ∧ L.find? P = some L[i] := by
  rcases idx_go P L 0 with h | ⟨i, hi, h1, h2⟩
  · exact .inl h
  · exact .inr ⟨i, hi, by rw [h1, Nat.zero_add], h2⟩
theorem text_ne7 {s t : ByteArray} (h : ¬ s = t) : ¬ s.toList = t.toList := fun e => h (by
  rw [toList_eq, toList_eq] at e
  exact ByteArray.ext (Array.toList_inj.1 e))

set_option maxHeartbeats 1000000 in
theorem clos33 (x : Sy) (s : ByteArray) (g : Nat) (w : World) (hc : w.cell? ⟨g, 0, none⟩ = some (.string s)) : Calls Tryz.prog 80 #[.agg #[.string x.name, .int .i64 x.at_, .bool x.g], .pointer (some ⟨g, 0, none⟩)] w fun E w' => E = .returned (.bool (meantG s x)) ∧ Below w.heap.size w w' := by
  have hc' : ∀ ob, (w.alloc ob).cell? ⟨g, 0, none⟩ = some (.string s) := fun ob => ((new_alloc w ob).cell (cell_lt hc)).trans hc
  obtain ⟨sn, sa, sg⟩ := x
  cases sg with
  | false =>
    have HV : Hid (meantG s ⟨sn, sa, false⟩ = false) := rfl
    rw [HV.out]
    go_enter Tryz.func80, Tryz.ntmps80
    go_wp2_with fail
    go_ret
    exact ⟨rfl, new_alloc _ _⟩
  | true =>
    by_cases hs : sn = s
    · have HV : Hid (meantG s ⟨sn, sa, true⟩ = true) := by
        have h : meantG s ⟨sn, sa, true⟩ = true := by simp [meantG, hs]
        exact h
      rw [HV.out]
      subst hs
      go_enter Tryz.func80, Tryz.ntmps80
      go_wp2_with fail
      go_ret
      exact ⟨rfl, new_alloc _ _⟩
    · have HV : Hid (meantG s ⟨sn, sa, true⟩ = false) := by
        have h : meantG s ⟨sn, sa, true⟩ = false := by simp [meantG, hs]
        exact h
      rw [HV.out]
      have hsl := text_ne7 hs
      have hsb : (sn.toList == s.toList) = false := by simpa using hsl
      have hsd : decide (sn.toList = s.toList) = false := decide_eq_false hsl
      go_enter Tryz.func80, Tryz.ntmps80
      go_wp2_with fail
      go_ret
      exact ⟨rfl, new_alloc _ _⟩
set_option maxHeartbeats 1000000 in
theorem clos34 (x : Sy) (s : ByteArray) (g : Nat) (w : World) (hc : w.cell? ⟨g, 0, none⟩ = some (.string s)) : Calls Tryz.prog 55 #[.agg #[.string x.name, .int .i64 x.at_, .bool x.g], .pointer (some ⟨g, 0, none⟩)] w fun E w' => E = .returned (.bool (meantN s x)) ∧ Below w.heap.size w w' := by
  have hc' : ∀ ob, (w.alloc ob).cell? ⟨g, 0, none⟩ = some (.string s) := fun ob => ((new_alloc w ob).cell (cell_lt hc)).trans hc
  obtain ⟨sn, sa, sg⟩ := x
  by_cases hs : sn = s
  · have HV : Hid (meantN s ⟨sn, sa, sg⟩ = true) := by
      have h : meantN s ⟨sn, sa, sg⟩ = true := by simp [meantN, hs]
      exact h
    rw [HV.out]
    subst hs
    go_enter Tryz.func55, Tryz.ntmps55
    go_wp2_with fail
    go_ret
    exact ⟨rfl, new_alloc _ _⟩
  · have HV : Hid (meantN s ⟨sn, sa, sg⟩ = false) := by
      have h : meantN s ⟨sn, sa, sg⟩ = false := by simp [meantN, hs]
      exact h
    rw [HV.out]
    have hsl := text_ne7 hs
    have hsb : (sn.toList == s.toList) = false := by simpa using hsl
    have hsd : decide (sn.toList = s.toList) = false := decide_eq_false hsl
    go_enter Tryz.func55, Tryz.ntmps55
    go_wp2_with fail
    go_ret
    exact ⟨rfl, new_alloc _ _⟩

set_option maxRecDepth 20000 in
set_option maxHeartbeats 2000000 in
theorem index33_any (p : Option Addr) (n c : Nat) (L : List Sy) (s : ByteArray) (g : Nat) (w : World) (hn : L.length = n) (hn6 : n ≤ 9223372036854775807) (hr : Row3 w p (L.map syV)) (hc : w.cell? ⟨g, 0, none⟩ = some (.string s)) :
    Calls Tryz.prog 79 #[.slice p n c, .func (Fn.func 80) #[] #[.pointer (some ⟨g, 0, none⟩)]] w fun E w' => E = .returned (.int .i64 (idxG (meantG s) 0 L)) ∧ Below w.heap.size w w' := by
  have hC := fun x W (h : W.cell? ⟨g, 0, none⟩ = some (.string s)) => clos33 x s g W h
  have HN := Hid.in hn
  have HR := Hid.in hr
  have HC := Hid.in hc
  clear hn hr hc
  obtain ⟨r, hr⟩ : ∃ r, idxG (meantG s) 0 L = r := ⟨_, rfl⟩
  rw [hr]
  have HRR := Hid.in hr
  clear hr
  go_enter Tryz.func79, Tryz.ntmps79
  go_wp2_with fail
  go_loopw [8] (fun vi wr => ∃ k : Nat, vi = .int .i64 k ∧ k ≤ n ∧ idxG (meantG s) 0 L = idxG (meantG s) k (L.drop k) ∧ Below w.heap.size w wr) (fun vi _ => n - (intOf vi).toNat)
  case atStart => exact ⟨0, rfl, Nat.zero_le _, rfl, below_self w⟩
  case round =>
    obtain ⟨k, rfl, hk, hgo, hb⟩ := hrel
    have HGO := Hid.in hgo
    have HB := Hid.in hb
    clear hgo hb
    by_cases hlt : k < n
    · have hkl : k < L.length := by rw [HN.out]; exact hlt
      obtain ⟨b, o, rfl, hc⟩ := (HR.out.below HB.out) (by rw [List.length_map]; omega)
      obtain ⟨c0, c1, c2⟩ := cells3 hc k (by rw [List.length_map]; exact hkl)
      simp only [List.getElem_map, syV] at c0 c1 c2
      have HST := Hid.in (idx_step (meantG s) L k hkl)
      have hCx := hC L[k] wr ((HB.out.cell (cell_lt HC.out)).trans HC.out)
      clear hc hC
      generalize L[k] = x at *
      cases hm : meantG s x with
      | true =>
        have HV : Hid (r = (k : Int)) := by
          have h : r = (k : Int) := by rw [← HRR.out, HGO.out, HST.out, if_pos hm]
          exact h
        rw [hm] at hCx
        go_wp2_with (go_at_call 80; refine hCx.mono ?_; rintro E w1 ⟨rfl, hb1⟩; have HB1 := Hid.in (below_step HB.out hb1); clear hb1)
        go_ret
        exact ⟨by rw [HV.out]; rfl, HB1.out⟩
      | false =>
        have HV : Hid (idxG (meantG s) 0 L = idxG (meantG s) (k + 1) (L.drop (k + 1))) := by
          have h : idxG (meantG s) 0 L = idxG (meantG s) (k + 1) (L.drop (k + 1)) := by rw [HGO.out, HST.out, if_neg (by rw [hm]; decide)]
          exact h
        rw [hm] at hCx
        go_wp2_with (go_at_call 80; refine hCx.mono ?_; rintro E w1 ⟨rfl, hb1⟩; have HB1 := Hid.in (below_step HB.out hb1); clear hb1)
        go_roundw
        case rel => exact ⟨k + 1, by go_num, by omega, HV.out, HB1.out⟩
        case measure => simp [intOf]; omega
    · have HV : Hid (r = -1) := by
        have h : r = -1 := by rw [← HRR.out, HGO.out, List.drop_eq_nil_of_le (by rw [HN.out]; omega)]; rfl
        exact h
      go_wp2_with fail
      go_ret
      exact ⟨by rw [HV.out]; rfl, HB.out⟩

set_option maxRecDepth 20000 in
set_option maxHeartbeats 2000000 in
theorem look33_any (p : Option Addr) (n c : Nat) (L : List Sy) (s : ByteArray) (g : Nat) (w : World) (hn : L.length = n) (hn6 : n ≤ 9223372036854775807) (hr : Row3 w p (L.map syV)) (hc : w.cell? ⟨g, 0, none⟩ = some (.string s)) :
    Calls Tryz.prog 54 #[.slice p n c, .func (Fn.func 80) #[] #[.pointer (some ⟨g, 0, none⟩)]] w fun E w' => E = .returned (.tuple #[.int .i64 (((L.find? (meantG s)).map Sy.at_).getD 0), .bool ((L.find? (meantG s)).map Sy.at_).isSome]) ∧ Below w.heap.size w w' := by
  have hI := index33_any p n c L s g w hn hn6 hr hc
  have HN := Hid.in hn
  have HR := Hid.in hr
  clear hn hr hc
  rcases idx_find (meantG s) L with ⟨h1, h2⟩ | ⟨i, hi, h1, h2⟩
  · rw [h1] at hI
    rw [h2]
    go_enter Tryz.func54, Tryz.ntmps54
    go_wp2_with (go_at_call 79; refine hI.mono ?_; rintro E w1 ⟨rfl, hb1⟩)
    go_ret2
    exact ⟨rfl, hb1⟩
  · rw [h1] at hI
    rw [h2]
    have hin : i < n := by rw [← HN.out]; exact hi
    obtain ⟨b, o, hp, hc⟩ := HR.out (by rw [List.length_map]; omega)
    subst hp
    obtain ⟨_, c1, _⟩ := cells3 hc i (by rw [List.length_map]; exact hi)
    simp only [List.getElem_map, syV] at c1
    have HC1 := Hid.in c1
    clear c1 hc
    generalize L[i] = x at *
    go_enter Tryz.func54, Tryz.ntmps54
    go_wp2_with (go_at_call 79; refine hI.mono ?_; rintro E w1 ⟨rfl, hb1⟩; have d1 := (hb1.cell (cell_lt HC1.out)).trans HC1.out)
    go_ret2
    exact ⟨rfl, hb1⟩

set_option maxRecDepth 20000 in
set_option maxHeartbeats 2000000 in
theorem index34_any (p : Option Addr) (n c : Nat) (L : List Sy) (s : ByteArray) (g : Nat) (w : World) (hn : L.length = n) (hn6 : n ≤ 9223372036854775807) (hr : Row3 w p (L.map syV)) (hc : w.cell? ⟨g, 0, none⟩ = some (.string s)) :
    Calls Tryz.prog 79 #[.slice p n c, .func (Fn.func 55) #[] #[.pointer (some ⟨g, 0, none⟩)]] w fun E w' => E = .returned (.int .i64 (idxG (meantN s) 0 L)) ∧ Below w.heap.size w w' := by
  have hC := fun x W (h : W.cell? ⟨g, 0, none⟩ = some (.string s)) => clos34 x s g W h
  have HN := Hid.in hn
  have HR := Hid.in hr
  have HC := Hid.in hc
  clear hn hr hc
  obtain ⟨r, hr⟩ : ∃ r, idxG (meantN s) 0 L = r := ⟨_, rfl⟩
  rw [hr]
  have HRR := Hid.in hr
  clear hr
  go_enter Tryz.func79, Tryz.ntmps79
  go_wp2_with fail
  go_loopw [8] (fun vi wr => ∃ k : Nat, vi = .int .i64 k ∧ k ≤ n ∧ idxG (meantN s) 0 L = idxG (meantN s) k (L.drop k) ∧ Below w.heap.size w wr) (fun vi _ => n - (intOf vi).toNat)
  case atStart => exact ⟨0, rfl, Nat.zero_le _, rfl, below_self w⟩
  case round =>
    obtain ⟨k, rfl, hk, hgo, hb⟩ := hrel
    have HGO := Hid.in hgo
    have HB := Hid.in hb
    clear hgo hb
    by_cases hlt : k < n
    · have hkl : k < L.length := by rw [HN.out]; exact hlt
      obtain ⟨b, o, rfl, hc⟩ := (HR.out.below HB.out) (by rw [List.length_map]; omega)
      obtain ⟨c0, c1, c2⟩ := cells3 hc k (by rw [List.length_map]; exact hkl)
      simp only [List.getElem_map, syV] at c0 c1 c2
      have HST := Hid.in (idx_step (meantN s) L k hkl)
      have hCx := hC L[k] wr ((HB.out.cell (cell_lt HC.out)).trans HC.out)
      clear hc hC
      generalize L[k] = x at *
      cases hm : meantN s x with
      | true =>
        have HV : Hid (r = (k : Int)) := by
          have h : r = (k : Int) := by rw [← HRR.out, HGO.out, HST.out, if_pos hm]
          exact h
        rw [hm] at hCx
        go_wp2_with (go_at_call 55; refine hCx.mono ?_; rintro E w1 ⟨rfl, hb1⟩; have HB1 := Hid.in (below_step HB.out hb1); clear hb1)
        go_ret
        exact ⟨by rw [HV.out]; rfl, HB1.out⟩
      | false =>
        have HV : Hid (idxG (meantN s) 0 L = idxG (meantN s) (k + 1) (L.drop (k + 1))) := by
          have h : idxG (meantN s) 0 L = idxG (meantN s) (k + 1) (L.drop (k + 1)) := by rw [HGO.out, HST.out, if_neg (by rw [hm]; decide)]
          exact h
        rw [hm] at hCx
        go_wp2_with (go_at_call 55; refine hCx.mono ?_; rintro E w1 ⟨rfl, hb1⟩; have HB1 := Hid.in (below_step HB.out hb1); clear hb1)
        go_roundw
        case rel => exact ⟨k + 1, by go_num, by omega, HV.out, HB1.out⟩
        case measure => simp [intOf]; omega
    · have HV : Hid (r = -1) := by
        have h : r = -1 := by rw [← HRR.out, HGO.out, List.drop_eq_nil_of_le (by rw [HN.out]; omega)]; rfl
        exact h
      go_wp2_with fail
      go_ret
      exact ⟨by rw [HV.out]; rfl, HB.out⟩

set_option maxRecDepth 20000 in
set_option maxHeartbeats 2000000 in
theorem look34_any (p : Option Addr) (n c : Nat) (L : List Sy) (s : ByteArray) (g : Nat) (w : World) (hn : L.length = n) (hn6 : n ≤ 9223372036854775807) (hr : Row3 w p (L.map syV)) (hc : w.cell? ⟨g, 0, none⟩ = some (.string s)) :
    Calls Tryz.prog 54 #[.slice p n c, .func (Fn.func 55) #[] #[.pointer (some ⟨g, 0, none⟩)]] w fun E w' => E = .returned (.tuple #[.int .i64 (((L.find? (meantN s)).map Sy.at_).getD 0), .bool ((L.find? (meantN s)).map Sy.at_).isSome]) ∧ Below w.heap.size w w' := by
  have hI := index34_any p n c L s g w hn hn6 hr hc
  have HN := Hid.in hn
  have HR := Hid.in hr
  clear hn hr hc
  rcases idx_find (meantN s) L with ⟨h1, h2⟩ | ⟨i, hi, h1, h2⟩
  · rw [h1] at hI
    rw [h2]
    go_enter Tryz.func54, Tryz.ntmps54
    go_wp2_with (go_at_call 79; refine hI.mono ?_; rintro E w1 ⟨rfl, hb1⟩)
    go_ret2
    exact ⟨rfl, hb1⟩
  · rw [h1] at hI
    rw [h2]
    have hin : i < n := by rw [← HN.out]; exact hi
    obtain ⟨b, o, hp, hc⟩ := HR.out (by rw [List.length_map]; omega)
    subst hp
    obtain ⟨_, c1, _⟩ := cells3 hc i (by rw [List.length_map]; exact hi)
    simp only [List.getElem_map, syV] at c1
    have HC1 := Hid.in c1
    clear c1 hc
    generalize L[i] = x at *
    go_enter Tryz.func54, Tryz.ntmps54
    go_wp2_with (go_at_call 79; refine hI.mono ?_; rintro E w1 ⟨rfl, hb1⟩; have d1 := (hb1.cell (cell_lt HC1.out)).trans HC1.out)
    go_ret2
    exact ⟨rfl, hb1⟩

set_option maxHeartbeats 1000000 in
theorem find_any (p : Option Addr) (n c : Nat) (L : List Sy) (s : ByteArray) (w : World) (hn : L.length = n) (hn6 : n ≤ 9223372036854775807) (hr : Row3 w p (L.map syV)) :
    Calls Tryz.prog 56 #[.slice p n c, .string s] w fun E w' => E = .returned (.tuple #[.int .i64 ((findG L s).getD 0), .bool (findG L s).isSome]) ∧ Below w.heap.size w w' := by
  have hL := look33_any p n c L s w.heap.size (w.alloc (.cells #[.string s] 9)) hn hn6 (hr.below (new_alloc w _)) ((Blk.new w 9 #[.string s]).cell 0)
  rw [← findG_eq] at hL
  generalize findG L s = r at *
  go_enter Tryz.func56, Tryz.ntmps56
  go_wp2_with (go_at_call 54; refine hL.mono ?_; rintro E w1 ⟨rfl, hb1⟩)
  go_ret2
  exact ⟨rfl, below_step (new_alloc w _) hb1⟩

end Go.Proofs.YtckpgpgmaccepaaGreat

/- switchyardkit.CopySymbols, CopyFixes, CopyMarks. -/
namespace Go.Proofs.YtckpgpgmaccepaaGreat
open Go.RowKit

set_option maxRecDepth 20000 in
set_option maxHeartbeats 1000000 in
theorem copySyms_any (p : Option Addr) (n c : Nat) (L : List Sy) (w : World) (hn : L.length = n) (hn6 : n ≤ 1048576) (h1 : Row3 w p (L.map syV)) :
    Calls Tryz.prog 58 #[.slice p n c] w fun E w' => ∃ v, E = .returned v ∧ TOwn 67 w' w.heap.size v (L.map syV) ∧ Below w.heap.size w w' := by
  have HL := Hid.in hn
  have H1 := Hid.in h1
  clear hn h1
  go_enter Tryz.func58, Tryz.ntmps58
  go_wp2_with fail
  go_loopw [3, 4] (fun v vi wr => ∃ k : Nat, vi = .int .i64 k ∧ k ≤ n ∧ TOwn 67 wr w.heap.size v ((L.take k).map syV) ∧ Below w.heap.size w wr) (fun _ vi _ => n - (intOf vi).toNat)
  case atStart => exact ⟨0, rfl, Nat.zero_le _, TOwn.nil _ _ _, below_self _⟩
  case round =>
    obtain ⟨k, rfl, hk, hT, hb⟩ := hrel
    have HT := Hid.in hT
    have HB := Hid.in hb
    have hlen : ((L.take k).map syV).length = k := by rw [List.length_map, List.length_take, HL.out]; omega
    obtain ⟨pv, cv, hv, -, -, -⟩ := hT.shape
    rw [hlen] at hv
    subst hv
    have HLEN := Hid.in hlen
    clear hT hb hlen
    by_cases hlt : k < n
    · have hk1 : k < L.length := by rw [HL.out]; exact hlt
      obtain ⟨b, o, rfl, hc⟩ := (H1.out.below HB.out) (by rw [List.length_map]; omega)
      obtain ⟨c0, c1, c2⟩ := cells3 hc k (by rw [List.length_map]; exact hk1)
      simp only [List.getElem_map, syV] at c0 c1 c2
      have HTK : Hid ((L.take (k + 1)).map syV = (L.take k).map syV ++ [syV L[k]]) := by
        rw [List.take_succ_eq_append_getElem hk1, List.map_append]; exact rfl
      clear hc
      generalize (L.take k).map syV = LQ at *
      generalize L[k] = x at *
      have hl1 : LQ.length ≤ 1048576 := by have := HLEN.out; omega
      go_wp2_with (refine tpush Tryz.elemSym _ rfl _ _ rfl w.heap.size _ LQ rfl (HT.out.alloc _) ⟨wr.heap.size, 0, none⟩ 1 (.string x.name, .int .i64 x.at_, .bool x.g) ⟨rfl, rfl, rfl⟩ rfl (news3 _ _ _) hl1 (by decide) (by have := HB.out.size; simp; omega) ?_; intro v5 w5 hT5 hg5 hb5; have HT5 := Hid.in hT5; have HB5 := Hid.in (hb5 w (below_alloc HB.out _)); clear hT5 hg5 hb5)
      go_roundw
      case rel => exact ⟨k + 1, by go_num, by omega, by rw [HTK.out]; exact HT5.out, HB5.out⟩
      case measure => simp [intOf]; omega
    · have hkn : k = n := by omega
      subst hkn
      have HR : Hid ((L.take k).map syV = L.map syV) := by
        rw [List.take_of_length_le (by rw [HL.out]; exact Nat.le_refl _)]; exact rfl
      rw [HR.out] at HT
      go_wp2_with fail
      go_ret
      exact ⟨_, rfl, HT.out, HB.out⟩

set_option maxRecDepth 20000 in
set_option maxHeartbeats 1000000 in
theorem copyFixes_any (p : Option Addr) (n c : Nat) (L : List Fx) (w : World) (hn : L.length = n) (hn6 : n ≤ 1048576) (h1 : Row3 w p (L.map fxV)) :
    Calls Tryz.prog 59 #[.slice p n c] w fun E w' => ∃ v, E = .returned v ∧ TOwn 116 w' w.heap.size v (L.map fxV) ∧ Below w.heap.size w w' := by
  have HL := Hid.in hn
  have H1 := Hid.in h1
  clear hn h1
  go_enter Tryz.func59, Tryz.ntmps59
  go_wp2_with fail
  go_loopw [3, 4] (fun v vi wr => ∃ k : Nat, vi = .int .i64 k ∧ k ≤ n ∧ TOwn 116 wr w.heap.size v ((L.take k).map fxV) ∧ Below w.heap.size w wr) (fun _ vi _ => n - (intOf vi).toNat)
  case atStart => exact ⟨0, rfl, Nat.zero_le _, TOwn.nil _ _ _, below_self _⟩
  case round =>
    obtain ⟨k, rfl, hk, hT, hb⟩ := hrel
    have HT := Hid.in hT
    have HB := Hid.in hb
    have hlen : ((L.take k).map fxV).length = k := by rw [List.length_map, List.length_take, HL.out]; omega
    obtain ⟨pv, cv, hv, -, -, -⟩ := hT.shape
    rw [hlen] at hv
    subst hv
    have HLEN := Hid.in hlen
    clear hT hb hlen
    by_cases hlt : k < n
    · have hk1 : k < L.length := by rw [HL.out]; exact hlt
      obtain ⟨b, o, rfl, hc⟩ := (H1.out.below HB.out) (by rw [List.length_map]; omega)
      obtain ⟨c0, c1, c2⟩ := cells3 hc k (by rw [List.length_map]; exact hk1)
      simp only [List.getElem_map, fxV] at c0 c1 c2
      have HTK : Hid ((L.take (k + 1)).map fxV = (L.take k).map fxV ++ [fxV L[k]]) := by
        rw [List.take_succ_eq_append_getElem hk1, List.map_append]; exact rfl
      clear hc
      generalize (L.take k).map fxV = LQ at *
      generalize L[k] = x at *
      have hl1 : LQ.length ≤ 1048576 := by have := HLEN.out; omega
      go_wp2_with (refine tpush Tryz.elemFix _ rfl _ _ rfl w.heap.size _ LQ rfl (HT.out.alloc _) ⟨wr.heap.size, 0, none⟩ 1 (.int .u8 x.k, .int .i64 x.at_, .string x.name) ⟨rfl, rfl, rfl⟩ rfl (news3 _ _ _) hl1 (by decide) (by have := HB.out.size; simp; omega) ?_; intro v5 w5 hT5 hg5 hb5; have HT5 := Hid.in hT5; have HB5 := Hid.in (hb5 w (below_alloc HB.out _)); clear hT5 hg5 hb5)
      go_roundw
      case rel => exact ⟨k + 1, by go_num, by omega, by rw [HTK.out]; exact HT5.out, HB5.out⟩
      case measure => simp [intOf]; omega
    · have hkn : k = n := by omega
      subst hkn
      have HR : Hid ((L.take k).map fxV = L.map fxV) := by
        rw [List.take_of_length_le (by rw [HL.out]; exact Nat.le_refl _)]; exact rfl
      rw [HR.out] at HT
      go_wp2_with fail
      go_ret
      exact ⟨_, rfl, HT.out, HB.out⟩

set_option maxRecDepth 20000 in
set_option maxHeartbeats 1000000 in
theorem copyMarks_any (p : Option Addr) (n c : Nat) (L : List Mk) (w : World) (hn : L.length = n) (hn6 : n ≤ 1048576) (h1 : Row3 w p (L.map mkV)) :
    Calls Tryz.prog 60 #[.slice p n c] w fun E w' => ∃ v, E = .returned v ∧ TOwn 58 w' w.heap.size v (L.map mkV) ∧ Below w.heap.size w w' := by
  have HL := Hid.in hn
  have H1 := Hid.in h1
  clear hn h1
  go_enter Tryz.func60, Tryz.ntmps60
  go_wp2_with fail
  go_loopw [3, 4] (fun v vi wr => ∃ k : Nat, vi = .int .i64 k ∧ k ≤ n ∧ TOwn 58 wr w.heap.size v ((L.take k).map mkV) ∧ Below w.heap.size w wr) (fun _ vi _ => n - (intOf vi).toNat)
  case atStart => exact ⟨0, rfl, Nat.zero_le _, TOwn.nil _ _ _, below_self _⟩
  case round =>
    obtain ⟨k, rfl, hk, hT, hb⟩ := hrel
    have HT := Hid.in hT
    have HB := Hid.in hb
    have hlen : ((L.take k).map mkV).length = k := by rw [List.length_map, List.length_take, HL.out]; omega
    obtain ⟨pv, cv, hv, -, -, -⟩ := hT.shape
    rw [hlen] at hv
    subst hv
    have HLEN := Hid.in hlen
    clear hT hb hlen
    by_cases hlt : k < n
    · have hk1 : k < L.length := by rw [HL.out]; exact hlt
      obtain ⟨b, o, rfl, hc⟩ := (H1.out.below HB.out) (by rw [List.length_map]; omega)
      obtain ⟨c0, c1, c2⟩ := cells3 hc k (by rw [List.length_map]; exact hk1)
      simp only [List.getElem_map, mkV] at c0 c1 c2
      have HTK : Hid ((L.take (k + 1)).map mkV = (L.take k).map mkV ++ [mkV L[k]]) := by
        rw [List.take_succ_eq_append_getElem hk1, List.map_append]; exact rfl
      clear hc
      generalize (L.take k).map mkV = LQ at *
      generalize L[k] = x at *
      have hl1 : LQ.length ≤ 1048576 := by have := HLEN.out; omega
      go_wp2_with (refine tpush Tryz.elemMark _ rfl _ _ rfl w.heap.size _ LQ rfl (HT.out.alloc _) ⟨wr.heap.size, 0, none⟩ 1 (.int .i64 x.at_, .string x.key, .string x.to_) ⟨rfl, rfl, rfl⟩ rfl (news3 _ _ _) hl1 (by decide) (by have := HB.out.size; simp; omega) ?_; intro v5 w5 hT5 hg5 hb5; have HT5 := Hid.in hT5; have HB5 := Hid.in (hb5 w (below_alloc HB.out _)); clear hT5 hg5 hb5)
      go_roundw
      case rel => exact ⟨k + 1, by go_num, by omega, by rw [HTK.out]; exact HT5.out, HB5.out⟩
      case measure => simp [intOf]; omega
    · have hkn : k = n := by omega
      subst hkn
      have HR : Hid ((L.take k).map mkV = L.map mkV) := by
        rw [List.take_of_length_le (by rw [HL.out]; exact Nat.le_refl _)]; exact rfl
      rw [HR.out] at HT
      go_wp2_with fail
      go_ret
      exact ⟨_, rfl, HT.out, HB.out⟩

end Go.Proofs.YtckpgpgmaccepaaGreat

/- What switchyardkit.CopyBytes, LentBytes and KeptBytes do, for every slice of bytes. -/
namespace Go.Proofs.YtckpgpgmaccepaaGreat
open Go.RowKit

/-- a slice of bytes that the call has made, or nil -/
def OwnV (w : World) (B : Nat) (v : Value) (xs : List Int) : Prop := w.ownsRow B 5 1 v xs.length (byts xs)
theorem OwnV.nil (w : World) (B : Nat) : OwnV w B (.slice none 0 0) [] := World.ownsRow_nil _ _ _ _
theorem OwnV.alloc {w : World} {B : Nat} {v : Value} {xs : List Int} (h : OwnV w B v xs) (o : Obj) : OwnV (w.alloc o) B v xs := World.ownsRow.alloc h o
theorem OwnV.drewN {w : World} {B : Nat} {v : Value} {xs : List Int} (h : OwnV w B v xs) (n : Nat) : OwnV (w.drewN n) B v xs := h
theorem Own.val {w : World} {B g cap : Nat} {xs : List Int} (h : Own w B g cap xs) : OwnV w B (.slice (some ⟨g, 0, none⟩) xs.length cap) xs := h
theorem OwnV.shape {w : World} {B : Nat} {v : Value} {xs : List Int} (h : OwnV w B v xs) : (v = .slice none 0 0 ∧ xs = []) ∨ ∃ g cap, v = .slice (some ⟨g, 0, none⟩) xs.length cap ∧ Own w B g cap xs := by
  rcases h.2 with ⟨h1, h2⟩ | ⟨g, cap, cur, h1, h2⟩
  · exact .inl ⟨h1, List.eq_nil_of_length_eq_zero h2⟩
  · subst h1
    exact .inr ⟨g, cap, rfl, h⟩
theorem OwnV.below {w w' : World} {B : Nat} {v : Value} {xs : List Int} (h : OwnV w B v xs) (hb : Below w.heap.size w w') : OwnV w' B v xs := by
  rcases h.shape with ⟨rfl, rfl⟩ | ⟨g, cap, rfl, ho⟩
  · exact OwnV.nil _ _
  · exact (ho.below hb).val
theorem OwnV.slice {w : World} {B : Nat} {v : Value} {xs : List Int} (h : OwnV w B v xs) : ∃ p cap, v = .slice p xs.length cap ∧ Row w p xs ∧ (p = none → cap = 0) := by
  rcases h.shape with ⟨rfl, rfl⟩ | ⟨g, cap, rfl, ho⟩
  · exact ⟨none, 0, rfl, fun h => absurd h (Nat.lt_irrefl 0), fun _ => rfl⟩
  · exact ⟨_, cap, rfl, ho.row, fun h => by cases h⟩

/-- 'append(out, ..)' on such a slice: the law of the kit in these words -/
theorem wp_push {ops : Array Oper} {rest : List Oper} {o : Oper} {a : Act} {Q : Exit → Act → World → Prop} (w : World) (hgd : o.guard = none) (s x : Operand)
    (ho : o.op = .call { callee := .builtin .append, args := #[s, x], argTypes := #[52, 52] }) (B : Nat) (v : Value) (xs : List Int) (hs : a.eval s = v) (hown : OwnV w B v xs)
    (ad : Addr) (m c : Nat) (ns : List Int) (hx : a.eval x = .slice (some ad) m c) (hl : ns.length = m) (hnews : ∀ j u, (byts ns)[j]? = some u → w.cell? (ad.add j) = some u)
    (hlen : xs.length + m ≤ 140737488355328) (hB : B ≤ w.heap.size)
    (h : ∀ v' w', OwnV w' B v' (xs ++ ns) → w.grownBy w' v.ownBlock → (∀ w0, Below B w0 w → Below B w0 w') → (v' = .slice none 0 0 ↔ v = .slice none 0 0 ∧ m = 0) → wpList Tryz.prog ops Q rest (a.put o.dst v') w') :
    wpList Tryz.prog ops Q (o :: rest) a w := by
  obtain ⟨i0, hi, hz0, hz1, hz2⟩ := info_parts Tryz.info5
  refine wpList_append_own w hgd s x 52 ho B 5 i0 (.int .u8 0) 1 1 Tryz.underlying52 hi hz0 hz1 hz2 rfl (by decide) v xs.length (byts xs) hs hown ad m c (byts ns) hx (by simp [hl]) hnews (fun u hu => ?_) (by unfold maxLen; omega) (by omega) hB ?_
  · simp only [byts, List.mem_map] at hu
    obtain ⟨z, _, rfl⟩ := hu
    rfl
  · intro v' w' h1 h2 h3
    refine h v' w' ?_ h2 (fun w0 hb => hb.grown h2 hB fun k hk => ?_) h3
    · unfold OwnV
      rw [List.length_append, hl]
      simpa [byts] using h1
    · rcases hown.shape with ⟨rfl, _⟩ | ⟨g, cap, rfl, ho⟩
      · simp [Value.ownBlock] at hk
      · simp [Value.ownBlock] at hk
        subst hk
        exact ho.base

theorem take_getD (xs : List Int) (k : Nat) (h : k < xs.length) : xs.take (k + 1) = xs.take k ++ [xs.getD k 0] := by
  rw [List.take_succ_eq_append_getElem h]
  simp [List.getD, h]

set_option maxHeartbeats 400000 in
theorem copy_at (b o n c : Nat) (xs : List Int) (w : World) (hx : xs.length = n) (hn : n ≤ 140737488355328)
    (hc : ∀ i, i < n → w.cell? ⟨b, o + i, none⟩ = some (.int .u8 (xs.getD i 0))) :
    Calls Tryz.prog 57 #[.slice (some ⟨b, o, none⟩) n c] w fun e w' => ∃ v, e = .returned v ∧ OwnV w' w.heap.size v xs ∧ Below w.heap.size w w' := by
  have HX : Hid (xs.length = n) := hx
  have HC : Hid (∀ i, i < n → w.cell? ⟨b, o + i, none⟩ = some (.int .u8 (xs.getD i 0))) := hc
  clear hx hc
  go_enter Tryz.func57, Tryz.ntmps57
  go_wp2
  go_loopw [3, 4] (fun v i wr => ∃ k : Nat, k ≤ n ∧ i = .int .i64 k ∧ OwnV wr w.heap.size v (xs.take k) ∧ Below w.heap.size w wr) (fun _ i _ => n - (intOf i).toNat)
  case atStart => exact ⟨0, Nat.zero_le _, rfl, OwnV.nil _ _, Below.refl _ _⟩
  case round =>
    obtain ⟨k, hk, rfl, hown, hbk⟩ := hrel
    by_cases hlt : k < n
    · have hcd := HC.out k hlt
      have hcl := cell_lt hcd
      have c1 : wr.cell? ⟨b, o + k, none⟩ = some (.int .u8 (xs.getD k 0)) := by rw [hbk.cell (p := ⟨b, o + k, none⟩) hcl]; exact hcd
      have hsz := hbk.size
      have hl : (xs.take k).length + 1 ≤ 140737488355328 := by rw [List.length_take]; omega
      have HT : Hid (xs.take (k + 1) = xs.take k ++ [xs.getD k 0]) := take_getD xs k (by rw [HX.out]; exact hlt)
      clear hcd hcl
      generalize xs.getD k 0 = z at *
      generalize xs.take k = ys at *
      go_wp2_with (at_builtin; refine wp_push _ rfl _ _ rfl w.heap.size _ ys rfl (hown.alloc _) ⟨wr.heap.size, 0, none⟩ 1 1 [z] rfl rfl (cell_one_new _ _ _) hl (by simp; omega) ?_; intro v' w1 hown' _hgrow hbel _hnil)
      go_roundw
      case rel => exact ⟨k + 1, by omega, by go_num, by rw [HT.out]; exact hown', hbel _ (hbk.alloc hsz _)⟩
      case measure => simp [intOf]; omega
    · have HT : Hid (xs.take k = xs) := List.take_of_length_le (by rw [HX.out]; omega)
      go_wp2
      go_ret
      exact ⟨_, rfl, by rw [HT.out] at hown; exact hown, hbk⟩

set_option maxHeartbeats 400000 in
theorem copy_zero (p : Option Addr) (c : Nat) (w : World) :
    Calls Tryz.prog 57 #[.slice p 0 c] w fun e w' => e = .returned (.slice none 0 0) ∧ w' = w := by
  go_enter Tryz.func57, Tryz.ntmps57
  go_wp2
  refine wp_loop_rounds 1 ?_
  rw [rounds_succ]; go_wp2
  go_ret
  exact ⟨rfl, rfl⟩

theorem copy_any (p : Option Addr) (n c : Nat) (xs : List Int) (w : World) (hx : xs.length = n) (hn : n ≤ 140737488355328) (hr : Row w p xs) :
    Calls Tryz.prog 57 #[.slice p n c] w fun e w' => ∃ v, e = .returned v ∧ OwnV w' w.heap.size v xs ∧ Below w.heap.size w w' := by
  rcases Nat.eq_zero_or_pos n with h0 | h0
  · subst h0
    obtain rfl : xs = [] := List.eq_nil_of_length_eq_zero hx
    exact (copy_zero p c w).mono fun e w' h => ⟨_, h.1, OwnV.nil _ _, by rw [h.2]; exact below_self w⟩
  · obtain ⟨b, o, rfl, hc⟩ := hr (by omega)
    exact copy_at b o n c xs w hx hn (fun i hi => hc i (by omega))

end Go.Proofs.YtckpgpgmaccepaaGreat

/- switchyardkit.CopyObject, of lists as great as an argument may be. -/
namespace Go.Proofs.YtckpgpgmaccepaaGreat
open Go.RowKit

abbrev noObj : Array Value := #[.slice none 0 0, .slice none 0 0, .slice none 0 0, .slice none 0 0]
theorem Tryz.sz56 : (Tryz.prog.info? 56).map (·.size) = some noObj.size := by kernel_rfl
theorem Blk.load {w : World} {g : Nat} {T : TypeId} {c : Array Value} (hB : Blk w g T c) (t : TypeId) (d : TypeDesc) (hu : Tryz.prog.underlying t = some d) (hd : d.isRow = true) (hi : (Tryz.prog.info? t).map (·.size) = some c.size) :
    (loadVar t ⟨g, 0, none⟩).run Tryz.prog w = .ok (.agg c) w := by
  have := run_loadVar_mid (P := Tryz.prog) w g 0 t c.toList d hB.range hu hd (by rw [hi, Array.length_toList])
  simpa using this
theorem TOwn.far {T : TypeId} {w : World} {B g : Nat} {v : Value} {L : List V3} (h : TOwn T w B v L) (hg : g < B) : v = .slice none 0 0 ∨ v.ownBlock ≠ some g := by
  rcases h.2 with ⟨e1, _⟩ | ⟨g', cap, cur, e1, e2, _⟩
  · exact .inl e1
  · refine .inr ?_
    rw [e1]
    simp only [Value.ownBlock]
    intro ee
    injection ee with ee
    have : g' = g := ee
    omega
theorem TOwn.lower {T : TypeId} {w : World} {B B' : Nat} {v : Value} {L : List V3} (h : TOwn T w B v L) (hB : B' ≤ B) : TOwn T w B' v L := by
  obtain ⟨h0, h1⟩ := h
  refine ⟨h0, h1.imp id ?_⟩
  rintro ⟨g, cap, cur, e1, e2, e3⟩
  exact ⟨g, cap, cur, e1, Nat.le_trans hB e2, e3⟩
/-- an object that a call has made: its lists in blocks of its own -/
structure ObOwn (w : World) (B : Nat) (o : Ob) (vb vs vf vm : Value) : Prop where
  b : OwnV w B vb o.bs
  s : TOwn 67 w B vs (o.sy.map syV)
  f : TOwn 116 w B vf (o.fx.map fxV)
  m : TOwn 58 w B vm (o.mk_.map mkV)
theorem ObOwn.below {w w' : World} {B : Nat} {o : Ob} {vb vs vf vm : Value} (h : ObOwn w B o vb vs vf vm) (hb : Below w.heap.size w w') : ObOwn w' B o vb vs vf vm := ⟨h.b.below hb, h.s.below hb, h.f.below hb, h.m.below hb⟩
theorem OwnV.low {w : World} {B B' : Nat} {v : Value} {xs : List Int} (h : OwnV w B v xs) (hB : B' ≤ B) : OwnV w B' v xs := by
  rcases h.shape with ⟨rfl, rfl⟩ | ⟨g, cap, rfl, ho⟩
  · exact OwnV.nil _ _
  · exact ho.lower hB
theorem ObOwn.lower {w : World} {B B' : Nat} {o : Ob} {vb vs vf vm : Value} (h : ObOwn w B o vb vs vf vm) (hB : B' ≤ B) : ObOwn w B' o vb vs vf vm := ⟨h.b.low hB, h.s.lower hB, h.f.lower hB, h.m.lower hB⟩
theorem OwnV.slice2 {w : World} {B : Nat} {v : Value} {xs : List Int} (h : OwnV w B v xs) : ∃ p cap, v = .slice p xs.length cap ∧ Row w p xs ∧ xs.length ≤ cap ∧ cap ≤ maxLen := by
  rcases h.shape with ⟨rfl, rfl⟩ | ⟨g, cap, rfl, ho⟩
  · exact ⟨none, 0, rfl, fun h => absurd h (Nat.lt_irrefl 0), Nat.le_refl _, Nat.zero_le _⟩
  · obtain ⟨cur, _, _, h3, h4, _⟩ := ho.parts
    exact ⟨_, cap, rfl, ho.row, h3, h4⟩
/-- .. seen as one in memory -/
theorem ObOwn.inn {w : World} {B : Nat} {o : Ob} {vb vs vf vm : Value} (h : ObOwn w B o vb vs vf vm) (hf : ObF o) :
    ∃ pb ps pf pm cb cs cf cm, (vb = .slice pb o.bs.length cb ∧ vs = .slice ps o.sy.length cs ∧ vf = .slice pf o.fx.length cf ∧ vm = .slice pm o.mk_.length cm) ∧ ObIn w o pb ps pf pm o.bs.length cb o.sy.length cs o.fx.length cf o.mk_.length cm := by
  obtain ⟨pb, cb, e1, r1, k1, m1⟩ := h.b.slice2
  obtain ⟨ps, cs, e2, k2, m2, r2⟩ := h.s.row3
  obtain ⟨pf, cf, e3, k3, m3, r3⟩ := h.f.row3
  obtain ⟨pm, cm, e4, k4, m4, r4⟩ := h.m.row3
  rw [List.length_map] at e2 k2 e3 k3 e4 k4
  exact ⟨pb, ps, pf, pm, cb, cs, cf, cm, ⟨e1, e2, e3, e4⟩, ⟨rfl, rfl, rfl, rfl, k1, m1, Nat.le_trans k2 m2, Nat.le_trans k3 m3, Nat.le_trans k4 m4, r1, r2, r3, r4, hf⟩⟩

theorem OwnV.keptFar {w w' : World} {B g : Nat} {v : Value} {xs : List Int} (h : OwnV w B v xs) (hg : w.grownBy w' (some g)) (hB : g < B) : OwnV w' B v xs := by
  rcases h.shape with ⟨rfl, rfl⟩ | ⟨g', cap, rfl, ho⟩
  · exact OwnV.nil _ _
  · refine World.ownsRow.kept h hg (.inr (fun e => ?_))
    have e' : some g' = some g := e
    injection e' with e'
    have := ho.base
    omega

/-- 'append(l, x)', as far as memory goes -/
theorem tpushV {ops : Array Oper} {rest : List Oper} {o : Oper} {a : Act} {Q : Exit → Act → World → Prop} {t T : TypeId} {by_ : Nat} (he : Elem3 t T by_) (w : World) (hgd : o.guard = none) (s x : Operand)
    (ho : o.op = .call { callee := .builtin .append, args := #[s, x], argTypes := #[t, t] }) (B : Nat) (v : Value) (L : List V3) (hs : a.eval s = v) (hown : TOwn T w B v L)
    (ad : Addr) (c : Nat) (q : V3) (hq : one3 q) (hx : a.eval x = .slice (some ad) 1 c) (hnews : ∀ j u, (l3 q)[j]? = some u → w.cell? (ad.add j) = some u)
    (hlen : L.length ≤ 4398046511000) (hby : (L.length + 1) * by_ ≤ 140737488355328) (hB : B ≤ w.heap.size)
    (h : ∀ v' w', TOwn T w' B v' (L ++ [q]) → w.grownBy w' v.ownBlock → (∀ w0, Below B w0 w → Below B w0 w') → wpList Tryz.prog ops Q rest (a.put o.dst v') w') :
    wpList Tryz.prog ops Q (o :: rest) a w := by
  obtain ⟨hu, z, hzc, hinfo⟩ := he
  obtain ⟨i0, hi, hz0, hz1, hz2⟩ := info_parts hinfo
  refine wpList_append_own w hgd s x t ho B T i0 z 3 by_ hu hi hz0 hz1 hz2 hzc (by decide) v L.length (c3 L) hs hown ad 1 c (l3 q) hx rfl hnews (one3_mem hq) (by unfold maxLen; omega) hby hB ?_
  intro v' w' h2 h3 _
  refine h v' w' ?_ h3 (fun w0 hb => hb.grown h3 hB fun k hk => (World.ownsRow.lt hown k hk).1)
  unfold TOwn
  rw [List.length_append, c3_two]
  have e : c3 [q] = l3 q := by simp [c3]
  rw [e]
  exact h2

set_option maxRecDepth 20000 in
set_option maxHeartbeats 1000000 in
theorem copySymsV_any (p : Option Addr) (n c : Nat) (L : List Sy) (w : World) (hn : L.length = n) (hn6 : n ≤ 4398046510976) (h1 : Row3 w p (L.map syV)) :
    Calls Tryz.prog 58 #[.slice p n c] w fun E w' => ∃ v, E = .returned v ∧ TOwn 67 w' w.heap.size v (L.map syV) ∧ Below w.heap.size w w' := by
  have HL := Hid.in hn
  have H1 := Hid.in h1
  clear hn h1
  go_enter Tryz.func58, Tryz.ntmps58
  go_wp2_with fail
  go_loopw [3, 4] (fun v vi wr => ∃ k : Nat, vi = .int .i64 k ∧ k ≤ n ∧ TOwn 67 wr w.heap.size v ((L.take k).map syV) ∧ Below w.heap.size w wr) (fun _ vi _ => n - (intOf vi).toNat)
  case atStart => exact ⟨0, rfl, Nat.zero_le _, TOwn.nil _ _ _, below_self _⟩
  case round =>
    obtain ⟨k, rfl, hk, hT, hb⟩ := hrel
    have HT := Hid.in hT
    have HB := Hid.in hb
    have hlen : ((L.take k).map syV).length = k := by rw [List.length_map, List.length_take, HL.out]; omega
    obtain ⟨pv, cv, hv, -, -, -⟩ := hT.shape
    rw [hlen] at hv
    subst hv
    have HLEN := Hid.in hlen
    clear hT hb hlen
    by_cases hlt : k < n
    · have hk1 : k < L.length := by rw [HL.out]; exact hlt
      obtain ⟨b, o, rfl, hc⟩ := (H1.out.below HB.out) (by rw [List.length_map]; omega)
      obtain ⟨c0, c1, c2⟩ := cells3 hc k (by rw [List.length_map]; exact hk1)
      simp only [List.getElem_map, syV] at c0 c1 c2
      have HTK : Hid ((L.take (k + 1)).map syV = (L.take k).map syV ++ [syV L[k]]) := by
        rw [List.take_succ_eq_append_getElem hk1, List.map_append]; exact rfl
      clear hc
      generalize (L.take k).map syV = LQ at *
      generalize L[k] = x at *
      have hl1 : LQ.length ≤ 4398046511000 := by have := HLEN.out; omega
      have hl2 : (LQ.length + 1) * 32 ≤ 140737488355328 := by have := HLEN.out; omega
      go_wp2_with (refine tpushV Tryz.elemSym _ rfl _ _ rfl w.heap.size _ LQ rfl (HT.out.alloc _) ⟨wr.heap.size, 0, none⟩ 1 (.string x.name, .int .i64 x.at_, .bool x.g) ⟨rfl, rfl, rfl⟩ rfl (news3 _ _ _) hl1 hl2 (by have := HB.out.size; simp; omega) ?_; intro v5 w5 hT5 hg5 hb5; have HT5 := Hid.in hT5; have HB5 := Hid.in (hb5 w (below_alloc HB.out _)); clear hT5 hg5 hb5)
      go_roundw
      case rel => exact ⟨k + 1, by go_num, by omega, by rw [HTK.out]; exact HT5.out, HB5.out⟩
      case measure => simp [intOf]; omega
    · have hkn : k = n := by omega
      subst hkn
      have HR : Hid ((L.take k).map syV = L.map syV) := by
        rw [List.take_of_length_le (by rw [HL.out]; exact Nat.le_refl _)]; exact rfl
      rw [HR.out] at HT
      go_wp2_with fail
      go_ret
      exact ⟨_, rfl, HT.out, HB.out⟩

set_option maxRecDepth 20000 in
set_option maxHeartbeats 1000000 in
theorem copyFixesV_any (p : Option Addr) (n c : Nat) (L : List Fx) (w : World) (hn : L.length = n) (hn6 : n ≤ 4398046510976) (h1 : Row3 w p (L.map fxV)) :
    Calls Tryz.prog 59 #[.slice p n c] w fun E w' => ∃ v, E = .returned v ∧ TOwn 116 w' w.heap.size v (L.map fxV) ∧ Below w.heap.size w w' := by
  have HL := Hid.in hn
  have H1 := Hid.in h1
  clear hn h1
  go_enter Tryz.func59, Tryz.ntmps59
  go_wp2_with fail
  go_loopw [3, 4] (fun v vi wr => ∃ k : Nat, vi = .int .i64 k ∧ k ≤ n ∧ TOwn 116 wr w.heap.size v ((L.take k).map fxV) ∧ Below w.heap.size w wr) (fun _ vi _ => n - (intOf vi).toNat)
  case atStart => exact ⟨0, rfl, Nat.zero_le _, TOwn.nil _ _ _, below_self _⟩
  case round =>
    obtain ⟨k, rfl, hk, hT, hb⟩ := hrel
    have HT := Hid.in hT
    have HB := Hid.in hb
    have hlen : ((L.take k).map fxV).length = k := by rw [List.length_map, List.length_take, HL.out]; omega
    obtain ⟨pv, cv, hv, -, -, -⟩ := hT.shape
    rw [hlen] at hv
    subst hv
    have HLEN := Hid.in hlen
    clear hT hb hlen
    by_cases hlt : k < n
    · have hk1 : k < L.length := by rw [HL.out]; exact hlt
      obtain ⟨b, o, rfl, hc⟩ := (H1.out.below HB.out) (by rw [List.length_map]; omega)
      obtain ⟨c0, c1, c2⟩ := cells3 hc k (by rw [List.length_map]; exact hk1)
      simp only [List.getElem_map, fxV] at c0 c1 c2
      have HTK : Hid ((L.take (k + 1)).map fxV = (L.take k).map fxV ++ [fxV L[k]]) := by
        rw [List.take_succ_eq_append_getElem hk1, List.map_append]; exact rfl
      clear hc
      generalize (L.take k).map fxV = LQ at *
      generalize L[k] = x at *
      have hl1 : LQ.length ≤ 4398046511000 := by have := HLEN.out; omega
      have hl2 : (LQ.length + 1) * 32 ≤ 140737488355328 := by have := HLEN.out; omega
      go_wp2_with (refine tpushV Tryz.elemFix _ rfl _ _ rfl w.heap.size _ LQ rfl (HT.out.alloc _) ⟨wr.heap.size, 0, none⟩ 1 (.int .u8 x.k, .int .i64 x.at_, .string x.name) ⟨rfl, rfl, rfl⟩ rfl (news3 _ _ _) hl1 hl2 (by have := HB.out.size; simp; omega) ?_; intro v5 w5 hT5 hg5 hb5; have HT5 := Hid.in hT5; have HB5 := Hid.in (hb5 w (below_alloc HB.out _)); clear hT5 hg5 hb5)
      go_roundw
      case rel => exact ⟨k + 1, by go_num, by omega, by rw [HTK.out]; exact HT5.out, HB5.out⟩
      case measure => simp [intOf]; omega
    · have hkn : k = n := by omega
      subst hkn
      have HR : Hid ((L.take k).map fxV = L.map fxV) := by
        rw [List.take_of_length_le (by rw [HL.out]; exact Nat.le_refl _)]; exact rfl
      rw [HR.out] at HT
      go_wp2_with fail
      go_ret
      exact ⟨_, rfl, HT.out, HB.out⟩

set_option maxRecDepth 20000 in
set_option maxHeartbeats 1000000 in
theorem copyMarksV_any (p : Option Addr) (n c : Nat) (L : List Mk) (w : World) (hn : L.length = n) (hn6 : n ≤ 3518437208780) (h1 : Row3 w p (L.map mkV)) :
    Calls Tryz.prog 60 #[.slice p n c] w fun E w' => ∃ v, E = .returned v ∧ TOwn 58 w' w.heap.size v (L.map mkV) ∧ Below w.heap.size w w' := by
  have HL := Hid.in hn
  have H1 := Hid.in h1
  clear hn h1
  go_enter Tryz.func60, Tryz.ntmps60
  go_wp2_with fail
  go_loopw [3, 4] (fun v vi wr => ∃ k : Nat, vi = .int .i64 k ∧ k ≤ n ∧ TOwn 58 wr w.heap.size v ((L.take k).map mkV) ∧ Below w.heap.size w wr) (fun _ vi _ => n - (intOf vi).toNat)
  case atStart => exact ⟨0, rfl, Nat.zero_le _, TOwn.nil _ _ _, below_self _⟩
  case round =>
    obtain ⟨k, rfl, hk, hT, hb⟩ := hrel
    have HT := Hid.in hT
    have HB := Hid.in hb
    have hlen : ((L.take k).map mkV).length = k := by rw [List.length_map, List.length_take, HL.out]; omega
    obtain ⟨pv, cv, hv, -, -, -⟩ := hT.shape
    rw [hlen] at hv
    subst hv
    have HLEN := Hid.in hlen
    clear hT hb hlen
    by_cases hlt : k < n
    · have hk1 : k < L.length := by rw [HL.out]; exact hlt
      obtain ⟨b, o, rfl, hc⟩ := (H1.out.below HB.out) (by rw [List.length_map]; omega)
      obtain ⟨c0, c1, c2⟩ := cells3 hc k (by rw [List.length_map]; exact hk1)
      simp only [List.getElem_map, mkV] at c0 c1 c2
      have HTK : Hid ((L.take (k + 1)).map mkV = (L.take k).map mkV ++ [mkV L[k]]) := by
        rw [List.take_succ_eq_append_getElem hk1, List.map_append]; exact rfl
      clear hc
      generalize (L.take k).map mkV = LQ at *
      generalize L[k] = x at *
      have hl1 : LQ.length ≤ 4398046511000 := by have := HLEN.out; omega
      have hl2 : (LQ.length + 1) * 40 ≤ 140737488355328 := by have := HLEN.out; omega
      go_wp2_with (refine tpushV Tryz.elemMark _ rfl _ _ rfl w.heap.size _ LQ rfl (HT.out.alloc _) ⟨wr.heap.size, 0, none⟩ 1 (.int .i64 x.at_, .string x.key, .string x.to_) ⟨rfl, rfl, rfl⟩ rfl (news3 _ _ _) hl1 hl2 (by have := HB.out.size; simp; omega) ?_; intro v5 w5 hT5 hg5 hb5; have HT5 := Hid.in hT5; have HB5 := Hid.in (hb5 w (below_alloc HB.out _)); clear hT5 hg5 hb5)
      go_roundw
      case rel => exact ⟨k + 1, by go_num, by omega, by rw [HTK.out]; exact HT5.out, HB5.out⟩
      case measure => simp [intOf]; omega
    · have hkn : k = n := by omega
      subst hkn
      have HR : Hid ((L.take k).map mkV = L.map mkV) := by
        rw [List.take_of_length_le (by rw [HL.out]; exact Nat.le_refl _)]; exact rfl
      rw [HR.out] at HT
      go_wp2_with fail
      go_ret
      exact ⟨_, rfl, HT.out, HB.out⟩

set_option maxRecDepth 20000 in
set_option maxHeartbeats 2000000 in
theorem copyObjectV_any (o : Ob) (pb ps pf pm : Option Addr) (nb cb ns cs nf cf nm cm : Nat) (w : World) (h : ObIn w o pb ps pf pm nb cb ns cs nf cf nm cm) (h1 : nb ≤ 140737488351232) (h2 : ns ≤ 4398046510976) (h3 : nf ≤ 4398046510976) (h4 : nm ≤ 3518437208780) :
    Calls Tryz.prog 25 #[.agg (obA pb ps pf pm nb cb ns cs nf cf nm cm)] w fun E w' => (∃ vb vs vf vm, E = .returned (.agg #[vb, vs, vf, vm]) ∧ ObOwn w' w.heap.size o vb vs vf vm) ∧ Below w.heap.size w w' := by
  have hB := fun W (k : ObIn W o pb ps pf pm nb cb ns cs nf cf nm cm) => copy_any pb nb cb o.bs W k.lb (by omega) k.rb
  have hS := fun W (k : ObIn W o pb ps pf pm nb cb ns cs nf cf nm cm) => copySymsV_any ps ns cs o.sy W k.ls h2 k.rs
  have hF := fun W (k : ObIn W o pb ps pf pm nb cb ns cs nf cf nm cm) => copyFixesV_any pf nf cf o.fx W k.lf h3 k.rf
  have hM := fun W (k : ObIn W o pb ps pf pm nb cb ns cs nf cf nm cm) => copyMarksV_any pm nm cm o.mk_ W k.lm h4 k.rm
  have H := Hid.in h
  clear h
  go_enter Tryz.func25, Tryz.ntmps25
  go_upto_region 1 with fail
  have HA0 : Hid (Blk ((w.alloc (.cells (obA pb ps pf pm nb cb ns cs nf cf nm cm) 56)).alloc (.cells noObj 56)) w.heap.size 56 (obA pb ps pf pm nb cb ns cs nf cf nm cm)) := (Blk.new w 56 _).grow (new_alloc _ _)
  have HB0 : Hid (Blk ((w.alloc (.cells (obA pb ps pf pm nb cb ns cs nf cf nm cm) 56)).alloc (.cells noObj 56)) (w.heap.size + 1) 56 noObj) := by
    have := Blk.new (w.alloc (.cells (obA pb ps pf pm nb cb ns cs nf cf nm cm) 56)) 56 noObj
    rw [size_one] at this
    exact this
  have HW0 : Hid (Below w.heap.size w ((w.alloc (.cells (obA pb ps pf pm nb cb ns cs nf cf nm cm) 56)).alloc (.cells noObj 56))) := below_alloc (new_alloc w _) _
  generalize (w.alloc (.cells (obA pb ps pf pm nb cb ns cs nf cf nm cm) 56)).alloc (.cells noObj 56) = w0 at *
  have a0 : w0.cell? ⟨w.heap.size, 0, none⟩ = some (.slice pb nb cb) := HA0.out.cell 0
  have a1 : w0.cell? ⟨w.heap.size, 1, none⟩ = some (.slice ps ns cs) := HA0.out.cell 1
  have a2 : w0.cell? ⟨w.heap.size, 2, none⟩ = some (.slice pf nf cf) := HA0.out.cell 2
  have a3 : w0.cell? ⟨w.heap.size, 3, none⟩ = some (.slice pm nm cm) := HA0.out.cell 3
  go_region_held3 (fun W => W.cell? ⟨w.heap.size, 0, none⟩ = some (.slice pb nb cb) ∧ W.cell? ⟨w.heap.size, 1, none⟩ = some (.slice ps ns cs) ∧ W.cell? ⟨w.heap.size, 2, none⟩ = some (.slice pf nf cf) ∧ W.cell? ⟨w.heap.size, 3, none⟩ = some (.slice pm nm cm)) (first | go_keep | exact hk1 | exact hk2 | exact hk3 | exact hk4)
    (first
      | (go_at_call 57; refine (hB _ (H.out.below (below_draws HW0.out 1))).mono ?_; rintro E w1 ⟨v1, rfl, ho1, hb1⟩; obtain ⟨p1, c1, hv1, -, -, -⟩ := ho1.slice2; subst hv1; have HW1 := Hid.in (below_step (below_draws HW0.out 1) hb1); have HC1 := Hid.in (below_step (below_draws (below_self w0) 1) hb1); have HA1 := Hid.in (HA0.out.grow HC1.out); have HB1 := Hid.in (HB0.out.grow HC1.out); have HO1 := Hid.in ho1; have hk1 : w1.cell? ⟨w.heap.size, 0, none⟩ = some (.slice pb nb cb) ∧ w1.cell? ⟨w.heap.size, 1, none⟩ = some (.slice ps ns cs) ∧ w1.cell? ⟨w.heap.size, 2, none⟩ = some (.slice pf nf cf) ∧ w1.cell? ⟨w.heap.size, 3, none⟩ = some (.slice pm nm cm) := ⟨HA1.out.cell 0, HA1.out.cell 1, HA1.out.cell 2, HA1.out.cell 3⟩; clear ho1 hb1)
      | (go_at_call 58; refine (hS _ (H.out.below HW1.out)).mono ?_; rintro E w2 ⟨v2, rfl, ho2, hb2⟩; obtain ⟨p2, c2, hv2, -, -, -⟩ := ho2.shape; rw [List.length_map] at hv2; subst hv2; have HW2 := Hid.in (below_step HW1.out hb2); have HA2 := Hid.in (HA1.out.grow hb2); have HB2 := Hid.in (HB1.out.grow hb2); have HO2 := Hid.in (HO1.out.below hb2); have HS2 := Hid.in ho2; have hk2 : w2.cell? ⟨w.heap.size, 0, none⟩ = some (.slice pb nb cb) ∧ w2.cell? ⟨w.heap.size, 1, none⟩ = some (.slice ps ns cs) ∧ w2.cell? ⟨w.heap.size, 2, none⟩ = some (.slice pf nf cf) ∧ w2.cell? ⟨w.heap.size, 3, none⟩ = some (.slice pm nm cm) := ⟨HA2.out.cell 0, HA2.out.cell 1, HA2.out.cell 2, HA2.out.cell 3⟩; clear ho2 hb2)
      | (go_at_call 59; refine (hF _ (H.out.below HW2.out)).mono ?_; rintro E w3 ⟨v3, rfl, ho3, hb3⟩; obtain ⟨p3, c3', hv3, -, -, -⟩ := ho3.shape; rw [List.length_map] at hv3; subst hv3; have HW3 := Hid.in (below_step HW2.out hb3); have HA3 := Hid.in (HA2.out.grow hb3); have HB3 := Hid.in (HB2.out.grow hb3); have HO3 := Hid.in (HO2.out.below hb3); have HS3 := Hid.in (HS2.out.below hb3); have HF3 := Hid.in ho3; have hk3 : w3.cell? ⟨w.heap.size, 0, none⟩ = some (.slice pb nb cb) ∧ w3.cell? ⟨w.heap.size, 1, none⟩ = some (.slice ps ns cs) ∧ w3.cell? ⟨w.heap.size, 2, none⟩ = some (.slice pf nf cf) ∧ w3.cell? ⟨w.heap.size, 3, none⟩ = some (.slice pm nm cm) := ⟨HA3.out.cell 0, HA3.out.cell 1, HA3.out.cell 2, HA3.out.cell 3⟩; clear ho3 hb3)
      | (go_at_call 60; refine (hM _ (H.out.below HW3.out)).mono ?_; rintro E w4 ⟨v4, rfl, ho4, hb4⟩; obtain ⟨p4, c4, hv4, -, -, -⟩ := ho4.shape; rw [List.length_map] at hv4; subst hv4; have HW4 := Hid.in (below_step HW3.out hb4); have HA4 := Hid.in (HA3.out.grow hb4); have HB4 := Hid.in (HB3.out.grow hb4); have HO4 := Hid.in (HO3.out.below hb4); have HS4 := Hid.in (HS3.out.below hb4); have HF4 := Hid.in (HF3.out.below hb4); have HM4 := Hid.in ho4; have hk4 : w4.cell? ⟨w.heap.size, 0, none⟩ = some (.slice pb nb cb) ∧ w4.cell? ⟨w.heap.size, 1, none⟩ = some (.slice ps ns cs) ∧ w4.cell? ⟨w.heap.size, 2, none⟩ = some (.slice pf nf cf) ∧ w4.cell? ⟨w.heap.size, 3, none⟩ = some (.slice pm nm cm) := ⟨HA4.out.cell 0, HA4.out.cell 1, HA4.out.cell 2, HA4.out.cell 3⟩; have e0 : w4.cell? ⟨w.heap.size + 1, 0, none⟩ = some (.slice none 0 0) := HB4.out.cell 0; have z0 : w4.frozen? ⟨w.heap.size + 1, 0, none⟩ = false := HB4.out.free 0; have e1 : w4.cell? ⟨w.heap.size + 1, 1, none⟩ = some (.slice none 0 0) := HB4.out.cell 1; have z1 : w4.frozen? ⟨w.heap.size + 1, 1, none⟩ = false := HB4.out.free 1; have e2 : w4.cell? ⟨w.heap.size + 1, 2, none⟩ = some (.slice none 0 0) := HB4.out.cell 2; have z2 : w4.frozen? ⟨w.heap.size + 1, 2, none⟩ = false := HB4.out.free 2; have e3 : w4.cell? ⟨w.heap.size + 1, 3, none⟩ = some (.slice none 0 0) := HB4.out.cell 3; have z3 : w4.frozen? ⟨w.heap.size + 1, 3, none⟩ = false := HB4.out.free 3; clear ho4 hb4))
  have HB5 : Hid (Blk ((((w4.setCell ⟨w.heap.size + 1, 0, none⟩ (.slice p1 o.bs.length c1)).setCell ⟨w.heap.size + 1, 1, none⟩ (.slice p2 o.sy.length c2)).setCell ⟨w.heap.size + 1, 2, none⟩ (.slice p3 o.fx.length c3')).setCell ⟨w.heap.size + 1, 3, none⟩ (.slice p4 o.mk_.length c4)) (w.heap.size + 1) 56 #[.slice p1 o.bs.length c1, .slice p2 o.sy.length c2, .slice p3 o.fx.length c3', .slice p4 o.mk_.length c4]) := HB4.out.setAll #[.slice p1 o.bs.length c1, .slice p2 o.sy.length c2, .slice p3 o.fx.length c3', .slice p4 o.mk_.length c4] rfl
  have HG5 : Hid (w4.grownBy ((((w4.setCell ⟨w.heap.size + 1, 0, none⟩ (.slice p1 o.bs.length c1)).setCell ⟨w.heap.size + 1, 1, none⟩ (.slice p2 o.sy.length c2)).setCell ⟨w.heap.size + 1, 2, none⟩ (.slice p3 o.fx.length c3')).setCell ⟨w.heap.size + 1, 3, none⟩ (.slice p4 o.mk_.length c4)) (some (w.heap.size + 1))) := grown_setCells (w.heap.size + 1) [.slice p1 o.bs.length c1, .slice p2 o.sy.length c2, .slice p3 o.fx.length c3', .slice p4 o.mk_.length c4] 0 w4
  generalize ((((w4.setCell ⟨w.heap.size + 1, 0, none⟩ (.slice p1 o.bs.length c1)).setCell ⟨w.heap.size + 1, 1, none⟩ (.slice p2 o.sy.length c2)).setCell ⟨w.heap.size + 1, 2, none⟩ (.slice p3 o.fx.length c3')).setCell ⟨w.heap.size + 1, 3, none⟩ (.slice p4 o.mk_.length c4)) = w5 at *
  clear e0 e1 e2 e3 z0 z1 z2 z3 hk1 hk2 hk3 hk4 a0 a1 a2 a3 hB hS hF hM
  have l1 : w.heap.size + 1 < w1.heap.size := HB1.out.lt
  have l0 : w.heap.size + 1 < w0.heap.size := HB0.out.lt
  have l2 : w.heap.size + 1 < w2.heap.size := HB2.out.lt
  have l3 : w.heap.size + 1 < w3.heap.size := HB3.out.lt
  go_wp2_with fail
  have hld := HB5.out.load 56 _ Tryz.underlying56 rfl Tryz.sz56
  have hB7 := HW4.out.grown HG5.out HW4.out.size (fun k hk => by cases hk; exact Nat.le_succ _)
  exact bodyPost_ret (v := .agg #[.slice p1 o.bs.length c1, .slice p2 o.sy.length c2, .slice p3 o.fx.length c3', .slice p4 o.mk_.length c4]) (by simp [results, Tryz.results25, asAddr, hld]) rfl
    ⟨⟨_, _, _, _, rfl, ⟨(HO4.out.keptFar HG5.out l0).low (show w.heap.size ≤ w0.heap.size by omega), TOwn.lower (kept_row HS4.out HG5.out (HS4.out.far l1)) (by omega), TOwn.lower (kept_row HF4.out HG5.out (HF4.out.far l2)) (by omega), TOwn.lower (kept_row HM4.out HG5.out (HM4.out.far l3)) (by omega)⟩⟩, hB7⟩

end Go.Proofs.YtckpgpgmaccepaaGreat

/- switchyardref07.Find. -/
namespace Go.Proofs.YtckpgpgmaccepaaGreat
open Go.RowKit

/-- the first that is meant, gone through -/
def fgoG (s : ByteArray) : List Sy → Option Int
  | [] => none
  | x :: L => if meantG s x = true then some x.at_ else fgoG s L
theorem fgo_eq (s : ByteArray) : ∀ L : List Sy, findG L s = fgoG s L
  | [] => rfl
  | x :: L => by
    rw [findG_eq, List.find?_cons]
    unfold fgoG
    by_cases hx : meantG s x = true
    · rw [if_pos hx, hx]; rfl
    · rw [if_neg hx, (by simpa using hx : meantG s x = false), ← fgo_eq s L, findG_eq]
theorem fgo_step (s : ByteArray) (L : List Sy) (k : Nat) (h : k < L.length) : fgoG s (L.drop k) = if meantG s L[k] = true then some L[k].at_ else fgoG s (L.drop (k + 1)) := by
  rw [List.drop_eq_getElem_cons h]; rfl

set_option maxRecDepth 20000 in
set_option maxHeartbeats 2000000 in
theorem refFind_any (p : Option Addr) (n c : Nat) (L : List Sy) (s : ByteArray) (w : World) (hn : L.length = n) (hn6 : n ≤ 9223372036854775807) (hr : Row3 w p (L.map syV)) :
    Calls Tryz.prog 68 #[.slice p n c, .string s] w fun E w' => E = .returned (.tuple #[.int .i64 ((findG L s).getD 0), .bool (findG L s).isSome]) ∧ w' = w := by
  have HN := Hid.in hn
  have HR := Hid.in hr
  clear hn hr
  obtain ⟨r, hr⟩ : ∃ r, findG L s = r := ⟨_, rfl⟩
  rw [hr]
  have HRR : Hid (fgoG s L = r) := by
    have h : fgoG s L = r := by rw [← fgo_eq]; exact hr
    exact h
  clear hr
  go_enter Tryz.func68, Tryz.ntmps68
  go_wp2_with fail
  go_loop [6] (fun vi => ∃ k : Nat, vi = .int .i64 k ∧ k ≤ n ∧ fgoG s L = fgoG s (L.drop k)) (fun vi => n - (intOf vi).toNat)
  case atStart => exact ⟨0, rfl, Nat.zero_le _, rfl⟩
  case round =>
    obtain ⟨k, rfl, hk, hgo⟩ := hrel
    have HGO := Hid.in hgo
    clear hgo
    by_cases hlt : k < n
    · have hkl : k < L.length := by rw [HN.out]; exact hlt
      obtain ⟨b, o, rfl, hc⟩ := HR.out (by rw [List.length_map]; omega)
      obtain ⟨c0, c1, c2⟩ := cells3 hc k (by rw [List.length_map]; exact hkl)
      simp only [List.getElem_map, syV] at c0 c1 c2
      have HST := Hid.in (fgo_step s L k hkl)
      clear hc
      generalize L[k] = x at *
      obtain ⟨sn, sa, sg⟩ := x
      simp only at c0 c1 c2
      cases sg with
      | false =>
        have HV : Hid (fgoG s L = fgoG s (L.drop (k + 1))) := by
          have h : fgoG s L = fgoG s (L.drop (k + 1)) := by rw [HGO.out, HST.out, if_neg (by simp [meantG])]
          exact h
        go_wp2_with fail
        go_round
        case rel => exact ⟨k + 1, by go_num, by omega, HV.out⟩
        case measure => simp [intOf]; omega
      | true =>
        by_cases hs : sn = s
        · have HV : Hid (r = some sa) := by
            have h : r = some sa := by rw [← HRR.out, HGO.out, HST.out, if_pos (by simp [meantG, hs])]
            exact h
          subst hs
          go_wp2_with fail
          go_ret2
          exact ⟨by rw [HV.out]; rfl, rfl⟩
        · have HV : Hid (fgoG s L = fgoG s (L.drop (k + 1))) := by
            have h : fgoG s L = fgoG s (L.drop (k + 1)) := by rw [HGO.out, HST.out, if_neg (by simp [meantG, hs])]
            exact h
          have hsl := text_ne7 hs
          have hsb : (sn.toList == s.toList) = false := by simpa using hsl
          have hsd : decide (sn.toList = s.toList) = false := decide_eq_false hsl
          go_wp2_with fail
          go_round
          case rel => exact ⟨k + 1, by go_num, by omega, HV.out⟩
          case measure => simp [intOf]; omega
    · have HV : Hid (r = none) := by
        have h : r = none := by rw [← HRR.out, HGO.out, List.drop_eq_nil_of_le (by rw [HN.out]; omega)]; rfl
        exact h
      go_wp2_with fail
      go_ret2
      exact ⟨by rw [HV.out]; rfl, rfl⟩

end Go.Proofs.YtckpgpgmaccepaaGreat

/- switchyardref07.Table. -/
namespace Go.Proofs.YtckpgpgmaccepaaGreat
open Go.RowKit

/-- 'append(l, own...)', both of the call's own -/
theorem tpushOwn {ops : Array Oper} {rest : List Oper} {o : Oper} {a : Act} {Q : Exit → Act → World → Prop} {t T : TypeId} {by_ : Nat} (he : Elem3 t T by_) (w : World) (hgd : o.guard = none) (s x : Operand)
    (ho : o.op = .call { callee := .builtin .append, args := #[s, x], argTypes := #[t, t] }) (B : Nat) (v : Value) (L : List V3) (hs : a.eval s = v) (hown : TOwn T w B v L)
    (B' : Nat) (u : Value) (M : List V3) (hx : a.eval x = u) (hM : TOwn T w B' u M) (hone : ∀ q ∈ M, one3 q) (hlen : L.length + M.length ≤ 1048576) (hby : by_ ≤ 100) (hB : B ≤ w.heap.size)
    (h : ∀ v' w', TOwn T w' B v' (L ++ M) → w.grownBy w' v.ownBlock → (∀ w0, Below B w0 w → Below B w0 w') → wpList Tryz.prog ops Q rest (a.put o.dst v') w') :
    wpList Tryz.prog ops Q (o :: rest) a w := by
  obtain ⟨hu, z, hzc, hinfo⟩ := he
  obtain ⟨i0, hi, hz0, hz1, hz2⟩ := info_parts hinfo
  rcases hM.2 with ⟨e1, e2⟩ | ⟨g, cap, cur, e1, _⟩
  · obtain rfl : M = [] := List.eq_nil_of_length_eq_zero e2
    rw [e1] at hx
    exact wpList_append_own_none hgd s x t ho B T i0 3 hu hi v L.length (c3 L) hs hown hx (h v w (by rw [List.append_nil]; exact hown) (World.grownBy.refl w _) fun _ hb => hb)
  · obtain ⟨p', cap', e3, _, _, hcells⟩ := hM.shape
    rw [e1] at hx e3
    injection e3 with e4 e5 e6
    have hnews : ∀ j q, (c3 M)[j]? = some q → w.cell? ((⟨g, 0, none⟩ : Addr).add j) = some q := fun j q hj => by
      have hjl : j < M.length * 3 := by
        rw [← c3_len]
        exact (List.getElem?_eq_some_iff.1 hj).1
      have hpos : 0 < M.length := by omega
      obtain ⟨g', e7, _, _, hc⟩ := hcells hpos
      rw [← e4] at e7
      have e8 : g = g' := by simpa using e7
      subst e8
      have h1 := c3_at M (j / 3) (by omega) (j % 3) (by omega)
      have h2 := hc (j / 3) (by omega) (j % 3) (by omega)
      rw [show j / 3 * 3 + j % 3 = j by omega] at h1 h2
      rw [Go.WideShapes.add_plain, Nat.zero_add, h2, ← h1, hj]
    refine wpList_append_own w hgd s x t ho B T i0 z 3 by_ hu hi hz0 hz1 hz2 hzc (by decide) v L.length (c3 L) hs hown ⟨g, 0, none⟩ M.length cap (c3 M) hx (c3_len M) hnews (fun q hq => ?_) (by unfold maxLen; omega) (Nat.le_trans (Nat.mul_le_mul hlen hby) (by decide)) hB ?_
    · unfold c3 at hq
      rw [List.mem_flatMap] at hq
      obtain ⟨y, hy, hq⟩ := hq
      exact one3_mem (hone y hy) q hq
    · intro v' w' h2 h3 _
      refine h v' w' ?_ h3 (fun w0 hb => hb.grown h3 hB fun k hk => (World.ownsRow.lt hown k hk).1)
      unfold TOwn
      rw [List.length_append, c3_two]
      exact h2
theorem inB_some (ts : List Sy) (s : ByteArray) : (findG ts s).isSome = inB s (gloS ts) := by
  rw [fgo_eq]
  induction ts with
  | nil => rfl
  | cons x L ih =>
    unfold fgoG
    have hg : gloS (x :: L) = (if x.g = true then [x.name] else []) ++ gloS L := by
      unfold gloS
      rw [List.filter_cons]
      split <;> rfl
    rw [hg, inB_app]
    by_cases hx : meantG s x = true
    · rw [if_pos hx]
      unfold meantG at hx
      rw [Bool.and_eq_true, decide_eq_true_eq] at hx
      rw [if_pos hx.1, hx.2]
      simp [inB]
    · rw [if_neg hx, ih]
      unfold meantG at hx
      by_cases hgx : x.g = true
      · rw [if_pos hgx]
        have hne : ¬ x.name = s := fun e => hx (by rw [hgx, e]; simp)
        simp [inB, hne]
      · rw [if_neg hgx]
        simp [inB]

set_option maxRecDepth 20000 in
set_option maxHeartbeats 8000000 in
theorem refTable_any (p : Option Addr) (n c : Nat) (xs : List Ob) (w : World) (hn : xs.length = n) (hn63 : n ≤ 9223372036854775807) (hx : Units w p xs) : Calls Tryz.prog 34 #[.slice p n c] w (TabIs xs w) := by
  by_cases hbig : 16 < n
  · have HT : Hid (tabL xs = noTab 3 0) := by
      have h : tabL xs = noTab 3 0 := by unfold tabL; rw [if_pos (by omega)]
      exact h
    clear hx hn
    go_enter Tryz.func34, Tryz.ntmps34
    go_wp2_with fail
    exact bodyPost_ret (v := .tuple #[.slice none 0 0, .slice none 0 0, .int .i64 3, .int .i64 0]) (by simp [results, Tryz.results34, go_sem]) rfl (tabIs_err (u := 0) HT.out (below_self _))
  · have HT : Hid (tabL xs = tabGo 0 0 [] [] xs) := by
      have h : tabL xs = tabGo 0 0 [] [] xs := by unfold tabL; rw [if_neg (by omega)]
      exact h
    have HN := Hid.in hn
    have HX := Hid.in hx
    clear hn hx
    go_enter Tryz.func34, Tryz.ntmps34
    go_wp2_with fail
    go_loopw [6, 7, 8, 9] (fun v6 v7 v8 vi wr => ∃ (k e : Nat) (ss : List Nat) (ts : List Sy), vi = .int .i64 k ∧ v8 = .int .i64 e ∧ k ≤ n ∧ e ≤ 65536 ∧ ss.length ≤ k ∧ ts.length ≤ k * 4096 ∧ tabGo 0 0 [] [] xs = tabGo k e ss ts (xs.drop k) ∧ GOwnV 3 wr w.heap.size v6 (startsV ss) ∧ TOwn 67 wr w.heap.size v7 (ts.map syV) ∧ Below w.heap.size w wr) (fun _ _ _ vi _ => n - (intOf vi).toNat)
    case atStart => exact ⟨0, 0, [], [], rfl, rfl, Nat.zero_le _, Nat.zero_le _, Nat.le_refl _, Nat.zero_le _, rfl, GOwnV.nil _ _ _, TOwn.nil _ _ _, below_self w⟩
    case round =>
      obtain ⟨k, e, ss, ts, rfl, rfl, hk, he, hss, hts, hgo, hV6, hV7, hBr⟩ := hrel
      have HGO := Hid.in hgo
      have HV6 := Hid.in hV6
      have HV7 := Hid.in hV7
      have HB := Hid.in hBr
      obtain ⟨p6, c6, hv6, -, -, -⟩ := hV6.slice
      obtain ⟨p7, c7, hv7, hc71, hc72, hr7⟩ := hV7.row3
      rw [List.length_map] at hv7
      have HR7 := Hid.in hr7
      subst hv6 hv7
      clear hgo hV6 hV7 hBr hc71 hc72 hr7
      by_cases hlt : k < n
      · have hkl : k < xs.length := by rw [HN.out]; exact hlt
        obtain ⟨b, o, hp, hc⟩ := HX.out (by omega)
        obtain ⟨pb, ps, pf, pm, cb, cs, cf, cm, ⟨c0', c1', c2', c3'⟩, hI'⟩ := hc k hkl
        subst hp
        have HC0 := Hid.in c0'
        have HC1 := Hid.in c1'
        have HC2 := Hid.in c2'
        have HC3 := Hid.in c3'
        have HI := Hid.in hI'
        have HST := Hid.in (tab_step k e ss ts xs k hkl)
        clear c0' c1' c2' c3' hI' hc
        generalize xs[k] = x at *
        obtain ⟨hn1, hn2, hn3⟩ := nextS_le e
        generalize hNE : nextS e = st at *
        clear hNE
        go_wp2_with fail
        go_loop [8] (fun va => ∃ a : Nat, va = .int .i64 a ∧ e ≤ a ∧ a ≤ st) (fun va => st - (intOf va).toNat)
        case atStart => exact ⟨e, rfl, Nat.le_refl _, hn1⟩
        case round =>
          obtain ⟨a, rfl, ha1, ha2⟩ := hrel
          by_cases hm : a % 4 = 0
          · obtain rfl : a = st := by omega
            have hr1 : (a : Int) % 4 = 0 := by omega
            have hr2 : (a : Int).tmod 4 = 0 := by rw [Int.tmod_eq_emod_of_nonneg (by omega)]; exact hr1
            clear hm
            go_upto_region 11 with fail
            clear hr1 hr2
            have c0 := (HB.out.cell (cell_lt HC0.out)).trans HC0.out
            have c1 := (HB.out.cell (cell_lt HC1.out)).trans HC1.out
            have c2 := (HB.out.cell (cell_lt HC2.out)).trans HC2.out
            have c3 := (HB.out.cell (cell_lt HC3.out)).trans HC3.out
            have hR := refORight_any x pb ps pf pm _ cb _ cs _ cf _ cm wr (HI.out.below HB.out)
            cases hok : okO x with
            | false =>
              have HV : Hid (tabL xs = noTab 2 k) := by
                have h : tabL xs = noTab 2 k := by rw [HT.out, HGO.out, HST.out, if_pos hok]
                exact h
              rw [hok] at hR
              go_wp2_with (go_at_call 67; refine hR.mono ?_; rintro E w3 ⟨rfl, hb3⟩)
              exact bodyPost_ret (v := .tuple #[.slice none 0 0, .slice none 0 0, .int .i64 2, .int .i64 k]) (by simp [results, Tryz.results34, go_sem]) rfl (tabIs_err HV.out (below_step HB.out hb3))
            | true =>
              obtain ⟨q1, q2, q3, q4, q5⟩ := ok_parts hok
              have HQ4 := Hid.in q4
              clear q3 q4 q5
              have HOK : Hid (okO x = true) := hok
              rw [hok] at hR
              clear hok
              go_upto_region 13 with (go_at_call 67; refine hR.mono ?_; rintro E w3 ⟨rfl, hb3⟩; have HD3 := Hid.in hb3; clear hb3)
              clear hR c0 c1 c2 c3
              have HB3 := Hid.in (below_step HB.out HD3.out)
              have H63 := Hid.in (HV6.out.belowG HD3.out)
              have H73 := Hid.in (HV7.out.below HD3.out)
              have HR73 := Hid.in (HR7.out.below HD3.out)
              have c0 := (HB3.out.cell (cell_lt HC0.out)).trans HC0.out
              have c1 := (HB3.out.cell (cell_lt HC1.out)).trans HC1.out
              clear HV6 HV7 HR7 HB HD3
              by_cases hend : 65536 < a + x.bs.length
              · have HV : Hid (tabL xs = noTab 3 k) := by
                  have h : tabL xs = noTab 3 k := by rw [HT.out, HGO.out, HST.out, if_neg (by rw [HOK.out]; decide), if_pos (by omega)]
                  exact h
                go_wp2_with fail
                exact bodyPost_ret (v := .tuple #[.slice none 0 0, .slice none 0 0, .int .i64 3, .int .i64 k]) (by simp [results, Tryz.results34, go_sem]) rfl (tabIs_err HV.out HB3.out)
              · go_upto_region 16 with fail
                clear c0 c1
                go_wp2_with fail
                go_loopw [10, 11] (fun v10 vj wq => ∃ j : Nat, vj = .int .i64 j ∧ j ≤ x.sy.length ∧ dupS (gloS ts) (x.sy.take j) = false ∧ TOwn 67 wq w3.heap.size v10 (((x.sy.take j).map (movS a)).map syV) ∧ Below w3.heap.size w3 wq) (fun _ vj _ => x.sy.length - (intOf vj).toNat)
                case atStart => exact ⟨0, rfl, Nat.zero_le _, rfl, TOwn.nil _ _ _, below_self _⟩
                case round =>
                  obtain ⟨j, rfl, hj, hd, hT, hb⟩ := hrel
                  have HD := Hid.in hd
                  have HTq := Hid.in hT
                  have HBq := Hid.in hb
                  obtain ⟨p10, c10, hv10, -, -, -⟩ := hT.shape
                  simp only [List.length_map, List.length_take, Nat.min_eq_left hj] at hv10
                  subst hv10
                  clear hd hT hb
                  have HBw := Hid.in (below_step HB3.out HBq.out)
                  have c1 := (HBw.out.cell (cell_lt HC1.out)).trans HC1.out
                  by_cases hjl : j < x.sy.length
                  · as_aux_lemma =>
                      obtain ⟨bs, os, hps, hcs⟩ := (HI.out.rs.below HBw.out) (by rw [List.length_map]; omega)
                      subst hps
                      obtain ⟨d0, d1, d2⟩ := cells3 hcs j (by rw [List.length_map]; exact hjl)
                      simp only [List.getElem_map, syV] at d0 d1 d2
                      have hsa := HQ4.out x.sy[j] (List.getElem_mem hjl)
                      have HDT := Hid.in (dup_take (gloS ts) x.sy j hjl)
                      have HDP := Hid.in (dup_part (gloS ts) x.sy (j + 1))
                      have HMT : Hid (((x.sy.take (j + 1)).map (movS a)).map syV = ((x.sy.take j).map (movS a)).map syV ++ [(.string x.sy[j].name, .int .i64 ((a : Int) + x.sy[j].at_), .bool x.sy[j].g)]) := by
                        have h := mov_take [] x.sy a j hjl
                        rw [List.nil_append, List.nil_append] at h
                        exact h
                      have HLN : Hid ((((x.sy.take j).map (movS a)).map syV).length ≤ 1048576) := by
                        have h : (((x.sy.take j).map (movS a)).map syV).length ≤ 1048576 := by
                          rw [List.length_map, List.length_map, List.length_take]
                          omega
                        exact h
                      have hLL : (((x.sy.take j).map (movS a)).map syV).length = j := by rw [List.length_map, List.length_map, List.length_take, Nat.min_eq_left hj]
                      clear hcs
                      generalize x.sy[j] = y at *
                      obtain ⟨sn, sa, sg⟩ := y
                      simp only at d0 d1 d2 hsa
                      generalize ((x.sy.take j).map (movS a)).map syV = LQ at *
                      have hw1 : IntKind.i64.wrap ((a : Int) + sa) = (a : Int) + sa := by rw [IntKind.wrap_i64]; omega
                      go_upto_region 20 with fail
                      have HC4 : Hid (Below wr.heap.size wr (wr.alloc (.cells #[.string sn, .int .i64 sa, .bool sg] 67))) := new_alloc wr _
                      have HB4 : Hid (Below w3.heap.size w3 (wr.alloc (.cells #[.string sn, .int .i64 sa, .bool sg] 67))) := below_alloc HBq.out _
                      have HS4 : Hid (Blk (wr.alloc (.cells #[.string sn, .int .i64 sa, .bool sg] 67)) wr.heap.size 67 #[.string sn, .int .i64 sa, .bool sg]) := Blk.new wr 67 _
                      have HT4 := Hid.in (HTq.out.below HC4.out)
                      generalize wr.alloc (.cells #[.string sn, .int .i64 sa, .bool sg] 67) = w4 at *
                      have s0 : w4.cell? ⟨wr.heap.size, 0, none⟩ = some (.string sn) := HS4.out.cell 0
                      have s1 : w4.cell? ⟨wr.heap.size, 1, none⟩ = some (.int .i64 sa) := HS4.out.cell 1
                      have s2 : w4.cell? ⟨wr.heap.size, 2, none⟩ = some (.bool sg) := HS4.out.cell 2
                      have hF := refFind_any p7 ts.length c7 ts sn w4 rfl (by omega) (HR73.out.below HB4.out)
                      rw [inB_some] at hF
                      generalize (findG ts sn).getD 0 = fr at *
                      clear d0 d1 d2 c1 HC4
                      cases sg with
                      | false =>
                        have HDN : Hid (dupS (gloS ts) (x.sy.take (j + 1)) = false) := by
                          have h : dupS (gloS ts) (x.sy.take (j + 1)) = false := by rw [HDT.out, HD.out]; rfl
                          exact h
                        generalize inB sn (gloS ts) = bi at *
                        go_wp2_with (first
                          | (go_at_call 68; refine hF.mono ?_; rintro E W ⟨rfl, hW⟩; have hW2 := hW.symm; clear hW; subst hW2)
                          | (at_builtin; refine tpush Tryz.elemSym _ rfl _ _ rfl w3.heap.size _ LQ rfl (HT4.out.alloc _) ⟨w4.heap.size, 0, none⟩ 1 (.string sn, .int .i64 ((a : Int) + sa), .bool false) ⟨rfl, rfl, rfl⟩ rfl (news3 w4 (.string sn, .int .i64 ((a : Int) + sa), .bool false) 67) HLN.out (by decide) (by have := HB4.out.size; simp; omega) ?_; intro v5 w5 hT5 hg5 hb5; have HT5 := Hid.in hT5; have HB5 := Hid.in (hb5 w3 (below_alloc HB4.out _)); clear hT5 hg5 hb5))
                        go_roundw
                        case rel => exact ⟨j + 1, by go_num, by omega, HDN.out, by rw [HMT.out]; exact HT5.out, HB5.out⟩
                        case measure => simp [intOf]; omega
                      | true =>
                        cases hi : inB sn (gloS ts) with
                        | true =>
                          have HV : Hid (tabL xs = noTab 170 k) := by
                            have hd : dupS (gloS ts) x.sy = true := HDP.out (by rw [HDT.out, HD.out]; show (false || (true && inB sn (gloS ts))) = true; rw [hi]; rfl)
                            have h : tabL xs = noTab 170 k := by rw [HT.out, HGO.out, HST.out, if_neg (by rw [HOK.out]; decide), if_neg (by omega), if_pos hd]
                            exact h
                          rw [hi] at hF
                          go_wp2_with (go_at_call 68; refine hF.mono ?_; rintro E W ⟨rfl, hW⟩; have hW2 := hW.symm; clear hW; subst hW2)
                          exact bodyPost_ret (v := .tuple #[.slice none 0 0, .slice none 0 0, .int .i64 170, .int .i64 k]) (by simp [results, Tryz.results34, go_sem]) rfl (tabIs_err HV.out (below_step HB3.out HB4.out))
                        | false =>
                          have HDN : Hid (dupS (gloS ts) (x.sy.take (j + 1)) = false) := by
                            have h : dupS (gloS ts) (x.sy.take (j + 1)) = false := by rw [HDT.out, HD.out]; show (false || (true && inB sn (gloS ts))) = false; rw [hi]; rfl
                            exact h
                          rw [hi] at hF
                          go_wp2_with (first
                            | (go_at_call 68; refine hF.mono ?_; rintro E W ⟨rfl, hW⟩; have hW2 := hW.symm; clear hW; subst hW2)
                            | (at_builtin; refine tpush Tryz.elemSym _ rfl _ _ rfl w3.heap.size _ LQ rfl (HT4.out.alloc _) ⟨w4.heap.size, 0, none⟩ 1 (.string sn, .int .i64 ((a : Int) + sa), .bool true) ⟨rfl, rfl, rfl⟩ rfl (news3 w4 (.string sn, .int .i64 ((a : Int) + sa), .bool true) 67) HLN.out (by decide) (by have := HB4.out.size; simp; omega) ?_; intro v5 w5 hT5 hg5 hb5; have HT5 := Hid.in hT5; have HB5 := Hid.in (hb5 w3 (below_alloc HB4.out _)); clear hT5 hg5 hb5))
                          go_roundw
                          case rel => exact ⟨j + 1, by go_num, by omega, HDN.out, by rw [HMT.out]; exact HT5.out, HB5.out⟩
                          case measure => simp [intOf]; omega
                  · obtain rfl : j = x.sy.length := by omega
                    have hd2 := HD.out
                    rw [List.take_length] at hd2
                    have HV : Hid (tabGo 0 0 [] [] xs = tabGo (k + 1) (a + x.bs.length) (ss ++ [a]) (ts ++ x.sy.map (movS a)) (xs.drop (k + 1))) := by
                      have h : tabGo 0 0 [] [] xs = tabGo (k + 1) (a + x.bs.length) (ss ++ [a]) (ts ++ x.sy.map (movS a)) (xs.drop (k + 1)) := by rw [HGO.out, HST.out, if_neg (by rw [HOK.out]; decide), if_neg (by omega), if_neg (by rw [hd2]; decide)]
                      exact h
                    have hTq := HTq.out
                    rw [List.take_length] at hTq
                    have HTT := Hid.in hTq
                    clear hTq hd2 HD HTq
                    have H6q := Hid.in (GOwnV.belowG H63.out HBq.out)
                    have H7q := Hid.in (H73.out.below HBq.out)
                    have HSSL : Hid ((startsV ss).length = ss.length) := by
                      have h : (startsV ss).length = ss.length := by unfold startsV; rw [List.length_map]
                      exact h
                    have HSV : Hid (startsV (ss ++ [a]) = startsV ss ++ [.int .i64 (a : Int)]) := by
                      have h : startsV (ss ++ [a]) = startsV ss ++ [.int .i64 (a : Int)] := by unfold startsV; rw [List.map_append]; rfl
                      exact h
                    have hszw := HBw.out.size
                    go_upto_region 25 with (at_builtin; refine gpush Tryz.elemI _ rfl _ _ rfl w.heap.size _ (startsV ss) rfl (GOwnV.belowG H6q.out (new_alloc wr _)) ⟨wr.heap.size, 0, none⟩ 1 1 [.int .i64 (a : Int)] rfl rfl (cell_one_new _ _ _) (by simp [Value.oneCell']) (by rw [HSSL.out]; omega) (by rw [HSSL.out]; omega) (by simp; omega) ?_; intro v5 w5 hT5 hg5 hb5 _hnil; obtain ⟨p5, c5, hv5, -, -, -⟩ := hT5.slice; simp only [List.length_append, List.length_cons, List.length_nil, Nat.zero_add] at hv5; subst hv5; have H65 := Hid.in hT5; have HG5 := Hid.in hg5; have HB5 := Hid.in (hb5 w (below_alloc HBw.out _)); clear hT5 hg5 hb5 _hnil)
                    have hAl := new_alloc wr (.cells #[.int .i64 (a : Int)] 3)
                    have h6a := GOwnV.belowG H6q.out hAl
                    have h7a := (show TOwn 67 wr w.heap.size _ _ from H7q.out).below hAl
                    have hTa := (show TOwn 67 wr w3.heap.size _ _ from HTT.out).below hAl
                    have H75 := Hid.in (kept_row h7a HG5.out (rows_apart h7a h6a (by decide)))
                    have HT5 := Hid.in (kept_row hTa HG5.out (rows_apart hTa h6a (by decide)))
                    have hsz5 : w.heap.size ≤ w5.heap.size := HB5.out.size
                    clear hAl h6a h7a hTa H63 H73 H6q H7q HTT HG5
                    have HONE : Hid (∀ q ∈ (x.sy.map (movS a)).map syV, one3 q) := fun q hq => by
                      obtain ⟨y, _, rfl⟩ := List.mem_map.1 hq
                      exact ⟨rfl, rfl, rfl⟩
                    have HLL : Hid ((ts.map syV).length + ((x.sy.map (movS a)).map syV).length ≤ 1048576) := by
                      have h : (ts.map syV).length + ((x.sy.map (movS a)).map syV).length ≤ 1048576 := by
                        rw [List.length_map, List.length_map, List.length_map]
                        omega
                      exact h
                    have HTL : Hid ((ts ++ x.sy.map (movS a)).length ≤ (k + 1) * 4096) := by
                      have h : (ts ++ x.sy.map (movS a)).length ≤ (k + 1) * 4096 := by rw [List.length_append, List.length_map]; omega
                      exact h
                    have HSL : Hid ((ss ++ [a]).length ≤ k + 1) := by
                      have h : (ss ++ [a]).length ≤ k + 1 := by rw [List.length_append]; simp; omega
                      exact h
                    have HMM : Hid ((ts ++ x.sy.map (movS a)).map syV = ts.map syV ++ (x.sy.map (movS a)).map syV) := by
                      have h : (ts ++ x.sy.map (movS a)).map syV = ts.map syV ++ (x.sy.map (movS a)).map syV := List.map_append
                      exact h
                    go_upto_region 26 with (at_builtin; refine tpushOwn Tryz.elemSym _ rfl _ _ rfl w.heap.size _ (ts.map syV) rfl H75.out w3.heap.size _ _ rfl HT5.out HONE.out HLL.out (by decide) hsz5 ?_; intro v6 w6 hT6 hg6 hb6; obtain ⟨p6', c6', hv6', -, -, -⟩ := hT6.shape; simp only [List.length_map, List.length_append] at hv6'; subst hv6'; have HT6 := Hid.in hT6; have H66 := Hid.in (kept_row H65.out hg6 (rows_apart H65.out H75.out (by decide))); have HB6 := Hid.in (hb6 w HB5.out); clear hT6 hg6 hb6)
                    have c0 := (HB6.out.cell (cell_lt HC0.out)).trans HC0.out
                    go_wp2_with fail
                    go_roundw
                    case rel => exact ⟨k + 1, a + x.bs.length, ss ++ [a], ts ++ x.sy.map (movS a), by go_num, by go_num, by omega, by omega, HSL.out, HTL.out, HV.out, by rw [HSV.out]; exact H66.out, by rw [HMM.out]; exact HT6.out, HB6.out⟩
                    case measure => simp [intOf]; omega
          · have hr1 : ¬ (a : Int) % 4 = 0 := by omega
            have hr2 : ¬ (a : Int).tmod 4 = 0 := by rw [Int.tmod_eq_emod_of_nonneg (by omega)]; exact hr1
            have hb1 : ((a : Int) % 4 != 0) = true := by simpa using hr1
            have hb2 : ((a : Int).tmod 4 != 0) = true := by simpa using hr2
            go_wp2_with fail
            go_round
            case rel => exact ⟨a + 1, by go_num, by omega, by omega⟩
            case measure => simp [intOf]; omega
      · have HE : Hid (tabL xs = ⟨ss, ts, 0, 0⟩) := by
          have h : tabL xs = ⟨ss, ts, 0, 0⟩ := by rw [HT.out, HGO.out, List.drop_eq_nil_of_le (by rw [HN.out]; omega)]; rfl
          exact h
        go_wp2_with fail
        exact bodyPost_ret (v := .tuple #[.slice p6 (startsV ss).length c6, .slice p7 ts.length c7, .int .i64 0, .int .i64 0]) (by simp [results, Tryz.results34, go_sem]) rfl ⟨_, _, by rw [HE.out]; rfl, by rw [HE.out]; exact HV6.out, by rw [HE.out]; exact HV7.out, HB.out⟩

end Go.Proofs.YtckpgpgmaccepaaGreat

/- symbols.Resolve. -/
namespace Go.Proofs.YtckpgpgmaccepaaGreat
open Go.RowKit

theorem tabGo_ok : ∀ (xs : List Ob) (i e : Nat) (ss : List Nat) (ts : List Sy), (tabGo i e ss ts xs).e = 0 → (∀ s ∈ ss, s ≤ 65536) → (tabGo i e ss ts xs).ss.length = ss.length + xs.length ∧ (∀ s ∈ (tabGo i e ss ts xs).ss, s ≤ 65536) ∧ ∀ x ∈ xs, okO x = true
  | [], _, _, _, _, _, hs => ⟨rfl, hs, fun x hx => by cases hx⟩
  | o :: xs, i, e, ss, ts, h, hs => by
    unfold tabGo at h ⊢
    by_cases h1 : okO o = false
    · rw [if_pos h1] at h; exact absurd h (by simp [noTab])
    · rw [if_neg h1] at h ⊢
      by_cases h2 : nextS e + o.bs.length > 65536
      · rw [if_pos h2] at h; exact absurd h (by simp [noTab])
      · rw [if_neg h2] at h ⊢
        by_cases h3 : dupS (gloS ts) o.sy = true
        · rw [if_pos h3] at h; exact absurd h (by simp [noTab])
        · rw [if_neg h3] at h ⊢
          obtain ⟨i1, i2, i3⟩ := tabGo_ok xs (i + 1) _ _ _ h (fun s hm => by
            rcases List.mem_append.1 hm with hm | hm
            · exact hs s hm
            · rw [List.mem_singleton.1 hm]; omega)
          refine ⟨?_, i2, fun x hx => ?_⟩
          · rw [i1, List.length_append, List.length_cons]; simp; omega
          · rcases List.mem_cons.1 hx with rfl | hx
            · simpa using h1
            · exact i3 x hx
theorem tab_ok {xs : List Ob} (h : (tabL xs).e = 0) : (tabL xs).ss.length = xs.length ∧ (∀ s ∈ (tabL xs).ss, s ≤ 65536) ∧ ∀ x ∈ xs, okO x = true := by
  unfold tabL at h ⊢
  split at h
  · exact absurd h (by simp [noTab])
  · rename_i h1
    rw [if_neg h1]
    obtain ⟨i1, i2, i3⟩ := tabGo_ok xs 0 0 [] [] h (fun s hs => by cases hs)
    exact ⟨by rw [i1]; simp, i2, i3⟩
theorem findN_in {L : List Sy} {s : ByteArray} {a : Int} (h : findN L s = some a) : ∃ x ∈ L, x.at_ = a := by
  unfold findN at h
  rw [Option.map_eq_some_iff] at h
  obtain ⟨x, h1, h2⟩ := h
  exact ⟨x, List.mem_of_find?_eq_some h1, h2⟩

set_option maxRecDepth 20000 in
set_option maxHeartbeats 4000000 in
theorem resolve_any (p : Option Addr) (n c : Nat) (xs : List Ob) (u : Int) (s : ByteArray) (w : World) (hn : xs.length = n) (hn63 : n ≤ 9223372036854775807) (hx : Units w p xs) :
    Calls Tryz.prog 24 #[.slice p n c, .int .i64 u, .string s] w fun E w' => E = .returned (.tuple #[.int .i64 (resL xs u s).1, .int .i64 (resL xs u s).2]) ∧ Below w.heap.size w w' := by
  have hT := table_any p n c xs (w.alloc (.cells #[.string s] 9)) hn hn63 (hx.below (new_alloc w _))
  have HK0 : Hid (Blk (w.alloc (.cells #[.string s] 9)) w.heap.size 9 #[.string s]) := Blk.new w 9 _
  have HB0 : Hid (Below w.heap.size w (w.alloc (.cells #[.string s] 9))) := new_alloc w _
  unfold TabIs at hT
  have HOK := Hid.in (tab_ok (xs := xs))
  have HRES : Hid (resL xs u s = if (tabL xs).e ≠ 0 then (0, (tabL xs).e) else if h : 0 ≤ u ∧ u < xs.length then
    match findN (xs[u.toNat]'((Int.toNat_lt h.1).2 h.2)).sy s with
    | some a => (((tabL xs).ss.getD u.toNat 0 : Nat) + a, 0)
    | none => match findG (tabL xs).ts s with
      | some a => (a, 0)
      | none => (0, 171)
  else (0, 2)) := rfl
  have HX := Hid.in hx
  have HN := Hid.in hn
  clear hx hn
  generalize resL xs u s = res at *
  generalize tabL xs = T at *
  obtain ⟨ss, ts, e, uu⟩ := T
  simp only at hT HOK HRES
  by_cases he : e = 0
  · subst he
    obtain ⟨k1, k2, k3⟩ := HOK.out rfl
    have HK1 := Hid.in k1
    have HK2 := Hid.in k2
    have HK3 := Hid.in k3
    clear HOK k1 k2 k3
    rw [if_neg (by simp)] at HRES
    go_enter Tryz.func24, Tryz.ntmps24
    go_upto_region 4 with (go_at_call 23; refine hT.mono ?_; rintro E w1 ⟨v2, v3, rfl, h2, h3, hb1⟩; obtain ⟨p2, c2, hv2, hr2, -, -⟩ := h2.slice; obtain ⟨p3, c3, hv3, hcap1, hcap2, hr3⟩ := h3.row3; rw [List.length_map] at hv3 hcap1; subst hv2 hv3; have HR2 := Hid.in hr2; have HR3 := Hid.in hr3; have HC1 := Hid.in hb1; clear h2 h3 hr2 hr3 hb1)
    clear hT
    have HB1 := Hid.in (below_step HB0.out HC1.out)
    have HKB := Hid.in (HK0.out.grow HC1.out)
    by_cases hu : 0 ≤ u ∧ u < n
    · obtain ⟨k, rfl⟩ : ∃ k : Nat, u = k := ⟨u.toNat, by omega⟩
      have hkn : k < n := by omega
      have hkl : k < xs.length := by rw [HN.out]; exact hkn
      have HRES' : Hid (res = match findN xs[k].sy s with
        | some a => ((ss.getD k 0 : Nat) + a, 0)
        | none => match findG ts s with
          | some a => (a, 0)
          | none => (0, 171)) := by
        have h := HRES.out
        rw [dif_pos (by rw [HN.out]; exact hu)] at h
        exact h
      obtain ⟨b, o, hp, hc⟩ := HX.out (by omega)
      obtain ⟨pb, ps, pf, pm, cb, cs, cf, cm, ⟨c0', c1', c2', c3'⟩, hI'⟩ := hc k hkl
      subst hp
      have c1 := (HB1.out.cell (cell_lt c1')).trans c1'
      have hks := hI'.ks
      have hks2 : xs[k].sy.length ≤ 9223372036854775807 := Nat.le_trans hks (by decide)
      have hL := look34_any ps _ cs xs[k].sy s w.heap.size w1 rfl hks2 (hI'.rs.below HB1.out) (HKB.out.cell 0)
      rw [← findN_eq] at hL
      have HOKK := Hid.in (ok_parts (HK3.out _ (List.getElem_mem hkl)))
      have HFI := Hid.in (fun a => findN_in (L := xs[k].sy) (s := s) (a := a))
      have hskl : k < ss.length := by rw [HK1.out, HN.out]; exact hkn
      have hsk := HK2.out ss[k] (List.getElem_mem hskl)
      have HSD : Hid (ss.getD k 0 = ss[k]) := by
        have h : ss.getD k 0 = ss[k] := by simp [List.getD, hskl]
        exact h
      clear c0' c1' c2' c3' hI' hc HRES HK3 HX
      cases hf : findN xs[k].sy s with
      | some a =>
        have hab : 0 ≤ a ∧ a ≤ 65536 := by
          obtain ⟨x, hx, rfl⟩ := HFI.out a hf
          exact HOKK.out.2.2.2.1 x hx
        have HV : Hid (res = ((ss[k] : Int) + a, 0)) := by
          have h := HRES'.out
          rw [hf] at h
          simp only at h
          rw [HSD.out] at h
          exact h
        rw [hf] at hL
        obtain ⟨b2, o2, hp2, hc2⟩ := HR2.out (by unfold startsV; rw [List.length_map]; omega)
        subst hp2
        have d1 : w1.cell? ⟨b2, o2 + k, none⟩ = some (.int .i64 ((ss[k] : Nat) : Int)) := (hc2 k (by unfold startsV; rw [List.length_map]; exact hskl)).trans (by simp [startsV, hskl])
        have HD1 := Hid.in d1
        have hsl : (startsV ss).length = n := by unfold startsV; rw [List.length_map, HK1.out, HN.out]
        clear d1 hc2 hf
        generalize ss[k] = sk at *
        generalize (startsV ss).length = nn at *
        subst hsl
        go_wp2_with (go_at_call 54; refine hL.mono ?_; rintro E w2 ⟨rfl, hb2⟩; have d2 := (hb2.cell (cell_lt HD1.out)).trans HD1.out; have HB2 := Hid.in (below_step HB1.out hb2); clear hb2)
        go_ret2
        exact ⟨by rw [HV.out]; rfl, HB2.out⟩
      | none =>
        rw [hf] at hL
        have HV : Hid (res = match findG ts s with
          | some a => (a, 0)
          | none => (0, 171)) := by
          have h := HRES'.out
          rw [hf] at h
          exact h
        clear HRES' hf
        have htl : ts.length ≤ 9223372036854775807 := by have := hcap1; have := hcap2; unfold maxLen at *; omega
        have hF := fun W (h : Below w1.heap.size w1 W) => find_any p3 ts.length c3 ts s W rfl htl (HR3.out.below h)
        cases hg : findG ts s with
        | some a =>
          rw [hg] at HV hF
          go_wp2_with (first
            | (go_at_call 54; refine hL.mono ?_; rintro E w2 ⟨rfl, hb2⟩; have HC2 := Hid.in hb2; have HB2 := Hid.in (below_step HB1.out hb2); have e0 : w2.cell? ⟨w.heap.size, 0, none⟩ = some (.string s) := (HKB.out.grow hb2).cell 0; clear hb2)
            | (go_at_call 56; refine (hF _ HC2.out).mono ?_; rintro E w3 ⟨rfl, hb3⟩; have HB3 := Hid.in (below_step HB2.out hb3); clear hb3))
          go_ret2
          exact ⟨by rw [HV.out]; rfl, HB3.out⟩
        | none =>
          rw [hg] at HV hF
          go_wp2_with (first
            | (go_at_call 54; refine hL.mono ?_; rintro E w2 ⟨rfl, hb2⟩; have HC2 := Hid.in hb2; have HB2 := Hid.in (below_step HB1.out hb2); have e0 : w2.cell? ⟨w.heap.size, 0, none⟩ = some (.string s) := (HKB.out.grow hb2).cell 0; clear hb2)
            | (go_at_call 56; refine (hF _ HC2.out).mono ?_; rintro E w3 ⟨rfl, hb3⟩; have HB3 := Hid.in (below_step HB2.out hb3); clear hb3))
          go_ret2
          exact ⟨by rw [HV.out]; rfl, HB3.out⟩
    · have HV : Hid (res = (0, 2)) := by
        have h := HRES.out
        rw [dif_neg (by rw [HN.out]; exact hu)] at h
        exact h
      by_cases hneg : u < 0
      · go_wp2_with fail
        go_ret2
        exact ⟨by rw [HV.out]; rfl, HB1.out⟩
      · have hge : (n : Int) ≤ u := by omega
        go_wp2_with fail
        go_ret2
        exact ⟨by rw [HV.out]; rfl, HB1.out⟩
  · have HV : Hid (res = (0, e)) := by
      have h := HRES.out
      rw [if_pos he] at h
      exact h
    have hb : (e != 0) = true := by simpa using he
    go_enter Tryz.func24, Tryz.ntmps24
    go_wp2_with (go_at_call 23; refine hT.mono ?_; rintro E w1 ⟨v2, v3, rfl, -, -, hb1⟩)
    go_ret2
    exact ⟨by rw [HV.out]; rfl, below_step HB0.out hb1⟩

end Go.Proofs.YtckpgpgmaccepaaGreat

/- switchyardref07.Resolve. -/
namespace Go.Proofs.YtckpgpgmaccepaaGreat
open Go.RowKit

/-- the first of a name, gone through -/
def fgoN (s : ByteArray) : List Sy → Option Int
  | [] => none
  | x :: L => if x.name = s then some x.at_ else fgoN s L
theorem fgoN_eq (s : ByteArray) : ∀ L : List Sy, findN L s = fgoN s L
  | [] => rfl
  | x :: L => by
    unfold findN fgoN
    rw [List.find?_cons]
    by_cases hx : x.name = s
    · rw [if_pos hx, decide_eq_true hx]; rfl
    · rw [if_neg hx, decide_eq_false hx, ← fgoN_eq s L]; rfl
theorem fgoN_step (s : ByteArray) (L : List Sy) (k : Nat) (h : k < L.length) : fgoN s (L.drop k) = if L[k].name = s then some L[k].at_ else fgoN s (L.drop (k + 1)) := by
  rw [List.drop_eq_getElem_cons h]; rfl

set_option maxRecDepth 20000 in
set_option maxHeartbeats 4000000 in
theorem refResolve_any (p : Option Addr) (n c : Nat) (xs : List Ob) (u : Int) (s : ByteArray) (w : World) (hn : xs.length = n) (hn63 : n ≤ 9223372036854775807) (hx : Units w p xs) :
    Calls Tryz.prog 36 #[.slice p n c, .int .i64 u, .string s] w fun E w' => E = .returned (.tuple #[.int .i64 (resL xs u s).1, .int .i64 (resL xs u s).2]) ∧ Below w.heap.size w w' := by
  have hT := refTable_any p n c xs w hn hn63 hx
  unfold TabIs at hT
  have HOK := Hid.in (tab_ok (xs := xs))
  have HRES : Hid (resL xs u s = if (tabL xs).e ≠ 0 then (0, (tabL xs).e) else if h : 0 ≤ u ∧ u < xs.length then
    match findN (xs[u.toNat]'((Int.toNat_lt h.1).2 h.2)).sy s with
    | some a => (((tabL xs).ss.getD u.toNat 0 : Nat) + a, 0)
    | none => match findG (tabL xs).ts s with
      | some a => (a, 0)
      | none => (0, 171)
  else (0, 2)) := rfl
  have HX := Hid.in hx
  have HN := Hid.in hn
  clear hx hn
  generalize resL xs u s = res at *
  generalize tabL xs = T at *
  obtain ⟨ss, ts, e, uu⟩ := T
  simp only at hT HOK HRES
  by_cases he : e = 0
  · subst he
    obtain ⟨k1, k2, k3⟩ := HOK.out rfl
    have HK1 := Hid.in k1
    have HK2 := Hid.in k2
    have HK3 := Hid.in k3
    clear HOK k1 k2 k3
    rw [if_neg (by simp)] at HRES
    go_enter Tryz.func36, Tryz.ntmps36
    go_upto_region 4 with (go_at_call 34; refine hT.mono ?_; rintro E w1 ⟨v2, v3, rfl, h2, h3, hb1⟩; obtain ⟨p2, c2, hv2, hr2, -, -⟩ := h2.slice; obtain ⟨p3, c3, hv3, hcap1, hcap2, hr3⟩ := h3.row3; rw [List.length_map] at hv3 hcap1; subst hv2 hv3; have HR2 := Hid.in hr2; have HR3 := Hid.in hr3; have HB1 := Hid.in hb1; clear h2 h3 hr2 hr3 hb1)
    clear hT
    by_cases hu : 0 ≤ u ∧ u < n
    · obtain ⟨k, rfl⟩ : ∃ k : Nat, u = k := ⟨u.toNat, by omega⟩
      have hkn : k < n := by omega
      have hkl : k < xs.length := by rw [HN.out]; exact hkn
      have HRES' : Hid (res = match findN xs[k].sy s with
        | some a => ((ss.getD k 0 : Nat) + a, 0)
        | none => match findG ts s with
          | some a => (a, 0)
          | none => (0, 171)) := by
        have h := HRES.out
        rw [dif_pos (by rw [HN.out]; exact hu)] at h
        exact h
      obtain ⟨b, o, hp, hc⟩ := HX.out (by omega)
      obtain ⟨pb, ps, pf, pm, cb, cs, cf, cm, ⟨c0', c1', c2', c3'⟩, hI'⟩ := hc k hkl
      subst hp
      have c1 := (HB1.out.cell (cell_lt c1')).trans c1'
      have hks := hI'.ks
      have hks2 : xs[k].sy.length ≤ 9223372036854775807 := Nat.le_trans hks (by decide)
      have HRS := Hid.in (hI'.rs.below HB1.out)
      have HOKK := Hid.in (ok_parts (HK3.out _ (List.getElem_mem hkl)))
      have hskl : k < ss.length := by rw [HK1.out, HN.out]; exact hkn
      have hsk := HK2.out ss[k] (List.getElem_mem hskl)
      have HSD : Hid (ss.getD k 0 = ss[k]) := by
        have h : ss.getD k 0 = ss[k] := by simp [List.getD, hskl]
        exact h
      rw [fgoN_eq] at HRES'
      obtain ⟨b2, o2, hp2, hc2⟩ := HR2.out (by unfold startsV; rw [List.length_map]; omega)
      subst hp2
      have d1 : w1.cell? ⟨b2, o2 + k, none⟩ = some (.int .i64 ((ss[k] : Nat) : Int)) := (hc2 k (by unfold startsV; rw [List.length_map]; exact hskl)).trans (by simp [startsV, hskl])
      have hsl : (startsV ss).length = n := by unfold startsV; rw [List.length_map, HK1.out, HN.out]
      have htl : ts.length ≤ 9223372036854775807 := by have := hcap1; have := hcap2; unfold maxLen at *; omega
      have hF := refFind_any p3 ts.length c3 ts s w1 rfl htl HR3.out
      clear c0' c1' c2' c3' hI' hc HRES HK3 HX hc2 HR2 HK1 HK2
      generalize ss[k] = sk at *
      generalize (startsV ss).length = nn at *
      subst hsl
      generalize xs[k] = x at *
      go_wp2_with fail
      go_loop [12] (fun vi => ∃ j : Nat, vi = .int .i64 j ∧ j ≤ x.sy.length ∧ fgoN s x.sy = fgoN s (x.sy.drop j)) (fun vi => x.sy.length - (intOf vi).toNat)
      case atStart => exact ⟨0, rfl, Nat.zero_le _, rfl⟩
      case round =>
        obtain ⟨j, rfl, hj, hgo⟩ := hrel
        have HGO := Hid.in hgo
        clear hgo
        by_cases hlt : j < x.sy.length
        · obtain ⟨bs, os, hps, hcs⟩ := HRS.out (by rw [List.length_map]; omega)
          subst hps
          obtain ⟨e0, e1, e2⟩ := cells3 hcs j (by rw [List.length_map]; exact hlt)
          simp only [List.getElem_map, syV] at e0 e1 e2
          have hsa := HOKK.out.2.2.2.1 x.sy[j] (List.getElem_mem hlt)
          have HST := Hid.in (fgoN_step s x.sy j hlt)
          clear hcs
          generalize x.sy[j] = y at *
          obtain ⟨sn, sa, sg⟩ := y
          simp only at e0 e1 e2 hsa
          by_cases hs : sn = s
          · have HV : Hid (res = ((sk : Int) + sa, 0)) := by
              have h := HRES'.out
              rw [HGO.out, HST.out, if_pos hs] at h
              simp only at h
              rw [HSD.out] at h
              exact h
            have hw1 : IntKind.i64.wrap ((sk : Int) + sa) = (sk : Int) + sa := by rw [IntKind.wrap_i64]; omega
            subst hs
            go_upto_region 10 with fail
            go_quiet (fail)
            go_wp2_with fail
            go_ret2
            exact ⟨by rw [HV.out]; rfl, below_draws HB1.out nq⟩
          · have HV : Hid (fgoN s x.sy = fgoN s (x.sy.drop (j + 1))) := by
              have h : fgoN s x.sy = fgoN s (x.sy.drop (j + 1)) := by rw [HGO.out, HST.out, if_neg hs]
              exact h
            have hsl := text_ne7 hs
            have hsb : (sn.toList == s.toList) = false := by simpa using hsl
            have hsd : decide (sn.toList = s.toList) = false := decide_eq_false hsl
            go_wp2_with fail
            go_round
            case rel => exact ⟨j + 1, by go_num, by omega, HV.out⟩
            case measure => simp [intOf]; omega
        · have HV : Hid (res = match findG ts s with
            | some a => (a, 0)
            | none => (0, 171)) := by
            have h := HRES'.out
            rw [HGO.out, List.drop_eq_nil_of_le (by omega)] at h
            exact h
          cases hg : findG ts s with
          | some a =>
            rw [hg] at HV hF
            go_wp2_with (go_at_call 68; refine hF.mono ?_; rintro E W ⟨rfl, hW⟩; have hW2 := hW.symm; clear hW; subst hW2)
            go_ret2
            exact ⟨by rw [HV.out]; rfl, HB1.out⟩
          | none =>
            rw [hg] at HV hF
            go_wp2_with (go_at_call 68; refine hF.mono ?_; rintro E W ⟨rfl, hW⟩; have hW2 := hW.symm; clear hW; subst hW2)
            go_ret2
            exact ⟨by rw [HV.out]; rfl, HB1.out⟩
    · have HV : Hid (res = (0, 2)) := by
        have h := HRES.out
        rw [dif_neg (by rw [HN.out]; exact hu)] at h
        exact h
      by_cases hneg : u < 0
      · go_wp2_with fail
        go_ret2
        exact ⟨by rw [HV.out]; rfl, HB1.out⟩
      · have hge : (n : Int) ≤ u := by omega
        go_wp2_with fail
        go_ret2
        exact ⟨by rw [HV.out]; rfl, HB1.out⟩
  · have HV : Hid (res = (0, e)) := by
      have h := HRES.out
      rw [if_pos he] at h
      exact h
    have hb : (e != 0) = true := by simpa using he
    go_enter Tryz.func36, Tryz.ntmps36
    go_wp2_with (go_at_call 34; refine hT.mono ?_; rintro E w1 ⟨v2, v3, rfl, -, -, hb1⟩)
    go_ret2
    exact ⟨by rw [HV.out]; rfl, hb1⟩

end Go.Proofs.YtckpgpgmaccepaaGreat

/- switchyardkit.SameObject. -/
namespace Go.Proofs.YtckpgpgmaccepaaGreat
open Go.RowKit

theorem ob_eq {o o' : Ob} : o = o' ↔ o.bs = o'.bs ∧ o.sy = o'.sy ∧ o.fx = o'.fx ∧ o.mk_ = o'.mk_ := by
  constructor
  · rintro rfl; exact ⟨rfl, rfl, rfl, rfl⟩
  · obtain ⟨a, b, c, d⟩ := o
    obtain ⟨a', b', c', d'⟩ := o'
    rintro ⟨h1, h2, h3, h4⟩
    simp only at h1 h2 h3 h4
    subst h1 h2 h3 h4
    rfl
theorem max63 {n : Nat} (h : n ≤ maxLen) : n ≤ 9223372036854775807 := by unfold maxLen at h; omega
/-- whether it holds -/
noncomputable def eqB (P : Prop) : Bool := @decide P (Classical.propDecidable P)
theorem eqB_iff (P : Prop) : eqB P = true ↔ P := by simp [eqB]
theorem eqB_of {b : Bool} {P : Prop} (h : b = true ↔ P) : b = eqB P := by
  cases hb : eqB P with
  | true => exact h.2 ((eqB_iff P).1 hb)
  | false =>
    cases b with
    | false => rfl
    | true => rw [(eqB_iff P).2 (h.1 rfl)] at hb; cases hb
theorem calls_eqB {f : FuncId} {vs : Array Value} {w : World} {P : Prop} (h : Calls Tryz.prog f vs w fun E w' => (∃ b, E = .returned (.bool b) ∧ (b = true ↔ P)) ∧ ∃ z, w' = w.drewN z) :
    Calls Tryz.prog f vs w fun E w' => E = .returned (.bool (eqB P)) ∧ ∃ z, w' = w.drewN z := by
  refine h.mono ?_
  rintro E w' ⟨⟨b, rfl, hb⟩, hz⟩
  exact ⟨by rw [eqB_of hb], hz⟩
theorem eqB_same (o o' : Ob) : eqB (o = o') = (eqB (o.bs = o'.bs) && eqB (o.sy = o'.sy) && eqB (o.fx = o'.fx) && eqB (o.mk_ = o'.mk_)) := by
  refine (eqB_of ?_).symm
  simp only [Bool.and_eq_true, eqB_iff]
  rw [ob_eq]
  constructor
  · rintro ⟨⟨⟨a, b⟩, c⟩, d⟩; exact ⟨a, b, c, d⟩
  · rintro ⟨a, b, c, d⟩; exact ⟨⟨⟨a, b⟩, c⟩, d⟩
theorem equal_draw {f : FuncId} {vs : Array Value} {w : World} {b : Bool} (h : Calls Tryz.prog f vs w fun E w' => E = .returned (.bool b) ∧ w' = w) : Calls Tryz.prog f vs w fun E w' => E = .returned (.bool b) ∧ ∃ z, w' = w.drewN z :=
  h.mono fun _ _ k => ⟨k.1, 0, k.2⟩
theorem sameB_eqB (xs ys : List Int) : sameB xs ys = eqB (xs = ys) := eqB_of (by simp [sameB])

set_option maxRecDepth 20000 in
set_option maxHeartbeats 2000000 in
theorem sameObject_any (o o' : Ob) (pb ps pf pm : Option Addr) (nb cb ns cs nf cf nm cm : Nat) (qb qs qf qm : Option Addr) (mb db ms ds mf df mm dm : Nat) (w : World) (h : ObIn w o pb ps pf pm nb cb ns cs nf cf nm cm) (h' : ObIn w o' qb qs qf qm mb db ms ds mf df mm dm) :
    Calls Tryz.prog 41 #[.agg (obA pb ps pf pm nb cb ns cs nf cf nm cm), .agg (obA qb qs qf qm mb db ms ds mf df mm dm)] w fun E w' => E = .returned (.bool (eqB (o = o'))) ∧ Below w.heap.size w w' := by
  have hB := fun W (k : ObIn W o pb ps pf pm nb cb ns cs nf cf nm cm) (k' : ObIn W o' qb qs qf qm mb db ms ds mf df mm dm) => sameBytes_any pb qb nb cb mb db o.bs o'.bs W k.lb k'.lb (max63 (Nat.le_trans k.kb k.mb)) k.rb k'.rb
  have hS := fun W (k : ObIn W o pb ps pf pm nb cb ns cs nf cf nm cm) (k' : ObIn W o' qb qs qf qm mb db ms ds mf df mm dm) => calls_eqB (sameSyms_any ps qs ns cs ms ds o.sy o'.sy W k.ls k'.ls (max63 k.ks) (max63 k'.ks) k.rs k'.rs)
  have hF := fun W (k : ObIn W o pb ps pf pm nb cb ns cs nf cf nm cm) (k' : ObIn W o' qb qs qf qm mb db ms ds mf df mm dm) => calls_eqB (sameFixes_any pf qf nf cf mf df o.fx o'.fx W k.lf k'.lf (max63 k.kf) (max63 k'.kf) k.rf k'.rf)
  have hM := fun W (k : ObIn W o pb ps pf pm nb cb ns cs nf cf nm cm) (k' : ObIn W o' qb qs qf qm mb db ms ds mf df mm dm) => calls_eqB (sameMarks_any pm qm nm cm mm dm o.mk_ o'.mk_ W k.lm k'.lm (max63 k.km) (max63 k'.km) k.rm k'.rm)
  simp only [sameB_eqB] at hB
  rw [eqB_same]
  generalize eqB (o.bs = o'.bs) = r0 at *
  generalize eqB (o.sy = o'.sy) = r1 at *
  generalize eqB (o.fx = o'.fx) = r2 at *
  generalize eqB (o.mk_ = o'.mk_) = r3 at *
  have H := Hid.in h
  have H' := Hid.in h'
  clear h h'
  have HA0 : Hid (Blk ((w.alloc (.cells (obA pb ps pf pm nb cb ns cs nf cf nm cm) 56)).alloc (.cells (obA qb qs qf qm mb db ms ds mf df mm dm) 56)) w.heap.size 56 (obA pb ps pf pm nb cb ns cs nf cf nm cm)) := (Blk.new w 56 _).grow (new_alloc _ _)
  have HB0 : Hid (Blk ((w.alloc (.cells (obA pb ps pf pm nb cb ns cs nf cf nm cm) 56)).alloc (.cells (obA qb qs qf qm mb db ms ds mf df mm dm) 56)) (w.heap.size + 1) 56 (obA qb qs qf qm mb db ms ds mf df mm dm)) := by
    have := Blk.new (w.alloc (.cells (obA pb ps pf pm nb cb ns cs nf cf nm cm) 56)) 56 (obA qb qs qf qm mb db ms ds mf df mm dm)
    rw [size_one] at this
    exact this
  have HW0 : Hid (Below w.heap.size w ((w.alloc (.cells (obA pb ps pf pm nb cb ns cs nf cf nm cm) 56)).alloc (.cells (obA qb qs qf qm mb db ms ds mf df mm dm) 56))) := below_alloc (new_alloc w _) _
  go_enter Tryz.func41, Tryz.ntmps41
  go_upto_region 1 with fail
  generalize (w.alloc (.cells (obA pb ps pf pm nb cb ns cs nf cf nm cm) 56)).alloc (.cells (obA qb qs qf qm mb db ms ds mf df mm dm) 56) = w0 at *
  have HI : Hid (∀ z, ObIn (w0.drewN z) o pb ps pf pm nb cb ns cs nf cf nm cm) := fun z => (H.out.below HW0.out).below (below_draws (below_self _) z)
  have HI' : Hid (∀ z, ObIn (w0.drewN z) o' qb qs qf qm mb db ms ds mf df mm dm) := fun z => (H'.out.below HW0.out).below (below_draws (below_self _) z)
  have a0 : w0.cell? ⟨w.heap.size, 0, none⟩ = some (.slice pb nb cb) := HA0.out.cell 0
  have a1 : w0.cell? ⟨w.heap.size, 1, none⟩ = some (.slice ps ns cs) := HA0.out.cell 1
  have a2 : w0.cell? ⟨w.heap.size, 2, none⟩ = some (.slice pf nf cf) := HA0.out.cell 2
  have a3 : w0.cell? ⟨w.heap.size, 3, none⟩ = some (.slice pm nm cm) := HA0.out.cell 3
  have b0 : w0.cell? ⟨w.heap.size + 1, 0, none⟩ = some (.slice qb mb db) := HB0.out.cell 0
  have b1 : w0.cell? ⟨w.heap.size + 1, 1, none⟩ = some (.slice qs ms ds) := HB0.out.cell 1
  have b2 : w0.cell? ⟨w.heap.size + 1, 2, none⟩ = some (.slice qf mf df) := HB0.out.cell 2
  have b3 : w0.cell? ⟨w.heap.size + 1, 3, none⟩ = some (.slice qm mm dm) := HB0.out.cell 3
  cases r0 with
  | false =>
    go_wp2_with (first
      | (go_at_call 70; refine (hB _ (H.out.below HW0.out) (H'.out.below HW0.out)).mono ?_; rintro E W ⟨rfl, z19, rfl⟩))
    go_ret
    exact ⟨rfl, HW0.out.trans ((below_draws (below_self w0) _).mono HW0.out.size)⟩
  | true =>
    cases r1 with
    | false =>
      go_wp2_with (first
        | (go_at_call 70; refine (hB _ (H.out.below HW0.out) (H'.out.below HW0.out)).mono ?_; rintro E W ⟨rfl, z19, rfl⟩)
        | (go_at_call 71; refine (hS _ (HI.out _) (HI'.out _)).mono ?_; rintro E W ⟨rfl, z32, rfl⟩))
      go_ret
      exact ⟨rfl, HW0.out.trans ((below_draws (below_self w0) _).mono HW0.out.size)⟩
    | true =>
      cases r2 with
      | false =>
        go_wp2_with (first
          | (go_at_call 70; refine (hB _ (H.out.below HW0.out) (H'.out.below HW0.out)).mono ?_; rintro E W ⟨rfl, z19, rfl⟩)
          | (go_at_call 71; refine (hS _ (HI.out _) (HI'.out _)).mono ?_; rintro E W ⟨rfl, z32, rfl⟩)
          | (go_at_call 72; refine (hF _ (HI.out _) (HI'.out _)).mono ?_; rintro E W ⟨rfl, z33, rfl⟩))
        go_ret
        exact ⟨rfl, HW0.out.trans ((below_draws (below_self w0) _).mono HW0.out.size)⟩
      | true =>
        go_wp2_with (first
          | (go_at_call 70; refine (hB _ (H.out.below HW0.out) (H'.out.below HW0.out)).mono ?_; rintro E W ⟨rfl, z19, rfl⟩)
          | (go_at_call 71; refine (hS _ (HI.out _) (HI'.out _)).mono ?_; rintro E W ⟨rfl, z32, rfl⟩)
          | (go_at_call 72; refine (hF _ (HI.out _) (HI'.out _)).mono ?_; rintro E W ⟨rfl, z33, rfl⟩)
          | (go_at_call 73; refine (hM _ (HI.out _) (HI'.out _)).mono ?_; rintro E W ⟨rfl, z34, rfl⟩))
        go_ret
        exact ⟨rfl, HW0.out.trans ((below_draws (below_self w0) _).mono HW0.out.size)⟩

end Go.Proofs.YtckpgpgmaccepaaGreat

/- switchyardkit.SameObjects, of the same units. -/
namespace Go.Proofs.YtckpgpgmaccepaaGreat
open Go.RowKit

set_option maxRecDepth 20000 in
set_option maxHeartbeats 4000000 in
theorem sameObjects_self (p q : Option Addr) (n c d : Nat) (xs : List Ob) (w : World) (hn : xs.length = n) (hn63 : n ≤ 9223372036854775807) (hx : Units w p xs) (hy : Units w q xs) :
    Calls Tryz.prog 13 #[.slice p n c, .slice q n d] w fun E w' => E = .returned (.bool true) ∧ Below w.heap.size w w' := by
  have HX := Hid.in hx
  have HY := Hid.in hy
  have HN := Hid.in hn
  clear hx hy hn
  have hne : ((n : Int) != (n : Int)) = false := by simp
  go_enter Tryz.func13, Tryz.ntmps13
  go_wp2_with fail
  go_loopw [5] (fun vi wr => ∃ k : Nat, vi = .int .i64 k ∧ k ≤ n ∧ Below w.heap.size w wr) (fun vi _ => n - (intOf vi).toNat)
  case atStart => exact ⟨0, rfl, Nat.zero_le _, below_self _⟩
  case round =>
    obtain ⟨k, rfl, hk, hb⟩ := hrel
    have HB := Hid.in hb
    clear hb
    by_cases hlt : k < n
    · have hkl : k < xs.length := by rw [HN.out]; exact hlt
      obtain ⟨b, o, hp, hc⟩ := HX.out.below HB.out (by omega)
      obtain ⟨pb, ps, pf, pm, cb, cs, cf, cm, ⟨c0, c1, c2, c3⟩, hI⟩ := hc k hkl
      obtain ⟨b', o', hq, hc'⟩ := HY.out.below HB.out (by omega)
      obtain ⟨qb, qs, qf, qm, db, ds, df, dm, ⟨e0, e1, e2, e3⟩, hJ⟩ := hc' k hkl
      subst hp hq
      have hS := fun W (k1 : ObIn W xs[k] pb ps pf pm xs[k].bs.length cb xs[k].sy.length cs xs[k].fx.length cf xs[k].mk_.length cm) (k2 : ObIn W xs[k] qb qs qf qm xs[k].bs.length db xs[k].sy.length ds xs[k].fx.length df xs[k].mk_.length dm) => sameObject_any xs[k] xs[k] _ _ _ _ _ _ _ _ _ _ _ _ _ _ _ _ _ _ _ _ _ _ _ _ W k1 k2
      rw [show eqB (xs[k] = xs[k]) = true from (eqB_iff _).2 rfl] at hS
      have HI := Hid.in hI
      have HJ := Hid.in hJ
      clear hc hc' hI hJ
      generalize xs[k] = x at *
      go_upto_region 6 with fail
      go_region_held3 (fun W => (W.cell? ⟨b, o + k * 4, none⟩ = some (.slice pb x.bs.length cb) ∧ W.cell? ⟨b, o + k * 4 + 1, none⟩ = some (.slice ps x.sy.length cs) ∧ W.cell? ⟨b, o + k * 4 + 2, none⟩ = some (.slice pf x.fx.length cf) ∧ W.cell? ⟨b, o + k * 4 + 3, none⟩ = some (.slice pm x.mk_.length cm)) ∧ W.cell? ⟨b', o' + k * 4, none⟩ = some (.slice qb x.bs.length db) ∧ W.cell? ⟨b', o' + k * 4 + 1, none⟩ = some (.slice qs x.sy.length ds) ∧ W.cell? ⟨b', o' + k * 4 + 2, none⟩ = some (.slice qf x.fx.length df) ∧ W.cell? ⟨b', o' + k * 4 + 3, none⟩ = some (.slice qm x.mk_.length dm)) (first | go_keep | exact hk1)
        (first
          | (go_at_call 41; refine (hS _ (HI.out.below (below_draws (below_self wr) 1)) (HJ.out.below (below_draws (below_self wr) 1))).mono ?_; rintro E w1 ⟨rfl, hb1⟩; have HB1 := Hid.in (below_step (below_draws HB.out 1) hb1); have HD1 := below_step (below_draws (below_self wr) 1) hb1; have hk1 : (w1.cell? ⟨b, o + k * 4, none⟩ = some (.slice pb x.bs.length cb) ∧ w1.cell? ⟨b, o + k * 4 + 1, none⟩ = some (.slice ps x.sy.length cs) ∧ w1.cell? ⟨b, o + k * 4 + 2, none⟩ = some (.slice pf x.fx.length cf) ∧ w1.cell? ⟨b, o + k * 4 + 3, none⟩ = some (.slice pm x.mk_.length cm)) ∧ w1.cell? ⟨b', o' + k * 4, none⟩ = some (.slice qb x.bs.length db) ∧ w1.cell? ⟨b', o' + k * 4 + 1, none⟩ = some (.slice qs x.sy.length ds) ∧ w1.cell? ⟨b', o' + k * 4 + 2, none⟩ = some (.slice qf x.fx.length df) ∧ w1.cell? ⟨b', o' + k * 4 + 3, none⟩ = some (.slice qm x.mk_.length dm) := ⟨⟨(HD1.cell (cell_lt c0)).trans c0, (HD1.cell (cell_lt c1)).trans c1, (HD1.cell (cell_lt c2)).trans c2, (HD1.cell (cell_lt c3)).trans c3⟩, (HD1.cell (cell_lt e0)).trans e0, (HD1.cell (cell_lt e1)).trans e1, (HD1.cell (cell_lt e2)).trans e2, (HD1.cell (cell_lt e3)).trans e3⟩; clear hb1 HD1))
      go_wp2_with fail
      go_roundw
      case rel => exact ⟨k + 1, by go_num, by omega, HB1.out⟩
      case measure => simp [intOf]; omega
    · go_wp2_with fail
      go_ret
      exact ⟨rfl, HB.out⟩

end Go.Proofs.YtckpgpgmaccepaaGreat

/- Lists of units that a call has made; switchyardkit.CopyObjects. -/
namespace Go.Proofs.YtckpgpgmaccepaaGreat
open Go.RowKit

abbrev V4 : Type := Value × Value × Value × Value
def l4 (q : V4) : List Value := [q.1, q.2.1, q.2.2.1, q.2.2.2]
/-- the cells of a list of such elements -/
def c4 (L : List V4) : List Value := L.flatMap l4
theorem c4_len (L : List V4) : (c4 L).length = L.length * 4 := by
  induction L with
  | nil => rfl
  | cons q L ih =>
    unfold c4 at *
    rw [List.flatMap_cons, List.length_append, ih, List.length_cons]
    have : (l4 q).length = 4 := rfl
    omega
theorem c4_two (L M : List V4) : c4 (L ++ M) = c4 L ++ c4 M := by simp [c4]
theorem c4_at : ∀ (L : List V4) (i : Nat) (h : i < L.length) (j : Nat), j < 4 → (c4 L)[i * 4 + j]? = (l4 L[i])[j]?
  | [], i, h, _, _ => absurd h (by simp)
  | q :: L, 0, _, j, hj => by
    unfold c4
    rw [List.flatMap_cons, Nat.zero_mul, Nat.zero_add, List.getElem?_append_left (by show j < 4; exact hj)]
    rfl
  | q :: L, i + 1, h, j, hj => by
    have h' : i < L.length := by simpa using h
    have ih := c4_at L i h' j hj
    unfold c4 at *
    have h3 : (l4 q).length = 4 := rfl
    rw [List.flatMap_cons, List.getElem?_append_right (by rw [h3]; omega), h3, show (i + 1) * 4 + j - 4 = i * 4 + j by omega, ih]
    rfl
/-- a row of units, nil or not -/
def QOwn (w : World) (B : Nat) (v : Value) (L : List V4) : Prop := w.ownsRow B 56 4 v L.length (c4 L)
theorem QOwn.nil (w : World) (B : Nat) : QOwn w B (.slice none 0 0) [] := World.ownsRow_nil _ _ _ _
theorem QOwn.below {w w' : World} {B : Nat} {v : Value} {L : List V4} (h : QOwn w B v L) (hb : Below w.heap.size w w') : QOwn w' B v L := by
  obtain ⟨h0, h1⟩ := h
  refine ⟨h0, h1.imp id ?_⟩
  rintro ⟨g, cap, cur, e1, e2, e3, e4⟩
  exact ⟨g, cap, cur, e1, e2, (hb.block g (Array.getElem?_eq_some_iff.1 e3).1).trans e3, e4⟩
theorem QOwn.shape {w : World} {B : Nat} {v : Value} {L : List V4} (h : QOwn w B v L) : ∃ p cap, v = .slice p L.length cap ∧ L.length ≤ cap ∧ cap ≤ maxLen ∧ (0 < L.length → ∃ g, p = some ⟨g, 0, none⟩ ∧ B ≤ g ∧ g < w.heap.size ∧ ∀ i (hi : i < L.length) j, j < 4 → w.cell? ⟨g, i * 4 + j, none⟩ = (l4 L[i])[j]?) := by
  rcases h.2 with ⟨e1, e2⟩ | ⟨g, cap, cur, e1, e2, e3, e4, e5, _⟩
  · exact ⟨none, 0, by rw [e1, e2], by omega, Nat.zero_le _, fun h0 => by omega⟩
  · refine ⟨_, cap, e1, e4, e5, fun _ => ⟨g, rfl, e2, (Array.getElem?_eq_some_iff.1 e3).1, fun i hi j hj => ?_⟩⟩
    have hr : w.ownsRow B 56 4 v L.length (c4 L) := h
    rw [e1] at hr
    rw [hr.cellAt (i * 4 + j) (by omega), c4_at L i hi j hj]
def one4 (q : V4) : Prop := q.1.oneCell' = true ∧ q.2.1.oneCell' = true ∧ q.2.2.1.oneCell' = true ∧ q.2.2.2.oneCell' = true
theorem one4_mem {q : V4} (h : one4 q) : ∀ u ∈ l4 q, u.oneCell' = true := by
  intro u hu
  simp only [l4, List.mem_cons, List.not_mem_nil, or_false] at hu
  rcases hu with rfl | rfl | rfl | rfl
  · exact h.1
  · exact h.2.1
  · exact h.2.2.1
  · exact h.2.2.2
theorem news4 (w : World) (q : V4) (T : TypeId) : ∀ j u, (l4 q)[j]? = some u → (w.alloc (.cells #[q.1, q.2.1, q.2.2.1, q.2.2.2] T)).cell? ((⟨w.heap.size, 0, none⟩ : Addr).add j) = some u := by
  intro j u hj
  rw [Go.WideShapes.add_plain]
  match j, hj with
  | 0, hj => simpa [l4] using hj
  | 1, hj => simpa [l4] using hj
  | 2, hj => simpa [l4] using hj
  | 3, hj => simpa [l4] using hj
  | j + 4, hj => simp [l4] at hj
theorem Tryz.elemOb : Tryz.prog.underlying 22 = some (.slice 56) ∧ ∃ z, z.cells.size = 4 ∧ (Tryz.prog.info? 56).map (fun i => (i.zero, i.size, i.bytes)) = some (some z, 4, 96) := ⟨Tryz.underlying22, .agg noObj, rfl, by kernel_rfl⟩

/-- 'append(l, x)' -/
theorem qpush {ops : Array Oper} {rest : List Oper} {o : Oper} {a : Act} {Q : Exit → Act → World → Prop} (w : World) (hgd : o.guard = none) (s x : Operand)
    (ho : o.op = .call { callee := .builtin .append, args := #[s, x], argTypes := #[22, 22] }) (B : Nat) (v : Value) (L : List V4) (hs : a.eval s = v) (hown : QOwn w B v L)
    (ad : Addr) (c : Nat) (q : V4) (hq : one4 q) (hx : a.eval x = .slice (some ad) 1 c) (hnews : ∀ j u, (l4 q)[j]? = some u → w.cell? (ad.add j) = some u)
    (hby : (L.length + 1) * 96 ≤ 140737488355328) (hB : B ≤ w.heap.size)
    (h : ∀ v' w', QOwn w' B v' (L ++ [q]) → w.grownBy w' v.ownBlock → (∀ w0, Below B w0 w → Below B w0 w') → wpList Tryz.prog ops Q rest (a.put o.dst v') w') :
    wpList Tryz.prog ops Q (o :: rest) a w := by
  obtain ⟨hu, z, hzc, hinfo⟩ := Tryz.elemOb
  obtain ⟨i0, hi, hz0, hz1, hz2⟩ := info_parts hinfo
  refine wpList_append_own w hgd s x 22 ho B 56 i0 z 4 96 hu hi hz0 hz1 hz2 hzc (by decide) v L.length (c4 L) hs hown ad 1 c (l4 q) hx rfl hnews (one4_mem hq) (by unfold maxLen; omega) hby hB ?_
  intro v' w' h2 h3 _
  refine h v' w' ?_ h3 (fun w0 hb => hb.grown h3 hB fun k hk => (World.ownsRow.lt hown k hk).1)
  unfold QOwn
  rw [List.length_append, c4_two]
  have e : c4 [q] = l4 q := by simp [c4]
  rw [e]
  exact h2

/-- a list of units that a call has made, with all their lists -/
def UOwn (w : World) (B : Nat) (v : Value) (xs : List Ob) : Prop :=
  ∃ L : List V4, L.length = xs.length ∧ QOwn w B v L ∧ ∀ i (h : i < xs.length), ObF xs[i] ∧ ∃ q, L[i]? = some q ∧ ObOwn w B xs[i] q.1 q.2.1 q.2.2.1 q.2.2.2
theorem UOwn.nil (w : World) (B : Nat) : UOwn w B (.slice none 0 0) [] := ⟨[], rfl, QOwn.nil _ _, fun i h => absurd h (by simp)⟩
theorem UOwn.below {w w' : World} {B : Nat} {v : Value} {xs : List Ob} (h : UOwn w B v xs) (hb : Below w.heap.size w w') : UOwn w' B v xs := by
  obtain ⟨L, h1, h2, h3⟩ := h
  refine ⟨L, h1, h2.below hb, fun i hi => ?_⟩
  obtain ⟨hf, q, hq, ho⟩ := h3 i hi
  exact ⟨hf, q, hq, ho.below hb⟩
theorem UOwn.slice {w : World} {B : Nat} {v : Value} {xs : List Ob} (h : UOwn w B v xs) : ∃ p c, v = .slice p xs.length c ∧ xs.length ≤ c ∧ c ≤ maxLen ∧ Units w p xs := by
  obtain ⟨L, h1, h2, h3⟩ := h
  obtain ⟨p, cap, e1, e2, e3, e4⟩ := h2.shape
  refine ⟨p, cap, by rw [e1, h1], by omega, e3, fun h0 => ?_⟩
  obtain ⟨g, hp, -, -, hc⟩ := e4 (by omega)
  refine ⟨g, 0, hp, fun i hi => ?_⟩
  obtain ⟨hf, q, hq, ho⟩ := h3 i hi
  have hiL : i < L.length := by omega
  obtain rfl : L[i] = q := by rw [List.getElem?_eq_getElem hiL] at hq; exact Option.some.inj hq
  obtain ⟨pb, ps, pf, pm, cb, cs, cf, cm, ⟨k1, k2, k3, k4⟩, hI⟩ := ho.inn hf
  have c0 := hc i hiL 0 (by decide)
  have c1 := hc i hiL 1 (by decide)
  have c2 := hc i hiL 2 (by decide)
  have c3 := hc i hiL 3 (by decide)
  have d0 : w.cell? ⟨g, i * 4 + 0, none⟩ = some L[i].1 := c0
  have d1 : w.cell? ⟨g, i * 4 + 1, none⟩ = some L[i].2.1 := c1
  have d2 : w.cell? ⟨g, i * 4 + 2, none⟩ = some L[i].2.2.1 := c2
  have d3 : w.cell? ⟨g, i * 4 + 3, none⟩ = some L[i].2.2.2 := c3
  rw [k1] at d0
  rw [k2] at d1
  rw [k3] at d2
  rw [k4] at d3
  refine ⟨pb, ps, pf, pm, cb, cs, cf, cm, ⟨?_, ?_, ?_, ?_⟩, hI⟩
  · rw [Nat.zero_add]; exact d0
  · rw [Nat.zero_add]; exact d1
  · rw [Nat.zero_add]; exact d2
  · rw [Nat.zero_add]; exact d3
/-- a unit's lists stay where a row of units grows -/
theorem ObOwn.keptU {w w' : World} {B B' n : Nat} {o : Ob} {vb vs vf vm v : Value} {xs : List Value} (h : ObOwn w B o vb vs vf vm) (hv : w.ownsRow B' 56 4 v n xs) (hg : w.grownBy w' v.ownBlock) : ObOwn w' B o vb vs vf vm :=
  ⟨kept_row h.b hg (rows_apart h.b hv (by decide)), kept_row h.s hg (rows_apart h.s hv (by decide)), kept_row h.f hg (rows_apart h.f hv (by decide)), kept_row h.m hg (rows_apart h.m hv (by decide))⟩
theorem UOwn.grown {w w' : World} {B : Nat} {v v' : Value} {xs : List Ob} {L : List V4} {x : Ob} {q : V4} (h1 : L.length = xs.length) (h2 : QOwn w B v L) (h3 : ∀ i (h : i < xs.length), ObF xs[i] ∧ ∃ q, L[i]? = some q ∧ ObOwn w B xs[i] q.1 q.2.1 q.2.2.1 q.2.2.2)
    (hx : ObOwn w B x q.1 q.2.1 q.2.2.1 q.2.2.2) (hf : ObF x) (hq : QOwn w' B v' (L ++ [q])) (hg : w.grownBy w' v.ownBlock) : UOwn w' B v' (xs ++ [x]) := by
  refine ⟨L ++ [q], by simp [h1], hq, fun i hi => ?_⟩
  by_cases hin : i < xs.length
  · obtain ⟨hfi, q', hq', ho⟩ := h3 i hin
    rw [List.getElem_append_left hin]
    exact ⟨hfi, q', by rw [List.getElem?_append_left (by omega)]; exact hq', ho.keptU h2 hg⟩
  · have e : i = xs.length := by simp at hi; omega
    subst e
    rw [List.getElem_append_right (Nat.le_refl _)]
    simp only [Nat.sub_self, List.getElem_cons_zero]
    exact ⟨hf, q, by rw [List.getElem?_append_right (by omega), h1]; simp, hx.keptU h2 hg⟩

set_option maxRecDepth 20000 in
set_option maxHeartbeats 4000000 in
theorem copyObjects_any (p : Option Addr) (n c : Nat) (xs : List Ob) (w : World) (hn : xs.length = n) (hn96 : n * 96 ≤ 140737488351232) (hx : Units w p xs) (hW : ∀ x ∈ xs, ObW x) :
    Calls Tryz.prog 6 #[.slice p n c] w fun E w' => ∃ v, E = .returned v ∧ UOwn w' w.heap.size v xs ∧ Below w.heap.size w w' := by
  have HX := Hid.in hx
  have HN := Hid.in hn
  have HW := Hid.in hW
  clear hx hn hW
  go_enter Tryz.func6, Tryz.ntmps6
  go_wp2_with fail
  go_loopw [3, 4] (fun v vi wr => ∃ k : Nat, vi = .int .i64 k ∧ k ≤ n ∧ UOwn wr w.heap.size v (xs.take k) ∧ Below w.heap.size w wr) (fun _ vi _ => n - (intOf vi).toNat)
  case atStart => exact ⟨0, rfl, Nat.zero_le _, by rw [List.take_zero]; exact UOwn.nil _ _, below_self _⟩
  case round =>
    obtain ⟨k, rfl, hk, hT, hb⟩ := hrel
    have HB := Hid.in hb
    have HT := Hid.in hT
    have hlen : (xs.take k).length = k := by rw [List.length_take, HN.out]; omega
    obtain ⟨pv, cv, hv, -, -, -⟩ := hT.slice
    rw [hlen] at hv
    subst hv
    clear hT hb
    by_cases hlt : k < n
    · have hkl : k < xs.length := by rw [HN.out]; exact hlt
      obtain ⟨b, o, hp, hc⟩ := HX.out.below HB.out (by omega)
      obtain ⟨pb, ps, pf, pm, cb, cs, cf, cm, ⟨c0, c1, c2, c3⟩, hI⟩ := hc k hkl
      subst hp
      obtain ⟨w1, w2, w3, w4⟩ := HW.out xs[k] (List.getElem_mem hkl)
      have HTK : Hid (xs.take (k + 1) = xs.take k ++ [xs[k]]) := by
        have h : xs.take (k + 1) = xs.take k ++ [xs[k]] := List.take_succ_eq_append_getElem hkl
        exact h
      have HFX := Hid.in hI.fit
      have hC := copyObjectV_any xs[k] pb ps pf pm _ cb _ cs _ cf _ cm wr hI w1 w2 w3 w4
      have HLEN := Hid.in hlen
      clear hc hI w1 w2 w3 w4 hlen
      generalize xs[k] = x at *
      go_wp2_with (first
        | (go_at_call 25; refine hC.mono ?_; rintro E w2 ⟨⟨vb, vs, vf, vm, rfl, ho2⟩, hb2⟩; obtain ⟨pb2, ps2, pf2, pm2, cb2, cs2, cf2, cm2, ⟨rfl, rfl, rfl, rfl⟩, hI2⟩ := ho2.inn HFX.out; have HO2 := Hid.in ho2; have HD2 := Hid.in hb2; have HB2 := Hid.in (below_step HB.out hb2); obtain ⟨L, hL1, hL2, hL3⟩ := HT.out.below hb2; have HL1 := Hid.in hL1; have HL2 := Hid.in hL2; have HL3 := Hid.in hL3; clear hI2 ho2 hb2 hL1 hL2 hL3)
        | (refine qpush _ rfl _ _ rfl w.heap.size _ L rfl (HL2.out.below (new_alloc _ _)) ⟨w2.heap.size, 0, none⟩ 1 (.slice pb2 x.bs.length cb2, .slice ps2 x.sy.length cs2, .slice pf2 x.fx.length cf2, .slice pm2 x.mk_.length cm2) ⟨rfl, rfl, rfl, rfl⟩ rfl (news4 _ _ _) (by have := HL1.out; have := HLEN.out; omega) (by have := HB2.out.size; simp; omega) ?_; intro v5 w5 hT5 hg5 hb5; have HU5 := Hid.in (UOwn.grown HL1.out (HL2.out.below (new_alloc w2 (.cells #[.slice pb2 x.bs.length cb2, .slice ps2 x.sy.length cs2, .slice pf2 x.fx.length cf2, .slice pm2 x.mk_.length cm2] 56))) (fun i hi => ⟨(HL3.out i hi).1, (HL3.out i hi).2.choose, (HL3.out i hi).2.choose_spec.1, (HL3.out i hi).2.choose_spec.2.below (new_alloc w2 _)⟩) ((HO2.out.lower HB.out.size).below (new_alloc w2 _)) HFX.out hT5 hg5); have HB5 := Hid.in (hb5 w (below_alloc HB2.out _)); clear hT5 hg5 hb5))
      go_roundw
      case rel => exact ⟨k + 1, by go_num, by omega, by rw [HTK.out]; exact HU5.out, HB5.out⟩
      case measure => simp [intOf]; omega
    · obtain rfl : k = n := by omega
      have HR : Hid (xs.take k = xs) := by
        have h : xs.take k = xs := List.take_of_length_le (by rw [HN.out]; exact Nat.le_refl _)
        exact h
      rw [HR.out] at HT
      go_wp2_with fail
      go_ret
      exact ⟨_, rfl, HT.out, HB.out⟩

end Go.Proofs.YtckpgpgmaccepaaGreat
