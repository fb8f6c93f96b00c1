/-
  Proved here: the law StoreCut (switchyardlaw10) answers true for every input, and each argument reads afterwards as it read before. No condition of ours: the row's own reach alone (each slice and text takes at most 2^47 - 4096 bytes).
-/
import Derived.Test.YtfhjaabbfaamjaaGe
import Derived.Test.YtfhjaabbfaamjaaOpen
import Derived.SizedLaws
import Derived.Test.YtfhjaabbfaamjaaGa
import Derived.OwnWalk

/- How an image (api.Image) that came in by value is opened, of every size that an argument may have. -/
namespace Go.Proofs.Ytfhjaabbfaamjaa
open Go.ChangeShapes Go.WideShapes Go.ChangeAt Go.RowKit

theorem Try.cells3 : Try.prog.cellsOf 3 = 1 := by kernel_rfl
theorem Try.cells9 : Try.prog.cellsOf 9 = 1 := by kernel_rfl
theorem Try.cells22 : Try.prog.cellsOf 22 = 1 := by kernel_rfl
theorem Try.cells23 : Try.prog.cellsOf 23 = 1 := by kernel_rfl
theorem Try.cells24 : Try.prog.cellsOf 24 = 1 := by kernel_rfl
theorem Try.cells25 : Try.prog.cellsOf 25 = 1 := by kernel_rfl
theorem Try.cells27 : Try.prog.cellsOf 27 = 4 := by kernel_rfl
theorem Try.cells52 : Try.prog.cellsOf 52 = 3 := by kernel_rfl
theorem Try.bytes3 : Try.prog.bytesOf 3 = 8 := by kernel_rfl
theorem Try.bytes9 : Try.prog.bytesOf 9 = 16 := by kernel_rfl
theorem Try.bytes52 : Try.prog.bytesOf 52 = 24 := by kernel_rfl

theorem list_three {X : Type} {l : List X} (h : l.length = 3) : ∃ a b c, l = [a, b, c] := by
  match l, h with
  | [a, b, c], _ => exact ⟨a, b, c, rfl⟩
theorem list_four {X : Type} {l : List X} (h : l.length = 4) : ∃ a b c d, l = [a, b, c, d] := by
  match l, h with
  | [a, b, c, d], _ => exact ⟨a, b, c, d, rfl⟩
theorem list_ofG {X : Type} {P : Nat → X → Prop} : ∀ n, (∀ i, i < n → ∃ x, P i x) → ∃ xs : List X, xs.length = n ∧ ∀ i (h : i < xs.length), P i xs[i]
  | 0, _ => ⟨[], rfl, fun i h => absurd h (by simp)⟩
  | n + 1, h => by
    obtain ⟨xs, hl, hx⟩ := list_ofG n fun i hi => h i (by omega)
    obtain ⟨x, hp⟩ := h n (by omega)
    refine ⟨xs ++ [x], by simp [hl], fun i hi => ?_⟩
    by_cases hin : i < xs.length
    · rw [List.getElem_append_left hin]; exact hx i hin
    · have : i = n := by simp at hi; omega
      subst this
      rw [List.getElem_append_right (by omega)]
      simp [hl]
      exact hp

theorem opened3 {H : Type} {enc : TypeId × Value → H} {W : World} {fuel : Nat} {v : Value} {x : DataW H × List MemPlace} {ST ET : TypeId} {X : Type} (V : X → V3) (P : X → Prop) (hu : Try.prog.underlying ST = some (.slice ET)) (hc3 : Try.prog.cellsOf ET = 3)
    (hone : ∀ (fuel : Nat) (cs : List Value) (x : DataW H × List MemPlace), DataW.trod enc Try.prog W 0 (fun _ => true) true fuel ET cs = some x → ∃ y, cs = l3 (V y) ∧ P y)
    (h : DataW.trod enc Try.prog W 0 (fun _ => true) true fuel ST [v] = some x) (hw : ∀ m ∈ x.1.weights Try.prog ST, m ≤ reachBytes) :
    ∃ (q : Option Addr) (e : Nat) (L : List X), v = .slice q L.length e ∧ L.length ≤ e ∧ e ≤ maxLen ∧ L.length * Try.prog.bytesOf ET ≤ reachBytes ∧ Row3 W q (L.map V) ∧ ∀ y ∈ L, P y := by
  rcases DataW.trod_slice hu h with ⟨hcs, hx⟩ | ⟨ad, l, cc, elems, rest, f, hfu, hcs, hx, _, hl, hm, hlen, hel, hsp, _⟩
  · simp only [List.cons.injEq, and_true] at hcs
    exact ⟨none, 0, [], by rw [hcs]; rfl, Nat.le_refl _, Nat.zero_le _, by simp, Row3.nil W none, fun y hy => by cases hy⟩
  · simp only [List.cons.injEq, and_true] at hcs
    have hwt : l * Try.prog.bytesOf ET ≤ reachBytes := by
      have := hw ((elems.length + rest.length) * Try.prog.bytesOf ET) (by rw [hx]; simp [DataW.weights, hu])
      exact Nat.le_trans (Nat.mul_le_mul_right _ (by omega)) this
    obtain ⟨L, hL, hP⟩ := list_ofG (P := fun i y => (∀ j u, (l3 (V y))[j]? = some u → W.cell? ((ad.add (i * 3)).add j) = some u) ∧ P y) l fun i hi => by
      have he := hel i hi
      rw [hc3, List.getElem?_eq_getElem (by omega), Option.bind_eq_some_iff] at he
      obtain ⟨cs, hcs, htr⟩ := he
      obtain ⟨_, hcl, hcc⟩ := World.cells?_some hcs
      obtain ⟨y, hy, hp⟩ := hone _ _ _ htr
      refine ⟨y, fun j u hu => ?_, hp⟩
      rw [← hy] at hu
      have hj : j < 3 := by rw [← hcl]; exact (List.getElem?_eq_some_iff.1 hu).1
      rw [hcc j hj]; exact hu
    refine ⟨some ad, cc, L, by rw [hcs, hL], by rw [hL]; exact hl, hm, by rw [hL]; exact hwt, fun h0 => ?_, fun y hy => ?_⟩
    · rw [List.length_map] at h0
      obtain ⟨b, o, s⟩ := ad
      obtain rfl : s = none := by
        have := (hP 0 h0).1 0 _ rfl
        simpa [Addr.add] using World.cell?_spot this
      refine ⟨b, o, rfl, fun i hi j hj => ?_⟩
      rw [List.length_map] at hi
      rw [List.getElem_map]
      have hl3 : j < (l3 (V L[i])).length := hj
      have := (hP i hi).1 j _ (List.getElem?_eq_getElem hl3)
      rw [Addr.add_mid, Addr.add_mid] at this
      rw [this, List.getElem?_eq_getElem hl3]
    · obtain ⟨i, hi, rfl⟩ := List.getElem_of_mem hy
      exact (hP i hi).2

/-- the same, of elements of one cell -/
theorem opened1 {H : Type} {enc : TypeId × Value → H} {W : World} {fuel : Nat} {v : Value} {x : DataW H × List MemPlace} {ST ET : TypeId} {X : Type} (V : X → Value) (P : X → Prop) (hu : Try.prog.underlying ST = some (.slice ET)) (hc1 : Try.prog.cellsOf ET = 1)
    (hone : ∀ (fuel : Nat) (cs : List Value) (x : DataW H × List MemPlace), DataW.trod enc Try.prog W 0 (fun _ => true) true fuel ET cs = some x → ∃ y, cs = [V y] ∧ P y)
    (h : DataW.trod enc Try.prog W 0 (fun _ => true) true fuel ST [v] = some x) (hw : ∀ m ∈ x.1.weights Try.prog ST, m ≤ reachBytes) :
    ∃ (q : Option Addr) (e : Nat) (L : List X), v = .slice q L.length e ∧ L.length ≤ e ∧ e ≤ maxLen ∧ L.length * Try.prog.bytesOf ET ≤ reachBytes ∧ GRow W q (L.map V) ∧ ∀ y ∈ L, P y := by
  rcases DataW.trod_slice hu h with ⟨hcs, hx⟩ | ⟨ad, l, cc, elems, rest, f, hfu, hcs, hx, _, hl, hm, hlen, hel, hsp, _⟩
  · simp only [List.cons.injEq, and_true] at hcs
    exact ⟨none, 0, [], by rw [hcs]; rfl, Nat.le_refl _, Nat.zero_le _, by simp, GRow.nil W none, fun y hy => by cases hy⟩
  · simp only [List.cons.injEq, and_true] at hcs
    have hwt : l * Try.prog.bytesOf ET ≤ reachBytes := by
      have := hw ((elems.length + rest.length) * Try.prog.bytesOf ET) (by rw [hx]; simp [DataW.weights, hu])
      exact Nat.le_trans (Nat.mul_le_mul_right _ (by omega)) this
    obtain ⟨L, hL, hP⟩ := list_ofG (P := fun i y => (∀ j u, ([V y])[j]? = some u → W.cell? ((ad.add (i * 1)).add j) = some u) ∧ P y) l fun i hi => by
      have he := hel i hi
      rw [hc1, List.getElem?_eq_getElem (by omega), Option.bind_eq_some_iff] at he
      obtain ⟨cs, hcs, htr⟩ := he
      obtain ⟨_, hcl, hcc⟩ := World.cells?_some hcs
      obtain ⟨y, hy, hp⟩ := hone _ _ _ htr
      refine ⟨y, fun j u hu => ?_, hp⟩
      rw [← hy] at hu
      have hj : j < 1 := by rw [← hcl]; exact (List.getElem?_eq_some_iff.1 hu).1
      rw [hcc j hj]; exact hu
    refine ⟨some ad, cc, L, by rw [hcs, hL], by rw [hL]; exact hl, hm, by rw [hL]; exact hwt, fun h0 => ?_, fun y hy => ?_⟩
    · rw [List.length_map] at h0
      obtain ⟨b, o, s⟩ := ad
      obtain rfl : s = none := by
        have := (hP 0 h0).1 0 _ rfl
        simpa [Addr.add] using World.cell?_spot this
      refine ⟨b, o, rfl, fun i hi => ?_⟩
      rw [List.length_map] at hi
      have := (hP i hi).1 0 (V L[i]) rfl
      rw [Addr.add_mid, Addr.add_mid] at this
      simp only [Nat.mul_one, Nat.add_zero] at this
      rw [this, List.getElem?_map, List.getElem?_eq_getElem hi]
      rfl
    · obtain ⟨i, hi, rfl⟩ := List.getElem_of_mem hy
      exact (hP i hi).2

/-- a slice of bytes within a unit -/
theorem open_data {H : Type} {enc : TypeId × Value → H} {W : World} {fuel : Nat} {v : Value} {x : DataW H × List MemPlace} (h : DataW.trod enc Try.prog W 0 (fun _ => true) true fuel 22 [v] = some x) (hw : ∀ m ∈ x.1.weights Try.prog 22, m ≤ reachBytes) :
    ∃ (q : Option Addr) (e : Nat) (xs : List Int), v = .slice q xs.length e ∧ Row W q xs ∧ Byt xs ∧ xs.length ≤ e ∧ e ≤ maxLen ∧ xs.length ≤ reachBytes := by
  have hr : ∀ q n c, v = .slice q n c → n * 1 ≤ reachBytes := by
    intro q n c hv
    rcases DataW.trod_slice Try.underlying22 h with ⟨hcs, hx⟩ | ⟨ad, l, cc, elems, rest, f, hfu, hcs, hx, _, hl, hm, hlen, hel, hsp, _⟩
    · simp only [List.cons.injEq, and_true] at hcs
      rw [hv] at hcs
      simp only [Value.slice.injEq] at hcs
      rw [hcs.2.1]; exact Nat.zero_le _
    · simp only [List.cons.injEq, and_true] at hcs
      rw [hv] at hcs
      simp only [Value.slice.injEq] at hcs
      have := hw ((elems.length + rest.length) * Try.prog.bytesOf 5) (by rw [hx]; simp [DataW.weights, Try.underlying22])
      rw [Try.bytes5] at this
      rw [hcs.2.1]
      omega
  rcases open_ints Try.underlying22 Try.underlying5 Try.cells5 h with ⟨hcs, hx⟩ | ⟨ad, l, cc, zs, hcs, _, hl, hm, hz, hx, hcell, hwz⟩
  · simp only [List.cons.injEq, and_true] at hcs
    exact ⟨none, 0, [], by rw [hcs]; rfl, fun h => absurd h (Nat.lt_irrefl 0), fun i => by simp, Nat.le_refl _, Nat.zero_le _, Nat.zero_le _⟩
  · simp only [List.cons.injEq, and_true] at hcs
    simp only [if_true] at hz
    have hlen : (zs.take l).length = l := by rw [List.length_take]; omega
    have hrr := hr _ _ _ hcs
    refine ⟨some ad, cc, zs.take l, by rw [hcs, hlen], fun h0 => ?_, fun i => getD_of_mem (P := fun x => 0 ≤ x ∧ x ≤ 255) (by decide) (fun x hx' => wf_u8 (hwz x (List.mem_of_mem_take hx'))) i, by omega, hm, by omega⟩
    obtain ⟨b, o, s⟩ := ad
    rw [hlen] at h0
    obtain rfl : s = none := by simpa [Addr.add] using World.cell?_spot (hcell 0 (by omega))
    exact ⟨b, o, rfl, fun i hi => by rw [hlen] at hi; rw [← Go.WideShapes.add_plain, hcell i (by omega)]; simp [List.getD, show i < l by omega]⟩

def SiF (s : Si) : Prop := i64P s.key ∧ i64P s.at_ ∧ i64P s.to_
theorem open_site {H : Type} {enc : TypeId × Value → H} {W : World} (fuel : Nat) (cs : List Value) (x : DataW H × List MemPlace) (h : DataW.trod enc Try.prog W 0 (fun _ => true) true fuel 52 cs = some x) : ∃ y, cs = l3 (siV y) ∧ SiF y := by
  obtain ⟨xs, n, rfl, hx, hlen, hxl, hf⟩ := DataW.trod_struct Try.underlying52 h
  rw [Try.cells52] at hlen
  obtain ⟨a, b, c, rfl⟩ := list_three hlen
  have f0 := hf 0
  have f1 := hf 1
  have f2 := hf 2
  simp [Try.cells3] at f0 f1 f2
  obtain ⟨x0, x1, x2, rfl⟩ := list_three (show xs.length = 3 from hxl)
  simp only [List.getElem?_cons_zero, List.getElem?_cons_succ] at f0 f1 f2
  obtain ⟨k, e0, y0, w0⟩ := DataW.trod_int Try.underlying3 f0
  obtain ⟨m, e1, y1, w1⟩ := DataW.trod_int Try.underlying3 f1
  obtain ⟨g, e2, y2, w2⟩ := DataW.trod_int Try.underlying3 f2
  simp only [List.cons.injEq, and_true] at e0 e1 e2
  subst e0 e1 e2
  exact ⟨⟨k, m, g⟩, rfl, wf_i64 w0, wf_i64 w1, wf_i64 w2⟩
theorem open_num {H : Type} {enc : TypeId × Value → H} {W : World} (fuel : Nat) (cs : List Value) (x : DataW H × List MemPlace) (h : DataW.trod enc Try.prog W 0 (fun _ => true) true fuel 3 cs = some x) : ∃ y, cs = [Value.int .i64 y] ∧ i64P y := by
  obtain ⟨k, e0, y0, w0⟩ := DataW.trod_int Try.underlying3 h
  exact ⟨k, e0, wf_i64 w0⟩
theorem open_txt {H : Type} {enc : TypeId × Value → H} {W : World} (fuel : Nat) (cs : List Value) (x : DataW H × List MemPlace) (h : DataW.trod enc Try.prog W 0 (fun _ => true) true fuel 9 cs = some x) : ∃ y, cs = [Value.string y] ∧ y.size ≤ maxLen := by
  obtain ⟨k, e0, y0, w0⟩ := DataW.trod_string Try.underlying9 h
  exact ⟨k, e0, w0⟩

theorem open_image {H : Type} {enc : TypeId × Value → H} {W : World} {fuel : Nat} {cs : List Value} {x : DataW H × List MemPlace} (h : DataW.trod enc Try.prog W 0 (fun _ => true) true fuel 27 cs = some x) (hw : ∀ m ∈ x.1.weights Try.prog 27, m ≤ reachBytes) :
    ∃ (m : IM) (pb pk ps pu : Option Addr) (cb ck cs' cu : Nat), cs = [.slice pb m.bs.length cb, .slice pk m.ks.length ck, .slice ps m.si.length cs', .slice pu m.un.length cu] ∧ ImIn W m pb pk ps pu m.bs.length cb m.ks.length ck m.si.length cs' m.un.length cu ∧
      m.bs.length ≤ reachBytes ∧ m.ks.length * 16 ≤ reachBytes ∧ m.si.length * 24 ≤ reachBytes ∧ m.un.length * 8 ≤ reachBytes := by
  obtain ⟨xs, n, rfl, hx, hlen, hxl, hf⟩ := DataW.trod_struct Try.underlying27 h
  rw [Try.cells27] at hlen
  obtain ⟨a, b, c, d, rfl⟩ := list_four hlen
  have f0 := hf 0
  have f1 := hf 1
  have f2 := hf 2
  have f3 := hf 3
  simp [Try.cells22, Try.cells23, Try.cells24, Try.cells25] at f0 f1 f2 f3
  obtain ⟨x0, x1, x2, x3, rfl⟩ := list_four (show xs.length = 4 from hxl)
  simp only [List.getElem?_cons_zero, List.getElem?_cons_succ] at f0 f1 f2 f3
  have hin : ∀ m ∈ DataW.weightsEach Try.prog [22, 23, 24, 25] [x0.1, x1.1, x2.1, x3.1], m ≤ reachBytes := by
    intro m hm
    have hd' : x.1 = .agg [x0.1, x1.1, x2.1, x3.1] := by rw [hx]; rfl
    refine hw m ?_
    rw [hd']
    simp only [DataW.weights, Try.underlying27]
    exact hm
  obtain ⟨qb, eb, bs, rfl, hb1, hb2, hb4, hb5, k1⟩ := open_data f0 fun m hm => hin m (DataW.weights_mem_each (j := 0) rfl rfl m hm)
  obtain ⟨qk, ek, K, rfl, hk0, hk1, k2, hk2, hk3⟩ := opened1 Value.string (fun s : ByteArray => s.size ≤ maxLen) Try.underlying23 Try.cells9 open_txt f1 fun m hm => hin m (DataW.weights_mem_each (j := 1) rfl rfl m hm)
  obtain ⟨qs, es, S, rfl, hs0, hs1, k3, hs2, hs3⟩ := opened3 siV SiF Try.underlying24 Try.cells52 open_site f2 fun m hm => hin m (DataW.weights_mem_each (j := 2) rfl rfl m hm)
  obtain ⟨qu, eu, U, rfl, hu0, hu1, k4, hu2, hu3⟩ := opened1 (Value.int .i64) i64P Try.underlying25 Try.cells3 open_num f3 fun m hm => hin m (DataW.weights_mem_each (j := 3) rfl rfl m hm)
  rw [Try.bytes9] at k2
  rw [Try.bytes52] at k3
  rw [Try.bytes3] at k4
  have r2 := k2
  have r3 := k3
  have r4 := k4
  simp only [reachBytes] at r2 r3 r4
  refine ⟨⟨bs, K, S, U⟩, qb, qk, qs, qu, eb, ek, es, eu, rfl, ⟨rfl, rfl, rfl, rfl, hb4, ?_, ?_, ?_, ?_, hb1, hk2, hs2, hu2, hb2, hk3, hu3⟩, k1, k2, k3, k4⟩
  · unfold maxLen at hb5; omega
  · show K.length ≤ _; omega
  · show S.length ≤ _; omega
  · show U.length ≤ _; omega

theorem weights_of {H : Type} {P : Program} {ts : List TypeId} {ds : List (DataW H)} (hsz : (DataW.weightsEach P ts ds).all (· ≤ reachBytes) = true) {j : Nat} {t : TypeId} {d : DataW H} (ht : ts[j]? = some t) (hd : ds[j]? = some d) : ∀ m ∈ d.weights P t, m ≤ reachBytes := by
  intro m hm
  have := List.all_eq_true.1 hsz m (DataW.weights_mem_each ht hd m hm)
  simpa using this


set_option maxRecDepth 20000 in
theorem open_image_val {H : Type} {enc : TypeId × Value → H} {W : World} {base : Nat} {v : Value} {d : DataW H} {p : List MemPlace} (hv : Value.okWide Try.prog W .any base 27 v)
    (h : DataW.Trod enc Try.prog W 0 (fun _ => true) true 27 v d p) {ts : List TypeId} {ds : List (DataW H)} (hsz : (DataW.weightsEach Try.prog ts ds).all (· ≤ reachBytes) = true) {j : Nat} (ht : ts[j]? = some 27) (hd : ds[j]? = some d) :
    ∃ (m : IM) (pb pk ps pu : Option Addr) (cb ck cs' cu : Nat), v = .agg (imA pb pk ps pu m.bs.length cb m.ks.length ck m.si.length cs' m.un.length cu) ∧ ImIn W m pb pk ps pu m.bs.length cb m.ks.length ck m.si.length cs' m.un.length cu ∧
      m.bs.length ≤ reachBytes ∧ m.ks.length * 16 ≤ reachBytes ∧ m.si.length * 24 ≤ reachBytes ∧ m.un.length * 8 ≤ reachBytes := by
  obtain ⟨fuel, hf⟩ := h
  simp only [Value.okWide, Try.underlying27] at hv
  obtain ⟨cs, rfl, _, _⟩ := hv
  obtain ⟨m, pb, pk, ps, pu, cb, ck, cs', cu, hc, hr⟩ := open_image hf (weights_of hsz ht hd)
  refine ⟨m, pb, pk, ps, pu, cb, ck, cs', cu, ?_, hr⟩
  have h2 : cs.toList = (imA pb pk ps pu m.bs.length cb m.ks.length ck m.si.length cs' m.un.length cu).toList := hc
  rw [Array.toList_inj.1 h2]

set_option maxRecDepth 20000 in
theorem open_bytes_val {H : Type} {enc : TypeId × Value → H} {W : World} {base : Nat} {v : Value} {d : DataW H} {p : List MemPlace} (hv : Value.okWide Try.prog W .any base 22 v)
    (h : DataW.Trod enc Try.prog W 0 (fun _ => true) true 22 v d p) {ts : List TypeId} {ds : List (DataW H)} (hsz : (DataW.weightsEach Try.prog ts ds).all (· ≤ reachBytes) = true) {j : Nat} (ht : ts[j]? = some 22) (hd : ds[j]? = some d) :
    ∃ (q : Option Addr) (e : Nat) (xs : List Int), v = .slice q xs.length e ∧ Row W q xs ∧ Byt xs ∧ xs.length ≤ e ∧ e ≤ maxLen ∧ xs.length ≤ reachBytes := by
  obtain ⟨fuel, hf⟩ := h
  have hcs : v.cells.toList = [v] := by
    obtain ⟨_, _, _, rfl⟩ := Go.WideShapes.okWide_slice Try.underlying22 hv
    rfl
  rw [hcs] at hf
  exact open_data hf (weights_of hsz ht hd)

end Go.Proofs.Ytfhjaabbfaamjaa

/- 'append(out, more...)' where what comes behind is as great as an argument may be. -/
namespace Go.Proofs.Ytfhjaabbfaamjaa
open Go.RowKit

/-- how far a slice grows: by a quarter at most -/
theorem nextcap_le {need old : Nat} (h : old < need) : Builtin.nextslicecap need old ≤ need + need / 4 + 1000 := by
  unfold Builtin.nextslicecap
  split
  · omega
  · split
    · omega
    · rw [growBy_four]
      repeat' split
      all_goals omega

theorem OwnV.lenOf {w : World} {B n c : Nat} {p : Option Addr} {xs : List Int} (h : OwnV w B (.slice p n c) xs) : xs.length = n := by
  rcases h.shape with ⟨e, rfl⟩ | ⟨g, cap, e, _⟩
  · injection e with _ e _; exact e.symm
  · injection e with _ e _; exact e.symm

theorem OwnV.cellsOf {w : World} {B n c g : Nat} {xs : List Int} (h : OwnV w B (.slice (some ⟨g, 0, none⟩) n c) xs) : ∀ j u, (byts xs)[j]? = some u → w.cell? ((⟨g, 0, none⟩ : Addr).add j) = some u := fun j u hj => by
  have hjl : j < xs.length := by
    rcases Nat.lt_or_ge j xs.length with h | h
    · exact h
    · rw [List.getElem?_eq_none (by simpa using h)] at hj; cases hj
  rw [getD_byts xs j hjl] at hj
  rcases h.shape with ⟨e, _⟩ | ⟨g', cap', e, hO⟩
  · cases e
  · injection e with e _ _; injection e with e; injection e with e _ _
    rw [← hj, Go.WideShapes.add_plain, e]
    simpa using hO.cell j hjl

theorem wp_push_big {ops : Array Oper} {rest : List Oper} {o : Oper} {a : Act} {Q : Exit → Act → World → Prop} (w : World) (hgd : o.guard = none) (s x : Operand)
    (ho : o.op = .call { callee := .builtin .append, args := #[s, x], argTypes := #[22, 22] }) (B g n cap : Nat) (xs : List Int) (hs : a.eval s = .slice (some ⟨g, 0, none⟩) n cap) (hown : OwnV w B (.slice (some ⟨g, 0, none⟩) n cap) xs)
    (ad : Addr) (m d : Nat) (ys : List Int) (hx : a.eval x = .slice (some ad) m d) (hl : ys.length = m) (hrow : Row w (some ad) ys) (hlen : n + m ≤ 140737489355328) (hB : B ≤ w.heap.size)
    (h : ∀ v' w', OwnV w' B v' (xs ++ ys) → w.grownBy w' (Value.slice (some ⟨g, 0, none⟩) n cap).ownBlock → wpList Try.prog ops Q rest (a.put o.dst v') w') :
    wpList Try.prog ops Q (o :: rest) a w := by
  obtain ⟨i0, hi, hz0, hz1, hz2⟩ := info_parts Try.info5
  have hn := hown.lenOf
  have hone : ∀ u ∈ byts ys, u.oneCell' = true := fun u hu => by
    simp only [byts, List.mem_map] at hu
    obtain ⟨z, _, rfl⟩ := hu
    rfl
  have hnews : ∀ j u, (byts ys)[j]? = some u → w.cell? (ad.add j) = some u := fun j u hj => by
    have hjl : j < ys.length := by
      rcases Nat.lt_or_ge j ys.length with h | h
      · exact h
      · rw [List.getElem?_eq_none (by simpa using h)] at hj; cases hj
    obtain ⟨b, off, e, hc⟩ := hrow (by omega)
    cases e
    rw [getD_byts ys j hjl] at hj
    rw [← hj, ← hc j hjl, Go.WideShapes.add_plain]
  by_cases hroom : n + m ≤ cap
  · subst hn
    refine wpList_append_fits w hgd s x 22 ho B 5 i0 1 Try.underlying22 hi hz1 g xs.length cap (byts xs) hs hown ad m d (byts ys) hx (by simp [hl]) hnews hone hroom fun w' h1 h2 => h _ w' ?_ h2
    unfold OwnV
    rw [List.length_append, hl]
    simpa [byts] using h1
  · have holds := hown.cellsOf
    have hc := nextcap_le (need := n + m) (old := cap) (by omega)
    have hr := run_append_grow (P := Try.prog) w 22 o.type 5 i0 (.int .u8 0) Try.underlying22 hi hz0 ⟨g, 0, none⟩ n cap (byts xs) (by rw [hz1]; simp [hn]) holds ad m d (byts ys) (by rw [hz1]; simp [hl]) hnews (by omega) (by omega) (by rw [hz2]; omega)
    have h1 := grownCap_ge w (n + m) cap 5
    have h2 := grownCap_le_maxLen w (n + m) cap 5 (by unfold maxLen; omega)
    refine wpList_plain hgd fun K hK => ?_
    unfold Oper.wp execOp
    simp only [ho, resolve, invoke, builtin, Sem.run_bind, Sem.run_pure, Result.andThen_ok, List.map_toArray, List.map_cons, List.map_nil, hs, hx, hr]
    refine hK _ _ (h _ _ ?_ ⟨rfl, rfl, rfl, by simp, fun k hk _ => (new_alloc w.drew _).block k hk⟩)
    have hl2 : (xs ++ ys).length = n + m := by rw [List.length_append, hn, hl]
    clear hr
    generalize grownCap w (n + m) cap 5 = G at *
    rw [← hl2]
    rw [← hl2] at h1
    refine (Own.mk (B := B) hB (heap_alloc_new w.drew _) h1 h2 ?_ ?_).val
    · simp only [Array.size_append, List.size_toArray, size_zeroCells, byts, List.length_map]
      rw [show (Value.int .u8 0).cells.size = 1 from rfl, Nat.mul_one, hl2, hn, hl]
      rw [hl2] at h1
      omega
    · simp only [Array.toList_append, List.append_assoc]
      rw [← List.append_assoc, show byts xs ++ byts ys = byts (xs ++ ys) by simp [byts]]
      exact List.take_left' (by simp [byts])

end Go.Proofs.Ytfhjaabbfaamjaa

/- StoreCut, walked, whatever stands behind. -/
namespace Go.Proofs.Ytfhjaabbfaamjaa
open Go.RowKit

theorem OwnV.slS {w : World} {B : Nat} {v : Value} {xs : List Int} (h : OwnV w B v xs) (h0 : 0 < xs.length) : ∃ g n cap, v = .slice (some ⟨g, 0, none⟩) n cap ∧ n = xs.length ∧ n ≤ cap ∧ cap ≤ 9223372036854775807 := by
  rcases h.shape with ⟨_, rfl⟩ | ⟨g, cap, e, ho⟩
  · exact absurd h0 (by simp)
  · obtain ⟨cur, _, _, h3, h4, _⟩ := ho.parts
    unfold maxLen at h4
    exact ⟨g, xs.length, cap, e, rfl, h3, by omega⟩

set_option maxRecDepth 20000 in
set_option maxHeartbeats 1000000 in
theorem cut_yesB (m : IM) (pb pk ps pu q : Option Addr) (nb cb nk ck ns cs nu cu n d : Nat) (at_ : Int) (ys : List Int) (w : World) (h : ImIn w m pb pk ps pu nb cb nk ck ns cs nu cu) (h1 : nb ≤ 140737488355328) (h2 : nk * 16 ≤ 140737488355328) (h3 : ns ≤ 5864062014634) (h4 : nu * 8 ≤ 140737488355328) (hok : okI m = true) (hy : ys.length = n) (hn : n ≤ 140737488351232) (hr : Row w q ys) (hby : Byt ys) :
    Calls Try.prog 6 #[.agg (imA pb pk ps pu nb cb nk ck ns cs nu cu), .int .i64 at_, .slice q n d] w fun E w' => E = .returned (.bool true) ∧ Below w.heap.size w w' := by
  have HK0 : Hid (Blk (w.alloc (.cells (imA pb pk ps pu nb cb nk ck ns cs nu cu) 27)) w.heap.size 27 (imA pb pk ps pu nb cb nk ck ns cs nu cu)) := Blk.new _ _ _
  have HB0 : Hid (Below w.heap.size w (w.alloc (.cells (imA pb pk ps pu nb cb nk ck ns cs nu cu) 27))) := new_alloc _ _
  have hc := copyImage_any m pb pk ps pu nb cb nk ck ns cs nu cu _ (h.below HB0.out) h1 h2 h3 h4
  have H := Hid.in h
  have HY := Hid.in hy
  have HR := Hid.in hr
  have HBY := Hid.in hby
  have HPB := Hid.in (putI_byt h.byt)
  have hpos := putI_pos m
  have hlen := putI_len hok
  have HCUT := Hid.in (getL_cut hok)
  have HMORE := Hid.in (getL_more hok)
  obtain ⟨k0, k1, k2, k3⟩ := HK0.out.cells4
  clear h hy hr hby
  go_enter Try.func6, Try.ntmps6
  go_wp2_with (go_at_call 7; (with_reducible refine hc.mono ?_); rintro e w1 ⟨vb, vk, vs, vu, rfl, hi, hb1⟩; obtain ⟨qb, qk, qs, qu, db, dk, ds, du, rfl, rfl, rfl, rfl, hin, hz⟩ := hi.like H.out; have hp := put_yes m qb qk qs qu nb db nk dk ns ds nu du w1 hin hok hz; have HB1 := Hid.in (below_step HB0.out hb1); clear hi hb1 hin hz)
  generalize putI m.im = P at *
  go_wp2_with (go_at_call 8; (with_reducible refine hp.mono ?_); rintro e w2 ⟨v2, rfl, ho2, hb2⟩; obtain ⟨p2, N, c2, rfl, hN, hNc, hc2⟩ := ho2.sl; have HO2 := Hid.in ho2; have HN := Hid.in hN; have HB2 := Hid.in (below_step HB1.out hb2); have HC2 := Hid.in (below_self w2); rw [← hN] at hpos hlen; have hpk := pick_any at_ N hpos (by omega) w2; clear ho2 hb2 hN)
  go_wp2_with (first
    | (go_at_call 19; (with_reducible refine hpk.mono ?_); rintro e w3 ⟨⟨k, hk, rfl⟩, hw3⟩; subst hw3; have hi1 := (fun W => slice_hi p2 N c2 k W (by omega)); have hi2 := (fun W => slice_hi' p2 N c2 k W (by omega)); have hg := get_noim (bs := P.take k) (e := 4) (p := p2) (n := k) (c := c2) (w := w3) (by rw [List.length_take, ← HN.out]; omega) (by omega) hc2 (HO2.out.rowAt.take k) HO2.out.farV (byt_takeS HPB.out k) (HCUT.out k (by rw [← HN.out]; exact hk)); clear hpk)
    | (go_at_call 14; (with_reducible refine hg.mono ?_); rintro e w4 ⟨r4, r5, r6, r7, s4, s5, s6, s7, rfl, -, hb4⟩; have HB4 := Hid.in (below_step HB2.out hb4); have HC4 := Hid.in hb4; clear hb4 hg))
  have hNb : N ≤ 140737488355328 := by omega
  have HN2 : Hid (P.length = N) := HN.out.symm
  have HPL : Hid (0 < P.length) := by have := HN.out; show 0 < P.length; omega
  have HRB := Hid.in ((HO2.out.rowAt.below HC4.out).below (new_alloc w4 (.cells (imA r4 r5 r6 r7 0 s4 0 s5 0 s6 0 s7) 27)))
  have HRY := Hid.in ((HR.out.below HB4.out).below (new_alloc w4 (.cells (imA r4 r5 r6 r7 0 s4 0 s5 0 s6 0 s7) 27)))
  have HBA := Hid.in (below_alloc HB4.out (.cells (imA r4 r5 r6 r7 0 s4 0 s5 0 s6 0 s7) 27))
  have hc5 := copy_any p2 N c2 P _ HN2.out hNb HRB.out
  have hc6 := fun W (hW : Below (w4.alloc (.cells (imA r4 r5 r6 r7 0 s4 0 s5 0 s6 0 s7) 27)).heap.size (w4.alloc (.cells (imA r4 r5 r6 r7 0 s4 0 s5 0 s6 0 s7) 27)) W) => copy_any q n d ys W HY.out (by omega) (HRY.out.below hW)
  go_wp2_with (go_at_call 18; (with_reducible refine hc5.mono ?_); rintro e w5 ⟨v5, rfl, ho5, hb5⟩; obtain ⟨g5, n5, c5, rfl, hn5⟩ := ho5.slS HPL.out; have HO5 := Hid.in ho5; have HN5 := Hid.in hn5; have HB5 := Hid.in (below_step HBA.out hb5); have h18 := hc6 w5 hb5; have hs5 := hb5.size; clear ho5 hb5 hn5)
  go_wp2_with (first
    | (go_at_call 18; (with_reducible refine h18.mono ?_); rintro e w6 ⟨v6, rfl, ho6, hb6⟩; obtain ⟨p6, n6, c6, rfl, hn6⟩ := ho6.sl; have HO6 := Hid.in ho6; have HB6 := Hid.in (below_step HB5.out hb6); have hs6 := hb6.size; have HP6 := Hid.in (HO5.out.below hb6); clear ho6 hb6 hn6)
    | (at_builtin; first
      | (refine wp_push _ rfl _ _ rfl w5.heap.size _ ys rfl (HO6.out.alloc _) ⟨w6.heap.size, 0, none⟩ 1 1 [0] rfl rfl (cell_one_new _ _ _) (by rw [HY.out]; omega) (by simp; omega) ?_; intro v7 w7 ho7 hg7 hb7 _; obtain ⟨g7, n7, c7, rfl, hn7⟩ := ho7.slS (by simp); have HO7 := Hid.in ho7; have HN7 := Hid.in hn7; have HP7 : Hid (OwnV w7 (w4.alloc (.cells (imA r4 r5 r6 r7 0 s4 0 s5 0 s6 0 s7) 27)).heap.size (.slice (some ⟨g5, 0, none⟩) n5 c5) P) := two_own HO5.out (HP6.out.alloc _) HO6.out hg7; have HB7 := Hid.in ((below_alloc HB6.out (.cells #[.int .u8 0] 5)).grown hg7 (below_alloc HB6.out _).size (fun k hk => Nat.le_trans HB5.out.size (own_ge HO6.out k hk))); have hs7 := hg7.size; have HS8 : Hid (w6.heap.size + 1 ≤ w7.heap.size) := (by have := hg7.size; rw [size_one] at this; exact this); clear ho7 hg7 hb7 hn7 hs7)
      | (refine wp_push_big _ rfl _ _ rfl (w4.alloc (.cells (imA r4 r5 r6 r7 0 s4 0 s5 0 s6 0 s7) 27)).heap.size g5 n5 c5 P rfl HP7.out ⟨g7, 0, none⟩ n7 c7 (ys ++ [0]) rfl HN7.out.1.symm HO7.out.rowAt (by rw [HN7.out.1, HN5.out.1, HN2.out, List.length_append, HY.out]; simp; omega) (Nat.le_of_lt (Nat.lt_of_le_of_lt hs5 (Nat.lt_of_lt_of_le (Nat.lt_succ_of_le hs6) HS8.out))) ?_; intro v8 w8 ho8 hg8; obtain ⟨p8, n8, c8, rfl, hn8⟩ := ho8.sl; have HO8 := Hid.in ho8; have HN8 := Hid.in hn8; have HB8 := Hid.in (HB7.out.grown hg8 HB7.out.size (fun k hk => Nat.le_trans HBA.out.size (own_ge HP7.out k hk))); clear ho8 hg8 hn8)))
  have hgm := get_noim (bs := P ++ (ys ++ [0])) (e := 200) (p := p8) (n := n8) (c := c8) (w := w8) HN8.out.1.symm HN8.out.2.1 HN8.out.2.2 HO8.out.rowAt HO8.out.farV (byt_app HPB.out (byt_app HBY.out (byt_cons (by omega) fun i => by simp))) (HMORE.out (ys ++ [0]) (by simp))
  go_wp2_with (first
    | (go_at_call 14; (with_reducible refine hgm.mono ?_); rintro e w9 ⟨t4, t5, t6, t7, y4, y5, y6, y7, rfl, -, hb9⟩; have HB9 := Hid.in (below_step HB8.out hb9); clear hb9 hgm)
    | (go_at_call 12; refine (awake_any _).mono ?_; rintro e w10 ⟨rfl, hb10⟩; have HB10 := Hid.in (below_step (below_alloc HB9.out _) hb10); clear hb10))
  go_ret
  exact ⟨rfl, HB10.out⟩

theorem cut_walk (m : IM) (pb pk ps pu q : Option Addr) (nb cb nk ck ns cs nu cu n d : Nat) (at_ : Int) (ys : List Int) (w : World) (h : ImIn w m pb pk ps pu nb cb nk ck ns cs nu cu) (h1 : nb ≤ 140737488355328) (h2 : nk * 16 ≤ 140737488355328) (h3 : ns ≤ 5864062014634) (h4 : nu * 8 ≤ 140737488355328) (hy : ys.length = n) (hn : n ≤ 140737488351232) (hr : Row w q ys) (hby : Byt ys) :
    Calls Try.prog 6 #[.agg (imA pb pk ps pu nb cb nk ck ns cs nu cu), .int .i64 at_, .slice q n d] w fun E w' => E = .returned (.bool true) ∧ Below w.heap.size w w' := by
  cases hok : okI m
  · exact cut_no m pb pk ps pu q nb cb nk ck ns cs nu cu n d at_ w h h1 h2 h3 h4 hok
  · exact cut_yesB m pb pk ps pu q nb cb nk ck ns cs nu cu n d at_ ys w h h1 h2 h3 h4 hok hy hn hr hby

end Go.Proofs.Ytfhjaabbfaamjaa

namespace Go.Proofs.Ytfhjaabbfaamjaa
open Go.ChangeShapes Go.WideShapes Go.ChangeAt Go.RowKit
open Go.ChangeMaps (open_string shut_string)

set_option maxRecDepth 100000 in
theorem storeCut_lifted (os : Os) (started : os.Started) (H : Type) (enc : TypeId × Value → H) :
    ReturnsInHanded {} Try.checked os 6 .any (Rows.storeCutSpec.pre6 enc Try.prog Try.f6 Rows.storeCutRow.domain false) (Rows.storeCutSpec.post enc Try.prog Try.f6 false true false false) := by
  refine returnsInHanded_of_change_sized (C := Try.checked) Try.own started (by kernel_rfl) Try.func6
    (ChangeSpec.witness6 (enc := enc) (C := Try.checked) false ⟨#[], #[.agg nil4, .int .i64 0, .slice none 0 0], []⟩ 8 (by kernel_rfl) (by kernel_rfl) (by kernel_rfl) (by kernel_rfl)) ?_
  intro W base args ds gs before hval0 hW hcnd hsz0 _
  have hW' := hW
  obtain ⟨p, q, hA0, hV, rfl, hfz, hnd⟩ := hW
  have hA : DataW.TrodAll enc Try.prog W 0 (fun _ => true) true Try.f6.params.toList args.toList ds p := hA0
  have hval : ∀ (j : Nat) t v, Try.f6.params[j]? = some t → args[j]? = some v → Value.okWide Try.prog W .any base t v := hval0
  have hsz : (DataW.weightsEach Try.prog (Try.f6.params.toList ++ Rows.storeCutSpec.plain.varTypes Try.prog) (ds ++ gs)).all (· ≤ reachBytes) = true := hsz0
  rw [Try.params6] at hA hval hsz
  obtain ⟨v0, vs0, d0, ds0, p0, q0_, hargs, rfl, rfl, h0, r0⟩ := trodAll_cons hA
  obtain ⟨v1, vs1, d1, ds1, p1, q1_, rfl, rfl, rfl, h1, r1⟩ := trodAll_cons r0
  obtain ⟨v2, vs2, d2, ds2, p2, q2_, rfl, rfl, rfl, h2, r2⟩ := trodAll_cons r1
  obtain ⟨rfl, rfl, rfl⟩ := trodAll_nil r2
  obtain rfl : args = #[v0, v1, v2] := by cases args; simp_all
  obtain ⟨rfl, rfl⟩ := trodVars_none hV
  have k0 := h0
  have lt0 : ∀ x ∈ p0, x.block < W.heap.size := by obtain ⟨m, hm⟩ := k0; exact DataW.trod_lt m _ _ _ hm
  obtain ⟨m0, pb0, pk0, ps0, pu0, cb0, ck0, cs0, cu0, rfl, hin0, h10, h20, h30, h40⟩ := open_image_val (hval 0 27 v0 rfl rfl) h0 hsz (j := 0) rfl rfl
  obtain ⟨a1, rfl, rfl, rfl, w1⟩ := open_int Try.underlying3 (hval 1 3 v1 rfl rfl) h1
  have k2 := h2
  have lt2 : ∀ x ∈ p2, x.block < W.heap.size := by obtain ⟨m, hm⟩ := k2; exact DataW.trod_lt m _ _ _ hm
  obtain ⟨q2, e2, ys2, rfl, hr2, hby2, hl2, hm2, hb2⟩ := open_bytes_val (hval 2 22 v2 rfl rfl) h2 hsz (j := 2) rfl rfl
  refine (cut_walk m0 pb0 pk0 ps0 pu0 q2 m0.bs.length cb0 m0.ks.length ck0 m0.si.length cs0 m0.un.length cu0 ys2.length e2 a1 ys2 W hin0 (by simp only [reachBytes] at h10; omega) (by simp only [reachBytes] at h20; omega) (by simp only [reachBytes] at h30; omega) (by simp only [reachBytes] at h40; omega) rfl (by simp only [reachBytes] at hb2; omega) hr2 hby2).mono fun e W' ⟨he, bel⟩ => ?_
  subst he
  exact ⟨_, rfl, _, _, _, [], _, [], hW', trodAll_mk1 (shut_bool Try.underlying4 _), (trodAll_cons_mk (Below.trod Try.laidOut (by kernel_rfl) (of_decide_eq_true (by kernel_rfl)) k0 bel lt0) (trodAll_cons_mk (shut_int Try.underlying3 w1) (trodAll_cons_mk (Below.trod Try.laidOut (by kernel_rfl) (of_decide_eq_true (by kernel_rfl)) k2 bel lt2) trodAll_mk0))), rfl, bel.frame _, fun h => by cases h⟩

theorem storeCut_holds : Rows.StoreCutSaid :=
  OpenClaim.holds_of_wide 6 Try.f6 rfl rfl rfl rfl rfl rfl rfl ⟨rfl, rfl, rfl, rfl, rfl⟩ rfl rfl rfl rfl rfl (by kernel_rfl) Try.func6 (by kernel_rfl)
    (of_decide_eq_true (by kernel_rfl)) (by unfold Func.isWrapper; first | (rw [if_pos (by decide +kernel)]; kernel_rfl) | (rw [if_neg (by decide +kernel)]; exact ⟨rfl, rfl⟩))
    (fun os started H enc _ => storeCut_lifted os started H enc)
#print axioms storeCut_holds

end Go.Proofs.Ytfhjaabbfaamjaa
