/- How a row, and a list of rows, that came in is opened. -/
import Derived.Test.YtonkjeoepfkboaaOpen
import Derived.Deep.MidRow
import Derived.SizedLaws
namespace Go.Proofs.Ytonkjeoepfkboaa
open Go.ChangeShapes Go.WideShapes Go.ChangeAt Go.RowKit

theorem Try.cells3 : Try.prog.cellsOf 3 = 1 := by kernel_rfl
theorem Try.cells4 : Try.prog.cellsOf 4 = 1 := by kernel_rfl
theorem Try.cells27 : Try.prog.cellsOf 27 = 4 := by kernel_rfl

theorem list_four {X : Type} {l : List X} (h : l.length = 4) : ∃ a b c d, l = [a, b, c, d] := by
  match l, h with
  | [a, b, c, d], _ => exact ⟨a, b, c, d, rfl⟩
theorem list_ofG {X : Type} {P : Nat → X → Prop} : ∀ n, (∀ i, i < n → ∃ x, P i x) → ∃ xs : List X, xs.length = n ∧ ∀ i (h : i < xs.length), P i xs[i]
  | 0, _ => ⟨[], rfl, fun i h => absurd h (by simp)⟩
  | n + 1, h => by
    obtain ⟨xs, hl, hx⟩ := list_ofG n fun i hi => h i (by omega)
    obtain ⟨x, hp⟩ := h n (by omega)
    refine ⟨xs ++ [x], by simp [hl], fun i hi => ?_⟩
    by_cases hin : i < xs.length
    · rw [List.getElem_append_left hin]; exact hx i hin
    · have : i = n := by simp at hi; omega
      subst this
      rw [List.getElem_append_right (by omega)]
      simp [hl]
      exact hp

theorem weights_of {H : Type} {P : Program} {ts : List TypeId} {ds : List (DataW H)} (hsz : (DataW.weightsEach P ts ds).all (· ≤ reachBytes) = true) {j : Nat} {t : TypeId} {d : DataW H} (ht : ts[j]? = some t) (hd : ds[j]? = some d) : ∀ m ∈ d.weights P t, m ≤ reachBytes := by
  intro m hm
  have := List.all_eq_true.1 hsz m (DataW.weights_mem_each ht hd m hm)
  simpa using this
/-- a row of a script -/
structure OpD where
  kind : Int
  at_ : Int
  to_ : Int
  up : Bool
abbrev opL (x : OpD) : List Value := [.int .i64 x.kind, .int .i64 x.at_, .int .i64 x.to_, .bool x.up]
/-- what each row keeps to -/
def OpW (x : OpD) : Prop := -9223372036854775808 ≤ x.at_ ∧ x.at_ ≤ 9223372036854775807
/-- a script in memory -/
def Scr (w : World) (p : Option Addr) (L : List OpD) : Prop := 0 < L.length → ∃ b o, p = some ⟨b, o, none⟩ ∧ ∀ i y, L[i]? = some y → (w.cell? ⟨b, o + i * 4, none⟩ = some (.int .i64 y.kind) ∧ w.cell? ⟨b, o + i * 4 + 1, none⟩ = some (.int .i64 y.at_) ∧ w.cell? ⟨b, o + i * 4 + 2, none⟩ = some (.int .i64 y.to_) ∧ w.cell? ⟨b, o + i * 4 + 3, none⟩ = some (.bool y.up)) ∧ OpW y

theorem open_op {H : Type} {enc : TypeId × Value → H} {W : World} {fuel : Nat} {cs : List Value} {x : DataW H × List MemPlace} (h : DataW.trod enc Try.prog W 0 (fun _ => true) true fuel 27 cs = some x) (_hw : ∀ m ∈ x.1.weights Try.prog 27, m ≤ reachBytes) :
    ∃ y : OpD, cs = opL y ∧ OpW y := by
  obtain ⟨xs, n, rfl, hx, hlen, hxl, hf⟩ := DataW.trod_struct Try.underlying27 h
  rw [Try.cells27] at hlen
  obtain ⟨a, b, c, d, rfl⟩ := list_four hlen
  have f0 := hf 0
  have f1 := hf 1
  have f2 := hf 2
  have f3 := hf 3
  simp [Try.cells3, Try.cells4] at f0 f1 f2 f3
  obtain ⟨x0, x1, x2, x3, rfl⟩ := list_four (show xs.length = 4 from hxl)
  simp only [List.getElem?_cons_zero, List.getElem?_cons_succ] at f0 f1 f2 f3
  obtain ⟨k0, e0, y0, w0⟩ := DataW.trod_int Try.underlying3 f0
  obtain ⟨k1, e1, y1, w1⟩ := DataW.trod_int Try.underlying3 f1
  obtain ⟨k2, e2, y2, w2⟩ := DataW.trod_int Try.underlying3 f2
  obtain ⟨k3, e3, y3⟩ := DataW.trod_bool Try.underlying4 f3
  simp only [List.cons.injEq, and_true] at e0 e1 e2 e3
  subst e0 e1 e2 e3
  exact ⟨⟨k0, k1, k2, k3⟩, rfl, wf_i64 w1⟩

theorem weights_all {H : Type} {P : Program} {e : TypeId} : ∀ {l : List (DataW H)} {i : Nat} {d : DataW H} {m : Nat}, l[i]? = some d → m ∈ d.weights P e → m ∈ DataW.weightsAll P e l
  | c :: l, 0, d, m, h, hm => by
    simp only [List.getElem?_cons_zero, Option.some.injEq] at h
    subst h
    simp only [DataW.weightsAll]
    exact List.mem_append_left _ hm
  | c :: l, i + 1, d, m, h, hm => by
    simp only [List.getElem?_cons_succ] at h
    simp only [DataW.weightsAll]
    exact List.mem_append_right _ (weights_all h hm)

/-- a script -/
theorem open_script {H : Type} {enc : TypeId × Value → H} {W : World} {fuel : Nat} {v : Value} {x : DataW H × List MemPlace} (h : DataW.trod enc Try.prog W 0 (fun _ => true) true fuel 22 [v] = some x) (hw : ∀ m ∈ x.1.weights Try.prog 22, m ≤ reachBytes) :
    ∃ (q : Option Addr) (e : Nat) (L : List OpD), v = .slice q L.length e ∧ L.length ≤ 9223372036854775807 ∧ L.length ≤ e ∧ Scr W q L := by
  rcases DataW.trod_slice Try.underlying22 h with ⟨hcs, hx⟩ | ⟨ad, l, cc, elems, rest, f, hfu, hcs, hx, _, hl, hm, hlen, hel, hsp, _⟩
  · simp only [List.cons.injEq, and_true] at hcs
    exact ⟨none, 0, [], by rw [hcs]; rfl, by decide, Nat.le_refl _, fun h => absurd h (by simp)⟩
  · simp only [List.cons.injEq, and_true] at hcs
    have hwi : ∀ i (hi : i < elems.length), ∀ m ∈ elems[i].1.weights Try.prog 27, m ≤ reachBytes := by
      intro i hi m hm
      refine hw m ?_
      rw [hx]
      simp only [DataW.weights, Try.underlying22]
      refine List.mem_cons_of_mem _ (List.mem_append_left _ (weights_all (i := i) ?_ hm))
      rw [List.getElem?_map, List.getElem?_eq_getElem hi]; rfl
    obtain ⟨L, hL, hP⟩ := list_ofG (P := fun i (y : OpD) => (∀ j u, (opL y)[j]? = some u → W.cell? ((ad.add (i * 4)).add j) = some u) ∧ OpW y) l fun i hi => by
      have he := hel i hi
      rw [Try.cells27, List.getElem?_eq_getElem (by omega), Option.bind_eq_some_iff] at he
      obtain ⟨cs, hcs, htr⟩ := he
      obtain ⟨_, hcl, hcc⟩ := World.cells?_some hcs
      obtain ⟨y, hy, hp⟩ := open_op htr (hwi i (by omega))
      refine ⟨y, fun j u hu => ?_, hp⟩
      rw [← hy] at hu
      have hj : j < 4 := by rw [← hcl]; exact (List.getElem?_eq_some_iff.1 hu).1
      rw [hcc j hj]; exact hu
    unfold maxLen at hm
    refine ⟨some ad, cc, L, by rw [hcs, hL], by omega, by omega, fun h0 => ?_⟩
    obtain ⟨b, o, s⟩ := ad
    obtain rfl : s = none := by
      have := (hP 0 h0).1 0 _ rfl
      simpa [Addr.add] using World.cell?_spot this
    refine ⟨b, o, rfl, fun i y hy => ?_⟩
    obtain ⟨hi, rfl⟩ := List.getElem?_eq_some_iff.1 hy
    obtain ⟨hc, hW⟩ := hP i hi
    have g0 := hc 0 _ rfl
    have g1 := hc 1 _ rfl
    have g2 := hc 2 _ rfl
    have g3 := hc 3 _ rfl
    rw [Addr.add_mid, Addr.add_mid] at g0 g1 g2 g3
    exact ⟨⟨g0, g1, g2, g3⟩, hW⟩

set_option maxRecDepth 20000 in
theorem open_script_val {H : Type} {enc : TypeId × Value → H} {W : World} {base : Nat} {v : Value} {d : DataW H} {p : List MemPlace} (hv : Value.okWide Try.prog W .any base 22 v)
    (h : DataW.Trod enc Try.prog W 0 (fun _ => true) true 22 v d p) {ts : List TypeId} {ds : List (DataW H)} (hsz : (DataW.weightsEach Try.prog ts ds).all (· ≤ reachBytes) = true) {j : Nat} (ht : ts[j]? = some 22) (hd : ds[j]? = some d) :
    ∃ (q : Option Addr) (e : Nat) (L : List OpD), v = .slice q L.length e ∧ L.length ≤ 9223372036854775807 ∧ L.length ≤ e ∧ Scr W q L := by
  obtain ⟨fuel, hf⟩ := h
  have hcs : v.cells.toList = [v] := by
    obtain ⟨_, _, _, rfl⟩ := Go.WideShapes.okWide_slice Try.underlying22 hv
    rfl
  rw [hcs] at hf
  exact open_script hf (weights_of hsz ht hd)

theorem open_op_val {H : Type} {enc : TypeId × Value → H} {W : World} {base : Nat} {v : Value} {d : DataW H} {p : List MemPlace} (hv : Value.okWide Try.prog W .any base 27 v)
    (h : DataW.Trod enc Try.prog W 0 (fun _ => true) true 27 v d p) {ts : List TypeId} {ds : List (DataW H)} (hsz : (DataW.weightsEach Try.prog ts ds).all (· ≤ reachBytes) = true) {j : Nat} (ht : ts[j]? = some 27) (hd : ds[j]? = some d) :
    ∃ y : OpD, v = .agg #[.int .i64 y.kind, .int .i64 y.at_, .int .i64 y.to_, .bool y.up] ∧ OpW y := by
  obtain ⟨fuel, hf⟩ := h
  simp only [Value.okWide, Try.underlying27] at hv
  obtain ⟨cs, rfl, _, _⟩ := hv
  obtain ⟨y, hc, hr⟩ := open_op hf (weights_of hsz ht hd)
  refine ⟨y, ?_, hr⟩
  have h2 : cs.toList = (#[.int .i64 y.kind, .int .i64 y.at_, .int .i64 y.to_, .bool y.up] : Array Value).toList := hc
  rw [Array.toList_inj.1 h2]

end Go.Proofs.Ytonkjeoepfkboaa
