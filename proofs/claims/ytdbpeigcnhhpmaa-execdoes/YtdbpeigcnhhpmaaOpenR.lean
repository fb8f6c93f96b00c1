/- How registers (api.Regs) that came in by value are opened, of every size that an argument may have. -/
import Derived.Test.YtdbpeigcnhhpmaaOpen
import Derived.Test.YtdbpeigcnhhpmaaRgs
import Derived.SizedLaws
namespace Go.Proofs.Ytdbpeigcnhhpmaa
open Go.ChangeShapes Go.WideShapes Go.ChangeAt Go.RowKit

theorem Try.cells25 : Try.prog.cellsOf 25 = 1 := by kernel_rfl
theorem Try.cells30 : Try.prog.cellsOf 30 = 1 := by kernel_rfl
theorem Try.cells29 : Try.prog.cellsOf 29 = 8 := by kernel_rfl
theorem Try.cells32 : Try.prog.cellsOf 32 = 9 := by kernel_rfl
theorem Try.bytes25 : Try.prog.bytesOf 25 = 4 := by kernel_rfl

theorem list_two {X : Type} {l : List X} (h : l.length = 2) : ∃ a b, l = [a, b] := by
  match l, h with
  | [a, b], _ => exact ⟨a, b, rfl⟩
theorem list_eight {X : Type} {l : List X} (h : l.length = 8) : ∃ a0 a1 a2 a3 a4 a5 a6 a7, l = [a0, a1, a2, a3, a4, a5, a6, a7] := by
  match l, h with
  | [a0, a1, a2, a3, a4, a5, a6, a7], _ => exact ⟨a0, a1, a2, a3, a4, a5, a6, a7, rfl⟩
theorem list_nine {X : Type} {l : List X} (h : l.length = 9) : ∃ a0 a1 a2 a3 a4 a5 a6 a7 a8, l = [a0, a1, a2, a3, a4, a5, a6, a7, a8] := by
  match l, h with
  | [a0, a1, a2, a3, a4, a5, a6, a7, a8], _ => exact ⟨a0, a1, a2, a3, a4, a5, a6, a7, a8, rfl⟩

/-- a slice of places within it -/
theorem open_places {H : Type} {enc : TypeId × Value → H} {W : World} {fuel : Nat} {v : Value} {x : DataW H × List MemPlace} (h : DataW.trod enc Try.prog W 0 (fun _ => true) true fuel 30 [v] = some x) (hw : ∀ m ∈ x.1.weights Try.prog 30, m ≤ reachBytes) :
    ∃ (q : Option Addr) (e : Nat) (xs : List Int), v = .slice q xs.length e ∧ PRow W q xs ∧ Wds xs ∧ xs.length ≤ e ∧ e ≤ maxLen ∧ xs.length * 4 ≤ reachBytes := by
  have hr : ∀ q n c, v = .slice q n c → n * 4 ≤ reachBytes := by
    intro q n c hv
    rcases DataW.trod_slice Try.underlying30 h with ⟨hcs, hx⟩ | ⟨ad, l, cc, elems, rest, f, hfu, hcs, hx, _, hl, hm, hlen, hel, hsp, _⟩
    · simp only [List.cons.injEq, and_true] at hcs
      rw [hv] at hcs
      simp only [Value.slice.injEq] at hcs
      rw [hcs.2.1]; exact Nat.zero_le _
    · simp only [List.cons.injEq, and_true] at hcs
      rw [hv] at hcs
      simp only [Value.slice.injEq] at hcs
      have := hw ((elems.length + rest.length) * Try.prog.bytesOf 25) (by rw [hx]; simp [DataW.weights, Try.underlying30])
      rw [Try.bytes25] at this
      rw [hcs.2.1]
      omega
  rcases open_ints Try.underlying30 Try.underlying25 Try.cells25 h with ⟨hcs, hx⟩ | ⟨ad, l, cc, zs, hcs, _, hl, hm, hz, hx, hcell, hwz⟩
  · simp only [List.cons.injEq, and_true] at hcs
    exact ⟨none, 0, [], by rw [hcs]; rfl, fun h => absurd h (Nat.lt_irrefl 0), (fun i hi => absurd hi List.not_mem_nil), Nat.le_refl _, Nat.zero_le _, Nat.zero_le _⟩
  · simp only [List.cons.injEq, and_true] at hcs
    simp only [if_true] at hz
    have hlen : (zs.take l).length = l := by rw [List.length_take]; omega
    have hrr := hr _ _ _ hcs
    refine ⟨some ad, cc, zs.take l, by rw [hcs, hlen], fun h0 => ?_, fun x hx' => wf_u32 (hwz x (List.mem_of_mem_take hx')), by omega, hm, by omega⟩
    obtain ⟨b, o, s⟩ := ad
    rw [hlen] at h0
    obtain rfl : s = none := by simpa [Addr.add] using World.cell?_spot (hcell 0 (by omega))
    exact ⟨b, o, rfl, fun i hi => by rw [hlen] at hi; rw [← Go.WideShapes.add_plain, hcell i (by omega)]; simp [List.getD, show i < l by omega]⟩

set_option maxRecDepth 20000 in
theorem open_regs {H : Type} {enc : TypeId × Value → H} {W : World} {fuel : Nat} {cs : List Value} {x : DataW H × List MemPlace} (h : DataW.trod enc Try.prog W 0 (fun _ => true) true fuel 32 cs = some x) (hw : ∀ m ∈ x.1.weights Try.prog 32, m ≤ reachBytes) :
    ∃ (R : List Int) (q : Option Addr) (e : Nat) (S : List Int), cs = wrds R ++ [.slice q S.length e] ∧ R.length = 8 ∧ Wds R ∧ PRow W q S ∧ Wds S ∧ S.length ≤ e ∧ e ≤ maxLen ∧ S.length * 4 ≤ reachBytes := by
  obtain ⟨xs, n, rfl, hx, hlen, hxl, hf⟩ := DataW.trod_struct Try.underlying32 h
  rw [Try.cells32] at hlen
  obtain ⟨a0, a1, a2, a3, a4, a5, a6, a7, a8, rfl⟩ := list_nine hlen
  have f0 := hf 0
  have f1 := hf 1
  simp [Try.cells29, Try.cells30] at f0 f1
  obtain ⟨x0, x1, rfl⟩ := list_two (show xs.length = 2 from hxl)
  simp only [List.getElem?_cons_zero, List.getElem?_cons_succ] at f0 f1
  have hin : ∀ m ∈ DataW.weightsEach Try.prog [29, 30] [x0.1, x1.1], m ≤ reachBytes := by
    intro m hm
    have hd' : x.1 = .agg [x0.1, x1.1] := by rw [hx]; rfl
    refine hw m ?_
    rw [hd']
    simp only [DataW.weights, Try.underlying32]
    exact hm
  obtain ⟨q, e, S, rfl, k1, k2, k3, k4, k5⟩ := open_places f1 fun m hm => hin m (DataW.weights_mem_each (j := 1) rfl rfl m hm)
  obtain ⟨ys, m', rfl, _, _, hyl, hg⟩ := DataW.trod_array Try.underlying29 f0
  obtain ⟨y0, y1, y2, y3, y4, y5, y6, y7, rfl⟩ := list_eight hyl
  have g0 := hg 0 (by decide)
  have g1 := hg 1 (by decide)
  have g2 := hg 2 (by decide)
  have g3 := hg 3 (by decide)
  have g4 := hg 4 (by decide)
  have g5 := hg 5 (by decide)
  have g6 := hg 6 (by decide)
  have g7 := hg 7 (by decide)
  simp [Try.cells25] at g0 g1 g2 g3 g4 g5 g6 g7
  obtain ⟨r0, e0, _, w0⟩ := DataW.trod_int Try.underlying25 g0
  obtain ⟨r1, e1, _, w1⟩ := DataW.trod_int Try.underlying25 g1
  obtain ⟨r2, e2, _, w2⟩ := DataW.trod_int Try.underlying25 g2
  obtain ⟨r3, e3, _, w3⟩ := DataW.trod_int Try.underlying25 g3
  obtain ⟨r4, e4, _, w4⟩ := DataW.trod_int Try.underlying25 g4
  obtain ⟨r5, e5, _, w5⟩ := DataW.trod_int Try.underlying25 g5
  obtain ⟨r6, e6, _, w6⟩ := DataW.trod_int Try.underlying25 g6
  obtain ⟨r7, e7, _, w7⟩ := DataW.trod_int Try.underlying25 g7
  simp only [List.cons.injEq, and_true] at e0 e1 e2 e3 e4 e5 e6 e7
  subst e0 e1 e2 e3 e4 e5 e6 e7
  refine ⟨[r0, r1, r2, r3, r4, r5, r6, r7], q, e, S, rfl, rfl, ?_, k1, k2, k3, k4, k5⟩
  simp only [Wds, List.mem_cons, List.not_mem_nil, or_false, forall_eq_or_imp, forall_eq]
  exact ⟨wf_u32 w0, wf_u32 w1, wf_u32 w2, wf_u32 w3, wf_u32 w4, wf_u32 w5, wf_u32 w6, wf_u32 w7⟩

theorem weights_of {H : Type} {P : Program} {ts : List TypeId} {ds : List (DataW H)} (hsz : (DataW.weightsEach P ts ds).all (· ≤ reachBytes) = true) {j : Nat} {t : TypeId} {d : DataW H} (ht : ts[j]? = some t) (hd : ds[j]? = some d) : ∀ m ∈ d.weights P t, m ≤ reachBytes := by
  intro m hm
  have := List.all_eq_true.1 hsz m (DataW.weights_mem_each ht hd m hm)
  simpa using this

theorem open_regs_val {H : Type} {enc : TypeId × Value → H} {W : World} {base : Nat} {v : Value} {d : DataW H} {p : List MemPlace} (hv : Value.okWide Try.prog W .any base 32 v)
    (h : DataW.Trod enc Try.prog W 0 (fun _ => true) true 32 v d p) {ts : List TypeId} {ds : List (DataW H)} (hsz : (DataW.weightsEach Try.prog ts ds).all (· ≤ reachBytes) = true) {j : Nat} (ht : ts[j]? = some 32) (hd : ds[j]? = some d) :
    ∃ (R : List Int) (q : Option Addr) (e : Nat) (S : List Int), v = rgV R (.slice q S.length e) ∧ R.length = 8 ∧ Wds R ∧ PRow W q S ∧ Wds S ∧ S.length ≤ e ∧ e ≤ maxLen ∧ S.length * 4 ≤ reachBytes := by
  obtain ⟨fuel, hf⟩ := h
  simp only [Value.okWide, Try.underlying32] at hv
  obtain ⟨cs, rfl, _, _⟩ := hv
  obtain ⟨R, q, e, S, hc, hr⟩ := open_regs hf (weights_of hsz ht hd)
  refine ⟨R, q, e, S, ?_, hr⟩
  have h2 : cs.toList = (wrds R ++ [.slice q S.length e]) := hc
  unfold rgV rgA
  rw [← h2]

end Go.Proofs.Ytdbpeigcnhhpmaa
