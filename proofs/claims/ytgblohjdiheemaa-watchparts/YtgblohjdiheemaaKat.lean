/- Texts put together: OpenE, OpenZ, PrtL, AwkW. -/
import Derived.Test.YtgblohjdiheemaaKai
import Derived.Test.YtgblohjdiheemaaKah
import Derived.Deep.MidRow
import Derived.SizedLaws
import Derived.Test.YtgblohjdiheemaaKap
import Derived.Test.YtgblohjdiheemaaKal
import Derived.Test.YtgblohjdiheemaaKak
import Derived.Test.YtgblohjdiheemaaKao
import Derived.Test.YtgblohjdiheemaaKas
import Derived.Test.YtgblohjdiheemaaKar

/- Ours: how a list of events, and a list of numbers, that came in is opened: a generic row of k cells. -/
namespace Go.Proofs.Ytgblohjdiheemaa
open Go.ChangeShapes Go.WideShapes Go.ChangeAt Go.RowKit

theorem list_ofE {X : Type} {P : Nat → X → Prop} : ∀ n, (∀ i, i < n → ∃ x, P i x) → ∃ xs : List X, xs.length = n ∧ ∀ i (h : i < xs.length), P i xs[i]
  | 0, _ => ⟨[], rfl, fun i h => absurd h (by simp)⟩
  | n + 1, h => by
    obtain ⟨xs, hl, hx⟩ := list_ofE n fun i hi => h i (by omega)
    obtain ⟨x, hp⟩ := h n (by omega)
    refine ⟨xs ++ [x], by simp [hl], fun i hi => ?_⟩
    by_cases hin : i < xs.length
    · rw [List.getElem_append_left hin]; exact hx i hin
    · have : i = n := by simp at hi; omega
      subst this
      rw [List.getElem_append_right (by omega)]
      simp [hl]
      exact hp
/-- a row of k cells that came in -/
theorem openedK {α H : Type} (F : Fm α) {enc : TypeId × Value → H} {W : World} {fuel : Nat} {v : Value} {x : DataW H × List MemPlace} {ST ET : TypeId} (P : α → Prop) (hu : Try.prog.underlying ST = some (.slice ET)) (hck : Try.prog.cellsOf ET = F.k)
    (hone : ∀ (fuel : Nat) (cs : List Value) (x : DataW H × List MemPlace), DataW.trod enc Try.prog W 0 (fun _ => true) true fuel ET cs = some x → ∃ y, cs = F.f y ∧ P y)
    (h : DataW.trod enc Try.prog W 0 (fun _ => true) true fuel ST [v] = some x) :
    ∃ (q : Option Addr) (e : Nat) (L : List α), v = .slice q L.length e ∧ L.length ≤ e ∧ e ≤ maxLen ∧ KRow F W q L ∧ ∀ y ∈ L, P y := by
  rcases DataW.trod_slice hu h with ⟨hcs, hx⟩ | ⟨ad, l, cc, elems, rest, f, hfu, hcs, hx, _, hl, hm, hlen, hel, hsp, _⟩
  · simp only [List.cons.injEq, and_true] at hcs
    exact ⟨none, 0, [], by rw [hcs]; rfl, Nat.le_refl _, Nat.zero_le _, KRow.nil W none, fun y hy => by cases hy⟩
  · simp only [List.cons.injEq, and_true] at hcs
    obtain ⟨L, hL, hP⟩ := list_ofE (P := fun i y => (∀ j u, (F.f y)[j]? = some u → W.cell? ((ad.add (i * F.k)).add j) = some u) ∧ P y) l fun i hi => by
      have he := hel i hi
      rw [hck, List.getElem?_eq_getElem (by omega), Option.bind_eq_some_iff] at he
      obtain ⟨cs, hcs, htr⟩ := he
      obtain ⟨_, hcl, hcc⟩ := World.cells?_some hcs
      obtain ⟨y, hy, hp⟩ := hone _ _ _ htr
      refine ⟨y, fun j u hu => ?_, hp⟩
      rw [← hy] at hu
      have hj : j < F.k := by rw [← hcl]; exact (List.getElem?_eq_some_iff.1 hu).1
      rw [hcc j hj]; exact hu
    refine ⟨some ad, cc, L, by rw [hcs, hL], by rw [hL]; exact hl, hm, fun h0 => ?_, fun y hy => ?_⟩
    · obtain ⟨b, o, s⟩ := ad
      obtain rfl : s = none := by
        have h3 : 0 < (F.f L[0]).length := by rw [F.len]; exact F.pos
        have := (hP 0 h0).1 0 _ (List.getElem?_eq_getElem h3)
        simpa [Addr.add] using World.cell?_spot this
      refine ⟨b, o, rfl, fun i hi j hj => ?_⟩
      have h3 : j < (F.f L[i]).length := by rw [F.len]; exact hj
      have := (hP i hi).1 j _ (List.getElem?_eq_getElem h3)
      rw [Addr.add_mid, Addr.add_mid] at this
      rw [this, List.getElem?_eq_getElem h3]
    · obtain ⟨i, hi, rfl⟩ := List.getElem_of_mem hy
      exact (hP i hi).2
theorem list_seven {X : Type} {l : List X} (h : l.length = 7) : ∃ a b c d e f g, l = [a, b, c, d, e, f, g] := by
  match l, h with
  | [a, b, c, d, e, f, g], _ => exact ⟨a, b, c, d, e, f, g, rfl⟩
theorem open_event {H : Type} {enc : TypeId × Value → H} {W : World} {fuel : Nat} {cs : List Value} {x : DataW H × List MemPlace} (h : DataW.trod enc Try.prog W 0 (fun _ => true) true fuel 43 cs = some x) :
    ∃ y : Fv, cs = fE.f y ∧ FvOk y := by
  obtain ⟨xs, n, rfl, hx, hlen, hxl, hf⟩ := DataW.trod_struct Try.underlying43 h
  have hc43 : Try.prog.cellsOf 43 = 7 := by kernel_rfl
  have hc3 : Try.prog.cellsOf 3 = 1 := by kernel_rfl
  have hc2 : Try.prog.cellsOf 2 = 1 := by kernel_rfl
  have hc40 : Try.prog.cellsOf 40 = 1 := by kernel_rfl
  have hc41 : Try.prog.cellsOf 41 = 1 := by kernel_rfl
  rw [hc43] at hlen
  obtain ⟨a, b, c, d, e, f, g, rfl⟩ := list_seven hlen
  have f0 := hf 0
  have f1 := hf 1
  have f2 := hf 2
  have f3 := hf 3
  have f4 := hf 4
  have f5 := hf 5
  have f6 := hf 6
  simp [hc3, hc2, hc40, hc41] at f0 f1 f2 f3 f4 f5 f6
  obtain ⟨x0, x1, x2, x3, x4, x5, x6, rfl⟩ := list_seven (show xs.length = 7 from hxl)
  simp only [List.getElem?_cons_zero, List.getElem?_cons_succ] at f0 f1 f2 f3 f4 f5 f6
  obtain ⟨k0, e0, y0, w0⟩ := DataW.trod_int Try.underlying40 f0
  obtain ⟨k1, e1, y1, w1⟩ := DataW.trod_int Try.underlying3 f1
  obtain ⟨k2, e2, y2, w2⟩ := DataW.trod_int Try.underlying3 f2
  obtain ⟨k3, e3, y3, w3⟩ := DataW.trod_int Try.underlying3 f3
  obtain ⟨k4, e4, y4, w4⟩ := DataW.trod_int Try.underlying41 f4
  obtain ⟨k5, e5, y5, w5⟩ := DataW.trod_int Try.underlying3 f5
  obtain ⟨k6, e6, y6, w6⟩ := DataW.trod_int Try.underlying2 f6
  simp only [List.cons.injEq, and_true] at e0 e1 e2 e3 e4 e5 e6
  subst e0 e1 e2 e3 e4 e5 e6
  exact ⟨⟨k0, k1, k2, k3, k4, k5, k6⟩, rfl, wf_i64 w2, wf_i64 w3, wf_i64 w5, wf_i64 w6⟩
set_option maxRecDepth 20000 in
theorem open_evs_val {H : Type} {enc : TypeId × Value → H} {W : World} {base : Nat} {v : Value} {d : DataW H} {p : List MemPlace} (hv : Value.okWide Try.prog W .any base 23 v)
    (h : DataW.Trod enc Try.prog W 0 (fun _ => true) true 23 v d p) {ts : List TypeId} {ds : List (DataW H)} (_hsz : (DataW.weightsEach Try.prog ts ds).all (· ≤ reachBytes) = true) {j : Nat} (_ht : ts[j]? = some 23) (_hd : ds[j]? = some d) :
    ∃ (q : Option Addr) (e : Nat) (L : List Fv), v = .slice q L.length e ∧ L.length ≤ e ∧ e ≤ maxLen ∧ KRow fE W q L ∧ ∀ y ∈ L, FvOk y := by
  obtain ⟨fuel, hf⟩ := h
  have hcs : v.cells.toList = [v] := by
    obtain ⟨_, _, _, rfl⟩ := Go.WideShapes.okWide_slice Try.underlying23 hv
    rfl
  rw [hcs] at hf
  exact openedK fE FvOk Try.underlying23 (by kernel_rfl) (fun _ _ _ hh => open_event hh) hf
end Go.Proofs.Ytgblohjdiheemaa

/- Ours: how a list of numbers that came in is opened, with its weight. -/
namespace Go.Proofs.Ytgblohjdiheemaa
open Go.ChangeShapes Go.WideShapes Go.ChangeAt Go.RowKit

/-- a row of elements of one cell that came in, with its weight -/
theorem opened1 {H : Type} {enc : TypeId × Value → H} {W : World} {fuel : Nat} {v : Value} {x : DataW H × List MemPlace} {ST ET : TypeId} {X : Type} (V : X → Value) (P : X → Prop) (hu : Try.prog.underlying ST = some (.slice ET)) (hc1 : Try.prog.cellsOf ET = 1)
    (hone : ∀ (fuel : Nat) (cs : List Value) (x : DataW H × List MemPlace), DataW.trod enc Try.prog W 0 (fun _ => true) true fuel ET cs = some x → ∃ y, cs = [V y] ∧ P y)
    (h : DataW.trod enc Try.prog W 0 (fun _ => true) true fuel ST [v] = some x) (hw : ∀ m ∈ x.1.weights Try.prog ST, m ≤ reachBytes) :
    ∃ (q : Option Addr) (e : Nat) (L : List X), v = .slice q L.length e ∧ L.length ≤ e ∧ e ≤ maxLen ∧ L.length * Try.prog.bytesOf ET ≤ reachBytes ∧ GRow W q (L.map V) ∧ ∀ y ∈ L, P y := by
  rcases DataW.trod_slice hu h with ⟨hcs, hx⟩ | ⟨ad, l, cc, elems, rest, f, hfu, hcs, hx, _, hl, hm, hlen, hel, hsp, _⟩
  · simp only [List.cons.injEq, and_true] at hcs
    exact ⟨none, 0, [], by rw [hcs]; rfl, Nat.le_refl _, Nat.zero_le _, by simp, GRow.nil W none, fun y hy => by cases hy⟩
  · simp only [List.cons.injEq, and_true] at hcs
    have hwt : l * Try.prog.bytesOf ET ≤ reachBytes := by
      have := hw ((elems.length + rest.length) * Try.prog.bytesOf ET) (by rw [hx]; simp [DataW.weights, hu])
      exact Nat.le_trans (Nat.mul_le_mul_right _ (by omega)) this
    obtain ⟨L, hL, hP⟩ := list_ofE (P := fun i y => (∀ j u, ([V y])[j]? = some u → W.cell? ((ad.add (i * 1)).add j) = some u) ∧ P y) l fun i hi => by
      have he := hel i hi
      rw [hc1, List.getElem?_eq_getElem (by omega), Option.bind_eq_some_iff] at he
      obtain ⟨cs, hcs, htr⟩ := he
      obtain ⟨_, hcl, hcc⟩ := World.cells?_some hcs
      obtain ⟨y, hy, hp⟩ := hone _ _ _ htr
      refine ⟨y, fun j u hu => ?_, hp⟩
      rw [← hy] at hu
      have hj : j < 1 := by rw [← hcl]; exact (List.getElem?_eq_some_iff.1 hu).1
      rw [hcc j hj]; exact hu
    refine ⟨some ad, cc, L, by rw [hcs, hL], by rw [hL]; exact hl, hm, by rw [hL]; exact hwt, fun h0 => ?_, fun y hy => ?_⟩
    · rw [List.length_map] at h0
      obtain ⟨b, o, s⟩ := ad
      obtain rfl : s = none := by
        have := (hP 0 h0).1 0 _ rfl
        simpa [Addr.add] using World.cell?_spot this
      refine ⟨b, o, rfl, fun i hi => ?_⟩
      rw [List.length_map] at hi
      have := (hP i hi).1 0 (V L[i]) rfl
      rw [Addr.add_mid, Addr.add_mid] at this
      simp only [Nat.mul_one, Nat.add_zero] at this
      rw [this, List.getElem?_map, List.getElem?_eq_getElem hi]
      rfl
    · obtain ⟨i, hi, rfl⟩ := List.getElem_of_mem hy
      exact (hP i hi).2

theorem open_num {H : Type} {enc : TypeId × Value → H} {W : World} (fuel : Nat) (cs : List Value) (x : DataW H × List MemPlace) (h : DataW.trod enc Try.prog W 0 (fun _ => true) true fuel 3 cs = some x) : ∃ y, cs = [Value.int .i64 y] ∧ i64P y := by
  obtain ⟨k, e0, y0, w0⟩ := DataW.trod_int Try.underlying3 h
  exact ⟨k, e0, wf_i64 w0⟩
theorem weights_of {H : Type} {P : Program} {ts : List TypeId} {ds : List (DataW H)} (hsz : (DataW.weightsEach P ts ds).all (· ≤ reachBytes) = true) {j : Nat} {t : TypeId} {d : DataW H} (ht : ts[j]? = some t) (hd : ds[j]? = some d) : ∀ m ∈ d.weights P t, m ≤ reachBytes := by
  intro m hm
  have := List.all_eq_true.1 hsz m (DataW.weights_mem_each ht hd m hm)
  simpa using this
set_option maxRecDepth 20000 in
theorem open_ints_val {H : Type} {enc : TypeId × Value → H} {W : World} {base : Nat} {v : Value} {d : DataW H} {p : List MemPlace} (hv : Value.okWide Try.prog W .any base 22 v)
    (h : DataW.Trod enc Try.prog W 0 (fun _ => true) true 22 v d p) {ts : List TypeId} {ds : List (DataW H)} (hsz : (DataW.weightsEach Try.prog ts ds).all (· ≤ reachBytes) = true) {j : Nat} (ht : ts[j]? = some 22) (hd : ds[j]? = some d) :
    ∃ (q : Option Addr) (n e : Nat) (zs : List Int), v = .slice q n e ∧ zs.length = n ∧ n ≤ 140737488355328 ∧ n ≤ e ∧ GRow W q (numZ zs) := by
  obtain ⟨fuel, hf⟩ := h
  have hcs : v.cells.toList = [v] := by
    obtain ⟨_, _, _, rfl⟩ := Go.WideShapes.okWide_slice Try.underlying22 hv
    rfl
  rw [hcs] at hf
  have hb3 : Try.prog.bytesOf 3 = 8 := by kernel_rfl
  obtain ⟨q, e, L, hv', hl, hm, hb, hr, -⟩ := opened1 (Value.int .i64) i64P Try.underlying22 (by kernel_rfl) open_num hf (weights_of hsz ht hd)
  rw [hb3] at hb
  simp only [reachBytes] at hb
  exact ⟨q, L.length, e, L, hv', rfl, by omega, hl, hr⟩
end Go.Proofs.Ytgblohjdiheemaa

/- Ours: what WatchParts says of lists: a view's count is Between's; parts add up; all views together. -/
namespace Go.Proofs.Ytgblohjdiheemaa
open Go.RowKit

def sumB {α : Type} (f : α → Nat) (l : List α) : Nat := (l.map f).sum
theorem sumB_nil {α : Type} (f : α → Nat) : sumB f [] = 0 := rfl
theorem sumB_cons {α : Type} (f : α → Nat) (x : α) (l : List α) : sumB f (x :: l) = f x + sumB f l := by simp only [sumB, List.map_cons, List.sum_cons]
theorem sumB_app {α : Type} (f : α → Nat) (l m : List α) : sumB f (l ++ m) = sumB f l + sumB f m := by
  induction l with
  | nil => simp [sumB_nil]
  | cons x l ih => rw [List.cons_append, sumB_cons, sumB_cons, ih]; omega
theorem sumB_add {α : Type} (f g : α → Nat) (l : List α) : sumB (fun x => f x + g x) l = sumB f l + sumB g l := by
  induction l with
  | nil => rfl
  | cons x l ih => rw [sumB_cons, sumB_cons, sumB_cons, ih]; omega
theorem sumB_zero {α : Type} (f : α → Nat) (l : List α) (h : ∀ x ∈ l, f x = 0) : sumB f l = 0 := by
  induction l with
  | nil => rfl
  | cons x l ih => rw [sumB_cons, h x List.mem_cons_self, ih (fun y hy => h y (List.mem_cons_of_mem _ hy))]
theorem sumB_same {α : Type} (f g : α → Nat) (l : List α) (h : ∀ x ∈ l, f x = g x) : sumB f l = sumB g l := by
  induction l with
  | nil => rfl
  | cons x l ih => rw [sumB_cons, sumB_cons, h x List.mem_cons_self, ih (fun y hy => h y (List.mem_cons_of_mem _ hy))]
theorem sumB_flat {α β : Type} (f : β → Nat) (g : α → List β) (l : List α) : sumB f (l.flatMap g) = sumB (fun x => sumB f (g x)) l := by
  induction l with
  | nil => rfl
  | cons x l ih => rw [List.flatMap_cons, sumB_app, sumB_cons, ih]
/-- an event at a place of a hart that tells of a site -/
def ind (h a : Int) (x : Fv) : Nat := if x.h = h ∧ x.p = a ∧ dd x ≠ 0 then 1 else 0
theorem cnt_ind (c : Option Int) (h a : Int) (L : List Fv) : (cntC c h a L).o + (cntC c h a L).n = sumB (ind h a) L := by
  suffices H : ∀ (L : List Fv) (v : Ct), (L.foldl (stepC c h a) v).o + (L.foldl (stepC c h a) v).n = v.o + v.n + sumB (ind h a) L by
    have := H L ⟨0, 0, false⟩
    simpa [cntC] using this
  intro L
  induction L with
  | nil => intro v; rfl
  | cons x L ih =>
    intro v
    rw [List.foldl_cons, ih, sumB_cons]
    unfold stepC ind
    split
    · split <;> dsimp only <;> omega
    · omega
theorem dd_cases (x : Fv) : dd x = 0 ∨ dd x = 1 ∨ dd x = 2 ∨ dd x = 3 := by
  unfold dd; split <;> (try split) <;> (try split) <;> simp
theorem btw_ind (h a : Int) (L : List Fv) : (btwL h a L).1 + (btwL h a L).2 = sumB (ind h a) L := by
  suffices H : ∀ (L : List Fv) (v : Nat × Nat), (L.foldl (btwStep h a) v).1 + (L.foldl (btwStep h a) v).2 = v.1 + v.2 + sumB (ind h a) L by
    have := H L (0, 0)
    simpa [btwL] using this
  intro L
  induction L with
  | nil => intro v; rfl
  | cons x L ih =>
    intro v
    rw [List.foldl_cons, ih, sumB_cons]
    unfold btwStep ind
    rcases dd_cases x with e | e | e | e <;> rw [e] <;> by_cases hx : x.h = h ∧ x.p = a <;> simp [hx] <;> try omega
    all_goals
      intro h1 h2
      exact absurd ⟨h1, h2⟩ hx
theorem btw_app (h a : Int) (L M : List Fv) : (btwL h a (L ++ M)).1 = (btwL h a L).1 + (btwL h a M).1 ∧ (btwL h a (L ++ M)).2 = (btwL h a L).2 + (btwL h a M).2 := by
  suffices H : ∀ (M : List Fv) (v : Nat × Nat), (M.foldl (btwStep h a) v).1 = v.1 + (M.foldl (btwStep h a) (0, 0)).1 ∧ (M.foldl (btwStep h a) v).2 = v.2 + (M.foldl (btwStep h a) (0, 0)).2 by
    have := H M (btwL h a L)
    unfold btwL at *
    rw [List.foldl_append]
    exact this
  intro M
  induction M with
  | nil => intro v; exact ⟨rfl, rfl⟩
  | cons x M ih =>
    intro v
    rw [List.foldl_cons, List.foldl_cons]
    have h1 := ih (btwStep h a v x)
    have h2 := ih (btwStep h a (0, 0) x)
    have h3 : (btwStep h a v x).1 = v.1 + (btwStep h a (0, 0) x).1 ∧ (btwStep h a v x).2 = v.2 + (btwStep h a (0, 0) x).2 := by
      unfold btwStep
      split
      · split
        · exact ⟨by omega, by omega⟩
        · split
          · exact ⟨by omega, by omega⟩
          · exact ⟨by omega, by omega⟩
      · exact ⟨by omega, by omega⟩
    omega
theorem part_all (L : List Fv) : partL L 0 (L.length : Int) = L := by
  unfold partL
  rw [Int.toNat_natCast, List.take_length]; rfl
theorem part_take (L : List Fv) (k : Nat) : partL (L.take k) 0 (k : Int) = L.take k := by
  unfold partL
  rw [Int.toNat_natCast, List.take_take, Nat.min_self]; rfl
theorem part_drop (L : List Fv) (k : Nat) : partL L (k : Int) (L.length : Int) = L.drop k := by
  unfold partL
  rw [Int.toNat_natCast, Int.toNat_natCast, List.take_length]
/-- what the law counts of an event: sites there -/
def hit (x : Fv) (s : Si) : Nat := if x.p = s.at_ ∧ dd x ≠ 0 then 1 else 0
def allL (si : List Si) (L : List Fv) : Nat := sumB (fun x => sumB (hit x) si) L
theorem one_hart (x : Fv) (si : List Si) : ∀ (H : List Int), H.Nodup → x.h ∈ H → sumB (fun h => sumB (fun s => ind h s.at_ x) si) H = sumB (hit x) si
  | [], _, h => by cases h
  | y :: H, hn, h => by
    obtain ⟨h1, h2⟩ := List.nodup_cons.1 hn
    rw [sumB_cons]
    by_cases e : x.h = y
    · subst e
      rw [sumB_zero (fun h => sumB (fun s => ind h s.at_ x) si) H fun z hz => sumB_zero _ _ fun s _ => by
        unfold ind
        rw [if_neg]
        rintro ⟨e, _⟩
        exact h1 (e ▸ hz)]
      rw [Nat.add_zero]
      refine sumB_same _ _ _ fun s _ => ?_
      unfold ind hit
      by_cases h3 : x.p = s.at_ ∧ dd x ≠ 0
      · rw [if_pos ⟨rfl, h3⟩, if_pos h3]
      · rw [if_neg (fun h => h3 h.2), if_neg h3]
    · rw [sumB_zero (fun s => ind y s.at_ x) si fun s _ => by
        unfold ind
        rw [if_neg]
        rintro ⟨e', _⟩
        exact e e', Nat.zero_add]
      exact one_hart x si H h2 ((List.mem_cons.1 h).resolve_left e)
theorem all_harts (si : List Si) (H : List Int) (hn : H.Nodup) : ∀ (L : List Fv), (∀ x ∈ L, x.h ∈ H) → sumB (fun h => sumB (fun s => sumB (ind h s.at_) L) si) H = allL si L
  | [], _ => sumB_zero _ _ fun h _ => sumB_zero _ _ fun s _ => rfl
  | x :: L, h => by
    have ih := all_harts si H hn L fun y hy => h y (List.mem_cons_of_mem _ hy)
    have e1 := one_hart x si H hn (h x List.mem_cons_self)
    unfold allL at *
    rw [sumB_cons, ← e1, ← ih, ← sumB_add]
    refine sumB_same _ _ _ fun z _ => ?_
    rw [← sumB_add]
    exact sumB_same _ _ _ fun s _ => sumB_cons _ _ _
/-- a view's count -/
def vN (v : Vw) : Nat := v.o.toNat + v.n.toNat
theorem range_si (f : Si → Nat) (si : List Si) : sumB (fun i => f (si.getD i default)) (List.range si.length) = sumB f si := by
  unfold sumB
  congr 1
  refine List.ext_getElem (by simp) fun i h1 h2 => ?_
  simp only [List.length_map] at h2
  simp [List.getElem?_eq_getElem h2]
theorem sumB_filter {α β : Type} (f : β → Nat) (g : α → Option β) (k : α → Nat) (h : ∀ x, (g x).elim 0 f = k x) : ∀ l : List α, sumB f (l.filterMap g) = sumB k l
  | [] => rfl
  | x :: l => by
    have ih := sumB_filter f g k h l
    rw [sumB_cons, ← ih, ← h x]
    cases e : g x with
    | none => rw [List.filterMap_cons_none e]; simp
    | some y => rw [List.filterMap_cons_some e, sumB_cons]; rfl
theorem row_sum (si : List Si) (L : List Fv) (h : Int) : sumB vN (rowV si L h) = sumB (fun s => sumB (ind h s.at_) L) si := by
  unfold rowV
  rw [sumB_filter vN _ (fun i => sumB (ind h (si.getD i default).at_) L)]
  · exact range_si (fun s => sumB (ind h s.at_) L) si
  · intro i
    have e := cnt_ind (callL L (si.getD i default).key) h (si.getD i default).at_ L
    rw [← e]
    show Option.elim _ _ _ = (ctS si L h i).o + (ctS si L h i).n
    split
    · show ((ctS si L h i).o : Int).toNat + ((ctS si L h i).n : Int).toNat = _
      omega
    · show 0 = _
      omega
/-- all views together -/
theorem views_sum (si : List Si) (L : List Fv) : sumB vN (viewsL si L) = allL si L := by
  unfold viewsL
  rw [sumB_flat, ← all_harts si (hartsL L) ((hartsL_rise L).imp (fun h => Int.ne_of_lt h)) L (fun x hx => (hartsL_mem L x.h).2 ⟨x, hx, rfl⟩)]
  exact sumB_same _ _ _ fun h _ => row_sum si L h
/-- what each view is -/
theorem views_at (si : List Si) (L : List Fv) (v : Vw) (hv : v ∈ viewsL si L) : ∃ h i, i < si.length ∧ v = vw1 si L h i ∧ 0 < (ctS si L h i).o + (ctS si L h i).n := by
  obtain ⟨h, -, hv⟩ := List.mem_flatMap.1 hv
  obtain ⟨i, hi, hs⟩ := List.mem_filterMap.1 hv
  split at hs
  · rename_i h0
    injection hs with hs
    exact ⟨h, i, List.mem_range.1 hi, hs.symm, h0⟩
  · cases hs
/-- they rise -/
theorem views_rise (si : List Si) (L : List Fv) : (viewsL si L).Pairwise fun a b => a.h < b.h ∨ a.h = b.h ∧ a.s < b.s := by
  have hrow : ∀ h, ∀ v ∈ rowV si L h, v.h = h := fun h v hv => by
    obtain ⟨i, -, hs⟩ := List.mem_filterMap.1 hv
    split at hs
    · injection hs with hs; rw [← hs]; rfl
    · cases hs
  unfold viewsL
  refine List.pairwise_flatMap.2 ⟨fun h _ => ?_, (hartsL_rise L).imp fun {a b} hab x hx y hy => .inl (by rw [hrow a x hx, hrow b y hy]; exact hab)⟩
  unfold rowV
  refine List.pairwise_filterMap.2 (List.pairwise_lt_range.imp fun {i j} hij v hv u hu => ?_)
  split at hv
  · split at hu
    · injection hv with hv; injection hu with hu
      rw [← hv, ← hu]
      exact .inr ⟨rfl, by show (i : Int) < j; omega⟩
    · cases hu
  · cases hv
theorem cntC_mixed (c : Option Int) (h a : Int) (L : List Fv) : (cntC c h a L).m = true → 0 < (cntC c h a L).o ∧ 0 < (cntC c h a L).n := by
  suffices H : ∀ (L : List Fv) (v : Ct), (v.m = true → 0 < v.o ∧ 0 < v.n) → (L.foldl (stepC c h a) v).m = true → 0 < (L.foldl (stepC c h a) v).o ∧ 0 < (L.foldl (stepC c h a) v).n from H L ⟨0, 0, false⟩ (fun e => by cases e)
  intro L
  induction L with
  | nil => intro v hv; exact hv
  | cons x L ih =>
    intro v hv
    rw [List.foldl_cons]
    refine ih _ ?_
    unfold stepC
    split
    · split
      · intro e
        have := hv e
        exact ⟨this.1, Nat.succ_pos _⟩
      · intro e
        dsimp only at e ⊢
        refine ⟨Nat.succ_pos _, ?_⟩
        cases hm : v.m with
        | true => exact (hv hm).2
        | false => rw [hm] at e; simpa using e
    · exact hv
theorem outs_app (L M : List Fv) (h : Int) : outsL (L ++ M) h = outsL L h ++ outsL M h := by unfold outsL; exact List.filterMap_append
end Go.Proofs.Ytgblohjdiheemaa

/- Ours: switchyardlaw23's six events, awake. -/
namespace Go.Proofs.Ytgblohjdiheemaa
open Go.RowKit Go.Maps

def sixL : List Fv := [⟨8, 0, 0, 0, 0, 0, 1⟩, ⟨2, 0, 1, 8, 3, 0, 0⟩, ⟨3, 0, 1, 8, 0, 0, 0⟩, ⟨2, 0, 1, 8, 11, 0, 0⟩, ⟨5, 0, 1, 0, 0, 0, 7⟩, ⟨2, 0, 0, 8, 3, 0, 0⟩]
theorem elemE : ElemK fE 23 43 56 := ⟨Try.underlying23, .agg #[.int .u8 0, .int .i64 0, .int .i64 0, .int .i64 0, .int .u8 0, .int .i64 0, .int .i64 0], rfl, by kernel_rfl⟩
/-- a literal list -/
theorem KOwn.lit {α : Type} {F : Fm α} {T : TypeId} (w : World) (L : List α) (A : Array Value) (n : Nat) (hn : L.length = n) (hA : A.toList = F.cs L) (hm : n ≤ 1048576) : KOwn F T (w.alloc (.cells A T)) w.heap.size (.slice (Option.some ⟨w.heap.size, 0, Option.none⟩) n n) L := by
  subst hn
  refine ⟨by rw [F.cs_len], .inr ⟨w.heap.size, L.length, A, rfl, Nat.le_refl _, Blk.new w T A, Nat.le_refl _, Nat.le_trans hm (Nat.le_of_lt small_maxLen |> Nat.le_trans (by decide)), ?_, ?_⟩⟩
  · rw [← Array.length_toList, hA, F.cs_len]
  · rw [List.take_of_length_le (by rw [hA, F.cs_len]; exact Nat.le_refl _), hA]
theorem KRow.lit {α : Type} {F : Fm α} {T : TypeId} (w : World) (L : List α) (A : Array Value) (hA : A.toList = F.cs L) (hm : L.length ≤ 1048576) : KRow F (w.alloc (.cells A T)) (some ⟨w.heap.size, 0, none⟩) L := by
  obtain ⟨p, c, e, -, -, h⟩ := (KOwn.lit (T := T) w L A _ rfl hA hm).row
  injection e with e _ _
  rw [e]
  exact h
set_option maxRecDepth 20000 in
set_option maxHeartbeats 4000000 in
theorem six_any (w : World) : Calls Try.prog 13 #[] w fun e w' => ∃ p, e = .returned (.slice p 6 6) ∧ KOwn fE 43 w' w.heap.size (.slice p 6 6) sixL ∧ KRow fE w' p sixL ∧ Below w.heap.size w w' := by
  go_enter Try.func13, Try.ntmps13
  go_wp2_with fail
  go_ret
  exact ⟨_, rfl, KOwn.lit w sixL _ 6 rfl rfl (by decide), KRow.lit w sixL _ rfl (by decide), new_alloc _ _⟩
theorem six_ok : ∀ x ∈ sixL, FvOk x := by
  intro x hx
  unfold sixL at hx
  simp only [List.mem_cons, List.not_mem_nil, or_false] at hx
  rcases hx with rfl | rfl | rfl | rfl | rfl | rfl <;> exact ⟨by unfold i64P; decide, by unfold i64P; decide, by unfold i64P; decide, by unfold i64P; decide⟩
theorem KRow.drew {α : Type} {F : Fm α} {w : World} {p : Option Addr} {L : List α} (h : KRow F w p L) : KRow F w.drew p L := h
theorem ex_btw : btwL 1 8 (partL sixL 0 100) = (1, 2) := by kernel_rfl
theorem ex_outs : outsL sixL 1 = [7] := by kernel_rfl
theorem ex_views : viewsA (imM [0]) sixL = [⟨0, 0, 1, 0, false⟩, ⟨1, 0, 1, 2, false⟩] := by kernel_rfl
set_option maxRecDepth 20000 in
set_option maxHeartbeats 8000000 in
theorem awake_any (w : World) : Calls Try.prog 5 #[] w fun e w' => e = .returned (.bool true) ∧ Below w.heap.size w w' := by
  have hz : GRow (w.alloc (.cells #[.int .i64 0] 3)) (some ⟨w.heap.size, 0, none⟩) (numZ [0]) := fun _ => ⟨w.heap.size, 0, rfl, fun i hi => by
    have hi : i < 1 := hi
    obtain rfl : i = 0 := by omega
    exact (Blk.new w 3 #[.int .i64 0]).cell 0⟩
  have hI := image_any (some ⟨w.heap.size, 0, none⟩) 1 1 [0] (w.alloc (.cells #[.int .i64 0] 3)) rfl (by decide) (Nat.le_refl _) hz
  have HB0 := Hid.in (new_alloc w (.cells #[.int .i64 0] 3))
  have HSX : Hid (∀ W : World, Calls Try.prog 13 #[] W _) := fun W => six_any W
  clear hz
  go_enter Try.func5, Try.ntmps5
  go_wp2_with (go_at_call 6; refine Hid.out ?_)
  generalize w.alloc (.cells #[.int .i64 0] 3) = w0 at *
  refine Lib.hid ?_
  (with_reducible refine hI.mono ?_)
  rintro e w1 ⟨vB, vK, vS, vU, rfl, ho, hb⟩
  have HB1 := Hid.in (below_step HB0.out hb)
  obtain ⟨qb, qk, qs, qu, db, dk, ds, du, rfl, rfl, rfl, rfl, hin, -⟩ := ho.inOk (imM_ok [0] (by decide)) (imM_byt [0])
  have HI1 := Hid.in hin
  clear hI ho hb hin HB0
  go_upto_region 2 with fail
  have HA2 := Hid.in (Blk.new w1 29 #[.slice qb (imM [0]).bs.length db, .slice qk (imM [0]).ks.length dk, .slice qs (imM [0]).si.length ds, .slice qu (imM [0]).un.length du])
  have HB2 := Hid.in (below_alloc HB1.out (.cells #[.slice qb (imM [0]).bs.length db, .slice qk (imM [0]).ks.length dk, .slice qs (imM [0]).si.length ds, .slice qu (imM [0]).un.length du] 29))
  have HI2 := Hid.in (HI1.out.below (new_alloc w1 (.cells #[.slice qb (imM [0]).bs.length db, .slice qk (imM [0]).ks.length dk, .slice qs (imM [0]).si.length ds, .slice qu (imM [0]).un.length du] 29)))
  generalize w1.alloc (.cells #[.slice qb (imM [0]).bs.length db, .slice qk (imM [0]).ks.length dk, .slice qs (imM [0]).si.length ds, .slice qu (imM [0]).un.length du] 29) = w2 at *
  clear HI1
  have hs := HSX.out w2
  go_wp2_with (go_at_call 13; refine Hid.out ?_)
  refine Lib.hid ?_
  (with_reducible refine hs.mono ?_)
  rintro e w3 ⟨p3, rfl, ho3, hr3, hb⟩
  have HB3 := Hid.in (below_step HB2.out hb)
  have HA3 := Hid.in (HA2.out.grow hb)
  have HI3 := Hid.in (HI2.out.below hb)
  have hbt := between_any p3 6 6 sixL 1 8 0 100 w3 rfl (by decide) hr3
  rw [ex_btw] at hbt
  clear hs hb ho3 hr3 HB2 HA2 HI2
  go_wp2_with (go_at_call 9; refine Hid.out ?_)
  refine Lib.hid ?_
  (with_reducible refine hbt.mono ?_)
  rintro e w4 ⟨rfl, hb⟩
  have HB4 := Hid.in (below_step HB3.out hb)
  have HA4 := Hid.in (HA3.out.grow hb)
  have HI4 := Hid.in (HI3.out.below hb)
  clear hbt hb HB3 HA3 HI3
  go_upto_region 3 with fail
  have a0 : w4.cell? ⟨w1.heap.size, 0, none⟩ = some (.slice qb (imM [0]).bs.length db) := HA4.out.cell 0
  have a1 : w4.cell? ⟨w1.heap.size, 1, none⟩ = some (.slice qk (imM [0]).ks.length dk) := HA4.out.cell 1
  have a2 : w4.cell? ⟨w1.heap.size, 2, none⟩ = some (.slice qs (imM [0]).si.length ds) := HA4.out.cell 2
  have a3 : w4.cell? ⟨w1.heap.size, 3, none⟩ = some (.slice qu (imM [0]).un.length du) := HA4.out.cell 3
  have HVW := Hid.in (fun (W : World) (p : Option Addr) (hi : ImIn W (imM [0]) qb qk qs qu (imM [0]).bs.length db (imM [0]).ks.length dk (imM [0]).si.length ds (imM [0]).un.length du) (hr : KRow fE W p sixL) => views_any (imM [0]) qb qk qs qu (imM [0]).bs.length db (imM [0]).ks.length dk (imM [0]).si.length ds (imM [0]).un.length du p 6 6 sixL W hi rfl (by decide) hr six_ok)
  rw [ex_views] at HVW
  have HOU := Hid.in (fun (W : World) (p : Option Addr) (hr : KRow fE W p sixL) => outs_any p 6 6 sixL 1 W rfl (by decide) hr)
  rw [ex_outs] at HOU
  have HSV := Hid.in (fun (W : World) (p q : Option Addr) c d h1 h2 => sameViews_self p q 2 c d [⟨0, 0, 1, 0, false⟩, ⟨1, 0, 1, 2, false⟩] W rfl (by decide) h1 h2)
  have HSP := Hid.in (fun (W : World) (p q : Option Addr) c d h1 h2 => samePlaces_self p q 1 c d [7] W rfl (by decide) h1 h2)
  have HLV := Hid.in (fun (W : World) (q : Nat) (hq : W.heap.size = q) => hq ▸ KRow.lit (F := fW) (T := 35) W [⟨0, 0, 1, 0, false⟩, ⟨1, 0, 1, 2, false⟩] #[.int .i64 0, .int .i64 0, .int .i64 1, .int .i64 0, .bool false, .int .i64 1, .int .i64 0, .int .i64 1, .int .i64 2, .bool false] rfl (by decide))
  have HLP := Hid.in (fun (W : World) (q : Nat) (hq : W.heap.size = q) => hq ▸ KRow.lit (F := fU) (T := 55) W [7] #[.int .u32 7] rfl (by decide))
  have HI5 : Hid (∀ W : World, Below w4.heap.size w4 W → ImIn W (imM [0]) qb qk qs qu (imM [0]).bs.length db (imM [0]).ks.length dk (imM [0]).si.length ds (imM [0]).un.length du) := fun W hW => HI4.out.below hW
  have HSK : Hid (∀ W W' : World, (W.cell? ⟨w1.heap.size, 0, none⟩ = some (.slice qb (imM [0]).bs.length db) ∧ W.cell? ⟨w1.heap.size, 1, none⟩ = some (.slice qk (imM [0]).ks.length dk) ∧ W.cell? ⟨w1.heap.size, 2, none⟩ = some (.slice qs (imM [0]).si.length ds) ∧ W.cell? ⟨w1.heap.size, 3, none⟩ = some (.slice qu (imM [0]).un.length du) ∧ Below w4.heap.size w4 W) → Below W.heap.size W W' → (W'.cell? ⟨w1.heap.size, 0, none⟩ = some (.slice qb (imM [0]).bs.length db) ∧ W'.cell? ⟨w1.heap.size, 1, none⟩ = some (.slice qk (imM [0]).ks.length dk) ∧ W'.cell? ⟨w1.heap.size, 2, none⟩ = some (.slice qs (imM [0]).si.length ds) ∧ W'.cell? ⟨w1.heap.size, 3, none⟩ = some (.slice qu (imM [0]).un.length du) ∧ Below w4.heap.size w4 W')) := by
    intro W W' ⟨h0, h1, h2, h3, hB⟩ hb
    exact ⟨(hb.cell (cell_lt h0)).trans h0, (hb.cell (cell_lt h1)).trans h1, (hb.cell (cell_lt h2)).trans h2, (hb.cell (cell_lt h3)).trans h3, below_step hB hb⟩
  have hI0 : Below w4.heap.size w4 w4.drew := below_draws (Below.refl _ _) 1
  have t1 : ((1 : Int) == 1) = true := rfl
  go_region_held3 (fun W => (W.cell? ⟨w1.heap.size, 0, none⟩ = some (.slice qb (imM [0]).bs.length db) ∧ W.cell? ⟨w1.heap.size, 1, none⟩ = some (.slice qk (imM [0]).ks.length dk) ∧ W.cell? ⟨w1.heap.size, 2, none⟩ = some (.slice qs (imM [0]).si.length ds) ∧ W.cell? ⟨w1.heap.size, 3, none⟩ = some (.slice qu (imM [0]).un.length du) ∧ Below w4.heap.size w4 W))
    (first | assumption | (exact HSK.out _ _ (by assumption) (new_alloc _ _)) | (exact HSK.out _ _ (by assumption) (below_draws (below_self _) _)) | (refine ⟨?_, ?_, ?_, ?_, ?_⟩ <;> assumption) | go_keep)
    (first
      | (go_at_call 13; refine (HSX.out _).mono ?_; rintro e w7 ⟨p7, rfl, ho7, hr7, hb7⟩; have hk7 := HSK.out _ _ (by assumption) hb7; clear ho7)
      | (go_at_call 8; refine (HVW.out _ _ (HI5.out _ (And.right (And.right (And.right (And.right (by assumption)))))) (by first | exact hr7 | exact hr7.below (new_alloc _ _))).mono ?_; rintro e w9 ⟨v9, rfl, ho9, hb9⟩; have hk9 := HSK.out _ _ (by assumption) hb9; obtain ⟨p9, c9, rfl, -, -, hr9⟩ := ho9.row; clear ho9)
      | (go_at_call 10; refine (HOU.out _ _ (by first | exact hr7 | exact hr7.below (new_alloc _ _))).mono ?_; rintro e wo ⟨vo, rfl, hoo, hbo⟩; have hko := HSK.out _ _ (by assumption) hbo; obtain ⟨po, co, rfl, -, -, hro⟩ := hoo.row; clear hoo)
      | (go_at_call 11; refine (HSP.out _ _ _ _ _ (by first | exact hro | exact hro.below (new_alloc _ _)) (by first | exact HLP.out _ _ (by simp) | exact (HLP.out _ _ (by simp)).below hbo | exact ((HLP.out _ _ (by simp)).below hb7).below hbo | exact ((HLP.out _ _ (by simp)).drew.below hb7).below hbo)).mono ?_; rintro e wl ⟨rfl, ml, rfl⟩; have hkl := HSK.out _ _ (by assumption) (below_draws (below_self _) ml))
      | (go_at_call 14; refine (HSV.out _ _ _ _ _ (by first | exact hr9 | exact hr9.below (new_alloc _ _)) (by first | exact HLV.out _ _ (by simp) | exact (HLV.out _ _ (by simp)).below hb9 | exact ((HLV.out _ _ (by simp)).below hb7).below hb9 | exact ((HLV.out _ _ (by simp)).drew.below hb7).below hb9)).mono ?_; rintro e w8 ⟨rfl, m8, rfl⟩; have hk8 := HSK.out _ _ (by assumption) (below_draws (below_self _) m8)))
  all_goals
    have hBZ := below_step HB4.out (And.right (And.right (And.right (And.right hkl))))
    go_wp2_with fail
    go_ret
    exact ⟨rfl, hBZ⟩
end Go.Proofs.Ytgblohjdiheemaa
