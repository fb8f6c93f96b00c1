/- Texts put together: WatG, Kit3, Cpy3, CpyU, IRgK, IRgQ. -/
import Derived.Test.YtgblohjdiheemaaGreatKak
import Derived.Test.YtgblohjdiheemaaGreatKah
import Derived.Test.YtgblohjdiheemaaGreatKal
import Derived.Test.YtgblohjdiheemaaGreatKad
import Derived.Test.YtgblohjdiheemaaGreatKae
import Derived.BigQuiet
import Derived.Deep.QuietTactic
import Derived.Test.YtgblohjdiheemaaGreatKaf
import Derived.Deep.RegionHeld3
import Derived.Test.YtgblohjdiheemaaGreatKab

/- Ours: what Views tells, as lists: its map, event by event; its order. -/
namespace Go.Proofs.YtgblohjdiheemaaGreat
open Go.RowKit

/-- the count of a hart at a site in a part of the list -/
def ctJ (si : List Si) (L M : List Fv) (h : Int) (i : Nat) : Ct := cntC (callL L (si.getD i default).key) h (si.getD i default).at_ M
def vwF (si : List Si) (L M : List Fv) (k : Vi) : Option Vw :=
  if 0 ≤ k.s ∧ k.s < si.length ∧ 0 < (ctJ si L M k.h k.s.toNat).o + (ctJ si L M k.h k.s.toNat).n then some ⟨0, 0, (ctJ si L M k.h k.s.toNat).o, (ctJ si L M k.h k.s.toNat).n, (ctJ si L M k.h k.s.toNat).m⟩ else none
theorem vwF_nil (si : List Si) (L : List Fv) : vwF si L [] = fun _ => none := by
  funext k
  unfold vwF
  rw [if_neg]
  rintro ⟨_, _, h⟩
  exact absurd h (by simp [ctJ, cntC])
/-- no two sites at one place -/
def AtOne (si : List Si) : Prop := ∀ i j, i < si.length → j < si.length → (si.getD i default).at_ = (si.getD j default).at_ → i = j
theorem ctJ_skip {si : List Si} {L M : List Fv} {x : Fv} {h : Int} {i : Nat} (hx : ¬ (x.h = h ∧ x.p = (si.getD i default).at_ ∧ dd x ≠ 0)) : ctJ si L (M ++ [x]) h i = ctJ si L M h i := by
  unfold ctJ
  rw [cntC_snoc]
  unfold stepC
  rw [if_neg hx]
theorem vwF_skip {si : List Si} {L M : List Fv} {x : Fv} (hx : dd x = 0 ∨ ∀ i, i < si.length → (si.getD i default).at_ ≠ x.p) : vwF si L (M ++ [x]) = vwF si L M := by
  funext k
  unfold vwF
  by_cases h : 0 ≤ k.s ∧ k.s < si.length
  · have e : ctJ si L (M ++ [x]) k.h k.s.toNat = ctJ si L M k.h k.s.toNat := ctJ_skip (by
      rintro ⟨_, h2, h3⟩
      rcases hx with h4 | h4
      · exact h3 h4
      · exact h4 _ (by omega) h2.symm)
    rw [e]
  · rw [if_neg (by rintro ⟨a, b, _⟩; exact h ⟨a, b⟩), if_neg (by rintro ⟨a, b, _⟩; exact h ⟨a, b⟩)]
theorem cntC_zero (c : Option Int) (h a : Int) (L : List Fv) : (cntC c h a L).m = true → 0 < (cntC c h a L).o := by
  suffices H : ∀ (L : List Fv) (v : Ct), (v.m = true → 0 < v.o) → (L.foldl (stepC c h a) v).m = true → 0 < (L.foldl (stepC c h a) v).o from H L ⟨0, 0, false⟩ (fun e => by cases e)
  intro L
  induction L with
  | nil => intro v hv; exact hv
  | cons x L ih =>
    intro v hv
    rw [List.foldl_cons]
    refine ih _ ?_
    unfold stepC
    split
    · split
      · exact hv
      · intro _; exact Nat.succ_pos _
    · exact hv
def ctV (c : Ct) : Vw := ⟨0, 0, c.o, c.n, c.m⟩
theorem vwF_get (si : List Si) (L M : List Fv) (h : Int) (i : Nat) (hi : i < si.length) : (vwF si L M ⟨h, i⟩).getD ⟨0, 0, 0, 0, false⟩ = ctV (ctJ si L M h i) := by
  unfold vwF
  dsimp only
  rw [Int.toNat_natCast]
  have hz := cntC_zero (callL L (si.getD i default).key) h (si.getD i default).at_ M
  by_cases h0 : 0 < (ctJ si L M h i).o + (ctJ si L M h i).n
  · rw [if_pos ⟨by omega, by omega, h0⟩]
    rfl
  · rw [if_neg (by rintro ⟨_, _, h1⟩; exact h0 h1)]
    rw [Option.getD_none]
    have hz : (ctJ si L M h i).m = true → 0 < (ctJ si L M h i).o := hz
    generalize ctJ si L M h i = c at *
    obtain ⟨co, cn, cm⟩ := c
    dsimp only at *
    have e1 : co = 0 := by omega
    have e2 : cn = 0 := by omega
    subst e1 e2
    cases cm
    · rfl
    · exact absurd (hz rfl) (by omega)
theorem with_ct (c : Ct) (b : Bool) : withV (ctV c) b = ctV (if b then { c with n := c.n + 1 } else { c with o := c.o + 1, m := c.m || decide (0 < c.n) }) := by
  obtain ⟨o, n, m⟩ := c
  cases b with
  | true => simp [withV, ctV]
  | false => simp [withV, ctV]
theorem vwF_put {si : List Si} {L M : List Fv} {x : Fv} (ha : AtOne si) (hd : dd x ≠ 0) (i : Nat) (hi : i < si.length) (hp : (si.getD i default).at_ = x.p) :
    upd (vwF si L M) ⟨x.h, i⟩ (withV ((vwF si L M ⟨x.h, i⟩).getD ⟨0, 0, 0, 0, false⟩) (nwB (callL L (si.getD i default).key) (dd x))) = vwF si L (M ++ [x]) := by
  funext k
  by_cases e : k = ⟨x.h, (i : Int)⟩
  · subst e
    rw [upd_same, vwF_get si L M x.h i hi, with_ct]
    have hs : ctJ si L (M ++ [x]) x.h i = stepC (callL L (si.getD i default).key) x.h (si.getD i default).at_ (ctJ si L M x.h i) x := by unfold ctJ; rw [cntC_snoc]
    have hs2 : stepC (callL L (si.getD i default).key) x.h (si.getD i default).at_ (ctJ si L M x.h i) x = (if nwB (callL L (si.getD i default).key) (dd x) then { ctJ si L M x.h i with n := (ctJ si L M x.h i).n + 1 } else { ctJ si L M x.h i with o := (ctJ si L M x.h i).o + 1, m := (ctJ si L M x.h i).m || decide (0 < (ctJ si L M x.h i).n) }) := by
      unfold stepC
      rw [if_pos ⟨rfl, hp.symm, hd⟩]
    rw [hs2] at hs
    rw [← hs]
    unfold vwF
    dsimp only
    rw [Int.toNat_natCast]
    have h0 : 0 < (ctJ si L (M ++ [x]) x.h i).o + (ctJ si L (M ++ [x]) x.h i).n := by rw [hs]; split <;> simp <;> omega
    rw [if_pos ⟨by omega, by omega, h0⟩]
    rfl
  · rw [upd_other _ _ e]
    by_cases h : 0 ≤ k.s ∧ k.s < si.length
    · have e2 : ctJ si L (M ++ [x]) k.h k.s.toNat = ctJ si L M k.h k.s.toNat := ctJ_skip (by
        rintro ⟨h1, h2, _⟩
        have h4 := ha k.s.toNat i (by omega) hi (by rw [hp, h2])
        refine e ?_
        obtain ⟨kh, ks⟩ := k
        dsimp only at *
        rw [h1, ← h4, Int.toNat_of_nonneg h.1])
      unfold vwF
      rw [e2]
    · unfold vwF
      rw [if_neg (by rintro ⟨a, b, _⟩; exact h ⟨a, b⟩), if_neg (by rintro ⟨a, b, _⟩; exact h ⟨a, b⟩)]
theorem sorted_eq : ∀ (a b : List Vi), (a.Pairwise fun x y => ltV x y = true) → (b.Pairwise fun x y => ltV x y = true) → (∀ x, x ∈ a ↔ x ∈ b) → a = b
  | [], [], _, _, _ => rfl
  | [], y :: b, _, _, h => absurd ((h y).2 (by simp)) (by simp)
  | x :: a, [], _, _, h => absurd ((h x).1 (by simp)) (by simp)
  | x :: a, y :: b, ha, hb, h => by
    obtain ⟨a1, a2⟩ := List.pairwise_cons.1 ha
    obtain ⟨b1, b2⟩ := List.pairwise_cons.1 hb
    have hxy : x = y := by
      rcases List.mem_cons.1 ((h x).1 List.mem_cons_self) with e | h1
      · exact e
      · rcases List.mem_cons.1 ((h y).2 List.mem_cons_self) with e | h2
        · exact e.symm
        · have h3 := ltV_trans (b1 x h1) (a1 y h2)
          rw [ltV_irrefl] at h3
          cases h3
    subst hxy
    have := sorted_eq a b a2 b2 (fun z => by
      have hz := h z
      constructor
      · intro hza
        rcases List.mem_cons.1 (hz.1 (List.mem_cons_of_mem _ hza)) with e | e
        · subst e
          have := a1 z hza
          rw [ltV_irrefl] at this
          cases this
        · exact e
      · intro hzb
        rcases List.mem_cons.1 (hz.2 (List.mem_cons_of_mem _ hzb)) with e | e
        · subst e
          have := b1 z hzb
          rw [ltV_irrefl] at this
          cases this
        · exact e)
    rw [this]
/-- the keys in the reference's order -/
def rowK (si : List Si) (L : List Fv) (h : Int) : List Vi := (List.range si.length).filterMap fun i => if 0 < (ctS si L h i).o + (ctS si L h i).n then some ⟨h, i⟩ else none
def keysV (si : List Si) (L : List Fv) : List Vi := (hartsL L).flatMap (rowK si L)
theorem rowK_mem {si : List Si} {L : List Fv} {h : Int} {x : Vi} : x ∈ rowK si L h ↔ x.h = h ∧ ∃ i : Nat, i < si.length ∧ x.s = i ∧ 0 < (ctS si L h i).o + (ctS si L h i).n := by
  unfold rowK
  rw [List.mem_filterMap]
  constructor
  · rintro ⟨i, hi, e⟩
    split at e
    · rename_i hc
      injection e with e
      subst e
      exact ⟨rfl, i, List.mem_range.1 hi, rfl, hc⟩
    · cases e
  · rintro ⟨e, i, hi, e2, hc⟩
    refine ⟨i, List.mem_range.2 hi, ?_⟩
    rw [if_pos hc]
    obtain ⟨xh, xs⟩ := x
    dsimp only at *
    rw [e, e2]
theorem rowK_sorted (si : List Si) (L : List Fv) (h : Int) : (rowK si L h).Pairwise fun x y => ltV x y = true := by
  unfold rowK
  refine List.Pairwise.filterMap _ ?_ List.pairwise_lt_range
  intro i j hij b hb b' hb'
  split at hb
  · split at hb'
    · injection hb with hb
      injection hb' with hb'
      subst hb hb'
      unfold ltV
      simp only [decide_eq_true_eq]
      exact .inr ⟨trivial, by omega⟩
    · cases hb'
  · cases hb
theorem keysV_sorted (si : List Si) (L : List Fv) : (keysV si L).Pairwise fun x y => ltV x y = true := by
  unfold keysV
  refine List.pairwise_flatMap.2 ⟨fun h _ => rowK_sorted si L h, ?_⟩
  refine (hartsL_rise L).imp ?_
  intro a b hab x hx y hy
  have h1 := (rowK_mem.1 hx).1
  have h2 := (rowK_mem.1 hy).1
  unfold ltV
  simp only [decide_eq_true_eq]
  omega
theorem keysV_mem {si : List Si} {L : List Fv} {x : Vi} (hok : ∀ y ∈ L, FvOk y) (hn : si.length ≤ 1048576) : x ∈ keysV si L ↔ viOk x ∧ (vwF si L L x).isSome = true := by
  unfold keysV
  rw [List.mem_flatMap]
  constructor
  · rintro ⟨h, hh, hx⟩
    obtain ⟨e, i, hi, e2, hc⟩ := rowK_mem.1 hx
    obtain ⟨y, hy, ey⟩ := (hartsL_mem L h).1 hh
    obtain ⟨xh, xs⟩ := x
    dsimp only at *
    subst e e2
    refine ⟨⟨by rw [← ey]; exact (hok y hy).h, by show i64P (i : Int); unfold i64P; omega⟩, ?_⟩
    unfold vwF
    dsimp only
    rw [Int.toNat_natCast, if_pos ⟨by omega, by omega, hc⟩]
    rfl
  · rintro ⟨ok, hs⟩
    unfold vwF at hs
    split at hs
    · rename_i hc
      obtain ⟨h1, h2, h3⟩ := hc
      obtain ⟨y, hy, ey, _⟩ := cntC_pos h3
      exact ⟨x.h, (hartsL_mem L x.h).2 ⟨y, hy, ey⟩, rowK_mem.2 ⟨rfl, x.s.toNat, by omega, (Int.toNat_of_nonneg h1).symm, h3⟩⟩
    · cases hs
theorem keysV_map (si : List Si) (L : List Fv) : (keysV si L).map (whoV (vwF si L L)) = viewsL si L := by
  unfold keysV viewsL
  rw [List.map_flatMap]
  congr 1
  funext h
  unfold rowK rowV
  rw [List.map_filterMap]
  have : ∀ l : List Nat, (∀ i ∈ l, i < si.length) → l.filterMap (fun i => Option.map (whoV (vwF si L L)) (if 0 < (ctS si L h i).o + (ctS si L h i).n then some (⟨h, i⟩ : Vi) else none)) = l.filterMap (fun i => if 0 < (ctS si L h i).o + (ctS si L h i).n then some (vw1 si L h i) else none) := by
    intro l
    induction l with
    | nil => intro _; rfl
    | cons i l ih =>
      intro hl
      have hi := hl i List.mem_cons_self
      have ih := ih (fun j hj => hl j (List.mem_cons_of_mem _ hj))
      by_cases hc : 0 < (ctS si L h i).o + (ctS si L h i).n
      · rw [List.filterMap_cons_some (b := whoV (vwF si L L) ⟨h, i⟩) (by rw [if_pos hc]; rfl), List.filterMap_cons_some (b := vw1 si L h i) (by rw [if_pos hc]), ih]
        congr 1
        unfold whoV
        rw [vwF_get si L L h i hi]
        rfl
      · rw [List.filterMap_cons_none (by rw [if_neg hc]; rfl), List.filterMap_cons_none (by rw [if_neg hc]), ih]
  exact this _ (fun i hi => List.mem_range.1 hi)
/-- what is in the map, in order, is P23.1's list -/
theorem views_order {si : List Si} {L : List Fv} {ss : List Vi} (hok : ∀ y ∈ L, FvOk y) (hn : si.length ≤ 1048576) (hs : ss.Pairwise fun a b => ltV a b = true) (hm : ∀ x, x ∈ ss ↔ viOk x ∧ (vwF si L L x).isSome = true) : ss.map (whoV (vwF si L L)) = viewsL si L := by
  rw [sorted_eq ss (keysV si L) hs (keysV_sorted si L) (fun x => by rw [hm, keysV_mem hok hn]), keysV_map]
/-- the map by places -/
theorem sitM_some {si : List Si} : ∀ (j : Nat) (a z : Int), sitM si j a = some z → ∃ i : Nat, i < j ∧ z = i ∧ (si.getD i default).at_ = a
  | 0, a, z, h => by cases h
  | j + 1, a, z, h => by
    unfold sitM at h
    by_cases e : a = (si.getD j default).at_
    · rw [e, upd_same] at h
      injection h with h
      exact ⟨j, Nat.lt_succ_self _, h.symm, e.symm⟩
    · rw [upd_other _ _ e] at h
      obtain ⟨i, h1, h2, h3⟩ := sitM_some j a z h
      exact ⟨i, by omega, h2, h3⟩
theorem sitM_none {si : List Si} : ∀ (j : Nat) (a : Int), sitM si j a = none → ∀ i, i < j → (si.getD i default).at_ ≠ a
  | 0, _, _, i, hi => absurd hi (by omega)
  | j + 1, a, h, i, hi => by
    unfold sitM at h
    by_cases e : a = (si.getD j default).at_
    · rw [e, upd_same] at h
      cases h
    · rw [upd_other _ _ e] at h
      by_cases h2 : i = j
      · subst h2; exact fun e' => e e'.symm
      · exact sitM_none j a h i (by omega)
theorem okI_one {m : IM} (h : okI m = true) : AtOne m.si ∧ m.si.length ≤ 256 ∧ ∀ s ∈ m.si, i64P s.at_ ∧ i64P s.key := by
  obtain ⟨_, h2, _⟩ := okI_parts h
  unfold rightS at h2
  simp only [Bool.and_eq_true, decide_eq_true_eq] at h2
  obtain ⟨⟨⟨⟨_, h6, h7⟩, h8⟩, _⟩, h10⟩ := h2
  refine ⟨fun i j hi hj e => ?_, h7, fun s hs => ?_⟩
  · rw [List.getD_eq_getElem?_getD, List.getD_eq_getElem?_getD, List.getElem?_eq_getElem hi, List.getElem?_eq_getElem hj] at e
    simp only [Option.getD_some] at e
    rw [List.pairwise_iff_getElem] at h10
    by_cases hij : i = j
    · exact hij
    · exfalso
      rcases Nat.lt_or_gt_of_ne hij with hl | hl
      · exact h10 i j hi hj hl (by omega)
      · exact h10 j i hj hi hl (by omega)
  · rw [List.all_eq_true] at h8
    have := h8 s hs
    unfold siteB at this
    simp only [Bool.and_eq_true, decide_eq_true_eq] at this
    obtain ⟨⟨a, b, c, d, _⟩, _⟩ := this
    unfold i64P
    omega
end Go.Proofs.YtgblohjdiheemaaGreat

/- switchyardkit.SameSymbols, SameFixes, SameMarks; slices.Equal of symbols, fixes, marks. -/
namespace Go.Proofs.YtgblohjdiheemaaGreat
open Go.RowKit

theorem take_step {α : Type} {L M : List α} {k : Nat} (h : L.take k = M.take k) (h1 : k < L.length) (h2 : k < M.length) (e : L[k] = M[k]) : L.take (k + 1) = M.take (k + 1) := by
  rw [List.take_succ_eq_append_getElem h1, List.take_succ_eq_append_getElem h2, h, e]
theorem take_all {α : Type} {L M : List α} {k : Nat} (h : L.take k = M.take k) (h1 : L.length ≤ k) (h2 : M.length ≤ k) : L = M := by
  rw [← List.take_of_length_le h1, h, List.take_of_length_le h2]
theorem drewN_two (w : World) (a b : Nat) : (w.drewN a).drewN b = w.drewN (a + b) := by simp
theorem text_ne3 {s t : ByteArray} (h : ¬ s = t) : ¬ s.toList = t.toList := fun e => h (by rw [toList_eq, toList_eq] at e; exact ByteArray.ext (Array.toList_inj.1 e))

end Go.Proofs.YtgblohjdiheemaaGreat

/- switchyardkit.CopySymbols, CopyFixes, CopyMarks. -/
namespace Go.Proofs.YtgblohjdiheemaaGreat
open Go.RowKit

end Go.Proofs.YtgblohjdiheemaaGreat

/- switchyardkit.CopyObject, of lists as great as an argument may be. -/
namespace Go.Proofs.YtgblohjdiheemaaGreat
open Go.RowKit

abbrev noObj : Array Value := #[.slice none 0 0, .slice none 0 0, .slice none 0 0, .slice none 0 0]
theorem Tryz.sz121 : (Tryz.prog.info? 121).map (·.size) = some noObj.size := by kernel_rfl
theorem Blk.load {w : World} {g : Nat} {T : TypeId} {c : Array Value} (hB : Blk w g T c) (t : TypeId) (d : TypeDesc) (hu : Tryz.prog.underlying t = some d) (hd : d.isRow = true) (hi : (Tryz.prog.info? t).map (·.size) = some c.size) :
    (loadVar t ⟨g, 0, none⟩).run Tryz.prog w = .ok (.agg c) w := by
  have := run_loadVar_mid (P := Tryz.prog) w g 0 t c.toList d hB.range hu hd (by rw [hi, Array.length_toList])
  simpa using this
theorem TOwn.far {T : TypeId} {w : World} {B g : Nat} {v : Value} {L : List V3} (h : TOwn T w B v L) (hg : g < B) : v = .slice none 0 0 ∨ v.ownBlock ≠ some g := by
  rcases h.2 with ⟨e1, _⟩ | ⟨g', cap, cur, e1, e2, _⟩
  · exact .inl e1
  · refine .inr ?_
    rw [e1]
    simp only [Value.ownBlock]
    intro ee
    injection ee with ee
    have : g' = g := ee
    omega
theorem TOwn.lower {T : TypeId} {w : World} {B B' : Nat} {v : Value} {L : List V3} (h : TOwn T w B v L) (hB : B' ≤ B) : TOwn T w B' v L := by
  obtain ⟨h0, h1⟩ := h
  refine ⟨h0, h1.imp id ?_⟩
  rintro ⟨g, cap, cur, e1, e2, e3⟩
  exact ⟨g, cap, cur, e1, Nat.le_trans hB e2, e3⟩
/-- an object that a call has made: its lists in blocks of its own -/
structure ObOwn (w : World) (B : Nat) (o : Ob) (vb vs vf vm : Value) : Prop where
  b : OwnV w B vb o.bs
  s : TOwn 116 w B vs (o.sy.map syV)
  f : TOwn 142 w B vf (o.fx.map fxV)
  m : TOwn 145 w B vm (o.mk_.map mkV)
theorem ObOwn.below {w w' : World} {B : Nat} {o : Ob} {vb vs vf vm : Value} (h : ObOwn w B o vb vs vf vm) (hb : Below w.heap.size w w') : ObOwn w' B o vb vs vf vm := ⟨h.b.below hb, h.s.below hb, h.f.below hb, h.m.below hb⟩
theorem OwnV.low {w : World} {B B' : Nat} {v : Value} {xs : List Int} (h : OwnV w B v xs) (hB : B' ≤ B) : OwnV w B' v xs := by
  rcases h.shape with ⟨rfl, rfl⟩ | ⟨g, cap, rfl, ho⟩
  · exact OwnV.nil _ _
  · exact ho.lower hB
theorem ObOwn.lower {w : World} {B B' : Nat} {o : Ob} {vb vs vf vm : Value} (h : ObOwn w B o vb vs vf vm) (hB : B' ≤ B) : ObOwn w B' o vb vs vf vm := ⟨h.b.low hB, h.s.lower hB, h.f.lower hB, h.m.lower hB⟩
theorem OwnV.slice2 {w : World} {B : Nat} {v : Value} {xs : List Int} (h : OwnV w B v xs) : ∃ p cap, v = .slice p xs.length cap ∧ Row w p xs ∧ xs.length ≤ cap ∧ cap ≤ maxLen := by
  rcases h.shape with ⟨rfl, rfl⟩ | ⟨g, cap, rfl, ho⟩
  · exact ⟨none, 0, rfl, fun h => absurd h (Nat.lt_irrefl 0), Nat.le_refl _, Nat.zero_le _⟩
  · obtain ⟨cur, _, _, h3, h4, _⟩ := ho.parts
    exact ⟨_, cap, rfl, ho.row, h3, h4⟩
/-- .. seen as one in memory -/
theorem ObOwn.inn {w : World} {B : Nat} {o : Ob} {vb vs vf vm : Value} (h : ObOwn w B o vb vs vf vm) (hf : ObF o) :
    ∃ pb ps pf pm cb cs cf cm, (vb = .slice pb o.bs.length cb ∧ vs = .slice ps o.sy.length cs ∧ vf = .slice pf o.fx.length cf ∧ vm = .slice pm o.mk_.length cm) ∧ ObIn w o pb ps pf pm o.bs.length cb o.sy.length cs o.fx.length cf o.mk_.length cm := by
  obtain ⟨pb, cb, e1, r1, k1, m1⟩ := h.b.slice2
  obtain ⟨ps, cs, e2, k2, m2, r2⟩ := h.s.row3
  obtain ⟨pf, cf, e3, k3, m3, r3⟩ := h.f.row3
  obtain ⟨pm, cm, e4, k4, m4, r4⟩ := h.m.row3
  rw [List.length_map] at e2 k2 e3 k3 e4 k4
  exact ⟨pb, ps, pf, pm, cb, cs, cf, cm, ⟨e1, e2, e3, e4⟩, ⟨rfl, rfl, rfl, rfl, k1, m1, Nat.le_trans k2 m2, Nat.le_trans k3 m3, Nat.le_trans k4 m4, r1, r2, r3, r4, hf⟩⟩

theorem OwnV.keptFar {w w' : World} {B g : Nat} {v : Value} {xs : List Int} (h : OwnV w B v xs) (hg : w.grownBy w' (some g)) (hB : g < B) : OwnV w' B v xs := by
  rcases h.shape with ⟨rfl, rfl⟩ | ⟨g', cap, rfl, ho⟩
  · exact OwnV.nil _ _
  · refine World.ownsRow.kept h hg (.inr (fun e => ?_))
    have e' : some g' = some g := e
    injection e' with e'
    have := ho.base
    omega

/-- 'append(l, x)', as far as memory goes -/
theorem tpushV {ops : Array Oper} {rest : List Oper} {o : Oper} {a : Act} {Q : Exit → Act → World → Prop} {t T : TypeId} {by_ : Nat} (he : Elem3 t T by_) (w : World) (hgd : o.guard = none) (s x : Operand)
    (ho : o.op = .call { callee := .builtin .append, args := #[s, x], argTypes := #[t, t] }) (B : Nat) (v : Value) (L : List V3) (hs : a.eval s = v) (hown : TOwn T w B v L)
    (ad : Addr) (c : Nat) (q : V3) (hq : one3 q) (hx : a.eval x = .slice (some ad) 1 c) (hnews : ∀ j u, (l3 q)[j]? = some u → w.cell? (ad.add j) = some u)
    (hlen : L.length ≤ 4398046511000) (hby : (L.length + 1) * by_ ≤ 140737488355328) (hB : B ≤ w.heap.size)
    (h : ∀ v' w', TOwn T w' B v' (L ++ [q]) → w.grownBy w' v.ownBlock → (∀ w0, Below B w0 w → Below B w0 w') → wpList Tryz.prog ops Q rest (a.put o.dst v') w') :
    wpList Tryz.prog ops Q (o :: rest) a w := by
  obtain ⟨hu, z, hzc, hinfo⟩ := he
  obtain ⟨i0, hi, hz0, hz1, hz2⟩ := info_parts hinfo
  refine wpList_append_own w hgd s x t ho B T i0 z 3 by_ hu hi hz0 hz1 hz2 hzc (by decide) v L.length (c3 L) hs hown ad 1 c (l3 q) hx rfl hnews (one3_mem hq) (by unfold maxLen; omega) hby hB ?_
  intro v' w' h2 h3 _
  refine h v' w' ?_ h3 (fun w0 hb => hb.grown h3 hB fun k hk => (World.ownsRow.lt hown k hk).1)
  unfold TOwn
  rw [List.length_append, c3_two]
  have e : c3 [q] = l3 q := by simp [c3]
  rw [e]
  exact h2

end Go.Proofs.YtgblohjdiheemaaGreat

/- image.rightKeys: names, and none twice. -/
namespace Go.Proofs.YtgblohjdiheemaaGreat
open Go.RowKit

abbrev strV (ks : List ByteArray) : List Value := ks.map Value.string
theorem strV_cell {w : World} {p : Option Addr} {ks : List ByteArray} (h : GRow w p (strV ks)) (h0 : 0 < ks.length) : ∃ b o, p = some ⟨b, o, none⟩ ∧ ∀ i (hi : i < ks.length), w.cell? ⟨b, o + i, none⟩ = some (.string ks[i]) := by
  obtain ⟨b, o, e, hc⟩ := h (by simpa using h0)
  refine ⟨b, o, e, fun i hi => ?_⟩
  have := hc i (by simpa using hi)
  simpa [hi] using this

theorem keys_fit {ks : List ByteArray} (h : ∀ k ∈ ks, k.size ≤ maxLen) : ObF ⟨[], ks.map keySy, [], []⟩ :=
  ⟨fun i => by simp, fun s hs => by
    obtain ⟨k, hk, rfl⟩ := List.mem_map.1 hs
    exact ⟨h k hk, by show i64P 0; unfold i64P; omega⟩, fun f hf => absurd hf List.not_mem_nil, fun f hf => absurd hf List.not_mem_nil⟩

set_option maxRecDepth 20000 in
set_option maxHeartbeats 1000000 in
theorem rightKeys_any (p : Option Addr) (n c : Nat) (ks : List ByteArray) (w : World) (hn : ks.length = n) (hn6 : n ≤ 64) (hsz : ∀ k ∈ ks, k.size ≤ maxLen) (h1 : GRow w p (strV ks)) :
    Calls Tryz.prog 54 #[.slice p n c] w fun E w' => E = .returned (.bool (keysB ks)) ∧ Below w.heap.size w w' := by
  have HL := Hid.in hn
  have H1 := Hid.in h1
  have HS := Hid.in hsz
  have HK : Hid (okO ⟨[], ks.map keySy, [], []⟩ = keysB ks) := by
    have : okO ⟨[], ks.map keySy, [], []⟩ = keysB ks := by rw [keys_ok, decide_eq_true (by omega), Bool.true_and]
    exact this
  clear hn h1 hsz
  go_enter Tryz.func54, Tryz.ntmps54
  go_wp2_with fail
  go_loopw [3, 5, 8] (fun v _ vi wr => ∃ k : Nat, vi = .int .i64 k ∧ k ≤ n ∧ TOwn 116 wr w.heap.size v ((ks.take k).map fun s => syV (keySy s)) ∧ Below w.heap.size w wr) (fun _ _ vi _ => n - (intOf vi).toNat)
  case atStart => exact ⟨0, rfl, Nat.zero_le _, TOwn.nil _ _ _, below_self _⟩
  case round =>
    obtain ⟨k, rfl, hk, hT, hb⟩ := hrel
    have HT := Hid.in hT
    have HB := Hid.in hb
    have hlen : ((ks.take k).map fun s => syV (keySy s)).length = k := by rw [List.length_map, List.length_take, HL.out]; omega
    obtain ⟨pv, cv, hv, hv1, hv2, -⟩ := hT.shape
    rw [hlen] at hv hv1
    subst hv
    have HLEN := Hid.in hlen
    clear hT hb hlen
    by_cases hlt : k < n
    · have hk1 : k < ks.length := by rw [HL.out]; exact hlt
      obtain ⟨b, o, rfl, hc⟩ := strV_cell (H1.out.below HB.out) (by omega)
      have c0 := hc k hk1
      have HTK : Hid (((ks.take (k + 1)).map fun s => syV (keySy s)) = ((ks.take k).map fun s => syV (keySy s)) ++ [syV (keySy ks[k])]) := by
        rw [List.take_succ_eq_append_getElem hk1, List.map_append]; exact rfl
      clear hc
      generalize ((ks.take k).map fun s => syV (keySy s)) = LQ at *
      generalize ks[k] = x at *
      have hl1 : LQ.length ≤ 4398046511000 := by have := HLEN.out; omega
      have hl2 : (LQ.length + 1) * 32 ≤ 140737488355328 := by have := HLEN.out; omega
      go_wp2_with (refine tpushV Tryz.elemSym _ rfl _ _ rfl w.heap.size _ LQ rfl (HT.out.alloc _) ⟨wr.heap.size, 0, none⟩ 1 (.string x, .int .i64 0, .bool false) ⟨rfl, rfl, rfl⟩ rfl (news3 _ _ _) hl1 hl2 (by have := HB.out.size; simp; omega) ?_; intro v5 w5 hT5 hg5 hb5; have HT5 := Hid.in hT5; have HB5 := Hid.in (hb5 w (below_alloc HB.out _)); clear hT5 hg5 hb5)
      go_roundw
      case rel => exact ⟨k + 1, by go_num, by omega, by rw [HTK.out]; exact HT5.out, HB5.out⟩
      case measure => simp [intOf]; omega
    · have hkn : k = n := by omega
      subst hkn
      have HR : Hid (((ks.take k).map fun s => syV (keySy s)) = (ks.map keySy).map syV) := by
        rw [List.take_of_length_le (by rw [HL.out]; exact Nat.le_refl _), List.map_map]; exact rfl
      rw [HR.out] at HT
      obtain ⟨pr, cr, er, _, hcr, hrow⟩ := HT.out.row3
      obtain ⟨rfl, rfl⟩ : pv = pr ∧ cv = cr := by cases er; exact ⟨rfl, rfl⟩
      have HIN : Hid (ObIn wr ⟨[], ks.map keySy, [], []⟩ none pv none none 0 0 k cv 0 0 0 0) :=
        ⟨rfl, by rw [List.length_map]; exact HL.out, rfl, rfl, Nat.le_refl _, Nat.zero_le _, by unfold maxLen; omega, Nat.zero_le _, Nat.zero_le _, fun h => absurd h (Nat.lt_irrefl 0), hrow, Row3.nil _ _, Row3.nil _ _, keys_fit HS.out⟩
      clear hrow er
      go_wp2_with (go_at_call 70; refine (oright_any ⟨[], ks.map keySy, [], []⟩ none pv none none 0 0 k cv 0 0 0 0 wr HIN.out).mono ?_; rintro e w2 ⟨rfl, hb2⟩; rw [HK.out])
      go_ret
      exact ⟨rfl, below_step HB.out hb2⟩
end Go.Proofs.YtgblohjdiheemaaGreat

/- image.quietSites, image.rightUnits. -/
namespace Go.Proofs.YtgblohjdiheemaaGreat
open Go.RowKit

abbrev imA (pb pk ps pu : Option Addr) (nb cb nk ck ns cs nu cu : Nat) : Array Value := #[.slice pb nb cb, .slice pk nk ck, .slice ps ns cs, .slice pu nu cu]
abbrev intV (un : List Int) : List Value := un.map (Value.int .i64)
/-- an image in memory, whoever made it -/
structure ImIn (w : World) (m : IM) (pb pk ps pu : Option Addr) (nb cb nk ck ns cs nu cu : Nat) : Prop where
  lb : m.bs.length = nb
  lk : m.ks.length = nk
  ls : m.si.length = ns
  lu : m.un.length = nu
  kb : nb ≤ cb
  mb : cb ≤ 9223372036854775807
  mc : nk ≤ 140737488355328
  ms : ns ≤ 140737488355328
  mu : nu ≤ 140737488355328
  rb : Row w pb m.bs
  rk : GRow w pk (strV m.ks)
  rs : Row3 w ps (m.si.map siV)
  ru : GRow w pu (intV m.un)
  byt : Byt m.bs
  ksz : ∀ k ∈ m.ks, k.size ≤ maxLen
  uns : ∀ u ∈ m.un, i64P u
theorem ImIn.below {w w' : World} {m : IM} {pb pk ps pu : Option Addr} {nb cb nk ck ns cs nu cu : Nat} (h : ImIn w m pb pk ps pu nb cb nk ck ns cs nu cu) (hb : Below w.heap.size w w') : ImIn w' m pb pk ps pu nb cb nk ck ns cs nu cu :=
  { h with rb := h.rb.below hb, rk := h.rk.below hb, rs := h.rs.below hb, ru := h.ru.below hb }

theorem slice_lo (q : Option Addr) (n5 d5 m : Nat) (W : World) (h : m ≤ n5) : (Instr.sliceAt 22 (.slice q n5 d5) (some (.int .i64 m)) none none).run Tryz.prog W = .ok (.slice (if d5 = m then q else q.map (·.add (m * 1))) (n5 - m) (d5 - m)) W := by
  have h0 : (0 : Int) ≤ (m : Int) := by omega
  have h1 : (m : Int) ≤ (n5 : Int) := by omega
  simp [Instr.sliceAt, Instr.slice, Instr.sliceBounds, go_sem, h0, h1]
theorem slice_lo' (q : Option Addr) (n5 d5 m : Nat) (W : World) (h : m ≤ n5) : (Instr.slice 22 (.slice q n5 d5) (some (.int .i64 m)) none none).run Tryz.prog W = .ok (.slice (if d5 = m then q else q.map (·.add (m * 1))) (n5 - m) (d5 - m)) W := by
  rw [← slice_lo q n5 d5 m W h]
  simp [Instr.sliceAt, go_sem]
/-- b[k:] -/
theorem slice_from {w : World} {p : Option Addr} {n c k : Nat} {xs : List Int} (h : Row w p xs) (hn : xs.length = n) (hc : n ≤ c) (hk : k ≤ n) :
    ∃ p', (∀ W, (Instr.sliceAt 22 (.slice p n c) (some (.int .i64 k)) none none).run Tryz.prog W = .ok (.slice p' (n - k) (c - k)) W) ∧ (∀ W, (Instr.slice 22 (.slice p n c) (some (.int .i64 k)) none none).run Tryz.prog W = .ok (.slice p' (n - k) (c - k)) W) ∧ Row w p' (xs.drop k) ∧ (p = none → p' = none) ∧ (p' = none → p = none) := by
  refine ⟨_, fun W => slice_lo p n c k W hk, fun W => slice_lo' p n c k W hk, ?_, ?_, ?_⟩
  · by_cases e : c = k
    · intro h0; rw [List.length_drop] at h0; omega
    · rw [if_neg e]
      by_cases h0 : 0 < xs.length
      · obtain ⟨b, o, rfl, _⟩ := h h0
        rw [Nat.mul_one, Option.map_some]
        rw [show (⟨b, o, none⟩ : Addr).add k = ⟨b, o + k, none⟩ from Go.WideShapes.add_plain _ _ _]
        exact h.dropAt k
      · intro h1; rw [List.length_drop] at h1; omega
  · rintro rfl; split <;> rfl
  · intro e
    cases p with
    | none => rfl
    | some a => split at e <;> simp at e

set_option maxRecDepth 20000 in
set_option maxHeartbeats 1000000 in
theorem quietSites_any (m : IM) (pb pk ps pu : Option Addr) (nb cb nk ck ns cs nu cu : Nat) (w : World) (h : ImIn w m pb pk ps pu nb cb nk ck ns cs nu cu) (hat : ∀ s ∈ m.si, 0 ≤ s.at_ ∧ s.at_ ≤ 65531) :
    Calls Tryz.prog 55 #[.agg (imA pb pk ps pu nb cb nk ck ns cs nu cu)] w fun E w' => E = .returned (.bool (quietB m.bs m.si)) ∧ Below w.heap.size w w' := by
  have H := Hid.in h
  have HAT := Hid.in hat
  have hns := h.ms
  have hcb := h.mb
  have hkb := h.kb
  clear h hat
  obtain ⟨r, hrr⟩ : ∃ r, quietB m.bs m.si = r := ⟨_, rfl⟩
  rw [hrr]
  have HRR := Hid.in hrr
  clear hrr
  have HK0 : Hid (Blk (w.alloc (.cells (imA pb pk ps pu nb cb nk ck ns cs nu cu) 27)) w.heap.size 27 (imA pb pk ps pu nb cb nk ck ns cs nu cu)) := Blk.new _ _ _
  have HB0 : Hid (Below w.heap.size w (w.alloc (.cells (imA pb pk ps pu nb cb nk ck ns cs nu cu) 27))) := new_alloc _ _
  go_enter Tryz.func55, Tryz.ntmps55
  go_wp2_with (go_at_call 71; refine (quiet_any _).mono ?_; rintro e w1 ⟨q, cap, rfl, hq, hb1⟩; have HQ := Hid.in hq; have HK1 := Hid.in (HK0.out.grow hb1); have HB1 := Hid.in (below_step HB0.out hb1); have k0 : w1.cell? ⟨w.heap.size, 0, none⟩ = some (.slice pb nb cb) := HK1.out.cell 0; have k2 : w1.cell? ⟨w.heap.size, 2, none⟩ = some (.slice ps ns cs) := HK1.out.cell 2; clear hq hb1)
  have HI := Hid.in (H.out.below HB1.out)
  clear HK0 HB0
  go_loopw [10] (fun vi wr => ∃ j : Nat, vi = .int .i64 j ∧ j ≤ ns ∧ (∀ i (hi : i < m.si.length), i < j → stB m.bs m.si[i].at_ quiet = true) ∧ Below w1.heap.size w1 wr) (fun vi _ => ns - (intOf vi).toNat)
  case atStart => exact ⟨0, rfl, Nat.zero_le _, fun i _ h => absurd h (Nat.not_lt_zero _), below_self w1⟩
  case round =>
    obtain ⟨j, rfl, hj, hgo, hb⟩ := hrel
    have HGO := Hid.in hgo
    have HB := Hid.in hb
    clear hgo hb
    by_cases hlt : j < ns
    · have hjT : j < m.si.length := by rw [HI.out.ls]; exact hlt
      obtain ⟨b, o, rfl, hcc⟩ := ((HI.out.below HB.out).rs).at3 (by omega)
      have c0 := (hcc j hjT).1
      have c1 := (hcc j hjT).2.1
      have c2 := (hcc j hjT).2.2
      have hA := HAT.out _ (List.getElem_mem hjT)
      have HX2 := Hid.in (below_alloc HB.out (.cells #[.int .i64 m.si[j].key, .int .i64 m.si[j].at_, .int .i64 m.si[j].to_] 68))
      have HKx := Hid.in (HK1.out.grow HX2.out)
      have HQx := Hid.in (HQ.out.below HX2.out)
      have HIx := Hid.in (HI.out.below HX2.out)
      have b0 : (wr.alloc (.cells #[.int .i64 m.si[j].key, .int .i64 m.si[j].at_, .int .i64 m.si[j].to_] 68)).cell? ⟨w.heap.size, 0, none⟩ = some (.slice pb nb cb) := HKx.out.cell 0
      clear hcc
      obtain ⟨a, ha⟩ : ∃ a : Nat, m.si[j].at_ = a := ⟨m.si[j].at_.toNat, by omega⟩
      have HS : Hid (stB m.bs m.si[j].at_ quiet = stB m.bs (a : Int) quiet) := by
        have : stB m.bs m.si[j].at_ quiet = stB m.bs (a : Int) quiet := by rw [ha]
        exact this
      rw [ha] at hA
      by_cases hle : a ≤ nb
      · obtain ⟨p', e1, e2, hrow, -, -⟩ := slice_from HIx.out.rb HI.out.lb hkb hle
        have hcl := hasPrefix_any p' (some ⟨q, 0, none⟩) (nb - a) (cb - a) 5 cap (m.bs.drop a) quiet _ (by rw [List.length_drop, HI.out.lb]) rfl (by omega) (by omega) (by omega) hrow HQx.out.row (HI.out.byt.drop a) byt_quiet
        rw [← st_pre (by rw [HI.out.lb]; exact hle)] at hcl
        cases hs : stB m.bs (a : Int) quiet with
        | true =>
          have HG2 : Hid (∀ i (hi : i < m.si.length), i < j + 1 → stB m.bs m.si[i].at_ quiet = true) := fun i hi h => by
            by_cases e : i = j
            · subst e; rw [HS.out]; exact hs
            · exact HGO.out i hi (by omega)
          rw [hs] at hcl
          clear hs HS hrow HKx HIx HQx
          generalize m.si[j].key = x0 at *
          generalize m.si[j].to_ = x2 at *
          generalize m.si[j].at_ = x1 at *
          subst ha
          go_wp2_with (go_at_call 72; refine hcl.mono ?_; rintro e w2 ⟨rfl, rfl⟩)
          go_roundw
          case rel => exact ⟨j + 1, by go_num, by omega, HG2.out, HX2.out⟩
          case measure => simp [intOf]; omega
        | false =>
          have HE : Hid (r = false) := by
            have : r = false := by rw [← HRR.out]; exact all_no hjT (HS.out.trans hs)
            exact this
          rw [hs] at hcl
          clear hs HS hrow HKx HIx HQx
          generalize m.si[j].key = x0 at *
          generalize m.si[j].to_ = x2 at *
          generalize m.si[j].at_ = x1 at *
          subst ha
          go_wp2_with (go_at_call 72; refine hcl.mono ?_; rintro e w2 ⟨rfl, rfl⟩)
          go_ret
          exact ⟨by rw [HE.out]; rfl, below_step HB1.out HX2.out⟩
      · have HE : Hid (r = false) := by
          have : r = false := by rw [← HRR.out]; exact all_no hjT (HS.out.trans (st_far (by rw [HI.out.lb]; omega)))
          exact this
        have hd : decide ((nb : Int) < (a : Int)) = true := decide_eq_true (by omega)
        clear HS HKx HIx HQx
        generalize m.si[j].key = x0 at *
        generalize m.si[j].to_ = x2 at *
        generalize m.si[j].at_ = x1 at *
        subst ha
        go_wp2_with fail
        go_ret
        exact ⟨by rw [HE.out]; rfl, below_step HB1.out HX2.out⟩
    · have HE : Hid (r = true) := by
        have : r = true := by rw [← HRR.out]; exact all_yes fun i hi => HGO.out i hi (by rw [HI.out.ls] at hi; omega)
        exact this
      go_wp2_with fail
      go_ret
      exact ⟨by rw [HE.out]; rfl, below_step HB1.out HB.out⟩

theorem intV_cell {w : World} {p : Option Addr} {un : List Int} (h : GRow w p (intV un)) (h0 : 0 < un.length) : ∃ b o, p = some ⟨b, o, none⟩ ∧ ∀ i (hi : i < un.length), w.cell? ⟨b, o + i, none⟩ = some (.int .i64 un[i]) := by
  obtain ⟨b, o, e, hc⟩ := h (by simpa using h0)
  refine ⟨b, o, e, fun i hi => ?_⟩
  have := hc i (by simpa using hi)
  simpa [hi] using this
theorem unP_at {n : Nat} {un : List Int} {i : Nat} (hi : i < un.length) : unP n un i = decide (lastU un i ≤ un[i] ∧ un[i] % 4 = 0 ∧ un[i] ≤ n) := by
  unfold unP
  rw [List.getD_eq_getElem?_getD, List.getElem?_eq_getElem hi]; rfl
theorem lastU_succ {un : List Int} {i : Nat} (hi : i < un.length) : lastU un (i + 1) = un[i] := by
  unfold lastU
  rw [if_neg (by omega), Nat.add_sub_cancel, List.getD_eq_getElem?_getD, List.getElem?_eq_getElem hi]; rfl

set_option maxRecDepth 20000 in
set_option maxHeartbeats 1000000 in
theorem rightUnits_any (m : IM) (pb pk ps pu : Option Addr) (nb cb nk ck ns cs nu cu : Nat) (w : World) (h : ImIn w m pb pk ps pu nb cb nk ck ns cs nu cu) :
    Calls Tryz.prog 56 #[.agg (imA pb pk ps pu nb cb nk ck ns cs nu cu)] w fun E w' => E = .returned (.bool (unitsB m.bs.length m.un)) ∧ Below w.heap.size w w' := by
  have H := Hid.in h
  have hnu := h.mu
  have hcb := h.mb
  have hkb := h.kb
  clear h
  obtain ⟨r, hrr⟩ : ∃ r, unitsB m.bs.length m.un = r := ⟨_, rfl⟩
  rw [hrr]
  have HRR := Hid.in hrr
  clear hrr
  have HK0 : Hid (Blk (w.alloc (.cells (imA pb pk ps pu nb cb nk ck ns cs nu cu) 27)) w.heap.size 27 (imA pb pk ps pu nb cb nk ck ns cs nu cu)) := Blk.new _ _ _
  have HB0 : Hid (Below w.heap.size w (w.alloc (.cells (imA pb pk ps pu nb cb nk ck ns cs nu cu) 27))) := new_alloc _ _
  have HI := Hid.in (H.out.below HB0.out)
  have k0 : (w.alloc (.cells (imA pb pk ps pu nb cb nk ck ns cs nu cu) 27)).cell? ⟨w.heap.size, 0, none⟩ = some (.slice pb nb cb) := HK0.out.cell 0
  have k3 : (w.alloc (.cells (imA pb pk ps pu nb cb nk ck ns cs nu cu) 27)).cell? ⟨w.heap.size, 3, none⟩ = some (.slice pu nu cu) := HK0.out.cell 3
  by_cases h16 : nu ≤ 16
  · have q1 : decide ((16 : Int) < (nu : Int)) = false := decide_eq_false (by omega)
    by_cases h0 : 0 < nu
    · have q2 : decide ((0 : Int) < (nu : Int)) = true := decide_eq_true (by omega)
      obtain ⟨b, o, rfl, hc⟩ := intV_cell HI.out.ru (by rw [HI.out.lu]; exact h0)
      have HC := Hid.in hc
      have c0 := hc 0 (by rw [HI.out.lu]; exact h0)
      rw [Nat.add_zero] at c0
      have hu0 : m.un.getD 0 0 = m.un[0]'(by rw [HI.out.lu]; exact h0) := by rw [List.getD_eq_getElem?_getD, List.getElem?_eq_getElem (by rw [HI.out.lu]; exact h0)]; rfl
      have HU := Hid.in hu0
      have HUI := Hid.in (HI.out.uns _ (List.getElem_mem (show 0 < m.un.length by rw [HI.out.lu]; exact h0)))
      generalize hx : m.un[0]'(by rw [HI.out.lu]; exact h0) = x at *
      have HX := Hid.in hx
      clear hc hu0 hx
      by_cases hz : x = 0
      · have q3 : decide (x = 0) = true := decide_eq_true hz
        have HF : Hid (r = (List.range m.un.length).all (unP m.bs.length m.un)) := by
          have : r = (List.range m.un.length).all (unP m.bs.length m.un) := by
            rw [← HRR.out]; unfold unitsB
            rw [decide_eq_true (by rw [HI.out.lu, HU.out]; exact ⟨h16, hz⟩), Bool.true_and]
          exact this
        subst hz
        clear HC HX HUI HU
        go_enter Tryz.func56, Tryz.ntmps56
        go_wp2_with fail
        go_loopw [3, 5, 26] (fun vl _ vi wr => ∃ j : Nat, vi = .int .i64 j ∧ j ≤ nu ∧ vl = .int .i64 (lastU m.un j) ∧ 0 ≤ lastU m.un j ∧ (∀ i, i < j → unP m.bs.length m.un i = true) ∧ Below (w.alloc (.cells (imA pb pk ps (some ⟨b, o, none⟩) nb cb nk ck ns cs nu cu) 27)).heap.size (w.alloc (.cells (imA pb pk ps (some ⟨b, o, none⟩) nb cb nk ck ns cs nu cu) 27)) wr) (fun _ _ vi _ => nu - (intOf vi).toNat)
        case atStart => exact ⟨0, rfl, Nat.zero_le _, rfl, Int.le_refl _, fun i h => absurd h (Nat.not_lt_zero _), below_self _⟩
        case round =>
          obtain ⟨j, rfl, hj, rfl, hl0, hgo, hb⟩ := hrel
          have HGO := Hid.in hgo
          have HB := Hid.in hb
          clear hgo hb
          by_cases hlt : j < nu
          · have hjT : j < m.un.length := by rw [HI.out.lu]; exact hlt
            have hIx := HI.out.below HB.out
            obtain ⟨b', o', e', hcc⟩ := intV_cell hIx.ru (by rw [HI.out.lu]; exact h0)
            obtain ⟨rfl, rfl⟩ : b = b' ∧ o = o' := by cases e'; exact ⟨rfl, rfl⟩
            have cj := hcc j hjT
            have b0 : wr.cell? ⟨w.heap.size, 0, none⟩ = some (.slice pb nb cb) := (HK0.out.grow HB.out).cell 0
            have hu := HI.out.uns _ (List.getElem_mem hjT)
            unfold i64P at hu
            have HP : Hid (unP m.bs.length m.un j = decide (lastU m.un j ≤ m.un[j] ∧ m.un[j] % 4 = 0 ∧ m.un[j] ≤ nb)) := by
              have := unP_at (n := m.bs.length) hjT
              rw [HI.out.lb] at this
              rw [HI.out.lb]
              exact this
            have HLS := Hid.in (lastU_succ hjT)
            clear hcc e' hIx
            generalize m.un[j] = x at *
            generalize lastU m.un j = l at *
            by_cases g1 : x < l
            · have HE : Hid (r = false) := by
                have : r = false := by rw [HF.out]; exact range_no hjT (HP.out.trans (decide_eq_false (by omega)))
                exact this
              have q4 : decide (x < l) = true := decide_eq_true g1
              clear HP HLS HF HRR HGO
              go_wp2_with fail
              go_ret
              exact ⟨by rw [HE.out]; rfl, below_step HB0.out HB.out⟩
            · have q4 : decide (x < l) = false := decide_eq_false g1
              have ht : x.tmod 4 = x % 4 := Int.tmod_eq_emod_of_nonneg (by omega)
              by_cases g2 : x % 4 = 0
              · have q5 : x.tmod 4 = 0 := ht.trans g2
                clear ht
                by_cases g3 : x ≤ nb
                · have q6 : decide ((nb : Int) < x) = false := decide_eq_false (by omega)
                  have HG2 : Hid (∀ i, i < j + 1 → unP m.bs.length m.un i = true) := fun i h => by
                    by_cases e : i = j
                    · subst e; exact HP.out.trans (decide_eq_true ⟨by omega, g2, g3⟩)
                    · exact HGO.out i (by omega)
                  clear HP HF HRR HGO
                  go_wp2_with fail
                  go_roundw
                  case rel => exact ⟨j + 1, by go_num, by omega, by rw [HLS.out], by rw [HLS.out]; omega, HG2.out, HB.out⟩
                  case measure => simp [intOf]; omega
                · have HE : Hid (r = false) := by
                    have : r = false := by rw [HF.out]; exact range_no hjT (HP.out.trans (decide_eq_false (by omega)))
                    exact this
                  have q6 : decide ((nb : Int) < x) = true := decide_eq_true (by omega)
                  clear HP HLS HF HRR HGO
                  go_wp2_with fail
                  go_ret
                  exact ⟨by rw [HE.out]; rfl, below_step HB0.out HB.out⟩
              · have HE : Hid (r = false) := by
                  have : r = false := by rw [HF.out]; exact range_no hjT (HP.out.trans (decide_eq_false (by omega)))
                  exact this
                have q5 : decide (x.tmod 4 = 0) = false := decide_eq_false (by rw [ht]; exact g2)
                clear HP HLS HF HRR HGO
                go_wp2_with fail
                go_ret
                exact ⟨by rw [HE.out]; rfl, below_step HB0.out HB.out⟩
          · have HE : Hid (r = true) := by
              have : r = true := by rw [HF.out]; exact range_yes fun i hi => HGO.out i (by rw [HI.out.lu] at hi; omega)
              exact this
            go_wp2_with fail
            go_ret
            exact ⟨by rw [HE.out]; rfl, below_step HB0.out HB.out⟩
      · have HF : Hid (r = false) := by
          have : r = false := by
            rw [← HRR.out]; unfold unitsB
            rw [decide_eq_false (by rw [HU.out]; exact fun h => hz h.2), Bool.false_and]
          exact this
        have q3 : decide (x = 0) = false := decide_eq_false hz
        go_enter Tryz.func56, Tryz.ntmps56
        go_wp2_with fail
        go_ret
        exact ⟨by rw [HF.out]; rfl, HB0.out⟩
    · have HF : Hid (r = true) := by
        have : r = true := by
          have e : m.un = [] := List.eq_nil_of_length_eq_zero (by rw [HI.out.lu]; omega)
          rw [← HRR.out, e]; rfl
        exact this
      obtain rfl : nu = 0 := by omega
      go_enter Tryz.func56, Tryz.ntmps56
      go_wp2_with fail
      go_loopw [3, 5, 26] (fun _ _ vi wr => vi = .int .i64 0 ∧ Below w.heap.size w wr) (fun _ _ _ _ => 0)
      case atStart => exact ⟨rfl, HB0.out⟩
      case round =>
        obtain ⟨rfl, hb⟩ := hrel
        go_wp2_with fail
        go_ret
        exact ⟨by rw [HF.out]; rfl, hb⟩
  · have HF : Hid (r = false) := by
      have : r = false := by
        rw [← HRR.out]; unfold unitsB
        rw [decide_eq_false (by rw [HI.out.lu]; exact fun h => h16 h.1), Bool.false_and]
      exact this
    have q1 : decide ((16 : Int) < (nu : Int)) = true := decide_eq_true (by omega)
    go_enter Tryz.func56, Tryz.ntmps56
    go_wp2_with fail
    go_ret
    exact ⟨by rw [HF.out]; rfl, HB0.out⟩
end Go.Proofs.YtgblohjdiheemaaGreat
