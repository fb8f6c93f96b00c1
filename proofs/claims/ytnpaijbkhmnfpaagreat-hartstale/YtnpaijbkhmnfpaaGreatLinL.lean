/- The granules that a hart holds: as a list that rises by granule, and as the datum of a map. -/
import Derived.Test.YtnpaijbkhmnfpaaGreatOwn
import Derived.Maps.OwnSet
import Derived.Maps.Ext
import Derived.Maps.Keyed
namespace Go.Proofs.YtnpaijbkhmnfpaaGreat
open Go.RowKit Go.Maps Go.WideMaps

/-- four bytes -/
structure F4 where
  a : Int
  b : Int
  c : Int
  d : Int
deriving DecidableEq
/-- a granule that is held -/
structure Ln where
  g : Int
  f : F4
deriving DecidableEq
def fV (f : F4) : Value := .agg #[.int .u8 f.a, .int .u8 f.b, .int .u8 f.c, .int .u8 f.d]
def fD (f : F4) : DataW Unit := .agg [.lit (.int .u8 f.a), .lit (.int .u8 f.b), .lit (.int .u8 f.c), .lit (.int .u8 f.d)]
def fElem (v : Value) : Option (DataW Unit × List MemPlace) := match v with
  | .agg cs => match cs.toList with
    | [.int .u8 a, .int .u8 b, .int .u8 c, .int .u8 d] => some (fD ⟨a, b, c, d⟩, [])
    | _ => none
  | _ => none
theorem fElem_mk (f : F4) : fElem (fV f) = some (fD f, []) := rfl
theorem fElem_inv {v : Value} {z : DataW Unit × List MemPlace} (h : fElem v = some z) : ∃ f : F4, v = fV f ∧ z = (fD f, []) := by
  unfold fElem at h
  split at h
  · rename_i cs
    split at h
    · rename_i a b c d hc
      injection h with h
      have e : cs = #[.int .u8 a, .int .u8 b, .int .u8 c, .int .u8 d] := by
        have : cs = cs.toList.toArray := by simp
        rw [this, hc]
      exact ⟨⟨a, b, c, d⟩, by rw [e]; rfl, h.symm⟩
    · cases h
  · cases h
theorem fD_inj {s t : F4} (h : fD s = fD t) : s = t := by
  obtain ⟨a, b, c, d⟩ := s
  obtain ⟨a', b', c', d'⟩ := t
  unfold fD at h
  injection h with h
  injection h with h1 h
  injection h with h2 h
  injection h with h3 h
  injection h with h4 h
  injection h1 with h1
  injection h1 with _ h1
  injection h2 with h2
  injection h2 with _ h2
  injection h3 with h3
  injection h3 with _ h3
  injection h4 with h4
  injection h4 with _ h4
  dsimp only at h1 h2 h3 h4
  subst h1 h2 h3 h4
  rfl

def ik (a : Int) : Lit := .int .i64 a
theorem ik_inj {a b : Int} (h : ik a = ik b) : a = b := by unfold ik at h; injection h
theorem ik_is (a : Int) : WideAt.IsKeyLit (ik a) := by simp [ik, WideAt.IsKeyLit]
def i64W (a : Int) : Prop := -9223372036854775808 ≤ a ∧ a ≤ 9223372036854775807

/-- rising by granule -/
def Ris (L : List Ln) : Prop := L.Pairwise fun x y => x.g < y.g
/-- what is held of a granule -/
def findL (L : List Ln) (g : Int) : Option F4 := (L.find? fun x => decide (x.g = g)).map Ln.f
/-- a granule that is held from now on, in place of what was held of it -/
def takL (g : Int) (f : F4) : List Ln → List Ln
  | [] => [⟨g, f⟩]
  | x :: L => if x.g < g then x :: takL g f L else if x.g = g then ⟨g, f⟩ :: L else ⟨g, f⟩ :: x :: L
def linD (L : List Ln) : DataW Unit := .map (L.map fun x => (ik x.g, fD x.f))

theorem findL_cons (x : Ln) (L : List Ln) (g : Int) : findL (x :: L) g = if x.g = g then some x.f else findL L g := by
  unfold findL
  rw [List.find?_cons]
  by_cases h : x.g = g
  · simp [h]
  · simp [h]
theorem findL_put (g : Int) (f : F4) (k : Int) : ∀ L, findL (takL g f L) k = if g = k then some f else findL L k
  | [] => by simp only [takL, findL_cons]
  | x :: L => by
    unfold takL
    split
    · rename_i h
      rw [findL_cons, findL_cons, findL_put g f k L]
      by_cases h1 : x.g = k
      · rw [if_pos h1, if_pos h1, if_neg (by omega)]
      · rw [if_neg h1, if_neg h1]
    · split
      · rename_i h
        rw [findL_cons, findL_cons]
        dsimp only
        by_cases h1 : g = k
        · rw [if_pos h1, if_pos h1]
        · rw [if_neg h1, if_neg h1, if_neg (by omega)]
      · rw [findL_cons]
theorem takL_mem {g : Int} {f : F4} {y : Ln} : ∀ {L : List Ln}, y ∈ takL g f L → y = ⟨g, f⟩ ∨ y ∈ L
  | [], h => by simpa [takL] using h
  | x :: L, h => by
    unfold takL at h
    split at h
    · rcases List.mem_cons.1 h with rfl | h
      · exact .inr List.mem_cons_self
      · rcases takL_mem h with h | h
        · exact .inl h
        · exact .inr (List.mem_cons_of_mem _ h)
    · split at h
      · rcases List.mem_cons.1 h with h | h
        · exact .inl h
        · exact .inr (List.mem_cons_of_mem _ h)
      · rcases List.mem_cons.1 h with h | h
        · exact .inl h
        · exact .inr h
theorem takL_ris (g : Int) (f : F4) : ∀ (L : List Ln), Ris L → Ris (takL g f L)
  | [], _ => by simp [takL, Ris]
  | x :: L, h => by
    have h := List.pairwise_cons.1 h
    unfold takL
    split
    · rename_i hx
      refine List.pairwise_cons.2 ⟨fun y hy => ?_, takL_ris g f L h.2⟩
      rcases takL_mem hy with rfl | hy
      · exact hx
      · exact h.1 y hy
    · split
      · rename_i hx
        exact List.pairwise_cons.2 ⟨fun y hy => by have := h.1 y hy; dsimp only; omega, h.2⟩
      · rename_i h1 h2
        refine List.pairwise_cons.2 ⟨fun y hy => ?_, List.pairwise_cons.2 h⟩
        dsimp only
        rcases List.mem_cons.1 hy with rfl | hy
        · omega
        · have := h.1 y hy; omega
theorem takL_len (g : Int) (f : F4) : ∀ L : List Ln, (takL g f L).length ≤ L.length + 1
  | [] => by simp [takL]
  | x :: L => by
    have := takL_len g f L
    unfold takL
    split
    · simp only [List.length_cons]; omega
    · split <;> simp only [List.length_cons] <;> omega
/-- behind the place of g all go on -/
theorem takL_snoc {g : Int} {f : F4} {y : Ln} (hy : g < y.g) : ∀ {L : List Ln}, Ris L → (∃ x ∈ L, g ≤ x.g) → takL g f (L ++ [y]) = takL g f L ++ [y]
  | [], _, ⟨x, hx, _⟩ => by cases hx
  | x :: L, h, ⟨z, hz, hz'⟩ => by
    have h := List.pairwise_cons.1 h
    rw [List.cons_append]
    unfold takL
    by_cases hx : x.g < g
    · rw [if_pos hx, if_pos hx, takL_snoc hy h.2 ⟨z, by
        rcases List.mem_cons.1 hz with rfl | hz
        · omega
        · exact hz, hz'⟩]
      rfl
    · rw [if_neg hx, if_neg hx]
      split <;> rfl
/-- all ahead of g: it is put behind them -/
theorem takL_end {g : Int} {f : F4} : ∀ {L : List Ln}, (∀ x ∈ L, x.g < g) → takL g f L = L ++ [⟨g, f⟩]
  | [], _ => rfl
  | x :: L, h => by
    unfold takL
    rw [if_pos (h x List.mem_cons_self), takL_end fun y hy => h y (List.mem_cons_of_mem _ hy)]
    rfl
/-- at its place -/
theorem takL_at {g : Int} {f : F4} {y : Ln} : ∀ {L : List Ln}, (∀ x ∈ L, x.g < g) → g ≤ y.g → takL g f (L ++ [y]) = L ++ (if y.g = g then [⟨g, f⟩] else [⟨g, f⟩, y])
  | [], _, hy => by
    show takL g f [y] = _
    unfold takL
    rw [if_neg (by omega)]
    split <;> rfl
  | x :: L, h, hy => by
    rw [List.cons_append]
    unfold takL
    rw [if_pos (h x List.mem_cons_self), takL_at (fun z hz => h z (List.mem_cons_of_mem _ hz)) hy]
    rfl

theorem same_ik (a b : Int) : (ik a).sameKey (ik b) = decide (a = b) := by
  by_cases h : a = b
  · subst h; simpa using (WideAt.sameKey_iff (ik_is a)).2 rfl
  · rw [decide_eq_false h]
    cases hs : (ik a).sameKey (ik b) with
    | false => rfl
    | true => exact absurd (ik_inj ((WideAt.sameKey_iff (ik_is b)).1 hs)) h
theorem has_lin (L : List Ln) (g : Int) : has (linD L) (ik g) = (findL L g).isSome := by
  unfold linD
  rw [has_eq]
  induction L with
  | nil => rfl
  | cons x L ih =>
    rw [findL_cons, List.map_cons, List.any_cons, same_ik, ih]
    by_cases h : x.g = g
    · simp [h]
    · simp [h]
theorem at_lin (L : List Ln) (g : Int) (z : DataW Unit) : (linD L).atKey (ik g) z = ((findL L g).map fD).getD z := by
  unfold linD DataW.atKey
  induction L with
  | nil => rfl
  | cons x L ih =>
    simp only [List.map_cons] at ih ⊢
    rw [findL_cons, List.find?_cons, same_ik]
    by_cases h : x.g = g
    · simp [h]
    · rw [decide_eq_false h, if_neg h]
      exact ih
theorem canon_lin {L : List Ln} (h : Ris L) : Canon (linD L) := ⟨_, rfl, by
  rw [List.pairwise_map]
  refine List.Pairwise.imp (fun {x y} hxy => ?_) h
  simp [ik, Lit.before]
  exact hxy, fun p hp => by
    obtain ⟨x, -, rfl⟩ := List.mem_map.1 hp
    exact ik_is _⟩
theorem isMap_lin (L : List Ln) : IsMap (linD L) := ⟨_, rfl⟩
/-- a map's datum is told by its integers alone -/
theorem lin_ext {D : DataW Unit} {L : List Ln} (c : Canon D) (h : Ris L) (hk : ∀ k, has D k = true → ∃ a, k = ik a) (hh : ∀ a, has D (ik a) = (findL L a).isSome) (ha : ∀ a f, findL L a = some f → ∀ z, D.atKey (ik a) z = fD f) : D = linD L := by
  have hk' : ∀ k, has (linD L) k = true → ∃ a, k = ik a := fun k hk => by
    unfold linD at hk
    rw [has_eq, List.any_eq_true] at hk
    obtain ⟨p, hp, hs⟩ := hk
    obtain ⟨x, -, rfl⟩ := List.mem_map.1 hp
    refine ⟨x.g, ?_⟩
    cases k <;> simp [ik, Lit.sameKey] at hs ⊢
    exact ⟨hs.1.symm, hs.2.symm⟩
  refine ext c (canon_lin h) (fun k => ?_) fun k z hz => ?_
  · cases h1 : has D k with
    | true =>
      obtain ⟨a, rfl⟩ := hk k h1
      rw [has_lin, ← hh, h1]
    | false =>
      cases h2 : has (linD L) k with
      | false => rfl
      | true =>
        obtain ⟨a, rfl⟩ := hk' k h2
        rw [has_lin, ← hh, h1] at h2
        cases h2
  · obtain ⟨a, rfl⟩ := hk k hz
    rw [hh] at hz
    obtain ⟨f, hf⟩ := Option.isSome_iff_exists.1 hz
    rw [ha a f hf, at_lin, hf]
    rfl
theorem put_lin {L : List Ln} (h : Ris L) (g : Int) (f : F4) (c : Canon ((linD L).put (ik g) (fD f))) : (linD L).put (ik g) (fD f) = linD (takL g f L) := by
  refine lin_ext c (takL_ris g f L h) (fun k hk => ?_) (fun a => ?_) fun a f' hf z => ?_
  · by_cases e : k = ik g
    · exact ⟨g, e⟩
    · rw [has_put_other e] at hk
      unfold linD at hk
      rw [has_eq, List.any_eq_true] at hk
      obtain ⟨p, hp, hs⟩ := hk
      obtain ⟨x, -, rfl⟩ := List.mem_map.1 hp
      refine ⟨x.g, ?_⟩
      cases k <;> simp [ik, Lit.sameKey] at hs ⊢
      exact ⟨hs.1.symm, hs.2.symm⟩
  · rw [findL_put]
    by_cases e : g = a
    · subst e
      rw [has_put_same (isMap_lin L) (ik_is _), if_pos rfl]; rfl
    · rw [has_put_other (fun e' => e (ik_inj e').symm), if_neg e, has_lin]
  · rw [findL_put] at hf
    by_cases e : g = a
    · subst e
      rw [if_pos rfl] at hf
      injection hf with hf
      subst hf
      rw [atKey_put_same (isMap_lin L) (ik_is _)]
    · rw [if_neg e] at hf
      rw [atKey_put_other (fun e' => e (ik_inj e').symm), at_lin, hf]
      rfl

end Go.Proofs.YtnpaijbkhmnfpaaGreat
