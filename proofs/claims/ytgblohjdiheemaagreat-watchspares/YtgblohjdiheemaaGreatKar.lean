/- Texts put together: ImgL, ImO, QPick. -/
import Derived.Test.YtgblohjdiheemaaGreatKaq
import Derived.Test.YtgblohjdiheemaaGreatKal
import Derived.Laws.CopyOwn
import Derived.Test.YtgblohjdiheemaaGreatKan
import Derived.Test.YtgblohjdiheemaaGreatKap
import Derived.Test.YtgblohjdiheemaaGreatKao

/- Ours: what switchyardmade.Image makes, as lists, and that it is a right image. -/
namespace Go.Proofs.YtgblohjdiheemaaGreat
open Go.RowKit

def zS (z : Z3) : Si := ⟨z.1, z.2.1, z.2.2⟩
def ltZ (a b : Z3) : Prop := a.1 < b.1 ∨ (a.1 = b.1 ∧ a.2.1 < b.2.1)
theorem ltZ_trans {a b c : Z3} (h1 : ltZ a b) (h2 : ltZ b c) : ltZ a c := by
  unfold ltZ at *; omega
/-- where a site is put: those ahead are not behind it, those behind are -/
theorem posZ_facts (L : List Z3) (x : Z3) : ∀ p, p ≤ L.length → (∀ i, posZ L x p ≤ i → i < p → gtZ (L.getD i (0, 0, 0)) x = true) ∧ (0 < posZ L x p → gtZ (L.getD (posZ L x p - 1) (0, 0, 0)) x = false)
  | 0, _ => ⟨fun i _ h => absurd h (by omega), fun h => absurd h (by simp [posZ])⟩
  | p + 1, hp => by
    have ih := posZ_facts L x p (by omega)
    simp only [posZ]
    split
    · rename_i hg
      refine ⟨fun i h1 h2 => ?_, ih.2⟩
      by_cases e : i = p
      · rw [e]; exact hg
      · exact ih.1 i h1 (by omega)
    · rename_i hg
      exact ⟨fun i h1 h2 => absurd h2 (by omega), fun _ => by simpa using hg⟩
theorem insZ_perm (L : List Z3) (x : Z3) : (insZ L x).Perm (x :: L) := by
  unfold insZ
  refine List.perm_middle.trans ?_
  rw [List.take_append_drop]
theorem sortZ_perm (l : List Z3) : ∀ i, i ≤ l.length → (sortZ l i).Perm (l.take i)
  | 0, _ => by simp [sortZ]
  | i + 1, h => by
    have ih := sortZ_perm l i (by omega)
    have e : l.getD i (0, 0, 0) = l[i]'(by omega) := by simp [List.getD, List.getElem?_eq_getElem (show i < l.length by omega)]
    rw [sortZ, List.take_succ_eq_append_getElem (show i < l.length by omega), e]
    exact (insZ_perm _ _).trans ((List.Perm.cons _ ih).trans (List.perm_append_comm (l₁ := [l[i]'(by omega)])))
theorem insZ_sorted {L : List Z3} {x : Z3} (h : L.Pairwise ltZ) (hx : ∀ y ∈ L, y.2.1 ≠ x.2.1) : (insZ L x).Pairwise ltZ := by
  have hf := posZ_facts L x L.length (Nat.le_refl _)
  have hle := posZ_le L x L.length
  unfold insZ
  generalize posZ L x L.length = p at *
  have hgt : ∀ i (hi : i < L.length), p ≤ i → ltZ x L[i] := fun i hi hp => by
    have h1 := hf.1 i hp hi
    have e : L.getD i (0, 0, 0) = L[i] := by simp [List.getD, List.getElem?_eq_getElem hi]
    have h2 := hx L[i] (List.getElem_mem hi)
    rw [e] at h1
    simp only [gtZ, Bool.or_eq_true, Bool.and_eq_true, decide_eq_true_eq] at h1
    unfold ltZ; omega
  have hlt : ∀ i (hi : i < L.length), i < p → ltZ L[i] x := fun i hi hp => by
    have h1 := hf.2 (by omega)
    have hq : p - 1 < L.length := by omega
    have e : L.getD (p - 1) (0, 0, 0) = L[p - 1] := by simp [List.getD, List.getElem?_eq_getElem hq]
    have h2 := hx L[p - 1] (List.getElem_mem hq)
    rw [e] at h1
    simp only [gtZ, Bool.or_eq_false_iff, Bool.and_eq_false_iff, decide_eq_false_iff_not] at h1
    have h3 : ltZ L[p - 1] x := by unfold ltZ; omega
    by_cases e' : i = p - 1
    · subst e'; exact h3
    · exact ltZ_trans (List.pairwise_iff_getElem.1 h i (p - 1) hi hq (by omega)) h3
  rw [List.pairwise_append, List.pairwise_cons]
  refine ⟨h.sublist (List.take_sublist _ _), ⟨fun y hy => ?_, h.sublist (List.drop_sublist _ _)⟩, fun a ha b hb => ?_⟩
  · obtain ⟨i, hi, rfl⟩ := List.getElem_of_mem hy
    rw [List.getElem_drop]
    exact hgt _ (by rw [List.length_drop] at hi; omega) (by omega)
  · obtain ⟨i, hi, rfl⟩ := List.getElem_of_mem ha
    rw [List.length_take] at hi
    rw [List.getElem_take]
    have h1 := hlt i (by omega) (by omega)
    rcases List.mem_cons.1 hb with rfl | hb
    · exact h1
    · obtain ⟨j, hj, rfl⟩ := List.getElem_of_mem hb
      rw [List.getElem_drop]
      exact ltZ_trans h1 (hgt _ (by rw [List.length_drop] at hj; omega) (by omega))
theorem sortZ_sorted (l : List Z3) (hd : l.Pairwise fun a b => a.2.1 ≠ b.2.1) : ∀ i, i ≤ l.length → (sortZ l i).Pairwise ltZ
  | 0, _ => by simp [sortZ]
  | i + 1, h => by
    rw [sortZ]
    refine insZ_sorted (sortZ_sorted l hd i (by omega)) fun y hy => ?_
    have hm := (sortZ_perm l i (by omega)).mem_iff.1 hy
    obtain ⟨j, hj, rfl⟩ := List.getElem_of_mem hm
    rw [List.length_take] at hj
    rw [List.getElem_take]
    have e : l.getD i (0, 0, 0) = l[i]'(by omega) := by simp [List.getD, List.getElem?_eq_getElem (show i < l.length by omega)]
    rw [e]
    exact List.pairwise_iff_getElem.1 hd j i (by omega) (by omega) (by omega)

/-- the sites ahead of being sorted -/
def imZ (l : List Int) (i : Nat) : Z3 := ((kdS l l.length).2.getD i 0, ((8 + 12 * i : Nat) : Int), ((17 + 12 * i : Nat) : Int))
def imR (l : List Int) (j : Nat) : List Z3 := (List.range j).map (imZ l)
theorem imR_len (l : List Int) (j : Nat) : (imR l j).length = j := by simp [imR]
theorem imR_succ (l : List Int) (j : Nat) : imR l (j + 1) = imR l j ++ [imZ l j] := by
  unfold imR
  rw [List.range_succ, List.map_append, List.map_cons, List.map_nil]
def imS (l : List Int) : List Z3 := sortZ (imR l l.length) l.length
/-- the bytes, with the first i sites -/
def imB (n : Nat) : Nat → List Int
  | 0 => List.replicate (8 + 12 * n) 0
  | i + 1 => Go.splice (imB n i) (8 + 12 * i) quietL
theorem imB_len (n : Nat) : ∀ i, i ≤ n → (imB n i).length = 8 + 12 * n
  | 0, _ => by simp [imB]
  | i + 1, h => by
    have ih := imB_len n i (by omega)
    have h5 : quietL.length = 5 := rfl
    rw [imB, Go.length_splice _ _ _ (by rw [h5, ih]; omega), ih]
theorem splice_in {xs : List Int} {off : Nat} {ys : List Int} (h : off + ys.length ≤ xs.length) : (((Go.splice xs off ys).drop off).take ys.length) = ys := by
  have h1 : (xs.take off).length = off := by rw [List.length_take]; omega
  unfold Go.splice
  rw [List.drop_append_of_le_length (by omega), List.drop_eq_nil_of_le (by omega), List.nil_append, List.take_append_of_le_length (Nat.le_refl _), List.take_of_length_le (Nat.le_refl _)]
theorem splice_out {xs : List Int} {off a k : Nat} {ys : List Int} (h : off + ys.length ≤ xs.length) (ha : a + k ≤ off) : (((Go.splice xs off ys).drop a).take k) = (xs.drop a).take k := by
  unfold Go.splice
  have h1 : (xs.take off).length = off := by rw [List.length_take]; omega
  apply List.ext_getElem?
  intro i
  by_cases hi : i < k
  · rw [List.getElem?_take_of_lt hi, List.getElem?_take_of_lt hi, List.getElem?_drop, List.getElem?_drop, List.getElem?_append_left (by omega), List.getElem?_take_of_lt (by omega)]
  · rw [List.getElem?_eq_none (by rw [List.length_take]; omega), List.getElem?_eq_none (by rw [List.length_take]; omega)]
theorem imB_quiet (n : Nat) : ∀ i, i ≤ n → ∀ j, j < i → (((imB n i).drop (8 + 12 * j)).take 5) = quietL
  | 0, _, j, h => absurd h (by omega)
  | i + 1, hi, j, hj => by
    have hl := imB_len n i (by omega)
    have h5 : quietL.length = 5 := rfl
    rw [imB]
    by_cases e : j = i
    · subst e
      have := splice_in (xs := imB n j) (off := 8 + 12 * j) (ys := quietL) (by rw [h5, hl]; omega)
      rwa [h5] at this
    · rw [splice_out (by rw [h5, hl]; omega) (by omega)]
      exact imB_quiet n i (by omega) j (by omega)
theorem imB_byt (n : Nat) : ∀ i, ∀ x ∈ imB n i, 0 ≤ x ∧ x ≤ 255
  | 0 => fun x hx => by
    have := List.eq_of_mem_replicate hx
    omega
  | i + 1 => fun x hx => by
    rw [imB] at hx
    unfold Go.splice at hx
    rcases List.mem_append.1 hx with h | h
    · exact imB_byt n i x (List.mem_of_mem_take h)
    · rcases List.mem_append.1 h with h | h
      · simp only [quietL, List.mem_cons, List.not_mem_nil, or_false] at h
        omega
      · exact imB_byt n i x (List.mem_of_mem_drop h)
/-- how many keys -/
def imN (l : List Int) : Nat := (kdS l l.length).1.length
def imM (l : List Int) : IM := ⟨imB l.length l.length, txtP (imN l), (imS l).map zS, [0]⟩
theorem imN_le (l : List Int) : imN l ≤ l.length := (kdS_len l l.length).2
theorem imS_len (l : List Int) : (imS l).length = l.length := sortZ_len _ _
theorem imS_perm (l : List Int) : (imS l).Perm (imR l l.length) := by
  have := sortZ_perm (imR l l.length) l.length (by rw [imR_len]; exact Nat.le_refl _)
  rwa [List.take_of_length_le (by rw [imR_len]; exact Nat.le_refl _)] at this
theorem imS_mem {l : List Int} {z : Z3} (h : z ∈ imS l) : ∃ i, i < l.length ∧ z = imZ l i := by
  have := (imS_perm l).mem_iff.1 h
  unfold imR at this
  simp only [List.mem_map, List.mem_range] at this
  obtain ⟨i, hi, e⟩ := this
  exact ⟨i, hi, e.symm⟩
theorem imZ_key {l : List Int} {i : Nat} (hi : i < l.length) : 0 ≤ (imZ l i).1 ∧ (imZ l i).1 < imN l := by
  have hl := (kdS_len l l.length).1
  have e : (kdS l l.length).2.getD i 0 = (kdS l l.length).2[i]'(by omega) := by simp [List.getD, List.getElem?_eq_getElem (show i < (kdS l l.length).2.length by omega)]
  have := kdS_bd l l.length ((kdS l l.length).2[i]'(by omega)) (List.getElem_mem _)
  unfold imZ imN
  dsimp only
  rw [e]
  exact this
theorem imR_far (l : List Int) (j : Nat) : (imR l j).Pairwise fun a b => a.2.1 + 12 ≤ b.2.1 := by
  rw [List.pairwise_iff_getElem]
  intro a b ha hb hab
  simp only [imR, List.getElem_map, List.getElem_range, imZ]
  omega
theorem keys_txt : ∀ k, k ≤ 20 → keysB (txtP k) = true
  | 0, _ => rfl
  | 1, _ => by kernel_rfl
  | 2, _ => by kernel_rfl
  | 3, _ => by kernel_rfl
  | 4, _ => by kernel_rfl
  | 5, _ => by kernel_rfl
  | 6, _ => by kernel_rfl
  | 7, _ => by kernel_rfl
  | 8, _ => by kernel_rfl
  | 9, _ => by kernel_rfl
  | 10, _ => by kernel_rfl
  | 11, _ => by kernel_rfl
  | 12, _ => by kernel_rfl
  | 13, _ => by kernel_rfl
  | 14, _ => by kernel_rfl
  | 15, _ => by kernel_rfl
  | 16, _ => by kernel_rfl
  | 17, _ => by kernel_rfl
  | 18, _ => by kernel_rfl
  | 19, _ => by kernel_rfl
  | 20, _ => by kernel_rfl
  | k + 21, h => absurd h (by omega)
theorem imM_ok (l : List Int) (h : l.length ≤ 20) : okI (imM l) = true := by
  have hn := imN_le l
  have hb := imB_len l.length l.length (Nat.le_refl _)
  have ht : (txtP (imN l)).length = imN l := txtP_len _
  have hs : ((imS l).map zS).length = l.length := by rw [List.length_map, imS_len]
  unfold okI imM
  dsimp only
  rw [Bool.and_eq_true, Bool.and_eq_true, Bool.and_eq_true, Bool.and_eq_true]
  refine ⟨⟨⟨⟨?_, ?_⟩, ?_⟩, ?_⟩, ?_⟩
  · rw [hb]; exact decide_eq_true (by omega)
  · unfold rightS
    rw [Bool.and_eq_true, Bool.and_eq_true, Bool.and_eq_true, ht, hs]
    refine ⟨⟨⟨decide_eq_true ⟨by omega, by omega, by omega⟩, ?_⟩, ?_⟩, ?_⟩
    · rw [List.all_eq_true]
      intro s hs
      obtain ⟨z, hz, rfl⟩ := List.mem_map.1 hs
      obtain ⟨i, hi, rfl⟩ := imS_mem hz
      have hk := imZ_key hi
      unfold siteB farS
      simp only [zS, imZ] at hk ⊢
      rw [Bool.and_eq_true, Bool.not_eq_true']
      exact ⟨decide_eq_true (by omega), decide_eq_false (by omega)⟩
    · refine decide_eq_true ?_
      rw [List.pairwise_map]
      refine (sortZ_sorted (imR l l.length) ((imR_far l l.length).imp fun h => by omega) l.length (by rw [imR_len]; exact Nat.le_refl _)).imp fun h => ?_
      unfold ltZ at h
      unfold ltS zS
      exact decide_eq_true h
    · refine decide_eq_true ?_
      rw [List.pairwise_map]
      refine ((imS_perm l).pairwise_iff (R := fun a b : Z3 => ¬ ((zS b).at_ - (zS a).at_ < 5 ∧ (zS a).at_ - (zS b).at_ < 5)) (fun {a b} h => by omega)).2 ?_
      refine (imR_far l l.length).imp fun h => ?_
      simp only [zS]
      omega
  · exact keys_txt _ (by omega)
  · unfold quietB
    rw [List.all_eq_true]
    intro s hs
    obtain ⟨z, hz, rfl⟩ := List.mem_map.1 hs
    obtain ⟨i, hi, rfl⟩ := imS_mem hz
    unfold stB
    refine decide_eq_true ?_
    have h5 : quiet.length = 5 := rfl
    have e : (zS (imZ l i)).at_.toNat = 8 + 12 * i := by simp only [zS, imZ]; omega
    rw [e, h5, hb]
    refine ⟨by simp only [zS, imZ]; omega, by omega, ?_⟩
    exact imB_quiet l.length l.length (Nat.le_refl _) i hi
  · unfold unitsB
    rw [hb]
    simp [unP, lastU, List.range, List.range.loop]
    omega
theorem imM_byt (l : List Int) : Byt (imM l).bs := mem_byt (imB_byt _ _)
end Go.Proofs.YtgblohjdiheemaaGreat

/- Ours: an image in memory of its own. -/
namespace Go.Proofs.YtgblohjdiheemaaGreat
open Go.RowKit

theorem Blk.cells4 {W : World} {b : Nat} {T : TypeId} {x0 x1 x2 x3 : Value} (h : Blk W b T #[x0, x1, x2, x3]) : W.cell? ⟨b, 0, none⟩ = some x0 ∧ W.cell? ⟨b, 1, none⟩ = some x1 ∧ W.cell? ⟨b, 2, none⟩ = some x2 ∧ W.cell? ⟨b, 3, none⟩ = some x3 :=
  ⟨h.cell 0, h.cell 1, h.cell 2, h.cell 3⟩
theorem own_kept {w w' : World} {B e s n g : Nat} {v : Value} {xs : List Value} (h : w.ownsRow B e s v n xs) (hg : w.grownBy w' (some g)) (hB : g < B) : w'.ownsRow B e s v n xs :=
  h.kept hg (Or.inr fun e => by have := (World.ownsRow.lt h g e).1; omega)
/-- an image in memory of its own -/
structure ImOwn (w : World) (B : Nat) (m : IM) (vb vk vs vu : Value) : Prop where
  b : OwnV w B vb m.bs
  k : GOwnV 9 w B vk (strV m.ks)
  s : TOwn 68 w B vs (m.si.map siV)
  u : GOwnV 3 w B vu (intV m.un)
abbrev nil4 : Array Value := #[.slice none 0 0, .slice none 0 0, .slice none 0 0, .slice none 0 0]
theorem own_set {w : World} {B e s n M i : Nat} {v u : Value} {xs : List Value} (h : w.ownsRow B e s v n xs) (hB : M < B) : (w.setCell ⟨M, i, none⟩ u).ownsRow B e s v n xs := own_kept h (grown_setCell _ _ _ _) hB
theorem own_lower {w : World} {B B' e s n : Nat} {v : Value} {xs : List Value} (h : w.ownsRow B e s v n xs) (hB : B' ≤ B) : w.ownsRow B' e s v n xs := by
  refine ⟨h.1, ?_⟩
  rcases h.2 with a | ⟨g, cap, cur, e1, h1, r⟩
  · exact Or.inl a
  · exact Or.inr ⟨g, cap, cur, e1, Nat.le_trans hB h1, r⟩
theorem OwnV.sliceC {w : World} {B : Nat} {v : Value} {xs : List Int} (h : OwnV w B v xs) : ∃ p cap, v = .slice p xs.length cap ∧ Row w p xs ∧ xs.length ≤ cap ∧ cap ≤ 9223372036854775807 := by
  rcases h.shape with ⟨rfl, rfl⟩ | ⟨g, cap, rfl, ho⟩
  · exact ⟨none, 0, rfl, fun h => absurd h (Nat.lt_irrefl 0), Nat.le_refl _, by omega⟩
  · obtain ⟨cur, _, _, h3, h4, _⟩ := ho.parts
    exact ⟨_, cap, rfl, ho.row, h3, by unfold maxLen at h4; omega⟩
theorem GOwnV.sl {T : TypeId} {w : World} {B : Nat} {v : Value} {vs : List Value} (h : GOwnV T w B v vs) : ∃ p n cap, v = .slice p n cap ∧ n = vs.length := by
  obtain ⟨p, cap, e, _⟩ := h.slice; exact ⟨p, _, cap, e, rfl⟩
theorem TOwn.sl {T : TypeId} {w : World} {B : Nat} {v : Value} {vs : List V3} (h : TOwn T w B v vs) : ∃ p n cap, v = .slice p n cap ∧ n = vs.length := by
  obtain ⟨p, cap, e, _⟩ := h.shape; exact ⟨p, _, cap, e, rfl⟩
theorem OwnV.sl {w : World} {B : Nat} {v : Value} {vs : List Int} (h : OwnV w B v vs) : ∃ p n cap, v = .slice p n cap ∧ n = vs.length ∧ n ≤ cap ∧ cap ≤ 9223372036854775807 := by
  obtain ⟨p, cap, e, _, h1, h2⟩ := h.sliceC; exact ⟨p, _, cap, e, rfl, h1, h2⟩
theorem ImOwn.lower {w : World} {B B' : Nat} {m : IM} {vb vk vs vu : Value} (h : ImOwn w B m vb vk vs vu) (hB : B' ≤ B) : ImOwn w B' m vb vk vs vu :=
  ⟨own_lower h.b hB, own_lower h.k hB, own_lower h.s hB, own_lower h.u hB⟩
theorem ImOwn.below {w w' : World} {B : Nat} {m : IM} {vb vk vs vu : Value} (h : ImOwn w B m vb vk vs vu) (hb : Below w.heap.size w w') : ImOwn w' B m vb vk vs vu :=
  ⟨h.b.below hb, h.k.below hb, h.s.below hb, h.u.below hb⟩
theorem ImOwn.set {w : World} {B R i : Nat} {m : IM} {vb vk vs vu : Value} (h : ImOwn w B m vb vk vs vu) (hR : R < B) (u : Value) : ImOwn (w.setCell ⟨R, i, none⟩ u) B m vb vk vs vu :=
  ⟨own_set h.b hR, own_set h.k hR, own_set h.s hR, own_set h.u hR⟩
theorem ImOwn.set4 {w : World} {B R : Nat} {m : IM} {vb vk vs vu : Value} (h : ImOwn w B m vb vk vs vu) (hR : R < B) (v0 v1 v2 v3 : Value) : ImOwn ((((w.setCell ⟨R, 0, none⟩ v0).setCell ⟨R, 1, none⟩ v1).setCell ⟨R, 2, none⟩ v2).setCell ⟨R, 3, none⟩ v3) B m vb vk vs vu :=
  (((h.set hR v0).set hR v1).set hR v2).set hR v3
theorem ImOwn.nil (w : World) (B : Nat) : ImOwn w B noIM (.slice none 0 0) (.slice none 0 0) (.slice none 0 0) (.slice none 0 0) :=
  ⟨OwnV.nil _ _, GOwnV.nil _ _ _, TOwn.nil _ _ _, GOwnV.nil _ _ _⟩
theorem Tryz.sz27 : (Tryz.prog.info? 27).map (·.size) = some 4 := by kernel_rfl
theorem load_im {W : World} {R : Nat} {v0 v1 v2 v3 : Value} (h : Blk W R 27 #[v0, v1, v2, v3]) : (loadVar 27 ⟨R, 0, none⟩).run Tryz.prog W = .ok (.agg #[v0, v1, v2, v3]) W :=
  run_loadVar_mid W R 0 27 [v0, v1, v2, v3] _ h.range Tryz.underlying27 rfl Tryz.sz27
theorem Blk.set4 {W : World} {R : Nat} {A : Array Value} {u0 u1 u2 u3 : Value} (h : Blk W R 27 A) (hA : A.size = 4) (v0 v1 v2 v3 : Value) (_ : A = #[u0, u1, u2, u3]) :
    Blk ((((W.setCell ⟨R, 0, none⟩ v0).setCell ⟨R, 1, none⟩ v1).setCell ⟨R, 2, none⟩ v2).setCell ⟨R, 3, none⟩ v3) R 27 #[v0, v1, v2, v3] := by
  subst A
  have := (((h.set 0 v0).set 1 v1).set 2 v2).set 3 v3
  simpa using this
theorem below4 {w W : World} {R : Nat} (h : Below R w W) (v0 v1 v2 v3 : Value) : Below R w ((((W.setCell ⟨R, 0, none⟩ v0).setCell ⟨R, 1, none⟩ v1).setCell ⟨R, 2, none⟩ v2).setCell ⟨R, 3, none⟩ v3) :=
  (((h.setCell (Nat.le_refl _) _).setCell (Nat.le_refl _) _).setCell (Nat.le_refl _) _).setCell (Nat.le_refl _) _
/-- a copy is an image in memory as the first one is -/
theorem ImOwn.like {w w0 : World} {B : Nat} {m : IM} {vb vk vs vu : Value} {pb pk ps pu : Option Addr} {nb cb nk ck ns cs nu cu : Nat} (h : ImOwn w B m vb vk vs vu) (H : ImIn w0 m pb pk ps pu nb cb nk ck ns cs nu cu) :
    ∃ qb qk qs qu db dk ds du, vb = .slice qb nb db ∧ vk = .slice qk nk dk ∧ vs = .slice qs ns ds ∧ vu = .slice qu nu du ∧ ImIn w m qb qk qs qu nb db nk dk ns ds nu du ∧ (qb = none → nb = 0 ∧ db = 0) := by
  obtain ⟨qb, db, e1, r1, l1, l2⟩ := h.b.sliceC
  obtain ⟨qk, dk, e2, r2, _⟩ := h.k.slice
  obtain ⟨qs, ds, e3, _, _, r3⟩ := h.s.row3
  obtain ⟨qu, du, e4, r4, _⟩ := h.u.slice
  have hz : qb = none → nb = 0 ∧ db = 0 := fun e => by
    rcases h.b.shape with ⟨a1, a2⟩ | ⟨g, cap, a1, _⟩
    · rw [e1] at a1
      injection a1 with _ _ a3
      rw [← H.lb, a2]; exact ⟨rfl, a3⟩
    · rw [e1] at a1
      injection a1 with a3
      rw [e] at a3; cases a3
  rw [H.lb] at e1 l1
  rw [List.length_map, H.lk] at e2
  rw [List.length_map, H.ls] at e3
  rw [List.length_map, H.lu] at e4
  exact ⟨qb, qk, qs, qu, db, dk, ds, du, e1, e2, e3, e4, ⟨H.lb, H.lk, H.ls, H.lu, l1, l2, H.mc, H.ms, H.mu, r1, r2, r3, r4, H.byt, H.ksz, H.uns⟩, hz⟩
/-- an image that a call has made and that is right, in memory -/
theorem ImOwn.inOk {w : World} {B : Nat} {m : IM} {vb vk vs vu : Value} (h : ImOwn w B m vb vk vs vu) (hok : okI m = true) (hbyt : Byt m.bs) :
    ∃ qb qk qs qu db dk ds du, vb = .slice qb m.bs.length db ∧ vk = .slice qk m.ks.length dk ∧ vs = .slice qs m.si.length ds ∧ vu = .slice qu m.un.length du ∧ ImIn w m qb qk qs qu m.bs.length db m.ks.length dk m.si.length ds m.un.length du ∧ (qb = none → m.bs.length = 0 ∧ db = 0) := by
  have hB := okI_im hok
  have b1 : m.bs.length ≤ 65536 := hB.bs
  have b2 : m.ks.length ≤ 64 := by have := hB.ks; simpa [IM.im] using this
  have b3 : m.si.length ≤ 256 := hB.si
  have b4 : m.un.length ≤ 16 := hB.un
  obtain ⟨qb, db, e1, r1, l1, l2⟩ := h.b.sliceC
  obtain ⟨qk, dk, e2, r2, _⟩ := h.k.slice
  obtain ⟨qs, ds, e3, _, _, r3⟩ := h.s.row3
  obtain ⟨qu, du, e4, r4, _⟩ := h.u.slice
  have hz : qb = none → m.bs.length = 0 ∧ db = 0 := fun e => by
    rcases h.b.shape with ⟨a1, a2⟩ | ⟨g, cap, a1, _⟩
    · rw [e1] at a1
      injection a1 with _ _ a3
      rw [a2]; exact ⟨rfl, a3⟩
    · rw [e1] at a1
      injection a1 with a3
      rw [e] at a3; cases a3
  rw [List.length_map] at e2 e3 e4
  refine ⟨qb, qk, qs, qu, db, dk, ds, du, e1, e2, e3, e4, ⟨rfl, rfl, rfl, rfl, l1, l2, by omega, by omega, by omega, r1, r2, r3, r4, hbyt, fun k hk => ?_, fun u hu => ?_⟩, hz⟩
  · obtain ⟨i, hi, rfl⟩ := List.getElem_of_mem hk
    have h1 := keysB_at (okI_parts hok).2.2.1 i hi
    unfold nmB at h1
    simp only [Bool.and_eq_true, decide_eq_true_eq] at h1
    have := h1.1.2
    unfold maxLen; omega
  · have := hB.unit u hu
    unfold sNum at this
    unfold i64P; omega
end Go.Proofs.YtgblohjdiheemaaGreat

/- A region that draws its order: operations that read what S says are picked first, wherever they stand; behind the operations of ex, which wait for all of these, nothing need be kept. -/
namespace Go.Proofs.YtgblohjdiheemaaGreat
open Go.RowKit Go.Sort

theorem wp_region_pick {P : Program} {Q : Exit → Act → World → Prop} (S : World → Prop) (is ex : List Nat) (m : Nat) (ps : List Oper) {id : Nat} {a : Act} {w : World} {l : List Oper} (hm : P.follows .mixedOrders = true) (hs : Region.noSelect l.toArray = true)
    (hn : (l.length == ps.length + m) = true) (hi : is.length = ps.length) (hps : ∀ j, j < ps.length → ps[j]? = (is[j]?).bind fun i => l.toArray[i]?) (hp : ps.all plainOp = true)
    (hB : pickUp .any l.toArray ex is (Array.replicate l.length false) = true) (hQ : ∀ c a d v w, Q (.panic c) (Act.put a d v) w → Q (.panic c) a w) (hS : S w.drew)
    (h : wpQuiet P l.toArray S (fun a' => ∀ w', S w' → wpAnyG P .any l.toArray Q S ex m (picked is (Array.replicate l.length false)) a' w') ps a) :
    (Code.region id l.toArray true).wp P Q a w := by
  have hn' : l.length = ps.length + m := by simpa using hn
  have := wpAnyG_pick (P := P) (md := .any) (S := S) (Q := Q) (ex := ex) hs hQ m is ps (Array.replicate l.length false) a w.drew hi hps hp hB (Closed.start _) hS h
  refine wp_region_any hm (wpAny_of_G (S := S) (ex := ex) _ _ _ _ ?_)
  rw [← hn'] at this
  simpa using this

/-- two operations may come up -/
theorem wpAnyG_two {P : Program} {md : Region.Mode} {ops : Array Oper} {Q : Exit → Act → World → Prop} {S : World → Prop} {ex : List Nat} {i j : Nat} {oi oj : Oper} {fuel : Nat} {listed : Array Bool} {a : Act} {w : World} (hr : Region.ready md ops listed = [i, j]) (hi : ops[i]? = some oi) (hj : ops[j]? = some oj)
    (h1 : ∀ K' : Act → World → Prop, Shut (∀ a w, S w → (S w → wpAnyG P md ops Q S ex fuel (listed.setIfInBounds i true) a w) → K' a w) → if Region.wanted oi (yielded ops a.tmps) = true then Oper.wp P oi a w K' Q else K' (a.put oi.dst undef) w)
    (h2 : ∀ K' : Act → World → Prop, Shut (∀ a w, S w → (S w → wpAnyG P md ops Q S ex fuel (listed.setIfInBounds j true) a w) → K' a w) → if Region.wanted oj (yielded ops a.tmps) = true then Oper.wp P oj a w K' Q else K' (a.put oj.dst undef) w) :
    wpAnyG P md ops Q S ex (fuel + 1) listed a w := by
  refine ⟨fun h0 => absurd (hr ▸ h0) (by simp), fun k hk => ?_⟩
  rw [hr] at hk
  simp only [List.mem_cons, List.not_mem_nil, or_false] at hk
  rcases hk with rfl | rfl
  · exact wpOp_step hi (fun K' hK => h1 K' (fun a w hS hW => hK a w ⟨fun _ _ => hS, hW hS⟩))
  · exact wpOp_step hj (fun K' hK => h2 K' (fun a w hS hW => hK a w ⟨fun _ _ => hS, hW hS⟩))

section
variable {P : Program} {ops : Array Oper} {md : Region.Mode} {S : World → Prop} {Q : Exit → Act → World → Prop} {ex : List Nat}
/-- an operation that reads what S says is taken, the world stays as it is -/
theorem wpAnyG_takeS {i : Nat} {oi : Oper} {v : Value} {fuel : Nat} {listed : Array Bool} {a : Act} {w : World} (hi : ops[i]? = some oi) (hs : Region.noSelect ops = true) (hf : Region.free md ops listed i = true) (hr : (Region.ready md ops listed).contains i = true) (hx : (ex.all fun n => waits md ops i ops.size n) = true)
    (hQ : ∀ c a d v w, Q (.panic c) (Act.put a d v) w → Q (.panic c) a w) (hc : Closed md ops listed) (hw : Region.wanted oi (yielded ops a.tmps) = true) (hS : S w) (hy : ∀ w, S w → (execOp a.eval oi).run P w = .ok (.value v) w)
    (h : wpAnyG P md ops Q S ex fuel (listed.setIfInBounds i true) (a.put oi.dst v) w) : wpAnyG P md ops Q S ex (fuel + 1) listed a w :=
  wpAnyG_first (T := S) hi (Region.noSelect_spec hs) (fun c a w => hQ c a oi.dst v w) (fun l j w w' hcl hj hir hT hk => hk (by
    cases e : ex.contains j
    · rfl
    · have hw' := List.all_eq_true.1 hx j (by simpa using e)
      exact (waits_not hcl hw' hj hir).elim) hT) fuel listed a w hc (Region.free_spec hi hf) (by simpa using hr) (.inl ⟨hw, hy⟩) hS h
theorem wp_region_G (S : World → Prop) (ex : List Nat) {id : Nat} {a : Act} {w : World} {l : List Oper} (hm : P.follows .mixedOrders = true) (h : wpAnyG P .any l.toArray Q S ex l.length (Array.replicate l.length false) a w.drew) : (Code.region id l.toArray true).wp P Q a w := by
  refine wp_region_any hm (wpAny_of_G (S := S) (ex := ex) _ _ _ _ ?_)
  simpa using h
end

end Go.Proofs.YtgblohjdiheemaaGreat
