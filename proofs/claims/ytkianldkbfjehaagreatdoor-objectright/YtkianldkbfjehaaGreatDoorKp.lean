/- Texts put together: Good, Good2, LayL, LayM. -/
import Derived.Test.YtkianldkbfjehaaGreatDoorKh
import Derived.Test.YtkianldkbfjehaaGreatDoorKhb
import Derived.Test.YtkianldkbfjehaaGreatDoorKo

/- What an item holds that a line says. -/
namespace Go.Proofs.YtkianldkbfjehaaGreatDoor
open Go.RowKit

/-- what an item that may be holds, by its kind -/
def GoodP (x : Src) : Prop := x.k = 1 ∨ (x.k = 2 ∧ rightB x.o.toNat x.a x.b x.m = true) ∨ x.k = 3 ∨ (x.k = 4 ∧ 1 ≤ x.d.length ∧ x.d.length ≤ 64 ∧ ∀ c ∈ x.d, 0 ≤ c ∧ c ≤ 255) ∨ (x.k = 5 ∧ 0 ≤ x.n ∧ x.n ≤ 4096) ∨ (x.k = 6 ∧ (x.n = 1 ∨ x.n = 2 ∨ x.n = 4 ∨ x.n = 8 ∨ x.n = 16 ∨ x.n = 32 ∨ x.n = 64)) ∨ x.k = 7

theorem gregL_in {f : List UInt8} {r : Int} (h : regL f = some r) : 0 ≤ r ∧ r ≤ 7 := by
  unfold regL at h
  split at h
  · split at h
    · injection h with h; omega
    · cases h
  · cases h
theorem goL_none {x y : Src} {fs : List (Nat × List UInt8)} (h : goL x [] fs = .inr y) : fs = [] ∧ y = x := by
  cases fs with
  | nil => rw [goL] at h; injection h with h; exact ⟨rfl, h.symm⟩
  | cons q fs => simp [goL] at h
theorem goL_some {x y : Src} {p : Nat} {ps : List Nat} {fs : List (Nat × List UInt8)} (h : goL x (p :: ps) fs = .inr y) (hf : 0 < fs.length) : ∃ f fs', fs.length = fs'.length + 1 ∧ (readL p x f).1 = 0 ∧ goL (readL p x f).2 ps fs' = .inr y := by
  cases fs with
  | nil => simp at hf
  | cons q fs =>
    obtain ⟨c, f⟩ := q
    rw [goL] at h
    split at h
    · rename_i h0; exact ⟨f, fs, rfl, h0, h⟩
    · cases h
theorem gread0 {x : Src} {f : List UInt8} (h : (readL 0 x f).1 = 0) : ∃ r, 0 ≤ r ∧ r ≤ 7 ∧ (readL 0 x f).2 = { x with a := r } := by
  unfold readL at h ⊢
  simp only [if_true] at h ⊢
  cases e : regL f with
  | none => rw [e] at h; simp at h
  | some r => exact ⟨r, (gregL_in e).1, (gregL_in e).2, rfl⟩
theorem gread1 {x : Src} {f : List UInt8} (h : (readL 1 x f).1 = 0) : ∃ r, 0 ≤ r ∧ r ≤ 7 ∧ (readL 1 x f).2 = { x with b := r } := by
  unfold readL at h ⊢
  simp only [if_true, Nat.reduceEqDiff, if_false] at h ⊢
  cases e : regL f with
  | none => rw [e] at h; simp at h
  | some r => exact ⟨r, (gregL_in e).1, (gregL_in e).2, rfl⟩
theorem gread3 {x : Src} {f : List UInt8} (h : (readL 3 x f).1 = 0) : ∃ s, (readL 3 x f).2 = { x with name := s } := by
  unfold readL at h ⊢
  simp only [if_true, Nat.reduceEqDiff, if_false] at h ⊢
  split at h
  · rename_i e; rw [if_pos e]; exact ⟨_, rfl⟩
  · simp at h
theorem greadN {p : Nat} {x : Src} {f : List UInt8} (hp : p = 2 ∨ 5 ≤ p) (h : (readL p x f).1 = 0) : ∃ v, holdsB p v = true ∧ (readL p x f).2 = putS p x v := by
  unfold readL at h ⊢
  rw [if_neg (by omega), if_neg (by omega), if_neg (by omega), if_neg (by omega)] at h ⊢
  cases e : numL f with
  | none => rw [e] at h; simp at h
  | some v =>
    rw [e] at h
    simp only at h ⊢
    split at h
    · rename_i hv; rw [if_pos hv]; exact ⟨v, hv, rfl⟩
    · simp at h
theorem goL_bytes : ∀ (ps : List Nat) (x y : Src) (fs : List (Nat × List UInt8)), (∀ p ∈ ps, p = 5) → goL x ps fs = .inr y → (∀ c ∈ x.d, 0 ≤ c ∧ c ≤ 255) → y.k = x.k ∧ y.d.length = x.d.length + fs.length ∧ fs.length ≤ ps.length ∧ ∀ c ∈ y.d, 0 ≤ c ∧ c ≤ 255
  | ps, x, y, [], _, h, hx => by rw [goL] at h; injection h with h; subst h; exact ⟨rfl, rfl, Nat.zero_le _, hx⟩
  | [], x, y, q :: fs, _, h, _ => by simp [goL] at h
  | p :: ps, x, y, (c, f) :: fs, hp, h, hx => by
    rw [goL] at h
    split at h
    · rename_i h0
      obtain rfl := hp p (by simp)
      obtain ⟨v, hv, e⟩ := greadN (.inr (Nat.le_refl 5)) h0
      rw [e] at h
      have hv' : 0 ≤ v ∧ v ≤ 255 := by simpa [holdsB] using hv
      have e2 : putS 5 x v = { x with d := x.d ++ [v] } := rfl
      rw [e2] at h
      obtain ⟨h1, h2, h3, h4⟩ := goL_bytes ps _ y fs (fun q hq => hp q (by simp [hq])) h (by
        intro c hc
        rcases List.mem_append.1 hc with h | h
        · exact hx c h
        · rw [List.mem_singleton] at h; rw [h]; exact hv')
      refine ⟨h1, ?_, by simp; omega, h4⟩
      rw [h2]; simp; omega
    · cases h

end Go.Proofs.YtkianldkbfjehaaGreatDoor

/- What an item holds that a line says: whole. -/
namespace Go.Proofs.YtkianldkbfjehaaGreatDoor
open Go.RowKit

theorem readL_k (p : Nat) (x : Src) (f : List UInt8) : (readL p x f).2.k = x.k := by
  unfold readL
  split
  · split <;> rfl
  split
  · split <;> rfl
  split
  · split <;> rfl
  split
  · split <;> rfl
  split
  · rfl
  split
  · unfold putS; split
    · rfl
    split <;> rfl
  · rfl
theorem goL_k : ∀ (fs : List (Nat × List UInt8)) (x : Src) (ps : List Nat) (y : Src), goL x ps fs = .inr y → y.k = x.k
  | [], x, ps, y, h => by rw [goL] at h; injection h with h; rw [← h]
  | (c, f) :: fs, x, [], y, h => by simp [goL] at h
  | (c, f) :: fs, x, p :: ps, y, h => by
    rw [goL] at h
    split at h
    · rw [goL_k fs _ ps y h, readL_k]
    · cases h
theorem ops_good (o : Nat) (ho : 1 ≤ o ∧ o < 17) (fs : List (Nat × List UInt8)) (y : Src) (h : goL (formO o).1 (plO o) fs = .inr y) (hl : (plO o).length ≤ fs.length) : GoodP y := by
  refine .inr (.inl ⟨goL_k _ _ _ _ h, ?_⟩)
  have hs : o = 1 ∨ o = 2 ∨ o = 3 ∨ o = 4 ∨ o = 13 ∨ o = 5 ∨ (o = 6 ∨ o = 7 ∨ o = 8) ∨ (o = 9 ∨ o = 10 ∨ o = 14 ∨ o = 15) ∨ (o = 11 ∨ o = 12) ∨ o = 16 := by omega
  rcases hs with rfl | rfl | rfl | rfl | rfl | rfl | h3 | h4 | h5 | rfl
  · obtain ⟨-, rfl⟩ := goL_none h; decide
  · obtain ⟨-, rfl⟩ := goL_none h; decide
  · obtain ⟨-, rfl⟩ := goL_none h; decide
  · obtain ⟨-, rfl⟩ := goL_none h; decide
  · obtain ⟨-, rfl⟩ := goL_none h; decide
  · have hl2 : 2 ≤ fs.length := hl
    obtain ⟨f, fs', e, h0, h⟩ := goL_some (ps := [2]) h (by omega)
    obtain ⟨r, r0, r1, er⟩ := gread0 h0
    rw [er] at h
    obtain ⟨f2, fs2, e2, h0, h⟩ := goL_some (ps := []) h (by omega)
    obtain ⟨v, hv, ev⟩ := greadN (.inl rfl) h0
    rw [ev] at h
    obtain ⟨-, rfl⟩ := goL_none h
    show rightB 5 r 0 v = true
    simp [rightB, regB, numB, rg, kd]; omega
  · have hp : plO o = [0, 1] := by rcases h3 with rfl | rfl | rfl <;> rfl
    rw [hp] at h hl
    have hl2 : 2 ≤ fs.length := hl
    obtain ⟨f, fs', e, h0, h⟩ := goL_some (ps := [1]) h (by omega)
    obtain ⟨r, r0, r1, er⟩ := gread0 h0
    rw [er] at h
    obtain ⟨f2, fs2, e2, h0, h⟩ := goL_some (ps := []) h (by omega)
    obtain ⟨q, q0, q1, eq⟩ := gread1 h0
    rw [eq] at h
    obtain ⟨-, rfl⟩ := goL_none h
    show rightB (o : Int).toNat r q 0 = true
    rcases h3 with rfl | rfl | rfl <;> (simp [rightB, regB, numB, rg, kd]; omega)
  · have hp : plO o = [0, 3] := by rcases h4 with rfl | rfl | rfl | rfl <;> rfl
    rw [hp] at h hl
    have hl2 : 2 ≤ fs.length := hl
    obtain ⟨f, fs', e, h0, h⟩ := goL_some (ps := [3]) h (by omega)
    obtain ⟨r, r0, r1, er⟩ := gread0 h0
    rw [er] at h
    obtain ⟨f2, fs2, e2, h0, h⟩ := goL_some (ps := []) h (by omega)
    obtain ⟨s, es⟩ := gread3 h0
    rw [es] at h
    obtain ⟨-, rfl⟩ := goL_none h
    show rightB (o : Int).toNat r 0 0 = true
    rcases h4 with rfl | rfl | rfl | rfl <;> (simp [rightB, regB, numB, rg, kd]; omega)
  · have hp : plO o = [3] := by rcases h5 with rfl | rfl <;> rfl
    rw [hp] at h hl
    have hl2 : 1 ≤ fs.length := hl
    obtain ⟨f, fs', e, h0, h⟩ := goL_some (ps := []) h (by omega)
    obtain ⟨s, es⟩ := gread3 h0
    rw [es] at h
    obtain ⟨-, rfl⟩ := goL_none h
    show rightB (o : Int).toNat 0 0 0 = true
    rcases h5 with rfl | rfl <;> decide
  · have hl2 : 1 ≤ fs.length := hl
    obtain ⟨f, fs', e, h0, h⟩ := goL_some (ps := []) h (by omega)
    obtain ⟨r, r0, r1, er⟩ := gread0 h0
    rw [er] at h
    obtain ⟨-, rfl⟩ := goL_none h
    show rightB 16 r 0 0 = true
    simp [rightB, regB, numB, rg, kd]; omega
theorem words_good (i : Nat) (fs : List (Nat × List UInt8)) (y : Src) (h : goL (formW i).1 (formW i).2.1 fs = .inr y) (hl : (formW i).2.2 ≤ fs.length) : GoodP y := by
  have hk := goL_k _ _ _ _ h
  have hs : i = 0 ∨ i = 1 ∨ i = 2 ∨ i = 3 ∨ ∃ j, i = j + 4 := by
    by_cases h4 : i < 4
    · omega
    · exact .inr (.inr (.inr (.inr ⟨i - 4, by omega⟩)))
  rcases hs with rfl | rfl | rfl | rfl | ⟨j, rfl⟩
  · exact .inr (.inr (.inl hk))
  · obtain ⟨h1, h2, h3, h4⟩ := goL_bytes (List.replicate 64 5) (srcK 4) y fs (fun p hp => List.eq_of_mem_replicate hp) h (by intro c hc; cases hc)
    have hl2 : 1 ≤ fs.length := hl
    have e0 : (srcK 4).d.length = 0 := rfl
    rw [List.length_replicate] at h3
    exact .inr (.inr (.inr (.inl ⟨h1, by omega, by omega, h4⟩)))
  · have hl2 : 1 ≤ fs.length := hl
    obtain ⟨f, fs', e, h0, h⟩ := goL_some (ps := []) h (by omega)
    obtain ⟨v, hv, ev⟩ := greadN (.inr (by decide)) h0
    rw [ev] at h
    obtain ⟨-, rfl⟩ := goL_none h
    have hv' : 0 ≤ v ∧ v ≤ 4096 := by simpa [holdsB] using hv
    exact .inr (.inr (.inr (.inr (.inl ⟨hk, hv'⟩))))
  · have hl2 : 1 ≤ fs.length := hl
    obtain ⟨f, fs', e, h0, h⟩ := goL_some (ps := []) h (by omega)
    obtain ⟨v, hv, ev⟩ := greadN (.inr (by decide)) h0
    rw [ev] at h
    obtain ⟨-, rfl⟩ := goL_none h
    have hv' : v = 1 ∨ v = 2 ∨ v = 4 ∨ v = 8 ∨ v = 16 ∨ v = 32 ∨ v = 64 := by simpa [holdsB] using hv
    exact .inr (.inr (.inr (.inr (.inr (.inl ⟨hk, hv'⟩)))))
  · exact .inr (.inr (.inr (.inr (.inr (.inr hk)))))
theorem opL_in {l : List UInt8} {o : Nat} (h : opL l = some o) : 1 ≤ o ∧ o < 17 := by
  have := List.mem_of_find?_eq_some h
  rw [List.mem_range'] at this
  obtain ⟨i, hi, e⟩ := this
  omega
/-- what a line says is good -/
theorem lineL_good (l : List UInt8) (h : (lineL l).2.1 = true) : GoodP (lineL l).1 := by
  unfold lineL at h ⊢
  split at h
  · simp at h
  · rename_i c f fs hfs
    split at h
    · simp at h
    · rename_i x ps least hform
      split at h
      · simp at h
      · rename_i y hgo
        split at h
        · simp at h
        · rename_i hle
          rw [if_neg hle]
          unfold formL at hform
          split at hform
          · rename_i i hi
            injection hform with hform
            have hw := words_good i fs y (by rw [hform]; exact hgo) (by rw [hform]; exact Nat.le_of_not_lt hle)
            exact hw
          · split at hform
            · rename_i o ho
              injection hform with hform
              have e1 : (formO o).1 = x := by rw [hform]
              have e2 : plO o = ps := congrArg (fun q => q.2.1) hform
              have e3 : (plO o).length = least := congrArg (fun q => q.2.2) hform
              exact ops_good o (opL_in ho) fs y (by rw [e1, e2]; exact hgo) (by rw [e3]; exact Nat.le_of_not_lt hle)
            · split at hform
              · injection hform with hform
                injection hform with h1 h2
                have hk := goL_k _ _ _ _ hgo
                rw [← h1] at hk
                exact .inl hk
              · cases hform

end Go.Proofs.YtkianldkbfjehaaGreatDoor

/- Items laid one behind the other, as lists. -/
namespace Go.Proofs.YtkianldkbfjehaaGreatDoor
open Go.RowKit

/-- the bytes that an item itself says -/
def saidL (x : Src) : List Int := if x.k = 2 then encL x.o.toNat x.a x.b x.m else if x.k = 4 then x.d else []
/-- how many bytes it takes at a place -/
def sizeL (x : Src) (at_ : Nat) : Nat := if x.k = 5 then x.n.toNat else if x.k = 6 then (x.n.toNat - at_ % x.n.toNat) % x.n.toNat else (saidL x).length
/-- its bytes there -/
def pieceL (x : Src) (at_ : Nat) : List Int := if x.k = 5 ∨ x.k = 6 then List.replicate (sizeL x at_) 0 else saidL x
theorem piece_size (x : Src) (a : Nat) : (pieceL x a).length = sizeL x a := by
  unfold pieceL
  by_cases h : x.k = 5 ∨ x.k = 6
  · rw [if_pos h, List.length_replicate]
  · rw [if_neg h]
    unfold sizeL
    rw [if_neg fun e => h (.inl e), if_neg fun e => h (.inr e)]
/-- where each begins, and the end -/
def placesL : Nat → List Src → List Nat × Nat
  | a, [] => ([], a)
  | a, x :: xs => (a :: (placesL (a + sizeL x a) xs).1, (placesL (a + sizeL x a) xs).2)
/-- all their bytes -/
def bytesL : Nat → List Src → List Int
  | _, [] => []
  | a, x :: xs => pieceL x a ++ bytesL (a + sizeL x a) xs
theorem places_length : ∀ (xs : List Src) (a : Nat), (placesL a xs).1.length = xs.length
  | [], _ => rfl
  | x :: xs, a => by simp [placesL, places_length xs]
theorem bytes_length : ∀ (xs : List Src) (a : Nat), a + (bytesL a xs).length = (placesL a xs).2
  | [], _ => rfl
  | x :: xs, a => by
    have := bytes_length xs (a + sizeL x a)
    simp only [bytesL, placesL, List.length_append, piece_size]
    omega
theorem places_append : ∀ (xs ys : List Src) (a : Nat), placesL a (xs ++ ys) = ((placesL a xs).1 ++ (placesL (placesL a xs).2 ys).1, (placesL (placesL a xs).2 ys).2)
  | [], ys, a => rfl
  | x :: xs, ys, a => by simp [placesL, places_append xs ys]
theorem bytes_append : ∀ (xs ys : List Src) (a : Nat), bytesL a (xs ++ ys) = bytesL a xs ++ bytesL (placesL a xs).2 ys
  | [], ys, a => rfl
  | x :: xs, ys, a => by simp [bytesL, placesL, bytes_append xs ys]
theorem places_grow : ∀ (xs : List Src) (a : Nat), a ≤ (placesL a xs).2
  | [], a => Nat.le_refl a
  | x :: xs, a => by have := places_grow xs (a + sizeL x a); simp only [placesL]; omega
theorem size_small {x : Src} (h : GoodP x) (a : Nat) : sizeL x a ≤ 4096 := by
  unfold sizeL saidL
  rcases h with h | ⟨h, hr⟩ | h | ⟨h, h1, h2, -⟩ | ⟨h, h1, h2⟩ | ⟨h, h1⟩ | h
  · simp [h]
  · have ho : x.o.toNat < 17 := by
      simp only [rightB, Bool.and_eq_true, decide_eq_true_eq] at hr
      exact hr.1.2
    have hl := encL_length x.o.toNat x.a x.b x.m ho
    have h3 : lenN x.o.toNat ≤ 6 := by
      generalize x.o.toNat = o at ho
      have : ∀ o, o < 17 → lenN o ≤ 6 := by decide
      exact this o ho
    simp only [h, if_true]
    rw [if_neg (by decide), if_neg (by decide), hl]
    omega
  · simp [h]
  · simp [h]; omega
  · simp [h]; omega
  · rw [if_neg (by omega), if_pos h]
    have : 0 < x.n.toNat := by omega
    have := Nat.mod_lt (x.n.toNat - a % x.n.toNat) this
    omega
  · simp [h]

end Go.Proofs.YtkianldkbfjehaaGreatDoor

/- Items laid one behind the other, as lists: what Check lets through, places one by one. -/
namespace Go.Proofs.YtkianldkbfjehaaGreatDoor
open Go.RowKit

theorem may_good {x : Src} (h : mayB x = true) : GoodP x := by
  obtain ⟨h1, h2⟩ := (mayB_iff x).1 h
  have := lineL_good _ h1
  rw [h2] at this
  exact this
theorem chk_good : ∀ (xs : List Src) (i : Nat), (chkAt i xs).1 = 0 → ∀ x ∈ xs, mayB x = true
  | [], _, _, _, hx => by cases hx
  | y :: ys, i, h, x, hx => by
    unfold chkAt at h
    split at h
    · simp at h
    · rename_i hy
      split at h
      · simp at h
      · rcases List.mem_cons.1 hx with rfl | hx
        · simpa using hy
        · exact chk_good ys (i + 1) h x hx
theorem check_good {xs : List Src} (h : (checkL xs).1 = 0) : xs.length ≤ 4096 ∧ ∀ x ∈ xs, mayB x = true := by
  unfold checkL at h
  split at h
  · simp at h
  · exact ⟨by omega, chk_good xs 0 h⟩
theorem check_one (x : Src) : (checkL [x]).1 = if mayB x = false then 2 else if x.k = 3 then 182 else 0 := by
  unfold checkL chkAt
  rw [if_neg (by simp)]
  by_cases h : mayB x = false
  · rw [if_pos h, if_pos h]
  · rw [if_neg h, if_neg h]
    by_cases h3 : x.k = 3
    · rw [if_pos ⟨h3, rfl⟩, if_pos h3]
    · rw [if_neg (fun e => h3 e.1), if_neg h3]; rfl
/-- what Places and Bytes tell -/
def layE (xs : List Src) : Int := if (checkL xs).1 ≠ 0 then (checkL xs).1 else if 65536 < (placesL 0 xs).2 then 3 else 0
theorem layE_ok {xs : List Src} (h : layE xs = 0) : (checkL xs).1 = 0 ∧ (placesL 0 xs).2 ≤ 65536 := by
  unfold layE at h
  split at h
  · rename_i h1; exact absurd h h1
  · rename_i h1
    split at h
    · cases h
    · exact ⟨by omega, by omega⟩
theorem place_step (xs : List Src) (a i : Nat) (h : i < xs.length) : (placesL a (xs.take (i + 1))).2 = (placesL a (xs.take i)).2 + sizeL xs[i] (placesL a (xs.take i)).2 := by
  rw [List.take_succ_eq_append_getElem h, places_append]; rfl
theorem place_get : ∀ (xs : List Src) (a i : Nat), i < xs.length → (placesL a xs).1[i]? = some (placesL a (xs.take i)).2
  | [], _, _, h => by simp at h
  | x :: xs, a, 0, _ => by simp [placesL]
  | x :: xs, a, i + 1, h => by
    have := place_get xs (a + sizeL x a) i (by simpa using h)
    simp only [placesL, List.take_succ_cons, List.getElem?_cons_succ]
    exact this
theorem places_take (xs : List Src) (a i : Nat) (h : i < xs.length) : (placesL a (xs.take (i + 1))).1 = (placesL a (xs.take i)).1 ++ [(placesL a (xs.take i)).2] := by
  rw [List.take_succ_eq_append_getElem h, places_append]; rfl
theorem bytes_take (xs : List Src) (a i : Nat) (h : i < xs.length) : bytesL a (xs.take (i + 1)) = bytesL a (xs.take i) ++ pieceL xs[i] (placesL a (xs.take i)).2 := by
  rw [List.take_succ_eq_append_getElem h, bytes_append]; simp [bytesL]
theorem place_le (xs : List Src) (a i : Nat) : (placesL a (xs.take i)).2 ≤ (placesL a xs).2 := by
  have h : xs = xs.take i ++ xs.drop i := (List.take_append_drop i xs).symm
  conv => rhs; rw [h, places_append]
  exact places_grow _ _
theorem place_small {xs : List Src} (h : ∀ x ∈ xs, mayB x = true) : ∀ i, i ≤ xs.length → (placesL 0 (xs.take i)).2 ≤ i * 4096
  | 0, _ => by simp [placesL]
  | i + 1, hi => by
    have h1 := place_small h i (by omega)
    have h2 := size_small (may_good (h xs[i] (List.getElem_mem (by omega)))) (placesL 0 (xs.take i)).2
    rw [place_step xs 0 i (by omega)]
    omega
theorem align_end {x : Src} (h : GoodP x) (hk : x.k = 6) (a : Nat) : (a + sizeL x a) % x.n.toNat = 0 := by
  have hn : 0 < x.n.toNat := by
    rcases h with h | ⟨h, -⟩ | h | ⟨h, -⟩ | ⟨h, -⟩ | ⟨-, h⟩ | h <;> omega
  unfold sizeL
  rw [if_neg (by omega), if_pos hk]
  generalize x.n.toNat = n at *
  have hm := Nat.mod_lt a hn
  have hd := Nat.div_add_mod a n
  by_cases h0 : a % n = 0
  · rw [h0, Nat.sub_zero, Nat.mod_self, Nat.add_zero, h0]
  · rw [Nat.mod_eq_of_lt (show n - a % n < n by omega)]
    have : a + (n - a % n) = n * (a / n + 1) := by rw [Nat.mul_add]; omega
    rw [this, Nat.mul_mod_right]

end Go.Proofs.YtkianldkbfjehaaGreatDoor
