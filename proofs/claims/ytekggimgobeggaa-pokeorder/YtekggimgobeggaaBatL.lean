/- Batches as lists of sites: what Add, Find and All are. -/
import Derived.Test.YtekggimgobeggaaNums
namespace Go.Proofs.Ytekggimgobeggaa

/-- a site -/
structure Si where
  key : Int
  at_ : Int
  to_ : Int
deriving DecidableEq
/-- rising, each five behind the one ahead, within bounds -/
structure Srt (L : List Si) : Prop where
  gap : ∀ i j (hj : j < L.length) (h : i < j), (L[i]'(Nat.lt_trans h hj)).at_ + 5 ≤ L[j].at_
  lo : ∀ i (hi : i < L.length), 0 ≤ L[i].at_
  hi : ∀ i (hi : i < L.length), L[i].at_ ≤ 65531
theorem Srt.nil : Srt [] := ⟨fun _ _ h => absurd h (by simp), fun _ h => absurd h (by simp), fun _ h => absurd h (by simp)⟩
def nearB (L : List Si) (a : Int) : Bool := L.any fun x => decide (-5 < a - x.at_ ∧ a - x.at_ < 5)
def badB (a t : Int) : Bool := decide (a < 0 ∨ 65531 < a ∨ t < 0 ∨ 65536 < t)
def insL (s : Si) : List Si → List Si
  | [] => [s]
  | x :: xs => if s.at_ < x.at_ then s :: x :: xs else x :: insL s xs
def dirK (up : Bool) : Int := if up = true then 1 else 0
def addE (L : List Si) (a t : Int) : Int := if badB a t = true then 2 else if nearB L a = true then 2 else if 4 ≤ L.length then 3 else 0
def addR (L : List Si) (a t : Int) (up : Bool) : List Si := if addE L a t = 0 then insL ⟨dirK up, a, t⟩ L else L
def fndB (L : List Si) (a : Int) : Bool := L.any fun x => decide (x.at_ = a)
def fndI (L : List Si) (a : Int) : Nat := if fndB L a = true then L.findIdx (fun x => decide (x.at_ = a)) else 0

theorem nearB_iff (L : List Si) (a : Int) : nearB L a = true ↔ ∃ i, ∃ h : i < L.length, -5 < a - L[i].at_ ∧ a - L[i].at_ < 5 := by
  unfold nearB
  rw [List.any_eq_true]
  constructor
  · rintro ⟨x, hx, h⟩
    obtain ⟨i, hi, rfl⟩ := List.getElem_of_mem hx
    exact ⟨i, hi, by simpa using h⟩
  · rintro ⟨i, hi, h⟩
    exact ⟨L[i], List.getElem_mem hi, by simpa using h⟩
theorem fndB_iff (L : List Si) (a : Int) : fndB L a = true ↔ ∃ i, ∃ h : i < L.length, L[i].at_ = a := by
  unfold fndB
  rw [List.any_eq_true]
  constructor
  · rintro ⟨x, hx, h⟩
    obtain ⟨i, hi, rfl⟩ := List.getElem_of_mem hx
    exact ⟨i, hi, by simpa using h⟩
  · rintro ⟨i, hi, h⟩
    exact ⟨L[i], List.getElem_mem hi, by simpa using h⟩
theorem fnd_first {L : List Si} {a : Int} {i : Nat} (hi : i < L.length) (h1 : L[i].at_ = a) (h2 : ∀ j (h : j < i), (L[j]'(Nat.lt_trans h hi)).at_ ≠ a) : fndB L a = true ∧ fndI L a = i := by
  have hb : fndB L a = true := (fndB_iff L a).2 ⟨i, hi, h1⟩
  refine ⟨hb, ?_⟩
  unfold fndI
  rw [if_pos hb, List.findIdx_eq hi]
  exact ⟨by simpa using h1, fun j hj => by simpa using h2 j hj⟩
theorem fnd_none {L : List Si} {a : Int} (h : ∀ j (h : j < L.length), L[j].at_ ≠ a) : fndB L a = false ∧ fndI L a = 0 := by
  have hb : fndB L a = false := by
    cases hc : fndB L a
    · rfl
    · obtain ⟨i, hi, e⟩ := (fndB_iff L a).1 hc
      exact absurd e (h i hi)
  refine ⟨hb, ?_⟩
  unfold fndI
  rw [if_neg (by rw [hb]; decide)]
/-- what place answers: i sites lie ahead of a; the one behind lies at it, or all behind lie above it -/
structure Plc (L : List Si) (a : Int) (i : Nat) (f : Bool) : Prop where
  le : i ≤ L.length
  ahead : ∀ j (h : j < L.length), j < i → L[j].at_ < a
  yes : f = true → ∃ h : i < L.length, L[i].at_ = a
  no : f = false → ∀ j (h : j < L.length), i ≤ j → a < L[j].at_
theorem Plc.fnd {L : List Si} {a : Int} {i : Nat} {f : Bool} (h : Plc L a i f) : fndB L a = f ∧ (f = true → fndI L a = i) ∧ (f = false → fndI L a = 0) := by
  cases f
  · obtain ⟨h1, h2⟩ := fnd_none (L := L) (a := a) (fun j hj => by
      by_cases hji : j < i
      · have := h.ahead j hj hji; omega
      · have := h.no rfl j hj (by omega); omega)
    exact ⟨h1, fun h => (by cases h), fun _ => h2⟩
  · obtain ⟨hi, e⟩ := h.yes rfl
    obtain ⟨h1, h2⟩ := fnd_first hi e (fun j hj => by have := h.ahead j (by omega) hj; omega)
    exact ⟨h1, fun _ => h2, fun h => (by cases h)⟩
/-- what near answers -/
def nrB (L : List Si) (i : Nat) (a : Int) : Bool := (decide (0 < i) && decide (a - (L.getD (i - 1) ⟨0, 0, 0⟩).at_ < 5)) || (decide (i < L.length) && decide ((L.getD i ⟨0, 0, 0⟩).at_ - a < 5))
theorem Plc.near {L : List Si} {a : Int} {i : Nat} {f : Bool} (h : Plc L a i f) (hs : Srt L) : nrB L i a = nearB L a := by
  have hle := h.le
  rw [Bool.eq_iff_iff, nearB_iff]
  unfold nrB
  simp only [Bool.or_eq_true, Bool.and_eq_true, decide_eq_true_eq]
  constructor
  · rintro (⟨h0, h1⟩ | ⟨h0, h1⟩)
    · have hi : i - 1 < L.length := by omega
      have := h.ahead (i - 1) hi (by omega)
      simp [List.getD, hi] at h1
      exact ⟨i - 1, hi, by omega, by omega⟩
    · simp [List.getD, h0] at h1
      have : a ≤ L[i].at_ := by
        cases f
        · have := h.no rfl i h0 (Nat.le_refl _); omega
        · obtain ⟨_, e⟩ := h.yes rfl; omega
      exact ⟨i, h0, by omega, by omega⟩
  · rintro ⟨j, hj, h1, h2⟩
    by_cases hji : j < i
    · have hi : i - 1 < L.length := by omega
      refine .inl ⟨by omega, ?_⟩
      simp [List.getD, hi]
      rcases Nat.lt_or_ge j (i - 1) with h3 | h3
      · have := hs.gap j (i - 1) hi h3; omega
      · have : j = i - 1 := by omega
        subst this; omega
    · have hi : i < L.length := by omega
      refine .inr ⟨hi, ?_⟩
      simp [List.getD, hi]
      rcases Nat.lt_or_ge i j with h3 | h3
      · have := hs.gap i j hj h3; omega
      · have : j = i := by omega
        subst this; omega
theorem insL_at : ∀ (L : List Si) (s : Si) (i : Nat), i ≤ L.length → (∀ j (h : j < L.length), j < i → L[j].at_ ≤ s.at_) → (∀ j (h : j < L.length), i ≤ j → s.at_ < L[j].at_) → insL s L = L.take i ++ s :: L.drop i
  | [], s, i, h, _, _ => by
    obtain rfl : i = 0 := by simpa using h
    rfl
  | x :: L, s, 0, h, _, h2 => by
    have := h2 0 (by simp) (Nat.le_refl _)
    simp at this
    simp [insL, this]
  | x :: L, s, i + 1, h, h1, h2 => by
    have h0 := h1 0 (by simp) (by omega)
    simp at h0
    have ih := insL_at L s i (by simpa using h) (fun j hj hji => by have := h1 (j + 1) (by simpa using hj) (by omega); simpa using this) (fun j hj hji => by have := h2 (j + 1) (by simpa using hj) (by omega); simpa using this)
    unfold insL
    rw [if_neg (by omega), ih]
    simp
theorem Plc.ins {L : List Si} {a : Int} {i : Nat} {f : Bool} (h : Plc L a i f) (hn : nearB L a = false) (k t : Int) : insL ⟨k, a, t⟩ L = L.take i ++ ⟨k, a, t⟩ :: L.drop i := by
  have hf : f = false := by
    cases f
    · rfl
    · obtain ⟨hi, e⟩ := h.yes rfl
      have : nearB L a = true := (nearB_iff L a).2 ⟨i, hi, by omega, by omega⟩
      rw [this] at hn; cases hn
  exact insL_at L _ i h.le (fun j hj hji => Int.le_of_lt (h.ahead j hj hji)) (fun j hj hji => h.no hf j hj hji)
/-- the place of an insertion -/
theorem far_of {L : List Si} {a : Int} (hn : nearB L a = false) (j : Nat) (hj : j < L.length) : L[j].at_ + 5 ≤ a ∨ a + 5 ≤ L[j].at_ := by
  by_cases h : -5 < a - L[j].at_ ∧ a - L[j].at_ < 5
  · have := (nearB_iff L a).2 ⟨j, hj, h⟩
    rw [this] at hn; cases hn
  · omega
theorem ins_cut : ∀ (L : List Si) (s : Si), ∃ i, i ≤ L.length ∧ insL s L = L.take i ++ s :: L.drop i ∧ (∀ j (h : j < L.length), j < i → L[j].at_ ≤ s.at_) ∧ ∀ h : i < L.length, s.at_ < L[i].at_
  | [], s => ⟨0, Nat.le_refl _, rfl, fun j h => absurd h (by simp), fun h => absurd h (by simp)⟩
  | x :: L, s => by
    unfold insL
    by_cases hx : s.at_ < x.at_
    · rw [if_pos hx]
      exact ⟨0, by simp, by simp, fun j _ h => absurd h (by omega), fun _ => by simpa using hx⟩
    · rw [if_neg hx]
      obtain ⟨i, h1, h2, h3, h4⟩ := ins_cut L s
      refine ⟨i + 1, by simpa using h1, by simp [h2], ?_, ?_⟩
      · intro j hj hji
        cases j with
        | zero => simp; omega
        | succ j => simpa using h3 j (by simpa using hj) (by omega)
      · intro hi
        simpa using h4 (by simpa using hi)
theorem insL_len (L : List Si) (s : Si) : (insL s L).length = L.length + 1 := by
  obtain ⟨i, h1, h2, _⟩ := ins_cut L s
  rw [h2]; simp; omega
theorem insL_srt {L : List Si} {s : Si} (hs : Srt L) (hn : nearB L s.at_ = false) (h0 : 0 ≤ s.at_) (h1 : s.at_ ≤ 65531) : Srt (insL s L) := by
  obtain ⟨i, hi, e, hlo, hhi⟩ := ins_cut L s
  have hA : ∀ j (hj : j < L.length), j < i → L[j].at_ + 5 ≤ s.at_ := fun j hj hji => by
    have := hlo j hj hji
    have := far_of hn j hj
    omega
  have hB : ∀ j (hj : j < L.length), i ≤ j → s.at_ + 5 ≤ L[j].at_ := fun j hj hji => by
    have h2 := hhi (by omega)
    have h3 := far_of hn j hj
    rcases Nat.lt_or_ge i j with h4 | h4
    · have := hs.gap i j hj h4; omega
    · have : j = i := by omega
      subst this; omega
  have hg : ∀ j (hj : j < (insL s L).length), (j < i ∧ ∃ h : j < L.length, (insL s L)[j] = L[j]) ∨ (j = i ∧ (insL s L)[j] = s) ∨ (i < j ∧ ∃ h : j - 1 < L.length, (insL s L)[j] = L[j - 1]) := by
    intro j hj
    have hj' : j < L.length + 1 := by rw [← insL_len L s]; exact hj
    have hget : (insL s L)[j] = (L.take i ++ s :: L.drop i)[j]'(by rw [← e]; exact hj) := by simp only [e]
    rcases Nat.lt_trichotomy j i with h | h | h
    · refine .inl ⟨h, by omega, ?_⟩
      rw [hget, List.getElem_append_left (by simp; omega), List.getElem_take]
    · refine .inr (.inl ⟨h, ?_⟩)
      subst h
      rw [hget, List.getElem_append_right (by simp; omega)]
      simp [Nat.min_eq_left hi]
    · refine .inr (.inr ⟨h, by omega, ?_⟩)
      rw [hget, List.getElem_append_right (by simp; omega)]
      simp only [List.length_take, Nat.min_eq_left hi]
      obtain ⟨k, rfl⟩ : ∃ k, j = i + 1 + k := ⟨j - i - 1, by omega⟩
      have e1 : i + 1 + k - i = k + 1 := by omega
      simp only [e1, List.getElem_cons_succ, List.getElem_drop]
      congr 1; omega
  refine ⟨fun a b hb hab => ?_, fun a ha => ?_, fun a ha => ?_⟩
  · rcases hg a (Nat.lt_trans hab hb) with ⟨h2, h3, e2⟩ | ⟨h2, e2⟩ | ⟨h2, h3, e2⟩ <;> rcases hg b hb with ⟨k2, k3, f2⟩ | ⟨k2, f2⟩ | ⟨k2, k3, f2⟩ <;> rw [e2, f2]
    · exact hs.gap a b k3 hab
    · exact hA a h3 h2
    · exact hs.gap a (b - 1) k3 (by omega)
    · omega
    · omega
    · exact hB (b - 1) k3 (by omega)
    · omega
    · omega
    · exact hs.gap (a - 1) (b - 1) k3 (by omega)
  · rcases hg a ha with ⟨h2, h3, e2⟩ | ⟨h2, e2⟩ | ⟨h2, h3, e2⟩ <;> rw [e2]
    · exact hs.lo _ _
    · exact h0
    · exact hs.lo _ _
  · rcases hg a ha with ⟨h2, h3, e2⟩ | ⟨h2, e2⟩ | ⟨h2, h3, e2⟩ <;> rw [e2]
    · exact hs.hi _ _
    · exact h1
    · exact hs.hi _ _
theorem addE_zero {L : List Si} {a t : Int} (h : addE L a t = 0) : badB a t = false ∧ nearB L a = false ∧ L.length < 4 := by
  unfold addE at h
  cases h1 : badB a t <;> rw [h1] at h
  · cases h2 : nearB L a <;> rw [h2] at h
    · simp at h
      exact ⟨rfl, rfl, h⟩
    · simp at h
  · simp at h
theorem bad_no {a t : Int} (h : badB a t = false) : 0 ≤ a ∧ a ≤ 65531 ∧ 0 ≤ t ∧ t ≤ 65536 := by
  unfold badB at h
  simp at h
  omega
theorem addR_srt {L : List Si} (hs : Srt L) (a t : Int) (up : Bool) : Srt (addR L a t up) := by
  unfold addR
  by_cases h : addE L a t = 0
  · rw [if_pos h]
    obtain ⟨h1, h2, h3⟩ := addE_zero h
    obtain ⟨b1, b2, b3, b4⟩ := bad_no h1
    exact insL_srt hs h2 b1 b2
  · rw [if_neg h]; exact hs
theorem addR_len {L : List Si} (hl : L.length ≤ 4) (a t : Int) (up : Bool) : (addR L a t up).length ≤ 4 := by
  unfold addR
  by_cases h : addE L a t = 0
  · rw [if_pos h, insL_len]
    have := (addE_zero h).2.2
    omega
  · rw [if_neg h]; exact hl

end Go.Proofs.Ytekggimgobeggaa
