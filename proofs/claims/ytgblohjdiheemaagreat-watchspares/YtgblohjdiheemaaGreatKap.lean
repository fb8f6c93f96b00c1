/- Texts put together: PrgL, PrgA, PrgC, KitS. -/
import Derived.Test.YtgblohjdiheemaaGreatKaf
import Derived.Test.YtgblohjdiheemaaGreatKac
import Derived.Great.BuildSlice
import Derived.Test.YtgblohjdiheemaaGreatKal
import Derived.Test.YtgblohjdiheemaaGreatKab
import Derived.Deep.AppendLies
import Derived.Lib.Hide
import Derived.Test.YtgblohjdiheemaaGreatKaj
import Derived.Test.YtgblohjdiheemaaGreatKam
import Derived.BigQuiet
import Derived.Deep.QuietTactic

/- Ours: what switchyardmade.Program makes, as lists. -/
namespace Go.Proofs.YtgblohjdiheemaaGreat
open Go.RowKit

/-- a number below n -/
def pickZ (a : Int) (n : Nat) : Nat := (a % n).toNat
theorem pickZ_lt (a : Int) (n : Nat) (h : 0 < n) : pickZ a n < n := by
  have h1 := Int.emod_nonneg a (show (n : Int) ≠ 0 by omega)
  have h2 := Int.emod_lt_of_pos a (show (0 : Int) < n by omega)
  unfold pickZ
  omega
/-- an instruction's length, by its kind -/
def lenK (k : Nat) : Nat := if k = 5 ∨ k = 6 ∨ k = 7 then 3 else if k = 8 ∨ k = 9 ∨ k = 12 ∨ k = 13 ∨ k = 14 then 6 else if k = 11 then 1 else if k = 15 then 2 else 5
theorem lenK_le (k : Nat) : 1 ≤ lenK k ∧ lenK k ≤ 6 := by
  unfold lenK
  repeat' split
  all_goals omega
/-- the first 24 numbers -/
def prgT (l : List Int) : List Int := l.take 24
def kindL (l : List Int) : List Nat := l.map fun a => pickZ a 16
/-- where the instruction i stands -/
def plcK : List Nat → Nat → Nat
  | _, 0 => 0
  | [], _ + 1 => 0
  | k :: ks, i + 1 => lenK k + plcK ks i
theorem plcK_succ : ∀ (ks : List Nat) (i : Nat) (h : i < ks.length), plcK ks (i + 1) = plcK ks i + lenK ks[i]
  | [], i, h => absurd h (by simp)
  | k :: ks, 0, _ => by cases ks <;> simp [plcK]
  | k :: ks, i + 1, h => by
    have := plcK_succ ks i (by simpa using h)
    simp only [plcK, this, List.getElem_cons_succ]
    omega
theorem plcK_le : ∀ (ks : List Nat) (i : Nat), plcK ks i ≤ 6 * i
  | _, 0 => by simp [plcK]
  | [], i + 1 => by simp [plcK]
  | k :: ks, i + 1 => by
    have := plcK_le ks i
    have := (lenK_le k).2
    simp only [plcK]
    omega
/-- all places, and the end -/
def plcL (ks : List Nat) : List Int := (List.range (ks.length + 1)).map fun i => ((plcK ks i : Nat) : Int)
theorem plcL_len (ks : List Nat) : (plcL ks).length = ks.length + 1 := by simp [plcL]
def roomN (at_ : Nat) : Nat := (at_ + 8) / 4 * 4
def quietL : List Int := [15, 31, 68, 0, 0]
/-- an instruction's bytes -/
def codeL (k : Nat) (n at_ to_ room : Int) : List Int :=
  if k = 5 then [1, n % 8, n / 8 % 8]
  else if k = 6 then [41, n % 8, n / 8 % 8]
  else if k = 7 then [137, n % 8, n / 8 % 8]
  else if k = 8 then [116, n % 8] ++ le4 (to_ - at_ - 6)
  else if k = 9 then [117, n % 8] ++ le4 (to_ - at_ - 6)
  else if k = 10 then [232] ++ le4 (to_ - at_ - 5)
  else if k = 11 then (if n % 5 = 0 then [0] else [195])
  else if k = 12 then [184, n % 8] ++ le4 (n % 100 - 50)
  else if k = 13 then [139, n % 8] ++ le4 (room + n / 8 % 13)
  else if k = 14 then [136, n % 8] ++ le4 (room + n / 8 % 13)
  else [230, n % 8]
theorem codeL_len (k : Nat) (n a t r : Int) (h5 : 5 ≤ k) (h16 : k < 16) : (codeL k n a t r).length = lenK k := by
  have : k = 5 ∨ k = 6 ∨ k = 7 ∨ k = 8 ∨ k = 9 ∨ k = 10 ∨ k = 11 ∨ k = 12 ∨ k = 13 ∨ k = 14 ∨ k = 15 := by omega
  rcases this with rfl | rfl | rfl | rfl | rfl | rfl | rfl | rfl | rfl | rfl | rfl
  all_goals first | rfl | (simp only [codeL, lenK]; simp; split <;> rfl)
/-- the number of an instruction, and where it leads -/
def numP (l : List Int) (i : Nat) : Nat := pickZ (IntKind.i64.wrap ((l.getD i 0).tdiv 16)) 1000003
def tgtP (l : List Int) (i : Nat) : Nat := plcK (kindL l) (pickZ ((numP l i / 8 : Nat) : Int) (l.length + 1))
def pieceP (l : List Int) (i : Nat) : List Int :=
  if (kindL l).getD i 0 < 5 then quietL else codeL ((kindL l).getD i 0) (numP l i : Nat) (plcK (kindL l) i : Nat) (tgtP l i : Nat) (roomN (plcK (kindL l) l.length) : Nat)
def bodyP (l : List Int) : Nat → List Int
  | 0 => []
  | i + 1 => bodyP l i ++ pieceP l i
/-- the numbers of the sites -/
def keysP (l : List Int) : Nat → List Int
  | 0 => []
  | i + 1 => if (kindL l).getD i 0 < 5 then keysP l i ++ [((numP l i : Nat) : Int)] else keysP l i
/-- the sites' places and targets -/
def sitesP (l : List Int) : Nat → List (Nat × Nat)
  | 0 => []
  | i + 1 => if (kindL l).getD i 0 < 5 then sitesP l i ++ [(plcK (kindL l) i, tgtP l i)] else sitesP l i
theorem kindL_at (l : List Int) (i : Nat) (h : i < l.length) : (kindL l).getD i 0 = pickZ (l.getD i 0) 16 := by
  simp [kindL, List.getD, List.getElem?_eq_getElem h]
theorem kindL_len (l : List Int) : (kindL l).length = l.length := by simp [kindL]
theorem kindL_lt (l : List Int) (i : Nat) : (kindL l).getD i 0 < 16 := by
  by_cases h : i < l.length
  · rw [kindL_at l i h]
    exact pickZ_lt _ _ (by decide)
  · simp [List.getD, List.getElem?_eq_none (show (kindL l).length ≤ i by rw [kindL_len]; omega)]
theorem plc_step (l : List Int) (i : Nat) (h : i < l.length) : plcK (kindL l) (i + 1) = plcK (kindL l) i + lenK ((kindL l).getD i 0) := by
  have h' : i < (kindL l).length := by rw [kindL_len]; exact h
  rw [plcK_succ _ _ h']
  simp [List.getD, List.getElem?_eq_getElem h']
theorem pieceP_len (l : List Int) (i : Nat) : (pieceP l i).length = lenK ((kindL l).getD i 0) := by
  unfold pieceP
  have := kindL_lt l i
  split
  · generalize (kindL l).getD i 0 = k at *
    have h : k = 0 ∨ k = 1 ∨ k = 2 ∨ k = 3 ∨ k = 4 := by omega
    rcases h with rfl | rfl | rfl | rfl | rfl <;> rfl
  · exact codeL_len _ _ _ _ _ (by omega) this
theorem bodyP_len (l : List Int) : ∀ i, i ≤ l.length → (bodyP l i).length = plcK (kindL l) i
  | 0, _ => by simp [bodyP, plcK]
  | i + 1, h => by
    rw [bodyP, List.length_append, bodyP_len l i (by omega), pieceP_len, plc_step l i (by omega)]
theorem keysP_len (l : List Int) : ∀ i, (keysP l i).length = (sitesP l i).length ∧ (keysP l i).length ≤ i
  | 0 => by simp [keysP, sitesP]
  | i + 1 => by
    have := keysP_len l i
    simp only [keysP, sitesP]
    split
    · simp only [List.length_append, List.length_cons, List.length_nil]; omega
    · omega
theorem keysP_lt (l : List Int) : ∀ i, ∀ x ∈ keysP l i, 0 ≤ x ∧ x < 1000003
  | 0 => by simp [keysP]
  | i + 1 => by
    intro x hx
    simp only [keysP] at hx
    split at hx
    · rcases List.mem_append.1 hx with hx | hx
      · exact keysP_lt l i x hx
      · have := pickZ_lt (IntKind.i64.wrap ((l.getD i 0).tdiv 16)) 1000003 (by decide)
        simp only [List.mem_cons, List.not_mem_nil, or_false] at hx
        subst hx
        unfold numP
        omega
    · exact keysP_lt l i x hx
theorem le4_bytP (n : Int) : ∀ x ∈ le4 n, 0 ≤ x ∧ x ≤ 255 := by
  intro x hx
  simp only [le4, List.mem_cons, List.not_mem_nil, or_false] at hx
  omega
theorem codeL_byt (k : Nat) (n a t r : Int) : ∀ x ∈ codeL k n a t r, 0 ≤ x ∧ x ≤ 255 := by
  have h1 := le4_bytP (t - a - 6)
  have h2 := le4_bytP (t - a - 5)
  have h3 := le4_bytP (n % 100 - 50)
  have h4 := le4_bytP (r + n / 8 % 13)
  intro x
  unfold codeL
  generalize le4 (t - a - 6) = l1 at *
  generalize le4 (t - a - 5) = l2 at *
  generalize le4 (n % 100 - 50) = l3 at *
  generalize le4 (r + n / 8 % 13) = l4 at *
  intro hx
  repeat' split at hx
  all_goals
    simp only [List.mem_cons, List.not_mem_nil, or_false, List.cons_append, List.nil_append] at hx
    first
      | omega
      | (rcases hx with hx | hx | hx <;> first | omega | exact h1 x hx | exact h2 x hx | exact h3 x hx | exact h4 x hx)
      | (rcases hx with hx | hx <;> first | omega | exact h1 x hx | exact h2 x hx | exact h3 x hx | exact h4 x hx)
theorem pieceP_byt (l : List Int) (i : Nat) : ∀ x ∈ pieceP l i, 0 ≤ x ∧ x ≤ 255 := by
  unfold pieceP
  split
  · intro x hx
    simp only [quietL, List.mem_cons, List.not_mem_nil, or_false] at hx
    omega
  · exact codeL_byt _ _ _ _ _
theorem bodyP_byt (l : List Int) : ∀ i, ∀ x ∈ bodyP l i, 0 ≤ x ∧ x ≤ 255
  | 0 => by simp [bodyP]
  | i + 1 => by
    intro x hx
    rcases List.mem_append.1 hx with hx | hx
    · exact bodyP_byt l i x hx
    · exact pieceP_byt l i x hx
/-- all bytes -/
def bytesP (l : List Int) : List Int :=
  bodyP l l.length ++ [233] ++ le4 (-((plcK (kindL l) l.length : Nat) + 5 : Int)) ++ List.replicate (roomN (plcK (kindL l) l.length) + 16 - (plcK (kindL l) l.length + 5)) 0
theorem bytesP_len (l : List Int) : (bytesP l).length = roomN (plcK (kindL l) l.length) + 16 := by
  unfold bytesP
  rw [List.length_append, List.length_append, List.length_append, bodyP_len l l.length (Nat.le_refl _), List.length_replicate]
  have : (le4 (-((plcK (kindL l) l.length : Nat) + 5 : Int))).length = 4 := rfl
  rw [this]
  simp only [List.length_cons, List.length_nil]
  unfold roomN
  omega
theorem mem_byt {xs : List Int} (h : ∀ x ∈ xs, 0 ≤ x ∧ x ≤ 255) : Byt xs := fun i => by
  by_cases hi : i < xs.length
  · have := h xs[i] (List.getElem_mem hi)
    simpa [List.getD, hi] using this
  · simp [List.getD, List.getElem?_eq_none (show xs.length ≤ i by omega)]
theorem bytesP_byt (l : List Int) : Byt (bytesP l) := mem_byt fun x hx => by
  unfold bytesP at hx
  rcases List.mem_append.1 hx with hx | hx
  · rcases List.mem_append.1 hx with hx | hx
    · rcases List.mem_append.1 hx with hx | hx
      · exact bodyP_byt l _ x hx
      · simp only [List.mem_cons, List.not_mem_nil, or_false] at hx
        omega
    · exact le4_bytP _ x hx
  · have := List.eq_of_mem_replicate hx
    omega
/-- the last place of a number among the first j -/
def lastI (met : List Int) (k : Int) : Nat → Int
  | 0 => -1
  | j + 1 => if met.getD j 0 = k then (j : Int) else lastI met k j
theorem lastI_bd (met : List Int) (k : Int) : ∀ j, -1 ≤ lastI met k j ∧ lastI met k j < j
  | 0 => by simp [lastI]
  | j + 1 => by
    have := lastI_bd met k j
    simp only [lastI]
    split <;> omega
/-- numbers as keys: those that were met, and each one's place among them -/
def kdS (l : List Int) : Nat → List Int × List Int
  | 0 => ([], [])
  | i + 1 => if lastI (kdS l i).1 (pickZ (l.getD i 0) 4 : Nat) (kdS l i).1.length < 0 then ((kdS l i).1 ++ [((pickZ (l.getD i 0) 4 : Nat) : Int)], (kdS l i).2 ++ [((kdS l i).1.length : Int)]) else ((kdS l i).1, (kdS l i).2 ++ [lastI (kdS l i).1 (pickZ (l.getD i 0) 4 : Nat) (kdS l i).1.length])
theorem kdS_len (l : List Int) : ∀ i, (kdS l i).2.length = i ∧ (kdS l i).1.length ≤ i
  | 0 => by simp [kdS]
  | i + 1 => by
    have := kdS_len l i
    simp only [kdS]
    split
    · simp only [List.length_append, List.length_cons, List.length_nil]; omega
    · simp only [List.length_append, List.length_cons, List.length_nil]; omega
theorem kdS_bd (l : List Int) : ∀ i, ∀ x ∈ (kdS l i).2, 0 ≤ x ∧ x < (kdS l i).1.length
  | 0 => by simp [kdS]
  | i + 1 => by
    have ih := kdS_bd l i
    intro x hx
    simp only [kdS] at hx ⊢
    split at hx
    · rename_i h
      rw [if_pos h]
      rcases List.mem_append.1 hx with hx | hx
      · have := ih x hx
        simp only [List.length_append, List.length_cons, List.length_nil]
        omega
      · simp only [List.mem_cons, List.not_mem_nil, or_false] at hx
        simp only [List.length_append, List.length_cons, List.length_nil]
        omega
    · rename_i h
      rw [if_neg h]
      rcases List.mem_append.1 hx with hx | hx
      · exact ih x hx
      · simp only [List.mem_cons, List.not_mem_nil, or_false] at hx
        have := lastI_bd (kdS l i).1 (pickZ (l.getD i 0) 4 : Nat) (kdS l i).1.length
        dsimp only
        omega
/-- a site: its key, its place, its target -/
abbrev Z3 : Type := Int × Int × Int
def gtZ (a b : Z3) : Bool := decide (b.1 < a.1) || (decide (a.1 = b.1) && decide (b.2.1 < a.2.1))
/-- where a site is put, of those ahead of place p -/
def posZ (L : List Z3) (x : Z3) : Nat → Nat
  | 0 => 0
  | p + 1 => if gtZ (L.getD p (0, 0, 0)) x = true then posZ L x p else p + 1
theorem posZ_le (L : List Z3) (x : Z3) : ∀ p, posZ L x p ≤ p
  | 0 => by simp [posZ]
  | p + 1 => by
    have := posZ_le L x p
    simp only [posZ]
    split <;> omega
def insZ (L : List Z3) (x : Z3) : List Z3 := L.take (posZ L x L.length) ++ x :: L.drop (posZ L x L.length)
theorem insZ_len (L : List Z3) (x : Z3) : (insZ L x).length = L.length + 1 := by
  have := posZ_le L x L.length
  simp only [insZ, List.length_append, List.length_take, List.length_cons, List.length_drop]
  omega
theorem insZ_mem {L : List Z3} {x y : Z3} (h : y ∈ insZ L x) : y = x ∨ y ∈ L := by
  rcases List.mem_append.1 h with h | h
  · exact .inr (List.mem_of_mem_take h)
  · rcases List.mem_cons.1 h with h | h
    · exact .inl h
    · exact .inr (List.mem_of_mem_drop h)
def sortZ (l : List Z3) : Nat → List Z3
  | 0 => []
  | i + 1 => insZ (sortZ l i) (l.getD i (0, 0, 0))
theorem sortZ_len (l : List Z3) : ∀ i, (sortZ l i).length = i
  | 0 => rfl
  | i + 1 => by rw [sortZ, insZ_len, sortZ_len l i]
theorem sortZ_mem (l : List Z3) : ∀ i, i ≤ l.length → ∀ y ∈ sortZ l i, y ∈ l
  | 0, _ => by simp [sortZ]
  | i + 1, h => by
    intro y hy
    rcases insZ_mem hy with rfl | hy
    · simp [List.getD, List.getElem?_eq_getElem (show i < l.length by omega)]
    · exact sortZ_mem l i (by omega) y hy
/-- a list, that is moved by one from place x on -/
def shZ (A : List Z3) (s : Z3) (x : Nat) : List Z3 := (A ++ [s]).take (x + 1) ++ A.drop x
theorem shZ_start (A : List Z3) (s : Z3) : shZ A s A.length = A ++ [s] := by
  unfold shZ
  rw [List.take_of_length_le (by simp), List.drop_eq_nil_of_le (Nat.le_refl _), List.append_nil]
theorem shZ_len {A : List Z3} {s : Z3} {x : Nat} (h : x ≤ A.length) : (shZ A s x).length = A.length + 1 := by
  unfold shZ; simp; omega
theorem shZ_get {A : List Z3} {s : Z3} {x : Nat} (h : x < A.length) : (shZ A s (x + 1))[x]? = some A[x] := by
  unfold shZ
  rw [List.getElem?_append_left (by simp; omega), List.getElem?_take_of_lt (by omega), List.getElem?_append_left h, List.getElem?_eq_getElem h]
theorem shZ_step {A : List Z3} {s : Z3} {x : Nat} (h : x < A.length) : (shZ A s (x + 1)).set (x + 1) A[x] = shZ A s x := by
  unfold shZ
  apply List.ext_getElem?
  intro i
  rw [List.getElem?_set]
  have hl : ((A ++ [s]).take (x + 1 + 1)).length = x + 2 := by simp; omega
  have hl2 : ((A ++ [s]).take (x + 1)).length = x + 1 := by simp; omega
  by_cases e : x + 1 = i
  · subst e
    rw [if_pos rfl, if_pos (by rw [List.length_append, hl]; omega), List.getElem?_append_right (by omega), hl2, Nat.sub_self, List.getElem?_drop, Nat.add_zero, List.getElem?_eq_getElem h]
  · rw [if_neg e]
    by_cases h1 : i < x + 1
    · rw [List.getElem?_append_left (by omega), List.getElem?_append_left (by omega), List.getElem?_take_of_lt (by omega), List.getElem?_take_of_lt (by omega)]
    · rw [List.getElem?_append_right (by omega), List.getElem?_append_right (by omega), hl, hl2, List.getElem?_drop, List.getElem?_drop]
      congr 1
      omega
theorem shZ_end {A : List Z3} {s : Z3} {x : Nat} (h : x ≤ A.length) : (shZ A s x).set x s = A.take x ++ s :: A.drop x := by
  unfold shZ
  have hl : ((A ++ [s]).take x).length = x := by simp; omega
  have e : (A ++ [s]).take (x + 1) = (A ++ [s]).take x ++ [(A ++ [s])[x]'(by simp; omega)] := List.take_succ_eq_append_getElem (by simp; omega)
  have e2 : (A ++ [s]).take x = A.take x := List.take_append_of_le_length h
  rw [e, List.append_assoc, List.set_append_right _ _ (by omega), hl, Nat.sub_self, e2]
  rfl
/-- the sites ahead of being sorted, and then -/
def keydP (l : List Int) : List Int × List Int := kdS (keysP l l.length) (keysP l l.length).length
/-- the sites, with the keys of the first k -/
def setKs (raw : List Z3) (of : List Int) : Nat → List Z3
  | 0 => raw
  | k + 1 => (setKs raw of k).set k (of.getD k 0, (raw.getD k (0, 0, 0)).2)
theorem setKs_len (raw : List Z3) (of : List Int) : ∀ k, (setKs raw of k).length = raw.length
  | 0 => rfl
  | k + 1 => by rw [setKs, List.length_set, setKs_len raw of k]
theorem setKs_behind (raw : List Z3) (of : List Int) : ∀ k j, k ≤ j → (setKs raw of k).getD j (0, 0, 0) = raw.getD j (0, 0, 0)
  | 0, _, _ => rfl
  | k + 1, j, h => by
    have := setKs_behind raw of k j (by omega)
    rw [← this]
    simp only [setKs, List.getD]
    rw [List.getElem?_set_ne (by omega)]
def rawI (l : List Int) (j : Nat) : List Z3 := (sitesP l j).map fun q => (0, (q.1 : Int), (q.2 : Int))
def rawP (l : List Int) : List Z3 := setKs (rawI l l.length) (keydP l).2 (rawI l l.length).length
def tblP (l : List Int) : List Z3 := sortZ (rawP l) (rawP l).length
theorem rawP_len (l : List Int) : (rawP l).length = (keysP l l.length).length := by
  unfold rawP
  rw [setKs_len, rawI, List.length_map, (keysP_len l l.length).1]
end Go.Proofs.YtgblohjdiheemaaGreat

/- Ours: switchyardmade's small functions: Pick, length, Quiet, four, code. -/
namespace Go.Proofs.YtgblohjdiheemaaGreat
open Go.RowKit

theorem ret_intP {k : IntKind} {a b : Int} (h : a = b) : Ending.returned (.int k a) = .returned (.int k b) := by rw [h]

set_option maxRecDepth 20000 in
theorem pick_any (a : Int) (n : Nat) (h0 : 0 < n) (hn : n ≤ 9223372036854775807) (w : World) : Calls Tryz.prog 52 #[.int .i64 a, .int .i64 n] w fun E w' => E = .returned (.int .i64 ((pickZ a n : Nat) : Int)) ∧ w' = w := by
  have h1 := Int.lt_tmod_of_pos a (show (0 : Int) < (n : Int) by omega)
  have h2 := Int.tmod_lt_of_pos a (show (0 : Int) < (n : Int) by omega)
  have h3 := Int.emod_nonneg a (show (n : Int) ≠ 0 by omega)
  have h4 := Int.emod_lt_of_pos a (show (0 : Int) < n by omega)
  have hm1 : ¬ (n : Int) = 0 := by omega
  have hw : IntKind.i64.wrap (a.tmod n) = a.tmod n := by rw [IntKind.wrap_i64]; omega
  have HE : Hid (((pickZ a n : Nat) : Int) = a % n) := by show ((a % n).toNat : Int) = _; omega
  have HD : Hid (a.tmod n = a % n ∨ a.tmod n = a % n - n) := by
    rw [Int.tmod_eq_emod]
    split
    · exact .inl (by omega)
    · exact .inr (by omega)
  go_enter Tryz.func52, Tryz.ntmps52
  by_cases hneg : a.tmod n < 0
  · have hw2 : IntKind.i64.wrap (a.tmod n + (n : Int)) = a.tmod n + (n : Int) := by rw [IntKind.wrap_i64]; omega
    go_wp2_with fail
    go_ret
    refine ⟨ret_intP ?_, rfl⟩
    rw [HE.out]
    have := HD.out
    omega
  · go_wp2_with fail
    go_ret
    refine ⟨ret_intP ?_, rfl⟩
    rw [HE.out]
    have := HD.out
    omega
/-- a literal slice of bytes: a block of its own -/
theorem wp_lit {ops : Array Oper} {rest : List Oper} {o : Oper} {a : Act} {w : World} {Q : Exit → Act → World → Prop} (hg : o.guard = none) (len : Nat) (parts : Array (Nat × Operand)) (ho : o.op = .buildSlice 22 len parts)
    (zs : List Int) (hlen : len = zs.length) (hpos : 0 < len) (hsmall : len ≤ 2 ^ 24) (hparts : parts.toList = (zs.zipIdx 0).map fun x => (x.2, Operand.const (Value.int .u8 x.1)))
    (h : ∀ w1 g, Hid (Own w1 w.heap.size g len zs) → Hid (Below w.heap.size w w1) → wpList Tryz.prog ops Q rest (a.put o.dst (.slice (some ⟨g, 0, none⟩) len len)) w1) : wpList Tryz.prog ops Q (o :: rest) a w := by
  refine wpList_buildFlat hg 22 5 len parts ho .u8 zs Tryz.underlying22 (by kernel_rfl) (by kernel_rfl) hlen hpos hsmall hparts ?_
  exact h _ _ (by subst hlen; exact Own.lit w zs (by unfold maxLen; omega)) (new_alloc _ _)
theorem mquiet_any (w : World) : Calls Tryz.prog 29 #[] w fun e w' => ∃ g, e = .returned (.slice (some ⟨g, 0, none⟩) 5 5) ∧ Own w' w.heap.size g 5 quietL ∧ Below w.heap.size w w' := by
  go_enter Tryz.func29, Tryz.ntmps29
  go_wp2_with (refine wp_lit rfl 5 _ rfl quietL rfl (by decide) (by decide) rfl ?_; intro w1 g1 HO1 HB1)
  go_ret
  exact ⟨g1, rfl, HO1.out, HB1.out⟩
end Go.Proofs.YtgblohjdiheemaaGreat

/- Ours: numbers as keys (switchyardmade.keyed). -/
namespace Go.Proofs.YtgblohjdiheemaaGreat
open Go.RowKit

abbrev numZ (zs : List Int) : List Value := zs.map (Value.int .i64)
theorem numZ_at (zs : List Int) (k : Nat) (h : k < zs.length) : (numZ zs)[k]? = some (.int .i64 (zs.getD k 0)) := by simp [numZ, List.getD, h]
/-- two lists lie apart -/
def Ap (u v : Value) : Prop := ∀ g, u.ownBlock = some g → v.ownBlock ≠ some g
theorem Ap.symm {u v : Value} (h : Ap u v) : Ap v u := fun g h1 h2 => h g h2 h1
theorem Ap.nilL (v : Value) : Ap (.slice none 0 0) v := fun g h => by cases h
theorem Ap.nilR (v : Value) : Ap v (.slice none 0 0) := fun g _ h => by cases h
theorem row_stay {T : TypeId} {z B n : Nat} {v : Value} {vs : List Value} {w w' : World} {row : Option Nat} (h : w.ownsRow B T z v n vs) (hg : w.grownBy w' row) (hne : ∀ g, v.ownBlock = some g → row ≠ some g) : w'.ownsRow B T z v n vs := by
  refine ⟨h.1, h.2.imp id ?_⟩
  rintro ⟨g, cap, cur, e1, e2, e3, e4⟩
  exact ⟨g, cap, cur, e1, e2, (hg.block g (Array.getElem?_eq_some_iff.1 e3).1 (fun e => hne g (by rw [e1]; rfl) e.symm)).trans e3, e4⟩
/-- what is appended to v lies apart from u still -/
theorem Ap.grown {T : TypeId} {z B n : Nat} {u v : Value} {us : List Value} {w : World} (h : Ap u v) (hu : w.ownsRow B T z u n us) {g : Nat} (hv : v.ownBlock = some g ∨ g = w.heap.size) (m c : Nat) : Ap u (.slice (some ⟨g, 0, none⟩) m c) := fun k h1 h2 => by
  have e : g = k := by
    have h2' : some g = some k := h2
    injection h2'
  subst e
  rcases hv with hv | hv
  · exact h g h1 hv
  · have := (World.ownsRow.lt hu g h1).2
    omega
/-- append of a number -/
theorem gpush1 {ops : Array Oper} {rest : List Oper} {o : Oper} {a : Act} {Q : Exit → Act → World → Prop} (w : World) (hgd : o.guard = none) (s x : Operand)
    (ho : o.op = .call { callee := .builtin .append, args := #[s, x], argTypes := #[25, 25] }) (B : Nat) (v : Value) (A : List Int) (hs : a.eval s = v) (hown : GOwnV 3 w B v (numZ A))
    (ad : Addr) (y : Int) (hx : a.eval x = .slice (some ad) 1 1) (hc : w.cell? ad = some (.int .i64 y)) (had : ad.spot = none) (hlen : A.length ≤ 1048576) (hB : B ≤ w.heap.size)
    (h : ∀ g cap w', GOwnV 3 w' B (.slice (some ⟨g, 0, none⟩) (A.length + 1) cap) (numZ (A ++ [y])) → w.grownBy w' v.ownBlock → (v.ownBlock = some g ∨ g = w.heap.size) → g < w'.heap.size → wpList Tryz.prog ops Q rest (a.put o.dst (.slice (some ⟨g, 0, none⟩) (A.length + 1) cap)) w') :
    wpList Tryz.prog ops Q (o :: rest) a w := by
  obtain ⟨hu, z, hzc, hinfo⟩ := Tryz.elemI
  obtain ⟨i0, hi, hz0, hz1, hz2⟩ := info_parts hinfo
  have hlA : (numZ A).length = A.length := by simp
  have hown' : w.ownsRow B 3 1 v A.length (numZ A) := by have := hown; unfold GOwnV at this; rwa [hlA] at this
  refine wpList_append_lies w hgd s x 25 ho B 3 i0 z 1 8 hu hi hz0 hz1 hz2 hzc (by decide) v A.length (numZ A) hs hown' ad 1 1 [.int .i64 y] hx rfl (fun j u hj => ?_) (fun u hu => ?_) (by decide) (by unfold maxLen; omega) (by omega) hB w.heap.size rfl ?_
  · obtain ⟨b, off, sp⟩ := ad
    dsimp only at had
    subst had
    rw [Go.WideShapes.add_plain]
    cases j with
    | zero => simpa using (show some (Value.int .i64 y) = some u from hj) ▸ hc
    | succ j => simp at hj
  · simp only [List.mem_cons, List.not_mem_nil, or_false] at hu
    subst hu
    rfl
  · intro g cap w' h2 h3 h4 h5
    refine h g cap w' ?_ h3 h4 h5
    unfold GOwnV
    have e : numZ (A ++ [y]) = numZ A ++ [.int .i64 y] := by simp
    rw [e, List.length_append, hlA]
    exact h2

/-- keyed's two lists -/
structure KS (w0 w : World) (v4 v5 : Value) (A C : List Int) : Prop where
  a : GOwnV 3 w w0.heap.size v4 (numZ A)
  c : GOwnV 3 w w0.heap.size v5 (numZ C)
  ap : Ap v4 v5
  bel : Below w0.heap.size w0 w
section
variable {w0 w w' : World} {v4 v5 : Value} {A C : List Int} {g m cap : Nat} {y : Int}
theorem KS.below (h : KS w0 w v4 v5 A C) (hb : Below w.heap.size w w') : KS w0 w' v4 v5 A C := ⟨h.a.below hb, h.c.below hb, h.ap, below_step h.bel hb⟩
theorem KS.push4 (h : KS w0 w v4 v5 A C) (ho : GOwnV 3 w' w0.heap.size (.slice (some ⟨g, 0, none⟩) m cap) (numZ (A ++ [y]))) (hg : w.grownBy w' v4.ownBlock) (hv : v4.ownBlock = some g ∨ g = w.heap.size) : KS w0 w' (.slice (some ⟨g, 0, none⟩) m cap) v5 (A ++ [y]) C :=
  ⟨ho, row_stay h.c hg (fun k e1 e2 => h.ap k e2 e1), (Ap.grown h.ap.symm h.c hv m cap).symm, h.bel.grown hg h.bel.size fun k hk => (World.ownsRow.lt h.a k hk).1⟩
theorem KS.push5 (h : KS w0 w v4 v5 A C) (ho : GOwnV 3 w' w0.heap.size (.slice (some ⟨g, 0, none⟩) m cap) (numZ (C ++ [y]))) (hg : w.grownBy w' v5.ownBlock) (hv : v5.ownBlock = some g ∨ g = w.heap.size) : KS w0 w' v4 (.slice (some ⟨g, 0, none⟩) m cap) A (C ++ [y]) :=
  ⟨row_stay h.a hg (fun k e1 e2 => h.ap k e1 e2), ho, Ap.grown h.ap h.a hv m cap, h.bel.grown hg h.bel.size fun k hk => (World.ownsRow.lt h.c k hk).1⟩
theorem KS.sl4 (h : KS w0 w v4 v5 A C) : ∃ p c, v4 = .slice p A.length c ∧ GRow w p (numZ A) := by
  obtain ⟨p, c, e, hr, -, -⟩ := h.a.slice
  exact ⟨p, c, by rw [e]; simp, hr⟩
end
theorem GRow.num {w : World} {p : Option Addr} {zs : List Int} (h : GRow w p (numZ zs)) (h0 : 0 < zs.length) : ∃ b o, p = some ⟨b, o, none⟩ ∧ ∀ i, i < zs.length → w.cell? ⟨b, o + i, none⟩ = some (.int .i64 (zs.getD i 0)) := by
  obtain ⟨b, o, e, hc⟩ := h (by simpa using h0)
  exact ⟨b, o, e, fun i hi => by rw [hc i (by simpa using hi), numZ_at zs i hi]⟩
theorem kdS_new {l : List Int} {i : Nat} (h : lastI (kdS l i).1 (pickZ (l.getD i 0) 4 : Nat) (kdS l i).1.length < 0) : kdS l (i + 1) = ((kdS l i).1 ++ [((pickZ (l.getD i 0) 4 : Nat) : Int)], (kdS l i).2 ++ [((kdS l i).1.length : Int)]) := by
  rw [kdS, if_pos h]
theorem kdS_old {l : List Int} {i : Nat} (h : ¬ lastI (kdS l i).1 (pickZ (l.getD i 0) 4 : Nat) (kdS l i).1.length < 0) : kdS l (i + 1) = ((kdS l i).1, (kdS l i).2 ++ [lastI (kdS l i).1 (pickZ (l.getD i 0) 4 : Nat) (kdS l i).1.length]) := by
  rw [kdS, if_neg h]
set_option maxHeartbeats 1600000 in
theorem keyed_any (p : Option Addr) (n c : Nat) (l : List Int) (w : World) (hl : l.length = n) (hn : n ≤ 24) (hr : GRow w p (numZ l)) :
    Calls Tryz.prog 28 #[.slice p n c] w fun e w' => ∃ v, e = .returned (.tuple #[v, .int .i64 (kdS l n).1.length]) ∧ GOwnV 3 w' w.heap.size v (numZ (kdS l n).2) ∧ Below w.heap.size w w' := by
  have HR := Hid.in hr
  have HL := Hid.in hl
  clear hr hl
  go_enter Tryz.func28, Tryz.ntmps28
  go_wp2
  go_loopw [4, 5, 6] (fun v4 v5 vi wr => ∃ i : Nat, i ≤ n ∧ vi = .int .i64 i ∧ KS w wr v4 v5 (kdS l i).1 (kdS l i).2) (fun _ _ vi _ => n - (intOf vi).toNat)
  case atStart => exact ⟨0, Nat.zero_le _, rfl, GOwnV.nil _ _ _, GOwnV.nil _ _ _, Ap.nilL _, Below.refl _ _⟩
  case round =>
    obtain ⟨i, hi, rfl, hk⟩ := hrel
    have HK := Hid.in hk
    clear hk
    by_cases hlt : i < n
    · obtain ⟨b, o, rfl, hc⟩ := HR.out.num (by rw [HL.out]; omega)
      have hci := hc i (by rw [HL.out]; exact hlt)
      have c1 : wr.cell? ⟨b, o + i, none⟩ = some (.int .i64 (l.getD i 0)) := (HK.out.bel.cell (p := ⟨b, o + i, none⟩) (cell_lt hci)).trans hci
      have hP : Calls Tryz.prog 52 #[.int .i64 (l.getD i 0), .int .i64 4] wr fun E w' => E = .returned (.int .i64 ((pickZ (l.getD i 0) 4 : Nat) : Int)) ∧ w' = wr := pick_any (l.getD i 0) 4 (by decide) (by decide) wr
      have HN := Hid.in (@kdS_new l i)
      have HD := Hid.in (@kdS_old l i)
      have HKL := Hid.in (kdS_len l i)
      obtain ⟨p4, cc4, e4, hr4⟩ := HK.out.sl4
      subst e4
      have HR4 := Hid.in hr4
      have hAl : (kdS l i).1.length ≤ 24 := by have := HKL.out.2; omega
      have hbd := lastI_bd (kdS l i).1 (pickZ (l.getD i 0) 4 : Nat)
      clear hci hc hr4
      generalize l.getD i 0 = y at *
      generalize pickZ y 4 = k at *
      generalize kdS l i = s at *
      obtain ⟨A, C⟩ := s
      dsimp only at *
      go_wp2_with (go_at_call 52; refine Hid.out ?_)
      refine Lib.hid ?_
      (with_reducible refine hP.mono ?_)
      rintro e w1 ⟨rfl, rfl⟩
      clear hP c1
      go_wp2_with fail
      go_loopw [8, 9] (fun va vj wz => wz = w1 ∧ ∃ j : Nat, j ≤ A.length ∧ vj = .int .i64 j ∧ va = .int .i64 (lastI A k j)) (fun _ vj _ => A.length - (intOf vj).toNat)
      case atStart => exact ⟨rfl, 0, Nat.zero_le _, rfl, rfl⟩
      case round =>
        obtain ⟨rfl, j, hj, rfl, rfl⟩ := hrel
        by_cases hjl : j < A.length
        · obtain ⟨b4, o4, rfl, hc4⟩ := HR4.out.num (by omega)
          have c4 := hc4 j hjl
          have HI : Hid (lastI A k (j + 1) = if A.getD j 0 = k then (j : Int) else lastI A k j) := rfl
          clear hc4
          generalize A.getD j 0 = z at *
          by_cases hz : z = (k : Int)
          · have hzb : (z == (k : Int)) = true := by simpa using hz
            go_wp2_with fail
            go_roundw
            case rel => exact ⟨by first | rfl | trivial, j + 1, by omega, by go_num, by rw [HI.out, if_pos hz]⟩
            case measure => simp [intOf]; omega
          · have hzb : (z == (k : Int)) = false := by simpa using hz
            go_wp2_with fail
            go_roundw
            case rel => exact ⟨by first | rfl | trivial, j + 1, by omega, by go_num, by rw [HI.out, if_neg hz]⟩
            case measure => simp [intOf]; omega
        · obtain rfl : j = A.length := by omega
          have hb1 := hbd A.length
          generalize lastI A (k : Int) A.length = q at *
          by_cases hq : q < 0
          · have HS := Hid.in (HN.out hq)
            have HK1 := Hid.in (HK.out.below (new_alloc wr (.cells #[.int .i64 k] 3)))
            have hA1 : A.length ≤ 1048576 := by omega
            have hC1 : C.length ≤ 1048576 := by have := HKL.out.1; omega
            clear hbd HD HN
            have hC0 : (wr.alloc (.cells #[.int .i64 k] 3)).cell? ⟨wr.heap.size, 0, none⟩ = some (.int .i64 k) := (Blk.new wr 3 #[.int .i64 k]).cell 0
            go_wp2_with (at_builtin; refine gpush1 _ rfl _ _ rfl w.heap.size _ A rfl HK1.out.a ⟨wr.heap.size, 0, none⟩ k rfl hC0 rfl hA1 HK1.out.bel.size ?_; intro g2 c2 w2 ho2 hg2 hv2 hl2; have HK2 := Hid.in (HK1.out.push4 ho2 hg2 hv2); clear ho2 hg2 hv2 hl2; refine Hid.out ?_)
            refine Lib.hid ?_
            have HK3 := Hid.in (HK2.out.below (new_alloc w2 (.cells #[.int .i64 A.length] 3)))
            have hC3 : (w2.alloc (.cells #[.int .i64 A.length] 3)).cell? ⟨w2.heap.size, 0, none⟩ = some (.int .i64 A.length) := (Blk.new w2 3 #[.int .i64 A.length]).cell 0
            clear hC0 HK1
            go_wp2_with (at_builtin; refine gpush1 _ rfl _ _ rfl w.heap.size _ C rfl HK3.out.c ⟨w2.heap.size, 0, none⟩ A.length rfl hC3 rfl hC1 HK3.out.bel.size ?_; intro g4 c4 w4 ho4 hg4 hv4 hl4; have HK4 := Hid.in (HK3.out.push5 ho4 hg4 hv4); clear ho4 hg4 hv4 hl4)
            clear hC3 HK3
            go_roundw
            case rel => exact ⟨i + 1, by omega, by go_num, by rw [HS.out]; exact HK4.out⟩
            case measure => simp [intOf]; omega
          · have HS := Hid.in (HD.out (by omega))
            have HK3 := Hid.in (HK.out.below (new_alloc wr (.cells #[.int .i64 q] 3)))
            have hC1 : C.length ≤ 1048576 := by have := HKL.out.1; omega
            have hC3 : (wr.alloc (.cells #[.int .i64 q] 3)).cell? ⟨wr.heap.size, 0, none⟩ = some (.int .i64 q) := (Blk.new wr 3 #[.int .i64 q]).cell 0
            clear hbd HD HN
            go_wp2_with (at_builtin; refine gpush1 _ rfl _ _ rfl w.heap.size _ C rfl HK3.out.c ⟨wr.heap.size, 0, none⟩ q rfl hC3 rfl hC1 HK3.out.bel.size ?_; intro g4 c4 w4 ho4 hg4 hv4 hl4; have HK4 := Hid.in (HK3.out.push5 ho4 hg4 hv4); clear ho4 hg4 hv4 hl4)
            clear hC3 HK3
            go_roundw
            case rel => exact ⟨i + 1, by omega, by go_num, by rw [HS.out]; exact HK4.out⟩
            case measure => simp [intOf]; omega
    · obtain rfl : i = n := by omega
      obtain ⟨p4, cc4, e4, -⟩ := HK.out.sl4
      subst e4
      go_wp2_with fail
      go_ret2
      exact ⟨_, rfl, HK.out.c, HK.out.bel⟩
end Go.Proofs.YtgblohjdiheemaaGreat

/- switchyardkit.SameSites and CopySites. -/
namespace Go.Proofs.YtgblohjdiheemaaGreat
open Go.RowKit

theorem Tryz.elemSite : Elem3 24 68 24 := ⟨Tryz.underlying24, .agg #[.int .i64 0, .int .i64 0, .int .i64 0], rfl, by kernel_rfl⟩

set_option maxRecDepth 20000 in
set_option maxHeartbeats 1000000 in
theorem sameSites_any (p q : Option Addr) (n c m d : Nat) (L M : List Si) (w : World) (hn : L.length = n) (hm : M.length = m) (hn6 : n ≤ 9223372036854775807) (_hm6 : m ≤ 9223372036854775807) (h1 : Row3 w p (L.map siV)) (h2 : Row3 w q (M.map siV)) :
    Calls Tryz.prog 49 #[.slice p n c, .slice q m d] w fun E w' => (∃ b, E = .returned (.bool b) ∧ (b = true ↔ L = M)) ∧ ∃ z, w' = w.drewN z := by
  by_cases hl : n = m
  · subst hl
    have HL := Hid.in hn
    have HM := Hid.in hm
    have H1 := Hid.in h1
    have H2 := Hid.in h2
    clear hn hm h1 h2
    go_enter Tryz.func49, Tryz.ntmps49
    go_wp2_with fail
    go_loopw [5] (fun vi wr => ∃ k z : Nat, vi = .int .i64 k ∧ k ≤ n ∧ L.take k = M.take k ∧ wr = w.drewN z) (fun vi _ => n - (intOf vi).toNat)
    case atStart => exact ⟨0, 0, rfl, Nat.zero_le _, rfl, rfl⟩
    case round =>
      obtain ⟨k, z, rfl, hk, ht, rfl⟩ := hrel
      have HT := Hid.in ht
      clear ht
      by_cases hlt : k < n
      · have hk1 : k < L.length := by rw [HL.out]; exact hlt
        have hk2 : k < M.length := by rw [HM.out]; exact hlt
        obtain ⟨b, o, rfl, hc⟩ := H1.out (by rw [List.length_map]; omega)
        obtain ⟨c0, c1, c2⟩ := cells3 hc k (by rw [List.length_map]; exact hk1)
        obtain ⟨b', o', rfl, hc'⟩ := H2.out (by rw [List.length_map]; omega)
        obtain ⟨e0, e1, e2⟩ := cells3 hc' k (by rw [List.length_map]; exact hk2)
        simp only [List.getElem_map, siV] at c0 c1 c2 e0 e1 e2
        have HE : Hid (L[k] = M[k] → L.take (k + 1) = M.take (k + 1)) := fun e => take_step HT.out hk1 hk2 e
        have HNE : Hid (L[k] ≠ M[k] → L ≠ M) := fun e e' => e (by subst e'; rfl)
        clear hc hc' H1 H2
        generalize L[k] = x at *
        generalize M[k] = y at *
        obtain ⟨x0, x1, x2⟩ := x
        obtain ⟨y0, y1, y2⟩ := y
        simp only at c0 c1 c2 e0 e1 e2
        by_cases h0 : x0 = y0
        · subst h0
          by_cases h1 : x1 = y1
          · subst h1
            by_cases h2 : x2 = y2
            · subst h2
              go_upto_region 6 with fail
              go_quiet (fail)
              go_wp2_with fail
              go_roundw
              case rel => exact ⟨k + 1, z + nq, by go_num, by omega, HE.out rfl, by simp⟩
              case measure => simp [intOf]; omega
            · skip
              go_upto_region 6 with fail
              go_quiet (fail)
              go_wp2_with fail
              go_ret
              exact ⟨⟨false, rfl, by simp [HNE.out (fun e => h2 (by injection e))]⟩, z + nq, drewN_two _ _ _⟩
          · skip
            go_upto_region 6 with fail
            go_quiet (fail)
            go_wp2_with fail
            go_ret
            exact ⟨⟨false, rfl, by simp [HNE.out (fun e => h1 (by injection e))]⟩, z + nq, drewN_two _ _ _⟩
        · skip
          go_upto_region 6 with fail
          go_quiet (fail)
          go_wp2_with fail
          go_ret
          exact ⟨⟨false, rfl, by simp [HNE.out (fun e => h0 (by injection e))]⟩, z + nq, drewN_two _ _ _⟩
      · have hkn : k = n := by omega
        subst hkn
        have HR : Hid (L = M) := take_all HT.out (by rw [HL.out]; exact Nat.le_refl _) (by rw [HM.out]; exact Nat.le_refl _)
        go_wp2_with fail
        go_ret
        exact ⟨⟨true, rfl, by simp [HR.out]⟩, z, rfl⟩
  · have HR : Hid (L ≠ M) := fun e => hl (by rw [← hn, ← hm, e])
    clear hn hm h1 h2
    go_enter Tryz.func49, Tryz.ntmps49
    go_wp2_with fail
    go_ret
    exact ⟨⟨false, rfl, by simp [HR.out]⟩, 0, rfl⟩

theorem tpushW {ops : Array Oper} {rest : List Oper} {o : Oper} {a : Act} {Q : Exit → Act → World → Prop} {t T : TypeId} {by_ : Nat} (he : Elem3 t T by_) (w : World) (hgd : o.guard = none) (s x : Operand)
    (ho : o.op = .call { callee := .builtin .append, args := #[s, x], argTypes := #[t, t] }) (B : Nat) (v : Value) (L : List V3) (hs : a.eval s = v) (hown : TOwn T w B v L)
    (ad : Addr) (c : Nat) (q : V3) (hq : one3 q) (hx : a.eval x = .slice (some ad) 1 c) (hnews : ∀ j u, (l3 q)[j]? = some u → w.cell? (ad.add j) = some u)
    (hlen : L.length ≤ 5864062014640) (hby : (L.length + 1) * by_ ≤ 140737488355328) (hB : B ≤ w.heap.size)
    (h : ∀ v' w', TOwn T w' B v' (L ++ [q]) → w.grownBy w' v.ownBlock → (∀ w0, Below B w0 w → Below B w0 w') → wpList Tryz.prog ops Q rest (a.put o.dst v') w') :
    wpList Tryz.prog ops Q (o :: rest) a w := by
  obtain ⟨hu, z, hzc, hinfo⟩ := he
  obtain ⟨i0, hi, hz0, hz1, hz2⟩ := info_parts hinfo
  refine wpList_append_own w hgd s x t ho B T i0 z 3 by_ hu hi hz0 hz1 hz2 hzc (by decide) v L.length (c3 L) hs hown ad 1 c (l3 q) hx rfl hnews (one3_mem hq) (by unfold maxLen; omega) hby hB ?_
  intro v' w' h2 h3 _
  refine h v' w' ?_ h3 (fun w0 hb => hb.grown h3 hB fun k hk => (World.ownsRow.lt hown k hk).1)
  unfold TOwn
  rw [List.length_append, c3_two]
  have e : c3 [q] = l3 q := by simp [c3]
  rw [e]
  exact h2

set_option maxRecDepth 20000 in
set_option maxHeartbeats 1000000 in
theorem copySites_any (p : Option Addr) (n c : Nat) (L : List Si) (w : World) (hn : L.length = n) (hn6 : n ≤ 5864062014634) (h1 : Row3 w p (L.map siV)) :
    Calls Tryz.prog 40 #[.slice p n c] w fun E w' => ∃ v, E = .returned v ∧ TOwn 68 w' w.heap.size v (L.map siV) ∧ Below w.heap.size w w' := by
  have HL := Hid.in hn
  have H1 := Hid.in h1
  clear hn h1
  go_enter Tryz.func40, Tryz.ntmps40
  go_wp2_with fail
  go_loopw [3, 4] (fun v vi wr => ∃ k : Nat, vi = .int .i64 k ∧ k ≤ n ∧ TOwn 68 wr w.heap.size v ((L.take k).map siV) ∧ Below w.heap.size w wr) (fun _ vi _ => n - (intOf vi).toNat)
  case atStart => exact ⟨0, rfl, Nat.zero_le _, TOwn.nil _ _ _, below_self _⟩
  case round =>
    obtain ⟨k, rfl, hk, hT, hb⟩ := hrel
    have HT := Hid.in hT
    have HB := Hid.in hb
    have hlen : ((L.take k).map siV).length = k := by rw [List.length_map, List.length_take, HL.out]; omega
    obtain ⟨pv, cv, hv, -, -, -⟩ := hT.shape
    rw [hlen] at hv
    subst hv
    have HLEN := Hid.in hlen
    clear hT hb hlen
    by_cases hlt : k < n
    · have hk1 : k < L.length := by rw [HL.out]; exact hlt
      obtain ⟨b, o, rfl, hc⟩ := (H1.out.below HB.out) (by rw [List.length_map]; omega)
      obtain ⟨c0, c1, c2⟩ := cells3 hc k (by rw [List.length_map]; exact hk1)
      simp only [List.getElem_map, siV] at c0 c1 c2
      have HTK : Hid ((L.take (k + 1)).map siV = (L.take k).map siV ++ [siV L[k]]) := by
        rw [List.take_succ_eq_append_getElem hk1, List.map_append]; exact rfl
      clear hc
      generalize (L.take k).map siV = LQ at *
      generalize L[k] = x at *
      have hl1 : LQ.length ≤ 5864062014640 := by have := HLEN.out; omega
      have hl2 : (LQ.length + 1) * 24 ≤ 140737488355328 := by have := HLEN.out; omega
      go_wp2_with (refine tpushW Tryz.elemSite _ rfl _ _ rfl w.heap.size _ LQ rfl (HT.out.alloc _) ⟨wr.heap.size, 0, none⟩ 1 (.int .i64 x.key, .int .i64 x.at_, .int .i64 x.to_) ⟨rfl, rfl, rfl⟩ rfl (news3 _ _ _) hl1 hl2 (by have := HB.out.size; simp; omega) ?_; intro v5 w5 hT5 hg5 hb5; have HT5 := Hid.in hT5; have HB5 := Hid.in (hb5 w (below_alloc HB.out _)); clear hT5 hg5 hb5)
      go_roundw
      case rel => exact ⟨k + 1, by go_num, by omega, by rw [HTK.out]; exact HT5.out, HB5.out⟩
      case measure => simp [intOf]; omega
    · have hkn : k = n := by omega
      subst hkn
      have HR : Hid ((L.take k).map siV = L.map siV) := by
        rw [List.take_of_length_le (by rw [HL.out]; exact Nat.le_refl _)]; exact rfl
      rw [HR.out] at HT
      go_wp2_with fail
      go_ret
      exact ⟨_, rfl, HT.out, HB.out⟩


end Go.Proofs.YtgblohjdiheemaaGreat
