/- Texts put together: PrgL, PushRow, PrgA, Texts, PrgC, BndL, PrgD, PrgE, ImD, ImgL, ImaL, ImO, ImgW, ImaW. -/
import Derived.Test.YtekggimgobeggaaEnc
import Derived.Test.YtekggimgobeggaaCopy
import Derived.Laws.AppendOwnNone
import Derived.Test.YtekggimgobeggaaBas
import Derived.Great.BuildSlice
import Derived.Test.YtekggimgobeggaaGen
import Derived.Deep.QuietTactic
import Derived.BigQuiet
import Derived.Lib.Strings
import Derived.Test.YtekggimgobeggaaBlk
import Derived.Deep.AppendLies
import Derived.Lib.Hide
import Derived.Test.YtekggimgobeggaaPokL
import Derived.Test.YtekggimgobeggaaBatK
import Derived.Test.YtekggimgobeggaaBatD
import Derived.Test.YtekggimgobeggaaW3
import Derived.Laws.CopyOwn
import Derived.Deep.MidRow
import Derived.Test.YtekggimgobeggaaQPick
import Derived.Test.YtekggimgobeggaaKps
import Derived.Test.YtekggimgobeggaaPokA
import Derived.Deep.DeepCutAuto

/- Ours: what switchyardmade.Program makes, as lists. -/
namespace Go.Proofs.Ytekggimgobeggaa
open Go.RowKit

/-- a number below n -/
def pickZ (a : Int) (n : Nat) : Nat := (a % n).toNat
theorem pickZ_lt (a : Int) (n : Nat) (h : 0 < n) : pickZ a n < n := by
  have h1 := Int.emod_nonneg a (show (n : Int) ≠ 0 by omega)
  have h2 := Int.emod_lt_of_pos a (show (0 : Int) < n by omega)
  unfold pickZ
  omega
/-- an instruction's length, by its kind -/
def lenK (k : Nat) : Nat := if k = 5 ∨ k = 6 ∨ k = 7 then 3 else if k = 8 ∨ k = 9 ∨ k = 12 ∨ k = 13 ∨ k = 14 then 6 else if k = 11 then 1 else if k = 15 then 2 else 5
theorem lenK_le (k : Nat) : 1 ≤ lenK k ∧ lenK k ≤ 6 := by
  unfold lenK
  repeat' split
  all_goals omega
/-- the first 24 numbers -/
def prgT (l : List Int) : List Int := l.take 24
def kindL (l : List Int) : List Nat := l.map fun a => pickZ a 16
/-- where the instruction i stands -/
def plcK : List Nat → Nat → Nat
  | _, 0 => 0
  | [], _ + 1 => 0
  | k :: ks, i + 1 => lenK k + plcK ks i
theorem plcK_succ : ∀ (ks : List Nat) (i : Nat) (h : i < ks.length), plcK ks (i + 1) = plcK ks i + lenK ks[i]
  | [], i, h => absurd h (by simp)
  | k :: ks, 0, _ => by cases ks <;> simp [plcK]
  | k :: ks, i + 1, h => by
    have := plcK_succ ks i (by simpa using h)
    simp only [plcK, this, List.getElem_cons_succ]
    omega
theorem plcK_le : ∀ (ks : List Nat) (i : Nat), plcK ks i ≤ 6 * i
  | _, 0 => by simp [plcK]
  | [], i + 1 => by simp [plcK]
  | k :: ks, i + 1 => by
    have := plcK_le ks i
    have := (lenK_le k).2
    simp only [plcK]
    omega
/-- all places, and the end -/
def plcL (ks : List Nat) : List Int := (List.range (ks.length + 1)).map fun i => ((plcK ks i : Nat) : Int)
theorem plcL_len (ks : List Nat) : (plcL ks).length = ks.length + 1 := by simp [plcL]
def roomN (at_ : Nat) : Nat := (at_ + 8) / 4 * 4
def quietL : List Int := [15, 31, 68, 0, 0]
/-- an instruction's bytes -/
def codeL (k : Nat) (n at_ to_ room : Int) : List Int :=
  if k = 5 then [1, n % 8, n / 8 % 8]
  else if k = 6 then [41, n % 8, n / 8 % 8]
  else if k = 7 then [137, n % 8, n / 8 % 8]
  else if k = 8 then [116, n % 8] ++ le4 (to_ - at_ - 6)
  else if k = 9 then [117, n % 8] ++ le4 (to_ - at_ - 6)
  else if k = 10 then [232] ++ le4 (to_ - at_ - 5)
  else if k = 11 then (if n % 5 = 0 then [0] else [195])
  else if k = 12 then [184, n % 8] ++ le4 (n % 100 - 50)
  else if k = 13 then [139, n % 8] ++ le4 (room + n / 8 % 13)
  else if k = 14 then [136, n % 8] ++ le4 (room + n / 8 % 13)
  else [230, n % 8]
theorem codeL_len (k : Nat) (n a t r : Int) (h5 : 5 ≤ k) (h16 : k < 16) : (codeL k n a t r).length = lenK k := by
  have : k = 5 ∨ k = 6 ∨ k = 7 ∨ k = 8 ∨ k = 9 ∨ k = 10 ∨ k = 11 ∨ k = 12 ∨ k = 13 ∨ k = 14 ∨ k = 15 := by omega
  rcases this with rfl | rfl | rfl | rfl | rfl | rfl | rfl | rfl | rfl | rfl | rfl
  all_goals first | rfl | (simp only [codeL, lenK]; simp; split <;> rfl)
/-- the number of an instruction, and where it leads -/
def numP (l : List Int) (i : Nat) : Nat := pickZ (IntKind.i64.wrap ((l.getD i 0).tdiv 16)) 1000003
def tgtP (l : List Int) (i : Nat) : Nat := plcK (kindL l) (pickZ ((numP l i / 8 : Nat) : Int) (l.length + 1))
def gpieceP (l : List Int) (i : Nat) : List Int :=
  if (kindL l).getD i 0 < 5 then quietL else codeL ((kindL l).getD i 0) (numP l i : Nat) (plcK (kindL l) i : Nat) (tgtP l i : Nat) (roomN (plcK (kindL l) l.length) : Nat)
def bodyP (l : List Int) : Nat → List Int
  | 0 => []
  | i + 1 => bodyP l i ++ gpieceP l i
/-- the numbers of the sites -/
def keysP (l : List Int) : Nat → List Int
  | 0 => []
  | i + 1 => if (kindL l).getD i 0 < 5 then keysP l i ++ [((numP l i : Nat) : Int)] else keysP l i
/-- the sites' places and targets -/
def sitesP (l : List Int) : Nat → List (Nat × Nat)
  | 0 => []
  | i + 1 => if (kindL l).getD i 0 < 5 then sitesP l i ++ [(plcK (kindL l) i, tgtP l i)] else sitesP l i
theorem kindL_at (l : List Int) (i : Nat) (h : i < l.length) : (kindL l).getD i 0 = pickZ (l.getD i 0) 16 := by
  simp [kindL, List.getD, List.getElem?_eq_getElem h]
theorem kindL_len (l : List Int) : (kindL l).length = l.length := by simp [kindL]
theorem kindL_lt (l : List Int) (i : Nat) : (kindL l).getD i 0 < 16 := by
  by_cases h : i < l.length
  · rw [kindL_at l i h]
    exact pickZ_lt _ _ (by decide)
  · simp [List.getD, List.getElem?_eq_none (show (kindL l).length ≤ i by rw [kindL_len]; omega)]
theorem plc_step (l : List Int) (i : Nat) (h : i < l.length) : plcK (kindL l) (i + 1) = plcK (kindL l) i + lenK ((kindL l).getD i 0) := by
  have h' : i < (kindL l).length := by rw [kindL_len]; exact h
  rw [plcK_succ _ _ h']
  simp [List.getD, List.getElem?_eq_getElem h']
theorem pieceP_len (l : List Int) (i : Nat) : (gpieceP l i).length = lenK ((kindL l).getD i 0) := by
  unfold gpieceP
  have := kindL_lt l i
  split
  · generalize (kindL l).getD i 0 = k at *
    have h : k = 0 ∨ k = 1 ∨ k = 2 ∨ k = 3 ∨ k = 4 := by omega
    rcases h with rfl | rfl | rfl | rfl | rfl <;> rfl
  · exact codeL_len _ _ _ _ _ (by omega) this
theorem bodyP_len (l : List Int) : ∀ i, i ≤ l.length → (bodyP l i).length = plcK (kindL l) i
  | 0, _ => by simp [bodyP, plcK]
  | i + 1, h => by
    rw [bodyP, List.length_append, bodyP_len l i (by omega), pieceP_len, plc_step l i (by omega)]
theorem keysP_len (l : List Int) : ∀ i, (keysP l i).length = (sitesP l i).length ∧ (keysP l i).length ≤ i
  | 0 => by simp [keysP, sitesP]
  | i + 1 => by
    have := keysP_len l i
    simp only [keysP, sitesP]
    split
    · simp only [List.length_append, List.length_cons, List.length_nil]; omega
    · omega
theorem keysP_lt (l : List Int) : ∀ i, ∀ x ∈ keysP l i, 0 ≤ x ∧ x < 1000003
  | 0 => by simp [keysP]
  | i + 1 => by
    intro x hx
    simp only [keysP] at hx
    split at hx
    · rcases List.mem_append.1 hx with hx | hx
      · exact keysP_lt l i x hx
      · have := pickZ_lt (IntKind.i64.wrap ((l.getD i 0).tdiv 16)) 1000003 (by decide)
        simp only [List.mem_cons, List.not_mem_nil, or_false] at hx
        subst hx
        unfold numP
        omega
    · exact keysP_lt l i x hx
theorem le4_bytP (n : Int) : ∀ x ∈ le4 n, 0 ≤ x ∧ x ≤ 255 := by
  intro x hx
  simp only [le4, List.mem_cons, List.not_mem_nil, or_false] at hx
  omega
theorem codeL_byt (k : Nat) (n a t r : Int) : ∀ x ∈ codeL k n a t r, 0 ≤ x ∧ x ≤ 255 := by
  have h1 := le4_bytP (t - a - 6)
  have h2 := le4_bytP (t - a - 5)
  have h3 := le4_bytP (n % 100 - 50)
  have h4 := le4_bytP (r + n / 8 % 13)
  intro x
  unfold codeL
  generalize le4 (t - a - 6) = l1 at *
  generalize le4 (t - a - 5) = l2 at *
  generalize le4 (n % 100 - 50) = l3 at *
  generalize le4 (r + n / 8 % 13) = l4 at *
  intro hx
  repeat' split at hx
  all_goals
    simp only [List.mem_cons, List.not_mem_nil, or_false, List.cons_append, List.nil_append] at hx
    first
      | omega
      | (rcases hx with hx | hx | hx <;> first | omega | exact h1 x hx | exact h2 x hx | exact h3 x hx | exact h4 x hx)
      | (rcases hx with hx | hx <;> first | omega | exact h1 x hx | exact h2 x hx | exact h3 x hx | exact h4 x hx)
theorem pieceP_byt (l : List Int) (i : Nat) : ∀ x ∈ gpieceP l i, 0 ≤ x ∧ x ≤ 255 := by
  unfold gpieceP
  split
  · intro x hx
    simp only [quietL, List.mem_cons, List.not_mem_nil, or_false] at hx
    omega
  · exact codeL_byt _ _ _ _ _
theorem bodyP_byt (l : List Int) : ∀ i, ∀ x ∈ bodyP l i, 0 ≤ x ∧ x ≤ 255
  | 0 => by simp [bodyP]
  | i + 1 => by
    intro x hx
    rcases List.mem_append.1 hx with hx | hx
    · exact bodyP_byt l i x hx
    · exact pieceP_byt l i x hx
/-- all bytes -/
def bytesP (l : List Int) : List Int :=
  bodyP l l.length ++ [233] ++ le4 (-((plcK (kindL l) l.length : Nat) + 5 : Int)) ++ List.replicate (roomN (plcK (kindL l) l.length) + 16 - (plcK (kindL l) l.length + 5)) 0
theorem bytesP_len (l : List Int) : (bytesP l).length = roomN (plcK (kindL l) l.length) + 16 := by
  unfold bytesP
  rw [List.length_append, List.length_append, List.length_append, bodyP_len l l.length (Nat.le_refl _), List.length_replicate]
  have : (le4 (-((plcK (kindL l) l.length : Nat) + 5 : Int))).length = 4 := rfl
  rw [this]
  simp only [List.length_cons, List.length_nil]
  unfold roomN
  omega
theorem mem_byt {xs : List Int} (h : ∀ x ∈ xs, 0 ≤ x ∧ x ≤ 255) : Byt xs := fun i => by
  by_cases hi : i < xs.length
  · have := h xs[i] (List.getElem_mem hi)
    simpa [List.getD, hi] using this
  · simp [List.getD, List.getElem?_eq_none (show xs.length ≤ i by omega)]
theorem bytesP_byt (l : List Int) : Byt (bytesP l) := mem_byt fun x hx => by
  unfold bytesP at hx
  rcases List.mem_append.1 hx with hx | hx
  · rcases List.mem_append.1 hx with hx | hx
    · rcases List.mem_append.1 hx with hx | hx
      · exact bodyP_byt l _ x hx
      · simp only [List.mem_cons, List.not_mem_nil, or_false] at hx
        omega
    · exact le4_bytP _ x hx
  · have := List.eq_of_mem_replicate hx
    omega
/-- the last place of a number among the first j -/
def lastI (met : List Int) (k : Int) : Nat → Int
  | 0 => -1
  | j + 1 => if met.getD j 0 = k then (j : Int) else lastI met k j
theorem lastI_bd (met : List Int) (k : Int) : ∀ j, -1 ≤ lastI met k j ∧ lastI met k j < j
  | 0 => by simp [lastI]
  | j + 1 => by
    have := lastI_bd met k j
    simp only [lastI]
    split <;> omega
/-- numbers as keys: those that were met, and each one's place among them -/
def kdS (l : List Int) : Nat → List Int × List Int
  | 0 => ([], [])
  | i + 1 => if lastI (kdS l i).1 (pickZ (l.getD i 0) 4 : Nat) (kdS l i).1.length < 0 then ((kdS l i).1 ++ [((pickZ (l.getD i 0) 4 : Nat) : Int)], (kdS l i).2 ++ [((kdS l i).1.length : Int)]) else ((kdS l i).1, (kdS l i).2 ++ [lastI (kdS l i).1 (pickZ (l.getD i 0) 4 : Nat) (kdS l i).1.length])
theorem kdS_len (l : List Int) : ∀ i, (kdS l i).2.length = i ∧ (kdS l i).1.length ≤ i
  | 0 => by simp [kdS]
  | i + 1 => by
    have := kdS_len l i
    simp only [kdS]
    split
    · simp only [List.length_append, List.length_cons, List.length_nil]; omega
    · simp only [List.length_append, List.length_cons, List.length_nil]; omega
theorem kdS_bd (l : List Int) : ∀ i, ∀ x ∈ (kdS l i).2, 0 ≤ x ∧ x < (kdS l i).1.length
  | 0 => by simp [kdS]
  | i + 1 => by
    have ih := kdS_bd l i
    intro x hx
    simp only [kdS] at hx ⊢
    split at hx
    · rename_i h
      rw [if_pos h]
      rcases List.mem_append.1 hx with hx | hx
      · have := ih x hx
        simp only [List.length_append, List.length_cons, List.length_nil]
        omega
      · simp only [List.mem_cons, List.not_mem_nil, or_false] at hx
        simp only [List.length_append, List.length_cons, List.length_nil]
        omega
    · rename_i h
      rw [if_neg h]
      rcases List.mem_append.1 hx with hx | hx
      · exact ih x hx
      · simp only [List.mem_cons, List.not_mem_nil, or_false] at hx
        have := lastI_bd (kdS l i).1 (pickZ (l.getD i 0) 4 : Nat) (kdS l i).1.length
        dsimp only
        omega
/-- a site: its key, its place, its target -/
abbrev Z3 : Type := Int × Int × Int
def gtZ (a b : Z3) : Bool := decide (b.1 < a.1) || (decide (a.1 = b.1) && decide (b.2.1 < a.2.1))
/-- where a site is put, of those ahead of place p -/
def posZ (L : List Z3) (x : Z3) : Nat → Nat
  | 0 => 0
  | p + 1 => if gtZ (L.getD p (0, 0, 0)) x = true then posZ L x p else p + 1
theorem posZ_le (L : List Z3) (x : Z3) : ∀ p, posZ L x p ≤ p
  | 0 => by simp [posZ]
  | p + 1 => by
    have := posZ_le L x p
    simp only [posZ]
    split <;> omega
def insZ (L : List Z3) (x : Z3) : List Z3 := L.take (posZ L x L.length) ++ x :: L.drop (posZ L x L.length)
theorem insZ_len (L : List Z3) (x : Z3) : (insZ L x).length = L.length + 1 := by
  have := posZ_le L x L.length
  simp only [insZ, List.length_append, List.length_take, List.length_cons, List.length_drop]
  omega
theorem insZ_mem {L : List Z3} {x y : Z3} (h : y ∈ insZ L x) : y = x ∨ y ∈ L := by
  rcases List.mem_append.1 h with h | h
  · exact .inr (List.mem_of_mem_take h)
  · rcases List.mem_cons.1 h with h | h
    · exact .inl h
    · exact .inr (List.mem_of_mem_drop h)
def sortZ (l : List Z3) : Nat → List Z3
  | 0 => []
  | i + 1 => insZ (sortZ l i) (l.getD i (0, 0, 0))
theorem sortZ_len (l : List Z3) : ∀ i, (sortZ l i).length = i
  | 0 => rfl
  | i + 1 => by rw [sortZ, insZ_len, sortZ_len l i]
theorem sortZ_mem (l : List Z3) : ∀ i, i ≤ l.length → ∀ y ∈ sortZ l i, y ∈ l
  | 0, _ => by simp [sortZ]
  | i + 1, h => by
    intro y hy
    rcases insZ_mem hy with rfl | hy
    · simp [List.getD, List.getElem?_eq_getElem (show i < l.length by omega)]
    · exact sortZ_mem l i (by omega) y hy
/-- a list, that is moved by one from place x on -/
def shZ (A : List Z3) (s : Z3) (x : Nat) : List Z3 := (A ++ [s]).take (x + 1) ++ A.drop x
theorem shZ_start (A : List Z3) (s : Z3) : shZ A s A.length = A ++ [s] := by
  unfold shZ
  rw [List.take_of_length_le (by simp), List.drop_eq_nil_of_le (Nat.le_refl _), List.append_nil]
theorem shZ_len {A : List Z3} {s : Z3} {x : Nat} (h : x ≤ A.length) : (shZ A s x).length = A.length + 1 := by
  unfold shZ; simp; omega
theorem shZ_get {A : List Z3} {s : Z3} {x : Nat} (h : x < A.length) : (shZ A s (x + 1))[x]? = some A[x] := by
  unfold shZ
  rw [List.getElem?_append_left (by simp; omega), List.getElem?_take_of_lt (by omega), List.getElem?_append_left h, List.getElem?_eq_getElem h]
theorem shZ_step {A : List Z3} {s : Z3} {x : Nat} (h : x < A.length) : (shZ A s (x + 1)).set (x + 1) A[x] = shZ A s x := by
  unfold shZ
  apply List.ext_getElem?
  intro i
  rw [List.getElem?_set]
  have hl : ((A ++ [s]).take (x + 1 + 1)).length = x + 2 := by simp; omega
  have hl2 : ((A ++ [s]).take (x + 1)).length = x + 1 := by simp; omega
  by_cases e : x + 1 = i
  · subst e
    rw [if_pos rfl, if_pos (by rw [List.length_append, hl]; omega), List.getElem?_append_right (by omega), hl2, Nat.sub_self, List.getElem?_drop, Nat.add_zero, List.getElem?_eq_getElem h]
  · rw [if_neg e]
    by_cases h1 : i < x + 1
    · rw [List.getElem?_append_left (by omega), List.getElem?_append_left (by omega), List.getElem?_take_of_lt (by omega), List.getElem?_take_of_lt (by omega)]
    · rw [List.getElem?_append_right (by omega), List.getElem?_append_right (by omega), hl, hl2, List.getElem?_drop, List.getElem?_drop]
      congr 1
      omega
theorem shZ_end {A : List Z3} {s : Z3} {x : Nat} (h : x ≤ A.length) : (shZ A s x).set x s = A.take x ++ s :: A.drop x := by
  unfold shZ
  have hl : ((A ++ [s]).take x).length = x := by simp; omega
  have e : (A ++ [s]).take (x + 1) = (A ++ [s]).take x ++ [(A ++ [s])[x]'(by simp; omega)] := List.take_succ_eq_append_getElem (by simp; omega)
  have e2 : (A ++ [s]).take x = A.take x := List.take_append_of_le_length h
  rw [e, List.append_assoc, List.set_append_right _ _ (by omega), hl, Nat.sub_self, e2]
  rfl
/-- the sites ahead of being sorted, and then -/
def keydP (l : List Int) : List Int × List Int := kdS (keysP l l.length) (keysP l l.length).length
/-- the sites, with the keys of the first k -/
def setKs (raw : List Z3) (of : List Int) : Nat → List Z3
  | 0 => raw
  | k + 1 => (setKs raw of k).set k (of.getD k 0, (raw.getD k (0, 0, 0)).2)
theorem setKs_len (raw : List Z3) (of : List Int) : ∀ k, (setKs raw of k).length = raw.length
  | 0 => rfl
  | k + 1 => by rw [setKs, List.length_set, setKs_len raw of k]
theorem setKs_behind (raw : List Z3) (of : List Int) : ∀ k j, k ≤ j → (setKs raw of k).getD j (0, 0, 0) = raw.getD j (0, 0, 0)
  | 0, _, _ => rfl
  | k + 1, j, h => by
    have := setKs_behind raw of k j (by omega)
    rw [← this]
    simp only [setKs, List.getD]
    rw [List.getElem?_set_ne (by omega)]
def rawI (l : List Int) (j : Nat) : List Z3 := (sitesP l j).map fun q => (0, (q.1 : Int), (q.2 : Int))
def rawP (l : List Int) : List Z3 := setKs (rawI l l.length) (keydP l).2 (rawI l l.length).length
def tblP (l : List Int) : List Z3 := sortZ (rawP l) (rawP l).length
theorem rawP_len (l : List Int) : (rawP l).length = (keysP l l.length).length := by
  unfold rawP
  rw [setKs_len, rawI, List.length_map, (keysP_len l l.length).1]
end Go.Proofs.Ytekggimgobeggaa

/- append of a whole slice of bytes that came in, nil or not. -/
namespace Go.Proofs.Ytekggimgobeggaa
open Go.RowKit

/-- 'append(out, b...)', b whatever slice of bytes that came in -/
theorem wp_push_row {ops : Array Oper} {rest : List Oper} {o : Oper} {a : Act} {Q : Exit → Act → World → Prop} (w : World) (hgd : o.guard = none) (s x : Operand)
    (ho : o.op = .call { callee := .builtin .append, args := #[s, x], argTypes := #[54, 54] }) (B : Nat) (v : Value) (xs : List Int) (hs : a.eval s = v) (hown : OwnV w B v xs)
    (q : Option Addr) (m d : Nat) (ys : List Int) (hx : a.eval x = .slice q m d) (hl : ys.length = m) (hrow : Row w q ys) (hq : q = none → m = 0 ∧ d = 0)
    (hlen : xs.length + m ≤ 140737488355328) (hB : B ≤ w.heap.size)
    (h : ∀ v' w', OwnV w' B v' (xs ++ ys) → (∀ w0, Below B w0 w → Below B w0 w') → wpList Try.prog ops Q rest (a.put o.dst v') w') :
    wpList Try.prog ops Q (o :: rest) a w := by
  cases q with
  | none =>
    obtain ⟨rfl, rfl⟩ := hq rfl
    obtain rfl : ys = [] := List.eq_nil_of_length_eq_zero hl
    obtain ⟨i0, hi, hz0, hz1, hz2⟩ := info_parts Try.info5
    exact wpList_append_own_none hgd s x 54 ho B 5 i0 1 Try.underlying54 hi v xs.length (byts xs) hs hown hx (h v w (by rw [List.append_nil]; exact hown) fun _ hb => hb)
  | some ad =>
    refine wp_push w hgd s x ho B v xs hs hown ad m d ys hx hl (fun j u hj => ?_) hlen hB fun v' w' h1 _ h3 _ => h v' w' h1 h3
    have hjl : j < ys.length := by
      rcases Nat.lt_or_ge j ys.length with h | h
      · exact h
      · rw [List.getElem?_eq_none (by simpa using h)] at hj; cases hj
    obtain ⟨b, off, e, hc⟩ := hrow (by omega)
    cases e
    rw [getD_byts ys j hjl] at hj
    rw [← hj, ← hc j hjl, Go.WideShapes.add_plain]

end Go.Proofs.Ytekggimgobeggaa

/- Ours: switchyardmade's small functions: Pick, length, Quiet, four, code. -/
namespace Go.Proofs.Ytekggimgobeggaa
open Go.RowKit

theorem ret_intP {k : IntKind} {a b : Int} (h : a = b) : Ending.returned (.int k a) = .returned (.int k b) := by rw [h]

set_option maxRecDepth 20000 in
theorem zpick_any (a : Int) (n : Nat) (h0 : 0 < n) (hn : n ≤ 9223372036854775807) (w : World) : Calls Try.prog 36 #[.int .i64 a, .int .i64 n] w fun E w' => E = .returned (.int .i64 ((pickZ a n : Nat) : Int)) ∧ w' = w := by
  have h1 := Int.lt_tmod_of_pos a (show (0 : Int) < (n : Int) by omega)
  have h2 := Int.tmod_lt_of_pos a (show (0 : Int) < (n : Int) by omega)
  have h3 := Int.emod_nonneg a (show (n : Int) ≠ 0 by omega)
  have h4 := Int.emod_lt_of_pos a (show (0 : Int) < n by omega)
  have hm1 : ¬ (n : Int) = 0 := by omega
  have hw : IntKind.i64.wrap (a.tmod n) = a.tmod n := by rw [IntKind.wrap_i64]; omega
  have HE : Hid (((pickZ a n : Nat) : Int) = a % n) := by show ((a % n).toNat : Int) = _; omega
  have HD : Hid (a.tmod n = a % n ∨ a.tmod n = a % n - n) := by
    rw [Int.tmod_eq_emod]
    split
    · exact .inl (by omega)
    · exact .inr (by omega)
  go_enter Try.func36, Try.ntmps36
  by_cases hneg : a.tmod n < 0
  · have hw2 : IntKind.i64.wrap (a.tmod n + (n : Int)) = a.tmod n + (n : Int) := by rw [IntKind.wrap_i64]; omega
    go_wp2_with fail
    go_ret
    refine ⟨ret_intP ?_, rfl⟩
    rw [HE.out]
    have := HD.out
    omega
  · go_wp2_with fail
    go_ret
    refine ⟨ret_intP ?_, rfl⟩
    rw [HE.out]
    have := HD.out
    omega
/-- a literal slice of bytes: a block of its own -/
theorem wp_lit {ops : Array Oper} {rest : List Oper} {o : Oper} {a : Act} {w : World} {Q : Exit → Act → World → Prop} (hg : o.guard = none) (len : Nat) (parts : Array (Nat × Operand)) (ho : o.op = .buildSlice 54 len parts)
    (zs : List Int) (hlen : len = zs.length) (hpos : 0 < len) (hsmall : len ≤ 2 ^ 24) (hparts : parts.toList = (zs.zipIdx 0).map fun x => (x.2, Operand.const (Value.int .u8 x.1)))
    (h : ∀ w1 g, Hid (Own w1 w.heap.size g len zs) → Hid (Below w.heap.size w w1) → wpList Try.prog ops Q rest (a.put o.dst (.slice (some ⟨g, 0, none⟩) len len)) w1) : wpList Try.prog ops Q (o :: rest) a w := by
  refine wpList_buildFlat hg 54 5 len parts ho .u8 zs Try.underlying54 (by kernel_rfl) (by kernel_rfl) hlen hpos hsmall hparts ?_
  exact h _ _ (by subst hlen; exact Own.lit w zs (by unfold maxLen; omega)) (new_alloc _ _)
theorem mquiet_any (w : World) : Calls Try.prog 89 #[] w fun e w' => ∃ g, e = .returned (.slice (some ⟨g, 0, none⟩) 5 5) ∧ Own w' w.heap.size g 5 quietL ∧ Below w.heap.size w w' := by
  go_enter Try.func89, Try.ntmps89
  go_wp2_with (refine wp_lit rfl 5 _ rfl quietL rfl (by decide) (by decide) rfl ?_; intro w1 g1 HO1 HB1)
  go_ret
  exact ⟨g1, rfl, HO1.out, HB1.out⟩
end Go.Proofs.Ytekggimgobeggaa

/- What switchyardkit.SameTexts, SameInts (of the same elements), CopyTexts and CopyInts answer. -/
namespace Go.Proofs.Ytekggimgobeggaa
open Go.RowKit

abbrev strs (ss : List ByteArray) : List Value := ss.map Value.string
abbrev nums (zs : List Int) : List Value := zs.map (Value.int .i64)

theorem strs_at (ss : List ByteArray) (k : Nat) (h : k < ss.length) : (strs ss)[k]? = some (.string ss[k]) := by simp [strs, h]
theorem nums_at (zs : List Int) (k : Nat) (h : k < zs.length) : (nums zs)[k]? = some (.int .i64 zs[k]) := by simp [nums, h]
theorem Try.elemS : Elem 131 9 16 := ⟨Try.underlying131, .string ByteArray.empty, rfl, by kernel_rfl⟩
theorem Try.elemI : Elem 102 3 8 := ⟨Try.underlying102, .int .i64 0, rfl, by kernel_rfl⟩


end Go.Proofs.Ytekggimgobeggaa

/- Ours: numbers as keys (switchyardmade.keyed). -/
namespace Go.Proofs.Ytekggimgobeggaa
open Go.RowKit

abbrev numZ (zs : List Int) : List Value := zs.map (Value.int .i64)
theorem numZ_at (zs : List Int) (k : Nat) (h : k < zs.length) : (numZ zs)[k]? = some (.int .i64 (zs.getD k 0)) := by simp [numZ, List.getD, h]
/-- two lists lie apart -/
def Ap (u v : Value) : Prop := ∀ g, u.ownBlock = some g → v.ownBlock ≠ some g
theorem Ap.symm {u v : Value} (h : Ap u v) : Ap v u := fun g h1 h2 => h g h2 h1
theorem Ap.nilL (v : Value) : Ap (.slice none 0 0) v := fun g h => by cases h
theorem Ap.nilR (v : Value) : Ap v (.slice none 0 0) := fun g _ h => by cases h
theorem row_stay {T : TypeId} {z B n : Nat} {v : Value} {vs : List Value} {w w' : World} {row : Option Nat} (h : w.ownsRow B T z v n vs) (hg : w.grownBy w' row) (hne : ∀ g, v.ownBlock = some g → row ≠ some g) : w'.ownsRow B T z v n vs := by
  refine ⟨h.1, h.2.imp id ?_⟩
  rintro ⟨g, cap, cur, e1, e2, e3, e4⟩
  exact ⟨g, cap, cur, e1, e2, (hg.block g (Array.getElem?_eq_some_iff.1 e3).1 (fun e => hne g (by rw [e1]; rfl) e.symm)).trans e3, e4⟩
/-- what is appended to v lies apart from u still -/
theorem Ap.grown {T : TypeId} {z B n : Nat} {u v : Value} {us : List Value} {w : World} (h : Ap u v) (hu : w.ownsRow B T z u n us) {g : Nat} (hv : v.ownBlock = some g ∨ g = w.heap.size) (m c : Nat) : Ap u (.slice (some ⟨g, 0, none⟩) m c) := fun k h1 h2 => by
  have e : g = k := by
    have h2' : some g = some k := h2
    injection h2'
  subst e
  rcases hv with hv | hv
  · exact h g h1 hv
  · have := (World.ownsRow.lt hu g h1).2
    omega
/-- append of a number -/
theorem gpush1 {ops : Array Oper} {rest : List Oper} {o : Oper} {a : Act} {Q : Exit → Act → World → Prop} (w : World) (hgd : o.guard = none) (s x : Operand)
    (ho : o.op = .call { callee := .builtin .append, args := #[s, x], argTypes := #[102, 102] }) (B : Nat) (v : Value) (A : List Int) (hs : a.eval s = v) (hown : GOwnV 3 w B v (numZ A))
    (ad : Addr) (y : Int) (hx : a.eval x = .slice (some ad) 1 1) (hc : w.cell? ad = some (.int .i64 y)) (had : ad.spot = none) (hlen : A.length ≤ 1048576) (hB : B ≤ w.heap.size)
    (h : ∀ g cap w', GOwnV 3 w' B (.slice (some ⟨g, 0, none⟩) (A.length + 1) cap) (numZ (A ++ [y])) → w.grownBy w' v.ownBlock → (v.ownBlock = some g ∨ g = w.heap.size) → g < w'.heap.size → wpList Try.prog ops Q rest (a.put o.dst (.slice (some ⟨g, 0, none⟩) (A.length + 1) cap)) w') :
    wpList Try.prog ops Q (o :: rest) a w := by
  obtain ⟨hu, z, hzc, hinfo⟩ := Try.elemI
  obtain ⟨i0, hi, hz0, hz1, hz2⟩ := info_parts hinfo
  have hlA : (numZ A).length = A.length := by simp
  have hown' : w.ownsRow B 3 1 v A.length (numZ A) := by have := hown; unfold GOwnV at this; rwa [hlA] at this
  refine wpList_append_lies w hgd s x 102 ho B 3 i0 z 1 8 hu hi hz0 hz1 hz2 hzc (by decide) v A.length (numZ A) hs hown' ad 1 1 [.int .i64 y] hx rfl (fun j u hj => ?_) (fun u hu => ?_) (by decide) (by unfold maxLen; omega) (by omega) hB w.heap.size rfl ?_
  · obtain ⟨b, off, sp⟩ := ad
    dsimp only at had
    subst had
    rw [Go.WideShapes.add_plain]
    cases j with
    | zero => simpa using (show some (Value.int .i64 y) = some u from hj) ▸ hc
    | succ j => simp at hj
  · simp only [List.mem_cons, List.not_mem_nil, or_false] at hu
    subst hu
    rfl
  · intro g cap w' h2 h3 h4 h5
    refine h g cap w' ?_ h3 h4 h5
    unfold GOwnV
    have e : numZ (A ++ [y]) = numZ A ++ [.int .i64 y] := by simp
    rw [e, List.length_append, hlA]
    exact h2

/-- keyed's two lists -/
structure KS (w0 w : World) (v4 v5 : Value) (A C : List Int) : Prop where
  a : GOwnV 3 w w0.heap.size v4 (numZ A)
  c : GOwnV 3 w w0.heap.size v5 (numZ C)
  ap : Ap v4 v5
  bel : Below w0.heap.size w0 w
section
variable {w0 w w' : World} {v4 v5 : Value} {A C : List Int} {g m cap : Nat} {y : Int}
theorem KS.below (h : KS w0 w v4 v5 A C) (hb : Below w.heap.size w w') : KS w0 w' v4 v5 A C := ⟨h.a.below hb, h.c.below hb, h.ap, below_step h.bel hb⟩
theorem KS.push4 (h : KS w0 w v4 v5 A C) (ho : GOwnV 3 w' w0.heap.size (.slice (some ⟨g, 0, none⟩) m cap) (numZ (A ++ [y]))) (hg : w.grownBy w' v4.ownBlock) (hv : v4.ownBlock = some g ∨ g = w.heap.size) : KS w0 w' (.slice (some ⟨g, 0, none⟩) m cap) v5 (A ++ [y]) C :=
  ⟨ho, row_stay h.c hg (fun k e1 e2 => h.ap k e2 e1), (Ap.grown h.ap.symm h.c hv m cap).symm, h.bel.grown hg h.bel.size fun k hk => (World.ownsRow.lt h.a k hk).1⟩
theorem KS.push5 (h : KS w0 w v4 v5 A C) (ho : GOwnV 3 w' w0.heap.size (.slice (some ⟨g, 0, none⟩) m cap) (numZ (C ++ [y]))) (hg : w.grownBy w' v5.ownBlock) (hv : v5.ownBlock = some g ∨ g = w.heap.size) : KS w0 w' v4 (.slice (some ⟨g, 0, none⟩) m cap) A (C ++ [y]) :=
  ⟨row_stay h.a hg (fun k e1 e2 => h.ap k e1 e2), ho, Ap.grown h.ap h.a hv m cap, h.bel.grown hg h.bel.size fun k hk => (World.ownsRow.lt h.c k hk).1⟩
theorem KS.sl4 (h : KS w0 w v4 v5 A C) : ∃ p c, v4 = .slice p A.length c ∧ GRow w p (numZ A) := by
  obtain ⟨p, c, e, hr, -, -⟩ := h.a.slice
  exact ⟨p, c, by rw [e]; simp, hr⟩
end
theorem GRow.num {w : World} {p : Option Addr} {zs : List Int} (h : GRow w p (numZ zs)) (h0 : 0 < zs.length) : ∃ b o, p = some ⟨b, o, none⟩ ∧ ∀ i, i < zs.length → w.cell? ⟨b, o + i, none⟩ = some (.int .i64 (zs.getD i 0)) := by
  obtain ⟨b, o, e, hc⟩ := h (by simpa using h0)
  exact ⟨b, o, e, fun i hi => by rw [hc i (by simpa using hi), numZ_at zs i hi]⟩
theorem kdS_new {l : List Int} {i : Nat} (h : lastI (kdS l i).1 (pickZ (l.getD i 0) 4 : Nat) (kdS l i).1.length < 0) : kdS l (i + 1) = ((kdS l i).1 ++ [((pickZ (l.getD i 0) 4 : Nat) : Int)], (kdS l i).2 ++ [((kdS l i).1.length : Int)]) := by
  rw [kdS, if_pos h]
theorem kdS_old {l : List Int} {i : Nat} (h : ¬ lastI (kdS l i).1 (pickZ (l.getD i 0) 4 : Nat) (kdS l i).1.length < 0) : kdS l (i + 1) = ((kdS l i).1, (kdS l i).2 ++ [lastI (kdS l i).1 (pickZ (l.getD i 0) 4 : Nat) (kdS l i).1.length]) := by
  rw [kdS, if_neg h]
set_option maxHeartbeats 1600000 in
theorem keyed_any (p : Option Addr) (n c : Nat) (l : List Int) (w : World) (hl : l.length = n) (hn : n ≤ 24) (hr : GRow w p (numZ l)) :
    Calls Try.prog 88 #[.slice p n c] w fun e w' => ∃ v, e = .returned (.tuple #[v, .int .i64 (kdS l n).1.length]) ∧ GOwnV 3 w' w.heap.size v (numZ (kdS l n).2) ∧ Below w.heap.size w w' := by
  have HR := Hid.in hr
  have HL := Hid.in hl
  clear hr hl
  go_enter Try.func88, Try.ntmps88
  go_wp2
  go_loopw [4, 5, 6] (fun v4 v5 vi wr => ∃ i : Nat, i ≤ n ∧ vi = .int .i64 i ∧ KS w wr v4 v5 (kdS l i).1 (kdS l i).2) (fun _ _ vi _ => n - (intOf vi).toNat)
  case atStart => exact ⟨0, Nat.zero_le _, rfl, GOwnV.nil _ _ _, GOwnV.nil _ _ _, Ap.nilL _, Below.refl _ _⟩
  case round =>
    obtain ⟨i, hi, rfl, hk⟩ := hrel
    have HK := Hid.in hk
    clear hk
    by_cases hlt : i < n
    · obtain ⟨b, o, rfl, hc⟩ := HR.out.num (by rw [HL.out]; omega)
      have hci := hc i (by rw [HL.out]; exact hlt)
      have c1 : wr.cell? ⟨b, o + i, none⟩ = some (.int .i64 (l.getD i 0)) := (HK.out.bel.cell (p := ⟨b, o + i, none⟩) (cell_lt hci)).trans hci
      have hP : Calls Try.prog 36 #[.int .i64 (l.getD i 0), .int .i64 4] wr fun E w' => E = .returned (.int .i64 ((pickZ (l.getD i 0) 4 : Nat) : Int)) ∧ w' = wr := zpick_any (l.getD i 0) 4 (by decide) (by decide) wr
      have HN := Hid.in (@kdS_new l i)
      have HD := Hid.in (@kdS_old l i)
      have HKL := Hid.in (kdS_len l i)
      obtain ⟨p4, cc4, e4, hr4⟩ := HK.out.sl4
      subst e4
      have HR4 := Hid.in hr4
      have hAl : (kdS l i).1.length ≤ 24 := by have := HKL.out.2; omega
      have hbd := lastI_bd (kdS l i).1 (pickZ (l.getD i 0) 4 : Nat)
      clear hci hc hr4
      generalize l.getD i 0 = y at *
      generalize pickZ y 4 = k at *
      generalize kdS l i = s at *
      obtain ⟨A, C⟩ := s
      dsimp only at *
      go_wp2_with (go_at_call 36; refine Hid.out ?_)
      refine Lib.hid ?_
      (with_reducible refine hP.mono ?_)
      rintro e w1 ⟨rfl, rfl⟩
      clear hP c1
      go_wp2_with fail
      go_loopw [8, 9] (fun va vj wz => wz = w1 ∧ ∃ j : Nat, j ≤ A.length ∧ vj = .int .i64 j ∧ va = .int .i64 (lastI A k j)) (fun _ vj _ => A.length - (intOf vj).toNat)
      case atStart => exact ⟨rfl, 0, Nat.zero_le _, rfl, rfl⟩
      case round =>
        obtain ⟨rfl, j, hj, rfl, rfl⟩ := hrel
        by_cases hjl : j < A.length
        · obtain ⟨b4, o4, rfl, hc4⟩ := HR4.out.num (by omega)
          have c4 := hc4 j hjl
          have HI : Hid (lastI A k (j + 1) = if A.getD j 0 = k then (j : Int) else lastI A k j) := rfl
          clear hc4
          generalize A.getD j 0 = z at *
          by_cases hz : z = (k : Int)
          · have hzb : (z == (k : Int)) = true := by simpa using hz
            go_wp2_with fail
            go_roundw
            case rel => exact ⟨by first | rfl | trivial, j + 1, by omega, by go_num, by rw [HI.out, if_pos hz]⟩
            case measure => simp [intOf]; omega
          · have hzb : (z == (k : Int)) = false := by simpa using hz
            go_wp2_with fail
            go_roundw
            case rel => exact ⟨by first | rfl | trivial, j + 1, by omega, by go_num, by rw [HI.out, if_neg hz]⟩
            case measure => simp [intOf]; omega
        · obtain rfl : j = A.length := by omega
          have hb1 := hbd A.length
          generalize lastI A (k : Int) A.length = q at *
          by_cases hq : q < 0
          · have HS := Hid.in (HN.out hq)
            have HK1 := Hid.in (HK.out.below (new_alloc wr (.cells #[.int .i64 k] 3)))
            have hA1 : A.length ≤ 1048576 := by omega
            have hC1 : C.length ≤ 1048576 := by have := HKL.out.1; omega
            clear hbd HD HN
            have hC0 : (wr.alloc (.cells #[.int .i64 k] 3)).cell? ⟨wr.heap.size, 0, none⟩ = some (.int .i64 k) := (Blk.new wr 3 #[.int .i64 k]).cell 0
            go_wp2_with (at_builtin; refine gpush1 _ rfl _ _ rfl w.heap.size _ A rfl HK1.out.a ⟨wr.heap.size, 0, none⟩ k rfl hC0 rfl hA1 HK1.out.bel.size ?_; intro g2 c2 w2 ho2 hg2 hv2 hl2; have HK2 := Hid.in (HK1.out.push4 ho2 hg2 hv2); clear ho2 hg2 hv2 hl2; refine Hid.out ?_)
            refine Lib.hid ?_
            have HK3 := Hid.in (HK2.out.below (new_alloc w2 (.cells #[.int .i64 A.length] 3)))
            have hC3 : (w2.alloc (.cells #[.int .i64 A.length] 3)).cell? ⟨w2.heap.size, 0, none⟩ = some (.int .i64 A.length) := (Blk.new w2 3 #[.int .i64 A.length]).cell 0
            clear hC0 HK1
            go_wp2_with (at_builtin; refine gpush1 _ rfl _ _ rfl w.heap.size _ C rfl HK3.out.c ⟨w2.heap.size, 0, none⟩ A.length rfl hC3 rfl hC1 HK3.out.bel.size ?_; intro g4 c4 w4 ho4 hg4 hv4 hl4; have HK4 := Hid.in (HK3.out.push5 ho4 hg4 hv4); clear ho4 hg4 hv4 hl4)
            clear hC3 HK3
            go_roundw
            case rel => exact ⟨i + 1, by omega, by go_num, by rw [HS.out]; exact HK4.out⟩
            case measure => simp [intOf]; omega
          · have HS := Hid.in (HD.out (by omega))
            have HK3 := Hid.in (HK.out.below (new_alloc wr (.cells #[.int .i64 q] 3)))
            have hC1 : C.length ≤ 1048576 := by have := HKL.out.1; omega
            have hC3 : (wr.alloc (.cells #[.int .i64 q] 3)).cell? ⟨wr.heap.size, 0, none⟩ = some (.int .i64 q) := (Blk.new wr 3 #[.int .i64 q]).cell 0
            clear hbd HD HN
            go_wp2_with (at_builtin; refine gpush1 _ rfl _ _ rfl w.heap.size _ C rfl HK3.out.c ⟨wr.heap.size, 0, none⟩ q rfl hC3 rfl hC1 HK3.out.bel.size ?_; intro g4 c4 w4 ho4 hg4 hv4 hl4; have HK4 := Hid.in (HK3.out.push5 ho4 hg4 hv4); clear ho4 hg4 hv4 hl4)
            clear hC3 HK3
            go_roundw
            case rel => exact ⟨i + 1, by omega, by go_num, by rw [HS.out]; exact HK4.out⟩
            case measure => simp [intOf]; omega
    · obtain rfl : i = n := by omega
      obtain ⟨p4, cc4, e4, -⟩ := HK.out.sl4
      subst e4
      go_wp2_with fail
      go_ret2
      exact ⟨_, rfl, HK.out.c, HK.out.bel⟩
end Go.Proofs.Ytekggimgobeggaa

/- A switch over sites, step by step: what is left of steps, writes, rounds; how each site stands. Lists alone. -/
namespace Go.Proofs.Ytekggimgobeggaa
open Go.RowKit

/-- a batch's entry of a site -/
def bx (up : Bool) (x : Si) : Si := ⟨dirK up, x.at_, x.to_⟩
/-- steps left behind a Clear, with l sites left -/
def aft (l : Nat) : Nat := 4 * l + 7 * ((l + 3) / 4)
def remS (ph nx m w l : Nat) : Nat :=
  if ph = 0 then 0
  else if ph = 1 then (if l = 0 then 1 else min (4 - m) l + (3 * (m + min (4 - m) l) + 7) + aft (l - min (4 - m) l))
  else if ph = 2 then (m - w) + 2 + 2 * (m + 2) + 1 + aft l
  else if ph = 3 then (m - w) + 2 + (m + 2) + 1 + aft l
  else if ph = 4 then (m - w) + 2 + 1 + aft l
  else if ph = 5 then (if nx = 3 then 1 + 2 * (m + 2) + 1 + aft l else if nx = 4 then 1 + (m + 2) + 1 + aft l else 1 + 1 + aft l)
  else 1 + aft l
def remW (ph nx m w l : Nat) : Nat :=
  if ph = 0 then 0
  else if ph = 1 then 3 * (m + l)
  else if ph = 2 then (m - w) + 2 * m + 3 * l
  else if ph = 3 then (m - w) + m + 3 * l
  else if ph = 4 then (m - w) + 3 * l
  else if ph = 5 then (if nx = 3 then 2 * m + 3 * l else if nx = 4 then m + 3 * l else 3 * l)
  else 3 * l
def remR (ph nx m l : Nat) : Nat :=
  if ph = 0 then 0
  else if ph = 1 then (if l = 0 then 0 else 3 + 3 * ((l - min (4 - m) l + 3) / 4))
  else if ph = 2 then 3 + 3 * ((l + 3) / 4)
  else if ph = 3 then 2 + 3 * ((l + 3) / 4)
  else if ph = 4 then 1 + 3 * ((l + 3) / 4)
  else if ph = 5 then (if nx = 3 then 2 + 3 * ((l + 3) / 4) else if nx = 4 then 1 + 3 * ((l + 3) / 4) else 3 * ((l + 3) / 4))
  else 3 * ((l + 3) / 4)
/-- how the sites of a batch stand: 0 as before, 1 the breakpoint, 2 the breakpoint and the new tail, 3 the new one -/
def lowS (ph nx : Nat) : Nat := if ph = 3 then 1 else if ph = 4 then 2 else if ph = 5 then (if nx = 3 then 1 else if nx = 4 then 2 else 3) else if ph = 6 then 3 else 0
def sig (d m ph nx w j : Nat) : Nat := if j < d then 3 else if j < d + m then lowS ph nx + (if j < d + w then 1 else 0) else 0
/-- a site's five bytes -/
def bw (b : List Int) (st : Nat) (y : Si) : List Int :=
  if st = 0 then (b.drop y.at_.toNat).take 5 else if st = 1 then 204 :: (b.drop (y.at_.toNat + 1)).take 4 else if st = 2 then 204 :: (newB y).drop 1 else newB y
structure TOk (b : List Int) (T : List Si) : Prop where
  srt : Srt T
  fit : ∀ j (hj : j < T.length), T[j].at_ + 5 ≤ b.length
  to_ : ∀ j (hj : j < T.length), 0 ≤ T[j].to_ ∧ T[j].to_ ≤ 65536
/-- memory, with each site as it stands -/
structure MemS (b : List Int) (T : List Si) (up : Bool) (σ : Nat → Nat) (xs : List Int) : Prop where
  len : xs.length = b.length
  at_ : ∀ j (hj : j < T.length) t, t < 5 → xs[T[j].at_.toNat + t]? = (bw b (σ j) (bx up T[j]))[t]?
  off : ∀ i, (∀ j (hj : j < T.length), i < T[j].at_.toNat ∨ T[j].at_.toNat + 5 ≤ i) → xs[i]? = b[i]?
theorem putA_get (xs ys : List Int) (a i : Nat) (h : a + ys.length ≤ xs.length) : (putA xs a ys)[i]? = if a ≤ i ∧ i < a + ys.length then ys[i - a]? else xs[i]? := by
  unfold putA
  have hl : (xs.take a).length = a := by rw [List.length_take]; omega
  by_cases h1 : i < a
  · rw [if_neg (by omega), List.getElem?_append_left (by omega), List.getElem?_take, if_pos h1]
  · rw [List.getElem?_append_right (by omega), hl]
    by_cases h2 : i < a + ys.length
    · rw [if_pos ⟨by omega, h2⟩, List.getElem?_append_left (by omega)]
    · rw [if_neg (by omega), List.getElem?_append_right (by omega), List.getElem?_drop]
      congr 1; omega
theorem nB_len (y : Si) : (newB y).length = 5 := by
  unfold newB
  split <;> rfl
theorem MemS.congr {b : List Int} {T : List Si} {up : Bool} {σ τ : Nat → Nat} {xs : List Int} (h : MemS b T up σ xs) (e : ∀ j, j < T.length → σ j = τ j) : MemS b T up τ xs :=
  ⟨h.len, fun j hj t ht => by rw [← e j hj]; exact h.at_ j hj t ht, h.off⟩
theorem MemS.write {b : List Int} {T : List Si} {up : Bool} {σ : Nat → Nat} {xs : List Int} (h : MemS b T up σ xs) (hT : TOk b T) (j : Nat) (hj : j < T.length) (o : Nat) (ys : List Int) (ho : o + ys.length ≤ 5) (st' : Nat)
    (hb : ∀ t, t < 5 → (bw b st' (bx up T[j]))[t]? = if o ≤ t ∧ t < o + ys.length then ys[t - o]? else (bw b (σ j) (bx up T[j]))[t]?) :
    MemS b T up (fun i => if i = j then st' else σ i) (putA xs (T[j].at_.toNat + o) ys) := by
  have hf := hT.fit j hj
  have h0 := hT.srt.lo j hj
  have hl := h.len
  have hfit : T[j].at_.toNat + o + ys.length ≤ xs.length := by omega
  refine ⟨by rw [putA_len hfit, hl], fun i hi t ht => ?_, fun i hi => ?_⟩
  · rw [putA_get _ _ _ _ hfit]
    by_cases e : i = j
    · subst e
      rw [if_pos rfl, hb t ht]
      by_cases hc : o ≤ t ∧ t < o + ys.length
      · rw [if_pos hc, if_pos ⟨by omega, by omega⟩]
        congr 1; omega
      · rw [if_neg hc, if_neg (by omega)]
        exact h.at_ i hi t ht
    · rw [if_neg e]
      have hn : ¬ (T[j].at_.toNat + o ≤ T[i].at_.toNat + t ∧ T[i].at_.toNat + t < T[j].at_.toNat + o + ys.length) := by
        have hi0 := hT.srt.lo i hi
        rcases Nat.lt_or_ge i j with hij | hij
        · have := hT.srt.gap i j hj hij
          omega
        · have := hT.srt.gap j i hi (by omega)
          omega
      rw [if_neg hn]
      exact h.at_ i hi t ht
  · rw [putA_get _ _ _ _ hfit]
    have := hi j hj
    rw [if_neg (by omega)]
    exact h.off i hi
theorem bw_step (b : List Int) (y : Si) (ph : Nat) (hph : ph = 2 ∨ ph = 3 ∨ ph = 4) (h0 : 0 ≤ y.at_) (hf : y.at_ + 5 ≤ b.length) :
    (pieceP ph y).1.toNat = y.at_.toNat + (if ph = 3 then 1 else 0) ∧ (if ph = 3 then 1 else 0) + (pieceP ph y).2.length ≤ 5 ∧
      (∀ t, t < 5 → (bw b (lowS ph 0 + 1) y)[t]? = if (if ph = 3 then 1 else 0) ≤ t ∧ t < (if ph = 3 then 1 else 0) + (pieceP ph y).2.length then (pieceP ph y).2[t - (if ph = 3 then 1 else 0)]? else (bw b (lowS ph 0) y)[t]?) ∧
      0 ≤ (pieceP ph y).1 ∧ (pieceP ph y).1 ≤ (b.length : Int) - (pieceP ph y).2.length := by
  have hN := nB_len y
  rcases hph with rfl | rfl | rfl
  · refine ⟨rfl, by show 0 + 1 ≤ 5; omega, fun t ht => ?_, h0, by show y.at_ ≤ (b.length : Int) - 1; omega⟩
    show (204 :: (b.drop (y.at_.toNat + 1)).take 4)[t]? = if 0 ≤ t ∧ t < 0 + 1 then [(204 : Int)][t - 0]? else ((b.drop y.at_.toNat).take 5)[t]?
    by_cases e : t = 0
    · subst e; rfl
    · obtain ⟨u, rfl⟩ : ∃ u, t = u + 1 := ⟨t - 1, by omega⟩
      rw [if_neg (by omega), List.getElem?_cons_succ, List.getElem?_take, List.getElem?_take, if_pos (by omega), if_pos (by omega), List.getElem?_drop, List.getElem?_drop]
      congr 1; omega
  · have hd : ((newB y).drop 1).length = 4 := by rw [List.length_drop, hN]
    refine ⟨by show (y.at_ + 1).toNat = _; show _ = y.at_.toNat + 1; omega, by show 1 + ((newB y).drop 1).length ≤ 5; omega, fun t ht => ?_, by show 0 ≤ y.at_ + 1; omega, by show y.at_ + 1 ≤ (b.length : Int) - (((newB y).drop 1).length : Nat); omega⟩
    show (204 :: (newB y).drop 1)[t]? = if 1 ≤ t ∧ t < 1 + ((newB y).drop 1).length then ((newB y).drop 1)[t - 1]? else (204 :: (b.drop (y.at_.toNat + 1)).take 4)[t]?
    by_cases e : t = 0
    · subst e; rfl
    · obtain ⟨u, rfl⟩ : ∃ u, t = u + 1 := ⟨t - 1, by omega⟩
      rw [if_pos ⟨by omega, by omega⟩, List.getElem?_cons_succ]
      rfl
  · have hd : ((newB y).take 1).length = 1 := by rw [List.length_take, hN]; rfl
    refine ⟨rfl, by show 0 + ((newB y).take 1).length ≤ 5; omega, fun t ht => ?_, h0, by show y.at_ ≤ (b.length : Int) - (((newB y).take 1).length : Nat); omega⟩
    show (newB y)[t]? = if 0 ≤ t ∧ t < 0 + ((newB y).take 1).length then ((newB y).take 1)[t - 0]? else (204 :: (newB y).drop 1)[t]?
    by_cases e : t = 0
    · subst e
      rw [if_pos ⟨by omega, by omega⟩, List.getElem?_take, if_pos (by omega)]
    · obtain ⟨u, rfl⟩ : ∃ u, t = u + 1 := ⟨t - 1, by omega⟩
      rw [if_neg (by omega), List.getElem?_cons_succ, List.getElem?_drop]
      congr 1; omega
/-- what holds of a patcher in the midst of a switch over T -/
structure Inv (b : List Int) (T : List Si) (up : Bool) (nR : Nat) (d : Nat) (s : PS) : Prop where
  ln : d + s.bt.length + s.left.length = T.length
  lf : s.left = T.drop (d + s.bt.length)
  bt : s.bt = ((T.drop d).take s.bt.length).map (bx up)
  mem : MemS b T up (sig d s.bt.length s.ph s.nx s.wr) s.xs
  up_ : s.up = up
  m4 : s.bt.length ≤ 4
  fl : s.fs.length = nR
  ov : s.ph ≠ 5 → ovr s.fs = true
  p1 : s.ph = 1 → s.bt.length < 4 ∧ (s.left = [] → s.bt = [])
  w0 : ¬ (2 ≤ s.ph ∧ s.ph ≤ 4) → s.wr = 0
  wm : s.wr ≤ s.bt.length
  ph : s.ph ≤ 6
  nx : s.ph = 5 → s.nx = 3 ∨ s.nx = 4 ∨ s.nx = 6
  z0 : s.ph = 0 → s.left = [] ∧ s.bt = []
def remS' (s : PS) : Nat := remS s.ph s.nx s.bt.length s.wr s.left.length
def remW' (s : PS) : Nat := remW s.ph s.nx s.bt.length s.wr s.left.length
def remR' (s : PS) : Nat := remR s.ph s.nx s.bt.length s.left.length
theorem Inv.at_ {b : List Int} {T : List Si} {up : Bool} {nR d : Nat} {s : PS} (h : Inv b T up nR d s) (i : Nat) (hi : i < s.bt.length) : ∃ hj : d + i < T.length, s.bt[i]? = some (bx up T[d + i]) := by
  have h1 := h.ln
  refine ⟨by omega, ?_⟩
  rw [h.bt, List.getElem?_map, List.getElem?_take, if_pos hi, List.getElem?_drop, List.getElem?_eq_getElem (by omega)]
  rfl
/-- a round is waited for -/
def wtg (s : PS) : Bool := decide (s.ph = 5) && !ovr s.fs
/-- what a step tells: writes, and others -/
def nWr (l : List Ev) : Nat := (l.filter fun e => decide (e.k = 10)).length
structure StI (b : List Int) (T : List Si) (up : Bool) (nR : Nat) (s : PS) (a : SA) : Prop where
  e : a.e = 0
  inv : ∃ d, Inv b T up nR d a.s
  goes : wtg s = false → remS' a.s + 1 = remS' s ∧ (a.back = true ↔ a.s.ph = 0) ∧ remW' a.s + nWr a.ev = remW' s ∧ remR' a.s + (a.ev.length - nWr a.ev) = remR' s ∧ a.s.ct = ⟨s.ct.si, s.ct.wr + nWr a.ev, s.ct.ro + (a.ev.length - nWr a.ev : Nat), s.ct.st + 1, s.ct.wa⟩
  waits : wtg s = true → a = ⟨{ s with ct := { s.ct with wa := s.ct.wa + 1 } }, [], false, 0⟩
end Go.Proofs.Ytekggimgobeggaa

/- Ours: sites sorted (switchyardmade.sorted). -/
namespace Go.Proofs.Ytekggimgobeggaa
open Go.RowKit

def z3V (q : Z3) : V3 := (.int .i64 q.1, .int .i64 q.2.1, .int .i64 q.2.2)
theorem z3V_one (q : Z3) : one3 (z3V q) := ⟨rfl, rfl, rfl⟩
def set3 (w : World) (g i : Nat) (q : V3) : World := ((w.setCell ⟨g, i * 3, none⟩ q.1).setCell ⟨g, i * 3 + 1, none⟩ q.2.1).setCell ⟨g, i * 3 + 2, none⟩ q.2.2
theorem c3_set3 : ∀ (L : List V3) (i : Nat) (q : V3), i < L.length → (((c3 L).set (i * 3) q.1).set (i * 3 + 1) q.2.1).set (i * 3 + 2) q.2.2 = c3 (L.set i q)
  | x :: L, 0, q, _ => by
    show (((l3 x ++ c3 L).set (0 * 3) q.1).set (0 * 3 + 1) q.2.1).set (0 * 3 + 2) q.2.2 = l3 q ++ c3 L
    rfl
  | x :: L, i + 1, q, h => by
    have ih := c3_set3 L i q (by simpa using h)
    have h3 : (l3 x).length = 3 := rfl
    show (((l3 x ++ c3 L).set ((i + 1) * 3) q.1).set ((i + 1) * 3 + 1) q.2.1).set ((i + 1) * 3 + 2) q.2.2 = l3 x ++ c3 (L.set i q)
    rw [List.set_append_right _ _ (by rw [h3]; omega), List.set_append_right _ _ (by rw [h3]; omega), List.set_append_right _ _ (by rw [h3]; omega), h3, show (i + 1) * 3 - 3 = i * 3 by omega, show (i + 1) * 3 + 1 - 3 = i * 3 + 1 by omega, show (i + 1) * 3 + 2 - 3 = i * 3 + 2 by omega, ih]
theorem grown_two {a b c : World} {r : Option Nat} (h1 : a.grownBy b r) (h2 : b.grownBy c r) : a.grownBy c r :=
  ⟨h2.os.trans h1.os, h2.tape.trans h1.tape, h2.output.trans h1.output, Nat.le_trans h1.size h2.size, fun i hi hn => (h2.block i (Nat.lt_of_lt_of_le hi h1.size) hn).trans (h1.block i hi hn)⟩
theorem TOwn.set3 {T : TypeId} {w : World} {B g n c : Nat} {L : List V3} (h : TOwn T w B (.slice (some ⟨g, 0, none⟩) n c) L) {x : Nat} (hx : x < L.length) (q : V3) : TOwn T (Go.Proofs.Ytekggimgobeggaa.set3 w g x q) B (.slice (some ⟨g, 0, none⟩) n c) (L.set x q) ∧ w.grownBy (Go.Proofs.Ytekggimgobeggaa.set3 w g x q) (some g) := by
  have h0 : w.ownsRow B T 3 (.slice (some ⟨g, 0, none⟩) n c) L.length (c3 L) := h
  have hn : n = L.length := by
    obtain ⟨p, cc, e, -⟩ := h.shape
    injection e
  subst hn
  have h1 := World.ownsRow.stored h0 (x * 3) q.1
  have h2 := World.ownsRow.stored h1.1 (x * 3 + 1) q.2.1
  have h3 := World.ownsRow.stored h2.1 (x * 3 + 2) q.2.2
  have hg : w.grownBy (Go.Proofs.Ytekggimgobeggaa.set3 w g x q) (some g) := grown_two (grown_two h1.2 h2.2) h3.2
  have h4 := h3.1
  rw [c3_set3 _ x _ hx] at h4
  refine ⟨?_, hg⟩
  unfold TOwn
  rw [List.length_set]
  exact h4
/-- how a list of sites lies -/
def TRow (w : World) (p : Option Addr) (L : List Z3) : Prop := 0 < L.length → ∃ b o, p = some ⟨b, o, none⟩ ∧ ∀ i, i < L.length → w.cell? ⟨b, o + i * 3, none⟩ = some (.int .i64 (L.getD i (0, 0, 0)).1) ∧ w.cell? ⟨b, o + i * 3 + 1, none⟩ = some (.int .i64 (L.getD i (0, 0, 0)).2.1) ∧ w.cell? ⟨b, o + i * 3 + 2, none⟩ = some (.int .i64 (L.getD i (0, 0, 0)).2.2)
theorem TOwn.cells {T : TypeId} {w : World} {B g n c : Nat} {L : List Z3} (h : TOwn T w B (.slice (some ⟨g, 0, none⟩) n c) (L.map z3V)) (i : Nat) (hi : i < L.length) : w.cell? ⟨g, i * 3, none⟩ = some (.int .i64 (L.getD i (0, 0, 0)).1) ∧ w.cell? ⟨g, i * 3 + 1, none⟩ = some (.int .i64 (L.getD i (0, 0, 0)).2.1) ∧ w.cell? ⟨g, i * 3 + 2, none⟩ = some (.int .i64 (L.getD i (0, 0, 0)).2.2) := by
  obtain ⟨p, cap, e, -, -, hs⟩ := h.shape
  obtain ⟨g', e', -, -, hc⟩ := hs (by rw [List.length_map]; omega)
  have e1 : some (⟨g, 0, none⟩ : Addr) = p := by injection e
  rw [← e1] at e'
  have e2 : g = g' := by injection e' with e'; injection e'
  subst e2
  have hi' : i < (L.map z3V).length := by rw [List.length_map]; exact hi
  have hz : L.getD i (0, 0, 0) = L[i] := by simp [List.getD, List.getElem?_eq_getElem hi]
  rw [hz]
  have h0 := hc i hi' 0 (by decide)
  have h1 := hc i hi' 1 (by decide)
  have h2 := hc i hi' 2 (by decide)
  rw [List.getElem_map] at h0 h1 h2
  exact ⟨h0, h1, h2⟩
theorem TOwn.freeAt {T : TypeId} {w : World} {B g n c : Nat} {L : List V3} (h : TOwn T w B (.slice (some ⟨g, 0, none⟩) n c) L) (i : Nat) : w.frozen? ⟨g, i, none⟩ = false := by
  have h0 : w.ownsRow B T 3 (.slice (some ⟨g, 0, none⟩) n c) L.length (c3 L) := h
  have hn : n = L.length := by
    obtain ⟨p, cc, e, -⟩ := h.shape
    injection e
  subst hn
  exact World.ownsRow.frozenAt h0 i
theorem TOwn.trow {T : TypeId} {w : World} {B : Nat} {v : Value} {L : List Z3} (h : TOwn T w B v (L.map z3V)) : ∃ p c, v = .slice p L.length c ∧ TRow w p L := by
  obtain ⟨p, cap, e, -, -, hs⟩ := h.shape
  rw [List.length_map] at e
  refine ⟨p, cap, e, fun h0 => ?_⟩
  obtain ⟨g, rfl, -, -, -⟩ := hs (by rw [List.length_map]; exact h0)
  subst e
  exact ⟨g, 0, rfl, fun i hi => by
    have := h.cells i hi
    simpa using this⟩
theorem posZ_down {L : List Z3} {x : Z3} {p : Nat} (h : gtZ (L.getD p (0, 0, 0)) x = true) : posZ L x (p + 1) = posZ L x p := by rw [posZ, if_pos h]
theorem posZ_stop {L : List Z3} {x : Z3} {p : Nat} (h : gtZ (L.getD p (0, 0, 0)) x = false) : posZ L x (p + 1) = p + 1 := by rw [posZ, if_neg (by rw [h]; decide)]
theorem shZ_getD {A : List Z3} {s : Z3} {x : Nat} (h : x < A.length) : (shZ A s (x + 1)).getD x (0, 0, 0) = A.getD x (0, 0, 0) := by
  simp [List.getD, shZ_get h, List.getElem?_eq_getElem h]

theorem shZ_step' {A : List Z3} {s : Z3} {x : Nat} (h : x < A.length) : (shZ A s (x + 1)).set (x + 1) (A.getD x (0, 0, 0)) = shZ A s x := by
  have e : A.getD x (0, 0, 0) = A[x] := by simp [List.getD, List.getElem?_eq_getElem h]
  rw [e, shZ_step h]

set_option maxHeartbeats 4000000 in
set_option maxRecDepth 20000 in
theorem sortedP_any (p : Option Addr) (n c : Nat) (l : List Z3) (w : World) (hl : l.length = n) (hn : n ≤ 24) (hr : TRow w p l) :
    Calls Try.prog 90 #[.slice p n c] w fun e w' => ∃ v, e = .returned v ∧ TOwn 48 w' w.heap.size v ((sortZ l n).map z3V) ∧ Below w.heap.size w w' := by
  have HR := Hid.in hr
  have HL := Hid.in hl
  clear hr hl
  go_enter Try.func90, Try.ntmps90
  go_wp2
  go_loopw [3, 4] (fun v3 vi wr => ∃ i : Nat, i ≤ n ∧ vi = .int .i64 i ∧ TOwn 48 wr w.heap.size v3 ((sortZ l i).map z3V) ∧ Below w.heap.size w wr) (fun _ vi _ => n - (intOf vi).toNat)
  case atStart => exact ⟨0, Nat.zero_le _, rfl, TOwn.nil _ _ _, Below.refl _ _⟩
  case round =>
    obtain ⟨i, hi, rfl, ho, hb⟩ := hrel
    have HO := Hid.in ho
    have HB := Hid.in hb
    obtain ⟨p3, cc3, e3, -⟩ := ho.trow
    rw [sortZ_len] at e3
    subst e3
    clear ho hb
    by_cases hlt : i < n
    · obtain ⟨b, o, rfl, hc⟩ := HR.out (by rw [HL.out]; omega)
      obtain ⟨q0, q1, q2⟩ := hc i (by rw [HL.out]; exact hlt)
      have c0 : wr.cell? ⟨b, o + i * 3, none⟩ = _ := (HB.out.cell (p := ⟨b, o + i * 3, none⟩) (cell_lt q0)).trans q0
      have c1 : wr.cell? ⟨b, o + i * 3 + 1, none⟩ = _ := (HB.out.cell (p := ⟨b, o + i * 3 + 1, none⟩) (cell_lt q1)).trans q1
      have c2 : wr.cell? ⟨b, o + i * 3 + 2, none⟩ = _ := (HB.out.cell (p := ⟨b, o + i * 3 + 2, none⟩) (cell_lt q2)).trans q2
      have HQ : Hid (w.cell? ⟨b, o + i * 3, none⟩ = some (.int .i64 (l.getD i (0, 0, 0)).1) ∧ w.cell? ⟨b, o + i * 3 + 1, none⟩ = some (.int .i64 (l.getD i (0, 0, 0)).2.1)) := ⟨q0, q1⟩
      have HS : Hid (sortZ l (i + 1) = insZ (sortZ l i) (l.getD i (0, 0, 0))) := rfl
      have HLn := Hid.in (sortZ_len l i)
      have HQ2 := Hid.in q2
      clear q0 q1 q2 hc
      generalize l.getD i (0, 0, 0) = x at *
      generalize sortZ l i = A at *
      obtain ⟨xk, xa, xt⟩ := x
      dsimp only at c0 c1 c2 HQ HQ2
      have HN0 := Hid.in (HO.out.alloc (.cells #[.int .i64 xk, .int .i64 xa, .int .i64 xt] 48))
      have hA1 : (A.map z3V).length ≤ 1048576 := by rw [List.length_map, HLn.out]; omega
      have HB0 := Hid.in (below_alloc HB.out (.cells #[.int .i64 xk, .int .i64 xa, .int .i64 xt] 48))
      go_wp2_with (at_builtin; refine tpush Try.elemSite _ rfl _ _ rfl w.heap.size _ (A.map z3V) rfl HN0.out ⟨wr.heap.size, 0, none⟩ 1 (z3V (xk, xa, xt)) (z3V_one _) rfl (news3 wr (z3V (xk, xa, xt)) 48) hA1 (by decide) HB0.out.size ?_; intro v2 w2 ho2 hg2 hb2; refine Hid.out ?_)
      refine Lib.hid ?_
      obtain ⟨p2, cc2, e2, -, -, hs2⟩ := ho2.shape
      obtain ⟨g2, rfl, -, -, -⟩ := hs2 (by simp)
      rw [List.length_append, List.length_map, HLn.out, List.length_singleton] at e2
      subst e2
      have hA2 : (A.map z3V ++ [z3V (xk, xa, xt)]) = (shZ A (xk, xa, xt) i).map z3V := by rw [← HLn.out, shZ_start, List.map_append]; rfl
      rw [hA2] at ho2
      have HO2 := Hid.in ho2
      have HB2 := Hid.in (hb2 w HB0.out)
      clear ho2 hg2 hb2 hs2 hA2 HN0 HB0 c0 c1 c2 hA1 HO HB
      go_wp2_with fail
      go_loopw [5] (fun va wz => ∃ q : Nat, q ≤ i ∧ va = .int .i64 q ∧ TOwn 48 wz w.heap.size (.slice (some ⟨g2, 0, none⟩) (i + 1) cc2) ((shZ A (xk, xa, xt) q).map z3V) ∧ Below w.heap.size w wz ∧ posZ A (xk, xa, xt) A.length = posZ A (xk, xa, xt) q) (fun va _ => (intOf va).toNat)
      case atStart => exact ⟨i, Nat.le_refl _, rfl, HO2.out, HB2.out, by rw [HLn.out]⟩
      case round =>
        obtain ⟨q, hq, rfl, ho3, hb3, hp3⟩ := hrel
        have HO3 := Hid.in ho3
        have HB3 := Hid.in hb3
        have HP3 := Hid.in hp3
        have x0 : wr.cell? ⟨b, o + i * 3, none⟩ = some (.int .i64 xk) := (HB3.out.cell (p := ⟨b, o + i * 3, none⟩) (cell_lt HQ.out.1)).trans HQ.out.1
        have x1 : wr.cell? ⟨b, o + i * 3 + 1, none⟩ = some (.int .i64 xa) := (HB3.out.cell (p := ⟨b, o + i * 3 + 1, none⟩) (cell_lt HQ.out.2)).trans HQ.out.2
        clear ho3 hb3 hp3
        rcases q with _ | y
        · have hg0 : decide ((0 : Int) < ((0 : Nat) : Int)) = false := by simp
          go_wp2_with fail
          go_quiet (fail)
          have HW := Hid.in (HO3.out.drewN nq)
          have HBW := Hid.in (below_draws HB3.out nq)
          have f0 := HO3.out.freeAt (0 * 3)
          have f1 := HO3.out.freeAt (0 * 3 + 1)
          have f2 := HO3.out.freeAt (0 * 3 + 2)
          obtain ⟨n0, n1, n2⟩ := HO3.out.cells (0) (by rw [shZ_len (by rw [HLn.out]; exact hq)]; have := HLn.out; omega)
          have x2 : wr.cell? ⟨b, o + i * 3 + 2, none⟩ = some (.int .i64 xt) := (HB3.out.cell (p := ⟨b, o + i * 3 + 2, none⟩) (cell_lt HQ2.out)).trans HQ2.out
          generalize (shZ A (xk, xa, xt) (0)).getD (0) (0, 0, 0) = en at *
          go_wp2_with fail
          go_roundw
          case rel =>
            have hs := HW.out.set3 (x := 0) (by rw [List.length_map, shZ_len (by rw [HLn.out]; exact hq)]; have := HLn.out; omega) (z3V (xk, xa, xt))
            have he : ((shZ A (xk, xa, xt) (0)).map z3V).set (0) (z3V (xk, xa, xt)) = (insZ A (xk, xa, xt)).map z3V := by
              rw [← List.map_set, shZ_end (by rw [HLn.out]; exact hq), insZ, HP3.out, posZ]
            rw [he] at hs
            exact ⟨i + 1, by omega, by go_num, by rw [HS.out]; exact hs.1, HBW.out.grown hs.2 HBW.out.size (fun k hk => (World.ownsRow.lt HW.out k hk).1)⟩
          case measure => simp [intOf]; omega
        · obtain ⟨k0, k1, k2⟩ := HO3.out.cells y (by rw [shZ_len (by rw [HLn.out]; exact hq)]; have := HLn.out; omega)
          rw [shZ_getD (by rw [HLn.out]; omega)] at k0 k1 k2
          have HD := Hid.in (@posZ_down A (xk, xa, xt) y)
          have HT := Hid.in (@posZ_stop A (xk, xa, xt) y)
          have HE : Hid (A.getD y (0, 0, 0) = A.getD y (0, 0, 0)) := rfl
          generalize hey : A.getD y (0, 0, 0) = ey at k0 k1 k2 HD HT HE
          replace HE : Hid (A.getD y (0, 0, 0) = ey) := hey
          clear hey
          obtain ⟨yk, ya, yt⟩ := ey
          dsimp only at k0 k1 k2
          have hg0 : decide ((0 : Int) < ((y + 1 : Nat) : Int)) = true := by simp
          by_cases hgt : xk < yk
          · have HGT : Hid (gtZ (yk, ya, yt) (xk, xa, xt) = true) := by show gtZ _ _ = true; simp [gtZ, hgt]
            have d1 : decide (xk < yk) = true := by simpa using hgt
            go_wp2_with fail
            go_quiet (fail)
            have HW := Hid.in (HO3.out.drewN nq)
            have HBW := Hid.in (below_draws HB3.out nq)
            have f0 := HO3.out.freeAt ((y + 1) * 3)
            have f1 := HO3.out.freeAt ((y + 1) * 3 + 1)
            have f2 := HO3.out.freeAt ((y + 1) * 3 + 2)
            obtain ⟨n0, n1, n2⟩ := HO3.out.cells (y + 1) (by rw [shZ_len (by rw [HLn.out]; exact hq)]; have := HLn.out; omega)
            generalize (shZ A (xk, xa, xt) (y + 1)).getD (y + 1) (0, 0, 0) = en at *
            go_wp2_with fail
            go_roundw
            case rel =>
              have hs := HW.out.set3 (x := y + 1) (by rw [List.length_map, shZ_len (by rw [HLn.out]; exact hq)]; have := HLn.out; omega) (z3V (yk, ya, yt))
              have he : ((shZ A (xk, xa, xt) (y + 1)).map z3V).set (y + 1) (z3V (yk, ya, yt)) = (shZ A (xk, xa, xt) y).map z3V := by
                rw [← List.map_set, ← HE.out, shZ_step']
                rw [HLn.out]; omega
              rw [he] at hs
              exact ⟨y, by omega, by go_num, hs.1, HBW.out.grown hs.2 HBW.out.size (fun k hk => (World.ownsRow.lt HW.out k hk).1), by rw [HP3.out]; exact HD.out HGT.out⟩
            case measure => simp [intOf]
          · have d1 : decide (xk < yk) = false := by simpa using hgt
            by_cases heq : yk = xk
            · have d2 : (yk == xk) = true := by simpa using heq
              by_cases hat : xa < ya
              · have HGT : Hid (gtZ (yk, ya, yt) (xk, xa, xt) = true) := by show gtZ _ _ = true; simp [gtZ, heq, hat]
                have d3 : decide (xa < ya) = true := by simpa using hat
                have HEQ := Hid.in heq
                clear heq
                go_wp2_with fail
                go_quiet (fail)
                have HW := Hid.in (HO3.out.drewN nq)
                have HBW := Hid.in (below_draws HB3.out nq)
                have f0 := HO3.out.freeAt ((y + 1) * 3)
                have f1 := HO3.out.freeAt ((y + 1) * 3 + 1)
                have f2 := HO3.out.freeAt ((y + 1) * 3 + 2)
                obtain ⟨n0, n1, n2⟩ := HO3.out.cells (y + 1) (by rw [shZ_len (by rw [HLn.out]; exact hq)]; have := HLn.out; omega)
                generalize (shZ A (xk, xa, xt) (y + 1)).getD (y + 1) (0, 0, 0) = en at *
                go_wp2_with fail
                go_roundw
                case rel =>
                  have hs := HW.out.set3 (x := y + 1) (by rw [List.length_map, shZ_len (by rw [HLn.out]; exact hq)]; have := HLn.out; omega) (z3V (yk, ya, yt))
                  have he : ((shZ A (xk, xa, xt) (y + 1)).map z3V).set (y + 1) (z3V (yk, ya, yt)) = (shZ A (xk, xa, xt) y).map z3V := by
                    rw [← List.map_set, ← HE.out, shZ_step']
                    rw [HLn.out]; omega
                  rw [he] at hs
                  exact ⟨y, by omega, by go_num, hs.1, HBW.out.grown hs.2 HBW.out.size (fun k hk => (World.ownsRow.lt HW.out k hk).1), by rw [HP3.out]; exact HD.out HGT.out⟩
                case measure => simp [intOf]
              · have HNG : Hid (gtZ (yk, ya, yt) (xk, xa, xt) = false) := by show gtZ _ _ = false; simp [gtZ, heq, hat]
                have d3 : decide (xa < ya) = false := by simpa using hat
                have HEQ := Hid.in heq
                clear heq
                go_wp2_with fail
                go_quiet (fail)
                have HW := Hid.in (HO3.out.drewN nq)
                have HBW := Hid.in (below_draws HB3.out nq)
                have f0 := HO3.out.freeAt ((y + 1) * 3)
                have f1 := HO3.out.freeAt ((y + 1) * 3 + 1)
                have f2 := HO3.out.freeAt ((y + 1) * 3 + 2)
                obtain ⟨n0, n1, n2⟩ := HO3.out.cells (y + 1) (by rw [shZ_len (by rw [HLn.out]; exact hq)]; have := HLn.out; omega)
                have x2 : wr.cell? ⟨b, o + i * 3 + 2, none⟩ = some (.int .i64 xt) := (HB3.out.cell (p := ⟨b, o + i * 3 + 2, none⟩) (cell_lt HQ2.out)).trans HQ2.out
                generalize (shZ A (xk, xa, xt) (y + 1)).getD (y + 1) (0, 0, 0) = en at *
                go_wp2_with fail
                go_roundw
                case rel =>
                  have hs := HW.out.set3 (x := y + 1) (by rw [List.length_map, shZ_len (by rw [HLn.out]; exact hq)]; have := HLn.out; omega) (z3V (xk, xa, xt))
                  have he : ((shZ A (xk, xa, xt) (y + 1)).map z3V).set (y + 1) (z3V (xk, xa, xt)) = (insZ A (xk, xa, xt)).map z3V := by
                    rw [← List.map_set, shZ_end (by rw [HLn.out]; exact hq), insZ, HP3.out, HT.out HNG.out]
                  rw [he] at hs
                  exact ⟨i + 1, by omega, by go_num, by rw [HS.out]; exact hs.1, HBW.out.grown hs.2 HBW.out.size (fun k hk => (World.ownsRow.lt HW.out k hk).1)⟩
                case measure => simp [intOf]; omega
            · have HNG : Hid (gtZ (yk, ya, yt) (xk, xa, xt) = false) := by show gtZ _ _ = false; simp [gtZ, heq, hgt]
              have d2 : (yk == xk) = false := by simpa using heq
              go_wp2_with fail
              go_quiet (fail)
              have HW := Hid.in (HO3.out.drewN nq)
              have HBW := Hid.in (below_draws HB3.out nq)
              have f0 := HO3.out.freeAt ((y + 1) * 3)
              have f1 := HO3.out.freeAt ((y + 1) * 3 + 1)
              have f2 := HO3.out.freeAt ((y + 1) * 3 + 2)
              obtain ⟨n0, n1, n2⟩ := HO3.out.cells (y + 1) (by rw [shZ_len (by rw [HLn.out]; exact hq)]; have := HLn.out; omega)
              have x2 : wr.cell? ⟨b, o + i * 3 + 2, none⟩ = some (.int .i64 xt) := (HB3.out.cell (p := ⟨b, o + i * 3 + 2, none⟩) (cell_lt HQ2.out)).trans HQ2.out
              generalize (shZ A (xk, xa, xt) (y + 1)).getD (y + 1) (0, 0, 0) = en at *
              go_wp2_with fail
              go_roundw
              case rel =>
                have hs := HW.out.set3 (x := y + 1) (by rw [List.length_map, shZ_len (by rw [HLn.out]; exact hq)]; have := HLn.out; omega) (z3V (xk, xa, xt))
                have he : ((shZ A (xk, xa, xt) (y + 1)).map z3V).set (y + 1) (z3V (xk, xa, xt)) = (insZ A (xk, xa, xt)).map z3V := by
                  rw [← List.map_set, shZ_end (by rw [HLn.out]; exact hq), insZ, HP3.out, HT.out HNG.out]
                rw [he] at hs
                exact ⟨i + 1, by omega, by go_num, by rw [HS.out]; exact hs.1, HBW.out.grown hs.2 HBW.out.size (fun k hk => (World.ownsRow.lt HW.out k hk).1)⟩
              case measure => simp [intOf]; omega
    · obtain rfl : i = n := by omega
      go_wp2_with fail
      go_ret
      exact ⟨_, rfl, HO.out, HB.out⟩
end Go.Proofs.Ytekggimgobeggaa

/- Ours: Program's memory: what its loops carry; append of noughts. -/
namespace Go.Proofs.Ytekggimgobeggaa
open Go.RowKit

theorem zeros_list (m : Nat) : (Builtin.zeroCells (Value.int .u8 0).cells m).toList = byts (List.replicate m 0) := by
  apply List.ext_getElem?
  intro i
  have hs : (Value.int .u8 0).cells = #[Value.int .u8 0] := rfl
  rw [hs]
  simp only [Builtin.zeroCells, byts, List.map_replicate, Array.toList_map, Array.toList_range, List.getElem?_map, List.getElem?_replicate]
  by_cases h : i < m
  · rw [if_pos h]
    have h1 : i < m * 1 := by omega
    simp [h, Nat.mod_one]
  · rw [if_neg h]
    simp [Nat.le_of_not_lt h]
/-- 'append(b, make([]byte, m)...)' onto bytes that the call has made -/
theorem run_zeros {B g cap : Nat} {xs : List Int} (w : World) (h : Own w B g cap xs) (m : Nat) (h0 : 0 < m) (hm : m ≤ 1000) (hl : xs.length ≤ 1000) (hB : B ≤ w.heap.size) (ty : TypeId) :
    ∃ g' cap' w', (Builtin.append_ #[54, 3] ty #[.slice (some ⟨g, 0, none⟩) xs.length cap, .int .i64 m]).run Try.prog w = .ok (.slice (some ⟨g', 0, none⟩) (xs.length + m) cap') w' ∧ OwnV w' B (.slice (some ⟨g', 0, none⟩) (xs.length + m) cap') (xs ++ List.replicate m 0) ∧ w.grownBy w' (some g) := by
  obtain ⟨i0, hi, hz0, hz1, hz2⟩ := info_parts Try.info5
  obtain ⟨cur, hbg, hg, hnc, hcm, hcs, htake⟩ := h.parts
  have hu : Try.prog.underlying 54 = some (.slice 5) := Try.underlying54
  have hun : Try.prog.underlying 3 = some (.int .i64) := Try.underlying3
  have hw : IntKind.i64.wrap (m : Int) = m := by rw [IntKind.wrap_i64]; omega
  have hneg : ¬ ((m : Int) < 0) := by omega
  have h48 : ¬ (281474976710656 < (m : Int)) := by omega
  have hm0 : m ≠ 0 := by omega
  have hlen : (xs ++ List.replicate m 0).length = xs.length + m := by simp
  have e1 : byts (xs ++ List.replicate m 0) = byts xs ++ byts (List.replicate m 0) := by simp [byts]
  have e2 : (xs.length + m) * 1 = (byts xs ++ byts (List.replicate m 0)).length := by simp
  by_cases hroom : xs.length + m ≤ cap
  · have hst := run_storeCells_at Try.prog g xs.length 5 (byts (List.replicate m 0)) 0 cur w hg (by rw [hcs]; simp; omega) (fun u hu => by
      simp only [byts, List.mem_map] at hu
      obtain ⟨z, -, rfl⟩ := hu
      rfl)
    simp only [Nat.add_zero, byts, List.map_replicate, List.length_replicate, List.append_assoc] at hst
    have hrun : (Builtin.append_ #[54, 3] ty #[.slice (some ⟨g, 0, none⟩) xs.length cap, .int .i64 m]).run Try.prog w = .ok (.slice (some ⟨g, 0, none⟩) (xs.length + m) cap) (w.setRow g (cur.toList.take xs.length ++ byts (List.replicate m 0) ++ cur.toList.drop (xs.length + (byts (List.replicate m 0)).length)).toArray) := by
      simp [Builtin.append_, run_underlying hu, run_underlying hun, sizeOf, typeInfo, zeroValue, hi, hz0, hz1, hz2, hw, hneg, h48, hm0, hroom, Addr.add_lit, asInt, asIntOf, zeros_list, hst]
    refine ⟨g, cap, _, hrun, ?_, ⟨rfl, rfl, rfl, by simp, fun k _ hk => setRow_other w g k _ (fun e => hk (by rw [e]))⟩⟩
    unfold OwnV
    rw [hlen]
    refine ⟨by simp, .inr ⟨g, cap, _, rfl, hbg, setRow_heap w g cur _ 5 _ hg, hroom, hcm, ?_, ?_⟩⟩
    · simp only [List.size_toArray, List.length_append, List.length_take, List.length_drop, Array.length_toList, byts, List.length_map, List.length_replicate]
      omega
    · rw [htake, e1, e2]
      exact List.take_left
  · have hn : ¬ (xs.length + m ≤ cap) := hroom
    have h63' : ¬ (9223372036854775807 < ((xs.length : Int) + (m : Int))) := by omega
    have hnx : Builtin.nextslicecap (xs.length + m) cap ≤ 100000 := by
      unfold Builtin.nextslicecap
      split
      · omega
      · rename_i h1
        split
        · omega
        · simp only [Builtin.growBy]
          repeat' split
          all_goals omega
    have hge := grownCap_ge w (xs.length + m) cap 5
    have hcm' : grownCap w (xs.length + m) cap 5 ≤ maxLen := grownCap_le_maxLen w (xs.length + m) cap 5 (by unfold maxLen; omega)
    have hf := run_firstCells_some (P := Try.prog) w.drew 1 xs.length ⟨g, 0, none⟩ xs.length cap (byts xs) (by simp) (fun j u hj => by
      have hjl : j < xs.length := by simpa using (List.getElem?_eq_some_iff.1 hj).1
      rw [Go.WideShapes.add_plain, Nat.zero_add]
      have := h.cell j hjl
      rw [getD_byts xs j hjl] at hj
      rw [← hj]
      exact this)
    have hrun : (Builtin.append_ #[54, 3] ty #[.slice (some ⟨g, 0, none⟩) xs.length cap, .int .i64 m]).run Try.prog w = .ok (.slice (some ⟨w.heap.size, 0, none⟩) (xs.length + m) (grownCap w (xs.length + m) cap 5)) (w.drew.alloc (.cells ((byts xs).toArray ++ (Builtin.zeroCells (Value.int .u8 0).cells m) ++ Builtin.zeroCells (Value.int .u8 0).cells (grownCap w (xs.length + m) cap 5 - (xs.length + m))) 5)) := by
      simp [Builtin.append_, run_underlying hu, run_underlying hun, sizeOf, typeInfo, zeroValue, hi, hz0, hz1, hz2, hw, hneg, h48, hm0, hn, h63', Question.forced, hf, newRow, grownCap, asInt, asIntOf]
      exact fun hx => absurd hx (by omega)
    refine ⟨w.heap.size, _, _, hrun, ?_, ⟨rfl, rfl, rfl, by simp, fun k hk _ => heap_alloc_old w.drew _ hk⟩⟩
    unfold OwnV
    rw [hlen]
    refine ⟨by simp, .inr ⟨w.heap.size, _, _, rfl, hB, heap_alloc_new w.drew _, hge, hcm', ?_, ?_⟩⟩
    · simp only [Array.size_append, List.size_toArray, size_zeroCells, byts, List.length_map]
      show _ + m * 1 + _ * 1 = _
      omega
    · simp only [Array.toList_append, zeros_list]
      rw [e1, e2]
      exact List.take_left
theorem wp_zeros {ops : Array Oper} {rest : List Oper} {o : Oper} {a : Act} {Q : Exit → Act → World → Prop} (w : World) (hgd : o.guard = none) (s x : Operand)
    (ho : o.op = .call { callee := .builtin .append, args := #[s, x], argTypes := #[54, 3] }) (B g cap : Nat) (xs : List Int) (n m : Nat) (hn : xs.length = n) (hs : a.eval s = .slice (some ⟨g, 0, none⟩) n cap) (hown : Own w B g cap xs)
    (hx : a.eval x = .int .i64 m) (h0 : 0 < m) (hm : m ≤ 1000) (hl : xs.length ≤ 1000) (hB : B ≤ w.heap.size)
    (h : ∀ g' cap' w', OwnV w' B (.slice (some ⟨g', 0, none⟩) (n + m) cap') (xs ++ List.replicate m 0) → w.grownBy w' (some g) → wpList Try.prog ops Q rest (a.put o.dst (.slice (some ⟨g', 0, none⟩) (n + m) cap')) w') :
    wpList Try.prog ops Q (o :: rest) a w := by
  subst hn
  obtain ⟨g', cap', w', hr, h1, h2⟩ := run_zeros w hown m h0 hm hl hB o.type
  refine wpList_plain hgd fun _ hK => ?_
  unfold Oper.wp execOp
  simp only [ho, resolve, invoke, builtin, Sem.run_bind, Sem.run_pure, Result.andThen_ok, List.map_toArray, List.map_cons, List.map_nil, hs, hx, hr]
  exact hK _ _ (h g' cap' w' h1 h2)
/-- rows of unlike types lie apart -/
theorem rows_ap {T T' : TypeId} {z z' B B' n n' : Nat} {v v' : Value} {vs vs' : List Value} {w : World} (h : w.ownsRow B T z v n vs) (h' : w.ownsRow B' T' z' v' n' vs') (hT : T ≠ T') : ∀ g, v.ownBlock = some g → v'.ownBlock ≠ some g := fun g h1 h2 => by
  rcases h.2 with ⟨e1, _⟩ | ⟨a, cap, cur, e1, _, e3, _⟩
  · rw [e1] at h1; cases h1
  · rcases h'.2 with ⟨e1', _⟩ | ⟨a', cap', cur', e1', _, e3', _⟩
    · rw [e1'] at h2; cases h2
    · rw [e1] at h1
      rw [e1'] at h2
      have h1' : some a = some g := h1
      have h2' : some a' = some g := h2
      injection h1' with h1'
      injection h2' with h2'
      subst h1' h2'
      rw [e3] at e3'
      injection e3' with e3'
      injection e3' with _ e3' _
      exact hT e3'
theorem Blk.rowStay {T : TypeId} {z B n g : Nat} {v : Value} {vs : List Value} {w w' : World} {Tg : TypeId} {c : Array Value} (hb : Blk w g Tg c) (h : w.ownsRow B T z v n vs) (hg : w.grownBy w' v.ownBlock) (hlt : g < B) : Blk w' g Tg c :=
  hb.kept hg (fun e => by have := (World.ownsRow.lt h g e.symm).1; omega)
/-- Program's image and lists, behind wA: the units' block is made first, then the image's -/
structure PM (wA w : World) (vB vK v10 v11 : Value) (bs : List Int) (ss : List ByteArray) (S : List Z3) (ks : List Int) : Prop where
  mb : Blk w (wA.heap.size + 1) 133 #[vB, vK, .slice none 0 0, .slice (some ⟨wA.heap.size, 0, none⟩) 1 1]
  un : Blk w wA.heap.size 3 #[.int .i64 0]
  by_ : OwnV w (wA.heap.size + 2) vB bs
  kk : GOwnV 9 w (wA.heap.size + 2) vK (ss.map Value.string)
  st : TOwn 48 w (wA.heap.size + 2) v10 (S.map z3V)
  ky : GOwnV 3 w (wA.heap.size + 2) v11 (numZ ks)
  bel : Below wA.heap.size wA w
section
variable {wA w w' : World} {vB vK v10 v11 v' : Value} {bs bs' : List Int} {ss ss' : List ByteArray} {S S' : List Z3} {ks ks' : List Int}
theorem PM.below (h : PM wA w vB vK v10 v11 bs ss S ks) (hb : Below w.heap.size w w') : PM wA w' vB vK v10 v11 bs ss S ks :=
  ⟨h.mb.grow hb, h.un.grow hb, h.by_.below hb, h.kk.below hb, h.st.below hb, h.ky.below hb, below_step h.bel hb⟩
theorem PM.size (h : PM wA w vB vK v10 v11 bs ss S ks) : wA.heap.size + 2 ≤ w.heap.size := h.mb.lt
/-- bytes are appended -/
theorem PM.bytes (h : PM wA w vB vK v10 v11 bs ss S ks) (ho : OwnV w' (wA.heap.size + 2) v' bs') (hg : w.grownBy w' vB.ownBlock) : PM wA (w'.setCell ⟨wA.heap.size + 1, 0, none⟩ v') v' vK v10 v11 bs' ss S ks := by
  have hm := h.mb.rowStay h.by_ hg (by omega)
  have hu := h.un.rowStay h.by_ hg (by omega)
  have hs := grown_setCell w' (wA.heap.size + 1) 0 v'
  have far : ∀ {T : TypeId} {z n : Nat} {v : Value} {vs : List Value}, w'.ownsRow (wA.heap.size + 2) T z v n vs → ∀ g, v.ownBlock = some g → some (wA.heap.size + 1) ≠ some g := fun hr g e e' => by
    have := (World.ownsRow.lt hr g e).1
    injection e' with e'
    omega
  have k1 : GOwnV 9 w' (wA.heap.size + 2) vK (ss.map Value.string) := row_stay h.kk hg (fun g e => rows_ap h.kk h.by_ (by decide) g e)
  have k2 : TOwn 48 w' (wA.heap.size + 2) v10 (S.map z3V) := row_stay h.st hg (fun g e => rows_ap h.st h.by_ (by decide) g e)
  have k3 : GOwnV 3 w' (wA.heap.size + 2) v11 (numZ ks) := row_stay h.ky hg (fun g e => rows_ap h.ky h.by_ (by decide) g e)
  exact ⟨hm.set 0 v', hu.other (by omega) 0 v', row_stay ho hs (far ho), row_stay k1 hs (far k1), row_stay k2 hs (far k2), row_stay k3 hs (far k3),
    (h.bel.grown hg h.bel.size fun k hk => by have := (World.ownsRow.lt h.by_ k hk).1; omega).grown hs (Nat.le_trans h.bel.size hg.size) fun k hk => by injection hk with hk; omega⟩
/-- a key's text is appended -/
theorem PM.text (h : PM wA w vB vK v10 v11 bs ss S ks) (ho : GOwnV 9 w' (wA.heap.size + 2) v' (ss'.map Value.string)) (hg : w.grownBy w' vK.ownBlock) : PM wA (w'.setCell ⟨wA.heap.size + 1, 1, none⟩ v') vB v' v10 v11 bs ss' S ks := by
  have hm := h.mb.rowStay h.kk hg (by omega)
  have hu := h.un.rowStay h.kk hg (by omega)
  have hs := grown_setCell w' (wA.heap.size + 1) 1 v'
  have far : ∀ {T : TypeId} {z n : Nat} {v : Value} {vs : List Value}, w'.ownsRow (wA.heap.size + 2) T z v n vs → ∀ g, v.ownBlock = some g → some (wA.heap.size + 1) ≠ some g := fun hr g e e' => by
    have := (World.ownsRow.lt hr g e).1
    injection e' with e'
    omega
  have k1 : OwnV w' (wA.heap.size + 2) vB bs := row_stay h.by_ hg (fun g e => rows_ap h.by_ h.kk (by decide) g e)
  have k2 : TOwn 48 w' (wA.heap.size + 2) v10 (S.map z3V) := row_stay h.st hg (fun g e => rows_ap h.st h.kk (by decide) g e)
  have k3 : GOwnV 3 w' (wA.heap.size + 2) v11 (numZ ks) := row_stay h.ky hg (fun g e => rows_ap h.ky h.kk (by decide) g e)
  exact ⟨hm.set 1 v', hu.other (by omega) 1 v', row_stay k1 hs (far k1), row_stay ho hs (far ho), row_stay k2 hs (far k2), row_stay k3 hs (far k3),
    (h.bel.grown hg h.bel.size fun k hk => by have := (World.ownsRow.lt h.kk k hk).1; omega).grown hs (Nat.le_trans h.bel.size hg.size) fun k hk => by injection hk with hk; omega⟩
/-- a number is appended to the keys' -/
theorem PM.key (h : PM wA w vB vK v10 v11 bs ss S ks) (ho : GOwnV 3 w' (wA.heap.size + 2) v' (numZ ks')) (hg : w.grownBy w' v11.ownBlock) : PM wA w' vB vK v10 v' bs ss S ks' :=
  ⟨h.mb.rowStay h.ky hg (by omega), h.un.rowStay h.ky hg (by omega), row_stay h.by_ hg (fun g e => rows_ap h.by_ h.ky (by decide) g e), row_stay h.kk hg (fun g e => rows_ap h.kk h.ky (by decide) g e), row_stay h.st hg (fun g e => rows_ap h.st h.ky (by decide) g e), ho,
    h.bel.grown hg h.bel.size fun k hk => by have := (World.ownsRow.lt h.ky k hk).1; omega⟩
/-- a site is appended, or one is turned -/
theorem PM.site (h : PM wA w vB vK v10 v11 bs ss S ks) (ho : TOwn 48 w' (wA.heap.size + 2) v' (S'.map z3V)) (hg : w.grownBy w' v10.ownBlock) : PM wA w' vB vK v' v11 bs ss S' ks :=
  ⟨h.mb.rowStay h.st hg (by omega), h.un.rowStay h.st hg (by omega), row_stay h.by_ hg (fun g e => rows_ap h.by_ h.st (by decide) g e), row_stay h.kk hg (fun g e => rows_ap h.kk h.st (by decide) g e), ho, row_stay h.ky hg (fun g e => rows_ap h.ky h.st (by decide) g e),
    h.bel.grown hg h.bel.size fun k hk => by have := (World.ownsRow.lt h.st k hk).1; omega⟩
end
/-- kinds and places, as they are gathered -/
def kdI (l : List Int) (i : Nat) : List Int := ((kindL l).take i).map fun k : Nat => (k : Int)
def plI (l : List Int) (i : Nat) : List Int := (List.range i).map fun j => ((plcK (kindL l) j : Nat) : Int)
theorem kdI_succ {l : List Int} {i : Nat} (h : i < l.length) : kdI l (i + 1) = kdI l i ++ [((pickZ (l.getD i 0) 16 : Nat) : Int)] := by
  have h' : i < (kindL l).length := by rw [kindL_len]; exact h
  unfold kdI
  rw [List.take_succ_eq_append_getElem h', List.map_append, List.map_cons, List.map_nil, ← kindL_at l i h]
  simp [List.getD, List.getElem?_eq_getElem h']
theorem plI_succ (l : List Int) (i : Nat) : plI l (i + 1) = plI l i ++ [((plcK (kindL l) i : Nat) : Int)] := by
  unfold plI
  rw [List.range_succ, List.map_append, List.map_cons, List.map_nil]
theorem kdI_len (l : List Int) {i : Nat} (h : i ≤ l.length) : (kdI l i).length = i := by
  unfold kdI
  rw [List.length_map, List.length_take, kindL_len]
  omega
theorem plI_len (l : List Int) (i : Nat) : (plI l i).length = i := by simp [plI]
theorem kdI_at {l : List Int} {i n : Nat} (h : i < n) (hn : n ≤ l.length) : (kdI l n).getD i 0 = (((kindL l).getD i 0 : Nat) : Int) := by
  have h' : i < (kindL l).length := by rw [kindL_len]; omega
  simp [kdI, List.getD, List.getElem?_take_of_lt h, List.getElem?_eq_getElem h']
theorem plI_at {l : List Int} {i n : Nat} (h : i < n) : (plI l n).getD i 0 = ((plcK (kindL l) i : Nat) : Int) := by
  simp [plI, List.getD, h]
theorem rawI_len (l : List Int) (j : Nat) : (rawI l j).length = (keysP l j).length := by rw [rawI, List.length_map, (keysP_len l j).1]
theorem site_step {l : List Int} {j : Nat} (h : (kindL l).getD j 0 < 5) : keysP l (j + 1) = keysP l j ++ [((numP l j : Nat) : Int)] ∧ rawI l (j + 1) = rawI l j ++ [(0, ((plcK (kindL l) j : Nat) : Int), ((tgtP l j : Nat) : Int))] ∧ bodyP l (j + 1) = bodyP l j ++ quietL := by
  refine ⟨by rw [keysP, if_pos h], ?_, by rw [bodyP, gpieceP, if_pos h]⟩
  unfold rawI
  rw [sitesP, if_pos h, List.map_append]
  rfl
theorem code_step {l : List Int} {j : Nat} (h : ¬ (kindL l).getD j 0 < 5) : keysP l (j + 1) = keysP l j ∧ rawI l (j + 1) = rawI l j ∧ bodyP l (j + 1) = bodyP l j ++ codeL ((kindL l).getD j 0) (numP l j : Nat) (plcK (kindL l) j : Nat) (tgtP l j : Nat) (roomN (plcK (kindL l) l.length) : Nat) := by
  refine ⟨by rw [keysP, if_neg h], ?_, by rw [bodyP, gpieceP, if_neg h]⟩
  unfold rawI
  rw [sitesP, if_neg h]
theorem c3_set1 : ∀ (L : List Z3) (i : Nat) (k : Int), i < L.length → (c3 (L.map z3V)).set (i * 3) (.int .i64 k) = c3 ((L.set i (k, (L.getD i (0, 0, 0)).2)).map z3V)
  | x :: L, 0, k, _ => rfl
  | x :: L, i + 1, k, h => by
    have ih := c3_set1 L i k (by simpa using h)
    have h3 : (l3 (z3V x)).length = 3 := rfl
    show (l3 (z3V x) ++ c3 (L.map z3V)).set ((i + 1) * 3) (.int .i64 k) = l3 (z3V x) ++ c3 ((L.set i (k, (L.getD i (0, 0, 0)).2)).map z3V)
    rw [List.set_append_right _ _ (by rw [h3]; omega), h3, show (i + 1) * 3 - 3 = i * 3 by omega, ih]
/-- a site's key is turned -/
theorem TOwn.set1 {T : TypeId} {w : World} {B g n c : Nat} {L : List Z3} (h : TOwn T w B (.slice (some ⟨g, 0, none⟩) n c) (L.map z3V)) {x : Nat} (hx : x < L.length) (k : Int) : TOwn T (w.setCell ⟨g, x * 3, none⟩ (.int .i64 k)) B (.slice (some ⟨g, 0, none⟩) n c) ((L.set x (k, (L.getD x (0, 0, 0)).2)).map z3V) ∧ w.grownBy (w.setCell ⟨g, x * 3, none⟩ (.int .i64 k)) (some g) := by
  have h0 : w.ownsRow B T 3 (.slice (some ⟨g, 0, none⟩) n c) (L.map z3V).length (c3 (L.map z3V)) := h
  have hn : n = (L.map z3V).length := by
    obtain ⟨p, cc, e, -⟩ := h.shape
    injection e
  subst hn
  have h1 := World.ownsRow.stored h0 (x * 3) (.int .i64 k)
  refine ⟨?_, h1.2⟩
  have h2 := h1.1
  rw [c3_set1 _ x _ hx] at h2
  unfold TOwn
  have e : ((L.set x (k, (L.getD x (0, 0, 0)).2)).map z3V).length = (L.map z3V).length := by rw [List.length_map, List.length_set, List.length_map]
  rw [e]
  exact h2
/-- the keys' texts -/
def txtP (k : Nat) : List ByteArray := (List.range k).map fun j : Nat => strOfNums [97 + (j : Int)]
theorem txtP_succ (k : Nat) : txtP (k + 1) = txtP k ++ [strOfNums [97 + (k : Int)]] := by
  unfold txtP
  rw [List.range_succ, List.map_append, List.map_cons, List.map_nil]
theorem txtP_len (k : Nat) : (txtP k).length = k := by simp [txtP]
theorem Try.elemT : Elem 131 9 16 := ⟨Try.underlying131, .string ByteArray.empty, rfl, by kernel_rfl⟩
theorem plc_step16 (l : List Int) (i : Nat) (h : i < l.length) : plcK (kindL l) (i + 1) = plcK (kindL l) i + lenK (pickZ (l.getD i 0) 16) := by rw [plc_step l i h, kindL_at l i h]
end Go.Proofs.Ytekggimgobeggaa

/- An image as lists. -/
namespace Go.Proofs.Ytekggimgobeggaa
open Go.RowKit

structure IM where
  bs : List Int
  ks : List ByteArray
  si : List Si
  un : List Int
def noIM : IM := ⟨[], [], [], []⟩
abbrev strV (ks : List ByteArray) : List Value := ks.map Value.string
abbrev intV (un : List Int) : List Value := un.map (Value.int .i64)
end Go.Proofs.Ytekggimgobeggaa

/- Ours: what switchyardmade.Image makes, as lists, and that it is a right image. -/
namespace Go.Proofs.Ytekggimgobeggaa
open Go.RowKit

def zS (z : Z3) : Si := ⟨z.1, z.2.1, z.2.2⟩
def ltZ (a b : Z3) : Prop := a.1 < b.1 ∨ (a.1 = b.1 ∧ a.2.1 < b.2.1)
theorem ltZ_trans {a b c : Z3} (h1 : ltZ a b) (h2 : ltZ b c) : ltZ a c := by
  unfold ltZ at *; omega
/-- where a site is put: those ahead are not behind it, those behind are -/
theorem posZ_facts (L : List Z3) (x : Z3) : ∀ p, p ≤ L.length → (∀ i, posZ L x p ≤ i → i < p → gtZ (L.getD i (0, 0, 0)) x = true) ∧ (0 < posZ L x p → gtZ (L.getD (posZ L x p - 1) (0, 0, 0)) x = false)
  | 0, _ => ⟨fun i _ h => absurd h (by omega), fun h => absurd h (by simp [posZ])⟩
  | p + 1, hp => by
    have ih := posZ_facts L x p (by omega)
    simp only [posZ]
    split
    · rename_i hg
      refine ⟨fun i h1 h2 => ?_, ih.2⟩
      by_cases e : i = p
      · rw [e]; exact hg
      · exact ih.1 i h1 (by omega)
    · rename_i hg
      exact ⟨fun i h1 h2 => absurd h2 (by omega), fun _ => by simpa using hg⟩
theorem insZ_perm (L : List Z3) (x : Z3) : (insZ L x).Perm (x :: L) := by
  unfold insZ
  refine List.perm_middle.trans ?_
  rw [List.take_append_drop]
theorem sortZ_perm (l : List Z3) : ∀ i, i ≤ l.length → (sortZ l i).Perm (l.take i)
  | 0, _ => by simp [sortZ]
  | i + 1, h => by
    have ih := sortZ_perm l i (by omega)
    have e : l.getD i (0, 0, 0) = l[i]'(by omega) := by simp [List.getD, List.getElem?_eq_getElem (show i < l.length by omega)]
    rw [sortZ, List.take_succ_eq_append_getElem (show i < l.length by omega), e]
    exact (insZ_perm _ _).trans ((List.Perm.cons _ ih).trans (List.perm_append_comm (l₁ := [l[i]'(by omega)])))
theorem insZ_sorted {L : List Z3} {x : Z3} (h : L.Pairwise ltZ) (hx : ∀ y ∈ L, y.2.1 ≠ x.2.1) : (insZ L x).Pairwise ltZ := by
  have hf := posZ_facts L x L.length (Nat.le_refl _)
  have hle := posZ_le L x L.length
  unfold insZ
  generalize posZ L x L.length = p at *
  have hgt : ∀ i (hi : i < L.length), p ≤ i → ltZ x L[i] := fun i hi hp => by
    have h1 := hf.1 i hp hi
    have e : L.getD i (0, 0, 0) = L[i] := by simp [List.getD, List.getElem?_eq_getElem hi]
    have h2 := hx L[i] (List.getElem_mem hi)
    rw [e] at h1
    simp only [gtZ, Bool.or_eq_true, Bool.and_eq_true, decide_eq_true_eq] at h1
    unfold ltZ; omega
  have hlt : ∀ i (hi : i < L.length), i < p → ltZ L[i] x := fun i hi hp => by
    have h1 := hf.2 (by omega)
    have hq : p - 1 < L.length := by omega
    have e : L.getD (p - 1) (0, 0, 0) = L[p - 1] := by simp [List.getD, List.getElem?_eq_getElem hq]
    have h2 := hx L[p - 1] (List.getElem_mem hq)
    rw [e] at h1
    simp only [gtZ, Bool.or_eq_false_iff, Bool.and_eq_false_iff, decide_eq_false_iff_not] at h1
    have h3 : ltZ L[p - 1] x := by unfold ltZ; omega
    by_cases e' : i = p - 1
    · subst e'; exact h3
    · exact ltZ_trans (List.pairwise_iff_getElem.1 h i (p - 1) hi hq (by omega)) h3
  rw [List.pairwise_append, List.pairwise_cons]
  refine ⟨h.sublist (List.take_sublist _ _), ⟨fun y hy => ?_, h.sublist (List.drop_sublist _ _)⟩, fun a ha b hb => ?_⟩
  · obtain ⟨i, hi, rfl⟩ := List.getElem_of_mem hy
    rw [List.getElem_drop]
    exact hgt _ (by rw [List.length_drop] at hi; omega) (by omega)
  · obtain ⟨i, hi, rfl⟩ := List.getElem_of_mem ha
    rw [List.length_take] at hi
    rw [List.getElem_take]
    have h1 := hlt i (by omega) (by omega)
    rcases List.mem_cons.1 hb with rfl | hb
    · exact h1
    · obtain ⟨j, hj, rfl⟩ := List.getElem_of_mem hb
      rw [List.getElem_drop]
      exact ltZ_trans h1 (hgt _ (by rw [List.length_drop] at hj; omega) (by omega))
theorem sortZ_sorted (l : List Z3) (hd : l.Pairwise fun a b => a.2.1 ≠ b.2.1) : ∀ i, i ≤ l.length → (sortZ l i).Pairwise ltZ
  | 0, _ => by simp [sortZ]
  | i + 1, h => by
    rw [sortZ]
    refine insZ_sorted (sortZ_sorted l hd i (by omega)) fun y hy => ?_
    have hm := (sortZ_perm l i (by omega)).mem_iff.1 hy
    obtain ⟨j, hj, rfl⟩ := List.getElem_of_mem hm
    rw [List.length_take] at hj
    rw [List.getElem_take]
    have e : l.getD i (0, 0, 0) = l[i]'(by omega) := by simp [List.getD, List.getElem?_eq_getElem (show i < l.length by omega)]
    rw [e]
    exact List.pairwise_iff_getElem.1 hd j i (by omega) (by omega) (by omega)

/-- the sites ahead of being sorted -/
def imZ (l : List Int) (i : Nat) : Z3 := ((kdS l l.length).2.getD i 0, ((8 + 12 * i : Nat) : Int), ((17 + 12 * i : Nat) : Int))
def imR (l : List Int) (j : Nat) : List Z3 := (List.range j).map (imZ l)
theorem imR_len (l : List Int) (j : Nat) : (imR l j).length = j := by simp [imR]
theorem imR_succ (l : List Int) (j : Nat) : imR l (j + 1) = imR l j ++ [imZ l j] := by
  unfold imR
  rw [List.range_succ, List.map_append, List.map_cons, List.map_nil]
def imS (l : List Int) : List Z3 := sortZ (imR l l.length) l.length
/-- the bytes, with the first i sites -/
def imB (n : Nat) : Nat → List Int
  | 0 => List.replicate (8 + 12 * n) 0
  | i + 1 => Go.splice (imB n i) (8 + 12 * i) quietL
theorem imB_len (n : Nat) : ∀ i, i ≤ n → (imB n i).length = 8 + 12 * n
  | 0, _ => by simp [imB]
  | i + 1, h => by
    have ih := imB_len n i (by omega)
    have h5 : quietL.length = 5 := rfl
    rw [imB, Go.length_splice _ _ _ (by rw [h5, ih]; omega), ih]
theorem splice_in {xs : List Int} {off : Nat} {ys : List Int} (h : off + ys.length ≤ xs.length) : (((Go.splice xs off ys).drop off).take ys.length) = ys := by
  have h1 : (xs.take off).length = off := by rw [List.length_take]; omega
  unfold Go.splice
  rw [List.drop_append_of_le_length (by omega), List.drop_eq_nil_of_le (by omega), List.nil_append, List.take_append_of_le_length (Nat.le_refl _), List.take_of_length_le (Nat.le_refl _)]
theorem splice_out {xs : List Int} {off a k : Nat} {ys : List Int} (h : off + ys.length ≤ xs.length) (ha : a + k ≤ off) : (((Go.splice xs off ys).drop a).take k) = (xs.drop a).take k := by
  unfold Go.splice
  have h1 : (xs.take off).length = off := by rw [List.length_take]; omega
  apply List.ext_getElem?
  intro i
  by_cases hi : i < k
  · rw [List.getElem?_take_of_lt hi, List.getElem?_take_of_lt hi, List.getElem?_drop, List.getElem?_drop, List.getElem?_append_left (by omega), List.getElem?_take_of_lt (by omega)]
  · rw [List.getElem?_eq_none (by rw [List.length_take]; omega), List.getElem?_eq_none (by rw [List.length_take]; omega)]
theorem imB_quiet (n : Nat) : ∀ i, i ≤ n → ∀ j, j < i → (((imB n i).drop (8 + 12 * j)).take 5) = quietL
  | 0, _, j, h => absurd h (by omega)
  | i + 1, hi, j, hj => by
    have hl := imB_len n i (by omega)
    have h5 : quietL.length = 5 := rfl
    rw [imB]
    by_cases e : j = i
    · subst e
      have := splice_in (xs := imB n j) (off := 8 + 12 * j) (ys := quietL) (by rw [h5, hl]; omega)
      rwa [h5] at this
    · rw [splice_out (by rw [h5, hl]; omega) (by omega)]
      exact imB_quiet n i (by omega) j (by omega)
theorem imB_byt (n : Nat) : ∀ i, ∀ x ∈ imB n i, 0 ≤ x ∧ x ≤ 255
  | 0 => fun x hx => by
    have := List.eq_of_mem_replicate hx
    omega
  | i + 1 => fun x hx => by
    rw [imB] at hx
    unfold Go.splice at hx
    rcases List.mem_append.1 hx with h | h
    · exact imB_byt n i x (List.mem_of_mem_take h)
    · rcases List.mem_append.1 h with h | h
      · simp only [quietL, List.mem_cons, List.not_mem_nil, or_false] at h
        omega
      · exact imB_byt n i x (List.mem_of_mem_drop h)
/-- how many keys -/
def imN (l : List Int) : Nat := (kdS l l.length).1.length
def imM (l : List Int) : IM := ⟨imB l.length l.length, txtP (imN l), (imS l).map zS, [0]⟩
theorem imN_le (l : List Int) : imN l ≤ l.length := (kdS_len l l.length).2
theorem imS_len (l : List Int) : (imS l).length = l.length := sortZ_len _ _
theorem imS_perm (l : List Int) : (imS l).Perm (imR l l.length) := by
  have := sortZ_perm (imR l l.length) l.length (by rw [imR_len]; exact Nat.le_refl _)
  rwa [List.take_of_length_le (by rw [imR_len]; exact Nat.le_refl _)] at this
theorem imS_mem {l : List Int} {z : Z3} (h : z ∈ imS l) : ∃ i, i < l.length ∧ z = imZ l i := by
  have := (imS_perm l).mem_iff.1 h
  unfold imR at this
  simp only [List.mem_map, List.mem_range] at this
  obtain ⟨i, hi, e⟩ := this
  exact ⟨i, hi, e.symm⟩
theorem imZ_key {l : List Int} {i : Nat} (hi : i < l.length) : 0 ≤ (imZ l i).1 ∧ (imZ l i).1 < imN l := by
  have hl := (kdS_len l l.length).1
  have e : (kdS l l.length).2.getD i 0 = (kdS l l.length).2[i]'(by omega) := by simp [List.getD, List.getElem?_eq_getElem (show i < (kdS l l.length).2.length by omega)]
  have := kdS_bd l l.length ((kdS l l.length).2[i]'(by omega)) (List.getElem_mem _)
  unfold imZ imN
  dsimp only
  rw [e]
  exact this
theorem imR_far (l : List Int) (j : Nat) : (imR l j).Pairwise fun a b => a.2.1 + 12 ≤ b.2.1 := by
  rw [List.pairwise_iff_getElem]
  intro a b ha hb hab
  simp only [imR, List.getElem_map, List.getElem_range, imZ]
  omega
theorem imM_byt (l : List Int) : Byt (imM l).bs := mem_byt (imB_byt _ _)
end Go.Proofs.Ytekggimgobeggaa

/- The sites that the law takes of an image: by their places. Lists alone. -/
namespace Go.Proofs.Ytekggimgobeggaa
open Go.RowKit

/-- the sites by their places, up to the place k -/
def byAt (S : List Si) (k : Nat) : List Si := (List.range k).flatMap fun a => S.filter fun s => decide (s.at_ = ((a : Nat) : Int))
theorem byAt_succ (S : List Si) (k : Nat) : byAt S (k + 1) = byAt S k ++ S.filter fun s => decide (s.at_ = ((k : Nat) : Int)) := by
  unfold byAt
  rw [List.range_succ, List.flatMap_append]
  simp
theorem byAt_mem {S : List Si} {k : Nat} {x : Si} (h : x ∈ byAt S k) : x ∈ S ∧ 0 ≤ x.at_ ∧ x.at_ < k := by
  unfold byAt at h
  rw [List.mem_flatMap] at h
  obtain ⟨a, ha, hx⟩ := h
  rw [List.mem_filter] at hx
  have h2 : x.at_ = (a : Nat) := by simpa using hx.2
  rw [List.mem_range] at ha
  exact ⟨hx.1, by omega, by omega⟩
structure ImT (b : List Int) (T : List Si) : Prop where
  m20 : T.length ≤ 20
  nb : b.length ≤ 248
  ok : TOk b T
  rel : ∀ x ∈ T, x.to_ = x.at_ + 9
  quiet : ∀ j (hj : j < T.length), (b.drop T[j].at_.toNat).take 5 = quietL
theorem byAt_far {S : List Si} (h : ∀ x ∈ S, ∃ i : Nat, x.at_ = 8 + 12 * i) (hd : S.Pairwise fun a b => a.at_ ≠ b.at_) (k : Nat) : (byAt S k).Pairwise fun a b => a.at_ + 12 ≤ b.at_ := by
  unfold byAt
  rw [List.pairwise_flatMap]
  refine ⟨fun a _ => ?_, ?_⟩
  · have h1 : (S.filter fun s => decide (s.at_ = ((a : Nat) : Int))).Pairwise fun a b => a.at_ ≠ b.at_ := hd.sublist List.filter_sublist
    refine List.Pairwise.imp_of_mem ?_ h1
    intro x y hx hy hne
    rw [List.mem_filter] at hx hy
    have e1 : x.at_ = (a : Nat) := by simpa using hx.2
    have e2 : y.at_ = (a : Nat) := by simpa using hy.2
    exact absurd (e1.trans e2.symm) hne
  · refine List.Pairwise.imp ?_ (List.pairwise_lt_range (n := k))
    intro a c hac x hx y hy
    rw [List.mem_filter] at hx hy
    have e1 : x.at_ = (a : Nat) := by simpa using hx.2
    have e2 : y.at_ = (c : Nat) := by simpa using hy.2
    obtain ⟨i, hi⟩ := h x hx.1
    obtain ⟨j, hj⟩ := h y hy.1
    omega
theorem far_at {T : List Si} (h : T.Pairwise fun a b => a.at_ + 12 ≤ b.at_) (h0 : ∀ x ∈ T, 8 ≤ x.at_) : ∀ i (hi : i < T.length), 8 + 12 * (i : Int) ≤ T[i].at_
  | 0, hi => by have := h0 _ (List.getElem_mem hi); simpa using this
  | i + 1, hi => by
    have ih := far_at h h0 i (by omega)
    have := List.pairwise_iff_getElem.1 h i (i + 1) (by omega) hi (by omega)
    omega
theorem imT (l : List Int) (hl : l.length ≤ 20) : ImT (imB l.length l.length) (byAt ((imS l).map zS) (imB l.length l.length).length) := by
  have hb := imB_len l.length l.length (Nat.le_refl _)
  have hS : ∀ x ∈ (imS l).map zS, ∃ i : Nat, i < l.length ∧ x.at_ = 8 + 12 * (i : Int) ∧ x.to_ = x.at_ + 9 := fun x hx => by
    obtain ⟨z, hz, rfl⟩ := List.mem_map.1 hx
    obtain ⟨i, hi, rfl⟩ := imS_mem hz
    exact ⟨i, hi, by show ((8 + 12 * i : Nat) : Int) = _; omega, by show ((17 + 12 * i : Nat) : Int) = ((8 + 12 * i : Nat) : Int) + 9; omega⟩
  have hd : ((imS l).map zS).Pairwise fun a b => a.at_ ≠ b.at_ := by
    rw [List.pairwise_map]
    refine ((imS_perm l).pairwise_iff (R := fun a b : Z3 => (zS a).at_ ≠ (zS b).at_) (fun h e => h e.symm)).2 ?_
    refine List.Pairwise.imp ?_ (imR_far l l.length)
    intro a b h e
    have e' : a.2.1 = b.2.1 := e
    omega
  have hfar := byAt_far (fun x hx => by obtain ⟨i, _, h1, _⟩ := hS x hx; exact ⟨i, h1⟩) hd (imB l.length l.length).length
  have hm : ∀ x ∈ byAt ((imS l).map zS) (imB l.length l.length).length, ∃ i : Nat, i < l.length ∧ x.at_ = 8 + 12 * (i : Int) ∧ x.to_ = x.at_ + 9 := fun x hx => hS x (byAt_mem hx).1
  generalize byAt ((imS l).map zS) (imB l.length l.length).length = T at *
  have h8 := far_at hfar (fun x hx => by obtain ⟨i, _, h1, _⟩ := hm x hx; omega)
  have hat : ∀ j (hj : j < T.length), ∃ i : Nat, i < l.length ∧ T[j].at_ = 8 + 12 * (i : Int) ∧ T[j].to_ = T[j].at_ + 9 := fun j hj => hm _ (List.getElem_mem hj)
  refine ⟨?_, by omega, ⟨⟨fun i j hj h => ?_, fun i hi => ?_, fun i hi => ?_⟩, fun j hj => ?_, fun j hj => ?_⟩, fun x hx => ?_, fun j hj => ?_⟩
  · rcases Nat.lt_or_ge 20 T.length with h | h
    · have h1 := h8 20 h
      obtain ⟨i, hi, h2, _⟩ := hat 20 h
      omega
    · exact h
  · have := List.pairwise_iff_getElem.1 hfar i j (by omega) hj h
    omega
  · obtain ⟨i, _, h1, _⟩ := hat i hi; omega
  · obtain ⟨i, _, h1, _⟩ := hat i hi; omega
  · obtain ⟨i, hi, h1, _⟩ := hat j hj; omega
  · obtain ⟨i, hi, h1, h2⟩ := hat j hj; omega
  · obtain ⟨i, _, _, h2⟩ := hm x hx; exact h2
  · obtain ⟨i, hi, h1, _⟩ := hat j hj
    rw [show T[j].at_.toNat = 8 + 12 * i by omega]
    exact imB_quiet l.length l.length (Nat.le_refl _) i hi
end Go.Proofs.Ytekggimgobeggaa

/- Ours: an image in memory of its own. -/
namespace Go.Proofs.Ytekggimgobeggaa
open Go.RowKit

theorem Blk.cells4 {W : World} {b : Nat} {T : TypeId} {x0 x1 x2 x3 : Value} (h : Blk W b T #[x0, x1, x2, x3]) : W.cell? ⟨b, 0, none⟩ = some x0 ∧ W.cell? ⟨b, 1, none⟩ = some x1 ∧ W.cell? ⟨b, 2, none⟩ = some x2 ∧ W.cell? ⟨b, 3, none⟩ = some x3 :=
  ⟨h.cell 0, h.cell 1, h.cell 2, h.cell 3⟩
theorem own_kept {w w' : World} {B e s n g : Nat} {v : Value} {xs : List Value} (h : w.ownsRow B e s v n xs) (hg : w.grownBy w' (some g)) (hB : g < B) : w'.ownsRow B e s v n xs :=
  h.kept hg (Or.inr fun e => by have := (World.ownsRow.lt h g e).1; omega)
/-- an image in memory of its own -/
structure ImOwn (w : World) (B : Nat) (m : IM) (vb vk vs vu : Value) : Prop where
  b : OwnV w B vb m.bs
  k : GOwnV 9 w B vk (strV m.ks)
  s : TOwn 48 w B vs (m.si.map siV)
  u : GOwnV 3 w B vu (intV m.un)
abbrev nil4 : Array Value := #[.slice none 0 0, .slice none 0 0, .slice none 0 0, .slice none 0 0]
theorem own_set {w : World} {B e s n M i : Nat} {v u : Value} {xs : List Value} (h : w.ownsRow B e s v n xs) (hB : M < B) : (w.setCell ⟨M, i, none⟩ u).ownsRow B e s v n xs := own_kept h (grown_setCell _ _ _ _) hB
theorem own_lower {w : World} {B B' e s n : Nat} {v : Value} {xs : List Value} (h : w.ownsRow B e s v n xs) (hB : B' ≤ B) : w.ownsRow B' e s v n xs := by
  refine ⟨h.1, ?_⟩
  rcases h.2 with a | ⟨g, cap, cur, e1, h1, r⟩
  · exact Or.inl a
  · exact Or.inr ⟨g, cap, cur, e1, Nat.le_trans hB h1, r⟩
theorem OwnV.sliceC {w : World} {B : Nat} {v : Value} {xs : List Int} (h : OwnV w B v xs) : ∃ p cap, v = .slice p xs.length cap ∧ Row w p xs ∧ xs.length ≤ cap ∧ cap ≤ 9223372036854775807 := by
  rcases h.shape with ⟨rfl, rfl⟩ | ⟨g, cap, rfl, ho⟩
  · exact ⟨none, 0, rfl, fun h => absurd h (Nat.lt_irrefl 0), Nat.le_refl _, by omega⟩
  · obtain ⟨cur, _, _, h3, h4, _⟩ := ho.parts
    exact ⟨_, cap, rfl, ho.row, h3, by unfold maxLen at h4; omega⟩
theorem GOwnV.sl {T : TypeId} {w : World} {B : Nat} {v : Value} {vs : List Value} (h : GOwnV T w B v vs) : ∃ p n cap, v = .slice p n cap ∧ n = vs.length := by
  obtain ⟨p, cap, e, _⟩ := h.slice; exact ⟨p, _, cap, e, rfl⟩
theorem TOwn.sl {T : TypeId} {w : World} {B : Nat} {v : Value} {vs : List V3} (h : TOwn T w B v vs) : ∃ p n cap, v = .slice p n cap ∧ n = vs.length := by
  obtain ⟨p, cap, e, _⟩ := h.shape; exact ⟨p, _, cap, e, rfl⟩
theorem OwnV.sl {w : World} {B : Nat} {v : Value} {vs : List Int} (h : OwnV w B v vs) : ∃ p n cap, v = .slice p n cap ∧ n = vs.length ∧ n ≤ cap ∧ cap ≤ 9223372036854775807 := by
  obtain ⟨p, cap, e, _, h1, h2⟩ := h.sliceC; exact ⟨p, _, cap, e, rfl, h1, h2⟩
theorem ImOwn.lower {w : World} {B B' : Nat} {m : IM} {vb vk vs vu : Value} (h : ImOwn w B m vb vk vs vu) (hB : B' ≤ B) : ImOwn w B' m vb vk vs vu :=
  ⟨own_lower h.b hB, own_lower h.k hB, own_lower h.s hB, own_lower h.u hB⟩
theorem ImOwn.below {w w' : World} {B : Nat} {m : IM} {vb vk vs vu : Value} (h : ImOwn w B m vb vk vs vu) (hb : Below w.heap.size w w') : ImOwn w' B m vb vk vs vu :=
  ⟨h.b.below hb, h.k.below hb, h.s.below hb, h.u.below hb⟩
theorem ImOwn.set {w : World} {B R i : Nat} {m : IM} {vb vk vs vu : Value} (h : ImOwn w B m vb vk vs vu) (hR : R < B) (u : Value) : ImOwn (w.setCell ⟨R, i, none⟩ u) B m vb vk vs vu :=
  ⟨own_set h.b hR, own_set h.k hR, own_set h.s hR, own_set h.u hR⟩
theorem ImOwn.set4 {w : World} {B R : Nat} {m : IM} {vb vk vs vu : Value} (h : ImOwn w B m vb vk vs vu) (hR : R < B) (v0 v1 v2 v3 : Value) : ImOwn ((((w.setCell ⟨R, 0, none⟩ v0).setCell ⟨R, 1, none⟩ v1).setCell ⟨R, 2, none⟩ v2).setCell ⟨R, 3, none⟩ v3) B m vb vk vs vu :=
  (((h.set hR v0).set hR v1).set hR v2).set hR v3
theorem ImOwn.nil (w : World) (B : Nat) : ImOwn w B noIM (.slice none 0 0) (.slice none 0 0) (.slice none 0 0) (.slice none 0 0) :=
  ⟨OwnV.nil _ _, GOwnV.nil _ _ _, TOwn.nil _ _ _, GOwnV.nil _ _ _⟩
theorem Try.sz133 : (Try.prog.info? 133).map (·.size) = some 4 := by kernel_rfl
theorem load_im {W : World} {R : Nat} {v0 v1 v2 v3 : Value} (h : Blk W R 133 #[v0, v1, v2, v3]) : (loadVar 133 ⟨R, 0, none⟩).run Try.prog W = .ok (.agg #[v0, v1, v2, v3]) W :=
  run_loadVar_mid W R 0 133 [v0, v1, v2, v3] _ h.range Try.underlying133 rfl Try.sz133
theorem Blk.set4 {W : World} {R : Nat} {A : Array Value} {u0 u1 u2 u3 : Value} (h : Blk W R 133 A) (hA : A.size = 4) (v0 v1 v2 v3 : Value) (_ : A = #[u0, u1, u2, u3]) :
    Blk ((((W.setCell ⟨R, 0, none⟩ v0).setCell ⟨R, 1, none⟩ v1).setCell ⟨R, 2, none⟩ v2).setCell ⟨R, 3, none⟩ v3) R 133 #[v0, v1, v2, v3] := by
  subst A
  have := (((h.set 0 v0).set 1 v1).set 2 v2).set 3 v3
  simpa using this
theorem below4 {w W : World} {R : Nat} (h : Below R w W) (v0 v1 v2 v3 : Value) : Below R w ((((W.setCell ⟨R, 0, none⟩ v0).setCell ⟨R, 1, none⟩ v1).setCell ⟨R, 2, none⟩ v2).setCell ⟨R, 3, none⟩ v3) :=
  (((h.setCell (Nat.le_refl _) _).setCell (Nat.le_refl _) _).setCell (Nat.le_refl _) _).setCell (Nat.le_refl _) _
theorem slice_lo (q : Option Addr) (n5 d5 m : Nat) (W : World) (h : m ≤ n5) : (Instr.sliceAt 54 (.slice q n5 d5) (some (.int .i64 m)) none none).run Try.prog W = .ok (.slice (if d5 = m then q else q.map (·.add (m * 1))) (n5 - m) (d5 - m)) W := by
  have h0 : (0 : Int) ≤ (m : Int) := by omega
  have h1 : (m : Int) ≤ (n5 : Int) := by omega
  simp [Instr.sliceAt, Instr.slice, Instr.sliceBounds, go_sem, h0, h1]
theorem slice_lo' (q : Option Addr) (n5 d5 m : Nat) (W : World) (h : m ≤ n5) : (Instr.slice 54 (.slice q n5 d5) (some (.int .i64 m)) none none).run Try.prog W = .ok (.slice (if d5 = m then q else q.map (·.add (m * 1))) (n5 - m) (d5 - m)) W := by
  rw [← slice_lo q n5 d5 m W h]
  simp [Instr.sliceAt, go_sem]
end Go.Proofs.Ytekggimgobeggaa

/- Ours: switchyardmade.Image makes what ImgL says. -/
namespace Go.Proofs.Ytekggimgobeggaa
open Go.RowKit

theorem slice_noI {a : Addr} {n c m d : Nat} (h : Value.slice (some a) n c = .slice none m d) : False := by
  injection h with h
  cases h
theorem slice_inj {g g' n c n' c' : Nat} (h : Value.slice (some ⟨g, 0, none⟩) n c = .slice (some ⟨g', 0, none⟩) n' c') : g = g' ∧ c = c' := by
  injection h with h1 _ h2
  injection h1 with h1
  injection h1 with h1
  exact ⟨h1, h2⟩
theorem wp_makeY {ops : Array Oper} {rest : List Oper} {o : Oper} {a : Act} {w : World} {Q : Exit → Act → World → Prop} (hg : o.guard = none) (s1 s2 : Operand) (ho : o.op = .makeSlice 54 s1 s2) (n : Nat) (x y : Int) (h1 : a.eval s1 = .int .i64 x) (h2 : a.eval s2 = .int .i64 y) (hx : x = n) (hy : y = n) (hn : n ≤ 1048576)
    (h : ∀ w1, Hid (Blk w1 w.heap.size 5 (byts (List.replicate n 0)).toArray) → Hid (Below w.heap.size w w1) → wpList Try.prog ops Q rest (a.put o.dst (.slice (some ⟨w.heap.size, 0, none⟩) n n)) w1) : wpList Try.prog ops Q (o :: rest) a w := by
  obtain ⟨i0, hi, hz0, hz1, hz2⟩ := info_parts Try.info5
  refine wpList_make_full _ hg s1 s2 54 ho _ 5 i0 (.int .u8 0) 1 Try.underlying54 hi hz0 hz1 _ _ _ _ n h1 h2 hx hy (by rw [hz2]; omega) (by unfold maxLen; omega) (Nat.le_refl _) ?_
  intro w1 hown hgrow
  refine h w1 ?_ ((Below.refl w.heap.size w).grown hgrow (Nat.le_refl _) (by simp))
  rw [show (Value.int .u8 0).cells = #[Value.int .u8 0] from rfl, toList_madeCells_one] at hown
  rcases hown.2 with ⟨e1, _⟩ | ⟨g, cap, cur, e1, e2, e3, e4, e5, e6, e7⟩
  · exact absurd e1 (fun e => slice_noI e)
  · obtain ⟨e1, e1'⟩ := slice_inj e1
    subst e1 e1'
    show Blk _ _ _ _
    unfold Blk
    rw [e3]
    have e : cur = (byts (List.replicate n 0)).toArray := by
      apply Array.toList_inj.1
      rw [← List.take_of_length_le (l := cur.toList) (i := n * 1) (by rw [Array.length_toList]; omega), e7]
      simp [byts]
    rw [e]
/-- copy of the no-op's bytes -/
theorem step_copyQ {ops : Array Oper} {o : Oper} {a : Act} {w : World} {K : Act → World → Prop} {Q : Exit → Act → World → Prop} {E : Prop} (hgd : o.guard = none) (d s : Operand)
    (ho : o.op = .call { callee := .builtin .copy, args := #[d, s], argTypes := #[54, 54] }) (g off dLen dCap : Nat) (ad : Addr) (xs ys : List Int) (hd : a.eval d = .slice (some ⟨g, off, none⟩) dLen dCap) (hs : a.eval s = .slice (some ad) ys.length ys.length) (h5 : ys.length ≤ dLen)
    (hg : Blk w g 5 (byts xs).toArray) (hr : Row w (some ad) ys) (h0 : 0 < ys.length) (hfit : off + ys.length ≤ xs.length)
    (h : ∀ w', Hid (Blk w' g 5 (byts (splice xs off ys)).toArray) → Hid (w.grownBy w' (some g)) → K (a.put o.dst (goInt ys.length)) w') :
    if Region.wanted o (yielded ops a.tmps) = true then Oper.wp Try.prog o a w K Q else E := by
  have hw : Region.wanted o (yielded ops a.tmps) = true := by simp [Region.wanted, hgd]
  rw [if_pos hw]
  have hl : (byts ys).length = ys.length := by simp
  have hsrc : ∀ j v, (byts ys)[j]? = some v → w.cell? (ad.add j) = some v := fun j v hj => by
    obtain ⟨b, of, e, hc⟩ := hr h0
    have hjl : j < ys.length := by simpa using (List.getElem?_eq_some_iff.1 hj).1
    injection e with e
    subst e
    rw [Go.WideShapes.add_plain, hc j hjl]
    rw [getD_byts ys j hjl] at hj
    exact hj
  have hrun := run_copy_row (P := Try.prog) w 54 54 o.type 5 g off dLen dCap ad ys.length ys.length (byts xs).toArray 5 (byts ys) Try.underlying54 Try.size5 hg (by rw [hl]; exact (Nat.min_eq_left h5).symm) hsrc (by simp; omega) (fun v hv => by
    simp only [byts, List.mem_map] at hv
    obtain ⟨z, -, rfl⟩ := hv
    rfl)
  unfold Oper.wp
  simp [execOp, ho, resolve, invoke, builtin, hd, hs, hrun, Result.andThen]
  refine h _ ?_ ⟨rfl, rfl, rfl, by simp, fun k _ hk => setRow_other w g k _ (fun e => hk (by rw [e]))⟩
  have e : (byts (splice xs off ys)) = (byts xs).take off ++ (byts ys ++ (byts xs).drop (off + ys.length)) := by simp [splice, byts]
  show Blk _ _ _ _
  unfold Blk
  rw [e]
  have := setRow_heap w g (byts xs).toArray ((byts xs).take off ++ (byts ys ++ (byts xs).drop (off + ys.length))).toArray 5 _ hg
  simpa using this

/-- Image's memory, behind wA: the bytes are in block g; the units are made first, then the image -/
structure IA (wA w : World) (g nb : Nat) (vK v7 : Value) (bs : List Int) (ss : List ByteArray) (S : List Z3) : Prop where
  mb : Blk w (wA.heap.size + 1) 133 #[.slice (some ⟨g, 0, none⟩) nb nb, vK, .slice none 0 0, .slice (some ⟨wA.heap.size, 0, none⟩) 1 1]
  un : Blk w wA.heap.size 3 #[.int .i64 0]
  by_ : Blk w g 5 (byts bs).toArray
  lt : g < wA.heap.size
  kk : GOwnV 9 w (wA.heap.size + 2) vK (ss.map Value.string)
  st : TOwn 48 w (wA.heap.size + 2) v7 (S.map z3V)
  bel : Keeps (fun j => j = g) wA w
section
variable {wA w w' : World} {g nb : Nat} {vK v7 v' : Value} {bs bs' : List Int} {ss ss' : List ByteArray} {S S' : List Z3}
theorem IA.below (h : IA wA w g nb vK v7 bs ss S) (hb : Below w.heap.size w w') : IA wA w' g nb vK v7 bs ss S :=
  ⟨h.mb.grow hb, h.un.grow hb, h.by_.grow hb, h.lt, h.kk.below hb, h.st.below hb, h.bel.thenB hb⟩
theorem IA.size (h : IA wA w g nb vK v7 bs ss S) : wA.heap.size + 2 ≤ w.heap.size := h.mb.lt
theorem row_farI {T : TypeId} {z n q B : Nat} {v : Value} {vs : List Value} {W : World} (hr : W.ownsRow B T z v n vs) (hq : q < B) : ∀ g, v.ownBlock = some g → some q ≠ some g := fun g e e' => by
  have := (World.ownsRow.lt hr g e).1
  injection e' with e'
  omega
/-- a key's text is appended -/
theorem IA.text (h : IA wA w g nb vK v7 bs ss S) (ho : GOwnV 9 w' (wA.heap.size + 2) v' (ss'.map Value.string)) (hg : w.grownBy w' vK.ownBlock) : IA wA (w'.setCell ⟨wA.heap.size + 1, 1, none⟩ v') g nb v' v7 bs ss' S := by
  have hl := h.lt
  have hm := h.mb.rowStay h.kk hg (by omega)
  have hu := h.un.rowStay h.kk hg (by omega)
  have hy := h.by_.rowStay h.kk hg (by omega)
  have hs := grown_setCell w' (wA.heap.size + 1) 1 v'
  have k2 : TOwn 48 w' (wA.heap.size + 2) v7 (S.map z3V) := row_stay h.st hg (fun g e => rows_ap h.st h.kk (by decide) g e)
  exact ⟨hm.set 1 v', hu.other (by omega) 1 v', hy.other (by omega) 1 v', hl, row_stay ho hs (row_farI ho (by omega)), row_stay k2 hs (row_farI k2 (by omega)),
    (h.bel.grown hg fun k hk => by have := (World.ownsRow.lt h.kk k hk).1; exact .inr (by omega)).grown hs fun k hk => by injection hk with hk; exact .inr (by omega)⟩
/-- a site is appended -/
theorem IA.site (h : IA wA w g nb vK v7 bs ss S) (ho : TOwn 48 w' (wA.heap.size + 2) v' (S'.map z3V)) (hg : w.grownBy w' v7.ownBlock) : IA wA w' g nb vK v' bs ss S' :=
  have hl := h.lt
  ⟨h.mb.rowStay h.st hg (by omega), h.un.rowStay h.st hg (by omega), h.by_.rowStay h.st hg (by omega), hl, row_stay h.kk hg (fun g e => rows_ap h.kk h.st (by decide) g e), ho,
    h.bel.grown hg fun k hk => by have := (World.ownsRow.lt h.st k hk).1; exact .inr (by omega)⟩
/-- bytes are written -/
theorem IA.bytes (h : IA wA w g nb vK v7 bs ss S) (ho : Blk w' g 5 (byts bs').toArray) (hg : w.grownBy w' (some g)) : IA wA w' g nb vK v7 bs' ss S :=
  have hl := h.lt
  ⟨h.mb.kept hg (by intro e; injection e with e; omega), h.un.kept hg (by intro e; injection e with e; omega), ho, hl, row_stay h.kk hg (row_farI h.kk (by omega)), row_stay h.st hg (row_farI h.st (by omega)),
    h.bel.grown hg fun k hk => by injection hk with hk; exact .inl hk.symm⟩
end
section
variable (W : World) (g : Nat) (v0 v1 v2 v3 : Value)
theorem st4_blk {c : Array Value} (h : Blk W g 133 c) (hs : c.size = 4) : Blk ((((W.setCell ⟨g, 0, none⟩ v0).setCell ⟨g, 1, none⟩ v1).setCell ⟨g, 2, none⟩ v2).setCell ⟨g, 3, none⟩ v3) g 133 #[v0, v1, v2, v3] :=
  h.setAll #[v0, v1, v2, v3] hs.symm
theorem st4_grown : W.grownBy ((((W.setCell ⟨g, 0, none⟩ v0).setCell ⟨g, 1, none⟩ v1).setCell ⟨g, 2, none⟩ v2).setCell ⟨g, 3, none⟩ v3) (some g) :=
  grown_setCells g [v0, v1, v2, v3] 0 W
end
theorem row_one (w : World) (a : Int) : Row (w.alloc (.cells #[.int .u8 a] 5)) (some ⟨w.heap.size, 0, none⟩) [a] := (Own.lit w [a] (by unfold maxLen; simp)).row
theorem Try.results74 : Try.f74.results = #[.cell 2 133] := rfl
theorem siV_zS (S : List Z3) : (S.map zS).map siV = S.map z3V := by rw [List.map_map]; rfl
set_option maxHeartbeats 8000000 in
set_option maxRecDepth 20000 in
theorem image_any (p : Option Addr) (n c : Nat) (L : List Int) (w : World) (hL : L.length = n) (hn : n ≤ 140737488355328) (hnc : n ≤ c) (hr : GRow w p (numZ L)) :
    Calls Try.prog 74 #[.slice p n c] w fun e w' => ∃ vB vK vS vU, e = .returned (.agg #[vB, vK, vS, vU]) ∧ ImOwn w' w.heap.size (imM (L.take 20)) vB vK vS vU ∧ Below w.heap.size w w' := by
  have hall : ∃ (mm : Nat), (L.take 20).length = mm ∧ mm ≤ 20 ∧ (20 < n → mm = 20) ∧ (¬ 20 < n → mm = n) ∧ (20 < n → ∃ b0 o0, p = some ⟨b0, o0, none⟩) := by
    refine ⟨_, rfl, ?_, fun h => ?_, fun h => ?_, fun h => ?_⟩
    · rw [List.length_take]; omega
    · rw [List.length_take]; omega
    · rw [List.length_take]; omega
    · obtain ⟨b0, o0, e, -⟩ := hr (by simp; omega)
      exact ⟨b0, o0, e⟩
  obtain ⟨mm, hzl, hmm, hv1, hv2, hp8⟩ := hall
  have HZ : Hid (∀ W, Below w.heap.size w W → GRow W p (numZ (L.take 20))) := fun W hW h0 => by
    have hl0 : 0 < L.length := by
      have : 0 < (L.take 20).length := by simpa using h0
      rw [List.length_take] at this
      omega
    obtain ⟨b, o, e, hc⟩ := (hr.below hW).num hl0
    refine ⟨b, o, e, fun i hi => ?_⟩
    have hi' : i < (L.take 20).length := by simpa using hi
    have hi2 : i < L.length ∧ i < 20 := by rw [List.length_take] at hi'; omega
    rw [hc i hi2.1, numZ_at _ _ hi']
    simp [List.getD, List.getElem?_take_of_lt hi2.2]
  generalize L.take 20 = l at *
  have HX := Hid.in hzl
  have HV1 := Hid.in hv1
  have HV2 := Hid.in hv2
  have HP8 := Hid.in hp8
  have HRs := Hid.in (Blk.new w 133 nil4)
  have HB0 := Hid.in (new_alloc w (.cells nil4 133))
  clear hzl hv1 hv2 hL hr hp8
  go_enter Try.func74, Try.ntmps74
  go_upto_if 12 with fail
  generalize w.alloc (.cells nil4 133) = w0 at *
  go_cut [0] (fun v wx => v = .slice p mm c ∧ wx = w0)
  case first =>
    by_cases h8 : 20 < n
    · have e := HV1.out h8
      obtain ⟨b0, o0, rfl⟩ := HP8.out h8
      have g2 : decide (20 < n) = true := decide_eq_true h8
      clear HV1 HV2 HP8 HZ
      go_wp2_with fail
      go_meet
      case rel => exact ⟨by rw [e], rfl⟩
    · have HE := Hid.in (HV2.out h8)
      have g2 : decide (20 < n) = false := decide_eq_false h8
      go_wp2_with fail
      go_meet
      case rel => exact ⟨by rw [HE.out], rfl⟩
  case rest =>
    obtain ⟨rfl, hw0⟩ := hcut
    subst hw0
    clear HV1 HV2 HP8
    have HR0 := Hid.in (HZ.out _ HB0.out)
    have hKy := keyed_any p mm c l wc HX.out (by omega) HR0.out
    have HKL := Hid.in (kdS_len l mm)
    clear HZ
    go_wp2_with (go_at_call 88; refine Hid.out ?_)
    refine Lib.hid ?_
    (with_reducible refine hKy.mono ?_)
    rintro e w1 ⟨v3, rfl, ho3, hb1⟩
    obtain ⟨p3, c3', e3, -, -, -⟩ := ho3.slice
    rw [List.length_map, HKL.out.1] at e3
    subst e3
    have HO3 := Hid.in ho3
    have HBW1 := Hid.in (below_step HB0.out hb1)
    have HRs1 := Hid.in (HRs.out.grow hb1)
    have HS1 : Hid (wc.heap.size ≤ w1.heap.size) := hb1.size
    have hkl := HKL.out.2
    have HMT : Hid (imN l = (kdS l mm).1.length) := by show (kdS l l.length).1.length = _; rw [HX.out]
    clear ho3 hb1 hKy HR0
    generalize (kdS l mm).1.length = kn at *
    obtain ⟨ofs, hofs⟩ : ∃ ofs, (kdS l mm).2 = ofs := ⟨_, rfl⟩
    have HOF := Hid.in hofs
    rw [hofs] at HO3
    clear hofs
    have hbn : (8 + 12 * mm) ≤ 1048576 := by omega
    go_wp2_with (at_make; refine wp_makeY rfl _ _ rfl (8 + 12 * mm) _ _ rfl rfl (by omega) (by omega) hbn ?_; intro w2 HY2 HB2; refine Hid.out ?_)
    refine Lib.hid ?_
    have HIA : Hid (IA w2 ((w2.alloc (.cells #[.int .i64 0] 3)).alloc (.cells #[.slice (some ⟨w1.heap.size, 0, none⟩) (8 + 12 * mm) (8 + 12 * mm), .slice none 0 0, .slice none 0 0, .slice (some ⟨w2.heap.size, 0, none⟩) 1 1] 133)) w1.heap.size (8 + 12 * mm) (.slice none 0 0) (.slice none 0 0) (imB mm 0) [] (imR l 0)) := by
      refine ⟨?_, (Blk.new w2 3 _).grow (new_alloc _ _), (HY2.out.grow (new_alloc _ _)).grow (new_alloc _ _), HY2.out.lt, GOwnV.nil _ _ _, TOwn.nil _ _ _, Keeps.ofBelow (below_alloc (new_alloc _ _) _)⟩
      have := Blk.new (w2.alloc (.cells #[.int .i64 0] 3)) 133 #[.slice (some ⟨w1.heap.size, 0, none⟩) (8 + 12 * mm) (8 + 12 * mm), .slice none 0 0, .slice none 0 0, .slice (some ⟨w2.heap.size, 0, none⟩) 1 1]
      rw [size_one] at this
      exact this
    have HOk : Hid (∀ W, Keeps (fun j => j = w1.heap.size) w2 W → GRow W p3 (numZ ofs)) := fun W hW h0 => by
      obtain ⟨pq, cq, eq, hrq, -, -⟩ := HO3.out.slice
      have e1 : p3 = pq := by injection eq
      subst e1
      obtain ⟨b, o, e, hc⟩ := hrq h0
      refine ⟨b, o, e, fun i hi => ?_⟩
      have h1 := hc i hi
      have hlt : b < w1.heap.size := by
        rw [List.getElem?_eq_getElem hi] at h1
        exact cell_lt h1
      have hk := (Keeps.ofBelow (G := fun j => j = w1.heap.size) HB2.out).trans' hW
      rw [← h1]
      have := hk.block b hlt (by omega)
      unfold World.cell?
      dsimp only
      rw [this]
    have HLB := Hid.in (imB_len mm)
    have HBW2 := Hid.in (below_step HBW1.out HB2.out)
    have HRs2 := Hid.in (HRs1.out.grow HB2.out)
    have HG0 : Hid (w.heap.size ≤ w1.heap.size) := HBW1.out.size
    have HG2 : Hid (w.heap.size < w1.heap.size) := HRs1.out.lt
    clear HY2 HB2 HO3 HRs HRs1 HB0 HBW1
    generalize hgB : w1.heap.size = gB at *
    clear hgB
    go_upto_region 5 with fail
    generalize (w2.alloc (.cells #[.int .i64 0] 3)).alloc (.cells #[.slice (some ⟨gB, 0, none⟩) (8 + 12 * mm) (8 + 12 * mm), .slice none 0 0, .slice none 0 0, .slice (some ⟨w2.heap.size, 0, none⟩) 1 1] 133) = w5 at *
    obtain ⟨bl, HBL⟩ : ∃ bl, Hid (bl = 8 + 12 * mm) := ⟨_, rfl⟩
    rw [← HBL.out] at HIA ⊢
    go_wp2_with fail
    go_loopw [6] (fun vi wz => ∃ (k : Nat) (vK : Value), k ≤ kn ∧ vi = .int .i64 k ∧ IA w2 wz gB bl vK (.slice none 0 0) (imB mm 0) (txtP k) (imR l 0)) (fun vi _ => kn - (intOf vi).toNat)
    case atStart => exact ⟨0, _, Nat.zero_le _, rfl, HIA.out⟩
    case round =>
      obtain ⟨k, vK, hk, rfl, hp⟩ := hrel
      have HQ := Hid.in hp
      obtain ⟨pK, cK, eK, -, -, -⟩ := hp.kk.slice
      rw [List.length_map, txtP_len] at eK
      subst eK
      clear hp HIA
      by_cases hlk : k < kn
      · have qk : wr.cell? ⟨w2.heap.size + 1, 1, none⟩ = some (.slice pK k cK) := HQ.out.mb.cell 1
        have hcv : (convert 54 9 (.slice (some ⟨wr.heap.size, 0, none⟩) 1 1)).run Try.prog (wr.alloc (.cells #[.int .u8 (97 + (k : Int))] 5)) = .ok (.string (strOfNums [97 + (k : Int)])) (wr.alloc (.cells #[.int .u8 (97 + (k : Int))] 5)) := (row_one wr (97 + (k : Int))).convert rfl 1
        have HTX := Hid.in (txtP_succ k)
        have HTL := Hid.in (txtP_len k)
        have hm256 : (97 + (k : Int)) % 256 = 97 + (k : Int) := by omega
        have HQ1 := Hid.in (HQ.out.below (new_alloc wr (.cells #[.int .u8 (97 + (k : Int))] 5)))
        generalize strOfNums [97 + (k : Int)] = sk at *
        have HQ2 := Hid.in (HQ1.out.below (new_alloc _ (.cells #[.string sk] 9)))
        have hC2 : ∀ jx ux, ([Value.string sk] : List Value)[jx]? = some ux → ((wr.alloc (.cells #[.int .u8 (97 + (k : Int))] 5)).alloc (.cells #[.string sk] 9)).cell? ((⟨wr.heap.size + 1, 0, none⟩ : Addr).add jx) = some ux := by
          have h := cell_one_new (wr.alloc (.cells #[.int .u8 (97 + (k : Int))] 5)) (.string sk) 9
          rw [size_one] at h
          exact h
        have HTN : Hid (((txtP k).map Value.string ++ [Value.string sk]).length = k + 1) := by show _ = _; rw [List.length_append, List.length_map, HTL.out]; rfl
        have hl1 : ((txtP k).map Value.string).length + 1 ≤ 140737488355328 := by rw [List.length_map, HTL.out]; omega
        have hl2 : (((txtP k).map Value.string).length + 1) * 16 ≤ 140737488355328 := by rw [List.length_map, HTL.out]; omega
        go_wp2_with (at_builtin; refine gpush Try.elemT _ rfl _ _ rfl (w2.heap.size + 2) _ ((txtP k).map Value.string) rfl HQ2.out.kk ⟨wr.heap.size + 1, 0, none⟩ 1 1 [.string sk] rfl rfl hC2 (fun u hu => by simp only [List.mem_cons, List.not_mem_nil, or_false] at hu; subst hu; rfl) hl1 hl2 HQ2.out.size ?_; intro v24 w24 ho24 hg24 hb24 hn24; obtain ⟨p24, c24, e24, -, -, -⟩ := ho24.slice; rw [HTN.out] at e24; subst e24; have q24 : w24.cell? ⟨w2.heap.size + 1, 1, none⟩ = some (.slice pK k cK) := (HQ2.out.mb.rowStay HQ2.out.kk hg24 (by omega)).cell 1; have f24 : w24.frozen? ⟨w2.heap.size + 1, 1, none⟩ = false := (HQ2.out.mb.rowStay HQ2.out.kk hg24 (by omega)).free 1; have HQ3 : Hid (IA w2 (w24.setCell ⟨w2.heap.size + 1, 1, none⟩ (.slice p24 (k + 1) c24)) gB bl (.slice p24 (k + 1) c24) _ _ (txtP (k + 1)) _) := (HQ2.out.text (by rw [HTX.out, List.map_append]; exact ho24) hg24); clear ho24 hg24 hb24 hn24; refine Hid.out ?_)
        refine Lib.hid ?_
        clear hcv hC2 HQ1 HQ2 qk
        go_wp2_with fail
        go_roundw
        case rel => exact ⟨k + 1, _, by omega, by go_num, HQ3.out⟩
        case measure => simp [intOf]; omega
      · obtain rfl : k = kn := by omega
        go_wp2_with fail
        go_loopw [7, 8] (fun v7 vi wz => ∃ (j : Nat), j ≤ mm ∧ vi = .int .i64 j ∧ IA w2 wz gB bl (.slice pK k cK) v7 (imB mm j) (txtP k) (imR l j)) (fun _ vi _ => mm - (intOf vi).toNat)
        case atStart => exact ⟨0, Nat.zero_le _, rfl, HQ.out⟩
        case round =>
          obtain ⟨j, hj, rfl, hp⟩ := hrel
          have HK := Hid.in hp
          clear hp HQ
          by_cases hlj : j < mm
          · have hLj := HLB.out j (by omega)
            have q0 : wr.cell? ⟨w2.heap.size + 1, 0, none⟩ = some (.slice (some ⟨gB, 0, none⟩) bl bl) := HK.out.mb.cell 0
            go_upto_region 14 with fail
            obtain ⟨at_, hat, HAT⟩ : ∃ at_ : Nat, 8 + 12 * (j : Int) = (at_ : Int) ∧ Hid (at_ = 8 + 12 * j) := ⟨8 + 12 * j, by omega, rfl⟩
            have hab : at_ + 5 ≤ bl := by have := HBL.out; have := HAT.out; omega
            have hsl : ∀ W, (Instr.sliceAt 54 (.slice (some ⟨gB, 0, none⟩) bl bl) (some (.int .i64 (at_ : Int))) none none).run Try.prog W = .ok (.slice (some ⟨gB, at_, none⟩) (bl - at_) (bl - at_)) W := fun W => by
              rw [slice_lo _ _ _ _ _ (by omega), if_neg (by omega)]
              simp [Addr.add_mid]
            have hsl' : ∀ W, (Instr.slice 54 (.slice (some ⟨gB, 0, none⟩) bl bl) (some (.int .i64 (at_ : Int))) none none).run Try.prog W = .ok (.slice (some ⟨gB, at_, none⟩) (bl - at_) (bl - at_)) W := fun W => by
              rw [slice_lo' _ _ _ _ _ (by omega), if_neg (by omega)]
              simp [Addr.add_mid]
            have q0r := fun d os => cell_regrown q0 d os
            simp only [hat]
            refine wp_region_noPanic ?_
            refine wp_region_sink 4 [5] 2 (by kernel_rfl) (by kernel_rfl) (by kernel_rfl) (by kernel_rfl) (by kernel_rfl) (fun _ _ _ _ _ h => h) ?_
            simp only [List.take_succ_cons, List.take_zero]
            iterate 4 (go_big_quiet_step (fail))
            refine wpQuiet_nil ?_
            rintro _ ⟨⟨dq, osq⟩, rfl⟩
            have hbq : Below wr.heap.size wr (Go.Sort.grow (redrawn wr dq) osq) := below_regrown wr dq osq
            generalize Go.Sort.grow (redrawn wr dq) osq = w17 at hbq ⊢
            clear q0 q0r hsl hsl'
            refine wpAnyG_one (i := 4) (by kernel_rfl) rfl (fun K hK => ?_)
            go_simp
            go_at_call 89
            refine (mquiet_any _).mono ?_
            rintro e w18 ⟨gq, rfl, hoq, hbq2⟩
            refine hK.out _ _ (regrown_of_below (below_step hbq hbq2)) (fun _ => ?_)
            clear hK K
            have HK18 := Hid.in (HK.out.below (below_step hbq hbq2))
            have HOQ := Hid.in hoq
            clear hoq hbq2 hbq HK
            refine wpAnyG_last (i := 5) (by kernel_rfl) rfl rfl (fun K hK => ?_)
            refine step_copyQ (by rfl) _ _ (by rfl) gB at_ (bl - at_) (bl - at_) ⟨gq, 0, none⟩ (imB mm j) quietL (by rfl) (by rfl) (by show 5 ≤ _; omega) HK18.out.by_ HOQ.out.row (by decide) (by show at_ + 5 ≤ _; rw [hLj, ← HBL.out]; exact hab) ?_
            intro w19 HY19 hg19
            have HK19 : Hid (IA w2 w19 gB bl (.slice pK k cK) _ (imB mm (j + 1)) (txtP k) (imR l j)) := HK18.out.bytes (by show Blk w19 gB 5 (byts (Go.splice (imB mm j) (8 + 12 * j) quietL)).toArray; rw [← HAT.out]; exact HY19.out) hg19.out
            clear HY19 hg19 HK18 HOQ
            refine hK.out _ _ ?_
            clear hK K
            refine wpAnyG_done (by kernel_rfl) ?_ _
            refine NoPanic.normal ?_
            have HR3 := Hid.in (HOk.out w19 HK19.out.bel)
            have hofl : ofs.length = mm := by have := HKL.out.1; rw [HOF.out] at this; exact this
            obtain ⟨b3, o3, rfl, hc3⟩ := HR3.out.num (by omega)
            have c1 := hc3 j (by omega)
            have HIR := Hid.in (imR_succ l j)
            have HIZ : Hid (imZ l j = (ofs.getD j 0, (at_ : Int), (at_ : Int) + 9)) := by
              show _ = _
              unfold imZ
              rw [HX.out, HOF.out, HAT.out]
              simp only [Prod.mk.injEq, true_and]
              omega
            clear hc3 HR3
            generalize ofs.getD j 0 = key at *
            have hRl := imR_len l j
            obtain ⟨p7, c7, e7, -, -, -⟩ := HK19.out.st.shape
            rw [List.length_map, hRl] at e7
            subst e7
            generalize imR l j = S at *
            have HN0 := Hid.in (HK19.out.below (new_alloc w19 (.cells #[.int .i64 key, .int .i64 at_, .int .i64 ((at_ : Int) + 9)] 48)))
            have hS1 : (S.map z3V).length ≤ 1048576 := by rw [List.length_map]; omega
            go_simp
            go_wp2_with (at_builtin; refine tpush Try.elemSite _ rfl _ _ rfl (w2.heap.size + 2) _ (S.map z3V) rfl HN0.out.st ⟨w19.heap.size, 0, none⟩ 1 (z3V (key, (at_ : Int), (at_ : Int) + 9)) (z3V_one _) rfl (news3 w19 (z3V (key, (at_ : Int), (at_ : Int) + 9)) 48) hS1 (by decide) HN0.out.size ?_; intro v9 w9 ho9 hg9 hb9; have HK9 : Hid (IA w2 w9 gB bl _ v9 _ _ (S ++ [(key, (at_ : Int), (at_ : Int) + 9)])) := HN0.out.site (by rw [List.map_append]; exact ho9) hg9; clear ho9 hg9 hb9; refine Hid.out ?_)
            refine Lib.hid ?_
            clear HN0 hS1 c1
            go_wp2_with fail
            go_roundw
            case rel => exact ⟨j + 1, by omega, by go_num, by rw [HIR.out, HIZ.out]; exact HK9.out⟩
            case measure => simp [intOf]; omega
          · obtain rfl : j = mm := by omega
            obtain ⟨p7, c7, e7, hrs⟩ := HK.out.st.trow
            rw [imR_len] at e7
            subst e7
            have hSo := sortedP_any p7 j c7 (imR l j) wr (imR_len l j) (by omega) hrs
            have HTB : Hid (sortZ (imR l j) j = imS l) := by show _ = sortZ (imR l l.length) l.length; rw [HX.out]
            rw [HTB.out] at hSo
            clear hrs
            go_wp2_with (go_at_call 90; refine Hid.out ?_)
            refine Lib.hid ?_
            (with_reducible refine hSo.mono ?_)
            rintro e w25 ⟨v25, rfl, ho25, hb25⟩
            obtain ⟨p25, c25, e25, -, -, -⟩ := ho25.shape
            subst e25
            have HQ5 := Hid.in (HK.out.below hb25)
            have HO25 : Hid (TOwn 48 w25 (w2.heap.size + 2) (.slice p25 ((imS l).map z3V).length c25) ((imS l).map z3V)) := own_lower ho25 HK.out.size
            have q25 : w25.cell? ⟨w2.heap.size + 1, 2, none⟩ = some (.slice none 0 0) := HQ5.out.mb.cell 2
            have f25 : w25.frozen? ⟨w2.heap.size + 1, 2, none⟩ = false := HQ5.out.mb.free 2
            have HM6 := Hid.in (HQ5.out.mb.set 2 (.slice p25 ((imS l).map z3V).length c25))
            have HG6 := Hid.in (grown_setCell w25 (w2.heap.size + 1) 2 (.slice p25 ((imS l).map z3V).length c25))
            clear ho25 hb25 hSo HK
            generalize ((imS l).map z3V).length = tl at *
            go_upto_region 17 with fail
            generalize w25.setCell ⟨w2.heap.size + 1, 2, none⟩ (.slice p25 tl c25) = w26 at *
            clear q25 f25
            have HM7 : Hid (Blk w26 (w2.heap.size + 1) 133 #[.slice (some ⟨gB, 0, none⟩) bl bl, .slice pK k cK, .slice p25 tl c25, .slice (some ⟨w2.heap.size, 0, none⟩) 1 1]) := HM6.out
            have hgB2 := HQ5.out.lt
            have hlt2 := HRs2.out.lt
            have hwg := HG2.out
            have HR6 : Hid (Blk w26 w.heap.size 133 nil4) := by
              have h1 : Blk w25 w.heap.size 133 nil4 := (HQ5.out.bel.block w.heap.size hlt2 (by omega)).trans HRs2.out
              exact h1.kept HG6.out (by intro e; injection e with e; omega)
            have HY6 := Hid.in (HQ5.out.by_.kept HG6.out (by intro e; injection e with e; omega))
            have HK6 : Hid (GOwnV 9 w26 (w2.heap.size + 2) (.slice pK k cK) ((txtP k).map Value.string)) := row_stay HQ5.out.kk HG6.out (row_farI HQ5.out.kk (by omega))
            have HS6 : Hid (TOwn 48 w26 (w2.heap.size + 2) (.slice p25 tl c25) ((imS l).map z3V)) := row_stay HO25.out HG6.out (row_farI HO25.out (by omega))
            have HU6 := Hid.in (HQ5.out.un.kept HG6.out (by intro e; injection e with e; omega))
            have HB6 : Hid (Below w.heap.size w w26) := by
              have h1 : Below w.heap.size w w25 := HBW2.out.trans (HQ5.out.bel.below (Nat.le_of_lt hlt2) (fun j hj => by omega))
              exact h1.grown HG6.out h1.size (fun k hk => by injection hk with hk; omega)
            have HSz : Hid (w2.heap.size + 2 ≤ w26.heap.size) := HM7.out.lt
            clear HM6 HG6 HQ5 HO25 HRs2
            have a0 : w26.cell? ⟨w2.heap.size + 1, 0, none⟩ = some (.slice (some ⟨gB, 0, none⟩) bl bl) := HM7.out.cell 0
            have a1 : w26.cell? ⟨w2.heap.size + 1, 1, none⟩ = some (.slice pK k cK) := HM7.out.cell 1
            have a2 : w26.cell? ⟨w2.heap.size + 1, 2, none⟩ = some (.slice p25 tl c25) := HM7.out.cell 2
            have a3 : w26.cell? ⟨w2.heap.size + 1, 3, none⟩ = some (.slice (some ⟨w2.heap.size, 0, none⟩) 1 1) := HM7.out.cell 3
            have z0 : w26.cell? ⟨w.heap.size, 0, none⟩ = some (.slice none 0 0) := HR6.out.cell 0
            have z1 : w26.cell? ⟨w.heap.size, 1, none⟩ = some (.slice none 0 0) := HR6.out.cell 1
            have z2 : w26.cell? ⟨w.heap.size, 2, none⟩ = some (.slice none 0 0) := HR6.out.cell 2
            have z3 : w26.cell? ⟨w.heap.size, 3, none⟩ = some (.slice none 0 0) := HR6.out.cell 3
            have zf : ∀ i, w26.frozen? ⟨w.heap.size, i, none⟩ = false := HR6.out.free
            have HB7 := Hid.in (st4_blk w26 w.heap.size (.slice (some ⟨gB, 0, none⟩) bl bl) (.slice pK k cK) (.slice p25 tl c25) (.slice (some ⟨w2.heap.size, 0, none⟩) 1 1) HR6.out rfl)
            have HG7 := Hid.in (st4_grown w26 w.heap.size (.slice (some ⟨gB, 0, none⟩) bl bl) (.slice pK k cK) (.slice p25 tl c25) (.slice (some ⟨w2.heap.size, 0, none⟩) 1 1))
            go_wp2_with fail
            generalize (((w26.setCell ⟨w.heap.size, 0, none⟩ (.slice (some ⟨gB, 0, none⟩) bl bl)).setCell ⟨w.heap.size, 1, none⟩ (.slice pK k cK)).setCell ⟨w.heap.size, 2, none⟩ (.slice p25 tl c25)).setCell ⟨w.heap.size, 3, none⟩ (.slice (some ⟨w2.heap.size, 0, none⟩) 1 1) = w27 at *
            have hld := load_im HB7.out
            have hs4 : w.heap.size ≤ w2.heap.size + 2 := by omega
            have hq : ∀ {T : TypeId} {z n : Nat} {v : Value} {vs : List Value}, w26.ownsRow (w2.heap.size + 2) T z v n vs → w27.ownsRow w.heap.size T z v n vs := fun {T z n v vs} hr => own_lower (row_stay hr HG7.out (row_farI hr (by omega))) hs4
            have hU : GOwnV 3 w27 w.heap.size (.slice (some ⟨w2.heap.size, 0, none⟩) 1 1) (numZ [0]) := by
              have hb : Blk w27 w2.heap.size 3 #[.int .i64 0] := HU6.out.kept HG7.out (by intro e; injection e with e; omega)
              exact (GOwn.mk (vs := numZ [0]) (by omega) hb (by simp) (by decide) rfl rfl).val
            have hYb : OwnV w27 w.heap.size (.slice (some ⟨gB, 0, none⟩) bl bl) (imB j j) := by
              have hb : Blk w27 gB 5 (byts (imB j j)).toArray := HY6.out.kept HG7.out (by intro e; injection e with e; omega)
              have hl := HLB.out j (Nat.le_refl _)
              rw [← HBL.out] at hl
              have hbl : bl ≤ 1048576 := by have := HBL.out; omega
              unfold OwnV
              rw [hl]
              refine ⟨by simp [hl], .inr ⟨gB, bl, _, rfl, by omega, hb, Nat.le_refl _, by unfold maxLen; omega, by simp [hl], ?_⟩⟩
              rw [Nat.mul_one]
              exact List.take_of_length_le (by simp [hl])
            have hE : Below w.heap.size w w27 := HB6.out.grown HG7.out HB6.out.size (fun k hk => by injection hk with hk; omega)
            have hbs : (imM l).bs = imB j j := by show imB l.length l.length = _; rw [HX.out]
            have hks : (imM l).ks = txtP k := by show txtP (imN l) = _; rw [HMT.out]
            have hsi : (imM l).si.map siV = (imS l).map z3V := siV_zS _
            exact bodyPost_ret (v := .agg #[.slice (some ⟨gB, 0, none⟩) bl bl, .slice pK k cK, .slice p25 tl c25, .slice (some ⟨w2.heap.size, 0, none⟩) 1 1]) (by simp [results, asAddr, hld]) rfl ⟨_, _, _, _, rfl, ⟨by rw [hbs]; exact hYb, by show GOwnV 9 _ _ _ ((imM l).ks.map Value.string); rw [hks]; exact hq HK6.out, by rw [hsi]; exact hq HS6.out, hU⟩, hE⟩
end Go.Proofs.Ytekggimgobeggaa

/- The law's image, walked: memory's bytes, and the sites by their places. -/
namespace Go.Proofs.Ytekggimgobeggaa
open Go.RowKit

theorem at3 {w : World} {p : Option Addr} {T : List Si} (h : Row3 w p (T.map siV)) (h0 : 0 < T.length) : ∃ b o, p = some ⟨b, o, none⟩ ∧ ∀ i (hi : i < T.length), w.cell? ⟨b, o + i * 3, none⟩ = some (.int .i64 T[i].key) ∧ w.cell? ⟨b, o + i * 3 + 1, none⟩ = some (.int .i64 T[i].at_) ∧ w.cell? ⟨b, o + i * 3 + 2, none⟩ = some (.int .i64 T[i].to_) := by
  obtain ⟨b, o, e, hc⟩ := h (by simpa using h0)
  refine ⟨b, o, e, fun i hi => ?_⟩
  have h0 := hc i (by simpa using hi) 0 (by decide)
  have h1 := hc i (by simpa using hi) 1 (by decide)
  have h2 := hc i (by simpa using hi) 2 (by decide)
  rw [List.getElem_map] at h0 h1 h2
  exact ⟨h0, h1, h2⟩
theorem byAt_mono (S : List Si) (k : Nat) : ∀ d, (byAt S k).length ≤ (byAt S (k + d)).length
  | 0 => Nat.le_refl _
  | d + 1 => by
    have ih := byAt_mono S k d
    rw [← Nat.add_assoc, byAt_succ, List.length_append]
    omega
set_option maxRecDepth 20000 in
set_option maxHeartbeats 8000000 in
theorem ima_any (p : Option Addr) (n c : Nat) (L : List Int) (w : World) (hL : L.length = n) (hn : n ≤ 140737488355328) (hnc : n ≤ c) (hr : GRow w p (numZ L)) :
    Calls Try.prog 35 #[.slice p n c] w fun e w' => ∃ pb cb ps cs b T, e = .returned (.tuple #[.slice pb b.length cb, .slice ps T.length cs]) ∧ b.length ≤ cb ∧ Row w' pb b ∧ Byt b ∧ Row3 w' ps (T.map siV) ∧ (ps = none → T = []) ∧ ImT b T ∧ Below w.heap.size w w' := by
  have hIm := image_any p n c L w hL hn hnc hr
  have h20 : (L.take 20).length ≤ 20 := by rw [List.length_take]; omega
  have HT := Hid.in (imT (L.take 20) h20)
  have hb : (imM (L.take 20)).bs = imB (L.take 20).length (L.take 20).length := rfl
  have hs : (imM (L.take 20)).si = (imS (L.take 20)).map zS := rfl
  have HBY := Hid.in (imM_byt (L.take 20))
  rw [← hb, ← hs] at HT
  have hsl : (imM (L.take 20)).si.length ≤ 20 := by rw [hs, List.length_map, imS_len]; exact h20
  clear hL hn hnc hr hb hs
  generalize imM (L.take 20) = m at *
  go_enter Try.func35, Try.ntmps35
  go_wp2_with (go_at_call 74; refine Hid.out ?_)
  refine Lib.hid ?_
  (with_reducible refine hIm.mono ?_)
  rintro e w1 ⟨vB, vK, vS, vU, rfl, ho, hb1⟩
  obtain ⟨pb, cb, rfl, hrb, hcb, -⟩ := ho.b.sliceC
  obtain ⟨pk, nk, ck, rfl, -⟩ := ho.k.sl
  obtain ⟨ps, cs, rfl, -, -, hrs⟩ := ho.s.row3
  obtain ⟨pu, nu, cu, rfl, -⟩ := ho.u.sl
  rw [List.length_map]
  have HS1 := Hid.in hrs
  have HR1 := Hid.in hrb
  have HB1 := Hid.in hb1
  clear hIm ho hrb hrs hb1
  go_upto_region 2 with fail
  have hal := new_alloc w1 (.cells #[.slice pb m.bs.length cb, .slice pk nk ck, .slice ps m.si.length cs, .slice pu nu cu] 133)
  have HM2 := Hid.in (Blk.new w1 133 #[.slice pb m.bs.length cb, .slice pk nk ck, .slice ps m.si.length cs, .slice pu nu cu])
  have HB2 := Hid.in (below_step HB1.out hal)
  have HS2 := Hid.in (HS1.out.below hal)
  have HR2 := Hid.in (HR1.out.below hal)
  clear hal HS1 HR1 HB1
  generalize w1.alloc (.cells #[.slice pb m.bs.length cb, .slice pk nk ck, .slice ps m.si.length cs, .slice pu nu cu] 133) = w2 at *
  generalize w1.heap.size = M at *
  have hnb := HT.out.nb
  have HLE : Hid (∀ k, k ≤ m.bs.length → (byAt m.si k).length ≤ 20) := fun k hk => by
    have h := byAt_mono m.si k (m.bs.length - k)
    rw [show k + (m.bs.length - k) = m.bs.length by omega] at h
    exact Nat.le_trans h HT.out.m20
  obtain ⟨nb, hbl⟩ : ∃ nb, m.bs.length = nb := ⟨_, rfl⟩
  obtain ⟨ns, hsn⟩ : ∃ ns, m.si.length = ns := ⟨_, rfl⟩
  have HBL := Hid.in hbl
  have HSN := Hid.in hsn
  rw [hbl] at hnb hcb HLE HM2 ⊢
  rw [hsn] at hsl HM2 ⊢
  clear hbl hsn
  go_wp2_with fail
  go_loopw [5, 6] (fun v vi wr => ∃ i : Nat, vi = .int .i64 i ∧ i ≤ nb ∧ TOwn 48 wr w2.heap.size v ((byAt m.si i).map siV) ∧ Below w2.heap.size w2 wr) (fun _ vi _ => nb - (intOf vi).toNat)
  case atStart => exact ⟨0, rfl, Nat.zero_le _, TOwn.nil _ _ _, Below.refl _ _⟩
  case round =>
    obtain ⟨i, rfl, hi, hO, hB⟩ := hrel
    have HO := Hid.in hO
    have HB := Hid.in hB
    clear hO hB
    have HM := Hid.in (HM2.out.grow HB.out)
    have a0 : wr.cell? ⟨M, 0, none⟩ = some (.slice pb nb cb) := HM.out.cell 0
    by_cases hlt : i < nb
    · have g1 : decide ((i : Int) < (nb : Int)) = true := decide_eq_true (by omega)
      have w3 : IntKind.i64.wrap ((i : Int) + 1) = (i : Int) + 1 := by rw [IntKind.wrap_i64]; omega
      have HX := Hid.in (byAt_succ m.si i)
      have HAL := Hid.in (HLE.out i hi)
      generalize byAt m.si i = A at *
      go_wp2_with fail
      go_loopw [5, 7] (fun v vk wx => ∃ k : Nat, vk = .int .i64 k ∧ k ≤ ns ∧ TOwn 48 wx w2.heap.size v ((A ++ (m.si.take k).filter (fun s => decide (s.at_ = ((i : Nat) : Int)))).map siV) ∧ Below w2.heap.size w2 wx) (fun _ vk _ => ns - (intOf vk).toNat)
      case atStart => exact ⟨0, rfl, Nat.zero_le _, by rw [List.take_zero, List.filter_nil, List.append_nil]; exact HO.out, HB.out⟩
      case round =>
        obtain ⟨k, rfl, hk, hO, hB⟩ := hrel
        have HOx := Hid.in hO
        have HBx := Hid.in hB
        clear hO hB HO HB HM a0
        have HMx := Hid.in (HM2.out.grow HBx.out)
        have a2 : wr.cell? ⟨M, 2, none⟩ = some (.slice ps ns cs) := HMx.out.cell 2
        by_cases hkn : k < ns
        · have hkS : k < m.si.length := by rw [HSN.out]; exact hkn
          obtain ⟨bS, oS, rfl, hS⟩ := at3 (HS2.out.below HBx.out) (by omega)
          obtain ⟨s0, s1, s2⟩ := hS k hkS
          have HF : Hid ((m.si.take (k + 1)).filter (fun s => decide (s.at_ = ((i : Nat) : Int))) = (m.si.take k).filter (fun s => decide (s.at_ = ((i : Nat) : Int))) ++ (if m.si[k].at_ = ((i : Nat) : Int) then [m.si[k]] else [])) := by
            show _ = _
            rw [List.take_succ_eq_append_getElem hkS, List.filter_append]
            congr 1
            rw [List.filter_cons, List.filter_nil]
            by_cases e : m.si[k].at_ = ((i : Nat) : Int)
            · rw [if_pos (by simpa using e), if_pos e]
            · rw [if_neg (by simpa using e), if_neg e]
          have HFL : Hid (((m.si.take k).filter (fun s => decide (s.at_ = ((i : Nat) : Int)))).length ≤ 20) := by
            show _ ≤ _
            refine Nat.le_trans (List.length_filter_le _ _) ?_
            rw [List.length_take]; omega
          generalize m.si[k] = s at *
          generalize (m.si.take k).filter (fun s => decide (s.at_ = ((i : Nat) : Int))) = F at *
          obtain ⟨sk, sa, st⟩ := s
          dsimp only at *
          have g4 : decide ((k : Int) < (ns : Int)) = true := decide_eq_true (by omega)
          have g5 : (0 : Int) ≤ (k : Int) := by omega
          have g6 : (k : Int) < (ns : Int) := by omega
          have w4 : IntKind.i64.wrap ((k : Int) + 1) = (k : Int) + 1 := by rw [IntKind.wrap_i64]; omega
          have HLN : Hid (((A ++ F).map siV).length ≤ 1048576) := by
            show _ ≤ _
            rw [List.length_map, List.length_append]
            have := HAL.out
            have := HFL.out
            omega
          obtain ⟨pv, cv, ev, -⟩ := HOx.out.shape
          subst ev
          clear hS
          by_cases e : sa = ((i : Nat) : Int)
          · have HE : Hid (A ++ (m.si.take (k + 1)).filter (fun s => decide (s.at_ = ((i : Nat) : Int))) = (A ++ F) ++ [⟨sk, sa, st⟩]) := by show _ = _; rw [HF.out, if_pos e, List.append_assoc]
            have q1 : (sa == ((i : Nat) : Int)) = true := by simpa using e
            clear HF e
            generalize A ++ F = AF at *
            go_wp2_with (at_builtin; refine Hid.out ?_)
            refine Lib.hid ?_
            refine tpush Try.elemSite _ rfl _ _ rfl w2.heap.size _ (AF.map siV) rfl (TOwn.below HOx.out (new_alloc _ _)) ⟨wr.heap.size, 0, none⟩ 1 (siV ⟨sk, sa, st⟩) ⟨rfl, rfl, rfl⟩ rfl (news3 wr (siV ⟨sk, sa, st⟩) 48) HLN.out (by decide) (Nat.le_trans HBx.out.size (new_alloc _ _).size) ?_
            intro v' w9 ho9 hg9 hb9
            have HO9 := Hid.in ho9
            have HB9 := Hid.in (hb9 w2 (below_alloc HBx.out _))
            clear ho9 hg9 hb9 s0 s1 s2 a2
            go_wp2_with fail
            go_roundw
            case rel => exact ⟨k + 1, by go_num, by omega, by rw [HE.out, List.map_append]; exact HO9.out, HB9.out⟩
            case measure => simp [intOf]; omega
          · have HE : Hid (A ++ (m.si.take (k + 1)).filter (fun s => decide (s.at_ = ((i : Nat) : Int))) = A ++ F) := by show _ = _; rw [HF.out, if_neg e, List.append_nil]
            have q1 : (sa == ((i : Nat) : Int)) = false := by simpa using e
            clear HF e
            go_wp2_with fail
            go_roundw
            case rel => exact ⟨k + 1, by go_num, by omega, by rw [HE.out]; exact HOx.out, HBx.out⟩
            case measure => simp [intOf]; omega
        · obtain rfl : k = ns := by omega
          have HE : Hid (A ++ (m.si.take k).filter (fun s => decide (s.at_ = ((i : Nat) : Int))) = byAt m.si (i + 1)) := by
            show _ = _
            rw [HX.out, List.take_of_length_le (by rw [HSN.out]; exact Nat.le_refl _)]
          have g4 : decide ((k : Int) < (k : Int)) = false := decide_eq_false (by omega)
          go_wp2_with fail
          go_roundw
          case rel => exact ⟨i + 1, by go_num, by omega, by rw [← HE.out]; exact HOx.out, HBx.out⟩
          case measure => simp [intOf]; omega
    · obtain rfl : i = nb := by omega
      have HTT : Hid (ImT m.bs (byAt m.si i)) := by have h := HT.out; rw [HBL.out] at h; exact h
      clear HT
      generalize byAt m.si i = T at *
      obtain ⟨pT, cT, eT, -, -, hT⟩ := HO.out.row3
      rw [List.length_map] at eT
      subst eT
      have HN0 : Hid (pT = none → T = []) := fun e => by
        rcases HO.out.2 with ⟨e1, e2⟩ | ⟨g, cap, cur, e1, _⟩
        · rw [List.length_map] at e2; exact List.eq_nil_of_length_eq_zero e2
        · injection e1 with e1 _ _
          rw [e] at e1; cases e1
      have HRT := Hid.in hT
      have HRB := Hid.in (HR2.out.below HB.out)
      clear hT HO
      go_wp2_with fail
      go_ret2
      exact ⟨pb, cb, pT, cT, m.bs, T, by rw [HBL.out]; rfl, by rw [HBL.out]; exact hcb, HRB.out, HBY.out, HRT.out, HN0.out, HTT.out, below_step HB2.out HB.out⟩
end Go.Proofs.Ytekggimgobeggaa
