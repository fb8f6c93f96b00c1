/- Texts put together: PrgL, PushRow, PrgA, PrgC, W3, PrgD, PrgE, PrgB. -/
import Derived.Test.YtnpaijbkhmnfpaaGreatGb
import Derived.Test.YtnpaijbkhmnfpaaGreatCopy
import Derived.Laws.AppendOwnNone
import Derived.Test.YtnpaijbkhmnfpaaGreatAwk
import Derived.Test.YtnpaijbkhmnfpaaGreatGen
import Derived.Deep.AppendLies
import Derived.Lib.Hide
import Derived.Test.YtnpaijbkhmnfpaaGreatBlk
import Derived.Test.YtnpaijbkhmnfpaaGreatBas
import Derived.Deep.QuietTactic
import Derived.BigQuiet

/- Ours: what switchyardmade.Program makes, as lists. -/
namespace Go.Proofs.YtnpaijbkhmnfpaaGreat
open Go.RowKit

/-- a number below n -/
def pickZ (a : Int) (n : Nat) : Nat := (a % n).toNat
theorem pickZ_lt (a : Int) (n : Nat) (h : 0 < n) : pickZ a n < n := by
  have h1 := Int.emod_nonneg a (show (n : Int) ≠ 0 by omega)
  have h2 := Int.emod_lt_of_pos a (show (0 : Int) < n by omega)
  unfold pickZ
  omega
/-- an instruction's length, by its kind -/
def lenK (k : Nat) : Nat := if k = 5 ∨ k = 6 ∨ k = 7 then 3 else if k = 8 ∨ k = 9 ∨ k = 12 ∨ k = 13 ∨ k = 14 then 6 else if k = 11 then 1 else if k = 15 then 2 else 5
theorem lenK_le (k : Nat) : 1 ≤ lenK k ∧ lenK k ≤ 6 := by
  unfold lenK
  repeat' split
  all_goals omega
/-- the first 24 numbers -/
def prgT (l : List Int) : List Int := l.take 24
def kindL (l : List Int) : List Nat := l.map fun a => pickZ a 16
/-- where the instruction i stands -/
def plcK : List Nat → Nat → Nat
  | _, 0 => 0
  | [], _ + 1 => 0
  | k :: ks, i + 1 => lenK k + plcK ks i
theorem plcK_succ : ∀ (ks : List Nat) (i : Nat) (h : i < ks.length), plcK ks (i + 1) = plcK ks i + lenK ks[i]
  | [], i, h => absurd h (by simp)
  | k :: ks, 0, _ => by cases ks <;> simp [plcK]
  | k :: ks, i + 1, h => by
    have := plcK_succ ks i (by simpa using h)
    simp only [plcK, this, List.getElem_cons_succ]
    omega
theorem plcK_le : ∀ (ks : List Nat) (i : Nat), plcK ks i ≤ 6 * i
  | _, 0 => by simp [plcK]
  | [], i + 1 => by simp [plcK]
  | k :: ks, i + 1 => by
    have := plcK_le ks i
    have := (lenK_le k).2
    simp only [plcK]
    omega
/-- all places, and the end -/
def plcL (ks : List Nat) : List Int := (List.range (ks.length + 1)).map fun i => ((plcK ks i : Nat) : Int)
theorem plcL_len (ks : List Nat) : (plcL ks).length = ks.length + 1 := by simp [plcL]
def roomN (at_ : Nat) : Nat := (at_ + 8) / 4 * 4
def quietL : List Int := [15, 31, 68, 0, 0]
/-- an instruction's bytes -/
def codeL (k : Nat) (n at_ to_ room : Int) : List Int :=
  if k = 5 then [1, n % 8, n / 8 % 8]
  else if k = 6 then [41, n % 8, n / 8 % 8]
  else if k = 7 then [137, n % 8, n / 8 % 8]
  else if k = 8 then [116, n % 8] ++ le4 (to_ - at_ - 6)
  else if k = 9 then [117, n % 8] ++ le4 (to_ - at_ - 6)
  else if k = 10 then [232] ++ le4 (to_ - at_ - 5)
  else if k = 11 then (if n % 5 = 0 then [0] else [195])
  else if k = 12 then [184, n % 8] ++ le4 (n % 100 - 50)
  else if k = 13 then [139, n % 8] ++ le4 (room + n / 8 % 13)
  else if k = 14 then [136, n % 8] ++ le4 (room + n / 8 % 13)
  else [230, n % 8]
theorem codeL_len (k : Nat) (n a t r : Int) (h5 : 5 ≤ k) (h16 : k < 16) : (codeL k n a t r).length = lenK k := by
  have : k = 5 ∨ k = 6 ∨ k = 7 ∨ k = 8 ∨ k = 9 ∨ k = 10 ∨ k = 11 ∨ k = 12 ∨ k = 13 ∨ k = 14 ∨ k = 15 := by omega
  rcases this with rfl | rfl | rfl | rfl | rfl | rfl | rfl | rfl | rfl | rfl | rfl
  all_goals first | rfl | (simp only [codeL, lenK]; simp; split <;> rfl)
/-- the number of an instruction, and where it leads -/
def numP (l : List Int) (i : Nat) : Nat := pickZ (IntKind.i64.wrap ((l.getD i 0).tdiv 16)) 1000003
def tgtP (l : List Int) (i : Nat) : Nat := plcK (kindL l) (pickZ ((numP l i / 8 : Nat) : Int) (l.length + 1))
def pieceP (l : List Int) (i : Nat) : List Int :=
  if (kindL l).getD i 0 < 5 then quietL else codeL ((kindL l).getD i 0) (numP l i : Nat) (plcK (kindL l) i : Nat) (tgtP l i : Nat) (roomN (plcK (kindL l) l.length) : Nat)
def bodyP (l : List Int) : Nat → List Int
  | 0 => []
  | i + 1 => bodyP l i ++ pieceP l i
/-- the numbers of the sites -/
def keysP (l : List Int) : Nat → List Int
  | 0 => []
  | i + 1 => if (kindL l).getD i 0 < 5 then keysP l i ++ [((numP l i : Nat) : Int)] else keysP l i
/-- the sites' places and targets -/
def sitesP (l : List Int) : Nat → List (Nat × Nat)
  | 0 => []
  | i + 1 => if (kindL l).getD i 0 < 5 then sitesP l i ++ [(plcK (kindL l) i, tgtP l i)] else sitesP l i
theorem kindL_at (l : List Int) (i : Nat) (h : i < l.length) : (kindL l).getD i 0 = pickZ (l.getD i 0) 16 := by
  simp [kindL, List.getD, List.getElem?_eq_getElem h]
theorem kindL_len (l : List Int) : (kindL l).length = l.length := by simp [kindL]
theorem kindL_lt (l : List Int) (i : Nat) : (kindL l).getD i 0 < 16 := by
  by_cases h : i < l.length
  · rw [kindL_at l i h]
    exact pickZ_lt _ _ (by decide)
  · simp [List.getD, List.getElem?_eq_none (show (kindL l).length ≤ i by rw [kindL_len]; omega)]
theorem plc_step (l : List Int) (i : Nat) (h : i < l.length) : plcK (kindL l) (i + 1) = plcK (kindL l) i + lenK ((kindL l).getD i 0) := by
  have h' : i < (kindL l).length := by rw [kindL_len]; exact h
  rw [plcK_succ _ _ h']
  simp [List.getD, List.getElem?_eq_getElem h']
theorem pieceP_len (l : List Int) (i : Nat) : (pieceP l i).length = lenK ((kindL l).getD i 0) := by
  unfold pieceP
  have := kindL_lt l i
  split
  · generalize (kindL l).getD i 0 = k at *
    have h : k = 0 ∨ k = 1 ∨ k = 2 ∨ k = 3 ∨ k = 4 := by omega
    rcases h with rfl | rfl | rfl | rfl | rfl <;> rfl
  · exact codeL_len _ _ _ _ _ (by omega) this
theorem bodyP_len (l : List Int) : ∀ i, i ≤ l.length → (bodyP l i).length = plcK (kindL l) i
  | 0, _ => by simp [bodyP, plcK]
  | i + 1, h => by
    rw [bodyP, List.length_append, bodyP_len l i (by omega), pieceP_len, plc_step l i (by omega)]
theorem keysP_len (l : List Int) : ∀ i, (keysP l i).length = (sitesP l i).length ∧ (keysP l i).length ≤ i
  | 0 => by simp [keysP, sitesP]
  | i + 1 => by
    have := keysP_len l i
    simp only [keysP, sitesP]
    split
    · simp only [List.length_append, List.length_cons, List.length_nil]; omega
    · omega
theorem keysP_lt (l : List Int) : ∀ i, ∀ x ∈ keysP l i, 0 ≤ x ∧ x < 1000003
  | 0 => by simp [keysP]
  | i + 1 => by
    intro x hx
    simp only [keysP] at hx
    split at hx
    · rcases List.mem_append.1 hx with hx | hx
      · exact keysP_lt l i x hx
      · have := pickZ_lt (IntKind.i64.wrap ((l.getD i 0).tdiv 16)) 1000003 (by decide)
        simp only [List.mem_cons, List.not_mem_nil, or_false] at hx
        subst hx
        unfold numP
        omega
    · exact keysP_lt l i x hx
theorem le4_bytP (n : Int) : ∀ x ∈ le4 n, 0 ≤ x ∧ x ≤ 255 := by
  intro x hx
  simp only [le4, List.mem_cons, List.not_mem_nil, or_false] at hx
  omega
theorem codeL_byt (k : Nat) (n a t r : Int) : ∀ x ∈ codeL k n a t r, 0 ≤ x ∧ x ≤ 255 := by
  have h1 := le4_bytP (t - a - 6)
  have h2 := le4_bytP (t - a - 5)
  have h3 := le4_bytP (n % 100 - 50)
  have h4 := le4_bytP (r + n / 8 % 13)
  intro x
  unfold codeL
  generalize le4 (t - a - 6) = l1 at *
  generalize le4 (t - a - 5) = l2 at *
  generalize le4 (n % 100 - 50) = l3 at *
  generalize le4 (r + n / 8 % 13) = l4 at *
  intro hx
  repeat' split at hx
  all_goals
    simp only [List.mem_cons, List.not_mem_nil, or_false, List.cons_append, List.nil_append] at hx
    first
      | omega
      | (rcases hx with hx | hx | hx <;> first | omega | exact h1 x hx | exact h2 x hx | exact h3 x hx | exact h4 x hx)
      | (rcases hx with hx | hx <;> first | omega | exact h1 x hx | exact h2 x hx | exact h3 x hx | exact h4 x hx)
theorem pieceP_byt (l : List Int) (i : Nat) : ∀ x ∈ pieceP l i, 0 ≤ x ∧ x ≤ 255 := by
  unfold pieceP
  split
  · intro x hx
    simp only [quietL, List.mem_cons, List.not_mem_nil, or_false] at hx
    omega
  · exact codeL_byt _ _ _ _ _
theorem bodyP_byt (l : List Int) : ∀ i, ∀ x ∈ bodyP l i, 0 ≤ x ∧ x ≤ 255
  | 0 => by simp [bodyP]
  | i + 1 => by
    intro x hx
    rcases List.mem_append.1 hx with hx | hx
    · exact bodyP_byt l i x hx
    · exact pieceP_byt l i x hx
/-- all bytes -/
def bytesP (l : List Int) : List Int :=
  bodyP l l.length ++ [233] ++ le4 (-((plcK (kindL l) l.length : Nat) + 5 : Int)) ++ List.replicate (roomN (plcK (kindL l) l.length) + 16 - (plcK (kindL l) l.length + 5)) 0
theorem bytesP_len (l : List Int) : (bytesP l).length = roomN (plcK (kindL l) l.length) + 16 := by
  unfold bytesP
  rw [List.length_append, List.length_append, List.length_append, bodyP_len l l.length (Nat.le_refl _), List.length_replicate]
  have : (le4 (-((plcK (kindL l) l.length : Nat) + 5 : Int))).length = 4 := rfl
  rw [this]
  simp only [List.length_cons, List.length_nil]
  unfold roomN
  omega
theorem mem_byt {xs : List Int} (h : ∀ x ∈ xs, 0 ≤ x ∧ x ≤ 255) : Byt xs := fun i => by
  by_cases hi : i < xs.length
  · have := h xs[i] (List.getElem_mem hi)
    simpa [List.getD, hi] using this
  · simp [List.getD, List.getElem?_eq_none (show xs.length ≤ i by omega)]
theorem bytesP_byt (l : List Int) : Byt (bytesP l) := mem_byt fun x hx => by
  unfold bytesP at hx
  rcases List.mem_append.1 hx with hx | hx
  · rcases List.mem_append.1 hx with hx | hx
    · rcases List.mem_append.1 hx with hx | hx
      · exact bodyP_byt l _ x hx
      · simp only [List.mem_cons, List.not_mem_nil, or_false] at hx
        omega
    · exact le4_bytP _ x hx
  · have := List.eq_of_mem_replicate hx
    omega
/-- the last place of a number among the first j -/
def lastI (met : List Int) (k : Int) : Nat → Int
  | 0 => -1
  | j + 1 => if met.getD j 0 = k then (j : Int) else lastI met k j
theorem lastI_bd (met : List Int) (k : Int) : ∀ j, -1 ≤ lastI met k j ∧ lastI met k j < j
  | 0 => by simp [lastI]
  | j + 1 => by
    have := lastI_bd met k j
    simp only [lastI]
    split <;> omega
/-- numbers as keys: those that were met, and each one's place among them -/
def kdS (l : List Int) : Nat → List Int × List Int
  | 0 => ([], [])
  | i + 1 => if lastI (kdS l i).1 (pickZ (l.getD i 0) 4 : Nat) (kdS l i).1.length < 0 then ((kdS l i).1 ++ [((pickZ (l.getD i 0) 4 : Nat) : Int)], (kdS l i).2 ++ [((kdS l i).1.length : Int)]) else ((kdS l i).1, (kdS l i).2 ++ [lastI (kdS l i).1 (pickZ (l.getD i 0) 4 : Nat) (kdS l i).1.length])
theorem kdS_len (l : List Int) : ∀ i, (kdS l i).2.length = i ∧ (kdS l i).1.length ≤ i
  | 0 => by simp [kdS]
  | i + 1 => by
    have := kdS_len l i
    simp only [kdS]
    split
    · simp only [List.length_append, List.length_cons, List.length_nil]; omega
    · simp only [List.length_append, List.length_cons, List.length_nil]; omega
theorem kdS_bd (l : List Int) : ∀ i, ∀ x ∈ (kdS l i).2, 0 ≤ x ∧ x < (kdS l i).1.length
  | 0 => by simp [kdS]
  | i + 1 => by
    have ih := kdS_bd l i
    intro x hx
    simp only [kdS] at hx ⊢
    split at hx
    · rename_i h
      rw [if_pos h]
      rcases List.mem_append.1 hx with hx | hx
      · have := ih x hx
        simp only [List.length_append, List.length_cons, List.length_nil]
        omega
      · simp only [List.mem_cons, List.not_mem_nil, or_false] at hx
        simp only [List.length_append, List.length_cons, List.length_nil]
        omega
    · rename_i h
      rw [if_neg h]
      rcases List.mem_append.1 hx with hx | hx
      · exact ih x hx
      · simp only [List.mem_cons, List.not_mem_nil, or_false] at hx
        have := lastI_bd (kdS l i).1 (pickZ (l.getD i 0) 4 : Nat) (kdS l i).1.length
        dsimp only
        omega
/-- a site: its key, its place, its target -/
abbrev Z3 : Type := Int × Int × Int
def gtZ (a b : Z3) : Bool := decide (b.1 < a.1) || (decide (a.1 = b.1) && decide (b.2.1 < a.2.1))
/-- where a site is put, of those ahead of place p -/
def posZ (L : List Z3) (x : Z3) : Nat → Nat
  | 0 => 0
  | p + 1 => if gtZ (L.getD p (0, 0, 0)) x = true then posZ L x p else p + 1
theorem posZ_le (L : List Z3) (x : Z3) : ∀ p, posZ L x p ≤ p
  | 0 => by simp [posZ]
  | p + 1 => by
    have := posZ_le L x p
    simp only [posZ]
    split <;> omega
def insZ (L : List Z3) (x : Z3) : List Z3 := L.take (posZ L x L.length) ++ x :: L.drop (posZ L x L.length)
theorem insZ_len (L : List Z3) (x : Z3) : (insZ L x).length = L.length + 1 := by
  have := posZ_le L x L.length
  simp only [insZ, List.length_append, List.length_take, List.length_cons, List.length_drop]
  omega
theorem insZ_mem {L : List Z3} {x y : Z3} (h : y ∈ insZ L x) : y = x ∨ y ∈ L := by
  rcases List.mem_append.1 h with h | h
  · exact .inr (List.mem_of_mem_take h)
  · rcases List.mem_cons.1 h with h | h
    · exact .inl h
    · exact .inr (List.mem_of_mem_drop h)
def sortZ (l : List Z3) : Nat → List Z3
  | 0 => []
  | i + 1 => insZ (sortZ l i) (l.getD i (0, 0, 0))
theorem sortZ_len (l : List Z3) : ∀ i, (sortZ l i).length = i
  | 0 => rfl
  | i + 1 => by rw [sortZ, insZ_len, sortZ_len l i]
theorem sortZ_mem (l : List Z3) : ∀ i, i ≤ l.length → ∀ y ∈ sortZ l i, y ∈ l
  | 0, _ => by simp [sortZ]
  | i + 1, h => by
    intro y hy
    rcases insZ_mem hy with rfl | hy
    · simp [List.getD, List.getElem?_eq_getElem (show i < l.length by omega)]
    · exact sortZ_mem l i (by omega) y hy
/-- a list, that is moved by one from place x on -/
def shZ (A : List Z3) (s : Z3) (x : Nat) : List Z3 := (A ++ [s]).take (x + 1) ++ A.drop x
theorem shZ_start (A : List Z3) (s : Z3) : shZ A s A.length = A ++ [s] := by
  unfold shZ
  rw [List.take_of_length_le (by simp), List.drop_eq_nil_of_le (Nat.le_refl _), List.append_nil]
theorem shZ_len {A : List Z3} {s : Z3} {x : Nat} (h : x ≤ A.length) : (shZ A s x).length = A.length + 1 := by
  unfold shZ; simp; omega
theorem shZ_get {A : List Z3} {s : Z3} {x : Nat} (h : x < A.length) : (shZ A s (x + 1))[x]? = some A[x] := by
  unfold shZ
  rw [List.getElem?_append_left (by simp; omega), List.getElem?_take_of_lt (by omega), List.getElem?_append_left h, List.getElem?_eq_getElem h]
theorem shZ_step {A : List Z3} {s : Z3} {x : Nat} (h : x < A.length) : (shZ A s (x + 1)).set (x + 1) A[x] = shZ A s x := by
  unfold shZ
  apply List.ext_getElem?
  intro i
  rw [List.getElem?_set]
  have hl : ((A ++ [s]).take (x + 1 + 1)).length = x + 2 := by simp; omega
  have hl2 : ((A ++ [s]).take (x + 1)).length = x + 1 := by simp; omega
  by_cases e : x + 1 = i
  · subst e
    rw [if_pos rfl, if_pos (by rw [List.length_append, hl]; omega), List.getElem?_append_right (by omega), hl2, Nat.sub_self, List.getElem?_drop, Nat.add_zero, List.getElem?_eq_getElem h]
  · rw [if_neg e]
    by_cases h1 : i < x + 1
    · rw [List.getElem?_append_left (by omega), List.getElem?_append_left (by omega), List.getElem?_take_of_lt (by omega), List.getElem?_take_of_lt (by omega)]
    · rw [List.getElem?_append_right (by omega), List.getElem?_append_right (by omega), hl, hl2, List.getElem?_drop, List.getElem?_drop]
      congr 1
      omega
theorem shZ_end {A : List Z3} {s : Z3} {x : Nat} (h : x ≤ A.length) : (shZ A s x).set x s = A.take x ++ s :: A.drop x := by
  unfold shZ
  have hl : ((A ++ [s]).take x).length = x := by simp; omega
  have e : (A ++ [s]).take (x + 1) = (A ++ [s]).take x ++ [(A ++ [s])[x]'(by simp; omega)] := List.take_succ_eq_append_getElem (by simp; omega)
  have e2 : (A ++ [s]).take x = A.take x := List.take_append_of_le_length h
  rw [e, List.append_assoc, List.set_append_right _ _ (by omega), hl, Nat.sub_self, e2]
  rfl
/-- the sites ahead of being sorted, and then -/
def keydP (l : List Int) : List Int × List Int := kdS (keysP l l.length) (keysP l l.length).length
/-- the sites, with the keys of the first k -/
def setKs (raw : List Z3) (of : List Int) : Nat → List Z3
  | 0 => raw
  | k + 1 => (setKs raw of k).set k (of.getD k 0, (raw.getD k (0, 0, 0)).2)
theorem setKs_len (raw : List Z3) (of : List Int) : ∀ k, (setKs raw of k).length = raw.length
  | 0 => rfl
  | k + 1 => by rw [setKs, List.length_set, setKs_len raw of k]
theorem setKs_behind (raw : List Z3) (of : List Int) : ∀ k j, k ≤ j → (setKs raw of k).getD j (0, 0, 0) = raw.getD j (0, 0, 0)
  | 0, _, _ => rfl
  | k + 1, j, h => by
    have := setKs_behind raw of k j (by omega)
    rw [← this]
    simp only [setKs, List.getD]
    rw [List.getElem?_set_ne (by omega)]
def rawI (l : List Int) (j : Nat) : List Z3 := (sitesP l j).map fun q => (0, (q.1 : Int), (q.2 : Int))
def rawP (l : List Int) : List Z3 := setKs (rawI l l.length) (keydP l).2 (rawI l l.length).length
def tblP (l : List Int) : List Z3 := sortZ (rawP l) (rawP l).length
theorem rawP_len (l : List Int) : (rawP l).length = (keysP l l.length).length := by
  unfold rawP
  rw [setKs_len, rawI, List.length_map, (keysP_len l l.length).1]
end Go.Proofs.YtnpaijbkhmnfpaaGreat

/- append of a whole slice of bytes that came in, nil or not. -/
namespace Go.Proofs.YtnpaijbkhmnfpaaGreat
open Go.RowKit

/-- 'append(out, b...)', b whatever slice of bytes that came in -/
theorem wp_push_row {ops : Array Oper} {rest : List Oper} {o : Oper} {a : Act} {Q : Exit → Act → World → Prop} (w : World) (hgd : o.guard = none) (s x : Operand)
    (ho : o.op = .call { callee := .builtin .append, args := #[s, x], argTypes := #[26, 26] }) (B : Nat) (v : Value) (xs : List Int) (hs : a.eval s = v) (hown : OwnV w B v xs)
    (q : Option Addr) (m d : Nat) (ys : List Int) (hx : a.eval x = .slice q m d) (hl : ys.length = m) (hrow : Row w q ys) (hq : q = none → m = 0 ∧ d = 0)
    (hlen : xs.length + m ≤ 140737488355328) (hB : B ≤ w.heap.size)
    (h : ∀ v' w', OwnV w' B v' (xs ++ ys) → (∀ w0, Below B w0 w → Below B w0 w') → wpList Tryz.prog ops Q rest (a.put o.dst v') w') :
    wpList Tryz.prog ops Q (o :: rest) a w := by
  cases q with
  | none =>
    obtain ⟨rfl, rfl⟩ := hq rfl
    obtain rfl : ys = [] := List.eq_nil_of_length_eq_zero hl
    obtain ⟨i0, hi, hz0, hz1, hz2⟩ := info_parts Tryz.info5
    exact wpList_append_own_none hgd s x 26 ho B 5 i0 1 Tryz.underlying26 hi v xs.length (byts xs) hs hown hx (h v w (by rw [List.append_nil]; exact hown) fun _ hb => hb)
  | some ad =>
    refine wp_push w hgd s x ho B v xs hs hown ad m d ys hx hl (fun j u hj => ?_) hlen hB fun v' w' h1 _ h3 _ => h v' w' h1 h3
    have hjl : j < ys.length := by
      rcases Nat.lt_or_ge j ys.length with h | h
      · exact h
      · rw [List.getElem?_eq_none (by simpa using h)] at hj; cases hj
    obtain ⟨b, off, e, hc⟩ := hrow (by omega)
    cases e
    rw [getD_byts ys j hjl] at hj
    rw [← hj, ← hc j hjl, Go.WideShapes.add_plain]

end Go.Proofs.YtnpaijbkhmnfpaaGreat

/- Ours: switchyardmade's small functions: Pick, length, Quiet, four, code. -/
namespace Go.Proofs.YtnpaijbkhmnfpaaGreat
open Go.RowKit

theorem ret_intP {k : IntKind} {a b : Int} (h : a = b) : Ending.returned (.int k a) = .returned (.int k b) := by rw [h]

set_option maxRecDepth 20000 in
theorem pick_any (a : Int) (n : Nat) (h0 : 0 < n) (hn : n ≤ 9223372036854775807) (w : World) : Calls Tryz.prog 32 #[.int .i64 a, .int .i64 n] w fun E w' => E = .returned (.int .i64 ((pickZ a n : Nat) : Int)) ∧ w' = w := by
  have h1 := Int.lt_tmod_of_pos a (show (0 : Int) < (n : Int) by omega)
  have h2 := Int.tmod_lt_of_pos a (show (0 : Int) < (n : Int) by omega)
  have h3 := Int.emod_nonneg a (show (n : Int) ≠ 0 by omega)
  have h4 := Int.emod_lt_of_pos a (show (0 : Int) < n by omega)
  have hm1 : ¬ (n : Int) = 0 := by omega
  have hw : IntKind.i64.wrap (a.tmod n) = a.tmod n := by rw [IntKind.wrap_i64]; omega
  have HE : Hid (((pickZ a n : Nat) : Int) = a % n) := by show ((a % n).toNat : Int) = _; omega
  have HD : Hid (a.tmod n = a % n ∨ a.tmod n = a % n - n) := by
    rw [Int.tmod_eq_emod]
    split
    · exact .inl (by omega)
    · exact .inr (by omega)
  go_enter Tryz.func32, Tryz.ntmps32
  by_cases hneg : a.tmod n < 0
  · have hw2 : IntKind.i64.wrap (a.tmod n + (n : Int)) = a.tmod n + (n : Int) := by rw [IntKind.wrap_i64]; omega
    go_wp2_with fail
    go_ret
    refine ⟨ret_intP ?_, rfl⟩
    rw [HE.out]
    have := HD.out
    omega
  · go_wp2_with fail
    go_ret
    refine ⟨ret_intP ?_, rfl⟩
    rw [HE.out]
    have := HD.out
    omega
set_option maxHeartbeats 400000 in
theorem lengthP_any (k : Nat) (hk : k < 16) (w : World) : Calls Tryz.prog 63 #[.int .i64 k] w fun E w' => E = .returned (.int .i64 ((lenK k : Nat) : Int)) ∧ w' = w := by
  have h : k = 0 ∨ k = 1 ∨ k = 2 ∨ k = 3 ∨ k = 4 ∨ k = 5 ∨ k = 6 ∨ k = 7 ∨ k = 8 ∨ k = 9 ∨ k = 10 ∨ k = 11 ∨ k = 12 ∨ k = 13 ∨ k = 14 ∨ k = 15 := by omega
  clear hk
  rcases h with rfl | rfl | rfl | rfl | rfl | rfl | rfl | rfl | rfl | rfl | rfl | rfl | rfl | rfl | rfl | rfl
  all_goals
    go_enter Tryz.func63, Tryz.ntmps63
    go_wp2
    go_ret
    exact ⟨rfl, rfl⟩
theorem quiet_any (w : World) : Calls Tryz.prog 64 #[] w fun e w' => ∃ g, e = .returned (.slice (some ⟨g, 0, none⟩) 5 5) ∧ Own w' w.heap.size g 5 quietL ∧ Below w.heap.size w w' := by
  go_enter Tryz.func64, Tryz.ntmps64
  go_wp2_with (refine wp_lit rfl 5 _ rfl quietL rfl (by decide) (by decide) rfl ?_; intro w1 g1 HO1 HB1)
  go_ret
  exact ⟨g1, rfl, HO1.out, HB1.out⟩
set_option maxHeartbeats 800000 in
theorem four_any (v : Int) (w : World) : Calls Tryz.prog 66 #[.int .i32 v] w fun e w' => ∃ g, e = .returned (.slice (some ⟨g, 0, none⟩) 4 4) ∧ Own w' w.heap.size g 4 (le4 v) ∧ Below w.heap.size w w' := by
  have hO := Own.lit w (le4 v) (by simp [le4, maxLen])
  have HE : Hid (le4 v = [v % 4294967296 % 256, v % 4294967296 / 256 % 256, v % 4294967296 / 65536 % 256, v % 4294967296 / 16777216]) := rfl
  rw [HE.out] at hO ⊢
  have hu : 0 ≤ v % 4294967296 ∧ v % 4294967296 < 4294967296 := by omega
  generalize hu' : v % 4294967296 = u at *
  have m2 : u / 16777216 % 256 = u / 16777216 := by omega
  have HO := Hid.in hO
  clear hO
  go_enter Tryz.func66, Tryz.ntmps66
  go_wp2
  go_ret
  exact ⟨_, rfl, HO.out, new_alloc _ _⟩
end Go.Proofs.YtnpaijbkhmnfpaaGreat

/- Ours: numbers as keys (switchyardmade.keyed). -/
namespace Go.Proofs.YtnpaijbkhmnfpaaGreat
open Go.RowKit

abbrev numZ (zs : List Int) : List Value := zs.map (Value.int .i64)
theorem numZ_at (zs : List Int) (k : Nat) (h : k < zs.length) : (numZ zs)[k]? = some (.int .i64 (zs.getD k 0)) := by simp [numZ, List.getD, h]
theorem Tryz.elemI : Elem 79 3 8 := ⟨Tryz.underlying79, .int .i64 0, rfl, by kernel_rfl⟩
/-- two lists lie apart -/
def Ap (u v : Value) : Prop := ∀ g, u.ownBlock = some g → v.ownBlock ≠ some g
theorem Ap.symm {u v : Value} (h : Ap u v) : Ap v u := fun g h1 h2 => h g h2 h1
theorem Ap.nilL (v : Value) : Ap (.slice none 0 0) v := fun g h => by cases h
theorem Ap.nilR (v : Value) : Ap v (.slice none 0 0) := fun g _ h => by cases h
theorem row_stay {T : TypeId} {z B n : Nat} {v : Value} {vs : List Value} {w w' : World} {row : Option Nat} (h : w.ownsRow B T z v n vs) (hg : w.grownBy w' row) (hne : ∀ g, v.ownBlock = some g → row ≠ some g) : w'.ownsRow B T z v n vs := by
  refine ⟨h.1, h.2.imp id ?_⟩
  rintro ⟨g, cap, cur, e1, e2, e3, e4⟩
  exact ⟨g, cap, cur, e1, e2, (hg.block g (Array.getElem?_eq_some_iff.1 e3).1 (fun e => hne g (by rw [e1]; rfl) e.symm)).trans e3, e4⟩
/-- what is appended to v lies apart from u still -/
theorem Ap.grown {T : TypeId} {z B n : Nat} {u v : Value} {us : List Value} {w : World} (h : Ap u v) (hu : w.ownsRow B T z u n us) {g : Nat} (hv : v.ownBlock = some g ∨ g = w.heap.size) (m c : Nat) : Ap u (.slice (some ⟨g, 0, none⟩) m c) := fun k h1 h2 => by
  have e : g = k := by
    have h2' : some g = some k := h2
    injection h2'
  subst e
  rcases hv with hv | hv
  · exact h g h1 hv
  · have := (World.ownsRow.lt hu g h1).2
    omega
/-- append of a number -/
theorem gpush1 {ops : Array Oper} {rest : List Oper} {o : Oper} {a : Act} {Q : Exit → Act → World → Prop} (w : World) (hgd : o.guard = none) (s x : Operand)
    (ho : o.op = .call { callee := .builtin .append, args := #[s, x], argTypes := #[79, 79] }) (B : Nat) (v : Value) (A : List Int) (hs : a.eval s = v) (hown : GOwnV 3 w B v (numZ A))
    (ad : Addr) (y : Int) (hx : a.eval x = .slice (some ad) 1 1) (hc : w.cell? ad = some (.int .i64 y)) (had : ad.spot = none) (hlen : A.length ≤ 1048576) (hB : B ≤ w.heap.size)
    (h : ∀ g cap w', GOwnV 3 w' B (.slice (some ⟨g, 0, none⟩) (A.length + 1) cap) (numZ (A ++ [y])) → w.grownBy w' v.ownBlock → (v.ownBlock = some g ∨ g = w.heap.size) → g < w'.heap.size → wpList Tryz.prog ops Q rest (a.put o.dst (.slice (some ⟨g, 0, none⟩) (A.length + 1) cap)) w') :
    wpList Tryz.prog ops Q (o :: rest) a w := by
  obtain ⟨hu, z, hzc, hinfo⟩ := Tryz.elemI
  obtain ⟨i0, hi, hz0, hz1, hz2⟩ := info_parts hinfo
  have hlA : (numZ A).length = A.length := by simp
  have hown' : w.ownsRow B 3 1 v A.length (numZ A) := by have := hown; unfold GOwnV at this; rwa [hlA] at this
  refine wpList_append_lies w hgd s x 79 ho B 3 i0 z 1 8 hu hi hz0 hz1 hz2 hzc (by decide) v A.length (numZ A) hs hown' ad 1 1 [.int .i64 y] hx rfl (fun j u hj => ?_) (fun u hu => ?_) (by decide) (by unfold maxLen; omega) (by omega) hB w.heap.size rfl ?_
  · obtain ⟨b, off, sp⟩ := ad
    dsimp only at had
    subst had
    rw [Go.WideShapes.add_plain]
    cases j with
    | zero => simpa using (show some (Value.int .i64 y) = some u from hj) ▸ hc
    | succ j => simp at hj
  · simp only [List.mem_cons, List.not_mem_nil, or_false] at hu
    subst hu
    rfl
  · intro g cap w' h2 h3 h4 h5
    refine h g cap w' ?_ h3 h4 h5
    unfold GOwnV
    have e : numZ (A ++ [y]) = numZ A ++ [.int .i64 y] := by simp
    rw [e, List.length_append, hlA]
    exact h2

/-- keyed's two lists -/
structure KS (w0 w : World) (v4 v5 : Value) (A C : List Int) : Prop where
  a : GOwnV 3 w w0.heap.size v4 (numZ A)
  c : GOwnV 3 w w0.heap.size v5 (numZ C)
  ap : Ap v4 v5
  bel : Below w0.heap.size w0 w
section
variable {w0 w w' : World} {v4 v5 : Value} {A C : List Int} {g m cap : Nat} {y : Int}
theorem KS.below (h : KS w0 w v4 v5 A C) (hb : Below w.heap.size w w') : KS w0 w' v4 v5 A C := ⟨h.a.below hb, h.c.below hb, h.ap, below_step h.bel hb⟩
theorem KS.push4 (h : KS w0 w v4 v5 A C) (ho : GOwnV 3 w' w0.heap.size (.slice (some ⟨g, 0, none⟩) m cap) (numZ (A ++ [y]))) (hg : w.grownBy w' v4.ownBlock) (hv : v4.ownBlock = some g ∨ g = w.heap.size) : KS w0 w' (.slice (some ⟨g, 0, none⟩) m cap) v5 (A ++ [y]) C :=
  ⟨ho, row_stay h.c hg (fun k e1 e2 => h.ap k e2 e1), (Ap.grown h.ap.symm h.c hv m cap).symm, h.bel.grown hg h.bel.size fun k hk => (World.ownsRow.lt h.a k hk).1⟩
theorem KS.push5 (h : KS w0 w v4 v5 A C) (ho : GOwnV 3 w' w0.heap.size (.slice (some ⟨g, 0, none⟩) m cap) (numZ (C ++ [y]))) (hg : w.grownBy w' v5.ownBlock) (hv : v5.ownBlock = some g ∨ g = w.heap.size) : KS w0 w' v4 (.slice (some ⟨g, 0, none⟩) m cap) A (C ++ [y]) :=
  ⟨row_stay h.a hg (fun k e1 e2 => h.ap k e1 e2), ho, Ap.grown h.ap h.a hv m cap, h.bel.grown hg h.bel.size fun k hk => (World.ownsRow.lt h.c k hk).1⟩
theorem KS.sl4 (h : KS w0 w v4 v5 A C) : ∃ p c, v4 = .slice p A.length c ∧ GRow w p (numZ A) := by
  obtain ⟨p, c, e, hr, -, -⟩ := h.a.slice
  exact ⟨p, c, by rw [e]; simp, hr⟩
end
theorem GRow.num {w : World} {p : Option Addr} {zs : List Int} (h : GRow w p (numZ zs)) (h0 : 0 < zs.length) : ∃ b o, p = some ⟨b, o, none⟩ ∧ ∀ i, i < zs.length → w.cell? ⟨b, o + i, none⟩ = some (.int .i64 (zs.getD i 0)) := by
  obtain ⟨b, o, e, hc⟩ := h (by simpa using h0)
  exact ⟨b, o, e, fun i hi => by rw [hc i (by simpa using hi), numZ_at zs i hi]⟩
theorem kdS_new {l : List Int} {i : Nat} (h : lastI (kdS l i).1 (pickZ (l.getD i 0) 4 : Nat) (kdS l i).1.length < 0) : kdS l (i + 1) = ((kdS l i).1 ++ [((pickZ (l.getD i 0) 4 : Nat) : Int)], (kdS l i).2 ++ [((kdS l i).1.length : Int)]) := by
  rw [kdS, if_pos h]
theorem kdS_old {l : List Int} {i : Nat} (h : ¬ lastI (kdS l i).1 (pickZ (l.getD i 0) 4 : Nat) (kdS l i).1.length < 0) : kdS l (i + 1) = ((kdS l i).1, (kdS l i).2 ++ [lastI (kdS l i).1 (pickZ (l.getD i 0) 4 : Nat) (kdS l i).1.length]) := by
  rw [kdS, if_neg h]
set_option maxHeartbeats 1600000 in
theorem keyed_any (p : Option Addr) (n c : Nat) (l : List Int) (w : World) (hl : l.length = n) (hn : n ≤ 24) (hr : GRow w p (numZ l)) :
    Calls Tryz.prog 67 #[.slice p n c] w fun e w' => ∃ v, e = .returned (.tuple #[v, .int .i64 (kdS l n).1.length]) ∧ GOwnV 3 w' w.heap.size v (numZ (kdS l n).2) ∧ Below w.heap.size w w' := by
  have HR := Hid.in hr
  have HL := Hid.in hl
  clear hr hl
  go_enter Tryz.func67, Tryz.ntmps67
  go_wp2
  go_loopw [4, 5, 6] (fun v4 v5 vi wr => ∃ i : Nat, i ≤ n ∧ vi = .int .i64 i ∧ KS w wr v4 v5 (kdS l i).1 (kdS l i).2) (fun _ _ vi _ => n - (intOf vi).toNat)
  case atStart => exact ⟨0, Nat.zero_le _, rfl, GOwnV.nil _ _ _, GOwnV.nil _ _ _, Ap.nilL _, Below.refl _ _⟩
  case round =>
    obtain ⟨i, hi, rfl, hk⟩ := hrel
    have HK := Hid.in hk
    clear hk
    by_cases hlt : i < n
    · obtain ⟨b, o, rfl, hc⟩ := HR.out.num (by rw [HL.out]; omega)
      have hci := hc i (by rw [HL.out]; exact hlt)
      have c1 : wr.cell? ⟨b, o + i, none⟩ = some (.int .i64 (l.getD i 0)) := (HK.out.bel.cell (p := ⟨b, o + i, none⟩) (cell_lt hci)).trans hci
      have hP : Calls Tryz.prog 32 #[.int .i64 (l.getD i 0), .int .i64 4] wr fun E w' => E = .returned (.int .i64 ((pickZ (l.getD i 0) 4 : Nat) : Int)) ∧ w' = wr := pick_any (l.getD i 0) 4 (by decide) (by decide) wr
      have HN := Hid.in (@kdS_new l i)
      have HD := Hid.in (@kdS_old l i)
      have HKL := Hid.in (kdS_len l i)
      obtain ⟨p4, cc4, e4, hr4⟩ := HK.out.sl4
      subst e4
      have HR4 := Hid.in hr4
      have hAl : (kdS l i).1.length ≤ 24 := by have := HKL.out.2; omega
      have hbd := lastI_bd (kdS l i).1 (pickZ (l.getD i 0) 4 : Nat)
      clear hci hc hr4
      generalize l.getD i 0 = y at *
      generalize pickZ y 4 = k at *
      generalize kdS l i = s at *
      obtain ⟨A, C⟩ := s
      dsimp only at *
      go_wp2_with (go_at_call 32; refine Hid.out ?_)
      refine Lib.hid ?_
      (with_reducible refine hP.mono ?_)
      rintro e w1 ⟨rfl, rfl⟩
      clear hP c1
      go_wp2_with fail
      go_loopw [8, 9] (fun va vj wz => wz = w1 ∧ ∃ j : Nat, j ≤ A.length ∧ vj = .int .i64 j ∧ va = .int .i64 (lastI A k j)) (fun _ vj _ => A.length - (intOf vj).toNat)
      case atStart => exact ⟨rfl, 0, Nat.zero_le _, rfl, rfl⟩
      case round =>
        obtain ⟨rfl, j, hj, rfl, rfl⟩ := hrel
        by_cases hjl : j < A.length
        · obtain ⟨b4, o4, rfl, hc4⟩ := HR4.out.num (by omega)
          have c4 := hc4 j hjl
          have HI : Hid (lastI A k (j + 1) = if A.getD j 0 = k then (j : Int) else lastI A k j) := rfl
          clear hc4
          generalize A.getD j 0 = z at *
          by_cases hz : z = (k : Int)
          · have hzb : (z == (k : Int)) = true := by simpa using hz
            go_wp2_with fail
            go_roundw
            case rel => exact ⟨by first | rfl | trivial, j + 1, by omega, by go_num, by rw [HI.out, if_pos hz]⟩
            case measure => simp [intOf]; omega
          · have hzb : (z == (k : Int)) = false := by simpa using hz
            go_wp2_with fail
            go_roundw
            case rel => exact ⟨by first | rfl | trivial, j + 1, by omega, by go_num, by rw [HI.out, if_neg hz]⟩
            case measure => simp [intOf]; omega
        · obtain rfl : j = A.length := by omega
          have hb1 := hbd A.length
          generalize lastI A (k : Int) A.length = q at *
          by_cases hq : q < 0
          · have HS := Hid.in (HN.out hq)
            have HK1 := Hid.in (HK.out.below (new_alloc wr (.cells #[.int .i64 k] 3)))
            have hA1 : A.length ≤ 1048576 := by omega
            have hC1 : C.length ≤ 1048576 := by have := HKL.out.1; omega
            clear hbd HD HN
            have hC0 : (wr.alloc (.cells #[.int .i64 k] 3)).cell? ⟨wr.heap.size, 0, none⟩ = some (.int .i64 k) := (Blk.new wr 3 #[.int .i64 k]).cell 0
            go_wp2_with (at_builtin; refine gpush1 _ rfl _ _ rfl w.heap.size _ A rfl HK1.out.a ⟨wr.heap.size, 0, none⟩ k rfl hC0 rfl hA1 HK1.out.bel.size ?_; intro g2 c2 w2 ho2 hg2 hv2 hl2; have HK2 := Hid.in (HK1.out.push4 ho2 hg2 hv2); clear ho2 hg2 hv2 hl2; refine Hid.out ?_)
            refine Lib.hid ?_
            have HK3 := Hid.in (HK2.out.below (new_alloc w2 (.cells #[.int .i64 A.length] 3)))
            have hC3 : (w2.alloc (.cells #[.int .i64 A.length] 3)).cell? ⟨w2.heap.size, 0, none⟩ = some (.int .i64 A.length) := (Blk.new w2 3 #[.int .i64 A.length]).cell 0
            clear hC0 HK1
            go_wp2_with (at_builtin; refine gpush1 _ rfl _ _ rfl w.heap.size _ C rfl HK3.out.c ⟨w2.heap.size, 0, none⟩ A.length rfl hC3 rfl hC1 HK3.out.bel.size ?_; intro g4 c4 w4 ho4 hg4 hv4 hl4; have HK4 := Hid.in (HK3.out.push5 ho4 hg4 hv4); clear ho4 hg4 hv4 hl4)
            clear hC3 HK3
            go_roundw
            case rel => exact ⟨i + 1, by omega, by go_num, by rw [HS.out]; exact HK4.out⟩
            case measure => simp [intOf]; omega
          · have HS := Hid.in (HD.out (by omega))
            have HK3 := Hid.in (HK.out.below (new_alloc wr (.cells #[.int .i64 q] 3)))
            have hC1 : C.length ≤ 1048576 := by have := HKL.out.1; omega
            have hC3 : (wr.alloc (.cells #[.int .i64 q] 3)).cell? ⟨wr.heap.size, 0, none⟩ = some (.int .i64 q) := (Blk.new wr 3 #[.int .i64 q]).cell 0
            clear hbd HD HN
            go_wp2_with (at_builtin; refine gpush1 _ rfl _ _ rfl w.heap.size _ C rfl HK3.out.c ⟨wr.heap.size, 0, none⟩ q rfl hC3 rfl hC1 HK3.out.bel.size ?_; intro g4 c4 w4 ho4 hg4 hv4 hl4; have HK4 := Hid.in (HK3.out.push5 ho4 hg4 hv4); clear ho4 hg4 hv4 hl4)
            clear hC3 HK3
            go_roundw
            case rel => exact ⟨i + 1, by omega, by go_num, by rw [HS.out]; exact HK4.out⟩
            case measure => simp [intOf]; omega
    · obtain rfl : i = n := by omega
      obtain ⟨p4, cc4, e4, -⟩ := HK.out.sl4
      subst e4
      go_wp2_with fail
      go_ret2
      exact ⟨_, rfl, HK.out.c, HK.out.bel⟩
end Go.Proofs.YtnpaijbkhmnfpaaGreat

/- Rows of elements of three cells (symbols, fixes, marks); what an object is made of, as lists. -/
namespace Go.Proofs.YtnpaijbkhmnfpaaGreat
open Go.RowKit

abbrev V3 : Type := Value × Value × Value
def l3 (q : V3) : List Value := [q.1, q.2.1, q.2.2]
/-- the cells of a list of such elements -/
def c3 (L : List V3) : List Value := L.flatMap l3
theorem c3_len (L : List V3) : (c3 L).length = L.length * 3 := by
  induction L with
  | nil => rfl
  | cons q L ih =>
    unfold c3 at *
    rw [List.flatMap_cons, List.length_append, ih, List.length_cons]
    have : (l3 q).length = 3 := rfl
    omega
theorem c3_two (L M : List V3) : c3 (L ++ M) = c3 L ++ c3 M := by simp [c3]
theorem c3_at : ∀ (L : List V3) (i : Nat) (h : i < L.length) (j : Nat), j < 3 → (c3 L)[i * 3 + j]? = (l3 L[i])[j]?
  | [], i, h, _, _ => absurd h (by simp)
  | q :: L, 0, _, j, hj => by
    unfold c3
    rw [List.flatMap_cons, Nat.zero_mul, Nat.zero_add, List.getElem?_append_left (by show j < 3; exact hj)]
    rfl
  | q :: L, i + 1, h, j, hj => by
    have h' : i < L.length := by simpa using h
    have ih := c3_at L i h' j hj
    unfold c3 at *
    have h3 : (l3 q).length = 3 := rfl
    rw [List.flatMap_cons, List.getElem?_append_right (by rw [h3]; omega), h3, show (i + 1) * 3 + j - 3 = i * 3 + j by omega, ih]
    rfl
/-- a list that the call has made, nil or not -/
def TOwn (T : TypeId) (w : World) (B : Nat) (v : Value) (L : List V3) : Prop := w.ownsRow B T 3 v L.length (c3 L)
theorem TOwn.nil (T : TypeId) (w : World) (B : Nat) : TOwn T w B (.slice none 0 0) [] := World.ownsRow_nil _ _ _ _
theorem TOwn.below {T : TypeId} {w w' : World} {B : Nat} {v : Value} {L : List V3} (h : TOwn T w B v L) (hb : Below w.heap.size w w') : TOwn T w' B v L := by
  obtain ⟨h0, h1⟩ := h
  refine ⟨h0, h1.imp id ?_⟩
  rintro ⟨g, cap, cur, e1, e2, e3, e4⟩
  exact ⟨g, cap, cur, e1, e2, (hb.block g (Array.getElem?_eq_some_iff.1 e3).1).trans e3, e4⟩
theorem TOwn.alloc {T : TypeId} {w : World} {B : Nat} {v : Value} {L : List V3} (h : TOwn T w B v L) (o : Obj) : TOwn T (w.alloc o) B v L := h.below (new_alloc w o)
theorem TOwn.drewN {T : TypeId} {w : World} {B : Nat} {v : Value} {L : List V3} (h : TOwn T w B v L) (n : Nat) : TOwn T (w.drewN n) B v L := h
theorem TOwn.shape {T : TypeId} {w : World} {B : Nat} {v : Value} {L : List V3} (h : TOwn T w B v L) : ∃ p cap, v = .slice p L.length cap ∧ L.length ≤ cap ∧ cap ≤ maxLen ∧ (0 < L.length → ∃ g, p = some ⟨g, 0, none⟩ ∧ B ≤ g ∧ g < w.heap.size ∧ ∀ i (hi : i < L.length) j, j < 3 → w.cell? ⟨g, i * 3 + j, none⟩ = (l3 L[i])[j]?) := by
  rcases h.2 with ⟨e1, e2⟩ | ⟨g, cap, cur, e1, e2, e3, e4, e5, _⟩
  · exact ⟨none, 0, by rw [e1, e2], by omega, Nat.zero_le _, fun h0 => by omega⟩
  · refine ⟨_, cap, e1, e4, e5, fun _ => ⟨g, rfl, e2, (Array.getElem?_eq_some_iff.1 e3).1, fun i hi j hj => ?_⟩⟩
    have hr : w.ownsRow B T 3 v L.length (c3 L) := h
    rw [e1] at hr
    rw [hr.cellAt (i * 3 + j) (by omega), c3_at L i hi j hj]
def Elem3 (t T : TypeId) (by_ : Nat) : Prop := Tryz.prog.underlying t = some (.slice T) ∧ ∃ z, z.cells.size = 3 ∧ (Tryz.prog.info? T).map (fun i => (i.zero, i.size, i.bytes)) = some (some z, 3, by_)
theorem Tryz.elemSite : Elem3 81 86 24 := ⟨Tryz.underlying81, .agg #[.int .i64 0, .int .i64 0, .int .i64 0], rfl, by kernel_rfl⟩
def one3 (q : V3) : Prop := q.1.oneCell' = true ∧ q.2.1.oneCell' = true ∧ q.2.2.oneCell' = true
theorem one3_mem {q : V3} (h : one3 q) : ∀ u ∈ l3 q, u.oneCell' = true := by
  intro u hu
  simp only [l3, List.mem_cons, List.not_mem_nil, or_false] at hu
  rcases hu with rfl | rfl | rfl
  · exact h.1
  · exact h.2.1
  · exact h.2.2
theorem news3 (w : World) (q : V3) (T : TypeId) : ∀ j u, (l3 q)[j]? = some u → (w.alloc (.cells #[q.1, q.2.1, q.2.2] T)).cell? ((⟨w.heap.size, 0, none⟩ : Addr).add j) = some u := by
  intro j u hj
  rw [Go.WideShapes.add_plain]
  match j, hj with
  | 0, hj => simpa [l3] using hj
  | 1, hj => simpa [l3] using hj
  | 2, hj => simpa [l3] using hj
  | j + 3, hj => simp [l3] at hj

/-- 'append(l, x)' -/
theorem tpush {ops : Array Oper} {rest : List Oper} {o : Oper} {a : Act} {Q : Exit → Act → World → Prop} {t T : TypeId} {by_ : Nat} (he : Elem3 t T by_) (w : World) (hgd : o.guard = none) (s x : Operand)
    (ho : o.op = .call { callee := .builtin .append, args := #[s, x], argTypes := #[t, t] }) (B : Nat) (v : Value) (L : List V3) (hs : a.eval s = v) (hown : TOwn T w B v L)
    (ad : Addr) (c : Nat) (q : V3) (hq : one3 q) (hx : a.eval x = .slice (some ad) 1 c) (hnews : ∀ j u, (l3 q)[j]? = some u → w.cell? (ad.add j) = some u)
    (hlen : L.length ≤ 1048576) (hby : by_ ≤ 100) (hB : B ≤ w.heap.size)
    (h : ∀ v' w', TOwn T w' B v' (L ++ [q]) → w.grownBy w' v.ownBlock → (∀ w0, Below B w0 w → Below B w0 w') → wpList Tryz.prog ops Q rest (a.put o.dst v') w') :
    wpList Tryz.prog ops Q (o :: rest) a w := by
  obtain ⟨hu, z, hzc, hinfo⟩ := he
  obtain ⟨i0, hi, hz0, hz1, hz2⟩ := info_parts hinfo
  refine wpList_append_own w hgd s x t ho B T i0 z 3 by_ hu hi hz0 hz1 hz2 hzc (by decide) v L.length (c3 L) hs hown ad 1 c (l3 q) hx rfl hnews (one3_mem hq) (by unfold maxLen; omega) (Nat.le_trans (Nat.mul_le_mul (show L.length + 1 ≤ 1048577 by omega) hby) (by decide)) hB ?_
  intro v' w' h2 h3 _
  refine h v' w' ?_ h3 (fun w0 hb => hb.grown h3 hB fun k hk => (World.ownsRow.lt hown k hk).1)
  unfold TOwn
  rw [List.length_append, c3_two]
  have e : c3 [q] = l3 q := by simp [c3]
  rw [e]
  exact h2
/-- .. in a region that draws -/
theorem step_tpush {ops : Array Oper} {o : Oper} {a : Act} {K : Act → World → Prop} {Q : Exit → Act → World → Prop} {E : Prop} {t T : TypeId} {by_ : Nat} (he : Elem3 t T by_) (w : World) (hgd : o.guard = none) (s x : Operand)
    (ho : o.op = .call { callee := .builtin .append, args := #[s, x], argTypes := #[t, t] }) (B : Nat) (v : Value) (L : List V3) (hs : a.eval s = v) (hown : TOwn T w B v L)
    (ad : Addr) (c : Nat) (q : V3) (hq : one3 q) (hx : a.eval x = .slice (some ad) 1 c) (hnews : ∀ j u, (l3 q)[j]? = some u → w.cell? (ad.add j) = some u)
    (hlen : L.length ≤ 1048576) (hby : by_ ≤ 100) (hB : B ≤ w.heap.size)
    (h : ∀ g cap w', TOwn T w' B (.slice (some ⟨g, 0, none⟩) (L.length + 1) cap) (L ++ [q]) → w.grownBy w' v.ownBlock → (∀ w0, Below B w0 w → Below B w0 w') → K (a.put o.dst (.slice (some ⟨g, 0, none⟩) (L.length + 1) cap)) w') :
    if Region.wanted o (yielded ops a.tmps) = true then Oper.wp Tryz.prog o a w K Q else E := by
  obtain ⟨hu, z, hzc, hinfo⟩ := he
  obtain ⟨i0, hi, hz0, hz1, hz2⟩ := info_parts hinfo
  refine step_append_lies w hgd s x t ho B T i0 z 3 by_ hu hi hz0 hz1 hz2 hzc (by decide) v L.length (c3 L) hs hown ad 1 c (l3 q) hx rfl hnews (one3_mem hq) (by decide) (by unfold maxLen; omega) (Nat.le_trans (Nat.mul_le_mul (show L.length + 1 ≤ 1048577 by omega) hby) (by decide)) hB w.heap.size rfl ?_
  intro g cap w' h2 h3 _ _
  refine h g cap w' ?_ h3 (fun w0 hb => hb.grown h3 hB fun k hk => (World.ownsRow.lt hown k hk).1)
  unfold TOwn
  rw [List.length_append, c3_two]
  have e : c3 [q] = l3 q := by simp [c3]
  rw [e]
  exact h2

end Go.Proofs.YtnpaijbkhmnfpaaGreat

/- Ours: sites sorted (switchyardmade.sorted). -/
namespace Go.Proofs.YtnpaijbkhmnfpaaGreat
open Go.RowKit

def z3V (q : Z3) : V3 := (.int .i64 q.1, .int .i64 q.2.1, .int .i64 q.2.2)
theorem z3V_one (q : Z3) : one3 (z3V q) := ⟨rfl, rfl, rfl⟩
def set3 (w : World) (g i : Nat) (q : V3) : World := ((w.setCell ⟨g, i * 3, none⟩ q.1).setCell ⟨g, i * 3 + 1, none⟩ q.2.1).setCell ⟨g, i * 3 + 2, none⟩ q.2.2
theorem c3_set3 : ∀ (L : List V3) (i : Nat) (q : V3), i < L.length → (((c3 L).set (i * 3) q.1).set (i * 3 + 1) q.2.1).set (i * 3 + 2) q.2.2 = c3 (L.set i q)
  | x :: L, 0, q, _ => by
    show (((l3 x ++ c3 L).set (0 * 3) q.1).set (0 * 3 + 1) q.2.1).set (0 * 3 + 2) q.2.2 = l3 q ++ c3 L
    rfl
  | x :: L, i + 1, q, h => by
    have ih := c3_set3 L i q (by simpa using h)
    have h3 : (l3 x).length = 3 := rfl
    show (((l3 x ++ c3 L).set ((i + 1) * 3) q.1).set ((i + 1) * 3 + 1) q.2.1).set ((i + 1) * 3 + 2) q.2.2 = l3 x ++ c3 (L.set i q)
    rw [List.set_append_right _ _ (by rw [h3]; omega), List.set_append_right _ _ (by rw [h3]; omega), List.set_append_right _ _ (by rw [h3]; omega), h3, show (i + 1) * 3 - 3 = i * 3 by omega, show (i + 1) * 3 + 1 - 3 = i * 3 + 1 by omega, show (i + 1) * 3 + 2 - 3 = i * 3 + 2 by omega, ih]
theorem grown_two {a b c : World} {r : Option Nat} (h1 : a.grownBy b r) (h2 : b.grownBy c r) : a.grownBy c r :=
  ⟨h2.os.trans h1.os, h2.tape.trans h1.tape, h2.output.trans h1.output, Nat.le_trans h1.size h2.size, fun i hi hn => (h2.block i (Nat.lt_of_lt_of_le hi h1.size) hn).trans (h1.block i hi hn)⟩
theorem TOwn.set3 {T : TypeId} {w : World} {B g n c : Nat} {L : List V3} (h : TOwn T w B (.slice (some ⟨g, 0, none⟩) n c) L) {x : Nat} (hx : x < L.length) (q : V3) : TOwn T (Go.Proofs.YtnpaijbkhmnfpaaGreat.set3 w g x q) B (.slice (some ⟨g, 0, none⟩) n c) (L.set x q) ∧ w.grownBy (Go.Proofs.YtnpaijbkhmnfpaaGreat.set3 w g x q) (some g) := by
  have h0 : w.ownsRow B T 3 (.slice (some ⟨g, 0, none⟩) n c) L.length (c3 L) := h
  have hn : n = L.length := by
    obtain ⟨p, cc, e, -⟩ := h.shape
    injection e
  subst hn
  have h1 := World.ownsRow.stored h0 (x * 3) q.1
  have h2 := World.ownsRow.stored h1.1 (x * 3 + 1) q.2.1
  have h3 := World.ownsRow.stored h2.1 (x * 3 + 2) q.2.2
  have hg : w.grownBy (Go.Proofs.YtnpaijbkhmnfpaaGreat.set3 w g x q) (some g) := grown_two (grown_two h1.2 h2.2) h3.2
  have h4 := h3.1
  rw [c3_set3 _ x _ hx] at h4
  refine ⟨?_, hg⟩
  unfold TOwn
  rw [List.length_set]
  exact h4
/-- how a list of sites lies -/
def TRow (w : World) (p : Option Addr) (L : List Z3) : Prop := 0 < L.length → ∃ b o, p = some ⟨b, o, none⟩ ∧ ∀ i, i < L.length → w.cell? ⟨b, o + i * 3, none⟩ = some (.int .i64 (L.getD i (0, 0, 0)).1) ∧ w.cell? ⟨b, o + i * 3 + 1, none⟩ = some (.int .i64 (L.getD i (0, 0, 0)).2.1) ∧ w.cell? ⟨b, o + i * 3 + 2, none⟩ = some (.int .i64 (L.getD i (0, 0, 0)).2.2)
theorem TOwn.cells {T : TypeId} {w : World} {B g n c : Nat} {L : List Z3} (h : TOwn T w B (.slice (some ⟨g, 0, none⟩) n c) (L.map z3V)) (i : Nat) (hi : i < L.length) : w.cell? ⟨g, i * 3, none⟩ = some (.int .i64 (L.getD i (0, 0, 0)).1) ∧ w.cell? ⟨g, i * 3 + 1, none⟩ = some (.int .i64 (L.getD i (0, 0, 0)).2.1) ∧ w.cell? ⟨g, i * 3 + 2, none⟩ = some (.int .i64 (L.getD i (0, 0, 0)).2.2) := by
  obtain ⟨p, cap, e, -, -, hs⟩ := h.shape
  obtain ⟨g', e', -, -, hc⟩ := hs (by rw [List.length_map]; omega)
  have e1 : some (⟨g, 0, none⟩ : Addr) = p := by injection e
  rw [← e1] at e'
  have e2 : g = g' := by injection e' with e'; injection e'
  subst e2
  have hi' : i < (L.map z3V).length := by rw [List.length_map]; exact hi
  have hz : L.getD i (0, 0, 0) = L[i] := by simp [List.getD, List.getElem?_eq_getElem hi]
  rw [hz]
  have h0 := hc i hi' 0 (by decide)
  have h1 := hc i hi' 1 (by decide)
  have h2 := hc i hi' 2 (by decide)
  rw [List.getElem_map] at h0 h1 h2
  exact ⟨h0, h1, h2⟩
theorem TOwn.freeAt {T : TypeId} {w : World} {B g n c : Nat} {L : List V3} (h : TOwn T w B (.slice (some ⟨g, 0, none⟩) n c) L) (i : Nat) : w.frozen? ⟨g, i, none⟩ = false := by
  have h0 : w.ownsRow B T 3 (.slice (some ⟨g, 0, none⟩) n c) L.length (c3 L) := h
  have hn : n = L.length := by
    obtain ⟨p, cc, e, -⟩ := h.shape
    injection e
  subst hn
  exact World.ownsRow.frozenAt h0 i
theorem TOwn.trow {T : TypeId} {w : World} {B : Nat} {v : Value} {L : List Z3} (h : TOwn T w B v (L.map z3V)) : ∃ p c, v = .slice p L.length c ∧ TRow w p L := by
  obtain ⟨p, cap, e, -, -, hs⟩ := h.shape
  rw [List.length_map] at e
  refine ⟨p, cap, e, fun h0 => ?_⟩
  obtain ⟨g, rfl, -, -, -⟩ := hs (by rw [List.length_map]; exact h0)
  subst e
  exact ⟨g, 0, rfl, fun i hi => by
    have := h.cells i hi
    simpa using this⟩
theorem posZ_down {L : List Z3} {x : Z3} {p : Nat} (h : gtZ (L.getD p (0, 0, 0)) x = true) : posZ L x (p + 1) = posZ L x p := by rw [posZ, if_pos h]
theorem posZ_stop {L : List Z3} {x : Z3} {p : Nat} (h : gtZ (L.getD p (0, 0, 0)) x = false) : posZ L x (p + 1) = p + 1 := by rw [posZ, if_neg (by rw [h]; decide)]
theorem shZ_getD {A : List Z3} {s : Z3} {x : Nat} (h : x < A.length) : (shZ A s (x + 1)).getD x (0, 0, 0) = A.getD x (0, 0, 0) := by
  simp [List.getD, shZ_get h, List.getElem?_eq_getElem h]

theorem shZ_step' {A : List Z3} {s : Z3} {x : Nat} (h : x < A.length) : (shZ A s (x + 1)).set (x + 1) (A.getD x (0, 0, 0)) = shZ A s x := by
  have e : A.getD x (0, 0, 0) = A[x] := by simp [List.getD, List.getElem?_eq_getElem h]
  rw [e, shZ_step h]

set_option maxHeartbeats 4000000 in
set_option maxRecDepth 20000 in
theorem sortedP_any (p : Option Addr) (n c : Nat) (l : List Z3) (w : World) (hl : l.length = n) (hn : n ≤ 24) (hr : TRow w p l) :
    Calls Tryz.prog 68 #[.slice p n c] w fun e w' => ∃ v, e = .returned v ∧ TOwn 86 w' w.heap.size v ((sortZ l n).map z3V) ∧ Below w.heap.size w w' := by
  have HR := Hid.in hr
  have HL := Hid.in hl
  clear hr hl
  go_enter Tryz.func68, Tryz.ntmps68
  go_wp2
  go_loopw [3, 4] (fun v3 vi wr => ∃ i : Nat, i ≤ n ∧ vi = .int .i64 i ∧ TOwn 86 wr w.heap.size v3 ((sortZ l i).map z3V) ∧ Below w.heap.size w wr) (fun _ vi _ => n - (intOf vi).toNat)
  case atStart => exact ⟨0, Nat.zero_le _, rfl, TOwn.nil _ _ _, Below.refl _ _⟩
  case round =>
    obtain ⟨i, hi, rfl, ho, hb⟩ := hrel
    have HO := Hid.in ho
    have HB := Hid.in hb
    obtain ⟨p3, cc3, e3, -⟩ := ho.trow
    rw [sortZ_len] at e3
    subst e3
    clear ho hb
    by_cases hlt : i < n
    · obtain ⟨b, o, rfl, hc⟩ := HR.out (by rw [HL.out]; omega)
      obtain ⟨q0, q1, q2⟩ := hc i (by rw [HL.out]; exact hlt)
      have c0 : wr.cell? ⟨b, o + i * 3, none⟩ = _ := (HB.out.cell (p := ⟨b, o + i * 3, none⟩) (cell_lt q0)).trans q0
      have c1 : wr.cell? ⟨b, o + i * 3 + 1, none⟩ = _ := (HB.out.cell (p := ⟨b, o + i * 3 + 1, none⟩) (cell_lt q1)).trans q1
      have c2 : wr.cell? ⟨b, o + i * 3 + 2, none⟩ = _ := (HB.out.cell (p := ⟨b, o + i * 3 + 2, none⟩) (cell_lt q2)).trans q2
      have HQ : Hid (w.cell? ⟨b, o + i * 3, none⟩ = some (.int .i64 (l.getD i (0, 0, 0)).1) ∧ w.cell? ⟨b, o + i * 3 + 1, none⟩ = some (.int .i64 (l.getD i (0, 0, 0)).2.1)) := ⟨q0, q1⟩
      have HS : Hid (sortZ l (i + 1) = insZ (sortZ l i) (l.getD i (0, 0, 0))) := rfl
      have HLn := Hid.in (sortZ_len l i)
      have HQ2 := Hid.in q2
      clear q0 q1 q2 hc
      generalize l.getD i (0, 0, 0) = x at *
      generalize sortZ l i = A at *
      obtain ⟨xk, xa, xt⟩ := x
      dsimp only at c0 c1 c2 HQ HQ2
      have HN0 := Hid.in (HO.out.alloc (.cells #[.int .i64 xk, .int .i64 xa, .int .i64 xt] 86))
      have hA1 : (A.map z3V).length ≤ 1048576 := by rw [List.length_map, HLn.out]; omega
      have HB0 := Hid.in (below_alloc HB.out (.cells #[.int .i64 xk, .int .i64 xa, .int .i64 xt] 86))
      go_wp2_with (at_builtin; refine tpush Tryz.elemSite _ rfl _ _ rfl w.heap.size _ (A.map z3V) rfl HN0.out ⟨wr.heap.size, 0, none⟩ 1 (z3V (xk, xa, xt)) (z3V_one _) rfl (news3 wr (z3V (xk, xa, xt)) 86) hA1 (by decide) HB0.out.size ?_; intro v2 w2 ho2 hg2 hb2; refine Hid.out ?_)
      refine Lib.hid ?_
      obtain ⟨p2, cc2, e2, -, -, hs2⟩ := ho2.shape
      obtain ⟨g2, rfl, -, -, -⟩ := hs2 (by simp)
      rw [List.length_append, List.length_map, HLn.out, List.length_singleton] at e2
      subst e2
      have hA2 : (A.map z3V ++ [z3V (xk, xa, xt)]) = (shZ A (xk, xa, xt) i).map z3V := by rw [← HLn.out, shZ_start, List.map_append]; rfl
      rw [hA2] at ho2
      have HO2 := Hid.in ho2
      have HB2 := Hid.in (hb2 w HB0.out)
      clear ho2 hg2 hb2 hs2 hA2 HN0 HB0 c0 c1 c2 hA1 HO HB
      go_wp2_with fail
      go_loopw [5] (fun va wz => ∃ q : Nat, q ≤ i ∧ va = .int .i64 q ∧ TOwn 86 wz w.heap.size (.slice (some ⟨g2, 0, none⟩) (i + 1) cc2) ((shZ A (xk, xa, xt) q).map z3V) ∧ Below w.heap.size w wz ∧ posZ A (xk, xa, xt) A.length = posZ A (xk, xa, xt) q) (fun va _ => (intOf va).toNat)
      case atStart => exact ⟨i, Nat.le_refl _, rfl, HO2.out, HB2.out, by rw [HLn.out]⟩
      case round =>
        obtain ⟨q, hq, rfl, ho3, hb3, hp3⟩ := hrel
        have HO3 := Hid.in ho3
        have HB3 := Hid.in hb3
        have HP3 := Hid.in hp3
        have x0 : wr.cell? ⟨b, o + i * 3, none⟩ = some (.int .i64 xk) := (HB3.out.cell (p := ⟨b, o + i * 3, none⟩) (cell_lt HQ.out.1)).trans HQ.out.1
        have x1 : wr.cell? ⟨b, o + i * 3 + 1, none⟩ = some (.int .i64 xa) := (HB3.out.cell (p := ⟨b, o + i * 3 + 1, none⟩) (cell_lt HQ.out.2)).trans HQ.out.2
        clear ho3 hb3 hp3
        rcases q with _ | y
        · have hg0 : decide ((0 : Int) < ((0 : Nat) : Int)) = false := by simp
          go_wp2_with fail
          go_quiet (fail)
          have HW := Hid.in (HO3.out.drewN nq)
          have HBW := Hid.in (below_draws HB3.out nq)
          have f0 := HO3.out.freeAt (0 * 3)
          have f1 := HO3.out.freeAt (0 * 3 + 1)
          have f2 := HO3.out.freeAt (0 * 3 + 2)
          obtain ⟨n0, n1, n2⟩ := HO3.out.cells (0) (by rw [shZ_len (by rw [HLn.out]; exact hq)]; have := HLn.out; omega)
          have x2 : wr.cell? ⟨b, o + i * 3 + 2, none⟩ = some (.int .i64 xt) := (HB3.out.cell (p := ⟨b, o + i * 3 + 2, none⟩) (cell_lt HQ2.out)).trans HQ2.out
          generalize (shZ A (xk, xa, xt) (0)).getD (0) (0, 0, 0) = en at *
          go_wp2_with fail
          go_roundw
          case rel =>
            have hs := HW.out.set3 (x := 0) (by rw [List.length_map, shZ_len (by rw [HLn.out]; exact hq)]; have := HLn.out; omega) (z3V (xk, xa, xt))
            have he : ((shZ A (xk, xa, xt) (0)).map z3V).set (0) (z3V (xk, xa, xt)) = (insZ A (xk, xa, xt)).map z3V := by
              rw [← List.map_set, shZ_end (by rw [HLn.out]; exact hq), insZ, HP3.out, posZ]
            rw [he] at hs
            exact ⟨i + 1, by omega, by go_num, by rw [HS.out]; exact hs.1, HBW.out.grown hs.2 HBW.out.size (fun k hk => (World.ownsRow.lt HW.out k hk).1)⟩
          case measure => simp [intOf]; omega
        · obtain ⟨k0, k1, k2⟩ := HO3.out.cells y (by rw [shZ_len (by rw [HLn.out]; exact hq)]; have := HLn.out; omega)
          rw [shZ_getD (by rw [HLn.out]; omega)] at k0 k1 k2
          have HD := Hid.in (@posZ_down A (xk, xa, xt) y)
          have HT := Hid.in (@posZ_stop A (xk, xa, xt) y)
          have HE : Hid (A.getD y (0, 0, 0) = A.getD y (0, 0, 0)) := rfl
          generalize hey : A.getD y (0, 0, 0) = ey at k0 k1 k2 HD HT HE
          replace HE : Hid (A.getD y (0, 0, 0) = ey) := hey
          clear hey
          obtain ⟨yk, ya, yt⟩ := ey
          dsimp only at k0 k1 k2
          have hg0 : decide ((0 : Int) < ((y + 1 : Nat) : Int)) = true := by simp
          by_cases hgt : xk < yk
          · have HGT : Hid (gtZ (yk, ya, yt) (xk, xa, xt) = true) := by show gtZ _ _ = true; simp [gtZ, hgt]
            have d1 : decide (xk < yk) = true := by simpa using hgt
            go_wp2_with fail
            go_quiet (fail)
            have HW := Hid.in (HO3.out.drewN nq)
            have HBW := Hid.in (below_draws HB3.out nq)
            have f0 := HO3.out.freeAt ((y + 1) * 3)
            have f1 := HO3.out.freeAt ((y + 1) * 3 + 1)
            have f2 := HO3.out.freeAt ((y + 1) * 3 + 2)
            obtain ⟨n0, n1, n2⟩ := HO3.out.cells (y + 1) (by rw [shZ_len (by rw [HLn.out]; exact hq)]; have := HLn.out; omega)
            generalize (shZ A (xk, xa, xt) (y + 1)).getD (y + 1) (0, 0, 0) = en at *
            go_wp2_with fail
            go_roundw
            case rel =>
              have hs := HW.out.set3 (x := y + 1) (by rw [List.length_map, shZ_len (by rw [HLn.out]; exact hq)]; have := HLn.out; omega) (z3V (yk, ya, yt))
              have he : ((shZ A (xk, xa, xt) (y + 1)).map z3V).set (y + 1) (z3V (yk, ya, yt)) = (shZ A (xk, xa, xt) y).map z3V := by
                rw [← List.map_set, ← HE.out, shZ_step']
                rw [HLn.out]; omega
              rw [he] at hs
              exact ⟨y, by omega, by go_num, hs.1, HBW.out.grown hs.2 HBW.out.size (fun k hk => (World.ownsRow.lt HW.out k hk).1), by rw [HP3.out]; exact HD.out HGT.out⟩
            case measure => simp [intOf]
          · have d1 : decide (xk < yk) = false := by simpa using hgt
            by_cases heq : yk = xk
            · have d2 : (yk == xk) = true := by simpa using heq
              by_cases hat : xa < ya
              · have HGT : Hid (gtZ (yk, ya, yt) (xk, xa, xt) = true) := by show gtZ _ _ = true; simp [gtZ, heq, hat]
                have d3 : decide (xa < ya) = true := by simpa using hat
                have HEQ := Hid.in heq
                clear heq
                go_wp2_with fail
                go_quiet (fail)
                have HW := Hid.in (HO3.out.drewN nq)
                have HBW := Hid.in (below_draws HB3.out nq)
                have f0 := HO3.out.freeAt ((y + 1) * 3)
                have f1 := HO3.out.freeAt ((y + 1) * 3 + 1)
                have f2 := HO3.out.freeAt ((y + 1) * 3 + 2)
                obtain ⟨n0, n1, n2⟩ := HO3.out.cells (y + 1) (by rw [shZ_len (by rw [HLn.out]; exact hq)]; have := HLn.out; omega)
                generalize (shZ A (xk, xa, xt) (y + 1)).getD (y + 1) (0, 0, 0) = en at *
                go_wp2_with fail
                go_roundw
                case rel =>
                  have hs := HW.out.set3 (x := y + 1) (by rw [List.length_map, shZ_len (by rw [HLn.out]; exact hq)]; have := HLn.out; omega) (z3V (yk, ya, yt))
                  have he : ((shZ A (xk, xa, xt) (y + 1)).map z3V).set (y + 1) (z3V (yk, ya, yt)) = (shZ A (xk, xa, xt) y).map z3V := by
                    rw [← List.map_set, ← HE.out, shZ_step']
                    rw [HLn.out]; omega
                  rw [he] at hs
                  exact ⟨y, by omega, by go_num, hs.1, HBW.out.grown hs.2 HBW.out.size (fun k hk => (World.ownsRow.lt HW.out k hk).1), by rw [HP3.out]; exact HD.out HGT.out⟩
                case measure => simp [intOf]
              · have HNG : Hid (gtZ (yk, ya, yt) (xk, xa, xt) = false) := by show gtZ _ _ = false; simp [gtZ, heq, hat]
                have d3 : decide (xa < ya) = false := by simpa using hat
                have HEQ := Hid.in heq
                clear heq
                go_wp2_with fail
                go_quiet (fail)
                have HW := Hid.in (HO3.out.drewN nq)
                have HBW := Hid.in (below_draws HB3.out nq)
                have f0 := HO3.out.freeAt ((y + 1) * 3)
                have f1 := HO3.out.freeAt ((y + 1) * 3 + 1)
                have f2 := HO3.out.freeAt ((y + 1) * 3 + 2)
                obtain ⟨n0, n1, n2⟩ := HO3.out.cells (y + 1) (by rw [shZ_len (by rw [HLn.out]; exact hq)]; have := HLn.out; omega)
                have x2 : wr.cell? ⟨b, o + i * 3 + 2, none⟩ = some (.int .i64 xt) := (HB3.out.cell (p := ⟨b, o + i * 3 + 2, none⟩) (cell_lt HQ2.out)).trans HQ2.out
                generalize (shZ A (xk, xa, xt) (y + 1)).getD (y + 1) (0, 0, 0) = en at *
                go_wp2_with fail
                go_roundw
                case rel =>
                  have hs := HW.out.set3 (x := y + 1) (by rw [List.length_map, shZ_len (by rw [HLn.out]; exact hq)]; have := HLn.out; omega) (z3V (xk, xa, xt))
                  have he : ((shZ A (xk, xa, xt) (y + 1)).map z3V).set (y + 1) (z3V (xk, xa, xt)) = (insZ A (xk, xa, xt)).map z3V := by
                    rw [← List.map_set, shZ_end (by rw [HLn.out]; exact hq), insZ, HP3.out, HT.out HNG.out]
                  rw [he] at hs
                  exact ⟨i + 1, by omega, by go_num, by rw [HS.out]; exact hs.1, HBW.out.grown hs.2 HBW.out.size (fun k hk => (World.ownsRow.lt HW.out k hk).1)⟩
                case measure => simp [intOf]; omega
            · have HNG : Hid (gtZ (yk, ya, yt) (xk, xa, xt) = false) := by show gtZ _ _ = false; simp [gtZ, heq, hgt]
              have d2 : (yk == xk) = false := by simpa using heq
              go_wp2_with fail
              go_quiet (fail)
              have HW := Hid.in (HO3.out.drewN nq)
              have HBW := Hid.in (below_draws HB3.out nq)
              have f0 := HO3.out.freeAt ((y + 1) * 3)
              have f1 := HO3.out.freeAt ((y + 1) * 3 + 1)
              have f2 := HO3.out.freeAt ((y + 1) * 3 + 2)
              obtain ⟨n0, n1, n2⟩ := HO3.out.cells (y + 1) (by rw [shZ_len (by rw [HLn.out]; exact hq)]; have := HLn.out; omega)
              have x2 : wr.cell? ⟨b, o + i * 3 + 2, none⟩ = some (.int .i64 xt) := (HB3.out.cell (p := ⟨b, o + i * 3 + 2, none⟩) (cell_lt HQ2.out)).trans HQ2.out
              generalize (shZ A (xk, xa, xt) (y + 1)).getD (y + 1) (0, 0, 0) = en at *
              go_wp2_with fail
              go_roundw
              case rel =>
                have hs := HW.out.set3 (x := y + 1) (by rw [List.length_map, shZ_len (by rw [HLn.out]; exact hq)]; have := HLn.out; omega) (z3V (xk, xa, xt))
                have he : ((shZ A (xk, xa, xt) (y + 1)).map z3V).set (y + 1) (z3V (xk, xa, xt)) = (insZ A (xk, xa, xt)).map z3V := by
                  rw [← List.map_set, shZ_end (by rw [HLn.out]; exact hq), insZ, HP3.out, HT.out HNG.out]
                rw [he] at hs
                exact ⟨i + 1, by omega, by go_num, by rw [HS.out]; exact hs.1, HBW.out.grown hs.2 HBW.out.size (fun k hk => (World.ownsRow.lt HW.out k hk).1)⟩
              case measure => simp [intOf]; omega
    · obtain rfl : i = n := by omega
      go_wp2_with fail
      go_ret
      exact ⟨_, rfl, HO.out, HB.out⟩
end Go.Proofs.YtnpaijbkhmnfpaaGreat

/- Ours: Program's memory: what its loops carry; append of noughts. -/
namespace Go.Proofs.YtnpaijbkhmnfpaaGreat
open Go.RowKit

theorem zeros_list (m : Nat) : (Builtin.zeroCells (Value.int .u8 0).cells m).toList = byts (List.replicate m 0) := by
  apply List.ext_getElem?
  intro i
  have hs : (Value.int .u8 0).cells = #[Value.int .u8 0] := rfl
  rw [hs]
  simp only [Builtin.zeroCells, byts, List.map_replicate, Array.toList_map, Array.toList_range, List.getElem?_map, List.getElem?_replicate]
  by_cases h : i < m
  · rw [if_pos h]
    have h1 : i < m * 1 := by omega
    simp [h, Nat.mod_one]
  · rw [if_neg h]
    simp [Nat.le_of_not_lt h]
/-- 'append(b, make([]byte, m)...)' onto bytes that the call has made -/
theorem run_zeros {B g cap : Nat} {xs : List Int} (w : World) (h : Own w B g cap xs) (m : Nat) (h0 : 0 < m) (hm : m ≤ 1000) (hl : xs.length ≤ 1000) (hB : B ≤ w.heap.size) (ty : TypeId) :
    ∃ g' cap' w', (Builtin.append_ #[26, 3] ty #[.slice (some ⟨g, 0, none⟩) xs.length cap, .int .i64 m]).run Tryz.prog w = .ok (.slice (some ⟨g', 0, none⟩) (xs.length + m) cap') w' ∧ OwnV w' B (.slice (some ⟨g', 0, none⟩) (xs.length + m) cap') (xs ++ List.replicate m 0) ∧ w.grownBy w' (some g) := by
  obtain ⟨i0, hi, hz0, hz1, hz2⟩ := info_parts Tryz.info5
  obtain ⟨cur, hbg, hg, hnc, hcm, hcs, htake⟩ := h.parts
  have hu : Tryz.prog.underlying 26 = some (.slice 5) := Tryz.underlying26
  have hun : Tryz.prog.underlying 3 = some (.int .i64) := Tryz.underlying3
  have hw : IntKind.i64.wrap (m : Int) = m := by rw [IntKind.wrap_i64]; omega
  have hneg : ¬ ((m : Int) < 0) := by omega
  have h48 : ¬ (281474976710656 < (m : Int)) := by omega
  have hm0 : m ≠ 0 := by omega
  have hlen : (xs ++ List.replicate m 0).length = xs.length + m := by simp
  have e1 : byts (xs ++ List.replicate m 0) = byts xs ++ byts (List.replicate m 0) := by simp [byts]
  have e2 : (xs.length + m) * 1 = (byts xs ++ byts (List.replicate m 0)).length := by simp
  by_cases hroom : xs.length + m ≤ cap
  · have hst := run_storeCells_at Tryz.prog g xs.length 5 (byts (List.replicate m 0)) 0 cur w hg (by rw [hcs]; simp; omega) (fun u hu => by
      simp only [byts, List.mem_map] at hu
      obtain ⟨z, -, rfl⟩ := hu
      rfl)
    simp only [Nat.add_zero, byts, List.map_replicate, List.length_replicate, List.append_assoc] at hst
    have hrun : (Builtin.append_ #[26, 3] ty #[.slice (some ⟨g, 0, none⟩) xs.length cap, .int .i64 m]).run Tryz.prog w = .ok (.slice (some ⟨g, 0, none⟩) (xs.length + m) cap) (w.setRow g (cur.toList.take xs.length ++ byts (List.replicate m 0) ++ cur.toList.drop (xs.length + (byts (List.replicate m 0)).length)).toArray) := by
      simp [Builtin.append_, run_underlying hu, run_underlying hun, sizeOf, typeInfo, zeroValue, hi, hz0, hz1, hz2, hw, hneg, h48, hm0, hroom, Addr.add_lit, asInt, asIntOf, zeros_list, hst]
    refine ⟨g, cap, _, hrun, ?_, ⟨rfl, rfl, rfl, by simp, fun k _ hk => setRow_other w g k _ (fun e => hk (by rw [e]))⟩⟩
    unfold OwnV
    rw [hlen]
    refine ⟨by simp, .inr ⟨g, cap, _, rfl, hbg, setRow_heap w g cur _ 5 _ hg, hroom, hcm, ?_, ?_⟩⟩
    · simp only [List.size_toArray, List.length_append, List.length_take, List.length_drop, Array.length_toList, byts, List.length_map, List.length_replicate]
      omega
    · rw [htake, e1, e2]
      exact List.take_left
  · have hn : ¬ (xs.length + m ≤ cap) := hroom
    have h63' : ¬ (9223372036854775807 < ((xs.length : Int) + (m : Int))) := by omega
    have hnx : Builtin.nextslicecap (xs.length + m) cap ≤ 100000 := by
      unfold Builtin.nextslicecap
      split
      · omega
      · rename_i h1
        split
        · omega
        · simp only [Builtin.growBy]
          repeat' split
          all_goals omega
    have hge := grownCap_ge w (xs.length + m) cap 5
    have hcm' : grownCap w (xs.length + m) cap 5 ≤ maxLen := grownCap_le_maxLen w (xs.length + m) cap 5 (by unfold maxLen; omega)
    have hf := run_firstCells_some (P := Tryz.prog) w.drew 1 xs.length ⟨g, 0, none⟩ xs.length cap (byts xs) (by simp) (fun j u hj => by
      have hjl : j < xs.length := by simpa using (List.getElem?_eq_some_iff.1 hj).1
      rw [Go.WideShapes.add_plain, Nat.zero_add]
      have := h.cell j hjl
      rw [getD_byts xs j hjl] at hj
      rw [← hj]
      exact this)
    have hrun : (Builtin.append_ #[26, 3] ty #[.slice (some ⟨g, 0, none⟩) xs.length cap, .int .i64 m]).run Tryz.prog w = .ok (.slice (some ⟨w.heap.size, 0, none⟩) (xs.length + m) (grownCap w (xs.length + m) cap 5)) (w.drew.alloc (.cells ((byts xs).toArray ++ (Builtin.zeroCells (Value.int .u8 0).cells m) ++ Builtin.zeroCells (Value.int .u8 0).cells (grownCap w (xs.length + m) cap 5 - (xs.length + m))) 5)) := by
      simp [Builtin.append_, run_underlying hu, run_underlying hun, sizeOf, typeInfo, zeroValue, hi, hz0, hz1, hz2, hw, hneg, h48, hm0, hn, h63', Question.forced, hf, newRow, grownCap, asInt, asIntOf]
      exact fun hx => absurd hx (by omega)
    refine ⟨w.heap.size, _, _, hrun, ?_, ⟨rfl, rfl, rfl, by simp, fun k hk _ => heap_alloc_old w.drew _ hk⟩⟩
    unfold OwnV
    rw [hlen]
    refine ⟨by simp, .inr ⟨w.heap.size, _, _, rfl, hB, heap_alloc_new w.drew _, hge, hcm', ?_, ?_⟩⟩
    · simp only [Array.size_append, List.size_toArray, size_zeroCells, byts, List.length_map]
      show _ + m * 1 + _ * 1 = _
      omega
    · simp only [Array.toList_append, zeros_list]
      rw [e1, e2]
      exact List.take_left
theorem wp_zeros {ops : Array Oper} {rest : List Oper} {o : Oper} {a : Act} {Q : Exit → Act → World → Prop} (w : World) (hgd : o.guard = none) (s x : Operand)
    (ho : o.op = .call { callee := .builtin .append, args := #[s, x], argTypes := #[26, 3] }) (B g cap : Nat) (xs : List Int) (n m : Nat) (hn : xs.length = n) (hs : a.eval s = .slice (some ⟨g, 0, none⟩) n cap) (hown : Own w B g cap xs)
    (hx : a.eval x = .int .i64 m) (h0 : 0 < m) (hm : m ≤ 1000) (hl : xs.length ≤ 1000) (hB : B ≤ w.heap.size)
    (h : ∀ g' cap' w', OwnV w' B (.slice (some ⟨g', 0, none⟩) (n + m) cap') (xs ++ List.replicate m 0) → w.grownBy w' (some g) → wpList Tryz.prog ops Q rest (a.put o.dst (.slice (some ⟨g', 0, none⟩) (n + m) cap')) w') :
    wpList Tryz.prog ops Q (o :: rest) a w := by
  subst hn
  obtain ⟨g', cap', w', hr, h1, h2⟩ := run_zeros w hown m h0 hm hl hB o.type
  refine wpList_plain hgd fun _ hK => ?_
  unfold Oper.wp execOp
  simp only [ho, resolve, invoke, builtin, Sem.run_bind, Sem.run_pure, Result.andThen_ok, List.map_toArray, List.map_cons, List.map_nil, hs, hx, hr]
  exact hK _ _ (h g' cap' w' h1 h2)
/-- rows of unlike types lie apart -/
theorem rows_ap {T T' : TypeId} {z z' B B' n n' : Nat} {v v' : Value} {vs vs' : List Value} {w : World} (h : w.ownsRow B T z v n vs) (h' : w.ownsRow B' T' z' v' n' vs') (hT : T ≠ T') : ∀ g, v.ownBlock = some g → v'.ownBlock ≠ some g := fun g h1 h2 => by
  rcases h.2 with ⟨e1, _⟩ | ⟨a, cap, cur, e1, _, e3, _⟩
  · rw [e1] at h1; cases h1
  · rcases h'.2 with ⟨e1', _⟩ | ⟨a', cap', cur', e1', _, e3', _⟩
    · rw [e1'] at h2; cases h2
    · rw [e1] at h1
      rw [e1'] at h2
      have h1' : some a = some g := h1
      have h2' : some a' = some g := h2
      injection h1' with h1'
      injection h2' with h2'
      subst h1' h2'
      rw [e3] at e3'
      injection e3' with e3'
      injection e3' with _ e3' _
      exact hT e3'
theorem Blk.rowStay {T : TypeId} {z B n g : Nat} {v : Value} {vs : List Value} {w w' : World} {Tg : TypeId} {c : Array Value} (hb : Blk w g Tg c) (h : w.ownsRow B T z v n vs) (hg : w.grownBy w' v.ownBlock) (hlt : g < B) : Blk w' g Tg c :=
  hb.kept hg (fun e => by have := (World.ownsRow.lt h g e.symm).1; omega)
/-- Program's image and lists, behind wA: the units' block is made first, then the image's -/
structure PM (wA w : World) (vB vK v10 v11 : Value) (bs : List Int) (ss : List ByteArray) (S : List Z3) (ks : List Int) : Prop where
  mb : Blk w (wA.heap.size + 1) 83 #[vB, vK, .slice none 0 0, .slice (some ⟨wA.heap.size, 0, none⟩) 1 1]
  un : Blk w wA.heap.size 3 #[.int .i64 0]
  by_ : OwnV w (wA.heap.size + 2) vB bs
  kk : GOwnV 9 w (wA.heap.size + 2) vK (ss.map Value.string)
  st : TOwn 86 w (wA.heap.size + 2) v10 (S.map z3V)
  ky : GOwnV 3 w (wA.heap.size + 2) v11 (numZ ks)
  bel : Below wA.heap.size wA w
section
variable {wA w w' : World} {vB vK v10 v11 v' : Value} {bs bs' : List Int} {ss ss' : List ByteArray} {S S' : List Z3} {ks ks' : List Int}
theorem PM.below (h : PM wA w vB vK v10 v11 bs ss S ks) (hb : Below w.heap.size w w') : PM wA w' vB vK v10 v11 bs ss S ks :=
  ⟨h.mb.grow hb, h.un.grow hb, h.by_.below hb, h.kk.below hb, h.st.below hb, h.ky.below hb, below_step h.bel hb⟩
theorem PM.size (h : PM wA w vB vK v10 v11 bs ss S ks) : wA.heap.size + 2 ≤ w.heap.size := h.mb.lt
/-- bytes are appended -/
theorem PM.bytes (h : PM wA w vB vK v10 v11 bs ss S ks) (ho : OwnV w' (wA.heap.size + 2) v' bs') (hg : w.grownBy w' vB.ownBlock) : PM wA (w'.setCell ⟨wA.heap.size + 1, 0, none⟩ v') v' vK v10 v11 bs' ss S ks := by
  have hm := h.mb.rowStay h.by_ hg (by omega)
  have hu := h.un.rowStay h.by_ hg (by omega)
  have hs := grown_setCell w' (wA.heap.size + 1) 0 v'
  have far : ∀ {T : TypeId} {z n : Nat} {v : Value} {vs : List Value}, w'.ownsRow (wA.heap.size + 2) T z v n vs → ∀ g, v.ownBlock = some g → some (wA.heap.size + 1) ≠ some g := fun hr g e e' => by
    have := (World.ownsRow.lt hr g e).1
    injection e' with e'
    omega
  have k1 : GOwnV 9 w' (wA.heap.size + 2) vK (ss.map Value.string) := row_stay h.kk hg (fun g e => rows_ap h.kk h.by_ (by decide) g e)
  have k2 : TOwn 86 w' (wA.heap.size + 2) v10 (S.map z3V) := row_stay h.st hg (fun g e => rows_ap h.st h.by_ (by decide) g e)
  have k3 : GOwnV 3 w' (wA.heap.size + 2) v11 (numZ ks) := row_stay h.ky hg (fun g e => rows_ap h.ky h.by_ (by decide) g e)
  exact ⟨hm.set 0 v', hu.other (by omega) 0 v', row_stay ho hs (far ho), row_stay k1 hs (far k1), row_stay k2 hs (far k2), row_stay k3 hs (far k3),
    (h.bel.grown hg h.bel.size fun k hk => by have := (World.ownsRow.lt h.by_ k hk).1; omega).grown hs (Nat.le_trans h.bel.size hg.size) fun k hk => by injection hk with hk; omega⟩
/-- a key's text is appended -/
theorem PM.text (h : PM wA w vB vK v10 v11 bs ss S ks) (ho : GOwnV 9 w' (wA.heap.size + 2) v' (ss'.map Value.string)) (hg : w.grownBy w' vK.ownBlock) : PM wA (w'.setCell ⟨wA.heap.size + 1, 1, none⟩ v') vB v' v10 v11 bs ss' S ks := by
  have hm := h.mb.rowStay h.kk hg (by omega)
  have hu := h.un.rowStay h.kk hg (by omega)
  have hs := grown_setCell w' (wA.heap.size + 1) 1 v'
  have far : ∀ {T : TypeId} {z n : Nat} {v : Value} {vs : List Value}, w'.ownsRow (wA.heap.size + 2) T z v n vs → ∀ g, v.ownBlock = some g → some (wA.heap.size + 1) ≠ some g := fun hr g e e' => by
    have := (World.ownsRow.lt hr g e).1
    injection e' with e'
    omega
  have k1 : OwnV w' (wA.heap.size + 2) vB bs := row_stay h.by_ hg (fun g e => rows_ap h.by_ h.kk (by decide) g e)
  have k2 : TOwn 86 w' (wA.heap.size + 2) v10 (S.map z3V) := row_stay h.st hg (fun g e => rows_ap h.st h.kk (by decide) g e)
  have k3 : GOwnV 3 w' (wA.heap.size + 2) v11 (numZ ks) := row_stay h.ky hg (fun g e => rows_ap h.ky h.kk (by decide) g e)
  exact ⟨hm.set 1 v', hu.other (by omega) 1 v', row_stay k1 hs (far k1), row_stay ho hs (far ho), row_stay k2 hs (far k2), row_stay k3 hs (far k3),
    (h.bel.grown hg h.bel.size fun k hk => by have := (World.ownsRow.lt h.kk k hk).1; omega).grown hs (Nat.le_trans h.bel.size hg.size) fun k hk => by injection hk with hk; omega⟩
/-- a number is appended to the keys' -/
theorem PM.key (h : PM wA w vB vK v10 v11 bs ss S ks) (ho : GOwnV 3 w' (wA.heap.size + 2) v' (numZ ks')) (hg : w.grownBy w' v11.ownBlock) : PM wA w' vB vK v10 v' bs ss S ks' :=
  ⟨h.mb.rowStay h.ky hg (by omega), h.un.rowStay h.ky hg (by omega), row_stay h.by_ hg (fun g e => rows_ap h.by_ h.ky (by decide) g e), row_stay h.kk hg (fun g e => rows_ap h.kk h.ky (by decide) g e), row_stay h.st hg (fun g e => rows_ap h.st h.ky (by decide) g e), ho,
    h.bel.grown hg h.bel.size fun k hk => by have := (World.ownsRow.lt h.ky k hk).1; omega⟩
/-- a site is appended, or one is turned -/
theorem PM.site (h : PM wA w vB vK v10 v11 bs ss S ks) (ho : TOwn 86 w' (wA.heap.size + 2) v' (S'.map z3V)) (hg : w.grownBy w' v10.ownBlock) : PM wA w' vB vK v' v11 bs ss S' ks :=
  ⟨h.mb.rowStay h.st hg (by omega), h.un.rowStay h.st hg (by omega), row_stay h.by_ hg (fun g e => rows_ap h.by_ h.st (by decide) g e), row_stay h.kk hg (fun g e => rows_ap h.kk h.st (by decide) g e), ho, row_stay h.ky hg (fun g e => rows_ap h.ky h.st (by decide) g e),
    h.bel.grown hg h.bel.size fun k hk => by have := (World.ownsRow.lt h.st k hk).1; omega⟩
end
/-- kinds and places, as they are gathered -/
def kdI (l : List Int) (i : Nat) : List Int := ((kindL l).take i).map fun k : Nat => (k : Int)
def plI (l : List Int) (i : Nat) : List Int := (List.range i).map fun j => ((plcK (kindL l) j : Nat) : Int)
theorem kdI_succ {l : List Int} {i : Nat} (h : i < l.length) : kdI l (i + 1) = kdI l i ++ [((pickZ (l.getD i 0) 16 : Nat) : Int)] := by
  have h' : i < (kindL l).length := by rw [kindL_len]; exact h
  unfold kdI
  rw [List.take_succ_eq_append_getElem h', List.map_append, List.map_cons, List.map_nil, ← kindL_at l i h]
  simp [List.getD, List.getElem?_eq_getElem h']
theorem plI_succ (l : List Int) (i : Nat) : plI l (i + 1) = plI l i ++ [((plcK (kindL l) i : Nat) : Int)] := by
  unfold plI
  rw [List.range_succ, List.map_append, List.map_cons, List.map_nil]
theorem kdI_len (l : List Int) {i : Nat} (h : i ≤ l.length) : (kdI l i).length = i := by
  unfold kdI
  rw [List.length_map, List.length_take, kindL_len]
  omega
theorem plI_len (l : List Int) (i : Nat) : (plI l i).length = i := by simp [plI]
theorem kdI_at {l : List Int} {i n : Nat} (h : i < n) (hn : n ≤ l.length) : (kdI l n).getD i 0 = (((kindL l).getD i 0 : Nat) : Int) := by
  have h' : i < (kindL l).length := by rw [kindL_len]; omega
  simp [kdI, List.getD, List.getElem?_take_of_lt h, List.getElem?_eq_getElem h']
theorem plI_at {l : List Int} {i n : Nat} (h : i < n) : (plI l n).getD i 0 = ((plcK (kindL l) i : Nat) : Int) := by
  simp [plI, List.getD, h]
theorem rawI_len (l : List Int) (j : Nat) : (rawI l j).length = (keysP l j).length := by rw [rawI, List.length_map, (keysP_len l j).1]
theorem site_step {l : List Int} {j : Nat} (h : (kindL l).getD j 0 < 5) : keysP l (j + 1) = keysP l j ++ [((numP l j : Nat) : Int)] ∧ rawI l (j + 1) = rawI l j ++ [(0, ((plcK (kindL l) j : Nat) : Int), ((tgtP l j : Nat) : Int))] ∧ bodyP l (j + 1) = bodyP l j ++ quietL := by
  refine ⟨by rw [keysP, if_pos h], ?_, by rw [bodyP, pieceP, if_pos h]⟩
  unfold rawI
  rw [sitesP, if_pos h, List.map_append]
  rfl
theorem code_step {l : List Int} {j : Nat} (h : ¬ (kindL l).getD j 0 < 5) : keysP l (j + 1) = keysP l j ∧ rawI l (j + 1) = rawI l j ∧ bodyP l (j + 1) = bodyP l j ++ codeL ((kindL l).getD j 0) (numP l j : Nat) (plcK (kindL l) j : Nat) (tgtP l j : Nat) (roomN (plcK (kindL l) l.length) : Nat) := by
  refine ⟨by rw [keysP, if_neg h], ?_, by rw [bodyP, pieceP, if_neg h]⟩
  unfold rawI
  rw [sitesP, if_neg h]
theorem c3_set1 : ∀ (L : List Z3) (i : Nat) (k : Int), i < L.length → (c3 (L.map z3V)).set (i * 3) (.int .i64 k) = c3 ((L.set i (k, (L.getD i (0, 0, 0)).2)).map z3V)
  | x :: L, 0, k, _ => rfl
  | x :: L, i + 1, k, h => by
    have ih := c3_set1 L i k (by simpa using h)
    have h3 : (l3 (z3V x)).length = 3 := rfl
    show (l3 (z3V x) ++ c3 (L.map z3V)).set ((i + 1) * 3) (.int .i64 k) = l3 (z3V x) ++ c3 ((L.set i (k, (L.getD i (0, 0, 0)).2)).map z3V)
    rw [List.set_append_right _ _ (by rw [h3]; omega), h3, show (i + 1) * 3 - 3 = i * 3 by omega, ih]
/-- a site's key is turned -/
theorem TOwn.set1 {T : TypeId} {w : World} {B g n c : Nat} {L : List Z3} (h : TOwn T w B (.slice (some ⟨g, 0, none⟩) n c) (L.map z3V)) {x : Nat} (hx : x < L.length) (k : Int) : TOwn T (w.setCell ⟨g, x * 3, none⟩ (.int .i64 k)) B (.slice (some ⟨g, 0, none⟩) n c) ((L.set x (k, (L.getD x (0, 0, 0)).2)).map z3V) ∧ w.grownBy (w.setCell ⟨g, x * 3, none⟩ (.int .i64 k)) (some g) := by
  have h0 : w.ownsRow B T 3 (.slice (some ⟨g, 0, none⟩) n c) (L.map z3V).length (c3 (L.map z3V)) := h
  have hn : n = (L.map z3V).length := by
    obtain ⟨p, cc, e, -⟩ := h.shape
    injection e
  subst hn
  have h1 := World.ownsRow.stored h0 (x * 3) (.int .i64 k)
  refine ⟨?_, h1.2⟩
  have h2 := h1.1
  rw [c3_set1 _ x _ hx] at h2
  unfold TOwn
  have e : ((L.set x (k, (L.getD x (0, 0, 0)).2)).map z3V).length = (L.map z3V).length := by rw [List.length_map, List.length_set, List.length_map]
  rw [e]
  exact h2
/-- the keys' texts -/
def txtP (k : Nat) : List ByteArray := (List.range k).map fun j : Nat => strOfNums [97 + (j : Int)]
theorem txtP_succ (k : Nat) : txtP (k + 1) = txtP k ++ [strOfNums [97 + (k : Int)]] := by
  unfold txtP
  rw [List.range_succ, List.map_append, List.map_cons, List.map_nil]
theorem txtP_len (k : Nat) : (txtP k).length = k := by simp [txtP]
theorem Tryz.elemT : Elem 80 9 16 := ⟨Tryz.underlying80, .string ByteArray.empty, rfl, by kernel_rfl⟩
theorem plc_step16 (l : List Int) (i : Nat) (h : i < l.length) : plcK (kindL l) (i + 1) = plcK (kindL l) i + lenK (pickZ (l.getD i 0) 16) := by rw [plc_step l i h, kindL_at l i h]
end Go.Proofs.YtnpaijbkhmnfpaaGreat

/- Ours: an instruction's bytes (switchyardmade.code). -/
namespace Go.Proofs.YtnpaijbkhmnfpaaGreat
open Go.RowKit

theorem code_small {k : Nat} {n a t r : Int} {w : World} (xs : List Int) (he : codeL k n a t r = xs) (hl : xs.length ≤ 100) : OwnV (w.alloc (.cells (byts xs).toArray 5)) w.heap.size (.slice (some ⟨w.heap.size, 0, none⟩) xs.length xs.length) (codeL k n a t r) := by
  rw [he]
  exact (Own.lit w xs (by unfold maxLen; omega)).val
set_option maxHeartbeats 1600000 in
theorem code_any (k : Nat) (n a t r : Int) (w : World) (hk : 5 ≤ k ∧ k < 16) (hn : 0 ≤ n ∧ n ≤ 1000002) (ha : 0 ≤ a ∧ a ≤ 200) (ht : 0 ≤ t ∧ t ≤ 200) (hr : 0 ≤ r ∧ r ≤ 200) :
    Calls Tryz.prog 65 #[.int .i64 k, .int .i64 n, .int .i64 a, .int .i64 t, .int .i64 r] w fun e w' => ∃ v, e = .returned v ∧ OwnV w' w.heap.size v (codeL k n a t r) ∧ Below w.heap.size w w' := by
  have t1 : n.tmod 8 = n % 8 := by rw [Int.tmod_eq_emod_of_nonneg hn.1]
  have t2 : n.tdiv 8 = n / 8 := by rw [Int.tdiv_eq_ediv_of_nonneg hn.1]
  have t3 : (n / 8).tmod 8 = n / 8 % 8 := by rw [Int.tmod_eq_emod_of_nonneg (by omega)]
  have t4 : (n / 8).tmod 13 = n / 8 % 13 := by rw [Int.tmod_eq_emod_of_nonneg (by omega)]
  have t5 : n.tmod 5 = n % 5 := by rw [Int.tmod_eq_emod_of_nonneg hn.1]
  have t6 : n.tmod 100 = n % 100 := by rw [Int.tmod_eq_emod_of_nonneg hn.1]
  have m1 : n % 8 % 256 = n % 8 := by omega
  have m2 : n / 8 % 8 % 256 = n / 8 % 8 := by omega
  have h : k = 5 ∨ k = 6 ∨ k = 7 ∨ k = 8 ∨ k = 9 ∨ k = 10 ∨ k = 11 ∨ k = 12 ∨ k = 13 ∨ k = 14 ∨ k = 15 := by omega
  clear hk
  rcases h with rfl | rfl | rfl | rfl | rfl | rfl | rfl | rfl | rfl | rfl | rfl
  · go_enter Tryz.func65, Tryz.ntmps65
    go_wp2
    go_ret
    exact ⟨_, rfl, code_small [1, n % 8, n / 8 % 8] rfl (by simp), new_alloc _ _⟩
  · go_enter Tryz.func65, Tryz.ntmps65
    go_wp2
    go_ret
    exact ⟨_, rfl, code_small [41, n % 8, n / 8 % 8] rfl (by simp), new_alloc _ _⟩
  · go_enter Tryz.func65, Tryz.ntmps65
    go_wp2
    go_ret
    exact ⟨_, rfl, code_small [137, n % 8, n / 8 % 8] rfl (by simp), new_alloc _ _⟩
  · go_enter Tryz.func65, Tryz.ntmps65
    go_wp2_with (go_at_call 66; refine Hid.out ?_)
    refine Lib.hid ?_
    refine (four_any (t - a - 6) _).mono ?_
    rintro e w1 ⟨g1, rfl, ho1, hb1⟩
    have HO := Hid.in (((Own.lit w [116, n % 8] (by simp [maxLen])).below hb1).val)
    have HR := Hid.in ho1.row
    have HB := Hid.in (below_step (new_alloc w (.cells (byts [116, n % 8]).toArray 5)) hb1)
    have HL : Hid (([116, n % 8] : List Int).length + 4 ≤ 140737488355328) := by show _ + 4 ≤ _; simp
    clear ho1 hb1
    go_wp2_with (at_builtin; refine wp_push_row _ rfl _ _ rfl w.heap.size _ [116, n % 8] rfl HO.out (some ⟨g1, 0, none⟩) 4 4 (le4 (t - a - 6)) rfl rfl HR.out (fun e => by cases e) HL.out HB.out.size ?_; intro v' w2 hown' hbel)
    go_ret
    exact ⟨_, rfl, hown', hbel _ HB.out⟩
  · go_enter Tryz.func65, Tryz.ntmps65
    go_wp2_with (go_at_call 66; refine Hid.out ?_)
    refine Lib.hid ?_
    refine (four_any (t - a - 6) _).mono ?_
    rintro e w1 ⟨g1, rfl, ho1, hb1⟩
    have HO := Hid.in (((Own.lit w [117, n % 8] (by simp [maxLen])).below hb1).val)
    have HR := Hid.in ho1.row
    have HB := Hid.in (below_step (new_alloc w (.cells (byts [117, n % 8]).toArray 5)) hb1)
    have HL : Hid (([117, n % 8] : List Int).length + 4 ≤ 140737488355328) := by show _ + 4 ≤ _; simp
    clear ho1 hb1
    go_wp2_with (at_builtin; refine wp_push_row _ rfl _ _ rfl w.heap.size _ [117, n % 8] rfl HO.out (some ⟨g1, 0, none⟩) 4 4 (le4 (t - a - 6)) rfl rfl HR.out (fun e => by cases e) HL.out HB.out.size ?_; intro v' w2 hown' hbel)
    go_ret
    exact ⟨_, rfl, hown', hbel _ HB.out⟩
  · go_enter Tryz.func65, Tryz.ntmps65
    go_wp2_with (go_at_call 66; refine Hid.out ?_)
    refine Lib.hid ?_
    refine (four_any (t - a - 5) _).mono ?_
    rintro e w1 ⟨g1, rfl, ho1, hb1⟩
    have HO := Hid.in (((Own.lit w [232] (by simp [maxLen])).below hb1).val)
    have HR := Hid.in ho1.row
    have HB := Hid.in (below_step (new_alloc w (.cells (byts [232]).toArray 5)) hb1)
    have HL : Hid (([232] : List Int).length + 4 ≤ 140737488355328) := by show _ + 4 ≤ _; simp
    clear ho1 hb1
    go_wp2_with (at_builtin; refine wp_push_row _ rfl _ _ rfl w.heap.size _ [232] rfl HO.out (some ⟨g1, 0, none⟩) 4 4 (le4 (t - a - 5)) rfl rfl HR.out (fun e => by cases e) HL.out HB.out.size ?_; intro v' w2 hown' hbel)
    go_ret
    exact ⟨_, rfl, hown', hbel _ HB.out⟩
  · by_cases h5 : n % 5 = 0
    · go_enter Tryz.func65, Tryz.ntmps65
      go_wp2
      go_ret
      exact ⟨_, rfl, code_small [0] (by simp [codeL, h5]) (by simp), new_alloc _ _⟩
    · go_enter Tryz.func65, Tryz.ntmps65
      go_wp2
      go_ret
      exact ⟨_, rfl, code_small [195] (by simp [codeL, h5]) (by simp), new_alloc _ _⟩
  · go_enter Tryz.func65, Tryz.ntmps65
    go_wp2_with (go_at_call 66; refine Hid.out ?_)
    refine Lib.hid ?_
    refine (four_any (n % 100 - 50) _).mono ?_
    rintro e w1 ⟨g1, rfl, ho1, hb1⟩
    have HO := Hid.in (((Own.lit w [184, n % 8] (by simp [maxLen])).below hb1).val)
    have HR := Hid.in ho1.row
    have HB := Hid.in (below_step (new_alloc w (.cells (byts [184, n % 8]).toArray 5)) hb1)
    have HL : Hid (([184, n % 8] : List Int).length + 4 ≤ 140737488355328) := by show _ + 4 ≤ _; simp
    clear ho1 hb1
    go_wp2_with (at_builtin; refine wp_push_row _ rfl _ _ rfl w.heap.size _ [184, n % 8] rfl HO.out (some ⟨g1, 0, none⟩) 4 4 (le4 (n % 100 - 50)) rfl rfl HR.out (fun e => by cases e) HL.out HB.out.size ?_; intro v' w2 hown' hbel)
    go_ret
    exact ⟨_, rfl, hown', hbel _ HB.out⟩
  · go_enter Tryz.func65, Tryz.ntmps65
    go_wp2_with (go_at_call 66; refine Hid.out ?_)
    refine Lib.hid ?_
    refine (four_any (r + n / 8 % 13) _).mono ?_
    rintro e w1 ⟨g1, rfl, ho1, hb1⟩
    have HO := Hid.in (((Own.lit w [139, n % 8] (by simp [maxLen])).below hb1).val)
    have HR := Hid.in ho1.row
    have HB := Hid.in (below_step (new_alloc w (.cells (byts [139, n % 8]).toArray 5)) hb1)
    have HL : Hid (([139, n % 8] : List Int).length + 4 ≤ 140737488355328) := by show _ + 4 ≤ _; simp
    clear ho1 hb1
    go_wp2_with (at_builtin; refine wp_push_row _ rfl _ _ rfl w.heap.size _ [139, n % 8] rfl HO.out (some ⟨g1, 0, none⟩) 4 4 (le4 (r + n / 8 % 13)) rfl rfl HR.out (fun e => by cases e) HL.out HB.out.size ?_; intro v' w2 hown' hbel)
    go_ret
    exact ⟨_, rfl, hown', hbel _ HB.out⟩
  · go_enter Tryz.func65, Tryz.ntmps65
    go_wp2_with (go_at_call 66; refine Hid.out ?_)
    refine Lib.hid ?_
    refine (four_any (r + n / 8 % 13) _).mono ?_
    rintro e w1 ⟨g1, rfl, ho1, hb1⟩
    have HO := Hid.in (((Own.lit w [136, n % 8] (by simp [maxLen])).below hb1).val)
    have HR := Hid.in ho1.row
    have HB := Hid.in (below_step (new_alloc w (.cells (byts [136, n % 8]).toArray 5)) hb1)
    have HL : Hid (([136, n % 8] : List Int).length + 4 ≤ 140737488355328) := by show _ + 4 ≤ _; simp
    clear ho1 hb1
    go_wp2_with (at_builtin; refine wp_push_row _ rfl _ _ rfl w.heap.size _ [136, n % 8] rfl HO.out (some ⟨g1, 0, none⟩) 4 4 (le4 (r + n / 8 % 13)) rfl rfl HR.out (fun e => by cases e) HL.out HB.out.size ?_; intro v' w2 hown' hbel)
    go_ret
    exact ⟨_, rfl, hown', hbel _ HB.out⟩
  · go_enter Tryz.func65, Tryz.ntmps65
    go_wp2
    go_ret
    exact ⟨_, rfl, code_small [230, n % 8] rfl (by simp), new_alloc _ _⟩
end Go.Proofs.YtnpaijbkhmnfpaaGreat
