/- Plain facts on texts cut into lines; what switchyardref03.Lines answers. -/
import Derived.Test.YtkpieeldoielgaaTexts
namespace Go.Proofs.Ytkpieeldoielgaa
open Go.RowKit

/-- a text's lines: cut behind each byte 10, these left out; what stands behind the last one is a line, too, unless it is empty -/
def linesL : List UInt8 → List (List UInt8)
  | [] => []
  | c :: cs => if c = 10 then [] :: linesL cs else match linesL cs with
    | [] => [[c]]
    | l :: ls => (c :: l) :: ls

def bytesOf (l : List UInt8) : ByteArray := ⟨l.toArray⟩
def texts (ls : List (List UInt8)) : List ByteArray := ls.map bytesOf

theorem linesL_cut (cur rest : List UInt8) (h : ∀ c ∈ cur, c ≠ 10) : linesL (cur ++ 10 :: rest) = cur :: linesL rest := by
  induction cur with
  | nil => simp [linesL]
  | cons c cur ih =>
    have hc : c ≠ 10 := h c (by simp)
    rw [List.cons_append, linesL, if_neg hc, ih fun d hd => h d (by simp [hd])]
theorem linesL_last (cur : List UInt8) (h : ∀ c ∈ cur, c ≠ 10) (hne : cur ≠ []) : linesL cur = [cur] := by
  induction cur with
  | nil => exact absurd rfl hne
  | cons c cur ih =>
    have hc : c ≠ 10 := h c (by simp)
    rw [linesL, if_neg hc]
    cases cur with
    | nil => simp [linesL]
    | cons d ds => rw [ih (fun e he => h e (by simp [he])) (by simp)]
theorem linesL_length (l : List UInt8) : (linesL l).length ≤ l.length := by
  induction l with
  | nil => simp [linesL]
  | cons c cs ih =>
    rw [linesL]
    split
    · simp; omega
    · split
      · simp
      · rename_i e; rw [e] at ih; simp at ih ⊢; omega

theorem drop_at (l : List UInt8) (i : Nat) (h : i < l.length) : l.drop i = l[i] :: l.drop (i + 1) := List.drop_eq_getElem_cons h
/-- the piece from f up to i -/
def piece (l : List UInt8) (f i : Nat) : List UInt8 := (l.drop f).take (i - f)
theorem piece_split (l : List UInt8) (f i : Nat) (hf : f ≤ i) : l.drop f = piece l f i ++ l.drop i := by
  unfold piece
  have : l.drop i = (l.drop f).drop (i - f) := by rw [List.drop_drop]; congr 1; omega
  rw [this, List.take_append_drop]
theorem piece_snoc (l : List UInt8) (f i : Nat) (hf : f ≤ i) (hi : i < l.length) : piece l f (i + 1) = piece l f i ++ [l[i]] := by
  unfold piece
  rw [show i + 1 - f = (i - f) + 1 by omega, List.take_succ_eq_append_getElem (by simp; omega)]
  congr 2
  simp only [List.getElem_drop]
  congr 1; omega
theorem piece_self (l : List UInt8) (i : Nat) : piece l i i = [] := by simp [piece]

end Go.Proofs.Ytkpieeldoielgaa
