/- The table of sites, as lists: P8.1 to P8.4. -/
import Derived.Test.YtkpieeldoielgaaStaL
namespace Go.Proofs.Ytkpieeldoielgaa
open Go.RowKit

structure Si where
  key : Int
  at_ : Int
  to_ : Int
deriving DecidableEq
/-- the place of the first such name, or how many there are -/
def idxK (ks : List ByteArray) (s : ByteArray) : Nat := ks.findIdx fun k => decide (k = s)
/-- P8.1: names as they first stand -/
def addK (ks : List ByteArray) (s : ByteArray) : List ByteArray := if inB s ks = true then ks else ks ++ [s]
def keysM (ks : List ByteArray) (M : List Mk) : List ByteArray := M.foldl (fun a m => addK a m.key) ks
def keysL (xs : List Ob) : List ByteArray := xs.foldl (fun a o => keysM a o.mk_) []
/-- does one site stand ahead of another one? -/
def ltS (a b : Si) : Bool := decide (a.key < b.key ∨ (a.key = b.key ∧ a.at_ < b.at_))
def farS (s : Si) : Bool := decide (s.to_ - (s.at_ + 5) > 4096 ∨ s.to_ - (s.at_ + 5) < -4096)
/-- the first site at a place -/
def atS (T : List Si) (a : Int) : Option Nat := T.findIdx? fun s => decide (s.at_ = a)
/-- what a mark makes of sites and keys, or its error -/
structure Mrg where
  si : List Si
  ks : List ByteArray
  e : Int
def stepS (s : Si) (ks : List ByteArray) (T : List Si) : Mrg :=
  match T.find? fun t => decide (t.at_ = s.at_) with
  | some t => if t = s then ⟨T, ks, 0⟩ else ⟨[], [], 180⟩
  | none => if farS s = true then ⟨[], [], 181⟩ else if T.length = 256 then ⟨[], [], 3⟩ else ⟨T ++ [s], ks, 0⟩
def stepM (res : ByteArray → Int × Int) (b : Nat) (T : List Si) (ks : List ByteArray) (m : Mk) : Mrg :=
  if 64 ≤ idxK (addK ks m.key) m.key then ⟨[], [], 3⟩
  else if (res m.to_).2 ≠ 0 then ⟨[], [], (res m.to_).2⟩
  else stepS ⟨(idxK (addK ks m.key) m.key : Nat), (b : Int) + m.at_, (res m.to_).1⟩ (addK ks m.key) T
def marksS (res : ByteArray → Int × Int) (b : Nat) (T : List Si) (ks : List ByteArray) : List Mk → Mrg
  | [] => ⟨T, ks, 0⟩
  | m :: M => if (stepM res b T ks m).e ≠ 0 then stepM res b T ks m else marksS res b (stepM res b T ks m).si (stepM res b T ks m).ks M
/-- unit by unit: sites in the order of their marks, keys, error, unit -/
structure MrgU where
  si : List Si
  ks : List ByteArray
  e : Int
  u : Nat
def unitsS (xs : List Ob) (i : Nat) (T : List Si) (ks : List ByteArray) : List Ob → MrgU
  | [] => ⟨T, ks, 0, 0⟩
  | o :: os =>
    if (marksS (resL xs i) ((tabL xs).ss.getD i 0) T ks o.mk_).e ≠ 0 then ⟨[], [], (marksS (resL xs i) ((tabL xs).ss.getD i 0) T ks o.mk_).e, i⟩
    else unitsS xs (i + 1) (marksS (resL xs i) ((tabL xs).ss.getD i 0) T ks o.mk_).si (marksS (resL xs i) ((tabL xs).ss.getD i 0) T ks o.mk_).ks os
/-- a site put where it belongs -/
def insS (s : Si) : List Si → List Si
  | [] => [s]
  | t :: L => if ltS s t = true then s :: t :: L else t :: insS s L
def sortS (T : List Si) : List Si := T.foldl (fun a s => insS s a) []
/-- P8.2 -/
def mergeL (xs : List Ob) : MrgU :=
  if (tabL xs).e ≠ 0 then ⟨[], [], (tabL xs).e, (tabL xs).u⟩
  else if (unitsS xs 0 [] [] xs).e ≠ 0 then unitsS xs 0 [] [] xs
  else ⟨sortS (unitsS xs 0 [] [] xs).si, (unitsS xs 0 [] [] xs).ks, 0, 0⟩
/-- P8.4 -/
def siteB (n : Int) (s : Si) : Bool := decide (0 ≤ s.key ∧ s.key < n ∧ 0 ≤ s.at_ ∧ s.at_ ≤ 65531 ∧ 0 ≤ s.to_ ∧ s.to_ ≤ 65536) && !farS s
def rightS (T : List Si) (n : Int) : Bool :=
  decide (0 ≤ n ∧ n ≤ 64 ∧ T.length ≤ 256) && T.all (siteB n) && decide (T.Pairwise fun a b => ltS a b = true) && decide (T.Pairwise fun a b => ¬ (b.at_ - a.at_ < 5 ∧ a.at_ - b.at_ < 5))

theorem ltS_trans {a b c : Si} (h1 : ltS a b = true) (h2 : ltS b c = true) : ltS a c = true := by
  unfold ltS at *
  simp only [decide_eq_true_eq] at *
  omega
theorem ltS_irrefl (a : Si) : ltS a a = false := by unfold ltS; simp
theorem ltS_asymm {a b : Si} (h : ltS a b = true) : ltS b a = false := by
  unfold ltS at *
  simp only [decide_eq_true_eq, decide_eq_false_iff_not] at *
  omega
theorem ltS_total {a b : Si} (h : a.at_ ≠ b.at_) (h1 : ltS a b = false) : ltS b a = true := by
  unfold ltS at *
  simp only [decide_eq_true_eq, decide_eq_false_iff_not] at *
  omega
theorem insS_perm (s : Si) : ∀ L : List Si, List.Perm (insS s L) (s :: L)
  | [] => .refl _
  | t :: L => by
    unfold insS
    by_cases h : ltS s t = true
    · rw [if_pos h]
    · rw [if_neg h]
      exact ((insS_perm s L).cons t).trans (.swap s t L)
theorem insS_sorted (s : Si) : ∀ L : List Si, L.Pairwise (fun a b => ltS a b = true) → (∀ t ∈ L, t.at_ ≠ s.at_) → (insS s L).Pairwise fun a b => ltS a b = true
  | [], _, _ => by simp [insS]
  | t :: L, h, hne => by
    rw [List.pairwise_cons] at h
    unfold insS
    by_cases hlt : ltS s t = true
    · rw [if_pos hlt, List.pairwise_cons, List.pairwise_cons]
      exact ⟨fun u hu => by
        rcases List.mem_cons.1 hu with rfl | hu
        · exact hlt
        · exact ltS_trans hlt (h.1 u hu), h⟩
    · rw [if_neg hlt, List.pairwise_cons]
      refine ⟨fun u hu => ?_, insS_sorted s L h.2 fun x hx => hne x (by simp [hx])⟩
      have hu' := (insS_perm s L).mem_iff.1 hu
      rcases List.mem_cons.1 hu' with rfl | hu'
      · exact ltS_total (fun e => hne t (by simp) e.symm) (by simpa using hlt)
      · exact h.1 u hu'
theorem foldl_ins : ∀ (T A : List Si), List.Perm (T.foldl (fun a s => insS s a) A) (A ++ T)
  | [], A => by simp
  | s :: T, A => by
    refine (foldl_ins T (insS s A)).trans ?_
    refine ((insS_perm s A).append_right T).trans ?_
    rw [List.cons_append]
    exact (List.perm_middle).symm
theorem sortS_perm (T : List Si) : List.Perm (sortS T) T := by simpa [sortS] using foldl_ins T []
theorem foldl_sorted : ∀ (T A : List Si), A.Pairwise (fun a b => ltS a b = true) → (A ++ T).Pairwise (fun a b => a.at_ ≠ b.at_) → (T.foldl (fun a s => insS s a) A).Pairwise fun a b => ltS a b = true
  | [], A, h, _ => h
  | s :: T, A, h, hd => by
    have h1 := List.pairwise_append.1 hd
    refine foldl_sorted T (insS s A) (insS_sorted s A h fun t ht => h1.2.2 t ht s (by simp)) ?_
    have hp : List.Perm (A ++ s :: T) (insS s A ++ T) := (List.perm_middle).trans ((insS_perm s A).symm.append_right T)
    exact (hp.pairwise_iff (fun {a b} (hab : a.at_ ≠ b.at_) => hab.symm)).1 hd
theorem sortS_sorted (T : List Si) (h : T.Pairwise fun a b => a.at_ ≠ b.at_) : (sortS T).Pairwise fun a b => ltS a b = true := foldl_sorted T [] .nil (by simpa using h)
/-- a sorted list of the same sites is that one -/
theorem sorted_same : ∀ (A B : List Si), A.Pairwise (fun a b => ltS a b = true) → B.Pairwise (fun a b => ltS a b = true) → List.Perm A B → A = B
  | [], B, _, _, hp => by rw [hp.nil_eq]
  | a :: A, B, hA, hB, hp => by
    cases B with
    | nil => exact absurd hp.length_eq (by simp)
    | cons b B =>
      rw [List.pairwise_cons] at hA hB
      have hab : a = b := by
        rcases List.mem_cons.1 (hp.mem_iff.1 (List.mem_cons_self (a := a))) with h | h
        · exact h
        · rcases List.mem_cons.1 (hp.mem_iff.2 (List.mem_cons_self (a := b))) with h' | h'
          · exact h'.symm
          · have h1 := hB.1 a h
            have h2 := hA.1 b h'
            rw [ltS_asymm h1] at h2
            cases h2
      subst hab
      rw [sorted_same A B hA.2 hB.2 (List.Perm.cons_inv hp)]

end Go.Proofs.Ytkpieeldoielgaa
