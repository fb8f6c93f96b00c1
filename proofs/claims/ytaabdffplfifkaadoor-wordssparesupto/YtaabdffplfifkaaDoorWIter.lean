/- The function that words.cut hands out: it hands a text's lines to whatever loop ranges over it. -/
import Derived.Test.YtaabdffplfifkaaDoorWFields
import Derived.RangeFuncKeeps
import Derived.RangeFuncLeaves
import Derived.RangeFuncCalls
import Derived.Shelf.Abstract
import Derived.WalkKit
import Derived.OwnWalkIn
import Derived.TacticsInMore
import Derived.LoopNIn
import Derived.LoopIn
namespace Go.Proofs.YtaabdffplfifkaaDoor
open Go.RowKit Go.Shelf

attribute [local go_sem] Oper.semAt_some

/-- pieces no longer than M -/
abbrev Sh (M : Nat) : Type := { x : List UInt8 // x.length ≤ M }
/-- what has come, as plain lists -/
def vals {M : Nat} (pre : List (Sh M)) : List (List UInt8) := pre.map (·.1)
theorem vals_snoc {M : Nat} (pre : List (Sh M)) (x : Sh M) : vals (pre ++ [x]) = vals pre ++ [x.1] := by simp [vals]
theorem vals_len {M : Nat} (pre : List (Sh M)) : (vals pre).length = pre.length := by simp [vals]

def sizeOf1 : Value → Nat
  | .string s => s.size
  | _ => 0

/-- what stands ahead of the first byte 10, what behind -/
theorem ten_split (l : List UInt8) : (∀ x ∈ l, x ≠ 10) ∨ ∃ a b, l = a ++ 10 :: b ∧ ∀ x ∈ a, x ≠ 10 := by
  induction l with
  | nil => exact .inl fun x hx => by cases hx
  | cons c cs ih =>
    by_cases hc : c = 10
    · subst hc
      exact .inr ⟨[], cs, rfl, fun x hx => by cases hx⟩
    · rcases ih with h | ⟨a, b, rfl, h⟩
      · refine .inl fun x hx => ?_
        rcases List.mem_cons.1 hx with rfl | hx
        · exact hc
        · exact h x hx
      · refine .inr ⟨c :: a, b, rfl, fun x hx => ?_⟩
        rcases List.mem_cons.1 hx with rfl | hx
        · exact hc
        · exact h x hx
theorem grown_drewN (w : World) (m : Nat) : w.grownBy (w.drewN m) none := ⟨rfl, rfl, rfl, Nat.le_refl _, fun _ _ _ => rfl⟩

set_option maxRecDepth 100000 in
set_option maxHeartbeats 2000000 in
theorem iter_in (n : Nat) (hn : 1 ≤ n) (l B : Nat) (s : ByteArray) (hs : s.size ≤ 9223372036854775807) (J Jx : List (Sh s.size) → World → Prop) (W : World) (hJd : ∀ pre X m, J pre X → J pre (X.drewN m))
    (hY : ∀ pre x W1, J pre W1 → pre.length < (linesL s.data.toList).length → YieldAt Fence.wide (n - 1) Tryd.prog l #[.string (bytesOf x.1)] W1 fun e W' =>
      (e = .returned (.bool true) ∧ J (pre ++ [x]) W' ∧ True) ∨ (e = .returned (.bool false) ∧ Jx (pre ++ [x]) W'))
    (hB : W.cell? ⟨B, 0, none⟩ = some (.string s)) (h0 : J [] W) :
    CallsIn Fence.wide n Tryd.prog 58 #[.func (.yield l) #[] #[], .pointer (some ⟨B, 0, none⟩)] W fun e W' => (∃ v, e = .returned v) ∧
      ((∃ xs, vals xs = linesL s.data.toList ∧ J xs W') ∨ (∃ pre : List (Sh s.size), True ∧ Jx pre W')) := by
  refine callsIn_of_wp Tryd.func58 rfl trivial ?_ rfl
  simp only [Tryd.ntmps58, List.size_toArray, List.length_cons, List.length_nil, Nat.reduceAdd, Nat.reduceSub, Array.replicate_succ, Array.replicate_zero, List.push_toArray, List.append_toArray, List.nil_append, List.cons_append]
  gi_wp2
  gi_loopw [3] (fun t wr => ∃ (pre : List (Sh s.size)) (rest : List UInt8), t = .string (bytesOf rest) ∧ rest.length ≤ s.size ∧ linesL s.data.toList = vals pre ++ linesL rest ∧ J pre wr) (fun t _ => sizeOf1 t)
  case atStart =>
    exact ⟨[], s.data.toList, by rw [bytesOf_self], by rw [← Lib.size_eq]; exact Nat.le_refl _, rfl, h0⟩
  case round =>
    obtain ⟨pre, rest, rfl, hrl, hx, hJs⟩ := hrel
    by_cases hr : rest = []
    · subst hr
      have hz : (bytesOf []).toList.isEmpty = true := by rw [toList_eq, bytesOf_list]; rfl
      gi_wp2
      go_end0
      exact ⟨⟨_, rfl⟩, .inl ⟨pre, by rw [hx]; simp [linesL], hJs⟩⟩
    · have hz : (bytesOf rest).toList.isEmpty = false := by rw [toList_eq, bytesOf_list]; simpa using hr
      have hlen : 0 < rest.length := List.length_pos_iff.2 hr
      rcases ten_split rest with hno | ⟨a, b, rfl, hno⟩
      · have hC := fun w => (callsIn_wide (n := n - 1)).2 (cut_no (bytesOf rest) 10 (by rw [bytesOf_list]; exact hno) w)
        have hx2 : linesL s.data.toList = vals pre ++ [rest] := by rw [hx, linesL_last rest hno hr]
        obtain ⟨fn, tmps, assign, body, hy, hR⟩ := hY pre ⟨rest, hrl⟩ wr hJs (by rw [hx2]; simp [vals_len])
        gi_wp2_with fail
        refine ⟨trivial, (hC _).mono ?_⟩
        rintro e w2 ⟨rfl, rfl⟩
        gi_wp2
        refine hR.mono ?_
        rintro e w3 (⟨rfl, hJ3, _⟩ | ⟨rfl, hJx3⟩)
        · gi_wp2
          go_roundw
          case rel => exact ⟨pre ++ [⟨rest, hrl⟩], [], rfl, by simp, by rw [hx2, vals_snoc]; simp [linesL], hJ3⟩
          case measure => show sizeOf1 (.string (bytesOf [])) < sizeOf1 (.string (bytesOf rest)); simp only [sizeOf1, bytesOf_size]; exact hlen
        · gi_wp2
          refine bodyPost_ret (results_none rfl _ _ _) rfl ?_
          exact ⟨⟨_, rfl⟩, .inr ⟨pre ++ [⟨rest, hrl⟩], trivial, hJx3⟩⟩
      · have hC := fun w => (callsIn_wide (n := n - 1)).2 (cut_yes (bytesOf (a ++ 10 :: b)) a b 10 (by rw [bytesOf_list]) hno w (by rw [bytesOf_size]; omega))
        have hal : a.length ≤ s.size := by simp at hrl; omega
        have hx2 : linesL s.data.toList = vals (pre ++ [⟨a, hal⟩]) ++ linesL b := by rw [hx, linesL_cut a b hno, vals_snoc]; simp
        have hYm := fun m => hY pre ⟨a, hal⟩ (wr.drewN m) (hJd pre wr m hJs) (by rw [hx2, vals_snoc]; simp [vals_len])
        have hbl : b.length ≤ s.size := by simp at hrl; omega
        gi_wp2_with fail
        refine ⟨trivial, (hC _).mono ?_⟩
        rintro e w2 ⟨rfl, m, rfl⟩
        obtain ⟨fn, tmps, assign, body, hy, hR⟩ := hYm m
        gi_wp2
        refine hR.mono ?_
        rintro e w3 (⟨rfl, hJ3, _⟩ | ⟨rfl, hJx3⟩)
        · gi_wp2
          go_roundw
          case rel => exact ⟨pre ++ [⟨a, hal⟩], b, rfl, hbl, hx2, hJ3⟩
          case measure => show sizeOf1 (.string (bytesOf b)) < sizeOf1 (.string (bytesOf (a ++ 10 :: b))); simp only [sizeOf1, bytesOf_size]; simp; omega
        · gi_wp2
          refine bodyPost_ret (results_none rfl _ _ _) rfl ?_
          exact ⟨⟨_, rfl⟩, .inr ⟨pre ++ [⟨a, hal⟩], trivial, hJx3⟩⟩

theorem lines_stops (n : Nat) (hn : 1 ≤ n) (B : Nat) (s : ByteArray) (hs : s.size ≤ 9223372036854775807) (w : World) (hBw : B < w.heap.size) (hB : w.cell? ⟨B, 0, none⟩ = some (.string s)) :
    SeqStopsK Fence.wide n Tryd.prog 58 #[.pointer (some ⟨B, 0, none⟩)] (fun x : Sh s.size => #[Value.string (bytesOf x.1)]) (fun _ _ => True) (fun xs => vals xs = linesL s.data.toList) (fun _ => True) (linesL s.data.toList).length w :=
  fun l J Jx W hW hJ _ hY h0 => iter_in n hn l B s hs J Jx W (fun pre X m h => hJ pre X _ none h (grown_drewN X m) (fun r e => by cases e)) hY ((hW.cell (p := ⟨B, 0, none⟩) hBw).trans hB) h0

set_option maxHeartbeats 1000000 in
theorem cut_any (s : ByteArray) (w : World) :
    Calls Tryd.prog 42 #[.string s] w fun e w' => e = .returned (.func (.func 58) #[] #[.pointer (some ⟨w.heap.size, 0, none⟩)]) ∧ w' = w.alloc (.cells #[.string s] 9) := by
  go_enter Tryd.func42, Tryd.ntmps42
  go_wp2_with fail
  go_ret
  exact ⟨rfl, rfl⟩

end Go.Proofs.YtaabdffplfifkaaDoor
