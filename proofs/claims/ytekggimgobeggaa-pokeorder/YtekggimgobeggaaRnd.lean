/- Rounds in memory: what New, Pending, Over, Number, Copy, Drop, Take and Send answer and leave. -/
import Derived.Test.YtekggimgobeggaaFlg
import Derived.Deep.RegionHeld3
import Derived.ChangeKeysEq
namespace Go.Proofs.Ytekggimgobeggaa
open Go.RowKit

/-- a round's cells: the flags of its harts, and noughts behind -/
def rndL (fs : List Bool) (n : Int) : List Value := .bool true :: .int .i64 fs.length :: .int .i64 n :: flgs (fs ++ List.replicate (8 - fs.length) false)
theorem rndL_len {fs : List Bool} (h : fs.length ≤ 8) (n : Int) : (rndL fs n).length = 11 := by simp [rndL]; omega
/-- rounds in block q -/
structure Rnd (w : World) (q : Nat) (fs : List Bool) (n : Int) : Prop where
  le : fs.length ≤ 8
  blk : Blk w q 96 (rndL fs n).toArray
theorem Rnd.c0 {w : World} {q : Nat} {fs : List Bool} {n : Int} (h : Rnd w q fs n) : w.cell? ⟨q, 0, none⟩ = some (.bool true) := by rw [h.blk.cell]; simp [rndL]
theorem Rnd.c1 {w : World} {q : Nat} {fs : List Bool} {n : Int} (h : Rnd w q fs n) : w.cell? ⟨q, 1, none⟩ = some (.int .i64 fs.length) := by rw [h.blk.cell]; simp [rndL]
theorem Rnd.c2 {w : World} {q : Nat} {fs : List Bool} {n : Int} (h : Rnd w q fs n) : w.cell? ⟨q, 2, none⟩ = some (.int .i64 n) := by rw [h.blk.cell]; simp [rndL]
theorem pad_at (fs : List Bool) (i m : Nat) (hi : i < fs.length + m) : (fs ++ List.replicate m false)[i]? = some (fs.getD i false) := by
  by_cases h : i < fs.length
  · rw [List.getElem?_append_left h]; simp [List.getD, h]
  · rw [List.getElem?_append_right (by omega), List.getElem?_replicate, if_pos (by omega)]; simp [List.getD, h]
theorem Rnd.at {w : World} {q : Nat} {fs : List Bool} {n : Int} (h : Rnd w q fs n) (i : Nat) (hi : i < 8) : w.cell? ⟨q, 3 + i, none⟩ = some (.bool (fs.getD i false)) := by
  have hl := h.le
  rw [h.blk.cell, rndL, List.getElem?_toArray, show 3 + i = i + 1 + 1 + 1 by omega, List.getElem?_cons_succ, List.getElem?_cons_succ, List.getElem?_cons_succ, flgs, List.getElem?_map, pad_at _ _ _ (by omega)]
  rfl
theorem Rnd.lt {w : World} {q : Nat} {fs : List Bool} {n : Int} (h : Rnd w q fs n) : q < w.heap.size := h.blk.lt
theorem Rnd.below {w w' : World} {q : Nat} {fs : List Bool} {n : Int} (h : Rnd w q fs n) (hb : Below w.heap.size w w') : Rnd w' q fs n := ⟨h.le, h.blk.grow hb⟩
theorem Rnd.kept {w w' : World} {q k : Nat} {fs : List Bool} {n : Int} (h : Rnd w q fs n) (hg : w.grownBy w' (some k)) (hne : q ≠ k) : Rnd w' q fs n := ⟨h.le, h.blk.kept hg (fun e => hne (by injection e))⟩
theorem Rnd.drewN {w : World} {q : Nat} {fs : List Bool} {n : Int} (h : Rnd w q fs n) (k : Nat) : Rnd (w.drewN k) q fs n := ⟨h.le, h.blk⟩

/-- whether a hart has one pending -/
def pnd (fs : List Bool) (z : Int) : Bool := decide (0 ≤ z) && fs.getD z.toNat false
/-- whether none has -/
def ovr (fs : List Bool) : Bool := fs.all fun b => !b
/-- the flags behind Drop -/
def drp (fs : List Bool) (z : Int) : List Bool := if 0 ≤ z then fs.set z.toNat false else fs
theorem drp_len (fs : List Bool) (z : Int) : (drp fs z).length = fs.length := by unfold drp; split <;> simp
theorem drp_no {fs : List Bool} {z : Int} (h : pnd fs z = false) : drp fs z = fs := by
  unfold drp
  split
  · next h0 =>
    have h1 : fs.getD z.toNat false = false := by
      unfold pnd at h
      rw [decide_eq_true h0] at h
      simpa using h
    apply List.ext_getElem (by simp)
    intro i hi hi'
    rw [List.getElem_set]
    split
    · next e =>
      rw [e] at h1
      simp [List.getD, hi'] at h1
      rw [h1]
    · rfl
  · rfl

set_option maxHeartbeats 400000 in
theorem none_no (q : Nat) (w : World) (hc : w.cell? ⟨q, 0, none⟩ = some (.bool true)) :
    Calls Try.prog 56 #[.pointer (some ⟨q, 0, none⟩)] w fun e w' => e = .returned (.bool false) ∧ w' = w := by
  go_enter Try.func56, Try.ntmps56
  go_wp2
  go_ret
  exact ⟨rfl, rfl⟩
set_option maxHeartbeats 400000 in
theorem none_zero (q : Nat) (w : World) (hc : w.cell? ⟨q, 0, none⟩ = some (.bool false)) :
    Calls Try.prog 56 #[.pointer (some ⟨q, 0, none⟩)] w fun e w' => e = .returned (.bool true) ∧ w' = w := by
  go_enter Try.func56, Try.ntmps56
  go_wp2
  go_ret
  exact ⟨rfl, rfl⟩
set_option maxHeartbeats 400000 in
theorem none_nil (w : World) :
    Calls Try.prog 56 #[.pointer none] w fun e w' => e = .returned (.bool true) ∧ w' = w := by
  go_enter Try.func56, Try.ntmps56
  go_wp2
  go_ret
  exact ⟨rfl, rfl⟩

set_option maxHeartbeats 400000 in
theorem new_bad (h : Int) (w : World) (hh : h < 0 ∨ 8 < h) :
    Calls Try.prog 60 #[.int .i64 h] w fun e w' => e = .returned (.tuple #[.pointer none, .int .i64 2]) ∧ w' = w := by
  rcases hh with hh | hh
  · go_enter Try.func60, Try.ntmps60
    go_wp2
    go_ret2
    exact ⟨rfl, rfl⟩
  · have h0 : ¬ h < 0 := by omega
    go_enter Try.func60, Try.ntmps60
    go_wp2
    go_ret2
    exact ⟨rfl, rfl⟩
theorem rnd_new {h : Nat} (hh : h ≤ 8) : #[Value.bool true, .int .i64 h, .int .i64 0, .bool false, .bool false, .bool false, .bool false, .bool false, .bool false, .bool false, .bool false] = (rndL (List.replicate h false) 0).toArray := by
  simp only [rndL, List.length_replicate, List.replicate_append_replicate, show h + (8 - h) = 8 by omega]
  rfl
set_option maxHeartbeats 400000 in
theorem new_ok (h : Nat) (w : World) (hh : h ≤ 8) :
    Calls Try.prog 60 #[.int .i64 h] w fun e w' => e = .returned (.tuple #[.pointer (some ⟨w.heap.size, 0, none⟩), .int .i64 0]) ∧ Rnd w' w.heap.size (List.replicate h false) 0 ∧ Below w.heap.size w w' := by
  have h0 : ¬ (h : Int) < 0 := by omega
  have h8 : ¬ (8 : Int) < h := by omega
  go_enter Try.func60, Try.ntmps60
  go_wp2
  go_ret2
  refine ⟨rfl, ⟨by simpa using hh, ?_⟩, new_alloc _ _⟩
  rw [← rnd_new hh]
  exact Blk.new _ _ _

end Go.Proofs.Ytekggimgobeggaa
