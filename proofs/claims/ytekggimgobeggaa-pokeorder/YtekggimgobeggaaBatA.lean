/- A batch in memory; none, New, Len, Copy, Clear, direction. -/
import Derived.Test.YtekggimgobeggaaBatL
import Derived.Test.YtekggimgobeggaaBas
import Derived.Test.YtekggimgobeggaaBlk
import Derived.Test.YtekggimgobeggaaGen
import Derived.Deep.RegionHeld3
import Derived.ChangeKeysEq
import Derived.BigQuiet
import Derived.Lib.Hide
import Derived.Deep.QuietTactic
namespace Go.Proofs.Ytekggimgobeggaa
open Go.RowKit

/-- a site's cells -/
def siC (s : Si) : List Value := [.int .i64 s.key, .int .i64 s.at_, .int .i64 s.to_]
def siR (L : List Si) : List Value := L.flatMap siC
theorem siR_len (L : List Si) : (siR L).length = L.length * 3 := by
  induction L with
  | nil => rfl
  | cons q L ih =>
    unfold siR at *
    rw [List.flatMap_cons, List.length_append, ih, List.length_cons]
    have : (siC q).length = 3 := rfl
    omega
theorem siR_two (L M : List Si) : siR (L ++ M) = siR L ++ siR M := by simp [siR]
theorem siR_at : ∀ (L : List Si) (i : Nat) (h : i < L.length) (j : Nat), j < 3 → (siR L)[i * 3 + j]? = (siC L[i])[j]?
  | [], i, h, _, _ => absurd h (by simp)
  | q :: L, 0, _, j, hj => by
    unfold siR
    rw [List.flatMap_cons, Nat.zero_mul, Nat.zero_add, List.getElem?_append_left (by show j < 3; exact hj)]
    rfl
  | q :: L, i + 1, h, j, hj => by
    have h' : i < L.length := by simpa using h
    have ih := siR_at L i h' j hj
    unfold siR at *
    have h3 : (siC q).length = 3 := rfl
    rw [List.flatMap_cons, List.getElem?_append_right (by rw [h3]; omega), h3, show (i + 1) * 3 + j - 3 = i * 3 + j by omega, ih]
    rfl
theorem one_siR (L : List Si) : ∀ v ∈ siR L, v.oneCell' = true := by
  intro v hv
  obtain ⟨s, _, h⟩ := List.mem_flatMap.1 hv
  simp only [siC, List.mem_cons, List.not_mem_nil, or_false] at h
  rcases h with rfl | rfl | rfl <;> rfl
/-- the batch's sites, and noughts behind -/
def padL (L : List Si) : List Si := L ++ List.replicate (4 - L.length) ⟨0, 0, 0⟩
theorem padL_len {L : List Si} (h : L.length ≤ 4) : (padL L).length = 4 := by simp [padL]; omega
theorem padL_at (L : List Si) (i : Nat) (hi : i < L.length) (hp : i < (padL L).length) : (padL L)[i] = L[i] := List.getElem_append_left hi
/-- a batch's cells -/
def batL (L : List Si) : List Value := .bool true :: .int .i64 L.length :: siR (padL L)
theorem batL_len {L : List Si} (h : L.length ≤ 4) : (batL L).length = 14 := by simp [batL, siR_len, padL_len h]
structure Bat (w : World) (q : Nat) (L : List Si) : Prop where
  le : L.length ≤ 4
  srt : Srt L
  blk : Blk w q 141 (batL L).toArray
theorem Bat.c0 {w : World} {q : Nat} {L : List Si} (h : Bat w q L) : w.cell? ⟨q, 0, none⟩ = some (.bool true) := by rw [h.blk.cell]; simp [batL]
theorem Bat.c1 {w : World} {q : Nat} {L : List Si} (h : Bat w q L) : w.cell? ⟨q, 1, none⟩ = some (.int .i64 L.length) := by rw [h.blk.cell]; simp [batL]
theorem Bat.at {w : World} {q : Nat} {L : List Si} (h : Bat w q L) (i : Nat) (hi : i < L.length) (j : Nat) (hj : j < 3) : w.cell? ⟨q, 2 + i * 3 + j, none⟩ = (siC L[i])[j]? := by
  have hp : i < (padL L).length := by rw [padL_len h.le]; have := h.le; omega
  have he : (padL L)[i] = L[i] := padL_at L i hi hp
  rw [h.blk.cell, batL, List.getElem?_toArray, show 2 + i * 3 + j = i * 3 + j + 1 + 1 by omega, List.getElem?_cons_succ, List.getElem?_cons_succ, siR_at _ _ hp j hj, he]
theorem Bat.lt {w : World} {q : Nat} {L : List Si} (h : Bat w q L) : q < w.heap.size := h.blk.lt
theorem Bat.below {w w' : World} {q : Nat} {L : List Si} (h : Bat w q L) (hb : Below w.heap.size w w') : Bat w' q L := ⟨h.le, h.srt, h.blk.grow hb⟩
theorem Bat.kept {w w' : World} {q k : Nat} {L : List Si} (h : Bat w q L) (hg : w.grownBy w' (some k)) (hne : q ≠ k) : Bat w' q L := ⟨h.le, h.srt, h.blk.kept hg (fun e => hne (by injection e))⟩
theorem Bat.drewN {w : World} {q : Nat} {L : List Si} (h : Bat w q L) (k : Nat) : Bat (w.drewN k) q L := ⟨h.le, h.srt, h.blk⟩

set_option maxHeartbeats 400000 in
theorem bnone_no (q : Nat) (w : World) (hc : w.cell? ⟨q, 0, none⟩ = some (.bool true)) :
    Calls Try.prog 85 #[.pointer (some ⟨q, 0, none⟩)] w fun e w' => e = .returned (.bool false) ∧ w' = w := by
  go_enter Try.func85, Try.ntmps85
  go_wp2
  go_ret
  exact ⟨rfl, rfl⟩
set_option maxHeartbeats 400000 in
theorem bnone_zero (q : Nat) (w : World) (hc : w.cell? ⟨q, 0, none⟩ = some (.bool false)) :
    Calls Try.prog 85 #[.pointer (some ⟨q, 0, none⟩)] w fun e w' => e = .returned (.bool true) ∧ w' = w := by
  go_enter Try.func85, Try.ntmps85
  go_wp2
  go_ret
  exact ⟨rfl, rfl⟩
set_option maxHeartbeats 400000 in
theorem bnone_nil (w : World) :
    Calls Try.prog 85 #[.pointer none] w fun e w' => e = .returned (.bool true) ∧ w' = w := by
  go_enter Try.func85, Try.ntmps85
  go_wp2
  go_ret
  exact ⟨rfl, rfl⟩
set_option maxHeartbeats 400000 in
theorem dir_any (up : Bool) (w : World) : Calls Try.prog 94 #[.bool up] w fun e w' => e = .returned (.int .i64 (dirK up)) ∧ w' = w := by
  cases up
  · go_enter Try.func94, Try.ntmps94
    go_wp2
    go_ret
    exact ⟨rfl, rfl⟩
  · go_enter Try.func94, Try.ntmps94
    go_wp2
    go_ret
    exact ⟨rfl, rfl⟩
def zeros14 : Array Value := #[.bool true, .int .i64 0, .int .i64 0, .int .i64 0, .int .i64 0, .int .i64 0, .int .i64 0, .int .i64 0, .int .i64 0, .int .i64 0, .int .i64 0, .int .i64 0, .int .i64 0, .int .i64 0]
theorem zeros14_one : zeros14.all (·.oneCell') = true := by kernel_rfl
theorem zeros_bat : zeros14 = (batL []).toArray := rfl
set_option maxHeartbeats 400000 in
theorem bnew_any (w : World) : Calls Try.prog 53 #[] w fun e w' => e = .returned (.pointer (some ⟨w.heap.size, 0, none⟩)) ∧ Bat w' w.heap.size [] ∧ Below w.heap.size w w' := by
  go_enter Try.func53, Try.ntmps53
  go_wp2
  go_ret
  exact ⟨rfl, ⟨by decide, Srt.nil, Blk.new _ _ _⟩, new_alloc _ _⟩
set_option maxHeartbeats 400000 in
theorem blen_any (q : Nat) (L : List Si) (w : World) (h : Bat w q L) : Calls Try.prog 78 #[.pointer (some ⟨q, 0, none⟩)] w fun e w' => e = .returned (.int .i64 L.length) ∧ w' = w := by
  have h24 := bnone_no q w h.c0
  have c1 := h.c1
  clear h
  go_enter Try.func78, Try.ntmps78
  go_wp2_with (go_at_call 85; refine h24.mono ?_; rintro e w1 ⟨rfl, rfl⟩)
  go_ret
  exact ⟨rfl, rfl⟩
set_option maxHeartbeats 400000 in
theorem bclear_any (q : Nat) (L : List Si) (w : World) (h : Bat w q L) : Calls Try.prog 83 #[.pointer (some ⟨q, 0, none⟩)] w fun e w' => e = .returned (.int .i64 L.length) ∧ Bat w' q [] ∧ w.grownBy w' (some q) := by
  have h24 := bnone_no q w h.c0
  have c1 := h.c1
  have HB := Hid.in h.blk
  have hs : (batL L).toArray.size = 14 := by simpa using batL_len h.le
  clear h
  go_enter Try.func83, Try.ntmps83
  go_wp2_with (first | (go_at_call 85; refine h24.mono ?_; rintro e w1 ⟨rfl, rfl⟩) | (refine step_store_blk HB.out rfl 141 _ _ rfl rfl rfl zeros14 rfl (by kernel_rfl) (by rw [hs]; rfl) zeros14_one ?_; intro w2 hb2 hk2; refine Hid.out ?_))
  refine Lib.hid ?_
  have HB2 := Hid.in hb2
  have HK2 := Hid.in hk2
  clear hb2 hk2
  go_wp2
  go_ret
  exact ⟨rfl, ⟨by decide, Srt.nil, HB2.out⟩, HK2.out⟩
set_option maxHeartbeats 400000 in
theorem bcopy_any (q : Nat) (L : List Si) (w : World) (h : Bat w q L) : Calls Try.prog 54 #[.pointer (some ⟨q, 0, none⟩)] w fun e w' => e = .returned (.pointer (some ⟨w.heap.size, 0, none⟩)) ∧ Bat w' w.heap.size L ∧ Below w.heap.size w w' := by
  have h24 := bnone_no q w h.c0
  have hs := batL_len h.le
  have hb := h.blk
  have hle := h.le
  have hsr := h.srt
  have hall : ∀ v ∈ batL L, v.oneCell' = true := by
    intro v hv
    simp only [batL, List.mem_cons] at hv
    rcases hv with rfl | rfl | hv
    · rfl
    · rfl
    · exact one_siR _ v hv
  have HA : Hid ((batL L).toArray.all (·.oneCell') = true) := by
    show _ = true
    rw [Array.all_eq_true_iff_forall_mem]
    intro v hv
    exact hall v (by simpa using hv)
  have HB := Hid.in hb
  have HX : Hid (∀ w', Blk w' w.heap.size 141 (batL L).toArray → Bat w' w.heap.size L) := fun w' hb => ⟨hle, hsr, hb⟩
  clear h hle hsr hall hb
  generalize batL L = B at *
  have hsz : B.toArray.size = 14 := by simpa using hs
  clear hs
  go_enter Try.func54, Try.ntmps54
  go_wp2_with (first | (go_at_call 85; refine h24.mono ?_; rintro e w1 ⟨rfl, rfl⟩) | (refine step_load_blk HB.out rfl 141 _ rfl rfl B.toArray (List.prefix_refl _) _ Try.underlying141 rfl (by rw [hsz]; kernel_rfl) ?_) | (refine step_store_blk (Blk.new _ _ _) rfl 141 _ _ rfl rfl rfl B.toArray rfl (by rw [hsz]; kernel_rfl) (by rw [hsz]; rfl) HA.out ?_; intro w2 hb2 hk2; refine Hid.out ?_))
  refine Lib.hid ?_
  have HB2 := Hid.in hb2
  have HK2 := Hid.in ((new_alloc _ _).trans (below_grown hk2 (Nat.le_refl _) (by simp)))
  clear hb2 hk2
  go_wp2
  go_ret
  exact ⟨rfl, HX.out _ HB2.out, HK2.out⟩
end Go.Proofs.Ytekggimgobeggaa
