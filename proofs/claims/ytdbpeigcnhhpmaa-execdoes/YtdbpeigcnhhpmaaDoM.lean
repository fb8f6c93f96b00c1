/- exec.Do: how its variables lie when it begins. -/
import Derived.Test.YtdbpeigcnhhpmaaDoL
import Derived.Deep.CutBlock
import Derived.Lib.Hide
namespace Go.Proofs.Ytdbpeigcnhhpmaa
open Go.RowKit

/-- how Do's variables lie when it begins -/
theorem DSt.start (w w0 : World) (o a b n : Int) (R S : List Int) (p : Option Addr) (s c : Nat) (lR : R.length = 8) (h0 : w0 = (((w.alloc (.cells #[.int .u8 o, .int .u8 a, .int .u8 b, .int .i32 n] 24)).alloc (.cells (rgA R (.slice p s c)) 32)).alloc (.cells noRegs 32)).alloc (.cells (efA 0) 37)) :
    (∀ w1 v, POwnV w1 (w.heap.size + 4) v S → Below w0.heap.size w0 w1 → DSt w w.heap.size o a b n R v S (w1.setCell ⟨w.heap.size + 1, 8, none⟩ v)) ∧ w0.heap.size = w.heap.size + 4 ∧ w0.cell? ⟨w.heap.size + 1, 8, none⟩ = some (.slice p s c) ∧ Below w.heap.size w w0 ∧ (∀ w1, Below w0.heap.size w0 w1 → Blk w1 (w.heap.size + 1) 32 (rgA R (.slice p s c))) := by
  have b1 : Blk (w.alloc (.cells #[.int .u8 o, .int .u8 a, .int .u8 b, .int .i32 n] 24)) w.heap.size 24 #[.int .u8 o, .int .u8 a, .int .u8 b, .int .i32 n] := Blk.new _ _ _
  have s1 := size_one w (.cells #[.int .u8 o, .int .u8 a, .int .u8 b, .int .i32 n] 24)
  have g1 := new_alloc w (.cells #[.int .u8 o, .int .u8 a, .int .u8 b, .int .i32 n] 24)
  generalize w.alloc (.cells #[.int .u8 o, .int .u8 a, .int .u8 b, .int .i32 n] 24) = W1 at *
  have b2 := Blk.new W1 32 (rgA R (.slice p s c))
  have s2 := size_one W1 (.cells (rgA R (.slice p s c)) 32)
  have g2 := new_alloc W1 (.cells (rgA R (.slice p s c)) 32)
  generalize W1.alloc (.cells (rgA R (.slice p s c)) 32) = W2 at *
  have b3 := Blk.new W2 32 noRegs
  have s3 := size_one W2 (.cells noRegs 32)
  have g3 := new_alloc W2 (.cells noRegs 32)
  generalize W2.alloc (.cells noRegs 32) = W3 at *
  have b4 := Blk.new W3 37 (efA 0)
  have s4 := size_one W3 (.cells (efA 0) 37)
  have g4 := new_alloc W3 (.cells (efA 0) 37)
  rw [← h0] at b4 s4 g4
  rw [s1] at b2
  rw [s2, s1] at b3
  rw [s3, s2, s1] at b4
  have e0 : w0.heap.size = w.heap.size + 4 := by omega
  have B1 := ((b1.grow g2).grow g3).grow g4
  have B2 := (b2.grow g3).grow g4
  have B3 := b3.grow g4
  have hb : Below w.heap.size w w0 := below_step (below_step (below_step g1 g2) g3) g4
  refine ⟨fun w1 v ho h1 => ?_, e0, by rw [B2.cell, rgA_last R _ lR], hb, fun w1 h1 => B2.grow h1⟩
  refine ⟨(B1.grow h1).other (by omega) _ _, ?_, (B3.grow h1).other (by omega) _ _, (b4.grow h1).other (by omega) _ _, ho.keptFar (grown_setCell _ _ _ _) (by omega), (below_step hb h1).grown (grown_setCell _ _ _ _) (by have := h1.size; omega) (fun k hk => by cases hk; omega), lR⟩
  have := (B2.grow h1).set 8 v
  rw [rgA_stack R _ _ lR] at this
  exact this

theorem spanN_right {o : Nat} {a b n : Int} (h : rightB o a b n = true) : spanN o a b n = lenN o := by simp [spanN, h]
theorem flt_right {o : Nat} {a b n : Int} {s d : Nat} (h : fltL o a b n s d = 0) : rightB o a b n = true := by
  cases hR : rightB o a b n
  · simp [fltL, hR] at h
  · rfl
theorem right_reg {o : Nat} {a b : Nat} {n : Int} (h : rightB o a b n = true) : a < 8 ∧ b < 8 := by
  obtain ⟨_, h1, h2, _⟩ := rightB_parts h
  simp only [regB] at h1 h2
  split at h1 <;> split at h2 <;> simp at h1 h2 <;> omega

end Go.Proofs.Ytdbpeigcnhhpmaa
