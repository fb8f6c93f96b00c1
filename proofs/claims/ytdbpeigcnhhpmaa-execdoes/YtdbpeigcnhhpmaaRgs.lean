/- Registers (api.Regs): eight numbers and a stack of places; how they are compared and copied (switchyardkit.SameRegs, CopyRegs). -/
import Derived.Test.YtdbpeigcnhhpmaaWrd
import Derived.Test.YtdbpeigcnhhpmaaBlk
import Derived.Deep.RegionHeld3
import Derived.ChangeKeysEq
namespace Go.Proofs.Ytdbpeigcnhhpmaa
open Go.RowKit

theorem size_one (w : World) (o : Obj) : (w.alloc o).heap.size = w.heap.size + 1 := by simp
theorem Hid.in {p : Prop} (h : p) : Hid p := h

/-- each a number of 32 bits -/
def Wds (R : List Int) : Prop := ∀ x ∈ R, 0 ≤ x ∧ x ≤ 4294967295
/-- registers: their numbers, then the stack -/
def rgA (R : List Int) (v : Value) : Array Value := (wrds R ++ [v]).toArray
def rgV (R : List Int) (v : Value) : Value := .agg (rgA R v)
theorem rgV_eight (r0 r1 r2 r3 r4 r5 r6 r7 : Int) (v : Value) : rgV [r0, r1, r2, r3, r4, r5, r6, r7] v = .agg #[.int .u32 r0, .int .u32 r1, .int .u32 r2, .int .u32 r3, .int .u32 r4, .int .u32 r5, .int .u32 r6, .int .u32 r7, v] := rfl
theorem eight {R : List Int} (h : R.length = 8) : ∃ r0 r1 r2 r3 r4 r5 r6 r7, R = [r0, r1, r2, r3, r4, r5, r6, r7] := by
  match R, h with
  | [r0, r1, r2, r3, r4, r5, r6, r7], _ => exact ⟨r0, r1, r2, r3, r4, r5, r6, r7, rfl⟩

theorem Try.und29 : Try.prog.underlying 29 = some (.array 8 25) := by kernel_rfl
theorem Try.plain25 : Try.prog.plainKey 25 = true := by kernel_rfl
theorem Try.cells25' : Try.prog.cellsOf 25 = 1 := by kernel_rfl
theorem u32_wf {x : Int} (h : 0 ≤ x ∧ x ≤ 4294967295) : (Lit.int .u32 x).wf = true := by
  have h1 : IntKind.u32.min = 0 := rfl
  have h2 : IntKind.u32.max = 4294967295 := rfl
  simp only [Lit.wf, Bool.and_eq_true, decide_eq_true_eq]
  omega

theorem eq_eight (r0 r1 r2 r3 r4 r5 r6 r7 s0 s1 s2 s3 s4 s5 s6 s7 : Int) (w : World) (hR : Wds [r0, r1, r2, r3, r4, r5, r6, r7]) (hS : Wds [s0, s1, s2, s3, s4, s5, s6, s7]) :
    (Op.equalIn 10000 29 (.agg #[.int .u32 r0, .int .u32 r1, .int .u32 r2, .int .u32 r3, .int .u32 r4, .int .u32 r5, .int .u32 r6, .int .u32 r7]) (.agg #[.int .u32 s0, .int .u32 s1, .int .u32 s2, .int .u32 s3, .int .u32 s4, .int .u32 s5, .int .u32 s6, .int .u32 s7])).run Try.prog w = .ok (sameB [r0, r1, r2, r3, r4, r5, r6, r7] [s0, s1, s2, s3, s4, s5, s6, s7]) w := by
  obtain ⟨i0, hi, hz0, hz1, hz2⟩ := info_parts Try.info25
  rw [run_equalIn_array (P := Try.prog) w 9999 (e := 25) (n := 8) _ _ Try.und29 hi]
  simp only [Wds, List.mem_cons, List.not_mem_nil, or_false, forall_eq_or_imp, forall_eq] at hR hS
  obtain ⟨a0, a1, a2, a3, a4, a5, a6, a7⟩ := hR
  obtain ⟨b0, b1, b2, b3, b4, b5, b6, b7⟩ := hS
  obtain ⟨r, h1, h2⟩ := run_eqItems_plain (P := Try.prog) w 9998 Try.plain25 #[.int .u32 r0, .int .u32 r1, .int .u32 r2, .int .u32 r3, .int .u32 r4, .int .u32 r5, .int .u32 r6, .int .u32 r7] #[.int .u32 s0, .int .u32 s1, .int .u32 s2, .int .u32 s3, .int .u32 s4, .int .u32 s5, .int .u32 s6, .int .u32 s7] (D := 1) (D' := 1) (List.range 8)
    [[.int .u32 r0], [.int .u32 r1], [.int .u32 r2], [.int .u32 r3], [.int .u32 r4], [.int .u32 r5], [.int .u32 r6], [.int .u32 r7]] [[.int .u32 s0], [.int .u32 s1], [.int .u32 s2], [.int .u32 s3], [.int .u32 s4], [.int .u32 s5], [.int .u32 s6], [.int .u32 s7]]
    (by simp [Try.cells25', List.range, List.range.loop, Program.keyLits, Try.underlying25, u32_wf a0, u32_wf a1, u32_wf a2, u32_wf a3, u32_wf a4, u32_wf a5, u32_wf a6, u32_wf a7])
    (by simp [Try.cells25', List.range, List.range.loop, Program.keyLits, Try.underlying25, u32_wf b0, u32_wf b1, u32_wf b2, u32_wf b3, u32_wf b4, u32_wf b5, u32_wf b6, u32_wf b7])
  rw [h1]
  have : r = sameB [r0, r1, r2, r3, r4, r5, r6, r7] [s0, s1, s2, s3, s4, s5, s6, s7] := by
    rw [Bool.eq_iff_iff, h2]
    simp [sameB]
  rw [this]

set_option maxHeartbeats 1000000 in
theorem sameRegs_any (R S : List Int) (p q : Option Addr) (n c m d : Nat) (xs ys : List Int) (w : World) (lR : R.length = 8) (lS : S.length = 8) (hR : Wds R) (hS : Wds S)
    (hx : xs.length = n) (hy : ys.length = m) (hn : n ≤ 9223372036854775807) (h1 : PRow w p xs) (h2 : PRow w q ys) :
    Calls Try.prog 11 #[rgV R (.slice p n c), rgV S (.slice q m d)] w fun e w' => e = .returned (.bool (sameB R S && sameB xs ys)) ∧ Below w.heap.size w w' := by
  obtain ⟨r0, r1, r2, r3, r4, r5, r6, r7, rfl⟩ := eight lR
  obtain ⟨s0, s1, s2, s3, s4, s5, s6, s7, rfl⟩ := eight lS
  rw [rgV_eight, rgV_eight]
  have heq := fun w => eq_eight r0 r1 r2 r3 r4 r5 r6 r7 s0 s1 s2 s3 s4 s5 s6 s7 w hR hS
  have hcon := fun W (hb : Below w.heap.size w W) => samePlaces_any p q n c m d xs ys W hx hy hn (h1.below hb) (h2.below hb)
  clear hx hy h1 h2 hR hS lR lS
  generalize sameB xs ys = t at *
  cases hs : sameB [r0, r1, r2, r3, r4, r5, r6, r7] [s0, s1, s2, s3, s4, s5, s6, s7]
  · rw [hs] at heq
    clear hs
    go_enter Try.func11, Try.ntmps11
    go_wp2
    go_ret
    exact ⟨rfl, below_alloc (new_alloc _ _) _⟩
  · rw [hs] at heq
    clear hs
    go_enter Try.func11, Try.ntmps11
    go_wp2_with (go_at_call 23; refine (hcon _ (below_alloc (new_alloc _ _) _)).mono ?_; rintro e w1 ⟨rfl, nq, rfl⟩)
    go_ret
    exact ⟨rfl, below_draws (below_alloc (new_alloc _ _) _) _⟩

end Go.Proofs.Ytdbpeigcnhhpmaa
