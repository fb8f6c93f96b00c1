/- Four bytes are the same as themselves. -/
import Derived.Test.YtnpaijbkhmnfpaaGreatGran
import Derived.ChangeKeysEq
namespace Go.Proofs.YtnpaijbkhmnfpaaGreat
open Go.RowKit

theorem Tryz.und92 : Tryz.prog.underlying 92 = some (.array 4 5) := by kernel_rfl
theorem Tryz.plain5 : Tryz.prog.plainKey 5 = true := by kernel_rfl

theorem Tryz.cells5' : Tryz.prog.cellsOf 5 = 1 := by kernel_rfl

theorem u8_wf {x : Int} (h : 0 ≤ x ∧ x ≤ 255) : (Lit.int .u8 x).wf = true := by
  have h1 : IntKind.u8.min = 0 := rfl
  have h2 : IntKind.u8.max = 255 := rfl
  simp only [Lit.wf, Bool.and_eq_true, decide_eq_true_eq]
  omega

theorem eq_four_self (a b c d : Int) (w : World) (ha : 0 ≤ a ∧ a ≤ 255) (hb : 0 ≤ b ∧ b ≤ 255) (hc : 0 ≤ c ∧ c ≤ 255) (hd : 0 ≤ d ∧ d ≤ 255) : (Op.equalIn 10000 92 (.agg #[.int .u8 a, .int .u8 b, .int .u8 c, .int .u8 d]) (.agg #[.int .u8 a, .int .u8 b, .int .u8 c, .int .u8 d])).run Tryz.prog w = .ok true w := by
  obtain ⟨i0, hi, hz0, hz1, hz2⟩ := info_parts Tryz.info5
  rw [run_equalIn_array (P := Tryz.prog) w 9999 (e := 5) (n := 4) _ _ Tryz.und92 hi]
  obtain ⟨r, h1, h2⟩ := run_eqItems_plain (P := Tryz.prog) w 9998 Tryz.plain5 #[.int .u8 a, .int .u8 b, .int .u8 c, .int .u8 d] #[.int .u8 a, .int .u8 b, .int .u8 c, .int .u8 d] (D := 1) (D' := 1) (List.range 4) [[.int .u8 a], [.int .u8 b], [.int .u8 c], [.int .u8 d]] [[.int .u8 a], [.int .u8 b], [.int .u8 c], [.int .u8 d]] (by simp [Tryz.cells5', List.range, List.range.loop, Program.keyLits, Tryz.underlying5, u8_wf ha, u8_wf hb, u8_wf hc, u8_wf hd]) (by simp [Tryz.cells5', List.range, List.range.loop, Program.keyLits, Tryz.underlying5, u8_wf ha, u8_wf hb, u8_wf hc, u8_wf hd])
  rw [h1, h2.2 rfl]

end Go.Proofs.YtnpaijbkhmnfpaaGreat
