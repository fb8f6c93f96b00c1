/- What switchyardlaw03.awake answers: true. -/
import Derived.Test.YtaabdffplfifkaaDoorWFields
import Derived.Test.YtaabdffplfifkaaDoorNumL
namespace Go.Proofs.YtaabdffplfifkaaDoor
open Go.RowKit

/-- may the byte stand at the place k of a name? -/
def okB (k : Nat) (c : UInt8) : Bool := (decide (97 ≤ c.toNat) && decide (c.toNat ≤ 122)) || (decide (65 ≤ c.toNat) && decide (c.toNat ≤ 90)) || decide (c.toNat = 95) || (decide (k ≠ 0) && decide (48 ≤ c.toNat) && decide (c.toNat ≤ 57))
def nameL (l : List UInt8) : Bool := decide (0 < l.length) && decide (l.length ≤ 16) && (List.range l.length).all fun k => okB k (l.getD k 0)
theorem okB_iff (k : Nat) (c : UInt8) : okB k c = true ↔ okAt k (c.toNat : Int) := by
  simp [okB, okAt]; omega
theorem nameL_iff (s : ByteArray) : nameL s.data.toList = true ↔ NameP s := by
  have hl := Lib.size_eq s
  unfold nameL NameP
  simp only [Bool.and_eq_true, decide_eq_true_eq, List.all_eq_true, List.mem_range, okB_iff]
  constructor
  · rintro ⟨⟨a, b⟩, c⟩; exact ⟨fun k hk => c k (by omega), by omega, by omega⟩
  · rintro ⟨a, b, c⟩; exact ⟨⟨by omega, by omega⟩, fun k hk => a k (by omega)⟩
theorem nameC (s : ByteArray) (w : World) :
    Calls Tryd.prog 11 #[.string s] w fun e w' => e = .returned (.bool (nameL s.data.toList)) ∧ Below w.heap.size w w' := name_any s w _ (nameL_iff s)
theorem refNameC (s : ByteArray) (w : World) (hs : s.size ≤ 9223372036854775807) :
    Calls Tryd.prog 20 #[.string s] w fun e w' => e = .returned (.bool (nameL s.data.toList)) ∧ w' = w := by
  cases h : nameL s.data.toList
  · exact refName_no s w hs fun e => by rw [(nameL_iff s).2 e] at h; cases h
  · exact refName_yes s w hs ((nameL_iff s).1 h)

def exLine : ByteArray := ⟨#[109, 111, 118, 32, 114, 49, 32, 114, 50, 32, 35, 32, 120]⟩
def exFields : List (Nat × List UInt8) := [(0, [109, 111, 118]), (4, [114, 49]), (7, [114, 50])]
def exT : List ByteArray := [⟨#[109, 111, 118]⟩, ⟨#[114, 49]⟩, ⟨#[114, 50]⟩]
theorem ex_texts : fTexts exFields = exT := rfl
theorem ex_cols : fCols exFields = [1, 5, 8] := by decide
theorem ex_len : exT.length = 3 := rfl
theorem ex_fields : fieldsL exLine.data.toList = exFields := by decide

set_option maxRecDepth 100000 in
set_option maxHeartbeats 4000000 in
theorem awake_any (w : World) : Calls Tryd.prog 16 #[] w fun e w' => e = .returned (.bool true) ∧ Below w.heap.size w w' := by
  have hf := fun w => fields_any exLine w (by decide)
  rw [ex_fields, ex_texts, ex_cols] at hf
  have hn := fun w => number_some ⟨#[45, 49, 50]⟩ (-12) (by decide) (by decide) w
  have hm := fun w => nameC ⟨#[95, 97, 49]⟩ w
  rw [show nameL (⟨#[95, 97, 49]⟩ : ByteArray).data.toList = true by decide] at hm
  go_enter Tryd.func16, Tryd.ntmps16
  go_wp2_with fail
  refine (hf _).mono ?_
  rintro e w1 ⟨vf, vc, rfl, hof, hoc, hb1⟩
  go_wp2_with fail
  refine (hn _).mono ?_
  rintro e w2 ⟨rfl, hb2⟩
  have hof2 := hof.below hb2
  have hoc2 := hoc.below hb2
  have hbw2 := below_step hb1 hb2
  clear hof hoc hb1 hb2
  obtain ⟨p1, cap1, rfl, r1, _, _⟩ := hof2.slice
  obtain ⟨p2, cap2, rfl, r2, _, _⟩ := hoc2.slice
  clear hof2 hoc2
  rw [show (strs exT).length = 3 from rfl, show (nums [1, 5, 8]).length = 3 from rfl] at *
  go_wp2_with fail
  have hl := GOwn.lit 9 w2 (strs exT) (by decide)
  have hnw := new_alloc w2 (.cells (strs exT).toArray 9)
  refine (sameTexts_self p1 _ 3 cap1 3 exT _ (by decide) rfl (r1.below hnw) hl.row).mono ?_
  rintro e w3 ⟨rfl, m3, rfl⟩
  have r3 := (r2.below hnw).drewN m3
  have hbw3 := below_draws (below_step hbw2 hnw) m3
  generalize (w2.alloc (.cells (strs exT).toArray 9)).drewN m3 = w4 at *
  clear hl hnw r1 r2 hbw2
  go_wp2_with fail
  have hl := GOwn.lit 3 w4 (nums [1, 5, 8]) (by decide)
  have hnw := new_alloc w4 (.cells (nums [1, 5, 8]).toArray 3)
  refine (sameInts_self p2 _ 3 cap2 3 [1, 5, 8] _ (by decide) rfl (r3.below hnw) hl.row).mono ?_
  rintro e w5 ⟨rfl, m5, rfl⟩
  have hbw5 := below_draws (below_step hbw3 hnw) m5
  generalize (w4.alloc (.cells (nums [1, 5, 8]).toArray 3)).drewN m5 = w6 at *
  clear hl hnw r3 hbw3
  go_wp2_with fail
  refine (hm _).mono ?_
  rintro e w7 ⟨rfl, hb7⟩
  go_wp2_with fail
  go_ret
  exact ⟨rfl, below_step hbw5 hb7⟩

end Go.Proofs.YtaabdffplfifkaaDoor
