/- FetchWhole, as lists. -/
import Derived.Test.YteeeedphhaphpaaHldL
namespace Go.Proofs.Yteeeedphhaphpaa
open Go.RowKit Go.Maps

/-- how many bytes are there behind i steps -/
def mF (zs : List Int) (pc i : Nat) : Nat := min (4 * i - pc % 4) (lenB (zs.getD pc 0))
theorem mF_zero (zs : List Int) (pc : Nat) : mF zs pc 0 = 0 := by unfold mF; omega
theorem mF_le (zs : List Int) (pc i : Nat) : mF zs pc i ≤ lenB (zs.getD pc 0) ∧ mF zs pc i ≤ 6 := by
  have := (lenB_in (zs.getD pc 0)).2
  unfold mF; omega
theorem mF_three (zs : List Int) (pc : Nat) : mF zs pc 3 = lenB (zs.getD pc 0) := by
  have := (lenB_in (zs.getD pc 0)).2
  unfold mF; omega
theorem done_pad (zs : List Int) (pc m : Nat) : doneB (padF zs pc m) = (decide (0 < m) && decide (lenB (zs.getD pc 0) ≤ m)) := by
  unfold doneB
  rw [padF_len]
  by_cases h : 0 < m
  · rw [padF_at _ _ h, Nat.add_zero]
  · simp [h]
theorem done_end {zs : List Int} {pc i : Nat} (h : doneB (padF zs pc (mF zs pc i)) = true) : mF zs pc i = lenB (zs.getD pc 0) := by
  rw [done_pad] at h
  simp only [Bool.and_eq_true, decide_eq_true_eq] at h
  have := (mF_le zs pc i).1
  omega
theorem done_full (zs : List Int) (pc : Nat) : doneB (padF zs pc (lenB (zs.getD pc 0))) = true := by
  rw [done_pad]
  have := (lenB_in (zs.getD pc 0)).1
  simp only [Bool.and_eq_true, decide_eq_true_eq]; omega
theorem mF_next {zs : List Int} {pc i : Nat} (h : doneB (padF zs pc (mF zs pc i)) = false) : min (mF zs pc i + 4 - (pc + mF zs pc i) % 4) (lenB (zs.getD pc 0)) = mF zs pc (i + 1) := by
  rw [done_pad] at h
  simp only [Bool.and_eq_false_iff, decide_eq_false_iff_not] at h
  have h1 := lenB_in (zs.getD pc 0)
  unfold mF at *
  by_cases h0 : i = 0
  · subst h0; simp
  · omega
theorem mF_grows {zs : List Int} {pc i : Nat} (h : doneB (padF zs pc (mF zs pc i)) = false) : mF zs pc i < mF zs pc (i + 1) ∧ mF zs pc (i + 1) ≤ mF zs pc i + 4 := by
  rw [← mF_next h]
  rw [done_pad] at h
  simp only [Bool.and_eq_false_iff, decide_eq_false_iff_not] at h
  have h1 := lenB_in (zs.getD pc 0)
  have h2 := (mF_le zs pc i).1
  omega
theorem stp_pad {L : List Ln} {zs : List Int} {pc i : Nat} (hold : Bool) (hc : Clean zs L) (hz : zs.length ≤ 2000) (hd : doneB (padF zs pc (mF zs pc i)) = false) (h : pc + mF zs pc i < zs.length) :
    ∃ is L2, stpR L zs pc (padF zs pc (mF zs pc i)) hold = ⟨padF zs pc (mF zs pc (i + 1)), (((pc + mF zs pc i) / 4 : Nat) : Int), is, 0, L2⟩ ∧ Clean zs L2 ∧ (is = true → hold = true) ∧ L2.length ≤ L.length + 1 := by
  obtain ⟨t1, t2, t3⟩ := tak_clean hc (g := (pc + mF zs pc i) / 4) (by omega) hold
  have hl : (takR L zs (((pc + mF zs pc i) / 4 : Nat) : Int) hold).L.length ≤ L.length + 1 := by
    rcases takR_cases L (((pc + mF zs pc i) / 4 : Nat) : Int) hold with ⟨f, hf, rfl⟩ | hno
    · rw [takR_held hf]; exact Nat.le_succ _
    · rw [takR_in hno (by omega)]; exact takL_len _ _ _
  refine ⟨_, _, ?_, t2, t3, hl⟩
  unfold stpR
  rw [if_neg (by rw [hd]; decide), padF_len, if_neg (by omega), t1, out_pad hd, mF_next hd]
theorem stp_pad_out {L : List Ln} {zs : List Int} {pc i : Nat} (hold : Bool) (hd : doneB (padF zs pc (mF zs pc i)) = false) (h : zs.length ≤ pc + mF zs pc i) :
    stpR L zs pc (padF zs pc (mF zs pc i)) hold = ⟨[], 0, false, 210, L⟩ := by
  unfold stpR
  rw [if_neg (by rw [hd]; decide), padF_len, if_pos h]
/-- a list of flags in memory -/
def BRow (w : World) (p : Option Addr) (hs : List Bool) : Prop :=
  0 < hs.length → ∃ b o, p = some ⟨b, o, none⟩ ∧ ∀ i, i < hs.length → w.cell? ⟨b, o + i, none⟩ = some (.bool (hs.getD i false))
theorem BRow.below {w w' : World} {p : Option Addr} {hs : List Bool} (h : BRow w p hs) (hb : Below w.heap.size w w') : BRow w' p hs := fun h0 => by
  obtain ⟨b, o, rfl, hc⟩ := h h0
  exact ⟨b, o, rfl, fun i hi => by rw [hb.cell (p := ⟨b, o + i, none⟩) (cell_lt (hc i hi))]; exact hc i hi⟩
/-- Step, with the answer's room -/
theorem FSt.stepc {w0 w : World} {q mg l b : Nat} {L : List Ln} {xs : List Int} (h : FSt w0 w q mg l b L xs) (pc c : Nat) (p : Option Addr) (hv : List Int) (hold : Bool) (hlen : L.length ≤ 1048576) (hx6 : xs.length ≤ 65536) (hpc : pc ≤ 4294967295) (hn : hv.length ≤ 140737488355328) (hrow : Row w p hv) :
    Calls Try.prog 9 #[.pointer (some ⟨q, 0, none⟩), .pointer (some ⟨l, 0, none⟩), .int .u32 pc, .slice p hv.length c, .bool hold] w fun e w' => ∃ p' c', e = .returned (.tuple #[.slice p' (stpR L xs pc hv hold).out.length c', .int .i64 (stpR L xs pc hv hold).g, .bool (stpR L xs pc hv hold).is, .int .i64 (stpR L xs pc hv hold).e]) ∧ Row w' p' (stpR L xs pc hv hold).out ∧ (stpR L xs pc hv hold).out.length ≤ c' ∧ c' ≤ 9223372036854775807 ∧ FSt w0 w' q mg l b (stpR L xs pc hv hold).L xs ∧ ∀ r ys, Row w r ys → Row w' r ys := by
  refine (step_any _ _ q mg l b pc c p L xs hv hold w h.lin h.mem hlen hx6 hpc hn hrow).mono ?_
  rintro e w' ⟨v, rfl, ho, hl, hk⟩
  rcases ho.shape with ⟨rfl, e2⟩ | ⟨g, cap, rfl, ho'⟩
  · rw [e2]
    exact ⟨none, 0, rfl, fun h => absurd h (Nat.lt_irrefl 0), Nat.le_refl _, by decide, h.swap hl hk, fun r ys hr => hr.lines h.lin.isMap hk⟩
  · obtain ⟨_, _, _, h3, h4, _⟩ := ho'.parts
    exact ⟨_, _, rfl, ho'.row, h3, h4, h.swap hl hk, fun r ys hr => hr.lines h.lin.isMap hk⟩

end Go.Proofs.Yteeeedphhaphpaa
