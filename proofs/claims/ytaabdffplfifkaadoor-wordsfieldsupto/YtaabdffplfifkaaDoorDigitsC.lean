/- What switchyardlaw03.digits answers, for every number. -/
import Derived.Test.YtaabdffplfifkaaDoorDigits
import Derived.Test.YtaabdffplfifkaaDoorSame
namespace Go.Proofs.YtaabdffplfifkaaDoor
open Go.RowKit

/-- where the loop stands: m is left, l has come -/
def DAt (n m : Int) (l : List UInt8) : Prop := (l = [] ∧ m = n) ∨ (l ≠ [] ∧ m ≠ 0 ∧ dig n.natAbs = dig m.natAbs ++ l ∧ (n < 0 ↔ m < 0)) ∨ (l ≠ [] ∧ m = 0 ∧ dig n.natAbs = l)

theorem tdiv_neg (m : Int) (h : m < 0) : m.tdiv 10 = -((-m) / 10) := by
  have e : m = -(-m) := by omega
  rw [e, Int.neg_tdiv, Int.tdiv_eq_ediv_of_nonneg (by omega), Int.neg_neg]
theorem tmod_neg (m : Int) (h : m < 0) : m.tmod 10 = -((-m) % 10) := by
  have e : m = -(-m) := by omega
  rw [e, Int.neg_tmod, Int.tmod_eq_emod_of_nonneg (by omega), Int.neg_neg]
def textLen : Value → Nat
  | .string s => s.size
  | _ => 0
/-- what goes down -/
def dmeas (t i : Value) : Nat := 2 * (intOf i).natAbs + (if textLen t = 0 then 1 else 0)
theorem DAt.step {n m : Int} {l : List UInt8} (h : DAt n m l) (hgo : m ≠ 0 ∨ l = []) : DAt n (m.tdiv 10) (dch m.natAbs :: l) := by
  have hd : (m.tdiv 10).natAbs = m.natAbs / 10 := by rw [Int.natAbs_tdiv]; rfl
  have hs : m.natAbs / 10 ≠ 0 → (m < 0 ↔ m.tdiv 10 < 0) := fun hne => by
    rw [← hd] at hne
    rcases Int.lt_or_le m 0 with h0 | h0
    · have : m.tdiv 10 = -((-m) / 10) := tdiv_neg m h0
      omega
    · have := Int.tdiv_nonneg (a := m) (b := 10) h0 (by decide)
      omega
  have hz : m.natAbs / 10 = 0 → m.tdiv 10 = 0 := fun e => by rw [← hd] at e; omega
  have key : ∀ tl, dig n.natAbs = dig m.natAbs ++ tl → (n < 0 ↔ m < 0) → DAt n (m.tdiv 10) (dch m.natAbs :: tl) := fun tl e es => by
    by_cases hb : m.natAbs < 10
    · refine .inr (.inr ⟨by simp, hz (by omega), ?_⟩)
      rw [e, dig_small _ hb]; rfl
    · have hne : m.natAbs / 10 ≠ 0 := by omega
      refine .inr (.inl ⟨by simp, fun e' => hne (by rw [← hd, e']; rfl), ?_, es.trans (hs hne)⟩)
      rw [e, dig_big _ hb, hd]
      simp
  rcases h with ⟨rfl, rfl⟩ | ⟨h1, h2, h3, h4⟩ | ⟨h1, h2, _⟩
  · exact key [] (by simp) Iff.rfl
  · exact key l h3 h4
  · rcases hgo with e | e
    · exact absurd h2 e
    · exact absurd e h1
theorem DAt.stop {n m : Int} {l : List UInt8} (h : DAt n m l) (h1 : m = 0) (h2 : l ≠ []) : dig n.natAbs = l := by
  rcases h with ⟨e, _⟩ | ⟨_, e, _⟩ | ⟨_, _, e⟩
  · exact absurd e h2
  · exact absurd h1 e
  · exact e
theorem DAt.len {n m : Int} {l : List UInt8} (h : DAt n m l) : l.length ≤ (dig n.natAbs).length := by
  rcases h with ⟨e, _⟩ | ⟨_, _, e, _⟩ | ⟨_, _, e⟩
  · rw [e]; simp
  · rw [e]; simp
  · rw [e]; exact Nat.le_refl _

theorem bytesOf_nil (l : List UInt8) : (bytesOf l).toList = l := by rw [toList_eq, bytesOf_list]
theorem bytesOf_append (a b : List UInt8) : bytesOf a ++ bytesOf b = bytesOf (a ++ b) := by
  apply ByteArray.ext; simp [bytesOf]
theorem bytesOf_one (c : UInt8) : (⟨#[c]⟩ : ByteArray) = bytesOf [c] := rfl

theorem row_one (w : World) (z : Int) : Row (w.alloc (.cells #[.int .u8 z] 5)) (some ⟨w.heap.size, 0, none⟩) [z] := fun _ => by
  refine ⟨w.heap.size, 0, rfl, fun i hi => ?_⟩
  obtain rfl : i = 0 := by simp at hi; omega
  exact cell_one_new w (.int .u8 z) 5 0 (.int .u8 z) rfl
theorem str_dch (a : Nat) : strOfNums [48 + ((a % 10 : Nat) : Int)] = bytesOf [dch a] := by
  apply ByteArray.ext
  apply Array.toList_inj.1
  rw [strOfNums_data, bytesOf_list, show (48 + ((a % 10 : Nat) : Int)) = ((48 + a % 10 : Nat) : Int) by omega]
  rfl
theorem dmeas_lt {m q : Int} {l : List UInt8} {c : UInt8} (h : q.natAbs = m.natAbs / 10) (hg : m ≠ 0 ∨ l = []) : dmeas (.string (bytesOf (c :: l))) (.int .i64 q) < dmeas (.string (bytesOf l)) (.int .i64 m) := by
  unfold dmeas textLen
  simp only [intOf, bytesOf_size, List.length_cons]
  rw [if_neg (by omega)]
  rcases hg with e | e
  · omega
  · subst e
    simp
    omega
theorem dig_length (k : Nat) : ∀ a : Nat, a < 10 ^ (k + 1) → (dig a).length ≤ k + 1 := by
  induction k with
  | zero => intro a h; rw [dig_small a (by simpa using h)]; simp
  | succ k ih =>
    intro a h
    by_cases h0 : a < 10
    · rw [dig_small a h0]; simp
    · rw [dig_big a h0, List.length_append, List.length_singleton]
      have := ih (a / 10) (by rw [Nat.pow_succ] at h; omega)
      omega
theorem DAt.short {n m : Int} {l : List UInt8} (h : DAt n m l) (h1 : -9223372036854775808 ≤ n) (h2 : n ≤ 9223372036854775807) : (bytesOf l).size ≤ 20 := by
  rw [bytesOf_size]
  have h3 := dig_length 19 n.natAbs (by rw [show (10 : Nat) ^ (19 + 1) = 100000000000000000000 by decide]; omega)
  exact Nat.le_trans h.len h3
theorem one_size_str (z : Int) : (strOfNums [z]).size = 1 := by rw [Lib.size_eq, strOfNums_data]; rfl
theorem parts10 (m : Int) (h1 : -9223372036854775808 ≤ m) (h2 : m ≤ 9223372036854775807) :
    (m.tdiv 10).natAbs = m.natAbs / 10 ∧ -9223372036854775808 ≤ m.tdiv 10 ∧ m.tdiv 10 ≤ 9223372036854775807 ∧ (m.tmod 10).natAbs = m.natAbs % 10 ∧ -9 ≤ m.tmod 10 ∧ m.tmod 10 ≤ 9 := by
  rcases Int.lt_or_le m 0 with h0 | h0
  · have e1 := tmod_neg m h0
    have e2 := tdiv_neg m h0
    omega
  · have e1 := Int.tmod_eq_emod_of_nonneg (a := m) (b := 10) h0
    have e2 := Int.tdiv_eq_ediv_of_nonneg (a := m) (b := 10) h0
    omega

set_option maxRecDepth 100000 in
set_option maxHeartbeats 2000000 in
theorem digits_any (n : Int) (w : World) (h1 : -9223372036854775808 ≤ n) (h2 : n ≤ 9223372036854775807) :
    Calls Tryd.prog 24 #[.int .i64 n] w fun e w' => e = .returned (.string (bytesOf (digitsL n))) ∧ Below w.heap.size w w' := by
  go_enter Tryd.func24, Tryd.ntmps24
  go_wp2_with fail
  go_loopw [3, 4, 5] (fun t i _ wr => ∃ (m : Int) (l : List UInt8), t = .string (bytesOf l) ∧ i = .int .i64 m ∧ DAt n m l ∧ -9223372036854775808 ≤ m ∧ m ≤ 9223372036854775807 ∧ Below w.heap.size w wr) (fun t i _ _ => dmeas t i)
  case atStart => exact ⟨n, [], rfl, rfl, .inl ⟨rfl, rfl⟩, h1, h2, Below.refl _ _⟩
  case round =>
    obtain ⟨m, l, rfl, rfl, hD, hm1, hm2, hbk⟩ := hrel
    have HD : Hid (DAt n m l) := hD
    have hsh := hD.short h1 h2
    have hcat : ∀ z : Int, ¬ (9223372036854775807 < (strOfNums [z]).size + (bytesOf l).size) := fun z => by rw [one_size_str]; omega
    clear hD
    by_cases hgo : m ≠ 0 ∨ l = []
    · have HS : Hid (DAt n (m.tdiv 10) (dch m.natAbs :: l)) := HD.out.step hgo
      obtain ⟨hqa, hq1, hq2, hra, hr1, hr2⟩ := parts10 m hm1 hm2
      have HQ : Hid ((m.tdiv 10).natAbs = m.natAbs / 10) := hqa
      have HR : Hid ((m.tmod 10).natAbs = m.natAbs % 10) := hra
      clear hqa hra
      generalize hq : m.tdiv 10 = q at *
      generalize hr : m.tmod 10 = r at *
      have HG : Hid (m ≠ 0 ∨ l = []) := hgo
      have hgo2 : ((m != 0) = true) ∨ ((m != 0) = false ∧ (bytesOf l).toList = []) := by
        by_cases e : m = 0
        · refine .inr ⟨by simpa using e, ?_⟩
          rw [bytesOf_nil]
          rcases hgo with e' | e'
          · exact absurd e e'
          · exact e'
        · exact .inl (by simpa using e)
      clear hgo
      have hcv : ∀ z : Int, (convert 51 9 (.slice (some ⟨wr.heap.size, 0, none⟩) 1 1)).run Tryd.prog (wr.alloc (.cells #[.int .u8 z] 5)) = .ok (.string (strOfNums [z])) (wr.alloc (.cells #[.int .u8 z] 5)) := fun z => (row_one wr z).convert rfl 1
      have HC : Hid (∀ z : Int, z = 48 + (r.natAbs : Int) → strOfNums [z] = bytesOf [dch m.natAbs]) := fun z hz => by
        rw [hz, HR.out]; exact str_dch _
      by_cases hr0 : r < 0
      · rcases hgo2 with hne | ⟨hne, hem⟩
        · go_wp2_with fail
          rw [HC.out (48 + -r) (by omega), bytesOf_append, List.singleton_append]
          go_wp2_with fail
          go_roundw
          case rel => exact ⟨q, dch m.natAbs :: l, rfl, rfl, HS.out, hq1, hq2, below_alloc hbk _⟩
          case measure => exact dmeas_lt HQ.out HG.out
        · go_wp2_with fail
          rw [HC.out (48 + -r) (by omega), bytesOf_append, List.singleton_append]
          go_wp2_with fail
          go_roundw
          case rel => exact ⟨q, dch m.natAbs :: l, rfl, rfl, HS.out, hq1, hq2, below_alloc hbk _⟩
          case measure => exact dmeas_lt HQ.out HG.out
      · rcases hgo2 with hne | ⟨hne, hem⟩
        · go_wp2_with fail
          rw [HC.out (48 + r) (by omega), bytesOf_append, List.singleton_append]
          go_wp2_with fail
          go_roundw
          case rel => exact ⟨q, dch m.natAbs :: l, rfl, rfl, HS.out, hq1, hq2, below_alloc hbk _⟩
          case measure => exact dmeas_lt HQ.out HG.out
        · go_wp2_with fail
          rw [HC.out (48 + r) (by omega), bytesOf_append, List.singleton_append]
          go_wp2_with fail
          go_roundw
          case rel => exact ⟨q, dch m.natAbs :: l, rfl, rfl, HS.out, hq1, hq2, below_alloc hbk _⟩
          case measure => exact dmeas_lt HQ.out HG.out
    · have hm0 : m = 0 := by
        by_cases e : m = 0
        · exact e
        · exact absurd (.inl e) hgo
      have hln : l ≠ [] := fun e => hgo (.inr e)
      have hst := HD.out.stop hm0 hln
      have hne : (m != 0) = false := by simpa using hm0
      have hem : ¬ (bytesOf l).toList = [] := by rw [bytesOf_nil]; exact hln
      have hem2 : ((bytesOf l).toList == []) = false := by simpa using hem
      have HE : Hid (bytesOf (digitsL n) = if n < 0 then bytesOf (45 :: l) else bytesOf l) := by
        show bytesOf (digitsL n) = if n < 0 then bytesOf (45 :: l) else bytesOf l
        unfold digitsL; rw [hst]; split <;> rfl
      clear hgo hm0 hln hst HD
      have hcat2 : ¬ (9223372036854775807 < (⟨#[45]⟩ : ByteArray).size + (bytesOf l).size) := by rw [show (⟨#[45]⟩ : ByteArray).size = 1 from rfl]; omega
      by_cases hn0 : n < 0
      · go_wp2_with fail
        rw [bytesOf_one, bytesOf_append, List.singleton_append]
        go_wp2_with fail
        go_ret
        refine ⟨?_, hbk⟩
        rw [HE.out, if_pos hn0]
        rfl
      · go_wp2_with fail
        go_ret
        refine ⟨?_, hbk⟩
        rw [HE.out, if_neg (by omega)]
        rfl

end Go.Proofs.YtaabdffplfifkaaDoor
