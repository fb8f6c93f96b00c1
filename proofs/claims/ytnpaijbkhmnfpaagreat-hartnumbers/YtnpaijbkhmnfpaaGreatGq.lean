/- Texts put together: Math. -/
import Derived.Test.YtnpaijbkhmnfpaaGreatGc
import Derived.Test.YtnpaijbkhmnfpaaGreatLent

/- Plain facts: what is encoded is decoded as it was, whatever stands behind it; what is decoded is right, and encoded just these bytes. -/
namespace Go.Proofs.YtnpaijbkhmnfpaaGreat
open Go.RowKit

theorem gC (cs : List Int) (r : Nat) (q a b n : Int) (ts : List Int) (i : Nat) (h : i < cs.length) : (encG cs r q a b n ++ ts).getD i 0 = cs.getD i 0 := by
  unfold encG
  rw [List.append_assoc, List.append_assoc, List.append_assoc, getD_left _ _ _ h]
theorem gA (cs : List Int) (r : Nat) (q a b n : Int) (ts : List Int) (h : 1 ≤ r) : (encG cs r q a b n ++ ts).getD cs.length 0 = a := by
  unfold encG
  rw [List.append_assoc, List.append_assoc, List.append_assoc, if_pos h]
  have := getD_right cs ([a] ++ ((if 2 ≤ r then [b] else []) ++ ((if q = 0 then [] else le4 n) ++ ts))) 0
  rw [Nat.add_zero] at this
  rw [this]
  rfl
theorem gB (cs : List Int) (r : Nat) (q a b n : Int) (ts : List Int) (h : 2 ≤ r) : (encG cs r q a b n ++ ts).getD (cs.length + 1) 0 = b := by
  unfold encG
  rw [List.append_assoc, List.append_assoc, List.append_assoc, if_pos (by omega), if_pos h, getD_right]
  rfl
theorem encG_num_split (cs : List Int) (r : Nat) (q a b n : Int) (ts : List Int) (h : r ≤ 2) (hq : q ≠ 0) : ∃ ys : List Int, ys.length = cs.length + r ∧ encG cs r q a b n ++ ts = ys ++ (le4 n ++ ts) := by
  refine ⟨cs ++ (if 1 ≤ r then [a] else []) ++ (if 2 ≤ r then [b] else []), ?_, ?_⟩
  · obtain rfl | rfl | rfl : r = 0 ∨ r = 1 ∨ r = 2 := by omega
    all_goals simp
  · unfold encG; rw [if_neg hq, List.append_assoc]
theorem gN (cs : List Int) (r : Nat) (q a b n : Int) (ts : List Int) (h : r ≤ 2) (hq : q ≠ 0) : n4 (encG cs r q a b n ++ ts) (cs.length + r) = n % 4294967296 := by
  obtain ⟨ys, hl, he⟩ := encG_num_split cs r q a b n ts h hq
  rw [he, ← hl]
  have e0 := getD_right ys (le4 n ++ ts) 0
  have e1 := getD_right ys (le4 n ++ ts) 1
  have e2 := getD_right ys (le4 n ++ ts) 2
  have e3 := getD_right ys (le4 n ++ ts) 3
  rw [Nat.add_zero] at e0
  simp only [n4, num4]
  rw [e0, e1, e2, e3]
  simp only [le4, List.cons_append, List.getD_cons_zero, List.getD_cons_succ]
  omega
theorem wrap_back (n : Int) (h : -2147483648 ≤ n ∧ n ≤ 2147483647) : wrap32 (n % 4294967296) = n := by unfold wrap32; omega

theorem rightB_partsM {o : Nat} {a b n : Int} (h : rightB o a b n = true) : (1 ≤ o ∧ o < 17) ∧ regB (decide (1 ≤ rg o)) a = true ∧ regB (decide (2 ≤ rg o)) b = true ∧ numB (kd o) n = true := by
  simp only [rightB, Bool.and_eq_true, decide_eq_true_eq] at h
  exact ⟨h.1, h.2.1.1, h.2.1.2, h.2.2⟩

theorem fA_enc {o : Nat} {a b n : Int} (h : rightB o a b n = true) (ts : List Int) : fA o (encL o a b n ++ ts) = a := by
  obtain ⟨_, ha, _, _⟩ := rightB_partsM h
  unfold fA fldA encL
  by_cases hr : 1 ≤ rg o
  · rw [if_pos hr, gA _ _ _ _ _ _ _ hr]
  · rw [if_neg hr]
    simp [regB, hr] at ha
    exact ha.symm
theorem fB_enc {o : Nat} {a b n : Int} (h : rightB o a b n = true) (ts : List Int) : fB o (encL o a b n ++ ts) = b := by
  obtain ⟨_, _, hb, _⟩ := rightB_partsM h
  unfold fB fldB encL
  by_cases hr : 2 ≤ rg o
  · rw [if_pos hr, gB _ _ _ _ _ _ _ hr]
  · rw [if_neg hr]
    simp [regB, hr] at hb
    exact hb.symm
theorem fN_enc {o : Nat} {a b n : Int} (h : rightB o a b n = true) (hn : -2147483648 ≤ n ∧ n ≤ 2147483647) (ts : List Int) : fN o (encL o a b n ++ ts) = n := by
  obtain ⟨ho, _, _, hm⟩ := rightB_partsM h
  unfold fN fldN encL
  by_cases hq : kd o = 0
  · rw [if_pos hq]
    simp [numB, hq] at hm
    exact hm.symm
  · rw [if_neg hq, gN _ _ _ _ _ _ _ (rg_le o ho.2) hq, wrap_back n hn]

theorem dec_enc {o : Nat} {a b n : Int} (h : rightB o a b n = true) (hn : -2147483648 ≤ n ∧ n ≤ 2147483647) (ts : List Int) : dec (encL o a b n ++ ts) = ⟨o, a, b, n, lenN o, 0⟩ := by
  obtain ⟨ho, _, _, _⟩ := rightB_partsM h
  have hl := encL_length o a b n ho.2
  have hp := cdL_pos o ho.1 ho.2
  have hi := lenN_in o ho.1 ho.2
  have hz : (encL o a b n ++ ts).getD 0 0 = fb o := gC _ _ _ _ _ _ _ _ hp
  have hlen : (encL o a b n ++ ts).length = lenN o + ts.length := by rw [List.length_append, hl]
  unfold dec
  rw [if_neg (by omega), hz, opN_fb o ho.1 ho.2, if_neg (by omega)]
  unfold decO
  rw [if_neg (by omega), fA_enc h, fB_enc h, fN_enc h hn, h]
  have hpre : preL (cdL o) (encL o a b n ++ ts) = true := decide_eq_true fun i hi => gC _ _ _ _ _ _ _ _ hi
  rw [hpre]
  rfl

theorem take_more (xs : List Int) (k : Nat) (h : k < xs.length) {ys : List Int} (hy : xs.take k = ys) : xs.take (k + 1) = ys ++ [xs.getD k 0] := by
  rw [take_getD xs k h, hy]
theorem le4_back {xs : List Int} (hb : Byt xs) (k : Nat) : le4 (wrap32 (n4 xs k)) = [xs.getD k 0, xs.getD (k + 1) 0, xs.getD (k + 2) 0, xs.getD (k + 3) 0] := by
  have b0 := hb k; have b1 := hb (k + 1); have b2 := hb (k + 2); have b3 := hb (k + 3)
  simp only [le4, wrap32, n4, num4]
  generalize xs.getD k 0 = z0 at *
  generalize xs.getD (k + 1) 0 = z1 at *
  generalize xs.getD (k + 2) 0 = z2 at *
  generalize xs.getD (k + 3) 0 = z3 at *
  refine List.cons_eq_cons.2 ⟨by omega, List.cons_eq_cons.2 ⟨by omega, List.cons_eq_cons.2 ⟨by omega, List.cons_eq_cons.2 ⟨by omega, rfl⟩⟩⟩⟩

theorem enc_back (cs : List Int) (r : Nat) (q : Int) (xs : List Int) (hb : Byt xs) (hr : r ≤ 2) (hp : xs.take cs.length = cs) (hl : (cs.length + r + if q = 0 then 0 else 4) ≤ xs.length) :
    encG cs r q (fldA cs.length r xs) (fldB cs.length r xs) (fldN cs.length r q xs) = xs.take (cs.length + r + if q = 0 then 0 else 4) := by
  have hA : xs.take (cs.length + r) = cs ++ (if 1 ≤ r then [fldA cs.length r xs] else []) ++ (if 2 ≤ r then [fldB cs.length r xs] else []) := by
    obtain rfl | rfl | rfl : r = 0 ∨ r = 1 ∨ r = 2 := by omega
    · simpa using hp
    · rw [take_more xs cs.length (by omega) hp]; simp [fldA]
    · have := take_more xs (cs.length + 1) (by omega) (take_more xs cs.length (by omega) hp)
      rw [show cs.length + 2 = cs.length + 1 + 1 by omega, this]; simp [fldA, fldB]
  unfold encG
  rw [← hA]
  by_cases hq : q = 0
  · simp [hq]
  · rw [if_neg hq] at hl
    rw [if_neg hq, if_neg hq]
    have h1 := take_more xs (cs.length + r) (by omega) rfl
    have h2 := take_more xs (cs.length + r + 1) (by omega) h1
    have h3 := take_more xs (cs.length + r + 2) (by omega) h2
    have h4 := take_more xs (cs.length + r + 3) (by omega) h3
    rw [show cs.length + r + 4 = cs.length + r + 3 + 1 by omega, h4]
    simp only [fldN, if_neg hq, le4_back hb, List.append_assoc, List.cons_append, List.nil_append]

/-- what is decoded, where there is no error -/
theorem dec_ok {xs : List Int} (hb : Byt xs) (h : (dec xs).e = 0) :
    ∃ o : Nat, (dec xs).o = o ∧ (dec xs).l = lenN o ∧ lenN o ≤ xs.length ∧ rightB o (dec xs).a (dec xs).b (dec xs).n = true ∧ encL o (dec xs).a (dec xs).b (dec xs).n = xs.take (lenN o) ∧
      (0 ≤ (dec xs).a ∧ (dec xs).a ≤ 255) ∧ (0 ≤ (dec xs).b ∧ (dec xs).b ≤ 255) := by
  unfold dec at h ⊢
  by_cases h0 : xs.length = 0
  · rw [if_pos h0] at h; simp at h
  · rw [if_neg h0] at h ⊢
    by_cases h1 : opN (xs.getD 0 0) = 0
    · rw [if_pos h1] at h; simp at h
    · rw [if_neg h1] at h ⊢
      generalize opN (xs.getD 0 0) = o at h h1 ⊢
      unfold decO at h ⊢
      by_cases hl : xs.length < lenN o
      · rw [if_pos hl] at h; simp at h
      · rw [if_neg hl] at h ⊢
        by_cases hk : (preL (cdL o) xs && rightB o (fA o xs) (fB o xs) (fN o xs)) = true
        · rw [if_pos hk]
          rw [Bool.and_eq_true] at hk
          obtain ⟨ho, _, _, _⟩ := rightB_partsM hk.2
          refine ⟨o, rfl, rfl, by omega, hk.2, ?_, fldA_in hb, fldB_in hb⟩
          have hp : xs.take (cdL o).length = cdL o := by
            have hpre := of_decide_eq_true hk.1
            have hle : (cdL o).length ≤ xs.length := by unfold lenN at hl; omega
            refine list_ext_getD (by simp; omega) fun i => ?_
            by_cases hi : i < (cdL o).length
            · rw [← hpre i hi]; simp [List.getD, hi]
            · rw [List.getD, List.getD, List.getElem?_eq_none (by simp; omega), List.getElem?_eq_none (by omega)]
          exact enc_back (cdL o) (rg o) (kd o) xs hb (rg_le o ho.2) hp (by unfold lenN at hl; omega)
        · rw [if_neg hk] at h; simp at h

theorem dec_bad {xs : List Int} (h : (dec xs).e ≠ 0) : (dec xs).o = 0 ∧ (dec xs).a = 0 ∧ (dec xs).b = 0 ∧ (dec xs).n = 0 ∧ (dec xs).l = 0 := by
  unfold dec at h ⊢
  split
  · simp
  · rename_i h0
    rw [if_neg h0] at h
    split
    · simp
    · rename_i h1
      rw [if_neg h1] at h
      unfold decO at h ⊢
      split
      · simp
      · rename_i h2
        rw [if_neg h2] at h
        split
        · rename_i h3
          rw [if_pos h3] at h
          exact absurd rfl h
        · simp
end Go.Proofs.YtnpaijbkhmnfpaaGreat
