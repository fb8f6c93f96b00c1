/- switchyardref02.Decode answers what the bytes say, for every slice of bytes. -/
import Derived.Test.YtkbpdnckbgnfnaaRefDec
namespace Go.Proofs.Ytkbpdnckbgnfnaa
open Go.RowKit

theorem eqB_pre (o : Nat) (xs : List Int) (h2 : o < 17) (hb : Byt xs) (hl : lenN o ≤ xs.length) : eqB (lenN o) (encL o (fA o xs) (fB o xs) (fN o xs)) xs = preL (cdL o) xs := by
  have hcl : (cdL o).length ≤ lenN o := by unfold lenN; omega
  unfold eqB preL
  rw [decide_eq_decide]
  constructor
  · intro h i hi
    have e := gC (cdL o) (rg o) (kd o) (fA o xs) (fB o xs) (fN o xs) [] i hi
    rw [List.append_nil] at e
    rw [← h i (by omega)]
    exact e
  · intro h j hj
    have hp : xs.take (cdL o).length = cdL o := by
      refine list_ext_getD (by simp; omega) fun i => ?_
      by_cases hi : i < (cdL o).length
      · rw [← h i hi]; simp [List.getD, hi]
      · rw [List.getD, List.getD, List.getElem?_eq_none (by simp; omega), List.getElem?_eq_none (by omega)]
    have e : encL o (fA o xs) (fB o xs) (fN o xs) = xs.take (lenN o) := enc_back (cdL o) (rg o) (kd o) xs hb (rg_le o h2) hp (by unfold lenN at hl; omega)
    rw [e]
    simp [List.getD, hj]

theorem rdec_op (o : Nat) (h1 : 1 ≤ o) (h2 : o < 17) (b f0 n cp : Nat) (xs : List Int) (w : World) (hn : n ≤ 140737488355328) (hby : Byt xs) (hl : lenN o ≤ n) (hz : xs.getD 0 0 = fb o)
    (hcell : ∀ i, i < n → w.cell? ⟨b, f0 + i, none⟩ = some (.int .u8 (xs.getD i 0))) :
    Calls Try.prog 11 #[.slice (some ⟨b, f0, none⟩) n cp] w fun e w' => e = .returned (if (rightB o (fA o xs) (fB o xs) (fN o xs) && eqB (lenN o) (encL o (fA o xs) (fB o xs) (fN o xs)) xs) then decT o (fA o xs) (fB o xs) (fN o xs) (lenN o) 0 else decT 0 0 0 0 0 120) ∧ Below w.heap.size w w' := by
  have hlen := fun w => rlen_yes o w h1 h2
  have hof := fun w => ofByte_yes o w h1 h2
  have hfrm := fun w => form_yes o w h1 h2
  have hfa : 0 ≤ fA o xs ∧ fA o xs ≤ 255 := fldA_in hby
  have hfb : 0 ≤ fB o xs ∧ fB o xs ≤ 255 := fldB_in hby
  have henc : (rightB o (fA o xs) (fB o xs) (fN o xs) = true ∧ ∀ w, Calls Try.prog 17 #[ins o (fA o xs) (fB o xs) (fN o xs)] w fun e w' => ∃ g cap, e = .returned (.tuple #[.slice (some ⟨g, 0, none⟩) (lenN o) cap, .int .i64 0]) ∧ Own w' w.heap.size g cap (encL o (fA o xs) (fB o xs) (fN o xs)) ∧ Below w.heap.size w w') ∨
      (rightB o (fA o xs) (fB o xs) (fN o xs) = false ∧ ∀ w, Calls Try.prog 17 #[ins o (fA o xs) (fB o xs) (fN o xs)] w fun e w' => e = .returned (.tuple #[.slice none 0 0, .int .i64 2]) ∧ Below w.heap.size w w') := by
    cases hR : rightB o (fA o xs) (fB o xs) (fN o xs)
    · exact .inr ⟨rfl, fun w => rencode_no o _ _ _ w hfa hfb hR⟩
    · refine .inl ⟨rfl, fun w => ?_⟩
      refine (rencode_yes o _ _ _ w hfa hfb hR).mono ?_
      rintro e w' ⟨v, he, hv, hbl⟩
      rcases hv.shape with ⟨_, h0⟩ | ⟨g, cap, rfl, hown⟩
      · have hel := encL_length o (fA o xs) (fB o xs) (fN o xs) h2
        rw [h0] at hel
        have := lenN_in o h1 h2
        simp at hel
        omega
      · rw [encL_length o _ _ _ h2] at he
        exact ⟨g, cap, he, hown, hbl⟩
  have hel := encL_length o (fA o xs) (fB o xs) (fN o xs) h2
  have hkind := kind_of o h1 h2
  have hcl := cl_one o h1 h2
  have hrg := rg_le o h2
  have hpos := lenN_in o h1 h2
  have hLN : lenN o = (cdL o).length + rg o + if kd o = 0 then 0 else 4 := rfl
  generalize encL o (fA o xs) (fB o xs) (fN o xs) = es at *
  generalize rightB o (fA o xs) (fB o xs) (fN o xs) = R at *
  cases hAo : hA o <;> cases hBo : hB o <;> cases hMo : hM o
  all_goals
    rw [hAo, hBo, hMo] at hfrm
    simp only [Kind, hAo, hBo, hMo, Prod.mk.injEq, Bool.false_eq_true, Bool.true_eq_false, false_and, and_false, true_and, false_or, or_false] at hkind <;>
    simp only [hA, hB, hM, decide_eq_true_eq, decide_eq_false_iff_not, Nat.not_le, ne_eq, Decidable.not_not] at hAo hBo hMo
  · have r0 : rg o = 0 := by omega
    have eA : fA o xs = 0 := by simp [fA, fldA, r0]
    have eB : fB o xs = 0 := by simp [fB, fldB, r0]
    have eN : fN o xs = 0 := by simp [fN, fldN, hMo]
    rw [eA, eB, eN] at henc ⊢
    exact rdec_FFF (fb o) (fb o) o (lenN o) (hD o) b f0 n cp xs es R w hlen hof hfrm henc hel hn hpos.1 hl hz hcell
  · have r0 : rg o = 0 := by omega
    have hc1 := hcl (.inr hMo)
    have eA : fA o xs = 0 := by simp [fA, fldA, r0]
    have eB : fB o xs = 0 := by simp [fB, fldB, r0]
    have eN : fN o xs = wrap32 (xs.getD 1 0 + 256 * xs.getD 2 0 + 65536 * xs.getD 3 0 + 16777216 * xs.getD 4 0) := by simp only [fN, fldN, if_neg hMo, hc1, r0, n4, num4]
    rw [eA, eB, eN] at henc ⊢
    exact rdec_FFT (fb o) (fb o) o _ _ _ _ (lenN o) (hD o) b f0 n cp xs es R w hlen hof hfrm henc hel hn (by rw [hLN, if_neg hMo]; omega) hl hby hz rfl rfl rfl rfl hcell
  · have r1 : rg o = 1 := by omega
    have hc1 := hcl (.inl hAo)
    have eA : fA o xs = xs.getD 1 0 := by simp only [fA, fldA, r1, hc1, Nat.le_refl, if_true]
    have eB : fB o xs = 0 := by simp [fB, fldB, r1]
    have eN : fN o xs = 0 := by simp [fN, fldN, hMo]
    rw [eA, eB, eN] at henc ⊢
    exact rdec_TFF (fb o) (fb o) o _ (lenN o) (hD o) b f0 n cp xs es R w hlen hof hfrm henc hel hn (by rw [hLN]; omega) hl hby hz rfl hcell
  · have r1 : rg o = 1 := by omega
    have hc1 := hcl (.inl hAo)
    have eA : fA o xs = xs.getD 1 0 := by simp only [fA, fldA, r1, hc1, Nat.le_refl, if_true]
    have eB : fB o xs = 0 := by simp [fB, fldB, r1]
    have eN : fN o xs = wrap32 (xs.getD 2 0 + 256 * xs.getD 3 0 + 65536 * xs.getD 4 0 + 16777216 * xs.getD 5 0) := by simp only [fN, fldN, if_neg hMo, hc1, r1, n4, num4]
    rw [eA, eB, eN] at henc ⊢
    exact rdec_TFT (fb o) (fb o) o _ _ _ _ _ (lenN o) (hD o) b f0 n cp xs es R w hlen hof hfrm henc hel hn (by rw [hLN, if_neg hMo]; omega) hl hby hz rfl rfl rfl rfl rfl hcell
  · have r2 : rg o = 2 := by omega
    have hc1 := hcl (.inl hAo)
    have eA : fA o xs = xs.getD 1 0 := by unfold fA fldA; rw [r2, hc1, if_pos (by decide)]
    have eB : fB o xs = xs.getD 2 0 := by simp only [fB, fldB, r2, hc1, Nat.le_refl, if_true]
    have eN : fN o xs = 0 := by simp [fN, fldN, hMo]
    rw [eA, eB, eN] at henc ⊢
    exact rdec_TTF (fb o) (fb o) o _ _ (lenN o) (hD o) b f0 n cp xs es R w hlen hof hfrm henc hel hn (by rw [hLN]; omega) hl hby hz rfl rfl hcell

theorem rdecode_any (p : Option Addr) (n cp : Nat) (xs : List Int) (w : World) (hx : xs.length = n) (hn : n ≤ 140737488355328) (hr : Row w p xs) (hby : Byt xs) :
    Calls Try.prog 11 #[.slice p n cp] w fun e w' => e = .returned (decV (dec xs)) ∧ Below w.heap.size w w' := by
  by_cases h0 : n = 0
  · subst h0
    rw [show dec xs = ⟨0, 0, 0, 0, 0, 4⟩ by unfold dec; rw [if_pos hx]]
    exact rdec_empty p cp w
  · obtain ⟨b, f, rfl, hc⟩ := hr (by omega)
    have hc0 := hc 0 (by omega)
    rw [Nat.add_zero] at hc0
    rcases op_cases (xs.getD 0 0) with ⟨o, h1, h2, hz⟩ | hno
    · have hop := opN_fb o h1 h2
      rw [hz] at hop
      rw [show dec xs = decO o xs by unfold dec; rw [if_neg (by omega), hop, if_neg (by omega)]]
      by_cases hl : n < lenN o
      · rw [show decO o xs = ⟨0, 0, 0, 0, 0, 4⟩ by unfold decO; rw [if_pos (by omega)]]
        exact rdec_short o h1 h2 b f n cp w hn (by omega) hl (by rw [hz]; exact hc0)
      · refine (rdec_op o h1 h2 b f n cp xs w hn hby (by omega) hz.symm (fun i hi => hc i (by omega))).mono fun e w' ⟨he, hb⟩ => ⟨?_, hb⟩
        have hdec : decO o xs = if (preL (cdL o) xs && rightB o (fA o xs) (fB o xs) (fN o xs)) then ⟨o, fA o xs, fB o xs, fN o xs, lenN o, 0⟩ else ⟨0, 0, 0, 0, 0, 120⟩ := by
          unfold decO; rw [if_neg (show ¬ xs.length < lenN o by omega)]
        rw [he, eqB_pre o xs h2 hby (by omega), hdec, Bool.and_comm]
        cases (preL (cdL o) xs && rightB o (fA o xs) (fB o xs) (fN o xs)) <;> rfl
    · rw [show dec xs = ⟨0, 0, 0, 0, 0, 120⟩ by unfold dec; rw [if_neg (by omega), if_pos (opN_no _ hno)]]
      exact rdec_none (xs.getD 0 0) hno b f n cp w hn (by omega) hc0
end Go.Proofs.Ytkbpdnckbgnfnaa
