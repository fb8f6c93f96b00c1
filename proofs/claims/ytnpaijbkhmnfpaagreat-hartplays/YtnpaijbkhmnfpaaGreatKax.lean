/- Texts put together: RefDecAll, RHg. -/
import Derived.Test.YtnpaijbkhmnfpaaGreatKaw
import Derived.Test.YtnpaijbkhmnfpaaGreatKav

/- switchyardref02.Decode answers what the bytes say, for every slice of bytes. -/
namespace Go.Proofs.YtnpaijbkhmnfpaaGreat
open Go.RowKit

theorem eqB_pre (o : Nat) (xs : List Int) (h2 : o < 17) (hb : Byt xs) (hl : lenN o ≤ xs.length) : eqB (lenN o) (encL o (fA o xs) (fB o xs) (fN o xs)) xs = preL (cdL o) xs := by
  have hcl : (cdL o).length ≤ lenN o := by unfold lenN; omega
  unfold eqB preL
  rw [decide_eq_decide]
  constructor
  · intro h i hi
    have e := gC (cdL o) (rg o) (kd o) (fA o xs) (fB o xs) (fN o xs) [] i hi
    rw [List.append_nil] at e
    rw [← h i (by omega)]
    exact e
  · intro h j hj
    have hp : xs.take (cdL o).length = cdL o := by
      refine list_ext_getD (by simp; omega) fun i => ?_
      by_cases hi : i < (cdL o).length
      · rw [← h i hi]; simp [List.getD, hi]
      · rw [List.getD, List.getD, List.getElem?_eq_none (by simp; omega), List.getElem?_eq_none (by omega)]
    have e : encL o (fA o xs) (fB o xs) (fN o xs) = xs.take (lenN o) := enc_back (cdL o) (rg o) (kd o) xs hb (rg_le o h2) hp (by unfold lenN at hl; omega)
    rw [e]
    simp [List.getD, hj]

theorem rdec_op (o : Nat) (h1 : 1 ≤ o) (h2 : o < 17) (b f0 n cp : Nat) (xs : List Int) (w : World) (hn : n ≤ 140737488355328) (hby : Byt xs) (hl : lenN o ≤ n) (hz : xs.getD 0 0 = fb o)
    (hcell : ∀ i, i < n → w.cell? ⟨b, f0 + i, none⟩ = some (.int .u8 (xs.getD i 0))) :
    Calls Tryz.prog 57 #[.slice (some ⟨b, f0, none⟩) n cp] w fun e w' => e = .returned (if (rightB o (fA o xs) (fB o xs) (fN o xs) && eqB (lenN o) (encL o (fA o xs) (fB o xs) (fN o xs)) xs) then decT o (fA o xs) (fB o xs) (fN o xs) (lenN o) 0 else decT 0 0 0 0 0 120) ∧ Below w.heap.size w w' := by
  have hlen := fun w => rlen_yes o w h1 h2
  have hof := fun w => ofByte_yes o w h1 h2
  have hfrm := fun w => form_yes o w h1 h2
  have hfa : 0 ≤ fA o xs ∧ fA o xs ≤ 255 := fldA_in hby
  have hfb : 0 ≤ fB o xs ∧ fB o xs ≤ 255 := fldB_in hby
  have henc : (rightB o (fA o xs) (fB o xs) (fN o xs) = true ∧ ∀ w, Calls Tryz.prog 93 #[ins o (fA o xs) (fB o xs) (fN o xs)] w fun e w' => ∃ g cap, e = .returned (.tuple #[.slice (some ⟨g, 0, none⟩) (lenN o) cap, .int .i64 0]) ∧ Own w' w.heap.size g cap (encL o (fA o xs) (fB o xs) (fN o xs)) ∧ Below w.heap.size w w') ∨
      (rightB o (fA o xs) (fB o xs) (fN o xs) = false ∧ ∀ w, Calls Tryz.prog 93 #[ins o (fA o xs) (fB o xs) (fN o xs)] w fun e w' => e = .returned (.tuple #[.slice none 0 0, .int .i64 2]) ∧ Below w.heap.size w w') := by
    cases hR : rightB o (fA o xs) (fB o xs) (fN o xs)
    · exact .inr ⟨rfl, fun w => rencode_no o _ _ _ w hfa hfb hR⟩
    · refine .inl ⟨rfl, fun w => ?_⟩
      refine (rencode_yes o _ _ _ w hfa hfb hR).mono ?_
      rintro e w' ⟨v, he, hv, hbl⟩
      rcases hv.shape with ⟨_, h0⟩ | ⟨g, cap, rfl, hown⟩
      · have hel := encL_length o (fA o xs) (fB o xs) (fN o xs) h2
        rw [h0] at hel
        have := lenN_in o h1 h2
        simp at hel
        omega
      · rw [encL_length o _ _ _ h2] at he
        exact ⟨g, cap, he, hown, hbl⟩
  have hel := encL_length o (fA o xs) (fB o xs) (fN o xs) h2
  have hkind := kind_of o h1 h2
  have hcl := cl_one o h1 h2
  have hrg := rg_le o h2
  have hpos := lenN_in o h1 h2
  have hLN : lenN o = (cdL o).length + rg o + if kd o = 0 then 0 else 4 := rfl
  generalize encL o (fA o xs) (fB o xs) (fN o xs) = es at *
  generalize rightB o (fA o xs) (fB o xs) (fN o xs) = R at *
  cases hAo : hA o <;> cases hBo : hB o <;> cases hMo : hM o
  all_goals
    rw [hAo, hBo, hMo] at hfrm
    simp only [Kind, hAo, hBo, hMo, Prod.mk.injEq, Bool.false_eq_true, Bool.true_eq_false, false_and, and_false, true_and, false_or, or_false] at hkind <;>
    simp only [hA, hB, hM, decide_eq_true_eq, decide_eq_false_iff_not, Nat.not_le, ne_eq, Decidable.not_not] at hAo hBo hMo
  · have r0 : rg o = 0 := by omega
    have eA : fA o xs = 0 := by simp [fA, fldA, r0]
    have eB : fB o xs = 0 := by simp [fB, fldB, r0]
    have eN : fN o xs = 0 := by simp [fN, fldN, hMo]
    rw [eA, eB, eN] at henc ⊢
    exact rdec_FFF (fb o) (fb o) o (lenN o) (hD o) b f0 n cp xs es R w hlen hof hfrm henc hel hn hpos.1 hl hz hcell
  · have r0 : rg o = 0 := by omega
    have hc1 := hcl (.inr hMo)
    have eA : fA o xs = 0 := by simp [fA, fldA, r0]
    have eB : fB o xs = 0 := by simp [fB, fldB, r0]
    have eN : fN o xs = wrap32 (xs.getD 1 0 + 256 * xs.getD 2 0 + 65536 * xs.getD 3 0 + 16777216 * xs.getD 4 0) := by simp only [fN, fldN, if_neg hMo, hc1, r0, n4, num4]
    rw [eA, eB, eN] at henc ⊢
    exact rdec_FFT (fb o) (fb o) o _ _ _ _ (lenN o) (hD o) b f0 n cp xs es R w hlen hof hfrm henc hel hn (by rw [hLN, if_neg hMo]; omega) hl hby hz rfl rfl rfl rfl hcell
  · have r1 : rg o = 1 := by omega
    have hc1 := hcl (.inl hAo)
    have eA : fA o xs = xs.getD 1 0 := by simp only [fA, fldA, r1, hc1, Nat.le_refl, if_true]
    have eB : fB o xs = 0 := by simp [fB, fldB, r1]
    have eN : fN o xs = 0 := by simp [fN, fldN, hMo]
    rw [eA, eB, eN] at henc ⊢
    exact rdec_TFF (fb o) (fb o) o _ (lenN o) (hD o) b f0 n cp xs es R w hlen hof hfrm henc hel hn (by rw [hLN]; omega) hl hby hz rfl hcell
  · have r1 : rg o = 1 := by omega
    have hc1 := hcl (.inl hAo)
    have eA : fA o xs = xs.getD 1 0 := by simp only [fA, fldA, r1, hc1, Nat.le_refl, if_true]
    have eB : fB o xs = 0 := by simp [fB, fldB, r1]
    have eN : fN o xs = wrap32 (xs.getD 2 0 + 256 * xs.getD 3 0 + 65536 * xs.getD 4 0 + 16777216 * xs.getD 5 0) := by simp only [fN, fldN, if_neg hMo, hc1, r1, n4, num4]
    rw [eA, eB, eN] at henc ⊢
    exact rdec_TFT (fb o) (fb o) o _ _ _ _ _ (lenN o) (hD o) b f0 n cp xs es R w hlen hof hfrm henc hel hn (by rw [hLN, if_neg hMo]; omega) hl hby hz rfl rfl rfl rfl rfl hcell
  · have r2 : rg o = 2 := by omega
    have hc1 := hcl (.inl hAo)
    have eA : fA o xs = xs.getD 1 0 := by unfold fA fldA; rw [r2, hc1, if_pos (by decide)]
    have eB : fB o xs = xs.getD 2 0 := by simp only [fB, fldB, r2, hc1, Nat.le_refl, if_true]
    have eN : fN o xs = 0 := by simp [fN, fldN, hMo]
    rw [eA, eB, eN] at henc ⊢
    exact rdec_TTF (fb o) (fb o) o _ _ (lenN o) (hD o) b f0 n cp xs es R w hlen hof hfrm henc hel hn (by rw [hLN]; omega) hl hby hz rfl rfl hcell

theorem rdecode_any (p : Option Addr) (n cp : Nat) (xs : List Int) (w : World) (hx : xs.length = n) (hn : n ≤ 140737488355328) (hr : Row w p xs) (hby : Byt xs) :
    Calls Tryz.prog 57 #[.slice p n cp] w fun e w' => e = .returned (decV (dec xs)) ∧ Below w.heap.size w w' := by
  by_cases h0 : n = 0
  · subst h0
    rw [show dec xs = ⟨0, 0, 0, 0, 0, 4⟩ by unfold dec; rw [if_pos hx]]
    exact rdec_empty p cp w
  · obtain ⟨b, f, rfl, hc⟩ := hr (by omega)
    have hc0 := hc 0 (by omega)
    rw [Nat.add_zero] at hc0
    rcases op_cases (xs.getD 0 0) with ⟨o, h1, h2, hz⟩ | hno
    · have hop := opN_fb o h1 h2
      rw [hz] at hop
      rw [show dec xs = decO o xs by unfold dec; rw [if_neg (by omega), hop, if_neg (by omega)]]
      by_cases hl : n < lenN o
      · rw [show decO o xs = ⟨0, 0, 0, 0, 0, 4⟩ by unfold decO; rw [if_pos (by omega)]]
        exact rdec_short o h1 h2 b f n cp w hn (by omega) hl (by rw [hz]; exact hc0)
      · refine (rdec_op o h1 h2 b f n cp xs w hn hby (by omega) hz.symm (fun i hi => hc i (by omega))).mono fun e w' ⟨he, hb⟩ => ⟨?_, hb⟩
        have hdec : decO o xs = if (preL (cdL o) xs && rightB o (fA o xs) (fB o xs) (fN o xs)) then ⟨o, fA o xs, fB o xs, fN o xs, lenN o, 0⟩ else ⟨0, 0, 0, 0, 0, 120⟩ := by
          unfold decO; rw [if_neg (show ¬ xs.length < lenN o by omega)]
        rw [he, eqB_pre o xs h2 hby (by omega), hdec, Bool.and_comm]
        cases (preL (cdL o) xs && rightB o (fA o xs) (fB o xs) (fN o xs)) <;> rfl
    · rw [show dec xs = ⟨0, 0, 0, 0, 0, 120⟩ by unfold dec; rw [if_neg (by omega), if_pos (opN_no _ hno)]]
      exact rdec_none (xs.getD 0 0) hno b f n cp w hn (by omega) hc0
end Go.Proofs.YtnpaijbkhmnfpaaGreat

/- Ours: the reference's Step (switchyardref15): what is no instruction, breakpoints. -/
namespace Go.Proofs.YtnpaijbkhmnfpaaGreat
open Go.RowKit Go.Maps

set_option maxHeartbeats 4000000 in
set_option maxRecDepth 8000 in
theorem rstepH_bad {H : Hs} {V : Value} (id t : Int) (p8 : Option Addr) (d : Nat) (xs : List Int) (hold : Bool) (w : World) (hok : HsOk 1000000 H) (G : Nat → Prop) (hG : ∀ j, G j → j < w.heap.size) (k : HvN G w H V) (hx : Row w p8 xs) (hxo : Off G p8 xs.length)  (h0 : H.st = 0) (hd : doneB H.hv = true) (hcase : (dec H.hv).e ≠ 0 ∨ ((dec H.hv).e = 0 ∧ (dec H.hv).o = 4 ∧ t < 0)) :
    Calls Tryz.prog 23 #[V, .int .i64 id, .slice p8 xs.length d, .bool hold, .int .i64 t] w fun e w' => RsIs G w (fltH id (nilH H) xs 120) e w' := by
  obtain ⟨st, pc, R, S, hv, L⟩ := H
  obtain ⟨hpc, lR, wR, wS, lS, bH, lH, wL, lL⟩ := hok
  obtain ⟨pS, cS, pH, cH, pL, cL, rfl, s1, s2, s3, s4, s5, s6⟩ := k
  dsimp only at *
  subst h0
  obtain ⟨r0, r1, r2, r3, r4, r5, r6, r7, rfl⟩ := eight lR
  simp only [stA, List.getD_cons_zero, List.getD_cons_succ]
  have HS := Hid.in (And.intro s1 (And.intro s2 (And.intro s3 s4)))
  have HX := Hid.in hx
  have HXO := Hid.in hxo
  have HO5 := Hid.in (And.intro s5 s6)
  have HGG := Hid.in hG
  have HA := Hid.in ((Blk.new w 50 #[.int .u8 0, .int .u32 pc, .int .u32 r0, .int .u32 r1, .int .u32 r2, .int .u32 r3, .int .u32 r4, .int .u32 r5, .int .u32 r6, .int .u32 r7, .slice pS S.length cS, .slice pH hv.length cH, .slice pL L.length cL]).grow (new_alloc _ (.cells #[.int .u8 0, .int .u32 0, .int .u32 0, .int .u32 0, .int .u32 0, .int .u32 0, .int .u32 0, .int .u32 0, .int .u32 0, .int .u32 0, .slice none 0 0, .slice none 0 0, .slice none 0 0] 50)))
  have HZ := Hid.in (blk_two w 50 50 #[.int .u8 0, .int .u32 pc, .int .u32 r0, .int .u32 r1, .int .u32 r2, .int .u32 r3, .int .u32 r4, .int .u32 r5, .int .u32 r6, .int .u32 r7, .slice pS S.length cS, .slice pH hv.length cH, .slice pL L.length cL] #[.int .u8 0, .int .u32 0, .int .u32 0, .int .u32 0, .int .u32 0, .int .u32 0, .int .u32 0, .int .u32 0, .int .u32 0, .int .u32 0, .slice none 0 0, .slice none 0 0, .slice none 0 0])
  have HN := Hid.in (below_alloc (new_alloc w (.cells #[.int .u8 0, .int .u32 pc, .int .u32 r0, .int .u32 r1, .int .u32 r2, .int .u32 r3, .int .u32 r4, .int .u32 r5, .int .u32 r6, .int .u32 r7, .slice pS S.length cS, .slice pH hv.length cH, .slice pL L.length cL] 50)) (.cells #[.int .u8 0, .int .u32 0, .int .u32 0, .int .u32 0, .int .u32 0, .int .u32 0, .int .u32 0, .int .u32 0, .int .u32 0, .int .u32 0, .slice none 0 0, .slice none 0 0, .slice none 0 0] 50))
  clear s1 s2 s3 s4 s5 s6 lR hx hxo hG
  have hDc := fun (W : World) (h : Row W pH hv) => rdecode_any pH hv.length cH hv W rfl (by omega) h bH
  generalize dec hv = dd at *
  obtain ⟨o, a, b', n, le, e⟩ := dd
  dsimp only [decV, decT] at hDc hcase ⊢
  have HDc := Hid.in hDc
  clear hDc
  rcases hcase with he | ⟨he, ho, ht⟩
  · have e1 : (e != 0) = true := by simpa using he
    go_enter Tryz.func23, Tryz.ntmps23
    go_upto_region 1 with fail
    generalize (w.alloc (.cells #[.int .u8 0, .int .u32 pc, .int .u32 r0, .int .u32 r1, .int .u32 r2, .int .u32 r3, .int .u32 r4, .int .u32 r5, .int .u32 r6, .int .u32 r7, .slice pS S.length cS, .slice pH hv.length cH, .slice pL L.length cL] 50)).alloc (.cells #[.int .u8 0, .int .u32 0, .int .u32 0, .int .u32 0, .int .u32 0, .int .u32 0, .int .u32 0, .int .u32 0, .int .u32 0, .int .u32 0, .slice none 0 0, .slice none 0 0, .slice none 0 0] 50) = w1 at *
    have c0 : w1.cell? ⟨w.heap.size, 0, none⟩ = some (.int .u8 0) := HA.out.cell 0
    have c11 : w1.cell? ⟨w.heap.size, 11, none⟩ = some (.slice pH hv.length cH) := HA.out.cell 11
    have hD := rdone_any pH hv.length cH hv w1 rfl (by omega) (HS.out.2.1.below HN.out)
    rw [hd] at hD
    go_wp2_with (go_at_call 53; refine Hid.out ?_)
    refine Lib.hid ?_
    (with_reducible refine hD.mono ?_)
    rintro e_ w2 ⟨rfl, hb2⟩
    have HA2 := Hid.in (HA.out.grow hb2)
    have HZ2 := Hid.in (HZ.out.grow hb2)
    have HN2 := Hid.in (below_step HN.out hb2)
    clear hD hb2 HA HZ HN c0 c11
    have c11 : w2.cell? ⟨w.heap.size, 11, none⟩ = some (.slice pH hv.length cH) := HA2.out.cell 11
    have hDc := HDc.out w2 (HS.out.2.1.below HN2.out)
    go_wp2_with (go_at_call 57; refine Hid.out ?_)
    refine Lib.hid ?_
    (with_reducible refine hDc.mono ?_)
    rintro e_ w3 ⟨rfl, hb3⟩
    have HA3 := Hid.in ((HA2.out.grow hb3).grow (new_alloc w3 (.cells #[.int .u8 o, .int .u8 a, .int .u8 b', .int .i32 n] 117)))
    have HZ3 := Hid.in ((HZ2.out.grow hb3).grow (new_alloc w3 (.cells #[.int .u8 o, .int .u8 a, .int .u8 b', .int .i32 n] 117)))
    have HN3 := Hid.in (below_alloc (below_step HN2.out hb3) (.cells #[.int .u8 o, .int .u8 a, .int .u8 b', .int .i32 n] 117))
    have HI3 := Hid.in (Blk.new w3 117 #[.int .u8 o, .int .u8 a, .int .u8 b', .int .i32 n])
    have HL3 : Hid (w.heap.size + 1 < w3.heap.size) := (HZ2.out.grow hb3).lt
    clear hDc hb3 HA2 HZ2 HN2 c11 HDc
    go_upto_region 16 with fail
    generalize w3.alloc (.cells #[.int .u8 o, .int .u8 a, .int .u8 b', .int .i32 n] 117) = w3a at *
    have c11 : w3a.cell? ⟨w.heap.size, 11, none⟩ = some (.slice pH hv.length cH) := HA3.out.cell 11
    have f11 : w3a.frozen? ⟨w.heap.size, 11, none⟩ = false := HA3.out.free 11
    have HA4 : Hid (Blk (w3a.setCell ⟨w.heap.size, 11, none⟩ (.slice none 0 0)) w.heap.size 50 #[.int .u8 0, .int .u32 pc, .int .u32 r0, .int .u32 r1, .int .u32 r2, .int .u32 r3, .int .u32 r4, .int .u32 r5, .int .u32 r6, .int .u32 r7, .slice pS S.length cS, .slice none 0 0, .slice pL L.length cL]) := HA3.out.set 11 (.slice none 0 0)
    have HZ4 := Hid.in (HZ3.out.other (k := w.heap.size) (by omega) 11 (.slice none 0 0))
    have HI4 := Hid.in (HI3.out.other (k := w.heap.size) (by have := HL3.out; omega) 11 (.slice none 0 0))
    have HN4 := Hid.in (HN3.out.grown (grown_setCell w3a w.heap.size 11 (.slice none 0 0)) HN3.out.size (fun k hk => by injection hk with hk; omega))
    go_upto_region 17 with fail
    generalize w3a.setCell ⟨w.heap.size, 11, none⟩ (.slice none 0 0) = w4 at *
    generalize w3.heap.size = gi at *
    clear c11 f11 HA3 HZ3 HN3 HI3
    have i0 : w4.cell? ⟨gi, 0, none⟩ = some (.int .u8 o) := HI4.out.cell 0
    have hF := rfault_at id 120 0 pc r0 r1 r2 r3 r4 r5 r6 r7 pS none pL S.length cS 0 0 L.length cL w4 hpc
    go_wp2_with (first
      | (refine load13 HA4.out rfl rfl _ rfl rfl ?_)
      | (go_at_call 56; refine Hid.out ?_))
    refine Lib.hid ?_
    (with_reducible refine hF.mono ?_)
    rintro e w5 ⟨v', rfl, hE', hb5⟩
    obtain ⟨g', c', rfl, -⟩ := hE'.one7
    have HE := Hid.in hE'
    have HZ5 := Hid.in (HZ4.out.grow hb5)
    have HN5 := Hid.in (below_step HN4.out hb5)
    clear hF hE' hb5
    go_upto_region 19 with fail
    have HA6 := Hid.in (Blk.new w5 50 #[.int .u8 2, .int .u32 pc, .int .u32 r0, .int .u32 r1, .int .u32 r2, .int .u32 r3, .int .u32 r4, .int .u32 r5, .int .u32 r6, .int .u32 r7, .slice pS S.length cS, .slice none 0 0, .slice pL L.length cL])
    have HZ6 := Hid.in (HZ5.out.grow (new_alloc w5 (.cells #[.int .u8 2, .int .u32 pc, .int .u32 r0, .int .u32 r1, .int .u32 r2, .int .u32 r3, .int .u32 r4, .int .u32 r5, .int .u32 r6, .int .u32 r7, .slice pS S.length cS, .slice none 0 0, .slice pL L.length cL] 50)))
    have HN6 := Hid.in (below_alloc HN5.out (.cells #[.int .u8 2, .int .u32 pc, .int .u32 r0, .int .u32 r1, .int .u32 r2, .int .u32 r3, .int .u32 r4, .int .u32 r5, .int .u32 r6, .int .u32 r7, .slice pS S.length cS, .slice none 0 0, .slice pL L.length cL] 50))
    have HE6 := Hid.in (HE.out.alloc (.cells #[.int .u8 2, .int .u32 pc, .int .u32 r0, .int .u32 r1, .int .u32 r2, .int .u32 r3, .int .u32 r4, .int .u32 r5, .int .u32 r6, .int .u32 r7, .slice pS S.length cS, .slice none 0 0, .slice pL L.length cL] 50))
    generalize w5.alloc (.cells #[.int .u8 2, .int .u32 pc, .int .u32 r0, .int .u32 r1, .int .u32 r2, .int .u32 r3, .int .u32 r4, .int .u32 r5, .int .u32 r6, .int .u32 r7, .slice pS S.length cS, .slice none 0 0, .slice pL L.length cL] 50) = w6 at *
    go_wp2_with (first
      | (refine load13 HA6.out rfl rfl _ rfl rfl ?_)
      | (refine store13 HZ6.out rfl rfl _ _ rfl rfl rfl rfl rfl ?_; intro w7 hb7 hg7; have HB := Hid.in hb7; have HG := Hid.in hg7; clear hb7 hg7))
    have hld := HB.out.load 50 _ Tryz.underlying50 rfl Tryz.sz50
    have hbb := HN6.out.grown HG.out HN6.out.size (fun k hk => by injection hk with hk; omega)
    have hE7 : EOwn 41 w7 w4.heap.size (.slice (some ⟨g', 0, none⟩) 1 c') _ := rowOther HE6.out HG.out HZ6.out (by decide)
    exact bodyPost_ret (v := .tuple #[.agg #[.int .u8 2, .int .u32 pc, .int .u32 r0, .int .u32 r1, .int .u32 r2, .int .u32 r3, .int .u32 r4, .int .u32 r5, .int .u32 r6, .int .u32 r7, .slice pS S.length cS, .slice none 0 0, .slice pL L.length cL], .slice p8 xs.length d, .slice (some ⟨g', 0, none⟩) 1 c']) (by simp [results, Tryz.results23, asAddr, hld]) rfl ⟨_, p8, d, _, rfl, ⟨pS, cS, none, 0, pL, cL, rfl, HS.out.1.below hbb, (fun h => absurd h (Nat.lt_irrefl 0)), HS.out.2.2.1.below hbb, (fun _ => rfl), HO5.out.1, Off.zero _ _⟩, HX.out.below hbb, HXO.out, hE7.lower HN4.out.size, hbb⟩
  · subst he ho
    have d1 : decide (t < 0) = true := decide_eq_true ht
    go_enter Tryz.func23, Tryz.ntmps23
    go_upto_region 1 with fail
    generalize (w.alloc (.cells #[.int .u8 0, .int .u32 pc, .int .u32 r0, .int .u32 r1, .int .u32 r2, .int .u32 r3, .int .u32 r4, .int .u32 r5, .int .u32 r6, .int .u32 r7, .slice pS S.length cS, .slice pH hv.length cH, .slice pL L.length cL] 50)).alloc (.cells #[.int .u8 0, .int .u32 0, .int .u32 0, .int .u32 0, .int .u32 0, .int .u32 0, .int .u32 0, .int .u32 0, .int .u32 0, .int .u32 0, .slice none 0 0, .slice none 0 0, .slice none 0 0] 50) = w1 at *
    have c0 : w1.cell? ⟨w.heap.size, 0, none⟩ = some (.int .u8 0) := HA.out.cell 0
    have c11 : w1.cell? ⟨w.heap.size, 11, none⟩ = some (.slice pH hv.length cH) := HA.out.cell 11
    have hD := rdone_any pH hv.length cH hv w1 rfl (by omega) (HS.out.2.1.below HN.out)
    rw [hd] at hD
    go_wp2_with (go_at_call 53; refine Hid.out ?_)
    refine Lib.hid ?_
    (with_reducible refine hD.mono ?_)
    rintro e_ w2 ⟨rfl, hb2⟩
    have HA2 := Hid.in (HA.out.grow hb2)
    have HZ2 := Hid.in (HZ.out.grow hb2)
    have HN2 := Hid.in (below_step HN.out hb2)
    clear hD hb2 HA HZ HN c0 c11
    have c11 : w2.cell? ⟨w.heap.size, 11, none⟩ = some (.slice pH hv.length cH) := HA2.out.cell 11
    have hDc := HDc.out w2 (HS.out.2.1.below HN2.out)
    go_wp2_with (go_at_call 57; refine Hid.out ?_)
    refine Lib.hid ?_
    (with_reducible refine hDc.mono ?_)
    rintro e_ w3 ⟨rfl, hb3⟩
    have HA3 := Hid.in ((HA2.out.grow hb3).grow (new_alloc w3 (.cells #[.int .u8 4, .int .u8 a, .int .u8 b', .int .i32 n] 117)))
    have HZ3 := Hid.in ((HZ2.out.grow hb3).grow (new_alloc w3 (.cells #[.int .u8 4, .int .u8 a, .int .u8 b', .int .i32 n] 117)))
    have HN3 := Hid.in (below_alloc (below_step HN2.out hb3) (.cells #[.int .u8 4, .int .u8 a, .int .u8 b', .int .i32 n] 117))
    have HI3 := Hid.in (Blk.new w3 117 #[.int .u8 4, .int .u8 a, .int .u8 b', .int .i32 n])
    have HL3 : Hid (w.heap.size + 1 < w3.heap.size) := (HZ2.out.grow hb3).lt
    clear hDc hb3 HA2 HZ2 HN2 c11 HDc
    go_upto_region 16 with fail
    generalize w3.alloc (.cells #[.int .u8 4, .int .u8 a, .int .u8 b', .int .i32 n] 117) = w3a at *
    have c11 : w3a.cell? ⟨w.heap.size, 11, none⟩ = some (.slice pH hv.length cH) := HA3.out.cell 11
    have f11 : w3a.frozen? ⟨w.heap.size, 11, none⟩ = false := HA3.out.free 11
    have HA4 : Hid (Blk (w3a.setCell ⟨w.heap.size, 11, none⟩ (.slice none 0 0)) w.heap.size 50 #[.int .u8 0, .int .u32 pc, .int .u32 r0, .int .u32 r1, .int .u32 r2, .int .u32 r3, .int .u32 r4, .int .u32 r5, .int .u32 r6, .int .u32 r7, .slice pS S.length cS, .slice none 0 0, .slice pL L.length cL]) := HA3.out.set 11 (.slice none 0 0)
    have HZ4 := Hid.in (HZ3.out.other (k := w.heap.size) (by omega) 11 (.slice none 0 0))
    have HI4 := Hid.in (HI3.out.other (k := w.heap.size) (by have := HL3.out; omega) 11 (.slice none 0 0))
    have HN4 := Hid.in (HN3.out.grown (grown_setCell w3a w.heap.size 11 (.slice none 0 0)) HN3.out.size (fun k hk => by injection hk with hk; omega))
    go_upto_region 17 with fail
    generalize w3a.setCell ⟨w.heap.size, 11, none⟩ (.slice none 0 0) = w4 at *
    generalize w3.heap.size = gi at *
    clear c11 f11 HA3 HZ3 HN3 HI3
    have i0 : w4.cell? ⟨gi, 0, none⟩ = some (.int .u8 4) := HI4.out.cell 0
    have hF := rfault_at id 120 0 pc r0 r1 r2 r3 r4 r5 r6 r7 pS none pL S.length cS 0 0 L.length cL w4 hpc
    go_wp2_with (first
      | (refine load13 HA4.out rfl rfl _ rfl rfl ?_)
      | (go_at_call 56; refine Hid.out ?_))
    refine Lib.hid ?_
    (with_reducible refine hF.mono ?_)
    rintro e w5 ⟨v', rfl, hE', hb5⟩
    obtain ⟨g', c', rfl, -⟩ := hE'.one7
    have HE := Hid.in hE'
    have HZ5 := Hid.in (HZ4.out.grow hb5)
    have HN5 := Hid.in (below_step HN4.out hb5)
    clear hF hE' hb5
    go_upto_region 19 with fail
    have HA6 := Hid.in (Blk.new w5 50 #[.int .u8 2, .int .u32 pc, .int .u32 r0, .int .u32 r1, .int .u32 r2, .int .u32 r3, .int .u32 r4, .int .u32 r5, .int .u32 r6, .int .u32 r7, .slice pS S.length cS, .slice none 0 0, .slice pL L.length cL])
    have HZ6 := Hid.in (HZ5.out.grow (new_alloc w5 (.cells #[.int .u8 2, .int .u32 pc, .int .u32 r0, .int .u32 r1, .int .u32 r2, .int .u32 r3, .int .u32 r4, .int .u32 r5, .int .u32 r6, .int .u32 r7, .slice pS S.length cS, .slice none 0 0, .slice pL L.length cL] 50)))
    have HN6 := Hid.in (below_alloc HN5.out (.cells #[.int .u8 2, .int .u32 pc, .int .u32 r0, .int .u32 r1, .int .u32 r2, .int .u32 r3, .int .u32 r4, .int .u32 r5, .int .u32 r6, .int .u32 r7, .slice pS S.length cS, .slice none 0 0, .slice pL L.length cL] 50))
    have HE6 := Hid.in (HE.out.alloc (.cells #[.int .u8 2, .int .u32 pc, .int .u32 r0, .int .u32 r1, .int .u32 r2, .int .u32 r3, .int .u32 r4, .int .u32 r5, .int .u32 r6, .int .u32 r7, .slice pS S.length cS, .slice none 0 0, .slice pL L.length cL] 50))
    generalize w5.alloc (.cells #[.int .u8 2, .int .u32 pc, .int .u32 r0, .int .u32 r1, .int .u32 r2, .int .u32 r3, .int .u32 r4, .int .u32 r5, .int .u32 r6, .int .u32 r7, .slice pS S.length cS, .slice none 0 0, .slice pL L.length cL] 50) = w6 at *
    go_wp2_with (first
      | (refine load13 HA6.out rfl rfl _ rfl rfl ?_)
      | (refine store13 HZ6.out rfl rfl _ _ rfl rfl rfl rfl rfl ?_; intro w7 hb7 hg7; have HB := Hid.in hb7; have HG := Hid.in hg7; clear hb7 hg7))
    have hld := HB.out.load 50 _ Tryz.underlying50 rfl Tryz.sz50
    have hbb := HN6.out.grown HG.out HN6.out.size (fun k hk => by injection hk with hk; omega)
    have hE7 : EOwn 41 w7 w4.heap.size (.slice (some ⟨g', 0, none⟩) 1 c') _ := rowOther HE6.out HG.out HZ6.out (by decide)
    exact bodyPost_ret (v := .tuple #[.agg #[.int .u8 2, .int .u32 pc, .int .u32 r0, .int .u32 r1, .int .u32 r2, .int .u32 r3, .int .u32 r4, .int .u32 r5, .int .u32 r6, .int .u32 r7, .slice pS S.length cS, .slice none 0 0, .slice pL L.length cL], .slice p8 xs.length d, .slice (some ⟨g', 0, none⟩) 1 c']) (by simp [results, Tryz.results23, asAddr, hld]) rfl ⟨_, p8, d, _, rfl, ⟨pS, cS, none, 0, pL, cL, rfl, HS.out.1.below hbb, (fun h => absurd h (Nat.lt_irrefl 0)), HS.out.2.2.1.below hbb, (fun _ => rfl), HO5.out.1, Off.zero _ _⟩, HX.out.below hbb, HXO.out, hE7.lower HN4.out.size, hbb⟩
set_option maxHeartbeats 4000000 in
set_option maxRecDepth 8000 in
theorem rstepH_trap {H : Hs} {V : Value} (id : Int) (tz : Nat) (p8 : Option Addr) (d : Nat) (xs : List Int) (hold : Bool) (w : World) (hok : HsOk 1000000 H) (G : Nat → Prop) (hG : ∀ j, G j → j < w.heap.size) (k : HvN G w H V) (hx : Row w p8 xs) (hxo : Off G p8 xs.length)  (h0 : H.st = 0) (hd : doneB H.hv = true) (hcase : (dec H.hv).e = 0 ∧ (dec H.hv).o = 4) (htz : tz ≤ 4294967295) :
    Calls Tryz.prog 23 #[V, .int .i64 id, .slice p8 xs.length d, .bool hold, .int .i64 tz] w fun e w' => RsIs G w (folH id (nilH H) xs (some tz)) e w' := by
  obtain ⟨st, pc, R, S, hv, L⟩ := H
  obtain ⟨hpc, lR, wR, wS, lS, bH, lH, wL, lL⟩ := hok
  obtain ⟨pS, cS, pH, cH, pL, cL, rfl, s1, s2, s3, s4, s5, s6⟩ := k
  dsimp only at *
  subst h0
  obtain ⟨r0, r1, r2, r3, r4, r5, r6, r7, rfl⟩ := eight lR
  simp only [stA, List.getD_cons_zero, List.getD_cons_succ]
  have HS := Hid.in (And.intro s1 (And.intro s2 (And.intro s3 s4)))
  have HX := Hid.in hx
  have HXO := Hid.in hxo
  have HO5 := Hid.in (And.intro s5 s6)
  have HGG := Hid.in hG
  have HA := Hid.in ((Blk.new w 50 #[.int .u8 0, .int .u32 pc, .int .u32 r0, .int .u32 r1, .int .u32 r2, .int .u32 r3, .int .u32 r4, .int .u32 r5, .int .u32 r6, .int .u32 r7, .slice pS S.length cS, .slice pH hv.length cH, .slice pL L.length cL]).grow (new_alloc _ (.cells #[.int .u8 0, .int .u32 0, .int .u32 0, .int .u32 0, .int .u32 0, .int .u32 0, .int .u32 0, .int .u32 0, .int .u32 0, .int .u32 0, .slice none 0 0, .slice none 0 0, .slice none 0 0] 50)))
  have HZ := Hid.in (blk_two w 50 50 #[.int .u8 0, .int .u32 pc, .int .u32 r0, .int .u32 r1, .int .u32 r2, .int .u32 r3, .int .u32 r4, .int .u32 r5, .int .u32 r6, .int .u32 r7, .slice pS S.length cS, .slice pH hv.length cH, .slice pL L.length cL] #[.int .u8 0, .int .u32 0, .int .u32 0, .int .u32 0, .int .u32 0, .int .u32 0, .int .u32 0, .int .u32 0, .int .u32 0, .int .u32 0, .slice none 0 0, .slice none 0 0, .slice none 0 0])
  have HN := Hid.in (below_alloc (new_alloc w (.cells #[.int .u8 0, .int .u32 pc, .int .u32 r0, .int .u32 r1, .int .u32 r2, .int .u32 r3, .int .u32 r4, .int .u32 r5, .int .u32 r6, .int .u32 r7, .slice pS S.length cS, .slice pH hv.length cH, .slice pL L.length cL] 50)) (.cells #[.int .u8 0, .int .u32 0, .int .u32 0, .int .u32 0, .int .u32 0, .int .u32 0, .int .u32 0, .int .u32 0, .int .u32 0, .int .u32 0, .slice none 0 0, .slice none 0 0, .slice none 0 0] 50))
  clear s1 s2 s3 s4 s5 s6 lR hx hxo hG
  have hDc := fun (W : World) (h : Row W pH hv) => rdecode_any pH hv.length cH hv W rfl (by omega) h bH
  generalize dec hv = dd at *
  obtain ⟨o, a, b', n, le, e⟩ := dd
  dsimp only [decV, decT] at hDc hcase ⊢
  have HDc := Hid.in hDc
  clear hDc
  obtain ⟨he, ho⟩ := hcase
  subst he ho
  go_enter Tryz.func23, Tryz.ntmps23
  go_upto_region 1 with fail
  generalize (w.alloc (.cells #[.int .u8 0, .int .u32 pc, .int .u32 r0, .int .u32 r1, .int .u32 r2, .int .u32 r3, .int .u32 r4, .int .u32 r5, .int .u32 r6, .int .u32 r7, .slice pS S.length cS, .slice pH hv.length cH, .slice pL L.length cL] 50)).alloc (.cells #[.int .u8 0, .int .u32 0, .int .u32 0, .int .u32 0, .int .u32 0, .int .u32 0, .int .u32 0, .int .u32 0, .int .u32 0, .int .u32 0, .slice none 0 0, .slice none 0 0, .slice none 0 0] 50) = w1 at *
  have c0 : w1.cell? ⟨w.heap.size, 0, none⟩ = some (.int .u8 0) := HA.out.cell 0
  have c11 : w1.cell? ⟨w.heap.size, 11, none⟩ = some (.slice pH hv.length cH) := HA.out.cell 11
  have hD := rdone_any pH hv.length cH hv w1 rfl (by omega) (HS.out.2.1.below HN.out)
  rw [hd] at hD
  go_wp2_with (go_at_call 53; refine Hid.out ?_)
  refine Lib.hid ?_
  (with_reducible refine hD.mono ?_)
  rintro e_ w2 ⟨rfl, hb2⟩
  have HA2 := Hid.in (HA.out.grow hb2)
  have HZ2 := Hid.in (HZ.out.grow hb2)
  have HN2 := Hid.in (below_step HN.out hb2)
  clear hD hb2 HA HZ HN c0 c11
  have c11 : w2.cell? ⟨w.heap.size, 11, none⟩ = some (.slice pH hv.length cH) := HA2.out.cell 11
  have hDc := HDc.out w2 (HS.out.2.1.below HN2.out)
  go_wp2_with (go_at_call 57; refine Hid.out ?_)
  refine Lib.hid ?_
  (with_reducible refine hDc.mono ?_)
  rintro e_ w3 ⟨rfl, hb3⟩
  have HA3 := Hid.in ((HA2.out.grow hb3).grow (new_alloc w3 (.cells #[.int .u8 4, .int .u8 a, .int .u8 b', .int .i32 n] 117)))
  have HZ3 := Hid.in ((HZ2.out.grow hb3).grow (new_alloc w3 (.cells #[.int .u8 4, .int .u8 a, .int .u8 b', .int .i32 n] 117)))
  have HN3 := Hid.in (below_alloc (below_step HN2.out hb3) (.cells #[.int .u8 4, .int .u8 a, .int .u8 b', .int .i32 n] 117))
  have HI3 := Hid.in (Blk.new w3 117 #[.int .u8 4, .int .u8 a, .int .u8 b', .int .i32 n])
  have HL3 : Hid (w.heap.size + 1 < w3.heap.size) := (HZ2.out.grow hb3).lt
  clear hDc hb3 HA2 HZ2 HN2 c11 HDc
  go_upto_region 16 with fail
  generalize w3.alloc (.cells #[.int .u8 4, .int .u8 a, .int .u8 b', .int .i32 n] 117) = w3a at *
  have c11 : w3a.cell? ⟨w.heap.size, 11, none⟩ = some (.slice pH hv.length cH) := HA3.out.cell 11
  have f11 : w3a.frozen? ⟨w.heap.size, 11, none⟩ = false := HA3.out.free 11
  have HA4 : Hid (Blk (w3a.setCell ⟨w.heap.size, 11, none⟩ (.slice none 0 0)) w.heap.size 50 #[.int .u8 0, .int .u32 pc, .int .u32 r0, .int .u32 r1, .int .u32 r2, .int .u32 r3, .int .u32 r4, .int .u32 r5, .int .u32 r6, .int .u32 r7, .slice pS S.length cS, .slice none 0 0, .slice pL L.length cL]) := HA3.out.set 11 (.slice none 0 0)
  have HZ4 := Hid.in (HZ3.out.other (k := w.heap.size) (by omega) 11 (.slice none 0 0))
  have HI4 := Hid.in (HI3.out.other (k := w.heap.size) (by have := HL3.out; omega) 11 (.slice none 0 0))
  have HN4 := Hid.in (HN3.out.grown (grown_setCell w3a w.heap.size 11 (.slice none 0 0)) HN3.out.size (fun k hk => by injection hk with hk; omega))
  go_upto_region 17 with fail
  generalize w3a.setCell ⟨w.heap.size, 11, none⟩ (.slice none 0 0) = w4 at *
  generalize w3.heap.size = gi at *
  clear c11 f11 HA3 HZ3 HN3 HI3
  have i0 : w4.cell? ⟨gi, 0, none⟩ = some (.int .u8 4) := HI4.out.cell 0
  have d1 : decide ((tz : Int) < 0) = false := by simp
  have c1 : w4.cell? ⟨w.heap.size, 1, none⟩ = some (.int .u32 pc) := HA4.out.cell 1
  have HA5 := Hid.in (HA4.out.grow (new_alloc w4 (.cells #[.int .u8 3, .int .i64 0, .int .i64 id, .int .i64 pc, .int .u8 0, .int .i64 0, .int .i64 tz] 41)))
  have HZ5 := Hid.in (HZ4.out.grow (new_alloc w4 (.cells #[.int .u8 3, .int .i64 0, .int .i64 id, .int .i64 pc, .int .u8 0, .int .i64 0, .int .i64 tz] 41)))
  have HN5 := Hid.in (below_alloc HN4.out (.cells #[.int .u8 3, .int .i64 0, .int .i64 id, .int .i64 pc, .int .u8 0, .int .i64 0, .int .i64 tz] 41))
  have HE5 := Hid.in (Blk.new w4 41 #[.int .u8 3, .int .i64 0, .int .i64 id, .int .i64 pc, .int .u8 0, .int .i64 0, .int .i64 tz])
  go_upto_region 22 with fail
  generalize w4.alloc (.cells #[.int .u8 3, .int .i64 0, .int .i64 id, .int .i64 pc, .int .u8 0, .int .i64 0, .int .i64 tz] 41) = w5 at *
  have c1 : w5.cell? ⟨w.heap.size, 1, none⟩ = some (.int .u32 pc) := HA5.out.cell 1
  have f1 : w5.frozen? ⟨w.heap.size, 1, none⟩ = false := HA5.out.free 1
  have HA6 : Hid (Blk (w5.setCell ⟨w.heap.size, 1, none⟩ (.int .u32 tz)) w.heap.size 50 #[.int .u8 0, .int .u32 tz, .int .u32 r0, .int .u32 r1, .int .u32 r2, .int .u32 r3, .int .u32 r4, .int .u32 r5, .int .u32 r6, .int .u32 r7, .slice pS S.length cS, .slice none 0 0, .slice pL L.length cL]) := HA5.out.set 1 (.int .u32 tz)
  have HZ6 := Hid.in (HZ5.out.other (k := w.heap.size) (by omega) 1 (.int .u32 tz))
  have HE6 := Hid.in (HE5.out.other (k := w.heap.size) (by have := HZ4.out.lt; omega) 1 (.int .u32 tz))
  have HN6 := Hid.in (HN5.out.grown (grown_setCell w5 w.heap.size 1 (.int .u32 tz)) HN5.out.size (fun k hk => by injection hk with hk; omega))
  have hm32 : (tz : Int) % 4294967296 = tz := by omega
  go_upto_region 23 with fail
  generalize w5.setCell ⟨w.heap.size, 1, none⟩ (.int .u32 tz) = w6 at *
  clear c1 f1
  go_wp2_with (first
    | (refine load13 HA6.out rfl rfl _ rfl rfl ?_)
    | (refine store13 HZ6.out rfl rfl _ _ rfl rfl rfl rfl rfl ?_; intro w7 hb7 hg7; have HB := Hid.in hb7; have HG := Hid.in hg7; clear hb7 hg7))
  have hld := HB.out.load 50 _ Tryz.underlying50 rfl Tryz.sz50
  have hbb := HN6.out.grown HG.out HN6.out.size (fun k hk => by injection hk with hk; omega)
  have hE7 := HE6.out.kept HG.out (by intro e; injection e with e; have := HZ4.out.lt; omega)
  exact bodyPost_ret (v := .tuple #[.agg #[.int .u8 0, .int .u32 tz, .int .u32 r0, .int .u32 r1, .int .u32 r2, .int .u32 r3, .int .u32 r4, .int .u32 r5, .int .u32 r6, .int .u32 r7, .slice pS S.length cS, .slice none 0 0, .slice pL L.length cL], .slice p8 xs.length d, .slice (some ⟨w4.heap.size, 0, none⟩) 1 1]) (by simp [results, Tryz.results23, asAddr, hld]) rfl ⟨_, p8, d, _, rfl, ⟨pS, cS, none, 0, pL, cL, rfl, HS.out.1.below hbb, (fun h => absurd h (Nat.lt_irrefl 0)), HS.out.2.2.1.below hbb, (fun _ => rfl), HO5.out.1, Off.zero _ _⟩, HX.out.below hbb, HXO.out, (EOwn.at w4 _ hE7).lower HN4.out.size, hbb⟩
end Go.Proofs.YtnpaijbkhmnfpaaGreat
