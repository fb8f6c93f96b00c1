/- What the law WordsFields answers: true, for every two texts up to a size. -/
import Derived.Test.YtaabdffplfifkaaDoorAny2
import Derived.Test.YtaabdffplfifkaaDoorChain
import Derived.Test.YtaabdffplfifkaaDoorLinesWalk
import Derived.Test.YtaabdffplfifkaaDoorRefFields
import Derived.Lib.QuietBelow
namespace Go.Proofs.YtaabdffplfifkaaDoor
open Go.RowKit

theorem texts_of (fs : List (Nat × List UInt8)) : (fTexts fs).map (·.data.toList) = fs.map (·.2) := by
  simp [fTexts, bytesOf_list, Function.comp_def]
theorem texts_eq {fs gs : List (Nat × List UInt8)} (h : fs.map (·.2) = gs.map (·.2)) : fTexts fs = fTexts gs := by
  have e : ∀ l : List (Nat × List UInt8), fTexts l = (l.map (·.2)).map bytesOf := by intro l; simp [fTexts, Function.comp_def]
  rw [e, e, h]

theorem cell_still {w w' : World} (h : Below w.heap.size w w') {b o : Nat} {v : Value} (hc : w.cell? ⟨b, o, none⟩ = some v) : w'.cell? ⟨b, o, none⟩ = some v := by
  rw [h.cell (p := ⟨b, o, none⟩) (cell_lt hc)]; exact hc
theorem row_of {T : TypeId} {w : World} {B n c : Nat} {p : Option Addr} {vs : List Value} (h : GOwnV T w B (.slice p n c) vs) : GRow w p vs := by
  obtain ⟨p', c', e, r, -, -⟩ := h.slice
  injection e with e1 e2 e3
  subst e1; exact r
theorem noFour (x : List UInt8) (h : ∀ c ∈ x, isBlank c = false ∧ c ≠ 35) (k : Nat) (hk : k < (bytesOf x).size) : inFour ((bytesOf x)[k]'hk) = false := by
  have hk' : k < x.length := by rw [bytesOf_size] at hk; exact hk
  have e : (bytesOf x)[k]'hk = x[k] := by simp [bytesOf, ByteArray.getElem_eq_getElem_data]
  rw [e]
  obtain ⟨h1, h2⟩ := h x[k] (List.getElem_mem hk')
  simp [isBlank] at h1
  simp [inFour, h1, h2]

/-- strings.Join of such a row, the empty one too -/
theorem join_any (p : Option Addr) (c : Nat) (xs : List ByteArray) (sep : ByteArray) (w : World) (h : GRow w p (strs xs)) (hc : xs.length ≤ c) (hN : xs.length ≤ 140737488355328) (hlen : (Lib.join (xs.map (·.data.toList)) sep.data.toList).length ≤ 140737488355328) :
    Calls Tryd.prog 23 #[.slice p xs.length c, .string sep] w fun e w' => e = .returned (.string (bytesOf (Lib.join (xs.map (·.data.toList)) sep.data.toList))) ∧ Below w.heap.size w w' := by
  by_cases h0 : xs = []
  · subst h0
    exact (Tryd.strings_Join_none p c sep w).mono fun e w' ⟨h1, h2⟩ => ⟨h1, h2 ▸ Below.refl _ _⟩
  · have hpos : 0 < xs.length := List.length_pos_iff.2 h0
    obtain ⟨b, o, rfl, hcell⟩ := h (by simpa [strs] using hpos)
    have hcells : ∀ (j : Nat) x, xs[j]? = some x → w.cell? ⟨b, o + j, none⟩ = some (.string x) := fun j x hj => by
      have hlt : j < xs.length := by
        rcases Nat.lt_or_ge j xs.length with h | h
        · exact h
        · rw [List.getElem?_eq_none h] at hj; cases hj
      rw [hcell j (by simpa [strs] using hlt)]
      simp [strs, hj]
    have hbk : b < w.heap.size := by
      have := hcells 0 xs[0] (by simp [hpos])
      exact cell_lt this
    exact Tryd.strings_Join b o c xs sep w hcells hbk hN hc hlen

set_option maxRecDepth 100000 in
set_option maxHeartbeats 8000000 in
theorem fieldsWalk (s q : ByteArray) (w : World) (hs : s.size ≤ 1048576) (hq : q.size ≤ 1048576) :
    Calls Tryd.prog 6 #[.string s, .string q] w fun e w' => e = .returned (.bool true) ∧ Below w.heap.size w w' := by
  have hF := fun w => fields_any s w (by omega)
  have hla := Lib.size_eq s
  have hal := ahead_le s.data.toList
  have HC0 : Hid (Chain (ahead s.data.toList) 0 (fieldsL s.data.toList)) := chain_fields _
  have hfl : (fieldsL s.data.toList).length ≤ 1048577 := by
    unfold fieldsL
    have := fldL_length (ahead s.data.toList) 0 none
    omega
  have HJ : Hid (fTexts (fieldsL ([32, 32] ++ Lib.join ((fieldsL s.data.toList).map (·.2)) [9, 32] ++ [13])) = fTexts (fieldsL s.data.toList)) :=
    texts_eq (fields_join _ (fun x hx => by
      obtain ⟨f, hf, rfl⟩ := List.mem_map.1 hx
      exact fields_each _ f hf))
  have hjl : (Lib.join ((fieldsL s.data.toList).map (·.2)) [9, 32]).length ≤ 4194304 := by
    have h1 := join_size ((fieldsL s.data.toList).map (·.2))
    have h2 := chain_sum HC0.out (Nat.zero_le _)
    rw [List.length_map] at h1
    omega
  have HH : Hid (fieldsL (s.data.toList ++ 35 :: q.data.toList) = fieldsL s.data.toList) := fields_hash _ _
  have HE : Hid (∀ f ∈ fieldsL s.data.toList, f.2 ≠ [] ∧ ∀ c ∈ f.2, isBlank c = false ∧ c ≠ 35) := fun f hf => fields_each _ f hf
  have HP : Hid (∀ a b : Nat, b ≤ (ahead s.data.toList).length → piece s.data.toList a b = piece (ahead s.data.toList) a b) := fun a b h => ahead_piece _ a b h
  generalize fieldsL s.data.toList = fs at *
  generalize ahead s.data.toList = A at *
  go_enter Tryd.func6, Tryd.ntmps6
  go_wp2_with fail
  refine (hF _).mono ?_
  rintro e w1 ⟨vf, vc, rfl, of1, oc1, hb1⟩
  clear hF
  have hlf : (strs (fTexts fs)).length = fs.length := by simp [fTexts]
  have hlc : (nums (fCols fs)).length = fs.length := by simp [fCols]
  obtain ⟨p1, c1, hv1, r1, hc1, -⟩ := of1.slice
  obtain ⟨p2, c2, hv2, r2, hc2, -⟩ := oc1.slice
  rw [hlf] at hv1 hc1
  rw [hlc] at hv2 hc2
  have HOF : Hid (GOwnV 9 w1 w.heap.size vf (strs (fTexts fs))) := of1
  have HOC : Hid (GOwnV 3 w1 w.heap.size vc (nums (fCols fs))) := oc1
  have HX : Hid (∀ k (hk : k < fs.length), ∃ b o, p1 = some ⟨b, o, none⟩ ∧ w1.cell? ⟨b, o + k, none⟩ = some (.string (bytesOf fs[k].2))) := by
    show ∀ k (hk : k < fs.length), _
    intro k hk
    obtain ⟨b, o, hp, hc⟩ := r1 (by rw [hlf]; omega)
    refine ⟨b, o, hp, ?_⟩
    rw [hc k (by rw [hlf]; exact hk)]
    simp [strs, fTexts, hk]
  have HZ : Hid (∀ k (hk : k < fs.length), ∃ b o, p2 = some ⟨b, o, none⟩ ∧ w1.cell? ⟨b, o + k, none⟩ = some (.int .i64 ((fs[k].1 : Int) + 1))) := by
    show ∀ k (hk : k < fs.length), _
    intro k hk
    obtain ⟨b, o, hp, hc⟩ := r2 (by rw [hlc]; omega)
    refine ⟨b, o, hp, ?_⟩
    rw [hc k (by rw [hlc]; exact hk)]
    simp [nums, fCols, hk]
  clear of1 oc1 r1 r2 hlf hlc
  subst hv1 hv2
  have hnn : ((fs.length : Int) != (fs.length : Int)) = false := by simp
  go_wp2_with fail
  go_loopw [7, 8] (fun a i wr => ∃ k e : Nat, k ≤ fs.length ∧ i = .int .i64 k ∧ a = .int .i64 e ∧ Chain A e (fs.drop k) ∧ Below w1.heap.size w1 wr) (fun _ i _ => fs.length - (intOf i).toNat)
  case atStart => exact ⟨0, 0, Nat.zero_le _, rfl, rfl, HC0.out, Below.refl _ _⟩
  case round =>
    obtain ⟨k, e, hk, rfl, rfl, hch, hbr⟩ := hrel
    by_cases hlt : k < fs.length
    · obtain ⟨b0, o0, rfl, hcx⟩ := HX.out k hlt
      obtain ⟨b1, o1, rfl, hcz⟩ := HZ.out k hlt
      replace hcx := cell_still hbr hcx
      replace hcz := cell_still hbr hcz
      rw [List.drop_eq_getElem_cons hlt] at hch
      obtain ⟨h1, h2, h3, h4, h5, h6⟩ := hch
      have hE := (HE.out fs[k] (List.getElem_mem hlt)).2
      rw [← HP.out _ _ h4] at h5
      generalize fs[k].1 = b at *
      generalize fs[k].2 = x at *
      have hx1 : 0 < x.length := List.length_pos_iff.2 h1
      have hbe : b + x.length ≤ s.size := by omega
      have hCA : ∀ w, Calls Tryd.prog 22 #[.string (bytesOf x), .string ⟨#[32, 9, 13, 35]⟩] w fun e w' => e = .returned (.bool false) ∧ Below w.heap.size w w' := fun w =>
        containsAny_no (bytesOf x) w (noFour x hE) (by rw [bytesOf_size]; omega)
      obtain ⟨hf1, hf2⟩ := text_full (bytesOf x) (by rw [bytesOf_size]; omega)
      have hext : s.extract b (b + x.length) = bytesOf x := by rw [extract_piece, h5]
      have hXs := bytesOf_size x
      have HCH : Hid (Chain A (b + x.length) (fs.drop (k + 1))) := h6
      clear hE h1 h2 h4 h5 h6
      generalize bytesOf x = X at *
      generalize x.length = L at *
      have HBR : Hid (Below w1.heap.size w1 wr) := hbr
      have hcx' := fun d os => cell_regrown hcx d os
      have hcz' := fun d os => cell_regrown hcz d os
      have hki : (k : Int) < (fs.length : Int) := by omega
      have hd1 : decide ((b : Int) + 1 ≤ (e : Int)) = false := decide_eq_false (by omega)
      have hd2 : decide ((s.size : Int) < (b : Int) + (L : Int)) = false := decide_eq_false (by omega)
      have hXX : (X.toList != X.toList) = false := by simp
      clear hbr HX HZ hla hal
      go_wp2_with fail
      refine wp_region_quiet_below (by kernel_rfl) (by kernel_rfl) ?_
      iterate 61 (go_big_quiet_step ((exact Calls.regrown_of (hCA _))))
      refine wpQuiet_nil ?_
      intro _ hw'
      obtain ⟨⟨dq, osq⟩, hw''⟩ := hw'
      subst hw''
      have hBq : Below wr.heap.size wr (Go.Sort.grow (redrawn wr dq) osq) := below_regrown wr dq osq
      have hcx2 := hcx' dq osq
      have hcz2 := hcz' dq osq
      generalize Go.Sort.grow (redrawn wr dq) osq = W2 at hBq hcx2 hcz2 ⊢
      clear hcx' hcz' hcx hcz
      go_wp2_with fail
      go_quiet (fail)
      go_wp2_with fail
      go_roundw
      case rel => exact ⟨k + 1, b + L, by omega, by go_num, by go_num, HCH.out, below_draws (below_step HBR.out hBq) _⟩
      case measure => simp [intOf]; omega
    · obtain rfl : k = fs.length := by omega
      have hki : ¬ ((fs.length : Int) < (fs.length : Int)) := by omega
      have HOF1 : Hid (GOwnV 9 wr w.heap.size (.slice p1 fs.length c1) (strs (fTexts fs))) := HOF.out.below hbr
      have HOC1 : Hid (GOwnV 3 wr w.heap.size (.slice p2 fs.length c2) (nums (fCols fs))) := HOC.out.below hbr
      have hbw := below_step hb1 hbr
      have hJn : Calls Tryd.prog 23 #[.slice p1 fs.length c1, .string ⟨#[9, 32]⟩] wr fun e w' => e = .returned (.string (bytesOf (Lib.join (fs.map (·.2)) [9, 32]))) ∧ Below wr.heap.size wr w' := by
        have h := join_any p1 c1 (fTexts fs) ⟨#[9, 32]⟩ wr (row_of HOF1.out) (by rw [texts_len]; exact hc1) (by rw [texts_len]; omega) (by rw [texts_of]; exact Nat.le_trans hjl (by decide))
        rw [texts_len, texts_of] at h
        exact h
      generalize Lib.join (fs.map (·.2)) [9, 32] = J at *
      have hM : ∀ w, Calls Tryd.prog 12 #[.string ((⟨#[32, 32]⟩ ++ bytesOf J) ++ ⟨#[13]⟩)] w fun e w' => ∃ vf vc zs, e = .returned (.tuple #[vf, vc]) ∧ GOwnV 9 w' w.heap.size vf (strs (fTexts fs)) ∧ GOwnV 3 w' w.heap.size vc (nums zs) ∧ Below w.heap.size w w' := fun w => by
        have h := fields_any ((⟨#[32, 32]⟩ ++ bytesOf J) ++ ⟨#[13]⟩) w (by rw [ByteArray.size_append, ByteArray.size_append, bytesOf_size, show (⟨#[32, 32]⟩ : ByteArray).size = 2 from rfl, show (⟨#[13]⟩ : ByteArray).size = 1 from rfl]; omega)
        rw [show ((⟨#[32, 32]⟩ ++ bytesOf J) ++ ⟨#[13]⟩ : ByteArray).data.toList = [32, 32] ++ J ++ [13] by rw [data_app, data_app, bytesOf_list], HJ.out] at h
        exact h.mono fun e w' ⟨vf, vc, h1, h2, h3, h4⟩ => ⟨vf, vc, _, h1, h2, h3, h4⟩
      have hP : ∀ w, Calls Tryd.prog 12 #[.string ((s ++ ⟨#[35]⟩) ++ q)] w fun e w' => ∃ vf vc, e = .returned (.tuple #[vf, vc]) ∧ GOwnV 9 w' w.heap.size vf (strs (fTexts fs)) ∧ GOwnV 3 w' w.heap.size vc (nums (fCols fs)) ∧ Below w.heap.size w w' := fun w => by
        have h := fields_any ((s ++ ⟨#[35]⟩) ++ q) w (by rw [ByteArray.size_append, ByteArray.size_append, show (⟨#[35]⟩ : ByteArray).size = 1 from rfl]; omega)
        rw [show ((s ++ ⟨#[35]⟩) ++ q : ByteArray).data.toList = s.data.toList ++ 35 :: q.data.toList by rw [data_app, data_app, List.append_assoc]; rfl, HH.out] at h
        exact h
      have q1 : ¬ (9223372036854775807 < (⟨#[32, 32]⟩ : ByteArray).size + (bytesOf J).size) := by rw [bytesOf_size, show (⟨#[32, 32]⟩ : ByteArray).size = 2 from rfl]; omega
      have q2 : ¬ (9223372036854775807 < (⟨#[32, 32]⟩ ++ bytesOf J : ByteArray).size + (⟨#[13]⟩ : ByteArray).size) := by
        rw [ByteArray.size_append, bytesOf_size, show (⟨#[32, 32]⟩ : ByteArray).size = 2 from rfl, show (⟨#[13]⟩ : ByteArray).size = 1 from rfl]; omega
      have q3 : ¬ (9223372036854775807 < s.size + (⟨#[35]⟩ : ByteArray).size) := by rw [show (⟨#[35]⟩ : ByteArray).size = 1 from rfl]; omega
      have q4 : ¬ (9223372036854775807 < (s ++ ⟨#[35]⟩ : ByteArray).size + q.size) := by rw [ByteArray.size_append, show (⟨#[35]⟩ : ByteArray).size = 1 from rfl]; omega
      clear HOF HOC HX HZ HJ HH HE HP HC0 hch hla hal hb1 hbr
      generalize bytesOf J = JJ at *
      go_wp2_with fail
      refine hJn.mono ?_
      rintro e w2 ⟨rfl, hb2⟩
      have HOF2 : Hid (GOwnV 9 w2 w.heap.size (.slice p1 fs.length c1) (strs (fTexts fs))) := HOF1.out.below hb2
      have HOC2 : Hid (GOwnV 3 w2 w.heap.size (.slice p2 fs.length c2) (nums (fCols fs))) := HOC1.out.below hb2
      have hbw2 := below_step hbw hb2
      clear hJn HOF1 HOC1 hbw hb2
      go_wp2_with fail
      refine (hM _).mono ?_
      rintro e w3 ⟨vf3, vc3, zs3, rfl, of3, oc3, hb3⟩
      have HOF3 : Hid (GOwnV 9 w3 w.heap.size (.slice p1 fs.length c1) (strs (fTexts fs))) := HOF2.out.below hb3
      have HOC3 : Hid (GOwnV 3 w3 w.heap.size (.slice p2 fs.length c2) (nums (fCols fs))) := HOC2.out.below hb3
      have hbw3 := below_step hbw2 hb3
      have hlf : (strs (fTexts fs)).length = fs.length := by simp [fTexts]
      have hlc : (nums (fCols fs)).length = fs.length := by simp [fCols]
      obtain ⟨p3, c3, hv3, -, -, -⟩ := of3.slice
      obtain ⟨p4, c4, hv4, -, -, -⟩ := oc3.slice
      rw [hlf] at hv3
      generalize (nums zs3).length = n4 at hv4
      subst hv3 hv4
      have HOF4 : Hid (GOwnV 9 w3 w2.heap.size (.slice p3 fs.length c3) (strs (fTexts fs))) := of3
      clear hM HOF2 HOC2 hbw2 hb3 of3 oc3
      go_wp2_with fail
      refine (hP _).mono ?_
      rintro e w5 ⟨vf5, vc5, rfl, of5, oc5, hb5⟩
      have r1 := row_of (HOF3.out.below hb5)
      have r2 := row_of (HOC3.out.below hb5)
      have r3 := row_of (HOF4.out.below hb5)
      have hbw5 := below_step hbw3 hb5
      obtain ⟨p5, c5, hv5, r5, -, -⟩ := of5.slice
      obtain ⟨p6, c6, hv6, r6, -, -⟩ := oc5.slice
      rw [hlf] at hv5
      rw [hlc] at hv6
      subst hv5 hv6
      clear hP HOF3 HOC3 HOF4 hbw3 hb5 of5 oc5 hlf hlc q1 q2 q3 q4
      go_wp2_with fail
      refine (sameTexts_self p3 p1 fs.length c3 c1 (fTexts fs) _ (by omega) (texts_len fs) r3 r1).mono ?_
      rintro e w6 ⟨rfl, m6, rfl⟩
      go_wp2_with fail
      refine (sameTexts_self p5 p1 fs.length c5 c1 (fTexts fs) _ (by omega) (texts_len fs) (r5.drewN m6) (r1.drewN m6)).mono ?_
      rintro e w7 ⟨rfl, m7, rfl⟩
      go_wp2_with fail
      refine (sameInts_self p6 p2 fs.length c6 c2 (fCols fs) _ (by omega) (cols_len fs) (r6.drewN (m6 + m7)) (r2.drewN (m6 + m7))).mono ?_
      rintro e w8 ⟨rfl, m8, rfl⟩
      have hbw8 := below_draws (below_draws hbw5 (m6 + m7)) m8
      generalize (w5.drewN (m6 + m7)).drewN m8 = w9 at *
      clear r1 r2 r3 r5 r6 hbw5
      go_wp2_with fail
      refine (awake_any _).mono ?_
      rintro e w10 ⟨rfl, hb10⟩
      go_wp2_with fail
      go_ret
      exact ⟨rfl, below_step hbw8 hb10⟩

end Go.Proofs.YtaabdffplfifkaaDoor
