/- What switchyardref03.Fields answers, for every line. -/
import Derived.Test.YtaabdffplfifkaaDoorWFields
import Derived.Test.YtaabdffplfifkaaDoorRefNumber
namespace Go.Proofs.YtaabdffplfifkaaDoor
open Go.RowKit

theorem ahead_at (l : List UInt8) (k : Nat) (h : k < (ahead l).length) : ∃ h' : k < l.length, l[k] = (ahead l)[k] := by
  rcases ahead_split l with e | ⟨b, e⟩
  · exact ⟨by rw [e] at h; exact h, by simp [e]⟩
  · have h' : k < l.length := Nat.lt_of_lt_of_le h (ahead_le l)
    refine ⟨h', ?_⟩
    have e2 : l[k]? = (ahead l ++ 35 :: b)[k]? := by rw [← e]
    rw [List.getElem?_append_left h, List.getElem?_eq_getElem h', List.getElem?_eq_getElem h] at e2
    exact Option.some.inj e2
theorem ahead_end (l : List UInt8) (h : (ahead l).length < l.length) : l[(ahead l).length] = 35 := by
  rcases ahead_split l with e | ⟨b, e⟩
  · rw [e] at h; omega
  · have e2 : l[(ahead l).length]? = (ahead l ++ 35 :: b)[(ahead l).length]? := by rw [← e]
    rw [List.getElem?_append_right (Nat.le_refl _), List.getElem?_eq_getElem h] at e2
    simpa using e2
theorem ahead_piece (l : List UInt8) (i k : Nat) (hk : k ≤ (ahead l).length) : piece l i k = piece (ahead l) i k := by
  rcases ahead_split l with e | ⟨b, e⟩
  · rw [e]
  · unfold piece
    by_cases hi : i ≤ (ahead l).length
    · have : l.drop i = (ahead l).drop i ++ 35 :: b := by
        conv => lhs; rw [e]
        rw [List.drop_append_of_le_length hi]
      rw [this, List.take_append_of_le_length (by rw [List.length_drop]; omega)]
    · rw [show k - i = 0 by omega]; simp

theorem ref_field (A : List UInt8) (i k : Nat) (hi : i < k) (hk : k ≤ A.length) (hb : ∀ c ∈ piece A i k, isBlank c = false) (he : k = A.length ∨ ∃ h : k < A.length, isBlank A[k] = true) :
    fldL i none (A.drop i) = (i, piece A i k) :: fldL (k + 1) none (A.drop (k + 1)) := by
  rw [piece_drop A i k (by omega), fldL_open _ _ _ (fun e => by have := congrArg List.length e; rw [piece_len _ _ _ hk, List.length_nil] at this; omega) hb, piece_len _ _ _ hk, show i + (k - i) = k by omega]
  rcases he with e | ⟨h, e⟩
  · rw [List.drop_eq_nil_of_le (by omega), List.drop_eq_nil_of_le (by omega)]
    simp [fldL]
  · rw [drop_at A k h, fldL_blank _ _ _ _ e]
    rfl

theorem ne39 : (3 : TypeId) ≠ 9 := by decide
theorem ne93 : (9 : TypeId) ≠ 3 := by decide
theorem room_alloc {w : World} {B : Nat} (h : B ≤ w.heap.size) (o : Obj) : B ≤ (w.alloc o).heap.size := by simp; omega
theorem keep_other {T T' : TypeId} {w w' : World} {B : Nat} {v v' : Value} {vs vs' : List Value} {o : Obj} (hne : T ≠ T') (h : GOwnV T w B v vs) (h' : GOwnV T' w B v' vs') (hg : (w.alloc o).grownBy w' v'.ownBlock) : GOwnV T w' B v vs :=
  (h.alloc o).grownOther hg (GOwnV.apart hne (h.alloc o) (h'.alloc o))
theorem drop_bang (A : List UInt8) (i : Nat) (h : i < A.length) : A.drop i = A[i]! :: A.drop (i + 1) := by
  rw [drop_at A i h]; simp [h]

set_option maxRecDepth 100000 in
set_option maxHeartbeats 4000000 in
theorem refFields_any (s : ByteArray) (w : World) (hs : (s.size + 1) * 16 ≤ 140737488355328) :
    Calls Tryd.prog 17 #[.string s] w fun e w' => ∃ vf vc, e = .returned (.tuple #[vf, vc]) ∧ GOwnV 9 w' w.heap.size vf (strs (fTexts (fieldsL s.data.toList))) ∧ GOwnV 3 w' w.heap.size vc (nums (fCols (fieldsL s.data.toList))) ∧ Below w.heap.size w w' := by
  have hl := Lib.size_eq s
  have hle := ahead_le s.data.toList
  have HAT : Hid (∀ k, k < (ahead s.data.toList).length → ∃ h : k < s.size, s[k] = (ahead s.data.toList)[k]! ∧ s[k] ≠ 35) := by
    show ∀ k, k < (ahead s.data.toList).length → ∃ h : k < s.size, s[k] = (ahead s.data.toList)[k]! ∧ s[k] ≠ 35
    intro k hk
    obtain ⟨h', e⟩ := ahead_at s.data.toList k hk
    refine ⟨by omega, ?_, ?_⟩
    · rw [← list_byte s k (by omega) h', e]; simp [hk]
    · rw [← list_byte s k (by omega) h', e]; exact ahead_all _ _ (List.getElem_mem hk)
  have HEND : Hid ((ahead s.data.toList).length < s.size → ∃ h : (ahead s.data.toList).length < s.size, s[(ahead s.data.toList).length] = 35) := by
    show (ahead s.data.toList).length < s.size → _
    intro h
    refine ⟨h, ?_⟩
    rw [← list_byte s _ h (by omega)]; exact ahead_end _ (by omega)
  have HPC : Hid (∀ i k, k ≤ (ahead s.data.toList).length → s.extract i k = bytesOf (piece (ahead s.data.toList) i k)) := by
    show ∀ i k, k ≤ (ahead s.data.toList).length → s.extract i k = bytesOf (piece (ahead s.data.toList) i k)
    intro i k hk
    rw [extract_piece, ahead_piece _ _ _ hk]
  rw [← hl] at hle
  unfold fieldsL
  generalize ahead s.data.toList = A at *
  clear hl
  generalize hN : A.length = N at *
  have HN : Hid (A.length = N) := hN
  clear hN
  go_enter Tryd.func17, Tryd.ntmps17
  go_wp2_with fail
  go_loop [4] (fun i => ∃ k : Nat, k ≤ N ∧ i = .int .i64 k) (fun i => N - (intOf i).toNat)
  case atStart => exact ⟨0, Nat.zero_le _, rfl⟩
  case round =>
    obtain ⟨k, hk, rfl⟩ := hrel
    by_cases hlt : k < N
    · obtain ⟨hks, -, h35⟩ := HAT.out k hlt
      have hz : ((s[k].toNat : Int) != 35) = true := by
        simp [← UInt8.toNat_inj] at h35 ⊢; omega
      have hks' : (k : Int) < (s.size : Int) := by omega
      clear h35
      go_wp2_with fail
      go_round
      case rel => exact ⟨k + 1, by omega, by go_num⟩
      case measure => simp [intOf]; omega
    · obtain rfl : k = N := by omega
      have hcase : (¬ ((k : Int) < (s.size : Int))) ∨ (∃ hks : k < s.size, ((s[k].toNat : Int) != 35) = false) := by
        by_cases h : k < s.size
        · obtain ⟨h', e⟩ := HEND.out h
          exact .inr ⟨h', by rw [e]; decide⟩
        · exact .inl (by omega)
      rcases hcase with hge | ⟨hks, hz⟩
      all_goals
        go_wp2_with fail
        go_loopw [5, 6, 7, 8] (fun t5 t6 t7 _ wr => ∃ (ds : List (Nat × List UInt8)) (i : Nat), i ≤ k + 1 ∧ t7 = .int .i64 i ∧ fldL 0 none A = ds ++ fldL i none (A.drop i) ∧ ds.length ≤ i ∧ GOwnV 9 wr w.heap.size t5 (strs (fTexts ds)) ∧ GOwnV 3 wr w.heap.size t6 (nums (fCols ds)) ∧ Below w.heap.size w wr) (fun _ _ t7 _ _ => k + 1 - (intOf t7).toNat)
        case atStart => exact ⟨[], 0, Nat.zero_le _, rfl, rfl, Nat.le_refl _, GOwnV.nil _ _ _, GOwnV.nil _ _ _, Below.refl _ _⟩
        case round =>
          obtain ⟨ds, i, hi, rfl, heq, hdl, hof, hoc, hbk⟩ := hrel
          have HE : Hid (fldL 0 none A = ds ++ fldL i none (A.drop i)) := heq
          clear heq
          by_cases hin : i < k
          · obtain ⟨his, hai, -⟩ := HAT.out i hin
            have HAI : Hid (s[i] = A[i]!) := hai
            clear hai
            have hbi := isBlank_int s[i]
            have hi1 : (i : Int) < (k : Int) := by omega
            have hi2 : (i : Int) < (s.size : Int) := by omega
            go_wp2_with fail
            refine (refBlank_any _ _).mono ?_
            rintro e w1 ⟨rfl, rfl⟩
            rw [hbi]
            have HA2 : Hid (isBlank s[i] = isBlank A[i]!) := by rw [HAI.out]; rfl
            generalize isBlank s[i] = bl at *
            cases bl
            · go_wp2_with fail
              go_loop [8] (fun t8 => ∃ j : Nat, i ≤ j ∧ j ≤ k ∧ t8 = .int .i64 j ∧ ∀ c ∈ piece A i j, isBlank c = false) (fun t8 => k - (intOf t8).toNat)
              case atStart => exact ⟨i, Nat.le_refl _, by omega, rfl, by rw [piece_self]; intro c hc; cases hc⟩
              case round =>
                obtain ⟨j, hj1, hj2, rfl, hnb⟩ := hrel
                have HNB : Hid (∀ c ∈ piece A i j, isBlank c = false) := hnb
                clear hnb
                by_cases hjk : j < k ∧ isBlank A[j]! = false
                · obtain ⟨hjs, haj, -⟩ := HAT.out j hjk.1
                  have hbj := isBlank_int s[j]
                  rw [haj, hjk.2, ← haj] at hbj
                  have HNB2 : Hid (∀ c ∈ piece A i (j + 1), isBlank c = false) := by
                    show ∀ c ∈ piece A i (j + 1), isBlank c = false
                    intro c hc
                    have hjl : j < A.length := by rw [HN.out]; exact hjk.1
                    rw [piece_snoc A i j hj1 hjl, List.mem_append, List.mem_singleton] at hc
                    rcases hc with hc | rfl
                    · exact HNB.out c hc
                    · have := hjk.2
                      rwa [getElem!_pos A j hjl] at this
                  have hj3 : (j : Int) < (k : Int) := by omega
                  have hj4 : (j : Int) < (s.size : Int) := by omega
                  clear haj
                  have hjk1 := hjk.1
                  clear hjk
                  go_wp2_with fail
                  refine (refBlank_any _ _).mono ?_
                  rintro e w2 ⟨rfl, rfl⟩
                  rw [hbj]
                  go_wp2_with fail
                  go_round
                  case rel => exact ⟨j + 1, by omega, by omega, by go_num, HNB2.out⟩
                  case measure => simp [intOf]; omega
                · have hne : i ≠ j := fun e => hjk (by subst e; exact ⟨hin, HA2.out.symm⟩)
                  have HF : Hid (fldL 0 none A = (ds ++ [(i, piece A i j)]) ++ fldL (j + 1) none (A.drop (j + 1))) := by
                    show fldL 0 none A = (ds ++ [(i, piece A i j)]) ++ fldL (j + 1) none (A.drop (j + 1))
                    rw [HE.out, ref_field A i j (by omega) (by rw [HN.out]; exact hj2) HNB.out ?_]
                    · simp
                    · by_cases h : j < k
                      · refine .inr ⟨by rw [HN.out]; exact h, ?_⟩
                        have hb : isBlank A[j]! = true := by
                          cases e : isBlank A[j]!
                          · exact absurd ⟨h, e⟩ hjk
                          · rfl
                        rwa [getElem!_pos A j (by rw [HN.out]; exact h)] at hb
                      · exact .inl (by rw [HN.out]; omega)
                  have HX : Hid (s.extract i j = bytesOf (piece A i j)) := HPC.out i j hj2
                  have hcs : (¬ ((j : Int) < (k : Int))) ∨ ((j : Int) < (k : Int) ∧ ∃ hjs : j < s.size, blankB (s[j].toNat : Int) = true) := by
                    by_cases h : j < k
                    · obtain ⟨hjs, haj, -⟩ := HAT.out j h
                      refine .inr ⟨by omega, hjs, ?_⟩
                      rw [isBlank_int, haj]
                      cases e : isBlank A[j]!
                      · exact absurd ⟨h, e⟩ hjk
                      · rfl
                    · exact .inl (by omega)
                  have hij : (i : Int) ≤ (j : Int) := by omega
                  have hjs1 : (j : Int) ≤ (s.size : Int) := by omega
                  have hi0 : (0 : Int) ≤ (i : Int) := by omega
                  have hls : (strs (fTexts ds)).length + 1 ≤ 140737488355328 := by simp [texts_len]; omega
                  have hls2 : ((strs (fTexts ds)).length + 1) * 16 ≤ 140737488355328 := by simp [texts_len]; omega
                  have hlc : (nums (fCols ds)).length + 1 ≤ 140737488355328 := by simp [cols_len]; omega
                  have hlc2 : ((nums (fCols ds)).length + 1) * 8 ≤ 140737488355328 := by simp [cols_len]; omega
                  have hsz := hbk.size
                  have HT : Hid (strs (fTexts (ds ++ [(i, piece A i j)])) = strs (fTexts ds) ++ [.string (s.extract i j)]) := by
                    show strs (fTexts (ds ++ [(i, piece A i j)])) = strs (fTexts ds) ++ [.string (s.extract i j)]
                    rw [HX.out]; simp [fTexts]
                  have HC : Hid (nums (fCols (ds ++ [(i, piece A i j)])) = nums (fCols ds) ++ [.int .i64 ((i : Int) + 1)]) := by
                    show nums (fCols (ds ++ [(i, piece A i j)])) = nums (fCols ds) ++ [.int .i64 ((i : Int) + 1)]
                    simp [fCols]
                  clear hjk hbi
                  generalize strs (fTexts ds) = ys at *
                  generalize nums (fCols ds) = zs at *
                  rcases hcs with hnj | ⟨hj3, hjs, hbb⟩
                  all_goals
                    go_upto_region 13 with (go_at_call 43; refine (refBlank_any _ _).mono ?_; rintro e w2 ⟨rfl, hw2⟩; rw [hw2, hbb])
                    go_upto_region 14 with (at_builtin; refine gpush Tryd.elemS _ rfl _ _ rfl w.heap.size _ ys rfl (hof.alloc _) ⟨w1.heap.size, 0, none⟩ 1 1 [.string (s.extract i j)] rfl rfl (cell_one_new _ _ _) (one_cell _) hls hls2 (room_alloc hsz _) ?_; intro v5 w3 hof3 hgr3 hbl3 _; have hoc3 := keep_other ne39 hoc hof hgr3; have hb3 := hbl3 w (hbk.alloc hsz _); clear hbl3 hgr3)
                    have hsz3 := hb3.size
                    go_wp2_with (at_builtin; refine gpush Tryd.elemI _ rfl _ _ rfl w.heap.size _ zs rfl (hoc3.alloc _) ⟨w3.heap.size, 0, none⟩ 1 1 [.int .i64 ((i : Int) + 1)] rfl rfl (cell_one_new _ _ _) (one_num _) hlc hlc2 (room_alloc hsz3 _) ?_; intro v6 w4 hoc4 hgr4 hbl4 _; have hof4 := keep_other ne93 hof3 hoc3 hgr4; have hb4 := hbl4 w (hb3.alloc hsz3 _); clear hbl4 hgr4)
                    go_roundw
                    case rel => exact ⟨ds ++ [(i, piece A i j)], j + 1, by omega, by go_num, HF.out, by simp; omega, by rw [HT.out]; exact hof4, by rw [HC.out]; exact hoc4, hb4⟩
                    case measure => simp [intOf]; omega
            · go_wp2_with fail
              go_roundw
              case rel => exact ⟨ds, i + 1, by omega, by go_num, by rw [HE.out, drop_bang A i (by rw [HN.out]; exact hin), fldL_blank _ _ _ _ HA2.out.symm]; rfl, by omega, hof, hoc, hbk⟩
              case measure => simp [intOf]; omega
          · have HR : Hid (fldL 0 none A = ds) := by
              show fldL 0 none A = ds
              rw [HE.out, List.drop_eq_nil_of_le (by rw [HN.out]; omega)]
              simp [fldL]
            have hi1 : ¬ ((i : Int) < (k : Int)) := by omega
            go_wp2_with fail
            go_ret2
            exact ⟨_, _, rfl, by rw [HR.out]; exact hof, by rw [HR.out]; exact hoc, hbk⟩

end Go.Proofs.YtaabdffplfifkaaDoor
