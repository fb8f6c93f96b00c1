/- What switchyardref03.Lines answers, for every text. -/
import Derived.Test.YtaabdffplfifkaaDoorLines
namespace Go.Proofs.YtaabdffplfifkaaDoor
open Go.RowKit

theorem byte_ten (c : UInt8) : ((c.toNat : Int) == 10) = decide (c = 10) := by
  rw [Bool.eq_iff_iff]
  simp [← UInt8.toNat_inj]
  omega

theorem extract_piece (s : ByteArray) (f k : Nat) : s.extract f k = bytesOf (piece s.data.toList f k) := by
  apply ByteArray.ext
  rw [ByteArray.data_extract]
  apply Array.toList_inj.1
  simp [bytesOf, piece, Array.toList_extract, List.extract]

theorem list_at (s : ByteArray) (k : Nat) (_h : k < s.size) (h' : k < s.data.toList.length) : s.data.toList[k] = s[k] := by simp [ByteArray.getElem_eq_getElem_data]

set_option maxHeartbeats 1000000 in
theorem refLines_any (s : ByteArray) (w : World) (hs : s.size * 16 ≤ 140737488355328) :
    Calls Tryd.prog 19 #[.string s] w fun e w' => ∃ v, e = .returned v ∧ GOwnV 9 w' w.heap.size v (strs (texts (linesL s.data.toList))) ∧ Below w.heap.size w w' := by
  have HSZ : Hid (s.data.toList.length = s.size) := Array.length_toList
  go_enter Tryd.func19, Tryd.ntmps19
  go_wp2
  go_loopw [3, 4, 5] (fun v t i wr => ∃ (k f : Nat) (ds : List (List UInt8)), k ≤ s.size ∧ f ≤ k ∧ i = .int .i64 k ∧ t = .int .i64 f ∧ ds.length ≤ f ∧ linesL s.data.toList = ds ++ linesL (s.data.toList.drop f) ∧ (∀ c ∈ piece s.data.toList f k, c ≠ 10) ∧ GOwnV 9 wr w.heap.size v (strs (texts ds)) ∧ Below w.heap.size w wr) (fun _ _ i _ => s.size - (intOf i).toNat)
  case atStart => exact ⟨0, 0, [], Nat.zero_le _, Nat.zero_le _, rfl, rfl, Nat.le_refl _, rfl, by simp [piece], GOwnV.nil _ _ _, Below.refl _ _⟩
  case round =>
    obtain ⟨k, f, ds, hk, hf, rfl, rfl, hdl, hds, hno, hown, hbk⟩ := hrel
    have HD : Hid (linesL s.data.toList = ds ++ linesL (s.data.toList.drop f)) := hds
    have HN : Hid (∀ c ∈ piece s.data.toList f k, c ≠ 10) := hno
    have HL : Hid ((strs (texts ds)).length = ds.length) := by show (strs (texts ds)).length = ds.length; simp [texts]
    have hsz := hbk.size
    clear hds hno
    by_cases hlt : k < s.size
    · have hk' : k < s.data.toList.length := by rw [HSZ.out]; exact hlt
      have HK : Hid (s.data.toList[k] = s[k]) := list_at s k hlt hk'
      cases hb : ((s[k].toNat : Int) == 10)
      · have HB : Hid (s[k] ≠ 10) := by
          rw [byte_ten] at hb
          exact of_decide_eq_false hb
        go_wp2
        go_roundw
        case rel =>
          refine ⟨k + 1, f, ds, by omega, by omega, by go_num, rfl, hdl, HD.out, fun c hc => ?_, hown, hbk⟩
          rw [piece_snoc _ f k hf hk', List.mem_append, List.mem_singleton] at hc
          rcases hc with hc | rfl
          · exact HN.out c hc
          · rw [HK.out]; exact HB.out
        case measure => simp [intOf]; omega
      · have hb' : s[k] = 10 := of_decide_eq_true (by rw [← byte_ten]; exact hb)
        have HB : Hid (s[k] = 10) := hb'
        clear hb'
        have HS : Hid (strs (texts (ds ++ [piece s.data.toList f k])) = strs (texts ds) ++ [Value.string (s.extract f k)]) := by
          show strs (texts (ds ++ [piece s.data.toList f k])) = strs (texts ds) ++ [Value.string (s.extract f k)]
          rw [extract_piece]; simp [texts]
        have HE : Hid (linesL s.data.toList = (ds ++ [piece s.data.toList f k]) ++ linesL (s.data.toList.drop (k + 1))) := by
          show linesL s.data.toList = (ds ++ [piece s.data.toList f k]) ++ linesL (s.data.toList.drop (k + 1))
          rw [HD.out, piece_split _ f k hf, drop_at _ k hk', HK.out, HB.out, linesL_cut _ _ HN.out]
          simp
        generalize strs (texts ds) = ys at *
        go_wp2_with (at_builtin; refine gpush Tryd.elemS _ rfl _ _ rfl w.heap.size _ ys rfl (hown.alloc _) ⟨wr.heap.size, 0, none⟩ 1 1 [.string (s.extract f k)] rfl rfl (cell_one_new _ _ _) (by simp [Value.oneCell']) (by rw [HL.out]; omega) (by rw [HL.out]; omega) (by simp; omega) ?_; intro v' w1 hown' _hgrow hbel _hnil)
        go_roundw
        case rel => exact ⟨k + 1, k + 1, ds ++ [piece s.data.toList f k], by omega, by omega, by go_num, by go_num, by simp; omega, HE.out, by rw [piece_self]; simp, by rw [HS.out]; exact hown', hbel _ (hbk.alloc hsz _)⟩
        case measure => simp [intOf]; omega
    · have hks : k = s.size := by omega
      have HP : Hid (s.data.toList.drop f = piece s.data.toList f k) := by
        show s.data.toList.drop f = piece s.data.toList f k
        rw [piece_split _ f k hf, List.drop_eq_nil_of_le (by rw [HSZ.out]; omega), List.append_nil]
      by_cases hfl : f < s.size
      · have HS : Hid (strs (texts (linesL s.data.toList)) = strs (texts ds) ++ [Value.string (s.extract f s.size)]) := by
          show strs (texts (linesL s.data.toList)) = strs (texts ds) ++ [Value.string (s.extract f s.size)]
          have hne : piece s.data.toList f k ≠ [] := fun h => by
            have := congrArg List.length (HP.out.trans h)
            rw [List.length_drop, HSZ.out] at this
            simp at this
            omega
          rw [HD.out, HP.out, linesL_last _ HN.out hne, ← hks, extract_piece]
          simp [texts]
        generalize strs (texts ds) = ys at *
        clear hks HP
        go_wp2_with (at_builtin; refine gpush Tryd.elemS _ rfl _ _ rfl w.heap.size _ ys rfl (hown.alloc _) ⟨wr.heap.size, 0, none⟩ 1 1 [.string (s.extract f s.size)] rfl rfl (cell_one_new _ _ _) (by simp [Value.oneCell']) (by rw [HL.out]; omega) (by rw [HL.out]; omega) (by simp; omega) ?_; intro v' w1 hown' _hgrow hbel _hnil)
        go_ret
        exact ⟨_, rfl, by rw [HS.out]; exact hown', hbel _ (hbk.alloc hsz _)⟩
      · have HS : Hid (strs (texts (linesL s.data.toList)) = strs (texts ds)) := by
          show strs (texts (linesL s.data.toList)) = strs (texts ds)
          rw [HD.out, List.drop_eq_nil_of_le (by rw [HSZ.out]; omega)]
          simp [linesL]
        generalize strs (texts ds) = ys at *
        clear hks HP
        go_wp2
        go_ret
        exact ⟨_, rfl, by rw [HS.out]; exact hown, hbk⟩

end Go.Proofs.YtaabdffplfifkaaDoor
