/- Texts put together: RfH, RfI, RfK, RfJ. -/
import Derived.Test.YtekggimgobeggaaGj

/- The document's patcher: which sites may be turned. -/
namespace Go.Proofs.Ytekggimgobeggaa
open Go.RowKit Go.Sort

def prvA (L : List Si) (k : Nat) : Int := (L.getD (k - 1) ⟨0, 0, 0⟩).at_
def prvE (L : List Si) (k : Nat) : Int := if k = 0 then 0 else prvA L k + 5
set_option maxRecDepth 20000 in
set_option maxHeartbeats 4000000 in
theorem rmay_any (p : Option Addr) (n c : Nat) (L : List Si) (size : Int) (w : World) (hn : L.length = n) (hn6 : n ≤ 9223372036854775807) (hr : Row3 w p (L.map siV)) (z0 : 0 ≤ size) (z1 : size ≤ 65536) :
    Calls Try.prog 68 #[.slice p n c, .int .i64 size] w fun E w' => E = .returned (.bool (mayF size 0 L)) ∧ Below w.heap.size w w' := by
  have HL := Hid.in hn
  have H1 := Hid.in hr
  obtain ⟨t, ht⟩ : ∃ t, t = mayF size 0 L := ⟨_, rfl⟩
  rw [← ht]
  have HT := Hid.in ht
  clear hn hr ht
  have hw5 : wrap64 (size - 5) = size - 5 := by unfold wrap64; omega
  go_enter Try.func68, Try.ntmps68
  go_wp2_with fail
  go_loopw [5] (fun vi wr => ∃ (k : Nat), vi = .int .i64 k ∧ k ≤ n ∧ t = mayF size (prvE L k) (L.drop k) ∧ (0 < k → 0 ≤ prvA L k ∧ prvA L k ≤ 65531) ∧ Below w.heap.size w wr) (fun vi _ => n - (intOf vi).toNat)
  case atStart => exact ⟨0, rfl, Nat.zero_le _, HT.out, fun h => absurd h (by omega), below_self _⟩
  case round =>
    obtain ⟨k, rfl, hk, htk, hpk, hb⟩ := hrel
    have HTK := Hid.in htk
    have HPK := Hid.in hpk
    have HB := Hid.in hb
    clear htk hb hpk HT
    by_cases hkn : k < n
    · have hkL : k < L.length := by rw [HL.out]; exact hkn
      obtain ⟨b, o, rfl, hc⟩ := (H1.out.below HB.out) (by rw [List.length_map]; omega)
      obtain ⟨c0, c1, c2⟩ := cells3 hc k (by rw [List.length_map]; exact hkL)
      simp only [List.getElem_map, siV] at c0 c1 c2
      have HNX := Hid.in (show prvA L (k + 1) = L[k].at_ by simp [prvA, List.getD, hkL])
      have HNO0 := Hid.in (fun h => mayF_no (size := size) (e := prvE L k) hkL h)
      have HYE0 := Hid.in (fun h => mayF_yes (size := size) (e := prvE L k) hkL h)
      have HPV : Hid (0 < k → wr.cell? ⟨b, o + (k - 1) * 3 + 1, none⟩ = some (.int .i64 (prvA L k))) := fun h0 => by
        have hk1 : k - 1 < L.length := by omega
        obtain ⟨-, d1, -⟩ := cells3 hc (k - 1) (by rw [List.length_map]; exact hk1)
        simp only [List.getElem_map, siV] at d1
        rw [d1]
        simp [prvA, List.getD, hk1]
      clear hc
      generalize L[k] = s at *
      obtain ⟨sk, sa, st⟩ := s
      simp only at c0 c1 c2 HNX HNO0 HYE0
      by_cases h1 : sa < 0
      · have HNO : Hid (t = false) := by rw [HTK.out]; exact HNO0.out (by unfold prvE; split <;> first | (have := HPK.out (by omega); omega) | omega)
        clear HNO0 HYE0 HTK HPV HPK HNX
        have ga : decide (sa < 0) = true := decide_eq_true (by omega)
        go_upto_region 5 with fail
        obtain ⟨w2, hw2⟩ : ∃ w2, w2 = wr.alloc (.cells #[.int .i64 sk, .int .i64 sa, .int .i64 st] 48) := ⟨_, rfl⟩
        rw [← hw2]
        have HX2 : Hid (Blk w2 wr.heap.size 48 #[.int .i64 sk, .int .i64 sa, .int .i64 st]) := by rw [hw2]; exact Blk.new _ _ _
        have HB2 : Hid (Below wr.heap.size wr w2) := by rw [hw2]; exact new_alloc _ _
        have HL2 : Hid (Below w.heap.size w w2) := below_step HB.out HB2.out
        clear hw2
        generalize wr.heap.size = g at *
        have d1 : w2.cell? ⟨g, 1, none⟩ = some (.int .i64 sa) := HX2.out.cell 1
        have d2 : w2.cell? ⟨g, 2, none⟩ = some (.int .i64 st) := HX2.out.cell 2
        go_quiet (fail)
        go_wp2_with fail
        go_ret
        exact ⟨by rw [HNO.out]; rfl, below_draws HL2.out nq⟩
      · by_cases h2 : size - 5 < sa
        · have HNO : Hid (t = false) := by rw [HTK.out]; exact HNO0.out (.inr (.inl h2))
          clear HNO0 HYE0 HTK HPV HPK HNX
          have ga : decide (sa < 0) = false := decide_eq_false (by omega)
          have gb : decide (size - 5 < sa) = true := decide_eq_true (by omega)
          go_upto_region 5 with fail
          obtain ⟨w2, hw2⟩ : ∃ w2, w2 = wr.alloc (.cells #[.int .i64 sk, .int .i64 sa, .int .i64 st] 48) := ⟨_, rfl⟩
          rw [← hw2]
          have HX2 : Hid (Blk w2 wr.heap.size 48 #[.int .i64 sk, .int .i64 sa, .int .i64 st]) := by rw [hw2]; exact Blk.new _ _ _
          have HB2 : Hid (Below wr.heap.size wr w2) := by rw [hw2]; exact new_alloc _ _
          have HL2 : Hid (Below w.heap.size w w2) := below_step HB.out HB2.out
          clear hw2
          generalize wr.heap.size = g at *
          have d1 : w2.cell? ⟨g, 1, none⟩ = some (.int .i64 sa) := HX2.out.cell 1
          have d2 : w2.cell? ⟨g, 2, none⟩ = some (.int .i64 st) := HX2.out.cell 2
          go_quiet (fail)
          go_wp2_with fail
          go_ret
          exact ⟨by rw [HNO.out]; rfl, below_draws HL2.out nq⟩
        · by_cases h3 : st < 0
          · have HNO : Hid (t = false) := by rw [HTK.out]; exact HNO0.out (.inr (.inr (.inl h3)))
            clear HNO0 HYE0 HTK HPV HPK HNX
            have ga : decide (sa < 0) = false := decide_eq_false (by omega)
            have gb : decide (size - 5 < sa) = false := decide_eq_false (by omega)
            have gc : decide (st < 0) = true := decide_eq_true (by omega)
            go_upto_region 5 with fail
            obtain ⟨w2, hw2⟩ : ∃ w2, w2 = wr.alloc (.cells #[.int .i64 sk, .int .i64 sa, .int .i64 st] 48) := ⟨_, rfl⟩
            rw [← hw2]
            have HX2 : Hid (Blk w2 wr.heap.size 48 #[.int .i64 sk, .int .i64 sa, .int .i64 st]) := by rw [hw2]; exact Blk.new _ _ _
            have HB2 : Hid (Below wr.heap.size wr w2) := by rw [hw2]; exact new_alloc _ _
            have HL2 : Hid (Below w.heap.size w w2) := below_step HB.out HB2.out
            clear hw2
            generalize wr.heap.size = g at *
            have d1 : w2.cell? ⟨g, 1, none⟩ = some (.int .i64 sa) := HX2.out.cell 1
            have d2 : w2.cell? ⟨g, 2, none⟩ = some (.int .i64 st) := HX2.out.cell 2
            go_quiet (fail)
            go_wp2_with fail
            go_ret
            exact ⟨by rw [HNO.out]; rfl, below_draws HL2.out nq⟩
          · by_cases h4 : 65536 < st
            · have HNO : Hid (t = false) := by rw [HTK.out]; exact HNO0.out (.inr (.inr (.inr (.inl h4))))
              clear HNO0 HYE0 HTK HPV HPK HNX
              have ga : decide (sa < 0) = false := decide_eq_false (by omega)
              have gb : decide (size - 5 < sa) = false := decide_eq_false (by omega)
              have gc : decide (st < 0) = false := decide_eq_false (by omega)
              have gd : decide (65536 < st) = true := decide_eq_true (by omega)
              go_upto_region 5 with fail
              obtain ⟨w2, hw2⟩ : ∃ w2, w2 = wr.alloc (.cells #[.int .i64 sk, .int .i64 sa, .int .i64 st] 48) := ⟨_, rfl⟩
              rw [← hw2]
              have HX2 : Hid (Blk w2 wr.heap.size 48 #[.int .i64 sk, .int .i64 sa, .int .i64 st]) := by rw [hw2]; exact Blk.new _ _ _
              have HB2 : Hid (Below wr.heap.size wr w2) := by rw [hw2]; exact new_alloc _ _
              have HL2 : Hid (Below w.heap.size w w2) := below_step HB.out HB2.out
              clear hw2
              generalize wr.heap.size = g at *
              have d1 : w2.cell? ⟨g, 1, none⟩ = some (.int .i64 sa) := HX2.out.cell 1
              have d2 : w2.cell? ⟨g, 2, none⟩ = some (.int .i64 st) := HX2.out.cell 2
              go_quiet (fail)
              go_wp2_with fail
              go_ret
              exact ⟨by rw [HNO.out]; rfl, below_draws HL2.out nq⟩
            · by_cases h5 : k = 0
              · have gk : decide ((0 : Int) < (k : Int)) = false := decide_eq_false (by omega)
                have gk2 : decide (0 < k) = false := decide_eq_false (by omega)
                clear HPV
                have ga : decide (sa < 0) = false := decide_eq_false (by omega)
                have gb : decide (size - 5 < sa) = false := decide_eq_false (by omega)
                have gc : decide (st < 0) = false := decide_eq_false (by omega)
                have gd : decide (65536 < st) = false := decide_eq_false (by omega)
                have hwA : wrap64 (st - sa) = st - sa := by unfold wrap64; omega
                have hwB : wrap64 (st - sa - 5) = st - sa - 5 := by unfold wrap64; omega
                have hge : ¬ (sa < prvE L k) := by unfold prvE; rw [if_pos h5]; omega
                clear h5
                by_cases h6 : 4096 < st - sa - 5
                · have HNO : Hid (t = false) := by rw [HTK.out]; exact HNO0.out (.inr (.inr (.inr (.inr (.inr (by omega))))))
                  clear HNO0 HYE0 HTK HPK HNX
                  have ge : decide (4096 < st - sa - 5) = true := decide_eq_true h6
                  go_upto_region 5 with fail
                  obtain ⟨w2, hw2⟩ : ∃ w2, w2 = wr.alloc (.cells #[.int .i64 sk, .int .i64 sa, .int .i64 st] 48) := ⟨_, rfl⟩
                  rw [← hw2]
                  have HX2 : Hid (Blk w2 wr.heap.size 48 #[.int .i64 sk, .int .i64 sa, .int .i64 st]) := by rw [hw2]; exact Blk.new _ _ _
                  have HB2 : Hid (Below wr.heap.size wr w2) := by rw [hw2]; exact new_alloc _ _
                  have HL2 : Hid (Below w.heap.size w w2) := below_step HB.out HB2.out
                  clear hw2
                  generalize wr.heap.size = g at *
                  have d1 : w2.cell? ⟨g, 1, none⟩ = some (.int .i64 sa) := HX2.out.cell 1
                  have d2 : w2.cell? ⟨g, 2, none⟩ = some (.int .i64 st) := HX2.out.cell 2
                  go_quiet (fail)
                  go_wp2_with fail
                  go_ret
                  exact ⟨by rw [HNO.out]; rfl, below_draws HL2.out nq⟩
                · by_cases h7 : st - sa - 5 < -4096
                  · have HNO : Hid (t = false) := by rw [HTK.out]; exact HNO0.out (.inr (.inr (.inr (.inr (.inl (by omega))))))
                    clear HNO0 HYE0 HTK HPK HNX
                    have ge : decide (4096 < st - sa - 5) = false := decide_eq_false h6
                    have gf : decide (st - sa - 5 < -4096) = true := decide_eq_true h7
                    go_upto_region 5 with fail
                    obtain ⟨w2, hw2⟩ : ∃ w2, w2 = wr.alloc (.cells #[.int .i64 sk, .int .i64 sa, .int .i64 st] 48) := ⟨_, rfl⟩
                    rw [← hw2]
                    have HX2 : Hid (Blk w2 wr.heap.size 48 #[.int .i64 sk, .int .i64 sa, .int .i64 st]) := by rw [hw2]; exact Blk.new _ _ _
                    have HB2 : Hid (Below wr.heap.size wr w2) := by rw [hw2]; exact new_alloc _ _
                    have HL2 : Hid (Below w.heap.size w w2) := below_step HB.out HB2.out
                    clear hw2
                    generalize wr.heap.size = g at *
                    have d1 : w2.cell? ⟨g, 1, none⟩ = some (.int .i64 sa) := HX2.out.cell 1
                    have d2 : w2.cell? ⟨g, 2, none⟩ = some (.int .i64 st) := HX2.out.cell 2
                    go_quiet (fail)
                    go_wp2_with fail
                    go_ret
                    exact ⟨by rw [HNO.out]; rfl, below_draws HL2.out nq⟩
                  · have HYE : Hid (t = mayF size (prvE L (k + 1)) (L.drop (k + 1))) := by
                      rw [HTK.out, HYE0.out (by omega)]
                      unfold prvE
                      rw [if_neg (Nat.succ_ne_zero _), HNX.out]
                      exact rfl
                    clear HNO0 HYE0 HTK HPK
                    have ge : decide (4096 < st - sa - 5) = false := decide_eq_false h6
                    have gf : decide (st - sa - 5 < -4096) = false := decide_eq_false h7
                    go_upto_region 5 with fail
                    obtain ⟨w2, hw2⟩ : ∃ w2, w2 = wr.alloc (.cells #[.int .i64 sk, .int .i64 sa, .int .i64 st] 48) := ⟨_, rfl⟩
                    rw [← hw2]
                    have HX2 : Hid (Blk w2 wr.heap.size 48 #[.int .i64 sk, .int .i64 sa, .int .i64 st]) := by rw [hw2]; exact Blk.new _ _ _
                    have HB2 : Hid (Below wr.heap.size wr w2) := by rw [hw2]; exact new_alloc _ _
                    have HL2 : Hid (Below w.heap.size w w2) := below_step HB.out HB2.out
                    clear hw2
                    generalize wr.heap.size = g at *
                    have d1 : w2.cell? ⟨g, 1, none⟩ = some (.int .i64 sa) := HX2.out.cell 1
                    have d2 : w2.cell? ⟨g, 2, none⟩ = some (.int .i64 st) := HX2.out.cell 2
                    go_quiet (fail)
                    go_wp2_with fail
                    go_roundw
                    case rel => exact ⟨k + 1, by go_num, by omega, HYE.out, fun _ => by rw [HNX.out]; exact ⟨by omega, by omega⟩, below_draws HL2.out nq⟩
                    case measure => simp [intOf]; omega
              · have hp := HPV.out (by omega)
                obtain ⟨p0, p1⟩ := HPK.out (by omega)
                have hpe : prvE L k = prvA L k + 5 := by unfold prvE; rw [if_neg h5]
                have gk : decide ((0 : Int) < (k : Int)) = true := decide_eq_true (by omega)
                have gk2 : decide (0 < k) = true := decide_eq_true (by omega)
                have hkm : wrap64 ((k : Int) - 1) = ((k - 1 : Nat) : Int) := by unfold wrap64; omega
                have hkm2 : (k : Int) - 1 = ((k - 1 : Nat) : Int) := by omega
                have hkm3 : k - 1 < n := by omega
                rw [hpe] at HNO0 HYE0 HTK
                generalize prvA L k = pa at *
                have hwP : wrap64 (pa + 5) = pa + 5 := by unfold wrap64; omega
                clear HPV hpe HPK
                have ga : decide (sa < 0) = false := decide_eq_false (by omega)
                have gb : decide (size - 5 < sa) = false := decide_eq_false (by omega)
                have gc : decide (st < 0) = false := decide_eq_false (by omega)
                have gd : decide (65536 < st) = false := decide_eq_false (by omega)
                have hwA : wrap64 (st - sa) = st - sa := by unfold wrap64; omega
                have hwB : wrap64 (st - sa - 5) = st - sa - 5 := by unfold wrap64; omega
                by_cases h8 : sa < pa + 5
                · have HNO : Hid (t = false) := by rw [HTK.out]; exact HNO0.out (.inl h8)
                  clear HNO0 HYE0 HTK HNX
                  have gp : decide (sa < pa + 5) = true := decide_eq_true h8
                  go_upto_region 5 with fail
                  obtain ⟨w2, hw2⟩ : ∃ w2, w2 = wr.alloc (.cells #[.int .i64 sk, .int .i64 sa, .int .i64 st] 48) := ⟨_, rfl⟩
                  rw [← hw2]
                  have HX2 : Hid (Blk w2 wr.heap.size 48 #[.int .i64 sk, .int .i64 sa, .int .i64 st]) := by rw [hw2]; exact Blk.new _ _ _
                  have HB2 : Hid (Below wr.heap.size wr w2) := by rw [hw2]; exact new_alloc _ _
                  have HL2 : Hid (Below w.heap.size w w2) := below_step HB.out HB2.out
                  have hp2 : w2.cell? ⟨b, o + (k - 1) * 3 + 1, none⟩ = some (.int .i64 pa) := (HB2.out.cell (p := ⟨b, o + (k - 1) * 3 + 1, none⟩) (cell_lt hp)).trans hp
                  clear hw2
                  generalize wr.heap.size = g at *
                  have d1 : w2.cell? ⟨g, 1, none⟩ = some (.int .i64 sa) := HX2.out.cell 1
                  have d2 : w2.cell? ⟨g, 2, none⟩ = some (.int .i64 st) := HX2.out.cell 2
                  go_quiet (fail)
                  go_wp2_with fail
                  go_ret
                  exact ⟨by rw [HNO.out]; rfl, below_draws HL2.out nq⟩
                · have gp : decide (sa < pa + 5) = false := decide_eq_false h8
                  by_cases h6 : 4096 < st - sa - 5
                  · have HNO : Hid (t = false) := by rw [HTK.out]; exact HNO0.out (.inr (.inr (.inr (.inr (.inr (by omega))))))
                    clear HNO0 HYE0 HTK HNX
                    have ge : decide (4096 < st - sa - 5) = true := decide_eq_true h6
                    go_upto_region 5 with fail
                    obtain ⟨w2, hw2⟩ : ∃ w2, w2 = wr.alloc (.cells #[.int .i64 sk, .int .i64 sa, .int .i64 st] 48) := ⟨_, rfl⟩
                    rw [← hw2]
                    have HX2 : Hid (Blk w2 wr.heap.size 48 #[.int .i64 sk, .int .i64 sa, .int .i64 st]) := by rw [hw2]; exact Blk.new _ _ _
                    have HB2 : Hid (Below wr.heap.size wr w2) := by rw [hw2]; exact new_alloc _ _
                    have HL2 : Hid (Below w.heap.size w w2) := below_step HB.out HB2.out
                    have hp2 : w2.cell? ⟨b, o + (k - 1) * 3 + 1, none⟩ = some (.int .i64 pa) := (HB2.out.cell (p := ⟨b, o + (k - 1) * 3 + 1, none⟩) (cell_lt hp)).trans hp
                    clear hw2
                    generalize wr.heap.size = g at *
                    have d1 : w2.cell? ⟨g, 1, none⟩ = some (.int .i64 sa) := HX2.out.cell 1
                    have d2 : w2.cell? ⟨g, 2, none⟩ = some (.int .i64 st) := HX2.out.cell 2
                    go_quiet (fail)
                    go_wp2_with fail
                    go_ret
                    exact ⟨by rw [HNO.out]; rfl, below_draws HL2.out nq⟩
                  · by_cases h7 : st - sa - 5 < -4096
                    · have HNO : Hid (t = false) := by rw [HTK.out]; exact HNO0.out (.inr (.inr (.inr (.inr (.inl (by omega))))))
                      clear HNO0 HYE0 HTK HNX
                      have ge : decide (4096 < st - sa - 5) = false := decide_eq_false h6
                      have gf : decide (st - sa - 5 < -4096) = true := decide_eq_true h7
                      go_upto_region 5 with fail
                      obtain ⟨w2, hw2⟩ : ∃ w2, w2 = wr.alloc (.cells #[.int .i64 sk, .int .i64 sa, .int .i64 st] 48) := ⟨_, rfl⟩
                      rw [← hw2]
                      have HX2 : Hid (Blk w2 wr.heap.size 48 #[.int .i64 sk, .int .i64 sa, .int .i64 st]) := by rw [hw2]; exact Blk.new _ _ _
                      have HB2 : Hid (Below wr.heap.size wr w2) := by rw [hw2]; exact new_alloc _ _
                      have HL2 : Hid (Below w.heap.size w w2) := below_step HB.out HB2.out
                      have hp2 : w2.cell? ⟨b, o + (k - 1) * 3 + 1, none⟩ = some (.int .i64 pa) := (HB2.out.cell (p := ⟨b, o + (k - 1) * 3 + 1, none⟩) (cell_lt hp)).trans hp
                      clear hw2
                      generalize wr.heap.size = g at *
                      have d1 : w2.cell? ⟨g, 1, none⟩ = some (.int .i64 sa) := HX2.out.cell 1
                      have d2 : w2.cell? ⟨g, 2, none⟩ = some (.int .i64 st) := HX2.out.cell 2
                      go_quiet (fail)
                      go_wp2_with fail
                      go_ret
                      exact ⟨by rw [HNO.out]; rfl, below_draws HL2.out nq⟩
                    · have HYE : Hid (t = mayF size (prvE L (k + 1)) (L.drop (k + 1))) := by
                        rw [HTK.out, HYE0.out (by omega)]
                        unfold prvE
                        rw [if_neg (Nat.succ_ne_zero _), HNX.out]
                        exact rfl
                      clear HNO0 HYE0 HTK
                      have ge : decide (4096 < st - sa - 5) = false := decide_eq_false h6
                      have gf : decide (st - sa - 5 < -4096) = false := decide_eq_false h7
                      go_upto_region 5 with fail
                      obtain ⟨w2, hw2⟩ : ∃ w2, w2 = wr.alloc (.cells #[.int .i64 sk, .int .i64 sa, .int .i64 st] 48) := ⟨_, rfl⟩
                      rw [← hw2]
                      have HX2 : Hid (Blk w2 wr.heap.size 48 #[.int .i64 sk, .int .i64 sa, .int .i64 st]) := by rw [hw2]; exact Blk.new _ _ _
                      have HB2 : Hid (Below wr.heap.size wr w2) := by rw [hw2]; exact new_alloc _ _
                      have HL2 : Hid (Below w.heap.size w w2) := below_step HB.out HB2.out
                      have hp2 : w2.cell? ⟨b, o + (k - 1) * 3 + 1, none⟩ = some (.int .i64 pa) := (HB2.out.cell (p := ⟨b, o + (k - 1) * 3 + 1, none⟩) (cell_lt hp)).trans hp
                      clear hw2
                      generalize wr.heap.size = g at *
                      have d1 : w2.cell? ⟨g, 1, none⟩ = some (.int .i64 sa) := HX2.out.cell 1
                      have d2 : w2.cell? ⟨g, 2, none⟩ = some (.int .i64 st) := HX2.out.cell 2
                      go_quiet (fail)
                      go_wp2_with fail
                      go_roundw
                      case rel => exact ⟨k + 1, by go_num, by omega, HYE.out, fun _ => by rw [HNX.out]; exact ⟨by omega, by omega⟩, below_draws HL2.out nq⟩
                      case measure => simp [intOf]; omega
    · have hkL : L.drop k = [] := List.drop_eq_nil_of_le (by rw [HL.out]; omega)
      have HYE : Hid (t = true) := by rw [HTK.out, hkL]; rfl
      clear hkL HTK HPK
      go_wp2_with fail
      go_ret
      exact ⟨by rw [HYE.out]; rfl, HB.out⟩
end Go.Proofs.Ytekggimgobeggaa

/- The document's patcher: Start. -/
namespace Go.Proofs.Ytekggimgobeggaa
open Go.RowKit Go.Sort

def strR (r : RD) (L : List Si) (up : Bool) : RD × Int :=
  if r.ph ≠ 0 then (r, 310) else if mayF r.xs.length 0 L = true then ({ r with lf := L, up := up, ph := 1, dn := 0, ct := ⟨L.length, 0, 0, 1, 0⟩ }, 0) else (r, 2)
/-- a pointer at or behind A -/
def Hi (A : Nat) (p : Option Addr) : Prop := ∀ b o, p = some ⟨b, o, none⟩ → A ≤ b
theorem Hi.mono {A B : Nat} {p : Option Addr} (h : Hi A p) (hB : B ≤ A) : Hi B p := fun b o e => Nat.le_trans hB (h b o e)
def RtIs (w : World) (mg : Nat) (r0 : RD) (q0 : RP) (a : RD × Int) : Ending → World → Prop := fun e w' => ∃ q, e = .returned (.tuple #[.agg (a.1.val q), .int .i64 a.2]) ∧ RM w' mg a.1 q ∧ Below w.heap.size w w' ∧ q.bp = q0.bp ∧ q.fp = q0.fp ∧ q.tp = q0.tp ∧ ((a.1 = r0 ∧ q.lp = q0.lp) ∨ Hi w.heap.size q.lp)
theorem TOwn.hi {T : TypeId} {w : World} {B n c : Nat} {p : Option Addr} {L : List V3} (h : TOwn T w B (.slice p n c) L) : Hi B p := by
  rcases h.2 with h2 | ⟨g, cap, cur, h1, h2, -⟩
  · have := h2.1
    injection this with h3
    rw [h3]
    intro b o e
    cases e
  · injection h1 with h3
    rw [h3]
    intro b o e
    injection e with e
    injection e with e1 _
    rw [← e1]; exact h2
theorem res25 {tmps : Array Value} {W : World} {r6 : Nat} {a : Array Value} {z : Int} (h6 : Blk W r6 66 a) (e6 : tmps.getD 6 undef = .pointer (some ⟨r6, 0, none⟩)) (e7 : tmps.getD 7 undef = .int .i64 z) (sa : a.size = 14 := by rfl) :
    (results Try.f25 tmps).run Try.prog W = .ok (.tuple #[.agg a, .int .i64 z]) W := by
  have l6 := run_loadVar_mid (P := Try.prog) W r6 0 66 a.toList _ h6.range Try.underlying66 rfl (by rw [Array.length_toList, sa]; kernel_rfl)
  simp only [Array.getD_eq_getD_getElem?] at e6 e7
  simp [results, asAddr, l6, e6, e7]
theorem st_nine (bv fv : Value) (num : Int) (sent : Nat) (bt lf lf' : Value) (dn : Int) (up0 up : Bool) (csi cwr cro cst cwa m : Int) :
    (((((((((stA bv fv num 0 sent bt lf dn up0 ⟨csi, cwr, cro, cst, cwa⟩).setIfInBounds 6 lf').setIfInBounds 8 (.bool up)).setIfInBounds 3 (.int .u8 1)).setIfInBounds 7 (.int .i64 0)).setIfInBounds 9 (.int .i64 m)).setIfInBounds 10 (.int .i64 0)).setIfInBounds 11 (.int .i64 0)).setIfInBounds 12 (.int .i64 1)).setIfInBounds 13 (.int .i64 0) = stA bv fv num 1 sent bt lf' 0 up ⟨m, 0, 0, 1, 0⟩ := by simp [stA]
set_option maxRecDepth 20000 in
set_option maxHeartbeats 2000000 in
theorem rstart_busy (xs : List Int) (n : Int) (fs : List Bool) (ph sent : Nat) (bt lf : List Si) (dn : Nat) (up0 : Bool) (ct : Ct) (q : RP) (sp : Option Addr) (sc : Nat) (L : List Si) (up : Bool) (mg : Nat) (w : World) (hM : RM w mg (RD.mk xs n fs ph sent bt lf dn up0 ct) q) (hp : ph ≠ 0) :
    Calls Try.prog 25 #[.agg ((RD.mk xs n fs ph sent bt lf dn up0 ct).val q), .slice sp L.length sc, .bool up] w (RtIs w mg (RD.mk xs n fs ph sent bt lf dn up0 ct) q (RD.mk xs n fs ph sent bt lf dn up0 ct, 310)) := by
  have HR : Hid (∀ w', Below w.heap.size w w' → RtIs w mg (RD.mk xs n fs ph sent bt lf dn up0 ct) q (RD.mk xs n fs ph sent bt lf dn up0 ct, 310) (.returned (.tuple #[.agg ((RD.mk xs n fs ph sent bt lf dn up0 ct).val q), .int .i64 310])) w') := fun w' hb => ⟨q, rfl, hM.below hb, hb, rfl, rfl, rfl, .inl ⟨rfl, rfl⟩⟩
  clear hM
  generalize RtIs w mg (RD.mk xs n fs ph sent bt lf dn up0 ct) q (RD.mk xs n fs ph sent bt lf dn up0 ct, 310) = R at *
  obtain ⟨bp, bc, fp, fc, tp, tc, lp, lc⟩ := q
  have g0 : ((ph : Int) != 0) = true := by rw [bne_iff_ne]; omega
  clear hp
  go_enter Try.func25, Try.ntmps25
  go_upto_region 1 with fail
  obtain ⟨w0, hw0⟩ : ∃ w0, w0 = (w.alloc (.cells ((RD.mk xs n fs ph sent bt lf dn up0 ct).val ⟨bp, bc, fp, fc, tp, tc, lp, lc⟩) 66)).alloc (.cells stZ 66) := ⟨_, rfl⟩
  rw [← hw0]
  have HB1 : Hid (Blk w0 w.heap.size 66 ((RD.mk xs n fs ph sent bt lf dn up0 ct).val ⟨bp, bc, fp, fc, tp, tc, lp, lc⟩)) := by rw [hw0]; exact (Blk.new _ _ _).grow (new_alloc _ _)
  have HB2 : Hid (Blk w0 (w.heap.size + 1) 66 stZ) := by rw [hw0]; exact blk_second _ _ _ _ _
  have HL0 : Hid (Below w.heap.size w w0) := by rw [hw0]; exact below_alloc (new_alloc _ _) _
  clear hw0
  have c3 : w0.cell? ⟨w.heap.size, 3, none⟩ = some (.int .u8 ph) := HB1.out.cell 3
  go_upto_region 2 with fail
  go_wp2_with (first | (refine step_load_blk HB1.out rfl 66 _ rfl rfl _ (List.prefix_refl _) _ Try.underlying66 rfl (by kernel_rfl) ?_) | (refine step_store_blk HB2.out rfl 66 _ _ rfl rfl rfl _ rfl (by kernel_rfl) rfl (by kernel_rfl) ?_; intro w9 hb9 hk9; refine Hid.out ?_))
  refine Lib.hid ?_
  have HA9 := Hid.in hb9
  have HL9 := Hid.in (HL0.out.trans (below_grown hk9 (Nat.le_succ _) HL0.out.size))
  have HK9 := Hid.in hk9
  clear hb9 hk9
  go_wp2_with fail
  exact bodyPost_ret (res25 HA9.out rfl rfl) rfl (HR.out _ HL9.out)
set_option maxRecDepth 20000 in
set_option maxHeartbeats 2000000 in
theorem rstart_bad (xs : List Int) (n : Int) (fs : List Bool) (sent : Nat) (bt lf : List Si) (dn : Nat) (up0 : Bool) (ct : Ct) (q : RP) (sp : Option Addr) (sc : Nat) (L : List Si) (up : Bool) (mg : Nat) (w : World) (hM : RM w mg (RD.mk xs n fs 0 sent bt lf dn up0 ct) q) (hn : L.length ≤ 9223372036854775807) (hr : Row3 w sp (L.map siV)) (hxl : xs.length ≤ 65536) (hm : mayF xs.length 0 L = false) :
    Calls Try.prog 25 #[.agg ((RD.mk xs n fs 0 sent bt lf dn up0 ct).val q), .slice sp L.length sc, .bool up] w (RtIs w mg (RD.mk xs n fs 0 sent bt lf dn up0 ct) q (RD.mk xs n fs 0 sent bt lf dn up0 ct, 2)) := by
  have HR : Hid (∀ w', Below w.heap.size w w' → RtIs w mg (RD.mk xs n fs 0 sent bt lf dn up0 ct) q (RD.mk xs n fs 0 sent bt lf dn up0 ct, 2) (.returned (.tuple #[.agg ((RD.mk xs n fs 0 sent bt lf dn up0 ct).val q), .int .i64 2])) w') := fun w' hb => ⟨q, rfl, hM.below hb, hb, rfl, rfl, rfl, .inl ⟨rfl, rfl⟩⟩
  clear hM
  generalize RtIs w mg (RD.mk xs n fs 0 sent bt lf dn up0 ct) q (RD.mk xs n fs 0 sent bt lf dn up0 ct, 2) = R at *
  obtain ⟨bp, bc, fp, fc, tp, tc, lp, lc⟩ := q
  have HMY : Hid (∀ W, Below w.heap.size w W → Calls Try.prog 68 #[.slice sp L.length sc, .int .i64 xs.length] W fun E w' => E = .returned (.bool false) ∧ Below W.heap.size W w') := fun W hb => by rw [← hm]; exact rmay_any sp L.length sc L xs.length W rfl hn (hr.below hb) (by omega) (by omega)
  clear hm hr
  go_enter Try.func25, Try.ntmps25
  go_upto_region 1 with fail
  obtain ⟨w0, hw0⟩ : ∃ w0, w0 = (w.alloc (.cells ((RD.mk xs n fs 0 sent bt lf dn up0 ct).val ⟨bp, bc, fp, fc, tp, tc, lp, lc⟩) 66)).alloc (.cells stZ 66) := ⟨_, rfl⟩
  rw [← hw0]
  have HB1 : Hid (Blk w0 w.heap.size 66 ((RD.mk xs n fs 0 sent bt lf dn up0 ct).val ⟨bp, bc, fp, fc, tp, tc, lp, lc⟩)) := by rw [hw0]; exact (Blk.new _ _ _).grow (new_alloc _ _)
  have HB2 : Hid (Blk w0 (w.heap.size + 1) 66 stZ) := by rw [hw0]; exact blk_second _ _ _ _ _
  have HL0 : Hid (Below w.heap.size w w0) := by rw [hw0]; exact below_alloc (new_alloc _ _) _
  clear hw0
  have c3 : w0.cell? ⟨w.heap.size, 3, none⟩ = some (.int .u8 0) := HB1.out.cell 3
  have c0 : w0.cell? ⟨w.heap.size, 0, none⟩ = some (.slice bp xs.length bc) := HB1.out.cell 0
  go_wp2_with (go_at_call 68; refine Hid.out ?_)
  refine Lib.hid ?_
  refine (HMY.out w0 HL0.out).mono ?_
  rintro e w1 ⟨rfl, hb⟩
  have HA1 := Hid.in (HB1.out.grow hb)
  have HA2 := Hid.in (HB2.out.grow hb)
  have HL1 := Hid.in (below_step HL0.out hb)
  clear hb HB1 HB2 HL0 c0 c3 HMY
  go_upto_region 4 with fail
  go_wp2_with (first | (refine step_load_blk HA1.out rfl 66 _ rfl rfl _ (List.prefix_refl _) _ Try.underlying66 rfl (by kernel_rfl) ?_) | (refine step_store_blk HA2.out rfl 66 _ _ rfl rfl rfl _ rfl (by kernel_rfl) rfl (by kernel_rfl) ?_; intro w9 hb9 hk9; refine Hid.out ?_))
  refine Lib.hid ?_
  have HA9 := Hid.in hb9
  have HL9 := Hid.in (HL1.out.trans (below_grown hk9 (Nat.le_succ _) HL1.out.size))
  have HK9 := Hid.in hk9
  clear hb9 hk9
  go_wp2_with fail
  exact bodyPost_ret (res25 HA9.out rfl rfl) rfl (HR.out _ HL9.out)
set_option maxRecDepth 20000 in
set_option maxHeartbeats 2000000 in
theorem rstart_ok (xs : List Int) (n : Int) (fs : List Bool) (sent : Nat) (bt lf : List Si) (dn : Nat) (up0 : Bool) (ct : Ct) (q : RP) (sp : Option Addr) (sc : Nat) (L : List Si) (up : Bool) (mg : Nat) (w : World) (hM : RM w mg (RD.mk xs n fs 0 sent bt lf dn up0 ct) q) (hn : L.length * 24 ≤ 140737488355328) (hnil : sp = none → L.length = 0 ∧ sc = 0) (hr : Row3 w sp (L.map siV)) (hxl : xs.length ≤ 65536) (hm : mayF xs.length 0 L = true) :
    Calls Try.prog 25 #[.agg ((RD.mk xs n fs 0 sent bt lf dn up0 ct).val q), .slice sp L.length sc, .bool up] w (RtIs w mg (RD.mk xs n fs 0 sent bt lf dn up0 ct) q (RD.mk xs n fs 1 sent bt L 0 up ⟨L.length, 0, 0, 1, 0⟩, 0)) := by
  have HR : Hid (∀ w' a c, RowS w' 0 a L → L.length ≤ c ∧ c ≤ maxLen → Hi w.heap.size a → RM w' mg (RD.mk xs n fs 0 sent bt lf dn up0 ct) q → Below w.heap.size w w' → RtIs w mg (RD.mk xs n fs 0 sent bt lf dn up0 ct) q (RD.mk xs n fs 1 sent bt L 0 up ⟨L.length, 0, 0, 1, 0⟩, 0) (.returned (.tuple #[.agg ((RD.mk xs n fs 1 sent bt L 0 up ⟨L.length, 0, 0, 1, 0⟩).val { q with lp := a, lc := c }), .int .i64 0])) w') := fun w' a c h1 h2 h3 h hb => ⟨_, rfl, ⟨h.xs, h.fs, h.bt, h1, h.hb, h.hf, h.ht, h.tn, h2⟩, hb, rfl, rfl, rfl, .inr h3⟩
  have HM := Hid.in hM
  clear hM
  generalize RtIs w mg (RD.mk xs n fs 0 sent bt lf dn up0 ct) q (RD.mk xs n fs 1 sent bt L 0 up ⟨L.length, 0, 0, 1, 0⟩, 0) = R at *
  obtain ⟨bp, bc, fp, fc, tp, tc, lp, lc⟩ := q
  obtain ⟨csi, cwr, cro, cst, cwa⟩ := ct
  have HMY : Hid (∀ W, Below w.heap.size w W → Calls Try.prog 68 #[.slice sp L.length sc, .int .i64 xs.length] W fun E w' => E = .returned (.bool true) ∧ Below W.heap.size W w') := fun W hb => by rw [← hm]; exact rmay_any sp L.length sc L xs.length W rfl (by omega) (hr.below hb) (by omega) (by omega)
  have HRW := Hid.in hr
  have HNI := Hid.in hnil
  clear hm hr hnil
  go_enter Try.func25, Try.ntmps25
  go_upto_region 1 with fail
  obtain ⟨w0, hw0⟩ : ∃ w0, w0 = (w.alloc (.cells ((RD.mk xs n fs 0 sent bt lf dn up0 ⟨csi, cwr, cro, cst, cwa⟩).val ⟨bp, bc, fp, fc, tp, tc, lp, lc⟩) 66)).alloc (.cells stZ 66) := ⟨_, rfl⟩
  rw [← hw0]
  have HB1 : Hid (Blk w0 w.heap.size 66 ((RD.mk xs n fs 0 sent bt lf dn up0 ⟨csi, cwr, cro, cst, cwa⟩).val ⟨bp, bc, fp, fc, tp, tc, lp, lc⟩)) := by rw [hw0]; exact (Blk.new _ _ _).grow (new_alloc _ _)
  have HB2 : Hid (Blk w0 (w.heap.size + 1) 66 stZ) := by rw [hw0]; exact blk_second _ _ _ _ _
  have HL0 : Hid (Below w.heap.size w w0) := by rw [hw0]; exact below_alloc (new_alloc _ _) _
  clear hw0
  have c3 : w0.cell? ⟨w.heap.size, 3, none⟩ = some (.int .u8 0) := HB1.out.cell 3
  have c0 : w0.cell? ⟨w.heap.size, 0, none⟩ = some (.slice bp xs.length bc) := HB1.out.cell 0
  go_wp2_with (go_at_call 68; refine Hid.out ?_)
  refine Lib.hid ?_
  refine (HMY.out w0 HL0.out).mono ?_
  rintro e w1 ⟨rfl, hb⟩
  have HA1 := Hid.in (HB1.out.grow hb)
  have HA2 := Hid.in (HB2.out.grow hb)
  have HL1 := Hid.in (below_step HL0.out hb)
  clear hb HB1 HB2 HL0 c0 c3 HMY
  go_wp2_with (refine push_none _ rfl _ _ rfl rfl sp sc L rfl HNI.out (HRW.out.below HL1.out) hn ?_; intro v1 w2 ht2 hb2; refine Hid.out ?_)
  refine Lib.hid ?_
  obtain ⟨pl, cl, hvl, hcl, hcm, hrl⟩ := ht2.rowS
  subst hvl
  have HRL : Hid (RowS w2 0 pl L) := fun h0 => by obtain ⟨b, o, cur, e, -, h4⟩ := hrl h0; exact ⟨b, o, cur, e, Nat.zero_le _, h4⟩
  have HCL := Hid.in (And.intro hcl hcm)
  have HHI := Hid.in (ht2.hi.mono HL1.out.size)
  have HC1 := Hid.in (HA1.out.grow hb2)
  have HC2 := Hid.in (HA2.out.grow hb2)
  have HL2 := Hid.in (below_step HL1.out hb2)
  clear ht2 hb2 HA1 HA2 HL1 HRW HNI hrl hcl hcm
  have c3 : w2.cell? ⟨w.heap.size, 3, none⟩ = some (.int .u8 0) := HC1.out.cell 3
  have f3 := HC1.out.free 3
  have c6 : w2.cell? ⟨w.heap.size, 6, none⟩ = some (.slice lp lf.length lc) := HC1.out.cell 6
  have f6 := HC1.out.free 6
  have c7 : w2.cell? ⟨w.heap.size, 7, none⟩ = some (.int .i64 dn) := HC1.out.cell 7
  have f7 := HC1.out.free 7
  have c8 : w2.cell? ⟨w.heap.size, 8, none⟩ = some (.bool up0) := HC1.out.cell 8
  have f8 := HC1.out.free 8
  have c9 : w2.cell? ⟨w.heap.size, 9, none⟩ = some (.int .i64 csi) := HC1.out.cell 9
  have f9 := HC1.out.free 9
  have c10 : w2.cell? ⟨w.heap.size, 10, none⟩ = some (.int .i64 cwr) := HC1.out.cell 10
  have f10 := HC1.out.free 10
  have c11 : w2.cell? ⟨w.heap.size, 11, none⟩ = some (.int .i64 cro) := HC1.out.cell 11
  have f11 := HC1.out.free 11
  have c12 : w2.cell? ⟨w.heap.size, 12, none⟩ = some (.int .i64 cst) := HC1.out.cell 12
  have f12 := HC1.out.free 12
  have c13 : w2.cell? ⟨w.heap.size, 13, none⟩ = some (.int .i64 cwa) := HC1.out.cell 13
  have f13 := HC1.out.free 13
  go_upto_region 11 with fail
  obtain ⟨w3, hw3⟩ : ∃ w3, w3 = ((((((((w2.setCell ⟨w.heap.size, 6, none⟩ (.slice pl L.length cl)).setCell ⟨w.heap.size, 8, none⟩ (.bool up)).setCell ⟨w.heap.size, 3, none⟩ (.int .u8 1)).setCell ⟨w.heap.size, 7, none⟩ (.int .i64 0)).setCell ⟨w.heap.size, 9, none⟩ (.int .i64 L.length)).setCell ⟨w.heap.size, 10, none⟩ (.int .i64 0)).setCell ⟨w.heap.size, 11, none⟩ (.int .i64 0)).setCell ⟨w.heap.size, 12, none⟩ (.int .i64 1)).setCell ⟨w.heap.size, 13, none⟩ (.int .i64 0) := ⟨_, rfl⟩
  rw [← hw3]
  have HD1 : Hid (Blk w3 w.heap.size 66 ((RD.mk xs n fs 1 sent bt L 0 up ⟨L.length, 0, 0, 1, 0⟩).val ⟨bp, bc, fp, fc, tp, tc, pl, cl⟩)) := by
    have hb9 := ((((((((HC1.out.set 6 (.slice pl L.length cl)).set 8 (.bool up)).set 3 (.int .u8 1)).set 7 (.int .i64 0)).set 9 (.int .i64 L.length)).set 10 (.int .i64 0)).set 11 (.int .i64 0)).set 12 (.int .i64 1)).set 13 (.int .i64 0)
    rw [st_nine] at hb9
    rw [hw3]
    exact hb9
  have HD2 : Hid (Blk w3 (w.heap.size + 1) 66 stZ) := by rw [hw3]; exact (((((((((HC2.out.other (by omega) _ _).other (by omega) _ _).other (by omega) _ _).other (by omega) _ _).other (by omega) _ _).other (by omega) _ _).other (by omega) _ _).other (by omega) _ _).other (by omega) _ _)
  have HL3 : Hid (Below w.heap.size w w3) := by rw [hw3]; exact (below_two (below_two (below_two (below_two (below_two (below_two (below_two (below_two (below_two HL2.out _ _) _ _) _ _) _ _) _ _) _ _) _ _) _ _) _ _)
  have HRL3 : Hid (RowS w3 0 pl L) := by rw [hw3]; exact HRL.out.keeps (keeps_grown (((((((((grown_setCell _ _ _ _).trans (grown_setCell _ _ _ _)).trans (grown_setCell _ _ _ _)).trans (grown_setCell _ _ _ _)).trans (grown_setCell _ _ _ _)).trans (grown_setCell _ _ _ _)).trans (grown_setCell _ _ _ _)).trans (grown_setCell _ _ _ _)).trans (grown_setCell _ _ _ _))) (fun j hj => ⟨66, _, hj ▸ HC1.out, by decide⟩)
  clear hw3 HC1 HC2 HL2 HRL c3 f3 c6 f6 c7 f7 c8 f8 c9 f9 c10 f10 c11 f11 c12 f12 c13 f13
  go_wp2_with (first | (refine step_load_blk HD1.out rfl 66 _ rfl rfl _ (List.prefix_refl _) _ Try.underlying66 rfl (by kernel_rfl) ?_) | (refine step_store_blk HD2.out rfl 66 _ _ rfl rfl rfl _ rfl (by kernel_rfl) rfl (by kernel_rfl) ?_; intro w9 hb9 hk9; refine Hid.out ?_))
  refine Lib.hid ?_
  have HA9 := Hid.in hb9
  have HL9 := Hid.in (HL3.out.trans (below_grown hk9 (Nat.le_succ _) HL3.out.size))
  have HK9 := Hid.in hk9
  clear hb9 hk9
  go_wp2_with fail
  exact bodyPost_ret (res25 HA9.out rfl rfl) rfl (HR.out _ _ _ (HRL3.out.keeps (keeps_grown HK9.out) (fun j hj => ⟨66, _, hj ▸ HD2.out, by decide⟩)) HCL.out HHI.out (HM.out.below HL9.out) HL9.out)
theorem rstart_any (r : RD) (q : RP) (sp : Option Addr) (sc : Nat) (L : List Si) (up : Bool) (mg : Nat) (w : World) (hM : RM w mg r q) (hn : L.length * 24 ≤ 140737488355328) (hnil : sp = none → L.length = 0 ∧ sc = 0) (hr : Row3 w sp (L.map siV)) (hxl : r.xs.length ≤ 65536) :
    Calls Try.prog 25 #[.agg (r.val q), .slice sp L.length sc, .bool up] w (RtIs w mg r q (strR r L up)) := by
  obtain ⟨xs, n, fs, ph, sent, bt, lf, dn, up0, ct⟩ := r
  unfold strR
  by_cases h0 : ph = 0
  · subst h0
    rw [if_neg (fun h => h rfl)]
    cases hm : mayF xs.length 0 L
    · rw [if_neg (by simp)]
      exact rstart_bad xs n fs sent bt lf dn up0 ct q sp sc L up mg w hM (by omega) hr hxl hm
    · rw [if_pos rfl]
      exact rstart_ok xs n fs sent bt lf dn up0 ct q sp sc L up mg w hM hn hnil hr hxl hm
  · rw [if_pos h0]
    exact rstart_busy xs n fs ph sent bt lf dn up0 ct q sp sc L up mg w hM h0
end Go.Proofs.Ytekggimgobeggaa

/- The document's patcher: Find. -/
namespace Go.Proofs.Ytekggimgobeggaa
open Go.RowKit Go.Sort

def leadU (up : Bool) (x : Si) : Int := if up = true then x.to_ else x.at_ + 5
/-- what Find answers -/
def fndR (bt : List Si) (up : Bool) (a : Int) : Int × Bool := if fndB bt a = true then (leadU up (bt.getD (fndI bt a) ⟨0, 0, 0⟩), true) else (0, false)
set_option maxRecDepth 20000 in
set_option maxHeartbeats 2000000 in
theorem rfind_any (r : RD) (q : RP) (a : Int) (w : World) (ha : 0 ≤ a) (ha2 : a < 4294967296) (hb4 : r.bt.length ≤ 4) (hS : ∀ j (h : j < r.bt.length), SiB r.bt[j]) (h1 : RowS w 0 q.tp r.bt) :
    Calls Try.prog 72 #[.agg (r.val q), .int .u32 a] w fun E w' => E = .returned (.tuple #[.int .u32 (fndR r.bt r.up a).1, .bool (fndR r.bt r.up a).2]) ∧ Below w.heap.size w w' := by
  obtain ⟨xs, n, fs, ph, sent, bt, lf, dn, up, ct⟩ := r
  obtain ⟨bp, bc, fp, fc, tp, tc, lp, lc⟩ := q
  simp only at hb4 hS h1
  have H1 := Hid.in h1
  have HS := Hid.in hS
  clear h1 hS
  obtain ⟨m, hm⟩ : ∃ m, bt.length = m := ⟨_, rfl⟩
  have HL := Hid.in hm
  rw [hm] at hb4
  clear hm
  go_enter Try.func72, Try.ntmps72
  go_upto_region 1 with fail
  obtain ⟨w0, hw0⟩ : ∃ w0, w0 = w.alloc (.cells ((RD.mk xs n fs ph sent bt lf dn up ct).val ⟨bp, bc, fp, fc, tp, tc, lp, lc⟩) 66) := ⟨_, rfl⟩
  rw [← hw0]
  have HB1 : Hid (Blk w0 w.heap.size 66 ((RD.mk xs n fs ph sent bt lf dn up ct).val ⟨bp, bc, fp, fc, tp, tc, lp, lc⟩)) := by rw [hw0]; exact Blk.new _ _ _
  have HL0 : Hid (Below w.heap.size w w0) := by rw [hw0]; exact new_alloc _ _
  clear hw0
  go_wp2_with fail
  go_loopw [6] (fun vi wr => ∃ k : Nat, vi = .int .i64 k ∧ k ≤ m ∧ (∀ j (h : j < bt.length), j < k → bt[j].at_ ≠ a) ∧ Below w.heap.size w wr ∧ Blk wr w.heap.size 66 ((RD.mk xs n fs ph sent bt lf dn up ct).val ⟨bp, bc, fp, fc, tp, tc, lp, lc⟩)) (fun vi _ => m - (intOf vi).toNat)
  case atStart => exact ⟨0, rfl, Nat.zero_le _, fun j _ h => absurd h (by omega), HL0.out, HB1.out⟩
  case round =>
    obtain ⟨k, rfl, hk, ht, hbl, hbk⟩ := hrel
    have HT := Hid.in ht
    have HBL := Hid.in hbl
    have HBK := Hid.in hbk
    clear ht hbl hbk HL0 HB1
    have c5 : wr.cell? ⟨w.heap.size, 5, none⟩ = some (.slice tp m tc) := by rw [← HL.out]; exact HBK.out.cell 5
    by_cases hkn : k < m
    · have hkL : k < bt.length := by rw [HL.out]; exact hkn
      have HE : Hid (bt[k]? = some bt[k]) := List.getElem?_eq_getElem hkL
      obtain ⟨b, o, rfl, c0, c1, c2⟩ := siR_cells (H1.out.below HBL.out) HE.out
      have hsb := HS.out k hkL
      have HF : Hid (bt[k].at_ = a → fndB bt a = true ∧ fndI bt a = k) := fun e => fnd_first hkL e (fun j hj => HT.out j (by omega) hj)
      have HG : Hid (bt[k].at_ ≠ a → ∀ j (h : j < bt.length), j < k + 1 → bt[j].at_ ≠ a) := fun e j hj hjk => by
        by_cases e2 : j = k
        · subst e2; exact e
        · exact HT.out j hj (by omega)
      generalize bt[k] = s at *
      obtain ⟨sk, sa, st⟩ := s
      obtain ⟨a0, a1, t0, t1⟩ := hsb
      simp only at c0 c1 c2 a0 a1 t0 t1
      have hw1 : sa % 4294967296 = sa := by omega
      have hw2 : st % 4294967296 = st := by omega
      have hw3 : (sa + 5) % 4294967296 = sa + 5 := by omega
      have hw4 : wrap64 (sa + 5) = sa + 5 := by unfold wrap64; omega
      go_upto_region 5 with fail
      obtain ⟨w2, hw2'⟩ : ∃ w2, w2 = wr.alloc (.cells #[.int .i64 sk, .int .i64 sa, .int .i64 st] 48) := ⟨_, rfl⟩
      rw [← hw2']
      have HX2 : Hid (Blk w2 wr.heap.size 48 #[.int .i64 sk, .int .i64 sa, .int .i64 st]) := by rw [hw2']; exact Blk.new _ _ _
      have HL2 : Hid (Below w.heap.size w w2) := by rw [hw2']; exact below_alloc HBL.out _
      have HB2 : Hid (Blk w2 w.heap.size 66 ((RD.mk xs n fs ph sent bt lf dn up ct).val ⟨bp, bc, fp, fc, some ⟨b, o, none⟩, tc, lp, lc⟩)) := by rw [hw2']; exact HBK.out.grow (new_alloc _ _)
      clear hw2' c0 c1 c2 c5 HBK HBL
      generalize wr.heap.size = g at *
      have d1 : w2.cell? ⟨g, 1, none⟩ = some (.int .i64 sa) := HX2.out.cell 1
      have d2 : w2.cell? ⟨g, 2, none⟩ = some (.int .i64 st) := HX2.out.cell 2
      have d8 : w2.cell? ⟨w.heap.size, 8, none⟩ = some (.bool up) := HB2.out.cell 8
      by_cases hq : sa = a
      · subst hq
        obtain ⟨f1, f2⟩ := HF.out rfl
        have HV := Hid.in <| show fndR bt up sa = (leadU up ⟨sk, sa, st⟩, true) by
          unfold fndR
          rw [if_pos f1, f2]
          have := HE.out
          simp [List.getD, this]
        clear f1 f2 HF HG HE HT hkL
        cases up
        · go_wp2_with fail
          go_ret2
          exact ⟨by rw [HV.out]; rfl, HL2.out⟩
        · go_wp2_with fail
          go_ret2
          exact ⟨by rw [HV.out]; rfl, HL2.out⟩
      · have hq2 : (sa == a) = false := by simpa using hq
        clear HF HE
        go_wp2_with fail
        go_roundw
        case rel => exact ⟨k + 1, by go_num, by omega, HG.out hq, HL2.out, HB2.out⟩
        case measure => simp [intOf]; omega
    · have HV : Hid (fndR bt up a = (0, false)) := by
        obtain ⟨f1, -⟩ := fnd_none (L := bt) (a := a) (fun j hj => HT.out j hj (by rw [HL.out] at hj; omega))
        unfold fndR
        rw [if_neg (by rw [f1]; decide)]
        exact rfl
      clear HT
      go_wp2_with fail
      go_ret2
      exact ⟨by rw [HV.out]; rfl, HBL.out⟩
end Go.Proofs.Ytekggimgobeggaa

/- The patcher and the document's patcher, as lists: each step of the one is that of the other. -/
namespace Go.Proofs.Ytekggimgobeggaa
open Go.RowKit Go.Sort

abbrev kyd (up : Bool) (x : Si) : Si := { x with key := dirK up }
/-- both states say the same -/
structure SR (s : PS) (r : RD) : Prop where
  xs : s.xs = r.xs
  fs : s.fs = r.fs
  n : s.n = r.n
  ph : s.ph = r.ph
  bt : s.bt = r.bt.map (kyd r.up)
  lf : s.left = r.lf
  up : s.up = r.up
  ct : s.ct = r.ct
  wr : 2 ≤ r.ph → r.ph ≤ 4 → s.wr = r.dn
  nx : r.ph = 5 → s.nx = nxP r.sent
  b0 : r.ph = 0 → r.bt = []
  b1 : r.ph = 1 → r.bt.length < 4
  st : ∀ x ∈ r.bt ++ r.lf, SiB x ∧ x.at_ + 5 ≤ r.xs.length
  gp : (r.bt ++ r.lf).Pairwise (fun x y => x.at_ + 5 ≤ y.at_)
  f8 : r.fs.length ≤ 8
  b4 : r.bt.length ≤ 4
theorem map_fnd (up : Bool) (L : List Si) (a : Int) : fndB (L.map (kyd up)) a = fndB L a ∧ fndI (L.map (kyd up)) a = fndI L a := by
  have h1 : fndB (L.map (kyd up)) a = fndB L a := by
    unfold fndB
    rw [List.any_map]
    rfl
  refine ⟨h1, ?_⟩
  unfold fndI
  rw [h1, List.findIdx_map]
  rfl
theorem fnd_same (up : Bool) (L : List Si) (a : Int) : fndP (L.map (kyd up)) a = fndR L up a := by
  obtain ⟨h1, h2⟩ := map_fnd up L a
  unfold fndP fndR
  rw [h1, h2]
  split
  · rename_i h
    obtain ⟨i, hi, -⟩ := (fndB_iff L a).1 h
    have hfi : fndI L a < L.length := by
      unfold fndI
      rw [if_pos h, List.findIdx_lt_length]
      unfold fndB at h
      rw [List.any_eq_true] at h
      exact h
    have e1 : (L.map (kyd up)).getD (fndI L a) ⟨0, 0, 0⟩ = kyd up L[fndI L a] := by simp [List.getD, hfi]
    have e2 : L.getD (fndI L a) ⟨0, 0, 0⟩ = L[fndI L a] := by simp [List.getD, hfi]
    rw [e1, e2]
    cases up
    · rfl
    · rfl
  · rfl
theorem insL_last (s : Si) : ∀ (L : List Si), (∀ x ∈ L, x.at_ ≤ s.at_) → insL s L = L ++ [s]
  | [], _ => rfl
  | x :: L, h => by
    have h1 := h x (List.mem_cons_self ..)
    unfold insL
    rw [if_neg (by omega), insL_last s L (fun y hy => h y (List.mem_cons_of_mem _ hy))]
    rfl
/-- a site that is gathered goes to the end -/
theorem add_end {L : List Si} {x : Si} (up : Bool) (hx : SiB x) (h4 : L.length < 4) (hg : ∀ y ∈ L, y.at_ + 5 ≤ x.at_) : addR (L.map (kyd up)) x.at_ x.to_ up = (L ++ [x]).map (kyd up) := by
  have hb : badB x.at_ x.to_ = false := by
    unfold badB
    have := hx.a0
    have := hx.a1
    have := hx.t0
    have := hx.t1
    exact decide_eq_false (by omega)
  have hn : nearB (L.map (kyd up)) x.at_ = false := by
    cases h : nearB (L.map (kyd up)) x.at_
    · rfl
    · obtain ⟨i, hi, h1, h2⟩ := (nearB_iff _ _).1 h
      simp only [List.getElem_map] at h1 h2
      have := hg _ (List.getElem_mem (by simpa using hi))
      omega
  have he : addE (L.map (kyd up)) x.at_ x.to_ = 0 := by
    unfold addE
    rw [if_neg (by rw [hb]; decide), if_neg (by rw [hn]; decide), if_neg (by rw [List.length_map]; omega)]
  unfold addR
  rw [if_pos he, insL_last]
  · rw [List.map_append]
    rfl
  · intro y hy
    obtain ⟨z, hz, rfl⟩ := List.mem_map.1 hy
    have := hg z hz
    show z.at_ ≤ x.at_
    omega
theorem piece_same (ph : Nat) (up : Bool) (x : Si) : pieceP ph (kyd up x) = pieceR ph up x := rfl
theorem piece_fits {ph : Nat} {up : Bool} {x : Si} {n : Nat} (hx : SiB x) (h : x.at_ + 5 ≤ n) : 0 ≤ (pieceR ph up x).1 ∧ (pieceR ph up x).1 + (pieceR ph up x).2.length ≤ n := by
  have h0 := hx.a0
  have hl := newR_len x up
  unfold pieceR
  split
  · exact ⟨h0, by simp; omega⟩
  · split
    · simp only [List.length_drop, hl]
      exact ⟨by omega, by omega⟩
    · simp only [List.length_take, hl]
      exact ⟨h0, by omega⟩
/-- what is the same of two answers -/
structure AR (a : SA) (b : RA) : Prop where
  s : SR a.s b.s
  ev : a.ev = b.ev
  back : a.back = b.back
  e : a.e = b.e
theorem SR.clr {s : PS} {r : RD} (h : SR s r) : AR (clrP s) ⟨(clrR r).step, [], decide (r.lf.length = 0), 0⟩ := by
  have hl := h.lf
  unfold clrP clrR
  have hst : ∀ x ∈ ([] : List Si) ++ r.lf, SiB x ∧ x.at_ + 5 ≤ r.xs.length := fun x hx => h.st x (List.mem_append_right _ (by simpa using hx))
  have hgp : (([] : List Si) ++ r.lf).Pairwise (fun x y => x.at_ + 5 ≤ y.at_) := (List.pairwise_append.1 h.gp).2.1
  by_cases h0 : s.left.length = 0
  · have h0' : r.lf.length = 0 := by rw [← hl]; exact h0
    have hl0 : r.lf = [] := List.eq_nil_of_length_eq_zero h0'
    rw [if_pos h0, if_pos h0']
    refine ⟨⟨h.xs, h.fs, h.n, rfl, rfl, hl0.symm, h.up, ?_, fun h2 => ?_, fun h5 => ?_, fun _ => rfl, fun h1 => ?_, hst, hgp, h.f8, Nat.zero_le _⟩, rfl, by simp [h0'], rfl⟩
    · show ({ s.ct with st := s.ct.st + 1 } : Ct) = { r.ct with st := r.ct.st + 1 }
      rw [h.ct]
    · exact absurd h2 (by show ¬ 2 ≤ 0; omega)
    · exact absurd h5 (by show ¬ 0 = 5; omega)
    · exact absurd h1 (by show ¬ 0 = 1; omega)
  · have h0' : ¬ r.lf.length = 0 := by rw [← hl]; exact h0
    rw [if_neg h0, if_neg h0']
    refine ⟨⟨h.xs, h.fs, h.n, rfl, rfl, h.lf, h.up, ?_, fun h2 => ?_, fun h5 => ?_, fun _ => rfl, fun _ => by show 0 < 4; decide, hst, hgp, h.f8, Nat.zero_le _⟩, rfl, by simp [h0'], rfl⟩
    · show ({ s.ct with st := s.ct.st + 1 } : Ct) = { r.ct with st := r.ct.st + 1 }
      rw [h.ct]
    · exact absurd h2 (by show ¬ 2 ≤ 1; omega)
    · exact absurd h5 (by show ¬ 1 = 5; omega)
theorem SR.gat {s : PS} {r : RD} (h : SR s r) (h1 : r.ph = 1) (hw : s.wr = 0) : AR (gatP s) ⟨(gatR r).1.step, [], (gatR r).2, 0⟩ := by
  obtain ⟨left, up, ph, wr, nx, ct, bt, xs, fs, n⟩ := s
  obtain ⟨xs', n', fs', ph', sent, bt', lf, dn, up', ct'⟩ := r
  obtain ⟨e1, e2, e3, e4, e5, e6, e7, e8, wr_, nx_, b0, b1, st, gp, f8, b4⟩ := id h
  simp only at e1 e2 e3 e4 e5 e6 e7 e8 wr_ nx_ b0 b1 st gp f8 b4 hw h1
  subst e1 e2 e3 e6 e7 e8 h1 e4 hw
  cases left with
  | nil =>
    have := h.clr
    exact ⟨this.s, this.ev, this.back, this.e⟩
  | cons x l =>
    have hx : SiB x := (st x (by simp)).1
    have hg : ∀ y ∈ bt', y.at_ + 5 ≤ x.at_ := fun y hy => (List.pairwise_append.1 gp).2.2 y hy x (by simp)
    have ha := add_end up hx (b1 rfl) hg
    subst e5
    have hlen : (addR (bt'.map (kyd up)) x.at_ x.to_ up).length = (bt' ++ [x]).length := by rw [ha, List.length_map]
    have happ : (bt' ++ [x]) ++ l = bt' ++ x :: l := by simp
    have hstt : ∀ y ∈ (bt' ++ [x]) ++ l, SiB y ∧ y.at_ + 5 ≤ xs.length := by rw [happ]; exact st
    have hgpp : ((bt' ++ [x]) ++ l).Pairwise (fun x y => x.at_ + 5 ≤ y.at_) := by rw [happ]; exact gp
    have hb := b1 rfl
    have hl4 : (bt' ++ [x]).length ≤ 4 := by simp; omega
    by_cases hc : (bt' ++ [x]).length = 4 ∨ l.length = 0
    · have hc' : (addR (bt'.map (kyd up)) x.at_ x.to_ up).length = 4 ∨ l.length = 0 := by rw [hlen]; exact hc
      simp only [gatP, gatR, PS.step, RD.step]
      rw [if_pos hc, if_pos hc, if_pos hc']
      exact ⟨⟨rfl, rfl, rfl, rfl, ha, rfl, rfl, rfl, fun _ _ => rfl, fun h => absurd h (by show ¬ 2 = 5; omega), fun h => absurd h (by show ¬ 2 = 0; omega), fun h => absurd h (by show ¬ 2 = 1; omega), hstt, hgpp, f8, hl4⟩, rfl, rfl, rfl⟩
    · have hc' : ¬ ((addR (bt'.map (kyd up)) x.at_ x.to_ up).length = 4 ∨ l.length = 0) := by rw [hlen]; exact hc
      simp only [gatP, gatR, PS.step, RD.step]
      rw [if_neg hc, if_neg hc, if_neg hc']
      refine ⟨⟨rfl, rfl, rfl, rfl, ha, rfl, rfl, rfl, fun h => absurd h (by show ¬ 2 ≤ 1; omega), fun h => absurd h (by show ¬ 1 = 5; omega), fun h => absurd h (by show ¬ 1 = 0; omega), fun _ => ?_, hstt, hgpp, f8, hl4⟩, rfl, rfl, rfl⟩
      show (bt' ++ [x]).length < 4
      omega
theorem nxP_cases (k : Nat) : nxP k = 3 ∨ nxP k = 4 ∨ nxP k = 6 := by unfold nxP; split; exact .inl rfl; split; exact .inr (.inl rfl); exact .inr (.inr rfl)
/-- a step of the one is a step of the other -/
theorem SR.step {s : PS} {r : RD} {M : Int} (h : SR s r) (ho : POk s M) (rs : List Bool) : AR (stpP s rs) (stpR r rs) := by
  have hph := h.ph
  have hp6 := ho.ph
  unfold stpP stpR
  by_cases h0 : r.ph = 0
  · rw [if_pos (by omega), if_pos h0]
    exact ⟨h, rfl, rfl, rfl⟩
  · rw [if_neg (by omega), if_neg h0]
    by_cases h1 : r.ph = 1
    · rw [if_pos (by omega), if_neg (by omega), if_pos h1]
      exact h.gat h1 (ho.w2 (by omega))
    · rw [if_neg (by omega)]
      by_cases h5 : r.ph = 5
      · rw [if_pos (by omega), if_pos h5]
        have hw : s.wr = 0 := ho.w2 (by omega)
        unfold waiP
        rw [h.fs]
        by_cases hov : ovr r.fs = true
        · rw [if_pos hov, if_pos hov]
          have hnx := h.nx h5
          have hc := nxP_cases r.sent
          refine ⟨⟨h.xs, rfl, h.n, hnx, h.bt, h.lf, h.up, ?_, fun _ _ => hw, fun h5 => ?_, fun h0 => ?_, fun h1 => ?_, h.st, h.gp, h.f8, h.b4⟩, rfl, rfl, rfl⟩
          · show ({ s.ct with st := s.ct.st + 1 } : Ct) = { r.ct with st := r.ct.st + 1 }
            rw [h.ct]
          · have h5' : nxP r.sent = 5 := h5
            omega
          · have h0' : nxP r.sent = 0 := h0
            omega
          · have h1' : nxP r.sent = 1 := h1
            omega
        · rw [if_neg hov, if_neg hov]
          refine ⟨⟨h.xs, rfl, h.n, h.ph, h.bt, h.lf, h.up, ?_, h.wr, h.nx, h.b0, h.b1, h.st, h.gp, h.f8, h.b4⟩, rfl, rfl, rfl⟩
          show ({ s.ct with wa := s.ct.wa + 1 } : Ct) = { r.ct with wa := r.ct.wa + 1 }
          rw [h.ct]
      · rw [if_neg (by omega), if_neg h5, if_neg h1]
        by_cases h6 : r.ph = 6
        · rw [if_pos (by omega), if_pos h6]
          exact h.clr
        · rw [if_neg (by omega), if_neg h6]
          have hwr := h.wr (by omega) (by omega)
          have hw1 := ho.w1
          have hbl : s.bt.length = r.bt.length := by rw [h.bt, List.length_map]
          unfold wriP
          by_cases hd : r.dn = r.bt.length
          · have hn : s.bt[s.wr]? = none := List.getElem?_eq_none (by omega)
            rw [hn, if_pos hd]
            simp only
            unfold sndP
            rw [h.fs]
            by_cases hc : rs.length = r.fs.length ∧ ovr r.fs = true
            · rw [if_pos hc, if_pos hc]
              have hf := h.f8
              refine ⟨⟨h.xs, rfl, ?_, rfl, h.bt, h.lf, h.up, ?_, fun h2 h4 => ?_, fun _ => ?_, fun h0 => ?_, fun h1 => ?_, h.st, h.gp, ?_, h.b4⟩, ?_, rfl, rfl⟩
              · show s.n + 1 = r.n + 1
                rw [h.n]
              · show ({ s.ct with ro := s.ct.ro + 1, st := s.ct.st + 1 } : Ct) = { r.ct with ro := r.ct.ro + 1, st := r.ct.st + 1 }
                rw [h.ct]
              · exact absurd h4 (by show ¬ 5 ≤ 4; omega)
              · show nxP s.ph = nxP r.ph
                rw [hph]
              · exact absurd h0 (by show ¬ 5 = 0; omega)
              · exact absurd h1 (by show ¬ 5 = 1; omega)
              · show rs.length ≤ 8
                omega
              · show ([⟨11, 0, 0, 0, s.n + 1⟩] : List Ev) = [⟨11, 0, 0, 0, r.n + 1⟩]
                rw [h.n]
            · rw [if_neg hc, if_neg hc]
              exact ⟨h, rfl, rfl, rfl⟩
          · have hlt : r.dn < r.bt.length := by omega
            have hx : r.bt.getD r.dn ⟨0, 0, 0⟩ = r.bt[r.dn] := by simp [List.getD, hlt]
            have hs : s.bt[s.wr]? = some (kyd r.up r.bt[r.dn]) := by rw [h.bt, hwr, List.getElem?_map, List.getElem?_eq_getElem hlt]; rfl
            rw [hs, if_neg hd, hx]
            simp only [piece_same, hph, h.xs]
            obtain ⟨hsb, hsn⟩ := h.st r.bt[r.dn] (List.mem_append_left _ (List.getElem_mem hlt))
            obtain ⟨q1, q2⟩ := piece_fits (ph := r.ph) (up := r.up) hsb hsn
            rw [if_pos ⟨q1, by omega⟩]
            have hpl : (putA r.xs (pieceR r.ph r.up r.bt[r.dn]).1.toNat (pieceR r.ph r.up r.bt[r.dn]).2).length = r.xs.length := putA_len (by omega)
            refine ⟨⟨rfl, h.fs, h.n, rfl, h.bt, h.lf, h.up, ?_, fun _ _ => ?_, fun h5' => ?_, fun h0' => ?_, fun h1' => ?_, ?_, h.gp, h.f8, h.b4⟩, rfl, rfl, rfl⟩
            · show ({ s.ct with wr := s.ct.wr + 1, st := s.ct.st + 1 } : Ct) = { r.ct with wr := r.ct.wr + 1, st := r.ct.st + 1 }
              rw [h.ct]
            · show s.wr + 1 = r.dn + 1
              rw [hwr]
            · exact absurd h5' h5
            · exact absurd h0' h0
            · exact absurd h1' h1
            · intro x hx'
              have := h.st x hx'
              show SiB x ∧ x.at_ + 5 ≤ ((putA r.xs (pieceR r.ph r.up r.bt[r.dn]).1.toNat (pieceR r.ph r.up r.bt[r.dn]).2).length : Int)
              rw [hpl]
              exact this
/-- what a right list of sites is -/
theorem may_all {size : Int} : ∀ {e : Int} {L : List Si}, 0 ≤ e → size ≤ 65536 → mayF size e L = true → (∀ x ∈ L, SiB x ∧ x.at_ + 5 ≤ size ∧ e ≤ x.at_) ∧ L.Pairwise (fun x y => x.at_ + 5 ≤ y.at_)
  | e, [], _, _, _ => ⟨fun x h => by simp at h, List.Pairwise.nil⟩
  | e, x :: L, he, hs, h => by
    unfold mayF at h
    by_cases hc : x.at_ < e ∨ size - 5 < x.at_ ∨ x.to_ < 0 ∨ 65536 < x.to_ ∨ x.to_ - (x.at_ + 5) < -4096 ∨ 4096 < x.to_ - (x.at_ + 5)
    · rw [if_pos hc] at h; cases h
    · rw [if_neg hc] at h
      obtain ⟨h1, h2⟩ := may_all (e := x.at_ + 5) (by omega) hs h
      refine ⟨fun y hy => ?_, List.Pairwise.cons (fun y hy => (h1 y hy).2.2) h2⟩
      rcases List.mem_cons.1 hy with rfl | hy
      · exact ⟨⟨by omega, by omega, by omega, by omega⟩, by omega, by omega⟩
      · obtain ⟨a, b, c⟩ := h1 y hy
        exact ⟨a, b, by omega⟩
theorem SR.start {s : PS} {r : RD} (h : SR s r) (hxl : r.xs.length ≤ 65536) (L : List Si) (up : Bool) : SR (strP s L up).1 (strR r L up).1 ∧ (strP s L up).2 = (strR r L up).2 := by
  have hph := h.ph
  have hxs := h.xs
  unfold strP strR
  by_cases h0 : r.ph = 0
  · have hs0 : ¬ s.ph ≠ 0 := by omega
    have hr0 : ¬ r.ph ≠ 0 := by omega
    rw [if_neg hs0, if_neg hr0, hxs]
    cases hm : mayF r.xs.length 0 L
    · rw [if_neg (by decide), if_neg (by decide)]
      exact ⟨h, rfl⟩
    · rw [if_pos rfl, if_pos rfl]
      obtain ⟨h1, h2⟩ := may_all (Int.le_refl 0) (by omega) hm
      have hb := h.b0 h0
      have hsb : s.bt = [] := by rw [h.bt, hb]; rfl
      refine ⟨⟨rfl, h.fs, h.n, rfl, ?_, rfl, rfl, rfl, fun h2 => ?_, fun h5 => ?_, fun h0 => ?_, fun _ => ?_, ?_, ?_, h.f8, h.b4⟩, rfl⟩
      · show s.bt = r.bt.map (kyd up)
        rw [hsb, hb]; rfl
      · exact absurd h2 (by show ¬ 2 ≤ 1; omega)
      · exact absurd h5 (by show ¬ 1 = 5; omega)
      · exact absurd h0 (by show ¬ 1 = 0; omega)
      · show r.bt.length < 4
        rw [hb]; decide
      · show ∀ x ∈ r.bt ++ L, SiB x ∧ x.at_ + 5 ≤ r.xs.length
        rw [hb]
        exact fun x hx => ⟨(h1 x hx).1, (h1 x hx).2.1⟩
      · show (r.bt ++ L).Pairwise (fun x y => x.at_ + 5 ≤ y.at_)
        rw [hb]
        exact h2
  · rw [if_pos (by omega), if_pos h0]
    exact ⟨h, rfl⟩
/-- the document's Step, for every state that goes with a patcher's -/
theorem rstep_any {s : PS} {r : RD} {q : RP} {w : World} {mg : Nat} (hS : SR s r) (ho : POk s 1000000) (hM : RM w mg r q) (hmg : mg < w.heap.size) (pr : Option Addr) (cr : Nat) (rs : List Bool) (hrr : BRow w pr rs) (hnil : pr = none → cr = 0) :
    Calls Try.prog 22 #[.agg (r.val q), .slice pr rs.length cr] w (RsIs w mg (stpR r rs)) := by
  have e1 := hS.ct
  have hc1 := ho.c1
  have hc2 := ho.c2
  have hc3 := ho.c3
  have hc4 := ho.c4
  have hn := ho.n
  have hxl := ho.xl
  have hp6 := ho.ph
  have hph := hS.ph
  rw [e1] at hc1 hc2 hc3 hc4
  rw [hS.n] at hn
  rw [hS.xs] at hxl
  have hdn : 2 ≤ r.ph → r.ph ≤ 4 → r.dn ≤ r.bt.length := fun h2 h4 => by
    have := hS.wr h2 h4
    have h3 := ho.w1
    rw [hS.bt, List.length_map] at h3
    omega
  have f8 := hS.f8
  have b4 := hS.b4
  have hst := hS.st
  clear hS ho
  obtain ⟨xs, n, fs, ph, sent, bt, lf, dn, up, ct⟩ := r
  simp only at hc1 hc2 hc3 hc4 hn hxl hph hdn f8 b4 hst
  unfold stpR
  simp only
  by_cases h0 : ph = 0
  · subst h0
    rw [if_pos rfl]
    exact rstep_0 xs n fs sent bt lf dn up ct q pr cr rs mg w hM
  · rw [if_neg h0]
    by_cases h5 : ph = 5
    · subst h5
      rw [if_pos rfl]
      by_cases hov : ovr fs = true
      · rw [if_pos hov]
        unfold nxP
        by_cases h2 : sent = 2
        · subst h2
          exact rstep_5y2 xs n fs bt lf dn up ct q pr cr rs mg w hM f8 hov hc3.1 hc3.2
        · rw [if_neg h2]
          by_cases h3 : sent = 3
          · subst h3
            exact rstep_5y3 xs n fs bt lf dn up ct q pr cr rs mg w hM f8 hov hc3.1 hc3.2
          · rw [if_neg h3]
            exact rstep_5y6 xs n fs sent bt lf dn up ct q pr cr rs mg w hM f8 hov hc3.1 hc3.2 h2 h3
      · rw [if_neg hov]
        exact rstep_5n xs n fs sent bt lf dn up ct q pr cr rs mg w hM f8 (by simpa using hov) hc4.1 hc4.2
    · rw [if_neg h5]
      by_cases h1 : ph = 1
      · subst h1
        rw [if_pos rfl]
        exact rstep_1 xs n fs sent bt lf dn up ct q pr cr rs mg w hM b4 hc3.1 hc3.2
      · rw [if_neg h1]
        by_cases h6 : ph = 6
        · subst h6
          rw [if_pos rfl]
          exact rstep_6 xs n fs sent bt lf dn up ct q pr cr rs mg w hM hc3.1 hc3.2
        · rw [if_neg h6]
          by_cases hd : dn = bt.length
          · rw [if_pos hd]
            by_cases hc : rs.length = fs.length ∧ ovr fs = true
            · rw [if_pos hc]
              subst hd
              exact rstep_so xs n fs ph sent bt lf _ up ct q pr cr rs mg w hM (by omega) (by omega) f8 rfl hrr hnil hc.1 hc.2 hn.1 hn.2 hc2.1 hc2.2 hc3.1 hc3.2
            · rw [if_neg hc]
              refine rstep_sb xs n fs ph sent bt lf dn up ct q pr cr rs mg w hM (by omega) (by omega) f8 hd ?_
              by_cases hl : rs.length = fs.length
              · exact .inr (by cases ho : ovr fs; rfl; exact absurd ⟨hl, ho⟩ hc)
              · exact .inl hl
          · rw [if_neg hd]
            have hlt : dn < bt.length := by have := hdn (by omega) (by omega); omega
            have hx : bt.getD dn ⟨0, 0, 0⟩ = bt[dn] := by simp [List.getD, hlt]
            rw [hx]
            obtain ⟨hsb, hsn⟩ := hst bt[dn] (List.mem_append_left _ (List.getElem_mem hlt))
            obtain ⟨q1, q2⟩ := piece_fits (ph := ph) (up := up) hsb hsn
            obtain ⟨k, hk⟩ := Int.eq_ofNat_of_zero_le q1
            have hpe : pieceR ph up bt[dn] = ((k : Int), (pieceR ph up bt[dn]).2) := by rw [← hk]
            have := rstep_w xs n fs ph sent bt lf dn up ct q pr cr rs mg w hM (by omega) (by omega) bt[dn] (List.getElem?_eq_getElem hlt) hsb k (pieceR ph up bt[dn]).2 hpe (by rw [hk] at q2; omega) hxl b4 hmg hc1.1 hc1.2 hc3.1 hc3.2
            rw [hk, Int.toNat_natCast]
            exact this
end Go.Proofs.Ytekggimgobeggaa
