/- switchyardref13.Step. -/
import Derived.Test.YteeeedphhaphpaaRefF
import Derived.Test.YteeeedphhaphpaaPushRow
import Derived.Deep.DeepCutAuto
namespace Go.Proofs.Yteeeedphhaphpaa
open Go.RowKit Go.Maps

theorem row_lowerB {w : World} {B B' : Nat} {v : Value} {xs : List Int} (h : OwnV w B v xs) (hB : B' ≤ B) : OwnV w B' v xs := by
  rcases h.shape with ⟨rfl, rfl⟩ | ⟨g, cap, rfl, ho⟩
  · exact OwnV.nil _ _
  · exact (ho.lower hB).val
theorem rtake_row (p9 p8 : Option Addr) (c9 d g : Nat) (R : List Ln) (ys : List Int) (hold : Bool) (w : World) (hr : Ris R) (hl : R.length ≤ 1000000) (h9 : LRow w p9 R) (hy : ys.length ≤ 65536) (h8 : Row w p8 ys) (hg : g < 16384) :
    Calls Try.prog 38 #[.slice p9 R.length c9, .slice p8 ys.length d, .int .i64 g, .bool hold] w fun e w' => ∃ p' c', e = .returned (.tuple #[.slice p' (takR R ys g hold).L.length c', fV (takR R ys g hold).f, .bool (takR R ys g hold).is, .int .i64 0]) ∧ LRow w' p' (takR R ys g hold).L ∧ Below w.heap.size w w' := by
  rcases takR_cases R g hold with ⟨f, hf, rfl⟩ | hno
  · rw [takR_held hf]
    refine (rtake_held p9 p8 _ c9 _ d R g f w rfl (by omega) h9 hf).mono ?_
    rintro e w' ⟨rfl, hb⟩
    exact ⟨_, _, rfl, h9.below hb, hb⟩
  · rw [takR_in hno (by omega)]
    refine (rtake_new p9 p8 _ c9 _ d R ys g hold w hr rfl hl h9 rfl hy h8 hno hg).mono ?_
    rintro e w' ⟨v, rfl, ho, hb⟩
    obtain ⟨p', c', rfl, -, -, hrow⟩ := ho.row5
    exact ⟨_, _, rfl, hrow, hb⟩

set_option maxHeartbeats 1000000 in
theorem rstep_done (p8 p9 p : Option Addr) (d c9 c pc : Nat) (R : List Ln) (ys hv : List Int) (hold : Bool) (w : World) (hn : hv.length ≤ 140737488355328) (hrow : Row w p hv) (hd : doneB hv = true) :
    Calls Try.prog 20 #[.slice p8 ys.length d, .slice p9 R.length c9, .int .u32 pc, .slice p hv.length c, .bool hold] w fun e w' => e = .returned (.tuple #[.slice none 0 0, .int .i64 0, .bool false, .int .i64 2, .slice p9 R.length c9]) ∧ Below w.heap.size w w' := by
  have h18 := rdone_any p hv.length c hv w rfl hn hrow
  rw [hd] at h18
  clear hrow hd
  go_enter Try.func20, Try.ntmps20
  go_wp2_with (go_at_call 18; refine Hid.out ?_)
  refine Lib.hid ?_
  refine h18.mono ?_
  rintro e w1 ⟨rfl, hb1⟩
  have HB := Hid.in hb1
  clear hb1 h18
  go_wp2_with fail
  refine bodyPost_ret (v := .tuple #[.slice none 0 0, .int .i64 0, .bool false, .int .i64 2, .slice p9 R.length c9]) (by simp [results, Try.results20, go_sem]) rfl ⟨rfl, HB.out⟩

set_option maxHeartbeats 1000000 in
theorem rstep_out (p8 p9 p : Option Addr) (d c9 c pc : Nat) (R : List Ln) (ys hv : List Int) (hold : Bool) (w : World) (hpc : pc ≤ 4294967295) (hn : hv.length ≤ 140737488355328) (hrow : Row w p hv) (hd : doneB hv = false) (hx : ys.length ≤ pc + hv.length) :
    Calls Try.prog 20 #[.slice p8 ys.length d, .slice p9 R.length c9, .int .u32 pc, .slice p hv.length c, .bool hold] w fun e w' => e = .returned (.tuple #[.slice none 0 0, .int .i64 0, .bool false, .int .i64 210, .slice p9 R.length c9]) ∧ Below w.heap.size w w' := by
  have h18 := rdone_any p hv.length c hv w rfl hn hrow
  rw [hd] at h18
  have h17 := fun W => rplace_any pc p hv.length c W (by omega) (by omega) hn
  have hge : decide ((ys.length : Int) ≤ (pc : Int) + hv.length) = true := decide_eq_true (by omega)
  clear hrow hd
  go_enter Try.func20, Try.ntmps20
  go_wp2_with (go_at_call 18; refine Hid.out ?_)
  refine Lib.hid ?_
  refine h18.mono ?_
  rintro e w1 ⟨rfl, hb1⟩
  have HB := Hid.in hb1
  have h17' := h17 w1
  clear hb1 h18 h17
  go_wp2_with (go_at_call 17; refine Hid.out ?_)
  refine Lib.hid ?_
  refine h17'.mono ?_
  rintro e w2 ⟨rfl, rfl⟩
  clear h17'
  go_wp2_with fail
  refine bodyPost_ret (v := .tuple #[.slice none 0 0, .int .i64 0, .bool false, .int .i64 210, .slice p9 R.length c9]) (by simp [results, Try.results20, go_sem]) rfl ⟨rfl, HB.out⟩

set_option maxHeartbeats 1000000 in
theorem rstep_ok (p8 p9 p : Option Addr) (d c9 c pc : Nat) (R : List Ln) (ys hv : List Int) (hold : Bool) (w : World) (hr : Ris R) (hl : R.length ≤ 1000000) (h9 : LRow w p9 R) (hy : ys.length ≤ 65536) (h8 : Row w p8 ys) (hpc : pc ≤ 4294967295) (hrow : Row w p hv) (hpn : p = none → c = 0) (hd : doneB hv = false) (hx : pc + hv.length < ys.length) :
    Calls Try.prog 20 #[.slice p8 ys.length d, .slice p9 R.length c9, .int .u32 pc, .slice p hv.length c, .bool hold] w fun e w' => ∃ v p' c', e = .returned (.tuple #[v, .int .i64 ((pc + hv.length) / 4 : Nat), .bool (takR R ys (((pc + hv.length) / 4 : Nat) : Int) hold).is, .int .i64 0, .slice p' (takR R ys (((pc + hv.length) / 4 : Nat) : Int) hold).L.length c']) ∧
      OwnV w' w.heap.size v (outF hv (takR R ys (((pc + hv.length) / 4 : Nat) : Int) hold).f ((pc + hv.length) % 4)) ∧ LRow w' p' (takR R ys (((pc + hv.length) / 4 : Nat) : Int) hold).L ∧ Below w.heap.size w w' := by
  have hn6 : hv.length ≤ 6 := by
    by_cases h0 : hv.length = 0
    · omega
    · have := lt_of_not_done hd (by omega)
      have := (lenB_in (hv.getD 0 0)).2
      omega
  have h18 := rdone_any p hv.length c hv w rfl (by omega) hrow
  rw [hd] at h18
  have h17 := fun W => rplace_any pc p hv.length c W (by omega) (by omega) (by omega)
  have hg4 : (pc + hv.length) / 4 < 16384 := by omega
  have hr4 : (pc + hv.length) % 4 < 4 := Nat.mod_lt _ (by decide)
  have h38 := fun W (hW : Below w.heap.size w W) => rtake_row p9 p8 c9 d ((pc + hv.length) / 4) R ys hold W hr hl (h9.below hW) hy (h8.below hW) hg4
  obtain ⟨t, ht'⟩ : ∃ t, takR R ys (((pc + hv.length) / 4 : Nat) : Int) hold = t := ⟨_, rfl⟩
  rw [ht'] at h38 ⊢
  clear ht'
  obtain ⟨f, is, e0, L2⟩ := t
  dsimp only at h38 ⊢
  have HR : Hid (∀ W, Below w.heap.size w W → Row W p hv) := fun W hW => hrow.below hW
  have hA : (pc : Int) + hv.length = ((pc + hv.length : Nat) : Int) := by omega
  rw [hA] at h17
  obtain ⟨A, hA2⟩ : ∃ A, pc + hv.length = A := ⟨_, rfl⟩
  rw [hA2] at h17 h38 hx hr4 hg4 ⊢
  have hqu : (A : Int) / 4 = ((A / 4 : Nat) : Int) := by omega
  have hrm : (A : Int) % 4 = ((A % 4 : Nat) : Int) := by omega
  have hge : decide (ys.length ≤ A) = false := decide_eq_false (by omega)
  have hAm : A ≤ 65536 := by omega
  clear hA hA2 h9 h8 hrow
  generalize A / 4 = gq at *
  generalize A % 4 = r at *
  have HFL : Hid (hv.length < lenB (fstB hv f r)) := fst_lt hd f r
  have hK6 := lenB_in (fstB hv f r)
  have HD := Hid.in hd
  clear hd
  go_enter Try.func20, Try.ntmps20
  go_wp2_with (go_at_call 18; refine Hid.out ?_)
  refine Lib.hid ?_
  refine h18.mono ?_
  rintro e w1 ⟨rfl, hb1⟩
  have h17' := h17 w1
  have h38' := h38 w1 hb1
  have HB1 := Hid.in hb1
  clear hb1 h18 h17 h38
  go_wp2_with (go_at_call 17; refine Hid.out ?_)
  refine Lib.hid ?_
  refine h17'.mono ?_
  rintro e w2 ⟨rfl, hw2⟩
  rw [hw2]
  clear h17' hw2
  simp only [fV] at h38'
  go_wp2_with (go_at_call 38; refine Hid.out ?_)
  refine Lib.hid ?_
  refine h38'.mono ?_
  rintro e w3 ⟨p3, c3, rfl, hl3, hb3⟩
  have HN4 := Hid.in (Blk.new w3 62 #[.int .u8 f.a, .int .u8 f.b, .int .u8 f.c, .int .u8 f.d])
  have HB4 := Hid.in (below_alloc (below_step HB1.out hb3) (.cells #[.int .u8 f.a, .int .u8 f.b, .int .u8 f.c, .int .u8 f.d] 62))
  have HL4 := Hid.in (hl3.below (new_alloc w3 (.cells #[.int .u8 f.a, .int .u8 f.b, .int .u8 f.c, .int .u8 f.d] 62)))
  clear hl3 hb3 h38' HB1
  go_upto_region 7 with fail
  obtain ⟨fa, hfa⟩ : ∃ x, f.a = x := ⟨_, rfl⟩
  obtain ⟨fb, hfb⟩ : ∃ x, f.b = x := ⟨_, rfl⟩
  obtain ⟨fc, hfc⟩ : ∃ x, f.c = x := ⟨_, rfl⟩
  obtain ⟨fd, hfd⟩ : ∃ x, f.d = x := ⟨_, rfl⟩
  generalize hw4 : w3.alloc (.cells #[.int .u8 f.a, .int .u8 f.b, .int .u8 f.c, .int .u8 f.d] 62) = w4 at *
  generalize w3.heap.size = g4 at *
  have HFC : Hid (∀ W, Below w4.heap.size w4 W → ∀ j, j < 4 → W.cell? ⟨g4, j, none⟩ = some (.int .u8 ((f4L f).getD j 0))) := fun W hW j hj => f4_cell (HN4.out.grow hW) hj
  have HLC : Hid (∀ W, Below w4.heap.size w4 W → LRow W p3 L2) := fun W hW => HL4.out.below hW
  rw [hfa, hfb, hfc, hfd]
  clear HN4 HL4 hw4 hfa hfb hfc hfd
  have hpn' : p = none → hv.length = 0 ∧ c = 0 := fun e => ⟨by
    by_cases h0 : 0 < hv.length
    · obtain ⟨b, o, e2, -⟩ := HR.out w (below_self w) h0
      rw [e] at e2; cases e2
    · omega, hpn e⟩
  have hr5 := HR.out _ HB4.out
  have hs4 : w4.heap.size ≤ w4.heap.size := Nat.le_refl _
  go_upto_region 9 with (at_builtin; refine wp_push_row _ rfl _ _ rfl w4.heap.size (.slice none 0 0) [] rfl (OwnV.nil _ _) p hv.length c hv rfl rfl hr5 hpn' (by simp; omega) hs4 ?_; intro v5 w5 ho5 hbel5; rw [List.nil_append] at ho5; have HO5 := Hid.in ho5; have HB5 := Hid.in (hbel5 _ (below_self w4)); clear ho5 hbel5)
  clear hr5 hs4 hpn' hpn HR
  go_wp2_with fail
  rw [hrm]
  clear hrm
  go_loopw [20, 21] (fun v vi wx => ∃ i : Nat, vi = .int .i64 i ∧ r ≤ i ∧ i ≤ 4 ∧ OwnV wx w4.heap.size v (outI hv f r i) ∧ hv.length + (i - r) ≤ lenB (fstB hv f r) ∧ Below w4.heap.size w4 wx) (fun _ vi _ => 4 - (intOf vi).toNat)
  case atStart => exact ⟨r, rfl, Nat.le_refl _, by omega, by rw [outI_start]; exact HO5.out, by have := HFL.out; omega, HB5.out⟩
  case round =>
    obtain ⟨i, rfl, hri, hi4, ho, hlen, hbx⟩ := hrel
    obtain ⟨y, hy⟩ : ∃ y, fstB hv f r = y := ⟨_, rfl⟩
    obtain ⟨K, hK⟩ : ∃ K, lenB y = K := ⟨_, rfl⟩
    rw [hy, hK] at hlen hK6
    have HY := Hid.in hy
    have HK := Hid.in hK
    have hol := outI_len hv f hri hi4
    have hfi := fun h => outI_fst (hv := hv) (f := f) (r := r) (i := i) hri hi4 h
    rw [hy] at hfi
    have hnx := fun h => outI_next hv f hri (i := i) h
    have hal := fun (e : i = 4) (h : (outI hv f r i).length ≤ lenB (fstB hv f r)) => (show outI hv f r i = outF hv f r by subst e; exact outI_all hr4 h)
    have hen := fun h => outI_end (hv := hv) (f := f) (r := r) (i := i) hri hi4 (Nat.le_of_lt HFL.out) h
    rw [hy, hK] at hal hen
    generalize outI hv f r i = X at *
    have HX := Hid.in hol
    have HNX := Hid.in hnx
    have HAL := Hid.in hal
    have HEN := Hid.in hen
    have HO := Hid.in ho
    have HBX := Hid.in hbx
    obtain ⟨po, co, rfl, hrx, hpo⟩ := ho.slice
    have HRX := Hid.in hrx
    have HFI := Hid.in hfi
    have hX6 : X.length ≤ 10 := by omega
    have hXK : X.length ≤ K := by omega
    clear ho hbx hol hfi hnx hal hen hrx hy hK HO5 HB5
    by_cases hi : i < 4
    · have hdi : decide ((i : Int) < 4) = true := decide_eq_true (by omega)
      by_cases h0 : X.length = 0
      · have hb0 : ((X.length : Int) == 0) = true := by rw [h0]; rfl
        have hlt0 : X.length < K := by omega
        clear h0 HRX hpo HFI
        have hsz := (HBX.out).size
        have cI := HFC.out wr HBX.out i hi
        have HNZ : Hid (outI hv f r (i + 1) = X ++ [(f4L f).getD i 0]) := HNX.out hi
        generalize (f4L f).getD i 0 = z at *
        have hl1 : X.length + 1 ≤ 140737488355328 := by omega
        go_wp2_with (at_builtin; refine wp_push _ rfl _ _ rfl w4.heap.size _ X rfl (HO.out.alloc _) ⟨wr.heap.size, 0, none⟩ 1 1 [z] rfl rfl (cell_one_new _ _ _) hl1 (by simp; omega) ?_; intro v' w7 hown' _hgrow hbel _hnil; have HOW := Hid.in hown'; have HBW := Hid.in (hbel _ (HBX.out.alloc hsz _)); clear hown' _hgrow hbel _hnil)
        go_roundw
        case rel => exact ⟨i + 1, by go_num, by omega, by omega, by rw [HNZ.out]; exact HOW.out, by rw [HY.out, HK.out]; have := HX.out; omega, HBW.out⟩
        case measure => simp [intOf]; omega
      · have hb0 : ((X.length : Int) == 0) = false := by rw [beq_eq_false_iff_ne]; omega
        have hp0 : 0 < X.length := by omega
        obtain ⟨bx, ox, rfl, hcx⟩ := HRX.out hp0
        have cx := hcx 0 hp0
        rw [Nat.add_zero, HFI.out hp0] at cx
        have h37 := rlen_any y wr
        rw [HK.out] at h37
        clear hcx h0 hpo HFI
        by_cases hlt : X.length < K
        · have hdl : decide (X.length < K) = true := decide_eq_true hlt
          go_wp2_with (go_at_call 37; refine Hid.out ?_)
          refine Lib.hid ?_
          refine h37.mono ?_
          rintro e w6 ⟨rfl, hb6⟩
          have HB6 := Hid.in (below_step HBX.out hb6)
          have HO6 := Hid.in (HO.out.below hb6)
          clear h37 hb6 HO HBX cx
          have hsz := (HB6.out).size
          have cI := HFC.out w6 HB6.out i hi
          have HNZ : Hid (outI hv f r (i + 1) = X ++ [(f4L f).getD i 0]) := HNX.out hi
          generalize (f4L f).getD i 0 = z at *
          have hl1 : X.length + 1 ≤ 140737488355328 := by omega
          go_wp2_with (at_builtin; refine wp_push _ rfl _ _ rfl w4.heap.size _ X rfl (HO6.out.alloc _) ⟨w6.heap.size, 0, none⟩ 1 1 [z] rfl rfl (cell_one_new _ _ _) hl1 (by simp; omega) ?_; intro v' w7 hown' _hgrow hbel _hnil; have HOW := Hid.in hown'; have HBW := Hid.in (hbel _ (HB6.out.alloc hsz _)); clear hown' _hgrow hbel _hnil)
          go_roundw
          case rel => exact ⟨i + 1, by go_num, by omega, by omega, by rw [HNZ.out]; exact HOW.out, by rw [HY.out, HK.out]; have := HX.out; omega, HBW.out⟩
          case measure => simp [intOf]; omega
        · have hdl : decide (X.length < K) = false := decide_eq_false hlt
          go_wp2_with (go_at_call 37; refine Hid.out ?_)
          refine Lib.hid ?_
          refine h37.mono ?_
          rintro e w6 ⟨rfl, hb6⟩
          have HB6 := Hid.in (below_step HBX.out hb6)
          have HO6 := Hid.in (HO.out.below hb6)
          clear h37 hb6 HO HBX cx
          have HLW := Hid.in (HLC.out _ HB6.out)
          have HE : Hid (X = outF hv f r) := HEN.out (by omega)
          go_wp2_with fail
          refine bodyPost_ret (v := .tuple #[.slice (some ⟨bx, ox, none⟩) X.length co, .int .i64 gq, .bool is, .int .i64 0, .slice p3 L2.length c3]) (by simp [results, Try.results20, go_sem]) rfl ⟨_, _, _, rfl, by rw [← HE.out]; exact row_lowerB HO6.out HB4.out.size, HLW.out, below_step HB4.out HB6.out⟩
    · have hdi : decide ((i : Int) < 4) = false := decide_eq_false (by omega)
      have HLW := Hid.in (HLC.out _ HBX.out)
      have HE : Hid (X = outF hv f r) := HAL.out (by omega) hXK
      go_wp2_with fail
      refine bodyPost_ret (v := .tuple #[.slice po X.length co, .int .i64 gq, .bool is, .int .i64 0, .slice p3 L2.length c3]) (by simp [results, Try.results20, go_sem]) rfl ⟨_, _, _, rfl, by rw [← HE.out]; exact row_lowerB HO.out HB4.out.size, HLW.out, below_step HB4.out HBX.out⟩

/-- the reference's Step, whatever it answers -/
theorem rstep_any (p8 p9 p : Option Addr) (d c9 c pc : Nat) (R : List Ln) (ys hv : List Int) (hold : Bool) (w : World) (hr : Ris R) (hl : R.length ≤ 1000000) (h9 : LRow w p9 R) (hy : ys.length ≤ 65536) (h8 : Row w p8 ys) (hpc : pc ≤ 4294967295) (hn : hv.length ≤ 140737488355328) (hrow : Row w p hv) (hpn : p = none → c = 0) :
    Calls Try.prog 20 #[.slice p8 ys.length d, .slice p9 R.length c9, .int .u32 pc, .slice p hv.length c, .bool hold] w fun e w' => ∃ v p' c', e = .returned (.tuple #[v, .int .i64 (stpR R ys pc hv hold).g, .bool (stpR R ys pc hv hold).is, .int .i64 (stpR R ys pc hv hold).e, .slice p' (stpR R ys pc hv hold).L.length c']) ∧
      OwnV w' w.heap.size v (stpR R ys pc hv hold).out ∧ LRow w' p' (stpR R ys pc hv hold).L ∧ Below w.heap.size w w' := by
  unfold stpR
  by_cases hd : doneB hv = true
  · rw [if_pos hd]
    refine (rstep_done p8 p9 p d c9 c pc R ys hv hold w hn hrow hd).mono ?_
    rintro e w' ⟨rfl, hb⟩
    exact ⟨_, _, _, rfl, OwnV.nil _ _, h9.below hb, hb⟩
  · rw [if_neg hd]
    have hd : doneB hv = false := by simpa using hd
    by_cases hx : ys.length ≤ pc + hv.length
    · rw [if_pos hx]
      refine (rstep_out p8 p9 p d c9 c pc R ys hv hold w hpc hn hrow hd hx).mono ?_
      rintro e w' ⟨rfl, hb⟩
      exact ⟨_, _, _, rfl, OwnV.nil _ _, h9.below hb, hb⟩
    · rw [if_neg hx]
      exact rstep_ok p8 p9 p d c9 c pc R ys hv hold w hr hl h9 hy h8 hpc hrow hpn hd (by omega)

end Go.Proofs.Yteeeedphhaphpaa
