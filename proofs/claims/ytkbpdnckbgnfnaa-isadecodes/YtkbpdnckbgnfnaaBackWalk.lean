/- What the law IsaBack answers: true, for every instruction and every two slices of bytes. -/
import Derived.Test.YtkbpdnckbgnfnaaJumpsWalk
import Derived.Test.YtkbpdnckbgnfnaaPushRow
namespace Go.Proofs.Ytkbpdnckbgnfnaa
open Go.RowKit

theorem dec_parts {xs : List Int} (hb : Byt xs) : (∃ e, e ≠ 0 ∧ dec xs = ⟨0, 0, 0, 0, 0, e⟩) ∨
    ∃ (o : Nat) (a b n : Int), dec xs = ⟨o, a, b, n, lenN o, 0⟩ ∧ lenN o ≤ xs.length ∧ rightB o a b n = true ∧ encL o a b n = xs.take (lenN o) ∧ (0 ≤ a ∧ a ≤ 255) ∧ (0 ≤ b ∧ b ≤ 255) := by
  by_cases h : (dec xs).e = 0
  · obtain ⟨o, h1, h2, h3, h4, h5, h6, h7⟩ := dec_ok hb h
    refine .inr ⟨o, (dec xs).a, (dec xs).b, (dec xs).n, ?_, h3, h4, h5, h6, h7⟩
    rw [← h1, ← h2, ← h]
  · obtain ⟨h1, h2, h3, h4, h5⟩ := dec_bad h
    refine .inl ⟨(dec xs).e, h, ?_⟩
    generalize dec xs = d at *
    cases d
    simp_all

theorem Own.keep {w w' : World} {B C g cap : Nat} {xs : List Int} (h : Own w B g cap xs) (hb : Below C w w') (hg : g < C) : Own w' B g cap xs := by
  obtain ⟨cur, h1, h2, h3, h4, h5, h6⟩ := h.parts
  exact Own.mk h1 (by rw [hb.block g hg]; exact h2) h3 h4 h5 h6
theorem At4.keep {w w' : World} {C g : Nat} {x0 x1 x2 x3 : Value} (h : At4 w g x0 x1 x2 x3) (hb : Below C w w') (hg : g < C) : At4 w' g x0 x1 x2 x3 :=
  ⟨(hb.cell (p := ⟨g, 0, none⟩) hg).trans h.1, (hb.cell (p := ⟨g, 1, none⟩) hg).trans h.2.1, (hb.cell (p := ⟨g, 2, none⟩) hg).trans h.2.2.1, (hb.cell (p := ⟨g, 3, none⟩) hg).trans h.2.2.2⟩
theorem Row.takeRow {w : World} {p : Option Addr} {xs : List Int} (h : Row w p xs) (m : Nat) : Row w p (xs.take m) := fun h0 => by
  rw [List.length_take] at h0
  obtain ⟨b, o, e, hc⟩ := h (by omega)
  refine ⟨b, o, e, fun i hi => ?_⟩
  rw [List.length_take] at hi
  rw [hc i (by omega)]
  simp [List.getD, show i < m by omega]

theorem byt_append {xs ys : List Int} (h1 : Byt xs) (h2 : Byt ys) : Byt (xs ++ ys) := fun i => by
  by_cases h : i < xs.length
  · rw [getD_left _ _ _ h]; exact h1 i
  · have := getD_right xs ys (i - xs.length)
    rw [show xs.length + (i - xs.length) = i by omega] at this
    rw [this]; exact h2 _

set_option maxHeartbeats 2000000 in
theorem lawBack_gen (o : Nat) (a b n : Int) (q p : Option Addr) (m d k cp : Nat) (ys zs : List Int) (w : World) (ho : o ≤ 255) (ha : 0 ≤ a ∧ a ≤ 255) (hb : 0 ≤ b ∧ b ≤ 255) (hn : -2147483648 ≤ n ∧ n ≤ 2147483647)
    (hm : m ≤ 140737488351232) (hy : ys.length = m) (hyr : Row w q ys) (hyb : Byt ys) (hqn : q = none → m = 0 ∧ d = 0)
    (hk : k ≤ 140737488351232) (hz : zs.length = k) (hzr : Row w p zs) (hzb : Byt zs) (hkc : k ≤ cp) :
    Calls Try.prog 6 #[ins o a b n, .slice q m d, .slice p k cp] w fun e w' => e = .returned (.bool true) ∧ Below w.heap.size w w' := by
  have HY : Hid (ys.length = m) := hy
  have HYR : Hid (Row w q ys) := hyr
  have HYB : Hid (Byt ys) := hyb
  have HQ : Hid (q = none → m = 0 ∧ d = 0) := hqn
  have HZ : Hid (zs.length = k) := hz
  have HZR : Hid (Row w p zs) := hzr
  have HZB : Hid (Byt zs) := hzb
  clear hy hyr hyb hqn hz hzr hzb
  cases hR : rightB o a b n
  · have hcon := fun w => encode_no o a b n w ho ha hb hR
    clear hR
    go_enter Try.func6, Try.ntmps6
    go_wp2_with fail
    refine (hcon _).mono ?_
    rintro e w1 ⟨rfl, hb1⟩
    have hbw := below_step (new_alloc w _) hb1
    clear hb1 hcon
    go_wp2_with fail
    refine (copy_any p k cp zs _ HZ.out (by omega) (HZR.out.below hbw)).mono ?_
    rintro e w2 ⟨v, rfl, hov, hb2⟩
    have hbw2 := below_step hbw hb2
    obtain ⟨p2, c2, hv2, hrow2, _⟩ := hov.slice
    rw [HZ.out] at hv2
    rw [hv2]
    clear hbw hb2 hov hv2
    go_wp2_with fail
    refine (decode_any p2 k c2 zs _ HZ.out (by omega) hrow2 HZB.out).mono ?_
    rcases dec_parts HZB.out with ⟨e0, hne, hd⟩ | ⟨o', a', b', n', hd, hl, hR', hE, ha', hb'⟩
    · rw [hd]
      have hne' : (e0 != 0) = true := by simpa using hne
      rintro e w3 ⟨rfl, hb3⟩
      have hbw3 := below_alloc (below_step hbw2 hb3) (.cells #[.int .u8 0, .int .u8 0, .int .u8 0, .int .i32 0] 26)
      clear hbw2 hb3 hrow2 hd hne
      go_wp2_with fail
      refine (awake_any _).mono ?_
      rintro e w4 ⟨rfl, hb4⟩
      go_wp2
      go_ret
      exact ⟨rfl, below_step hbw3 hb4⟩
    · rw [hd]
      rintro e w3 ⟨rfl, hb3⟩
      have hbw3 := below_alloc (below_step hbw2 hb3) (.cells #[.int .u8 o', .int .u8 a', .int .u8 b', .int .i32 n'] 26)
      have hJ := At4.new w3 (.int .u8 o') (.int .u8 a') (.int .u8 b') (.int .i32 n') 26
      have hll : (encL o' a' b' n').length = lenN o' := encL_length o' a' b' n' (rightB_parts hR').1.2
      have hcon := fun w => encode_yes o' a' b' n' w ha' hb' hR'
      have hright := fun w => right_op o' a' b' n' w (rightB_parts hR').1.1 (rightB_parts hR').1.2 ha' hb'
      rw [hR'] at hright
      have hLk : lenN o' ≤ k := by rw [← HZ.out]; exact hl
      have HE : Hid (encL o' a' b' n' = zs.take (lenN o')) := hE
      have HLL : Hid ((encL o' a' b' n').length = lenN o') := hll
      clear hbw2 hb3 hrow2 hd hl hE hll hR'
      generalize encL o' a' b' n' = es at *
      generalize lenN o' = L at *
      go_wp2_with fail
      refine (hcon _).mono ?_
      rintro e w4 ⟨g, cap, rfl, ho4, hb4⟩
      have hJ4 := hJ.below hb4
      have hbw4 := below_step hbw3 hb4
      clear hJ hb4 hbw3 hcon
      have l4 : w3.heap.size < w4.heap.size := cell_lt hJ4.1
      obtain ⟨j0, j1, j2, j3⟩ := hJ4
      go_wp2_with fail
      refine (hright _).mono ?_
      rintro e w5 ⟨rfl, hb5⟩
      have ho5 := ho4.below hb5
      have hbw5 := below_step hbw4 hb5
      clear ho4 hb5 hbw4 hright j0 j1 j2 j3
      have hLc : L ≤ cp := by omega
      go_wp2_with fail
      refine (sameBytes_any _ p L cap L cp es (zs.take L) _ HLL.out (by rw [List.length_take, HZ.out]; omega) (by omega) ho5.row ((HZR.out.below hbw5).takeRow L)).mono ?_
      rw [sameB_yes HE.out]
      rintro e w6 ⟨rfl, k6, hw6⟩
      have hbw6 : Below w.heap.size w w6 := by rw [hw6]; exact below_draws hbw5 k6
      clear hw6 hbw5 ho5
      go_wp2_with fail
      refine (awake_any _).mono ?_
      rintro e w7 ⟨rfl, hb7⟩
      go_wp2
      go_ret
      exact ⟨rfl, below_step hbw6 hb7⟩
  · have r1 := (rightB_parts hR).1
    have hcon := fun w => encode_yes o a b n w ha hb hR
    have HD : Hid (dec (encL o a b n ++ ys) = ⟨o, a, b, n, lenN o, 0⟩) := dec_enc hR hn ys
    have HBE : Hid (Byt (encL o a b n ++ ys)) := byt_append (byt_enc r1.2 ha hb) HYB.out
    have HLE : Hid ((encL o a b n).length = lenN o) := encL_length o a b n r1.2
    have HF : Hid ((encL o a b n).getD 0 0 = fb o) := by
      have := gC (cdL o) (rg o) (kd o) a b n [] 0 (cdL_pos o r1.1 r1.2)
      rw [List.append_nil] at this
      exact this
    have hlen := fun w => len_yes o w r1.1 r1.2
    have hL6 := lenN_in o r1.1 r1.2
    clear hR r1
    obtain ⟨ts, hts⟩ : ∃ ts, encL o a b n ++ ys = ts := ⟨_, rfl⟩
    rw [hts] at HD HBE
    have HTS : Hid (encL o a b n ++ ys = ts) := hts
    clear hts
    have HTL : Hid (ts.length = lenN o + m) := by
      show ts.length = lenN o + m
      rw [← HTS.out, List.length_append, HLE.out, HY.out]
    generalize encL o a b n = es at *
    generalize lenN o = L at *
    generalize fb o = z at *
    go_enter Try.func6, Try.ntmps6
    go_wp2_with fail
    refine (hcon _).mono ?_
    rintro e w1 ⟨g, cap, rfl, ho1, hb1⟩
    have hI := (At4.new w (.int .u8 o) (.int .u8 a) (.int .u8 b) (.int .i32 n) 26).below hb1
    have hbw1 := below_step (new_alloc w _) hb1
    clear hb1 hcon
    go_wp2_with fail
    refine (copy_any _ L cap es _ HLE.out (by omega) ho1.row).mono ?_
    rintro e w2 ⟨v, rfl, hov, hb2⟩
    have lg1 := ho1.lt
    have lw1 : w.heap.size < w1.heap.size := cell_lt hI.1
    have ho2 := ho1.below hb2
    have hI2 := hI.below hb2
    have hbw2 := below_step hbw1 hb2
    have hsz := hbw1.size
    have hsz2 := hb2.size
    clear ho1 hI hbw1 hb2
    go_wp2_with (at_builtin; refine wp_push_row _ rfl _ _ rfl w1.heap.size _ es rfl hov q m d ys rfl HY.out (HYR.out.below hbw2) HQ.out (by rw [HLE.out]; omega) hsz2 ?_; intro v' w3 hown3 hbel; rw [HTS.out] at hown3; have hb3 := hbel w2 (Below.refl _ _); obtain ⟨p3, c3, hv3, hrow3, _⟩ := hown3.slice; rw [HTL.out] at hv3; rw [hv3]; clear hbel hown3 hv3 hov)
    have hg1 : g < w1.heap.size := lg1
    have ho3 := ho2.keep hb3 lg1
    have hI3 := hI2.keep hb3 (by omega)
    have hbw3 := hbw2.trans (hb3.mono hsz)
    clear ho2 hI2 hb3 hbw2 hsz2
    refine (decode_any p3 (L + m) c3 ts _ HTL.out (by omega) hrow3 HBE.out).mono ?_
    rw [HD.out]
    rintro e w4 ⟨rfl, hb4⟩
    have hJ := At4.new w4 (.int .u8 o) (.int .u8 a) (.int .u8 b) (.int .i32 n) 26
    have ho4 := (ho3.below hb4).below (new_alloc w4 (.cells #[.int .u8 o, .int .u8 a, .int .u8 b, .int .i32 n] 26))
    have hI4 := (hI3.below hb4).below (new_alloc w4 (.cells #[.int .u8 o, .int .u8 a, .int .u8 b, .int .i32 n] 26))
    have hbw4 := below_alloc (below_step hbw3 hb4) (.cells #[.int .u8 o, .int .u8 a, .int .u8 b, .int .i32 n] 26)
    clear ho3 hI3 hb4 hbw3 hrow3
    have cz := ho4.cell 0 (by rw [HLE.out]; omega)
    rw [HF.out] at cz
    obtain ⟨i0, i1, i2, i3⟩ := hI4
    obtain ⟨j0, j1, j2, j3⟩ := hJ
    have hL0 : ((L : Int) == 0) = false := by simp; omega
    go_wp2_with fail
    refine (hlen _).mono ?_
    rintro e w5 ⟨rfl, hb5⟩
    have hbw := below_step hbw4 hb5
    clear hb5 hbw4 i0 i1 i2 i3 j0 j1 j2 j3 cz ho4 hlen HD HBE HTS HTL
    go_wp2_with fail
    refine (copy_any p k cp zs _ HZ.out (by omega) (HZR.out.below hbw)).mono ?_
    rintro e w2 ⟨v, rfl, hov, hb2⟩
    have hbw2 := below_step hbw hb2
    obtain ⟨p2, c2, hv2, hrow2, _⟩ := hov.slice
    rw [HZ.out] at hv2
    rw [hv2]
    clear hbw hb2 hov hv2
    go_wp2_with fail
    refine (decode_any p2 k c2 zs _ HZ.out (by omega) hrow2 HZB.out).mono ?_
    rcases dec_parts HZB.out with ⟨e0, hne, hd⟩ | ⟨o', a', b', n', hd, hl, hR', hE, ha', hb'⟩
    · rw [hd]
      have hne' : (e0 != 0) = true := by simpa using hne
      rintro e w3 ⟨rfl, hb3⟩
      have hbw3 := below_alloc (below_step hbw2 hb3) (.cells #[.int .u8 0, .int .u8 0, .int .u8 0, .int .i32 0] 26)
      clear hbw2 hb3 hrow2 hd hne
      go_wp2_with fail
      refine (awake_any _).mono ?_
      rintro e w4 ⟨rfl, hb4⟩
      go_wp2
      go_ret
      exact ⟨rfl, below_step hbw3 hb4⟩
    · rw [hd]
      rintro e w3 ⟨rfl, hb3⟩
      have hbw3 := below_alloc (below_step hbw2 hb3) (.cells #[.int .u8 o', .int .u8 a', .int .u8 b', .int .i32 n'] 26)
      have hJ := At4.new w3 (.int .u8 o') (.int .u8 a') (.int .u8 b') (.int .i32 n') 26
      have hll : (encL o' a' b' n').length = lenN o' := encL_length o' a' b' n' (rightB_parts hR').1.2
      have hcon := fun w => encode_yes o' a' b' n' w ha' hb' hR'
      have hright := fun w => right_op o' a' b' n' w (rightB_parts hR').1.1 (rightB_parts hR').1.2 ha' hb'
      rw [hR'] at hright
      have hLk : lenN o' ≤ k := by rw [← HZ.out]; exact hl
      have HE : Hid (encL o' a' b' n' = zs.take (lenN o')) := hE
      have HLL : Hid ((encL o' a' b' n').length = lenN o') := hll
      clear hbw2 hb3 hrow2 hd hl hE hll hR'
      generalize encL o' a' b' n' = es at *
      generalize lenN o' = L at *
      go_wp2_with fail
      refine (hcon _).mono ?_
      rintro e w4 ⟨g, cap, rfl, ho4, hb4⟩
      have hJ4 := hJ.below hb4
      have hbw4 := below_step hbw3 hb4
      clear hJ hb4 hbw3 hcon
      have l4 : w3.heap.size < w4.heap.size := cell_lt hJ4.1
      obtain ⟨j0, j1, j2, j3⟩ := hJ4
      go_wp2_with fail
      refine (hright _).mono ?_
      rintro e w5 ⟨rfl, hb5⟩
      have ho5 := ho4.below hb5
      have hbw5 := below_step hbw4 hb5
      clear ho4 hb5 hbw4 hright j0 j1 j2 j3
      have hLc : L ≤ cp := by omega
      go_wp2_with fail
      refine (sameBytes_any _ p L cap L cp es (zs.take L) _ HLL.out (by rw [List.length_take, HZ.out]; omega) (by omega) ho5.row ((HZR.out.below hbw5).takeRow L)).mono ?_
      rw [sameB_yes HE.out]
      rintro e w6 ⟨rfl, k6, hw6⟩
      have hbw6 : Below w.heap.size w w6 := by rw [hw6]; exact below_draws hbw5 k6
      clear hw6 hbw5 ho5
      go_wp2_with fail
      refine (awake_any _).mono ?_
      rintro e w7 ⟨rfl, hb7⟩
      go_wp2
      go_ret
      exact ⟨rfl, below_step hbw6 hb7⟩

theorem lawBack_any (o a b n : Int) (q p : Option Addr) (m d k cp : Nat) (ys zs : List Int) (w : World) (ho : 0 ≤ o ∧ o ≤ 255) (ha : 0 ≤ a ∧ a ≤ 255) (hb : 0 ≤ b ∧ b ≤ 255) (hn : -2147483648 ≤ n ∧ n ≤ 2147483647)
    (hm : m ≤ 140737488351232) (hy : ys.length = m) (hyr : Row w q ys) (hyb : Byt ys) (hqn : q = none → m = 0 ∧ d = 0)
    (hk : k ≤ 140737488351232) (hz : zs.length = k) (hzr : Row w p zs) (hzb : Byt zs) (hkc : k ≤ cp) :
    Calls Try.prog 6 #[ins o a b n, .slice q m d, .slice p k cp] w fun e w' => e = .returned (.bool true) ∧ Below w.heap.size w w' := by
  obtain ⟨o, rfl⟩ := Int.eq_ofNat_of_zero_le ho.1
  exact lawBack_gen o a b n q p m d k cp ys zs w (by omega) ha hb hn hm hy hyr hyb hqn hk hz hzr hzb hkc
end Go.Proofs.Ytkbpdnckbgnfnaa
