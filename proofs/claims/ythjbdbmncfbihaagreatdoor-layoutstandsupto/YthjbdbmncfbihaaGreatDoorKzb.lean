/- Texts put together: RefQ. -/
import Derived.Test.YthjbdbmncfbihaaGreatDoorKza
import Derived.Test.YthjbdbmncfbihaaGreatDoorKo

/- switchyardref04.Check answers what source.Check does. -/
namespace Go.Proofs.YthjbdbmncfbihaaGreatDoor
open Go.RowKit

set_option maxRecDepth 20000 in
set_option maxHeartbeats 1000000 in
theorem refCheck_any (p : Option Addr) (n c : Nat) (xs : List Src) (w : World) (hn : xs.length = n) (hn63 : n ≤ 9223372036854775807) (hx : Items w p xs) :
    Calls Tryz.prog 31 #[.slice p n c] w fun E w' => E = .returned (.tuple #[.int .i64 (checkL xs).1, .int .i64 (checkL xs).2]) ∧ Below w.heap.size w w' := by
  by_cases hbig : 4096 < n
  · have HC : Hid (checkL xs = (3, 0)) := by
      have : checkL xs = (3, 0) := by unfold checkL; rw [if_pos (by omega)]
      exact this
    generalize checkL xs = r at *
    obtain rfl := HC.out
    go_enter Tryz.func31, Tryz.ntmps31
    go_wp2
    go_ret2
    exact ⟨rfl, below_self _⟩
  · obtain ⟨r, hr⟩ : ∃ r, r = checkL xs := ⟨_, rfl⟩
    have HC : Hid (r = chkAt 0 xs) := by
      have : r = chkAt 0 xs := by rw [hr]; unfold checkL; rw [if_neg (by omega)]
      exact this
    rw [← hr]
    clear hr
    have HX := Hid.in hx
    have HN := Hid.in hn
    clear hx hn
    go_enter Tryz.func31, Tryz.ntmps31
    go_wp2
    go_loopw [4] (fun i wr => ∃ k : Nat, k ≤ n ∧ i = .int .i64 k ∧ chkAt 0 xs = chkAt k (xs.drop k) ∧ Below w.heap.size w wr) (fun i _ => n - (intOf i).toNat)
    case atStart => exact ⟨0, Nat.zero_le _, rfl, rfl, below_self _⟩
    case round =>
      obtain ⟨k, hk, rfl, hch, hb⟩ := hrel
      have HCH := Hid.in hch
      have HB := Hid.in hb
      clear hch hb
      by_cases hlt : k < n
      · have hlt' : k < xs.length := by rw [HN.out]; exact hlt
        obtain ⟨b, o, hp, hc⟩ := HX.out.below HB.out (by omega)
        subst hp
        obtain ⟨q, e, hR, hrow, hfit⟩ := hc k hlt'
        have HST := Hid.in (chk_step xs k hlt')
        have hM := fun (mb : Bool) (hmb : mb = true ↔ MayP (xs[k]'hlt')) => refMay_any (xs[k]'hlt') hfit q (xs[k]'hlt').d.length e wr rfl hrow mb hmb
        have HIT := Hid.in hc
        have HR := Hid.in hR
        clear hc hR hrow hfit
        generalize xs[k] = x at *
        cases hmb : mayB x with
        | false =>
          have hM1 := hM false (by rw [← hmb]; exact mayB_iff x)
          have HRR : Hid (r = (2, k)) := by
            have : r = _ := HC.out
            rw [this, HCH.out, HST.out, if_pos hmb]; exact rfl
          clear hM hmb
          go_wp2_with (first
            | (refine step_load_at HR.out rfl 28 (.tmp 16) rfl rfl _ Tryz.underlying28 rfl Tryz.sz28 ?_)
            | (go_at_call 26; refine hM1.mono ?_; rintro E w5 ⟨rfl, hb5⟩))
          obtain rfl := HRR.out
          go_ret2
          exact ⟨rfl, below_step HB.out hb5⟩
        | true =>
          have hM1 := hM true ⟨fun _ => (mayB_iff x).1 hmb, fun _ => rfl⟩
          have HCK : Hid (wr.cell? ⟨b, o + k * 9, none⟩ = some (.int .u8 x.k)) := HR.out 0 _ rfl
          clear hM
          have hmb' : ¬ mayB x = false := by rw [hmb]; simp
          by_cases hk3 : x.k = 3
          · have hwr := wrapK k (by omega)
            have htn : ((k : Int) + 1).toNat = k + 1 := by omega
            have hk0 : (0 : Int) ≤ (k : Int) + 1 := by omega
            rw [hk3] at HCK
            by_cases hk1 : k + 1 < n
            · have hlt1 : k + 1 < xs.length := by rw [HN.out]; exact hk1
              obtain ⟨q1, e1, hR1, -, -⟩ := HIT.out (k + 1) hlt1
              have htk : takesB (xs.drop (k + 1)) = (decide ((xs[k + 1]'hlt1).k = 3) || (decide ((xs[k + 1]'hlt1).k = 2) && decide ((xs[k + 1]'hlt1).o = 3))) := by
                rw [List.drop_eq_getElem_cons hlt1]; rfl
              have HC1 : Hid (wr.cell? ⟨b, o + (k + 1) * 9, none⟩ = some (.int .u8 (xs[k + 1]'hlt1).k)) := hR1 0 _ rfl
              have HC4 : Hid (wr.cell? ⟨b, o + (k + 1) * 9 + 3, none⟩ = some (.int .u8 (xs[k + 1]'hlt1).o)) := hR1 3 _ rfl
              clear hR1
              have hkn1 : (k : Int) + 1 < (n : Int) := by omega
              generalize (xs[k + 1]'hlt1).k = k1 at *
              generalize (xs[k + 1]'hlt1).o = o1 at *
              by_cases j3 : k1 = 3
              · have htb : takesB (xs.drop (k + 1)) = true := by rw [htk]; simp [j3]
                subst j3
                clear htk
                have HNX : Hid (chkAt 0 xs = chkAt (k + 1) (xs.drop (k + 1))) := by
                  have : chkAt 0 xs = _ := HCH.out
                  rw [this, HST.out, if_neg hmb', if_neg (by rw [htb]; simp)]; exact rfl
                clear hmb htb hmb'
                go_wp2_with (first
                  | (refine step_load_at HR.out rfl 28 (.tmp 16) rfl rfl _ Tryz.underlying28 rfl Tryz.sz28 ?_)
                  | (go_at_call 26; refine hM1.mono ?_; rintro E w5 ⟨rfl, hb5⟩; have hck := (hb5.cell (p := ⟨b, o + k * 9, none⟩) (cell_lt HCK.out)).trans HCK.out; have hc1 := (hb5.cell (p := ⟨b, o + (k + 1) * 9, none⟩) (cell_lt HC1.out)).trans HC1.out; have hc4 := (hb5.cell (p := ⟨b, o + (k + 1) * 9 + 3, none⟩) (cell_lt HC4.out)).trans HC4.out; have HB5 := Hid.in hb5; clear hb5))
                go_roundw
                case rel => exact ⟨k + 1, by omega, by go_num, HNX.out, below_step HB.out HB5.out⟩
                case measure => simp [intOf]; omega
              · by_cases j2 : k1 = 2
                · subst j2
                  by_cases p3 : o1 = 3
                  · subst p3
                    have htb : takesB (xs.drop (k + 1)) = true := by rw [htk]; rfl
                    clear htk
                    have HNX : Hid (chkAt 0 xs = chkAt (k + 1) (xs.drop (k + 1))) := by
                      have : chkAt 0 xs = _ := HCH.out
                      rw [this, HST.out, if_neg hmb', if_neg (by rw [htb]; simp)]; exact rfl
                    clear hmb htb hmb'
                    go_wp2_with (first
                      | (refine step_load_at HR.out rfl 28 (.tmp 16) rfl rfl _ Tryz.underlying28 rfl Tryz.sz28 ?_)
                      | (go_at_call 26; refine hM1.mono ?_; rintro E w5 ⟨rfl, hb5⟩; have hck := (hb5.cell (p := ⟨b, o + k * 9, none⟩) (cell_lt HCK.out)).trans HCK.out; have hc1 := (hb5.cell (p := ⟨b, o + (k + 1) * 9, none⟩) (cell_lt HC1.out)).trans HC1.out; have hc4 := (hb5.cell (p := ⟨b, o + (k + 1) * 9 + 3, none⟩) (cell_lt HC4.out)).trans HC4.out; have HB5 := Hid.in hb5; clear hb5))
                    go_roundw
                    case rel => exact ⟨k + 1, by omega, by go_num, HNX.out, below_step HB.out HB5.out⟩
                    case measure => simp [intOf]; omega
                  · have htb : takesB (xs.drop (k + 1)) = false := by rw [htk]; simp [p3]
                    have p3b : (o1 != 3) = true := by simp [p3]
                    clear htk p3
                    have HRR : Hid (r = (182, k)) := by
                      have : r = _ := HC.out
                      rw [this, HCH.out, HST.out, if_neg hmb', if_pos ⟨hk3, htb⟩]; exact rfl
                    clear hmb htb hmb'
                    go_wp2_with (first
                      | (refine step_load_at HR.out rfl 28 (.tmp 16) rfl rfl _ Tryz.underlying28 rfl Tryz.sz28 ?_)
                      | (go_at_call 26; refine hM1.mono ?_; rintro E w5 ⟨rfl, hb5⟩; have hck := (hb5.cell (p := ⟨b, o + k * 9, none⟩) (cell_lt HCK.out)).trans HCK.out; have hc1 := (hb5.cell (p := ⟨b, o + (k + 1) * 9, none⟩) (cell_lt HC1.out)).trans HC1.out; have hc4 := (hb5.cell (p := ⟨b, o + (k + 1) * 9 + 3, none⟩) (cell_lt HC4.out)).trans HC4.out; have HB5 := Hid.in hb5; clear hb5))
                    obtain rfl := HRR.out
                    go_ret2
                    exact ⟨rfl, below_step HB.out HB5.out⟩
                · have htb : takesB (xs.drop (k + 1)) = false := by rw [htk]; simp [j2, j3]
                  have j2b : (k1 != 2) = true := by simp [j2]
                  have j3b : (k1 != 3) = true := by simp [j3]
                  clear htk j2 j3
                  have HRR : Hid (r = (182, k)) := by
                    have : r = _ := HC.out
                    rw [this, HCH.out, HST.out, if_neg hmb', if_pos ⟨hk3, htb⟩]; exact rfl
                  clear hmb htb hmb'
                  go_wp2_with (first
                    | (refine step_load_at HR.out rfl 28 (.tmp 16) rfl rfl _ Tryz.underlying28 rfl Tryz.sz28 ?_)
                    | (go_at_call 26; refine hM1.mono ?_; rintro E w5 ⟨rfl, hb5⟩; have hck := (hb5.cell (p := ⟨b, o + k * 9, none⟩) (cell_lt HCK.out)).trans HCK.out; have hc1 := (hb5.cell (p := ⟨b, o + (k + 1) * 9, none⟩) (cell_lt HC1.out)).trans HC1.out; have hc4 := (hb5.cell (p := ⟨b, o + (k + 1) * 9 + 3, none⟩) (cell_lt HC4.out)).trans HC4.out; have HB5 := Hid.in hb5; clear hb5))
                  obtain rfl := HRR.out
                  go_ret2
                  exact ⟨rfl, below_step HB.out HB5.out⟩
            · have htb : takesB (xs.drop (k + 1)) = false := by
                rw [List.drop_eq_nil_of_le (by rw [HN.out]; omega)]; rfl
              have hkn1 : ¬ (k : Int) + 1 < (n : Int) := by omega
              have HRR : Hid (r = (182, k)) := by
                have : r = _ := HC.out
                rw [this, HCH.out, HST.out, if_neg hmb', if_pos ⟨hk3, htb⟩]; exact rfl
              clear hmb htb hmb'
              go_wp2_with (first
                | (refine step_load_at HR.out rfl 28 (.tmp 16) rfl rfl _ Tryz.underlying28 rfl Tryz.sz28 ?_)
                | (go_at_call 26; refine hM1.mono ?_; rintro E w5 ⟨rfl, hb5⟩; have hck := (hb5.cell (p := ⟨b, o + k * 9, none⟩) (cell_lt HCK.out)).trans HCK.out;  have HB5 := Hid.in hb5; clear hb5))
              obtain rfl := HRR.out
              go_ret2
              exact ⟨rfl, below_step HB.out HB5.out⟩
          · have HNX : Hid (chkAt 0 xs = chkAt (k + 1) (xs.drop (k + 1))) := by
              have : chkAt 0 xs = _ := HCH.out
              rw [this, HST.out, if_neg hmb', if_neg (fun h => hk3 h.1)]; exact rfl
            clear hmb hmb'
            go_wp2_with (first
              | (refine step_load_at HR.out rfl 28 (.tmp 16) rfl rfl _ Tryz.underlying28 rfl Tryz.sz28 ?_)
              | (go_at_call 26; refine hM1.mono ?_; rintro E w5 ⟨rfl, hb5⟩; have hck := (hb5.cell (p := ⟨b, o + k * 9, none⟩) (cell_lt HCK.out)).trans HCK.out; have HB5 := Hid.in hb5; clear hb5))
            go_roundw
            case rel => exact ⟨k + 1, by omega, by go_num, HNX.out, below_step HB.out HB5.out⟩
            case measure => simp [intOf]; omega
      · have HRR : Hid (r = (0, 0)) := by
          have : r = _ := HC.out
          rw [this, HCH.out, show xs.drop k = [] from List.drop_eq_nil_of_le (by rw [HN.out]; omega)]; exact rfl
        go_wp2
        obtain rfl := HRR.out
        go_ret2
        exact ⟨rfl, HB.out⟩

end Go.Proofs.YthjbdbmncfbihaaGreatDoor
