/- MemoryKeeps: what is written is read, and nothing else changes. -/
import Derived.Test.YtammbaamkechhaaAwk
namespace Go.Proofs.Ytammbaamkechhaa
open Go.RowKit

set_option maxRecDepth 4000 in
set_option maxHeartbeats 2000000 in
theorem keeps_big (p r : Option Addr) (n c m d : Nat) (a : Int) (w : World) (hn : n ≤ 9223372036854775807) (hm : m ≤ 9223372036854775807) (h : 2000 < n ∨ 2000 < m) :
    Calls Try.prog 6 #[.slice p n c, .slice r m d, .int .i64 a] w fun e w' => e = .returned (.bool true) ∧ Below w.heap.size w w' := by
  by_cases h1 : 2000 < n
  · go_enter Try.func6, Try.ntmps6
    go_wp2_with (go_at_call 14; refine (awake_any _).mono ?_; rintro e w1 ⟨rfl, hb⟩; have HB1 := Hid.in hb; clear hb)
    go_ret
    exact ⟨rfl, HB1.out⟩
  · have h2 : 2000 < m := by omega
    go_enter Try.func6, Try.ntmps6
    go_wp2_with (go_at_call 14; refine (awake_any _).mono ?_; rintro e w1 ⟨rfl, hb⟩; have HB1 := Hid.in hb; clear hb)
    go_ret
    exact ⟨rfl, HB1.out⟩

set_option maxRecDepth 4000 in
set_option maxHeartbeats 2000000 in
theorem keeps_out (p r : Option Addr) (c d : Nat) (a : Int) (xs ys : List Int) (w : World) (h1 : xs.length ≤ 2000) (h2 : ys.length ≤ 2000) (hr : Row w p xs) (ho : ¬ (0 ≤ a ∧ a ≤ (xs.length : Int) - ys.length)) :
    Calls Try.prog 6 #[.slice p xs.length c, .slice r ys.length d, .int .i64 a] w fun e w' => e = .returned (.bool true) ∧ Below w.heap.size w w' := by
  have HR : Hid (∀ W, Below w.heap.size w W → Row W p xs) := fun W hW => hr.below hW
  have HO := Hid.in ho
  clear ho
  go_enter Try.func6, Try.ntmps6
  go_wp2_with (first
    | (go_at_call 7; refine (new_ok p xs.length c xs w rfl (by omega) hr).mono ?_; rintro e w1 ⟨q, g, rfl, hm, hb⟩; have HM := Hid.in hm; have HB1 := Hid.in hb; clear hm hb hr)
    | (go_at_call 19; refine (mcopy_any q g _ xs w1 HM.out (by omega)).mono ?_; rintro e w2 ⟨q2, g2, rfl, hm, hb⟩; have HM2 := Hid.in hm; have HM1 := Hid.in (HM.out.below hb); have HB2 := Hid.in (below_step HB1.out hb); clear hm hb HM HB1)
    | (go_at_call 11; refine (write_out q g _ ys.length d r a xs _ HM1.out (by omega) HO.out).mono ?_; rintro e w3 ⟨rfl, rfl⟩)
    | (go_at_call 13; first
      | (refine (bytes_any q g _ xs _ HM1.out (by omega)).mono ?_; rintro e w4 ⟨k4, rfl, ho4, hb⟩; have HO4 := Hid.in ho4; have HM4 := Hid.in (HM2.out.below hb); have HB4 := Hid.in (below_step HB2.out hb); clear ho4 hb HM1 HM2)
      | (refine (bytes_any q2 g2 _ xs _ HM4.out (by omega)).mono ?_; rintro e w5 ⟨k5, rfl, ho5, hb⟩; have HO5 := Hid.in ho5; have HO45 := Hid.in (HO4.out.below hb); have HB5 := Hid.in (below_step HB4.out hb); have hr5 := HR.out _ HB5.out; clear ho5 hb HM4 HO4))
    | (go_at_call 12; first
      | (refine (sameBytes_any _ _ xs.length _ xs.length _ xs xs _ rfl rfl (by omega) HO5.out.row hr5).mono ?_; rw [sameB_self]; rintro e w6 ⟨rfl, m6, hw6⟩; have HO6 : Hid (Own w6 _ k4 xs.length xs) := (by rw [hw6]; exact HO45.out.drewN _); have hr6 : Row w6 p xs := (by rw [hw6]; exact hr5.drewN _); have HB6 : Hid (Below w.heap.size w w6) := (by rw [hw6]; exact below_draws HB5.out _); clear hw6 HO5)
      | (refine (sameBytes_any _ _ xs.length _ xs.length _ xs xs _ rfl rfl (by omega) HO6.out.row hr6).mono ?_; rw [sameB_self]; rintro e w7 ⟨rfl, m7, hw7⟩; have HB7 : Hid (Below w.heap.size w w7) := (by rw [hw7]; exact below_draws HB6.out _); clear hw7 HO6))
    | (go_at_call 14; refine (awake_any _).mono ?_; rintro e w8 ⟨rfl, hb⟩; have HB8 := Hid.in (below_step HB7.out hb); clear hb))
  go_ret
  exact ⟨rfl, HB8.out⟩

theorem putA_read (xs ys : List Int) (a : Nat) (h : a + ys.length ≤ xs.length) : ((putA xs a ys).drop a).take ys.length = ys := by
  have e : (xs.take a).length = a := by rw [List.length_take]; omega
  unfold putA
  rw [List.drop_append, e, List.drop_eq_nil_of_le (by omega), Nat.sub_self, List.nil_append, List.drop_zero, List.take_append_of_le_length (by omega), List.take_of_length_le (by omega)]

theorem putA_else (xs ys : List Int) (a i : Nat) (h : a + ys.length ≤ xs.length) (hi : i < a ∨ a + ys.length ≤ i) : (putA xs a ys).getD i 0 = xs.getD i 0 := by
  have e : (xs.take a).length = a := by rw [List.length_take]; omega
  unfold putA
  rcases hi with hi | hi
  · simp [List.getD, List.getElem?_append_left (show i < (xs.take a).length by omega), hi]
  · have e2 : (xs.take a ++ (ys ++ xs.drop (a + ys.length)))[i]? = xs[i]? := by
      rw [List.getElem?_append_right (by omega), e, List.getElem?_append_right (by omega), List.getElem?_drop]
      congr 1
      omega
    simp [List.getD, e2]

set_option maxRecDepth 4000 in
set_option maxHeartbeats 4000000 in
theorem keeps_in (p r : Option Addr) (c d a : Nat) (xs ys : List Int) (w : World) (h1 : xs.length ≤ 2000) (h2 : ys.length ≤ 2000) (hr : Row w p xs) (hs : Row w r ys) (hfit : a + ys.length ≤ xs.length) :
    Calls Try.prog 6 #[.slice p xs.length c, .slice r ys.length d, .int .i64 a] w fun e w' => e = .returned (.bool true) ∧ Below w.heap.size w w' := by
  have HR : Hid (∀ W, Below w.heap.size w W → Row W p xs) := fun W hW => hr.below hW
  have HS : Hid (∀ W, Below w.heap.size w W → Row W r ys) := fun W hW => hs.below hW
  obtain ⟨zs, hzs⟩ : ∃ zs, zs = putA xs a ys := ⟨_, rfl⟩
  have hzl : zs.length = xs.length := by rw [hzs]; exact putA_len hfit
  have HRD : Hid ((zs.drop a).take ys.length = ys) := by rw [hzs]; exact putA_read xs ys a hfit
  have HEL : Hid (∀ i, i < a ∨ a + ys.length ≤ i → zs.getD i 0 = xs.getD i 0) := by rw [hzs]; exact fun i hi => putA_else xs ys a i hfit hi
  have HZS := Hid.in hzs
  have HZL := Hid.in hzl
  clear hzs hzl
  go_enter Try.func6, Try.ntmps6
  go_wp2_with (first
    | (go_at_call 7; refine (new_ok p xs.length c xs w rfl (by omega) hr).mono ?_; rintro e w1 ⟨q, g, rfl, hm, hb⟩; have HM := Hid.in hm; have HB1 := Hid.in hb; have HG := Hid.in hm.own.base; clear hm hb hr)
    | (go_at_call 19; refine (mcopy_any q g _ xs w1 HM.out (by omega)).mono ?_; rintro e w2 ⟨q2, g2, rfl, hm, hb⟩; have HM2 := Hid.in hm; have HQ2 := Hid.in (Nat.lt_of_lt_of_le HM.out.own.lt hm.base); have HG2 := Hid.in (Nat.lt_of_lt_of_le HM.out.own.lt hm.own.base); have HM1 := Hid.in (HM.out.below hb); have HB2 := Hid.in (below_step HB1.out hb); have hs2 := HS.out _ HB2.out; clear hm hb HM HB1 hs)
    | (go_at_call 11; refine (write_ok q g _ a d r xs ys w2 HM1.out hs2 hfit (by omega)).mono ?_; rintro e w3 ⟨rfl, hm, hk⟩; rw [← HZS.out] at hm; have HM3 := Hid.in hm; have HN3 := Hid.in (HM2.out.keeps hk (fun e => Nat.lt_irrefl g (e ▸ HQ2.out)) (fun e => Nat.lt_irrefl g (e ▸ HG2.out))); have HB3 := Hid.in (HB2.out.trans (hk.below HB2.out.size (fun j hj => by subst hj; exact HG.out))); clear hm hk HM1 HM2 HB2 hs2 HG)
    | (go_at_call 13; first
      | (refine (bytes_any q g _ zs w3 HM3.out (by rw [HZL.out]; omega)).mono ?_; rw [HZL.out]; rintro e w4 ⟨k4, rfl, ho4, hb⟩; have HO4 := Hid.in ho4; have HN4 := Hid.in (HN3.out.below hb); have HM4 := Hid.in (HM3.out.below hb); have HB4 := Hid.in (below_step HB3.out hb); clear ho4 hb HM3 HN3)
      | (refine (bytes_any q2 g2 _ xs _ HN4.out (by omega)).mono ?_; rintro e w5 ⟨k5, rfl, ho5, hb⟩; have HO5 := Hid.in ho5; have HO45 := Hid.in (HO4.out.below hb); have HM5 := Hid.in (HM4.out.below hb); have HB5 := Hid.in (below_step HB4.out hb); have hr5 := HR.out _ HB5.out; clear ho5 hb HM4 HO4 HN4))
    | (go_at_call 12; first
      | (refine (sameBytes_any _ _ xs.length _ xs.length _ xs xs _ rfl rfl (by omega) HO5.out.row hr5).mono ?_; rw [sameB_self]; rintro e w6 ⟨rfl, m6, hw6⟩; have HO6 : Hid (Own w6 _ k4 xs.length zs) := (by rw [hw6]; exact HO45.out.drewN _); have HM6 : Hid (Mem w6 _ q g zs) := (by rw [hw6]; exact HM5.out.drewN _); have HB6 : Hid (Below w.heap.size w w6) := (by rw [hw6]; exact below_draws HB5.out _); clear hw6 HO5 HM5)
      | (refine (sameBytes_any _ _ ys.length _ ys.length _ ys ys _ rfl rfl (by omega) HO7.out.row hs7).mono ?_; rw [sameB_self]; rintro e w8 ⟨rfl, m8, hw8⟩; have HO8 : Hid (Own w8 _ k4 xs.length zs) := (by rw [hw8]; exact HO67.out.drewN _); have HM8 : Hid (Mem w8 _ q g zs) := (by rw [hw8]; exact HM7.out.drewN _); have HB8 : Hid (Below w.heap.size w w8) := (by rw [hw8]; exact below_draws HB7.out _); clear hw8 HO67 HM7 HO7))
    | (go_at_call 9; refine (read_ok q g _ a ys.length zs w6 HM6.out (by rw [HZL.out]; exact hfit) (by rw [HZL.out]; omega)).mono ?_; rintro e w7 ⟨k7, rfl, ho7, hb⟩; rw [HRD.out] at ho7; have HO7 := Hid.in ho7; have HO67 := Hid.in (HO6.out.below hb); have HM7 := Hid.in (HM6.out.below hb); have HB7 := Hid.in (below_step HB6.out hb); have hs7 := HS.out _ HB7.out; clear ho7 hb HM6 HO6))
  have hr8 := HR.out _ HB8.out
  clear HR HS HRD HZS hs7 hr5 HB3 HB4 HB5 HB6 HB7
  go_loopw [14] (fun i wr => ∃ k m : Nat, k ≤ xs.length ∧ i = .int .i64 k ∧ wr = w8.drewN m) (fun i _ => xs.length - (intOf i).toNat)
  case atStart => exact ⟨0, 0, Nat.zero_le _, rfl, rfl⟩
  case round =>
    obtain ⟨k, m, hk, rfl, rfl⟩ := hrel
    by_cases hlt : k < xs.length
    · obtain ⟨b0, o0, rfl, hc⟩ := hr8 (by omega)
      have c1 := hc k hlt
      clear hc
      have c2 := HO8.out.cell k (by rw [HZL.out]; exact hlt)
      by_cases hA : k < a
      · rw [HEL.out k (.inl hA)] at c2
        generalize xs.getD k 0 = z at *
        have g1 : decide (k < a) = true := by simpa using hA
        have g2 : (z != z) = false := by simp
        go_wp2
        go_quiet (fail)
        go_wp2
        go_roundw
        case rel => exact ⟨k + 1, _, by omega, by go_num, rfl⟩
        case measure => simp [intOf]; omega
      · have hwr : IntKind.i64.wrap ((k : Int) - (a : Int)) = ((k - a : Nat) : Int) := by rw [IntKind.wrap_i64]; omega
        have g1 : decide (k < a) = false := by simpa using hA
        by_cases hB : ys.length ≤ k - a
        · rw [HEL.out k (.inr (by omega))] at c2
          generalize xs.getD k 0 = z at *
          have g2 : decide (ys.length ≤ k - a) = true := by simpa using hB
          have g3 : (z != z) = false := by simp
          go_wp2
          go_quiet (fail)
          go_wp2
          go_roundw
          case rel => exact ⟨k + 1, _, by omega, by go_num, rfl⟩
          case measure => simp [intOf]; omega
        · have g2 : decide (ys.length ≤ k - a) = false := by simpa using hB
          go_wp2
          go_quiet (fail)
          go_wp2
          go_roundw
          case rel => exact ⟨k + 1, _, by omega, by go_num, rfl⟩
          case measure => simp [intOf]; omega
    · have HM9 := Hid.in (HM8.out.drewN m)
      have HO9 := Hid.in (HO8.out.drewN m)
      have HB9 := Hid.in (below_draws HB8.out m)
      clear HM8 HO8 HB8 hr8 HEL
      generalize w8.drewN m = w9 at *
      go_wp2
      go_loopw [15] (fun i wr => ∃ k : Nat, 4 * k ≤ xs.length + 11 ∧ i = .int .i64 k ∧ Below w9.heap.size w9 wr) (fun i _ => 1000 - (intOf i).toNat)
      case atStart => exact ⟨0, by omega, rfl, below_self _⟩
      case round =>
        obtain ⟨k, hk, rfl, hbr⟩ := hrel
        have HBr := Hid.in hbr
        clear hbr
        by_cases hlt : 4 * k < xs.length + 8
        · have HMr := Hid.in (HM9.out.below HBr.out)
          have HOr := Hid.in (HO9.out.below HBr.out)
          have hgr := gran_any q g _ k zs wr HMr.out (by omega)
          rw [granV, fourV] at hgr
          obtain ⟨z0, E0⟩ : ∃ z, zs.getD (4 * k) 0 = z := ⟨_, rfl⟩
          obtain ⟨z1, E1⟩ : ∃ z, zs.getD (4 * k + 1) 0 = z := ⟨_, rfl⟩
          obtain ⟨z2, E2⟩ : ∃ z, zs.getD (4 * k + 2) 0 = z := ⟨_, rfl⟩
          obtain ⟨z3, E3⟩ : ∃ z, zs.getD (4 * k + 3) 0 = z := ⟨_, rfl⟩
          rw [E0, E1, E2, E3] at hgr
          have HE : Hid (∀ w10 : World, ∀ j, j < 4 → (w10.alloc (.cells #[.int .u8 z0, .int .u8 z1, .int .u8 z2, .int .u8 z3] 32)).cell? ⟨w10.heap.size, j, none⟩ = some (.int .u8 (zs.getD (4 * k + j) 0))) := by
            intro w10 j hj
            rw [cell_of_row _ _ j _ 32 (0, 0) (heap_alloc_new w10 _)]
            rcases (by omega : j = 0 ∨ j = 1 ∨ j = 2 ∨ j = 3) with rfl | rfl | rfl | rfl
            · rw [Nat.add_zero, E0]; rfl
            · rw [E1]; rfl
            · rw [E2]; rfl
            · rw [E3]; rfl
          clear E0 E1 E2 E3
          go_wp2_with (go_at_call 10; refine hgr.mono ?_; rintro e w10 ⟨rfl, hb⟩; have HB10 := Hid.in hb; have HO10 := Hid.in (HOr.out.below hb); clear hb HMr HOr hgr)
          have HCv := Hid.in (HE.out w10)
          have HB11 := Hid.in (below_alloc (below_step HBr.out HB10.out) (.cells #[.int .u8 z0, .int .u8 z1, .int .u8 z2, .int .u8 z3] 32))
          have HO11 := Hid.in (HO10.out.below (new_alloc _ (.cells #[.int .u8 z0, .int .u8 z1, .int .u8 z2, .int .u8 z3] 32)))
          clear HE HBr HB10 HO10
          generalize w10.alloc (.cells #[.int .u8 z0, .int .u8 z1, .int .u8 z2, .int .u8 z3] 32) = w11 at *
          go_loopw [18] (fun i wr => ∃ j : Nat, j ≤ 4 ∧ i = .int .i64 j ∧ wr = w11) (fun i _ => 4 - (intOf i).toNat)
          case atStart => exact ⟨0, by omega, rfl, rfl⟩
          case round =>
            obtain ⟨j, hj, rfl, rfl⟩ := hrel
            by_cases hj4 : j < 4
            · have c1 := HCv.out j hj4
              by_cases hin : 4 * k + j < xs.length
              · have c2 := HO11.out.cell (4 * k + j) (by rw [HZL.out]; exact hin)
                generalize zs.getD (4 * k + j) 0 = z at *
                have hwr : IntKind.i64.wrap (4 * (k : Int)) = ((4 * k : Nat) : Int) := by rw [IntKind.wrap_i64]; omega
                go_wp2
                go_roundw
                case rel => exact ⟨j + 1, by omega, by go_num, trivial⟩
                case measure => simp [intOf]; omega
              · have e0 : zs.getD (4 * k + j) 0 = 0 := by simp [List.getD, List.getElem?_eq_none (show zs.length ≤ 4 * k + j by rw [HZL.out]; omega)]
                rw [e0] at c1
                clear e0
                go_wp2
                go_roundw
                case rel => exact ⟨j + 1, by omega, by go_num, trivial⟩
                case measure => simp [intOf]; omega
            · go_wp2
              go_roundw
              case rel => exact ⟨k + 1, by omega, by go_num, HB11.out⟩
              case measure => simp [intOf]; omega
        · go_wp2_with (go_at_call 14; refine (awake_any wr).mono ?_; rintro e w10 ⟨rfl, hb⟩; have HB10 := Hid.in hb; clear hb)
          go_ret
          exact ⟨rfl, HB9.out.trans ((below_step HBr.out HB10.out).mono HB9.out.size)⟩

theorem keeps_walk (p r : Option Addr) (n c m d : Nat) (a : Int) (xs ys : List Int) (w : World) (hx : xs.length = n) (hy : ys.length = m) (hn : n ≤ 9223372036854775807) (hm : m ≤ 9223372036854775807) (hr : Row w p xs) (hs : Row w r ys) :
    Calls Try.prog 6 #[.slice p n c, .slice r m d, .int .i64 a] w fun e w' => e = .returned (.bool true) ∧ Below w.heap.size w w' := by
  by_cases h : 2000 < n ∨ 2000 < m
  · exact keeps_big p r n c m d a w hn hm h
  · subst hx hy
    by_cases ho : 0 ≤ a ∧ a ≤ (xs.length : Int) - ys.length
    · obtain ⟨k, rfl⟩ := Int.eq_ofNat_of_zero_le ho.1
      exact keeps_in p r c d k xs ys w (by omega) (by omega) hr hs (by omega)
    · exact keeps_out p r c d a xs ys w (by omega) (by omega) hr ho

end Go.Proofs.Ytammbaamkechhaa
