/- CacheOld: what is held is what memory had; what is not held is what it has. -/
import Derived.Test.YtndgcfbndlahbaaAwk
import Derived.Test.YtndgcfbndlahbaaPick
import Derived.Test.YtndgcfbndlahbaaRefN
import Derived.Deep.DeepCutAuto
import Derived.BigQuiet
import Derived.Lib.Hide
namespace Go.Proofs.Ytndgcfbndlahbaa
open Go.RowKit Go.Maps Go.WideMaps

theorem takL_len_nil (k : Int) (f : F4) : (takL k f []).length ≤ 1048576 := by simp [takL]
theorem byt_putA {xs ys : List Int} {a : Nat} (h : a + ys.length ≤ xs.length) (hx : Byt xs) (hy : Byt ys) : Byt (putA xs a ys) := fun i => by
  by_cases h1 : a ≤ i ∧ i - a < ys.length
  · rw [putA_get xs ys a i h h1.1 h1.2]; exact hy _
  · rw [putA_not xs ys a i h (by omega)]; exact hx _
/-- Write, whether it is refused or not -/
theorem write_some (q g B a c : Nat) (p : Option Addr) (xs ys : List Int) (w : World) (hm : Mem w B q g xs) (hr : Row w p ys) (hl : xs.length ≤ 65536) (hy : ys.length ≤ 65536) (hbx : Byt xs) (hby : Byt ys) :
    Calls Try.prog 12 #[.pointer (some ⟨q, 0, none⟩), .int .i64 a, .slice p ys.length c] w fun e w' => ∃ v zs, e = .returned (.int .i64 v) ∧ zs.length = xs.length ∧ Byt zs ∧ Mem w' B q g zs ∧ Keeps (fun b => b = g) w w' := by
  by_cases h : a + ys.length ≤ xs.length
  · refine (write_ok q g B a c p xs ys w hm hr h hl).mono ?_
    rintro e w' ⟨rfl, h1, h2⟩
    exact ⟨0, _, rfl, putA_len h, byt_putA h hbx hby, h1, h2⟩
  · refine (write_out q g B ys.length c p a xs w hm (by omega) (by omega)).mono ?_
    rintro e w' ⟨rfl, rfl⟩
    exact ⟨210, xs, rfl, rfl, hbx, hm, Keeps.refl _ _⟩

set_option maxRecDepth 8000 in
set_option maxHeartbeats 1000000 in
theorem old_big (p r : Option Addr) (n c m d : Nat) (kd G at_ : Int) (hold : Bool) (w : World) (hn : n ≤ 9223372036854775807) (h : n = 0 ∨ 4096 < n) :
    Calls Try.prog 4 #[.slice p n c, .agg #[.int .i64 kd, .int .i64 G, .bool hold, .int .i64 at_, .slice r m d]] w fun e w' => e = .returned (.bool true) ∧ Below w.heap.size w w' := by
  have HB0 := Hid.in (new_alloc w (.cells #[.int .i64 kd, .int .i64 G, .bool hold, .int .i64 at_, .slice r m d] 33))
  have HK0 := Hid.in (Blk.new w 33 #[.int .i64 kd, .int .i64 G, .bool hold, .int .i64 at_, .slice r m d])
  go_enter Try.func4, Try.ntmps4
  go_upto_region 1 with fail
  generalize w.alloc (.cells #[.int .i64 kd, .int .i64 G, .bool hold, .int .i64 at_, .slice r m d] 33) = w0 at *
  have k1 : w0.cell? ⟨w.heap.size, 1, none⟩ = some (.int .i64 G) := HK0.out.cell 1
  have k3 : w0.cell? ⟨w.heap.size, 3, none⟩ = some (.int .i64 at_) := HK0.out.cell 3
  have k4 : w0.cell? ⟨w.heap.size, 4, none⟩ = some (.slice r m d) := HK0.out.cell 4
  go_quiet (fail)
  have HB1 := Hid.in (below_draws HB0.out nq)
  clear k1 k3 k4 HB0 HK0
  generalize w0.drewN nq = w1 at *
  rcases h with rfl | h
  · go_wp2_with (go_at_call 18; refine (awake_any w1).mono ?_; rintro e w2 ⟨rfl, hb⟩; have HB2 := Hid.in (below_step HB1.out hb); clear hb)
    go_ret
    exact ⟨rfl, HB2.out⟩
  · have g0 : decide (n = 0) = false := decide_eq_false (by omega)
    have g1 : decide (4096 < n) = true := decide_eq_true h
    go_wp2_with (go_at_call 18; refine (awake_any w1).mono ?_; rintro e w2 ⟨rfl, hb⟩; have HB2 := Hid.in (below_step HB1.out hb); clear hb)
    go_ret
    exact ⟨rfl, HB2.out⟩

set_option maxRecDepth 8000 in
set_option maxHeartbeats 1000000 in
theorem old_walk (p r : Option Addr) (n c m d : Nat) (kd G at_ : Int) (hold : Bool) (xs ys : List Int) (w : World) (hn0 : 0 < n) (hn : n ≤ 4096) (hx : xs.length = n) (hy : ys.length = m) (hm : m ≤ 140737488355328) (hmd : m ≤ d) (hd : d ≤ 9223372036854775807) (hr : Row w p xs) (hs : Row w r ys) (hbx : Byt xs) (hby : Byt ys) :
    Calls Try.prog 4 #[.slice p n c, .agg #[.int .i64 kd, .int .i64 G, .bool hold, .int .i64 at_, .slice r m d]] w fun e w' => e = .returned (.bool true) ∧ Below w.heap.size w w' := by
  have HB0 := Hid.in (new_alloc w (.cells #[.int .i64 kd, .int .i64 G, .bool hold, .int .i64 at_, .slice r m d] 33))
  have HK0 := Hid.in (Blk.new w 33 #[.int .i64 kd, .int .i64 G, .bool hold, .int .i64 at_, .slice r m d])
  have HR : Hid (∀ W, Below w.heap.size w W → Row W p xs) := fun W hW => hr.below hW
  have HS : Hid (∀ W, Below w.heap.size w W → Row W r ys) := fun W hW => hs.below hW
  have HX := Hid.in hx
  have HBX := Hid.in hbx
  have HBY := Hid.in hby
  have HY := Hid.in hy
  clear hr hx hy hbx hby
  go_enter Try.func4, Try.ntmps4
  go_upto_region 1 with fail
  generalize w.alloc (.cells #[.int .i64 kd, .int .i64 G, .bool hold, .int .i64 at_, .slice r m d] 33) = w0 at *
  have k1 : w0.cell? ⟨w.heap.size, 1, none⟩ = some (.int .i64 G) := HK0.out.cell 1
  have k3 : w0.cell? ⟨w.heap.size, 3, none⟩ = some (.int .i64 at_) := HK0.out.cell 3
  have k4 : w0.cell? ⟨w.heap.size, 4, none⟩ = some (.slice r m d) := HK0.out.cell 4
  go_quiet (fail)
  have HB1 := Hid.in (below_draws HB0.out nq)
  clear k1 k3 k4 HB0 HK0
  generalize w0.drewN nq = w1 at *
  have g0 : ((n : Int) == 0) = false := by simp; omega
  have g1 : decide (4096 < n) = false := decide_eq_false (by omega)
  have hgr : 0 < (n + 3) / 4 ∧ (n + 3) / 4 < 16384 := by omega
  have hq4 : IntKind.i64.wrap (((n : Int) + 3).tdiv 4) = (((n + 3) / 4 : Nat) : Int) := by
    rw [IntKind.wrap_i64]
    have : ((n : Int) + 3).tdiv 4 = (((n + 3) / 4 : Nat) : Int) := by
      rw [Int.tdiv_eq_ediv_of_nonneg (by omega)]; omega
    omega
  have hq3 : IntKind.i64.wrap ((n : Int) + 3) = (n : Int) + 3 := by rw [IntKind.wrap_i64]; omega
  have hall : ∃ (rr : Option Addr) (mm : Nat) (zs : List Int), zs.length = mm ∧ mm ≤ 8 ∧ Byt zs ∧ (∀ W, Below w.heap.size w W → Row W rr zs) ∧ (8 < m → .slice rr mm d = Value.slice r 8 d) ∧ (¬ 8 < m → .slice rr mm d = Value.slice r m d) := by
    by_cases h8 : 8 < m
    · obtain ⟨b0, o0, rfl, -⟩ := hs (by rw [HY.out]; omega)
      refine ⟨_, 8, ys.take 8, by rw [List.length_take, HY.out]; omega, Nat.le_refl _, fun i => ?_, fun W hW => ?_, fun _ => rfl, fun h => absurd h8 h⟩
      · by_cases hi : i < 8
        · have h1 := HBY.out i
          have e : (ys.take 8).getD i 0 = ys.getD i 0 := by simp only [List.getD, List.getElem?_take_of_lt hi]
          rw [e]; exact h1
        · have e : (ys.take 8).getD i 0 = 0 := by simp only [List.getD, List.getElem?_eq_none (show (ys.take 8).length ≤ i by rw [List.length_take]; omega), Option.getD_none]
          rw [e]; omega
      · have h1 := (HS.out W hW).cut 0 8 (by rw [HY.out]; omega)
        rw [Nat.add_zero, List.drop_zero] at h1
        exact h1
    · exact ⟨r, m, ys, HY.out, by omega, HBY.out, HS.out, fun h => absurd h h8, fun _ => rfl⟩
  obtain ⟨rr, mm, zs, hzl, hmm, hbz, hz, hv1, hv2⟩ := hall
  have HZ := Hid.in hz
  have HZL := Hid.in hzl
  have HBZ := Hid.in hbz
  have HV1 := Hid.in hv1
  have HV2 := Hid.in hv2
  clear hz hzl hbz hv1 hv2 HS HY HBY hs
  go_upto_if 43 with fail
  go_cut [7] (fun v wx => v = .slice rr mm d ∧ wx = w1)
  case first =>
    by_cases h8 : 8 < m
    · have e := HV1.out h8
      injection e with e1 e2 _
      subst e1
      have g2 : decide (8 < m) = true := decide_eq_true h8
      obtain ⟨b0, o0, rfl, -⟩ := (HZ.out _ HB1.out) (by rw [HZL.out]; omega)
      go_wp2_with fail
      go_meet
      case rel => exact ⟨by rw [e2], rfl⟩
    · have HE := Hid.in (HV2.out h8).symm
      have g2 : decide (8 < m) = false := decide_eq_false h8
      go_wp2_with fail
      go_meet
      case rel => exact ⟨HE.out, rfl⟩
  case rest =>
    obtain ⟨rfl, rfl⟩ := hcut
    clear HV1 HV2
    go_wp2_with (go_at_call 7; refine Hid.out ?_)
    refine Lib.hid ?_
    refine (copy_any p n c xs wc HX.out (by omega) (HR.out _ HB1.out)).mono ?_
    rintro e w2 ⟨v2, rfl, ho2, hb⟩
    obtain ⟨p2, c2, rfl, hr2, -⟩ := ho2.slice
    rw [HX.out]
    have HR2 := Hid.in hr2
    have HB2 := Hid.in (below_step HB1.out hb)
    clear ho2 hr2 hb HB1
    go_wp2_with (go_at_call 6; refine Hid.out ?_)
    refine Lib.hid ?_
    refine (new_ok p2 n c2 xs w2 HX.out (by omega) HR2.out).mono ?_
    rintro e w3 ⟨q, mg, rfl, hm3, hb⟩
    have HM3 := Hid.in hm3
    have HG := Hid.in (Nat.le_trans HB2.out.size hm3.own.base)
    have HB3 := Hid.in (below_step HB2.out hb)
    clear hm3 hb HR2 HB2
    go_wp2_with (go_at_call 19; refine Hid.out ?_)
    refine Lib.hid ?_
    refine (pick_any G ((n + 3) / 4) hgr.1 (by omega) w3).mono ?_
    rintro e w3' ⟨⟨k, hk, rfl⟩, rfl⟩
    go_wp2_with (go_at_call 8; refine Hid.out ?_)
    refine Lib.hid ?_
    refine (lnew_any w3').mono ?_
    rintro e w4 ⟨l, b, rfl, hl, hb⟩
    have HL4 := Hid.in (hl.lower HB3.out.size)
    have HM4 := Hid.in (HM3.out.below hb)
    have HB4 := Hid.in (below_step HB3.out hb)
    clear hl hb HM3 HB3
    have hk64 : i64W (k : Int) := by unfold i64W; omega
    have ht1 := take_new _ l b [] _ (granF xs k) k false w4 HL4.out (by decide) hk64 (by rfl) (gran_is HM4.out (k := k) (by omega))
    obtain ⟨f0, f1, f2, f3, hf⟩ : ∃ f0 f1 f2 f3, granF xs k = ⟨f0, f1, f2, f3⟩ := ⟨_, _, _, _, rfl⟩
    have HF : Hid ((0 ≤ f0 ∧ f0 ≤ 255) ∧ (0 ≤ f1 ∧ f1 ≤ 255) ∧ (0 ≤ f2 ∧ f2 ≤ 255) ∧ (0 ≤ f3 ∧ f3 ≤ 255)) := by
      unfold granF at hf
      injection hf with e0 e1 e2 e3
      rw [← e0, ← e1, ← e2, ← e3]
      exact ⟨HBX.out _, HBX.out _, HBX.out _, HBX.out _⟩
    rw [hf] at ht1
    simp only [fV] at ht1
    clear hf
    go_wp2_with (go_at_call 9; refine Hid.out ?_)
    refine Lib.hid ?_
    refine ht1.mono ?_
    rintro e w5 ⟨rfl, hl, hk5⟩
    have HL5 := Hid.in hl
    have HM5 := Hid.in (HM4.out.lines HL4.out.isMap hk5)
    have HB5 := Hid.in (below_take HB4.out hk5 HL4.out.hb (Nat.le_refl _))
    clear hl hk5 ht1 HL4 HM4 HB4
    have HA6 := Hid.in (Blk.new w5 34 #[.int .u8 f0, .int .u8 f1, .int .u8 f2, .int .u8 f3])
    have HW6 := Hid.in (new_alloc w5 (.cells #[.int .u8 f0, .int .u8 f1, .int .u8 f2, .int .u8 f3] 34))
    have HL6 := Hid.in (HL5.out.below HW6.out)
    have HM6 := Hid.in (HM5.out.below HW6.out)
    have HB6 := Hid.in (below_step HB5.out HW6.out)
    clear HL5 HM5 HB5
    go_wp2_with (go_at_call 19; refine Hid.out ?_)
    refine Lib.hid ?_
    generalize w5.alloc (.cells #[.int .u8 f0, .int .u8 f1, .int .u8 f2, .int .u8 f3] 34) = w6 at *
    generalize w5.heap.size = ga at *
    refine (pick_any at_ n hn0 (by omega) w6).mono ?_
    rintro e w6' ⟨⟨a, ha, rfl⟩, rfl⟩
    go_wp2_with (go_at_call 7; refine Hid.out ?_)
    refine Lib.hid ?_
    refine (copy_any rr mm d zs w6' HZL.out (by omega) (HZ.out _ HB6.out)).mono ?_
    rintro e w7 ⟨v7, rfl, ho7, hb⟩
    obtain ⟨p7, c7, rfl, hr7, -⟩ := ho7.slice
    have HR7 := Hid.in hr7
    have HA7 := Hid.in (HA6.out.grow hb)
    have HL7 := Hid.in (HL6.out.below hb)
    have HM7 := Hid.in (HM6.out.below hb)
    have HB7 := Hid.in (below_step HB6.out hb)
    rw [HZL.out]
    clear ho7 hr7 hb HA6 HL6 HM6 HB6 HW6
    go_wp2_with (go_at_call 12; refine Hid.out ?_)
    refine Lib.hid ?_
    have hws := write_some q mg _ a c7 p7 xs zs w7 HM7.out HR7.out (by rw [HX.out]; omega) (by rw [HZL.out]; omega) HBX.out HBZ.out
    rw [HZL.out] at hws
    refine hws.mono ?_
    rintro e w8 ⟨v8, us, rfl, hul, hub, hm8, hk8⟩
    have HM8 := Hid.in hm8
    have HL8 := Hid.in (HL7.out.mem HM7.out hk8)
    have HA8 := Hid.in (HA7.out.mem (by decide) HM7.out hk8)
    have HB8 := Hid.in (HB7.out.trans (hk8.below HB7.out.size (fun j hj => by subst hj; exact HG.out)))
    have HUB := Hid.in hub
    clear hm8 hk8 hul hub hws HR7 HM7 HL7 HA7 HB7 HZ HZL HBZ
    have hgr8 := gran_is HM8.out (k := k) (by omega) w8 (below_self w8)
    obtain ⟨n0, n1, n2, n3, hf⟩ : ∃ n0 n1 n2 n3, granF us k = ⟨n0, n1, n2, n3⟩ := ⟨_, _, _, _, rfl⟩
    have HNF : Hid ((0 ≤ n0 ∧ n0 ≤ 255) ∧ (0 ≤ n1 ∧ n1 ≤ 255) ∧ (0 ≤ n2 ∧ n2 ≤ 255) ∧ (0 ≤ n3 ∧ n3 ≤ 255)) := by
      unfold granF at hf
      injection hf with e0 e1 e2 e3
      rw [← e0, ← e1, ← e2, ← e3]
      exact ⟨HUB.out _, HUB.out _, HUB.out _, HUB.out _⟩
    have HUF := Hid.in hf
    rw [hf] at hgr8
    dsimp only at hgr8
    clear hf HUB
    go_wp2_with (go_at_call 20; refine Hid.out ?_)
    refine Lib.hid ?_
    refine hgr8.mono ?_
    rintro e w9 ⟨rfl, hb⟩
    have HN10 := Hid.in (Blk.new w9 34 #[.int .u8 n0, .int .u8 n1, .int .u8 n2, .int .u8 n3])
    have HW10 := Hid.in (below_alloc hb (.cells #[.int .u8 n0, .int .u8 n1, .int .u8 n2, .int .u8 n3] 34))
    have HL10 := Hid.in (HL8.out.below HW10.out)
    have HM10 := Hid.in (HM8.out.below HW10.out)
    have HA10 := Hid.in (HA8.out.grow HW10.out)
    have HB10 := Hid.in (below_step HB8.out HW10.out)
    clear hb hgr8 HL8 HM8 HA8 HB8 HW10
    go_wp2_with (go_at_call 9; refine Hid.out ?_)
    refine Lib.hid ?_
    generalize w9.alloc (.cells #[.int .u8 n0, .int .u8 n1, .int .u8 n2, .int .u8 n3] 34) = w10 at *
    generalize w9.heap.size = gn at *
    have ht2 := take_held _ l b _ _ _ 0 k ⟨f0, f1, f2, f3⟩ w10 HL10.out hk64 (by rw [findL_put, if_pos rfl]) (by decide) (gran_is HM10.out (k := k) (by omega))
    simp only [fV] at ht2
    refine ht2.mono ?_
    rintro e w11 ⟨rfl, hb⟩
    have HH12 := Hid.in (Blk.new w11 34 #[.int .u8 f0, .int .u8 f1, .int .u8 f2, .int .u8 f3])
    have HW12 := Hid.in (below_alloc hb (.cells #[.int .u8 f0, .int .u8 f1, .int .u8 f2, .int .u8 f3] 34))
    have HL12 := Hid.in (HL10.out.below HW12.out)
    have HM12 := Hid.in (HM10.out.below HW12.out)
    have HA12 := Hid.in (HA10.out.grow HW12.out)
    have HN12 := Hid.in (HN10.out.grow HW12.out)
    have HB12 := Hid.in (below_step HB10.out HW12.out)
    clear hb ht2 HL10 HM10 HA10 HN10 HB10 HW12
    go_wp2_with (go_at_call 13; refine Hid.out ?_)
    refine Lib.hid ?_
    generalize w11.alloc (.cells #[.int .u8 f0, .int .u8 f1, .int .u8 f2, .int .u8 f3] 34) = w12 at *
    generalize w11.heap.size = gh at *
    refine (lcopy_any _ l b _ w12 HL12.out).mono ?_
    rintro e w13 ⟨l2, b2, rfl, hl2, hb⟩
    have HL2 := Hid.in hl2
    have HBN := Hid.in (Nat.lt_of_lt_of_le HL12.out.map.lt hl2.hb)
    have HQN := Hid.in (Nat.lt_of_lt_of_le HL12.out.map.lt hl2.hq)
    have HL13 := Hid.in (HL12.out.below hb)
    have HM13 := Hid.in (HM12.out.below hb)
    have HA13 := Hid.in (HA12.out.grow hb)
    have HN13 := Hid.in (HN12.out.grow hb)
    have HH13 := Hid.in (HH12.out.grow hb)
    have HS2 := Hid.in HB12.out.size
    have HB13 := Hid.in (below_step HB12.out hb)
    clear hl2 hb HL12 HM12 HA12 HN12 HH12 HB12
    have ht3 := take_new _ l b _ _ (granF us k) k false w13 HL13.out (takL_len_nil _ _) hk64 (by simp) (gran_is HM13.out (k := k) (by omega))
    rw [HUF.out] at ht3
    simp only [fV] at ht3
    go_wp2_with (go_at_call 9; refine Hid.out ?_)
    refine Lib.hid ?_
    refine ht3.mono ?_
    rintro e w14 ⟨rfl, hl, hk14⟩
    have HM14 := Hid.in (HM13.out.lines HL13.out.isMap hk14)
    have HA14 := Hid.in (HA13.out.lines HL13.out.isMap hk14)
    have HN14 := Hid.in (HN13.out.lines HL13.out.isMap hk14)
    have HH14 := Hid.in (HH13.out.lines HL13.out.isMap hk14)
    have HL14 := Hid.in (HL2.out.keeps hk14 (fun e => by have e : l2 = b := e; have := HQN.out; omega) (fun e => by have e : b2 = b := e; have := HBN.out; omega))
    have HB14 := Hid.in (below_take HB13.out hk14 HL13.out.hb (Nat.le_refl _))
    have HF15 := Hid.in (Blk.new w14 34 #[.int .u8 n0, .int .u8 n1, .int .u8 n2, .int .u8 n3])
    have HW15 := Hid.in (new_alloc w14 (.cells #[.int .u8 n0, .int .u8 n1, .int .u8 n2, .int .u8 n3] 34))
    have HM15 := Hid.in (HM14.out.below HW15.out)
    have HA15 := Hid.in (HA14.out.grow HW15.out)
    have HN15 := Hid.in (HN14.out.grow HW15.out)
    have HH15 := Hid.in (HH14.out.grow HW15.out)
    have HL15 := Hid.in (HL14.out.below HW15.out)
    have HB15 := Hid.in (below_step HB14.out HW15.out)
    clear hl hk14 ht3 HL13 HM13 HA13 HN13 HH13 HB13 HM14 HA14 HN14 HH14 HL14 HB14 HW15 HL2
    go_wp2_with (go_at_call 11; refine Hid.out ?_)
    refine Lib.hid ?_
    generalize w14.alloc (.cells #[.int .u8 n0, .int .u8 n1, .int .u8 n2, .int .u8 n3] 34) = w15 at *
    generalize w14.heap.size = gf at *
    refine (flush_any _ l2 b2 _ w15 HL15.out).mono ?_
    rintro e w16 ⟨rfl, hl, hg16⟩
    have hkf : Keeps (fun j => j = b2) w15 w16 := (Keeps.refl _ _).grown hg16 (fun j e => by injection e with e; exact .inl e.symm)
    have HM16 := Hid.in (HM15.out.lines HL15.out.isMap hkf)
    have HA16 := Hid.in (HA15.out.lines HL15.out.isMap hkf)
    have HN16 := Hid.in (HN15.out.lines HL15.out.isMap hkf)
    have HH16 := Hid.in (HH15.out.lines HL15.out.isMap hkf)
    have HF16 := Hid.in (HF15.out.lines HL15.out.isMap hkf)
    have HL16 := Hid.in hl
    have HB16 := Hid.in (below_take HB15.out hkf (Nat.le_trans HS2.out HL15.out.hb) (Nat.le_refl _))
    clear hl hg16 hkf HM15 HA15 HN15 HH15 HF15 HL15 HB15
    have ht4 := take_new _ l2 b2 [] _ (granF us k) k true w16 HL16.out (by decide) hk64 (by rfl) (gran_is HM16.out (k := k) (by omega))
    rw [HUF.out] at ht4
    simp only [fV] at ht4
    go_wp2_with (go_at_call 9; refine Hid.out ?_)
    refine Lib.hid ?_
    refine ht4.mono ?_
    rintro e w17 ⟨rfl, hl, hk17⟩
    have HA17 := Hid.in ((HA16.out.lines HL16.out.isMap hk17).grow (new_alloc w17 (.cells #[.int .u8 n0, .int .u8 n1, .int .u8 n2, .int .u8 n3] 34)))
    have HN17 := Hid.in ((HN16.out.lines HL16.out.isMap hk17).grow (new_alloc w17 (.cells #[.int .u8 n0, .int .u8 n1, .int .u8 n2, .int .u8 n3] 34)))
    have HH17 := Hid.in ((HH16.out.lines HL16.out.isMap hk17).grow (new_alloc w17 (.cells #[.int .u8 n0, .int .u8 n1, .int .u8 n2, .int .u8 n3] 34)))
    have HF17 := Hid.in ((HF16.out.lines HL16.out.isMap hk17).grow (new_alloc w17 (.cells #[.int .u8 n0, .int .u8 n1, .int .u8 n2, .int .u8 n3] 34)))
    have HE17 := Hid.in (Blk.new w17 34 #[.int .u8 n0, .int .u8 n1, .int .u8 n2, .int .u8 n3])
    have HB17 := Hid.in (below_alloc (below_take HB16.out hk17 (Nat.le_trans HS2.out HL16.out.hb) (Nat.le_refl _)) (.cells #[.int .u8 n0, .int .u8 n1, .int .u8 n2, .int .u8 n3] 34))
    clear hl hk17 ht4 HA16 HN16 HH16 HF16 HL16 HM16 HB16
    go_upto_region 19 with fail
    generalize w17.alloc (.cells #[.int .u8 n0, .int .u8 n1, .int .u8 n2, .int .u8 n3] 34) = w18 at *
    generalize w17.heap.size = ge at *
    have ca0 : w18.cell? ⟨ga, 0, none⟩ = some (.int .u8 f0) := HA17.out.cell 0
    have ca1 : w18.cell? ⟨ga, 1, none⟩ = some (.int .u8 f1) := HA17.out.cell 1
    have ca2 : w18.cell? ⟨ga, 2, none⟩ = some (.int .u8 f2) := HA17.out.cell 2
    have ca3 : w18.cell? ⟨ga, 3, none⟩ = some (.int .u8 f3) := HA17.out.cell 3
    have cn0 : w18.cell? ⟨gn, 0, none⟩ = some (.int .u8 n0) := HN17.out.cell 0
    have cn1 : w18.cell? ⟨gn, 1, none⟩ = some (.int .u8 n1) := HN17.out.cell 1
    have cn2 : w18.cell? ⟨gn, 2, none⟩ = some (.int .u8 n2) := HN17.out.cell 2
    have cn3 : w18.cell? ⟨gn, 3, none⟩ = some (.int .u8 n3) := HN17.out.cell 3
    have ch0 : w18.cell? ⟨gh, 0, none⟩ = some (.int .u8 f0) := HH17.out.cell 0
    have ch1 : w18.cell? ⟨gh, 1, none⟩ = some (.int .u8 f1) := HH17.out.cell 1
    have ch2 : w18.cell? ⟨gh, 2, none⟩ = some (.int .u8 f2) := HH17.out.cell 2
    have ch3 : w18.cell? ⟨gh, 3, none⟩ = some (.int .u8 f3) := HH17.out.cell 3
    have cf0 : w18.cell? ⟨gf, 0, none⟩ = some (.int .u8 n0) := HF17.out.cell 0
    have cf1 : w18.cell? ⟨gf, 1, none⟩ = some (.int .u8 n1) := HF17.out.cell 1
    have cf2 : w18.cell? ⟨gf, 2, none⟩ = some (.int .u8 n2) := HF17.out.cell 2
    have cf3 : w18.cell? ⟨gf, 3, none⟩ = some (.int .u8 n3) := HF17.out.cell 3
    have ce0 : w18.cell? ⟨ge, 0, none⟩ = some (.int .u8 n0) := HE17.out.cell 0
    have ce1 : w18.cell? ⟨ge, 1, none⟩ = some (.int .u8 n1) := HE17.out.cell 1
    have ce2 : w18.cell? ⟨ge, 2, none⟩ = some (.int .u8 n2) := HE17.out.cell 2
    have ce3 : w18.cell? ⟨ge, 3, none⟩ = some (.int .u8 n3) := HE17.out.cell 3
    obtain ⟨r0, r1, r2, r3⟩ := HF.out
    obtain ⟨s0, s1, s2, s3⟩ := HNF.out
    have heq1 := eq_four_self f0 f1 f2 f3 w18 r0 r1 r2 r3
    have heq2 := eq_four_self n0 n1 n2 n3 w18 s0 s1 s2 s3
    clear r0 r1 r2 r3 s0 s1 s2 s3
    go_wp2_with (go_at_call 18; refine (awake_any w18).mono ?_; rintro e w19 ⟨rfl, hb⟩; have HB19 := Hid.in (below_step HB17.out hb); clear hb)
    go_ret
    exact ⟨rfl, HB19.out⟩

end Go.Proofs.Ytndgcfbndlahbaa
