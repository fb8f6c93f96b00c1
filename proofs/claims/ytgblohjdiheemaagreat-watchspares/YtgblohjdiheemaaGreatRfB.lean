/- Ours: switchyardref23.view. -/
import Derived.Test.YtgblohjdiheemaaGreatRfA
import Derived.Test.YtgblohjdiheemaaGreatKai
import Derived.Test.YtgblohjdiheemaaGreatKam
import Derived.Deep.RegionHeld3
namespace Go.Proofs.YtgblohjdiheemaaGreat
open Go.RowKit Go.Maps

theorem res46 {tmps : Array Value} {W : World} {R : Nat} {x : Vw} (h : Blk W R 39 (vwA x)) (h2 : tmps.getD 8 undef = .pointer (some ⟨R, 0, none⟩)) :
    (results Tryz.f46 tmps).run Tryz.prog W = .ok (vwV x) W := by
  have hld : (loadVar 39 ⟨R, 0, none⟩).run Tryz.prog W = .ok (vwV x) W := run_loadVar_mid W R 0 39 [.int .i64 x.h, .int .i64 x.s, .int .i64 x.o, .int .i64 x.n, .bool x.m] _ h.range Tryz.underlying39 rfl Tryz.sz39
  simp only [Array.getD_eq_getD_getElem?] at h2
  simp [results, asAddr, hld, h2]
theorem step_kd (c : Option Int) (h a : Int) (v : Ct) (x : Fv) : stepC c h a v x = (if kdE x h a = 0 then v else if nwB c (kdE x h a) then { v with n := v.n + 1 } else { v with o := v.o + 1, m := v.m || decide (0 < v.n) }) := by
  unfold stepC kdE
  by_cases hx : x.h = h ∧ x.p = a
  · rw [if_pos hx]
    by_cases hd : dd x = 0
    · rw [if_pos hd, if_neg (by simp [hd])]
    · rw [if_neg hd, if_pos ⟨hx.1, hx.2, hd⟩]
  · rw [if_neg hx, if_pos rfl, if_neg (fun h => hx ⟨h.1, h.2.1⟩)]
theorem kd_cases (x : Fv) (h a : Int) : kdE x h a = 0 ∨ kdE x h a = 1 ∨ kdE x h a = 2 ∨ kdE x h a = 3 := by
  unfold kdE
  split
  · unfold dd; split <;> (try split) <;> (try split) <;> simp
  · exact .inl rfl
theorem nwB_jmp (c : Option Int) : nwB c 3 = true ∧ nwB c 2 = jmpB c ∧ nwB c 1 = !jmpB c := by
  cases c with
  | none => exact ⟨rfl, rfl, rfl⟩
  | some n =>
    unfold nwB jmpB
    by_cases h : n = 1
    · subst h; exact ⟨rfl, rfl, rfl⟩
    · have e : (n == 1) = false := by simpa using h
      dsimp only
      rw [if_neg h, if_neg h, if_neg h, e]
      exact ⟨rfl, rfl, rfl⟩
abbrev siA (s : Si) : Array Value := #[.int .i64 s.key, .int .i64 s.at_, .int .i64 s.to_]
/-- what stands in view's loop -/
structure VS (w W : World) (S V R : Nat) (s : Si) (x : Vw) : Prop where
  s : Blk W S 68 (siA s)
  v : Blk W V 39 (vwA x)
  r : Blk W R 39 vwZ
  b : Below w.heap.size w W
theorem VS.grow {w W W' : World} {S V R : Nat} {s : Si} {x : Vw} (h : VS w W S V R s x) (hb : Below W.heap.size W W') : VS w W' S V R s x :=
  ⟨h.s.grow hb, h.v.grow hb, h.r.grow hb, below_step h.b hb⟩
theorem VS.set {w W : World} {S V R : Nat} {s : Si} {x y : Vw} (h : VS w W S V R s x) (hS : S ≠ V) (hR : R ≠ V) (hV : w.heap.size ≤ V) (i : Nat) (u : Value) (e : (vwA x).setIfInBounds i u = vwA y) : VS w (W.setCell ⟨V, i, none⟩ u) S V R s y :=
  ⟨h.s.other hS i u, e ▸ h.v.set i u, h.r.other hR i u, h.b.setCell hV u⟩
set_option maxRecDepth 8000 in
set_option maxHeartbeats 8000000 in
theorem rview_any (p : Option Addr) (n c : Nat) (L : List Fv) (hart site : Int) (s : Si) (w : World) (hn : L.length = n) (hn2 : n ≤ 1000000) (hr : KRow fE w p L) :
    Calls Tryz.prog 46 #[.slice p n c, .int .i64 hart, .int .i64 site, .agg (siA s)] w fun e w' => e = .returned (vwV ⟨hart, site, (cntC (callL L s.key) hart s.at_ L).o, (cntC (callL L s.key) hart s.at_ L).n, (cntC (callL L s.key) hart s.at_ L).m⟩) ∧ Below w.heap.size w w' := by
  have HN := Hid.in hn
  have HR := Hid.in hr
  clear hn hr
  have HD : Hid (∀ x (W : World), Calls Tryz.prog 43 #[evV x, .int .i64 hart, .int .i64 s.at_] W _) := fun x W => rkind_any x hart s.at_ W
  go_enter Tryz.func46, Tryz.ntmps46
  go_upto_region 1 with fail
  have HS0 := Hid.in ((Blk.new w 68 (siA s)).grow (new_alloc _ (.cells vwZ 39)))
  have hZ := Blk.new (w.alloc (.cells (siA s) 68)) 39 vwZ
  rw [size_one] at hZ
  have HZ0 := Hid.in hZ
  have HB0 : Hid (Below w.heap.size w ((w.alloc (.cells (siA s) 68)).alloc (.cells vwZ 39))) := below_alloc (new_alloc w _) _
  have hsz : ((w.alloc (.cells (siA s) 68)).alloc (.cells vwZ 39)).heap.size = w.heap.size + 2 := by rw [size_one, size_one]
  have HSZ := Hid.in hsz
  clear hZ hsz
  generalize (w.alloc (.cells (siA s) 68)).alloc (.cells vwZ 39) = w0 at *
  go_upto_region 2 with fail
  have HV1 : Hid (VS w (w0.alloc (.cells (vwA ⟨hart, site, 0, 0, false⟩) 39)) w.heap.size w0.heap.size (w.heap.size + 1) s ⟨hart, site, 0, 0, false⟩) :=
    ⟨HS0.out.grow (new_alloc _ _), Blk.new w0 39 _, HZ0.out.grow (new_alloc _ _), below_alloc HB0.out _⟩
  generalize w0.alloc (.cells (vwA ⟨hart, site, 0, 0, false⟩) 39) = w1 at *
  have HV2 : Hid (w.heap.size ≠ w0.heap.size ∧ w.heap.size + 1 ≠ w0.heap.size ∧ w.heap.size ≤ w0.heap.size) := by have := HSZ.out; exact ⟨by omega, by omega, by omega⟩
  generalize w0.heap.size = V at *
  clear HS0 HZ0 HB0 HSZ
  have hj := rjump_any p n c L s.key w1 HN.out (by omega) (HR.out.below HV1.out.b)
  have s0 : w1.cell? ⟨w.heap.size, 0, none⟩ = some (.int .i64 s.key) := HV1.out.s.cell 0
  go_wp2_with (go_at_call 65; refine Hid.out ?_)
  refine Lib.hid ?_
  (with_reducible refine hj.mono ?_)
  rintro e w1' ⟨rfl, e2⟩
  have e3 := e2.symm
  clear e2
  subst e3
  have HNW := Hid.in (nwB_jmp (callL L s.key))
  generalize hup : jmpB (callL L s.key) = up at *
  clear hj s0 hup
  have HCL := Hid.in (fun j => cntC_le (callL L s.key) hart s.at_ (L.take j))
  go_wp2_with fail
  go_loopw [11] (fun vi wr => ∃ j : Nat, vi = .int .i64 j ∧ j ≤ n ∧ VS w wr w.heap.size V (w.heap.size + 1) s ⟨hart, site, (cntC (callL L s.key) hart s.at_ (L.take j)).o, (cntC (callL L s.key) hart s.at_ (L.take j)).n, (cntC (callL L s.key) hart s.at_ (L.take j)).m⟩) (fun vi _ => n - (intOf vi).toNat)
  case atStart => exact ⟨0, rfl, Nat.zero_le _, HV1.out⟩
  case round =>
    obtain ⟨j, rfl, hj, hvs⟩ := hrel
    have HV := Hid.in hvs
    clear hvs HV1
    by_cases hlt : j < n
    · have hjL : j < L.length := by rw [HN.out]; exact hlt
      have HRr : Hid (KRow fE wr p L) := HR.out.below HV.out.b
      obtain ⟨b, o, rfl, hc⟩ := ev7 HRr.out (by omega)
      obtain ⟨c0, c1, c2, c3, c4, c5, c6⟩ := hc j hjL
      have HT : Hid (cntC (callL L s.key) hart s.at_ (L.take (j + 1)) = stepC (callL L s.key) hart s.at_ (cntC (callL L s.key) hart s.at_ (L.take j)) L[j]) := by show _ = _; rw [take_snoc L j hjL, cntC_snoc]
      have hle := HCL.out j
      rw [List.length_take] at hle
      generalize L[j] = x at *
      rw [step_kd] at HT
      have hkd := kd_cases x hart s.at_
      have hD := HD.out x wr.drew
      generalize kdE x hart s.at_ = d at *
      generalize cntC (callL L s.key) hart s.at_ (L.take j) = ct at *
      obtain ⟨co, cn, cm⟩ := ct
      dsimp only at *
      have g1 : decide ((j : Int) < (n : Int)) = true := decide_eq_true (by omega)
      have g2 : (0 : Int) ≤ (j : Int) := by omega
      have g3 : (j : Int) < (n : Int) := by omega
      have w3 : IntKind.i64.wrap ((j : Int) + 1) = (j : Int) + 1 := by rw [IntKind.wrap_i64]; omega
      have w4 : IntKind.i64.wrap ((co : Int) + 1) = (co : Int) + 1 := by rw [IntKind.wrap_i64]; omega
      have w5 : IntKind.i64.wrap ((cn : Int) + 1) = (cn : Int) + 1 := by rw [IntKind.wrap_i64]; omega
      have s1 : wr.cell? ⟨w.heap.size, 1, none⟩ = some (.int .i64 s.at_) := HV.out.s.cell 1
      obtain ⟨xk, xst, xh, xp, xo, xky, xn⟩ := x
      dsimp only at *
      clear hc HRr hle
      go_upto_region 6 with fail
      have HVd : Hid (VS w wr.drew w.heap.size V (w.heap.size + 1) s ⟨hart, site, co, cn, cm⟩) := HV.out.grow (below_draws (below_self _) 1)
      have b0 : wr.drew.cell? ⟨b, o + j * 7, none⟩ = some (.int .u8 xk) := c0
      have b1 : wr.drew.cell? ⟨b, o + j * 7 + 1, none⟩ = some (.int .i64 xst) := c1
      have b2 : wr.drew.cell? ⟨b, o + j * 7 + 2, none⟩ = some (.int .i64 xh) := c2
      have b3 : wr.drew.cell? ⟨b, o + j * 7 + 3, none⟩ = some (.int .i64 xp) := c3
      have b4 : wr.drew.cell? ⟨b, o + j * 7 + 4, none⟩ = some (.int .u8 xo) := c4
      have b5 : wr.drew.cell? ⟨b, o + j * 7 + 5, none⟩ = some (.int .i64 xky) := c5
      have b6 : wr.drew.cell? ⟨b, o + j * 7 + 6, none⟩ = some (.int .i64 xn) := c6
      have b7 : wr.drew.cell? ⟨w.heap.size, 1, none⟩ = some (.int .i64 s.at_) := s1
      have HK : Hid (∀ W : World, Below wr.drew.heap.size wr.drew W → (W.cell? ⟨b, o + j * 7, none⟩ = some (.int .u8 xk) ∧ W.cell? ⟨b, o + j * 7 + 1, none⟩ = some (.int .i64 xst) ∧ W.cell? ⟨b, o + j * 7 + 2, none⟩ = some (.int .i64 xh) ∧ W.cell? ⟨b, o + j * 7 + 3, none⟩ = some (.int .i64 xp) ∧ W.cell? ⟨b, o + j * 7 + 4, none⟩ = some (.int .u8 xo) ∧ W.cell? ⟨b, o + j * 7 + 5, none⟩ = some (.int .i64 xky) ∧ W.cell? ⟨b, o + j * 7 + 6, none⟩ = some (.int .i64 xn) ∧ W.cell? ⟨w.heap.size, 1, none⟩ = some (.int .i64 s.at_))) := fun W hb => ⟨(hb.cell (cell_lt b0)).trans b0, (hb.cell (cell_lt b1)).trans b1, (hb.cell (cell_lt b2)).trans b2, (hb.cell (cell_lt b3)).trans b3, (hb.cell (cell_lt b4)).trans b4, (hb.cell (cell_lt b5)).trans b5, (hb.cell (cell_lt b6)).trans b6, (hb.cell (cell_lt b7)).trans b7⟩
      clear b0 b1 b2 b3 b4 b5 b6 b7
      go_region_held3 (fun W => W.cell? ⟨b, o + j * 7, none⟩ = some (.int .u8 xk) ∧ W.cell? ⟨b, o + j * 7 + 1, none⟩ = some (.int .i64 xst) ∧ W.cell? ⟨b, o + j * 7 + 2, none⟩ = some (.int .i64 xh) ∧ W.cell? ⟨b, o + j * 7 + 3, none⟩ = some (.int .i64 xp) ∧ W.cell? ⟨b, o + j * 7 + 4, none⟩ = some (.int .u8 xo) ∧ W.cell? ⟨b, o + j * 7 + 5, none⟩ = some (.int .i64 xky) ∧ W.cell? ⟨b, o + j * 7 + 6, none⟩ = some (.int .i64 xn) ∧ W.cell? ⟨w.heap.size, 1, none⟩ = some (.int .i64 s.at_))
        (first | (with_reducible exact hk1) | go_keep)
        (first
          | (go_at_call 43; (with_reducible refine hD.mono ?_); rintro e w6 ⟨rfl, hb⟩; have HV4 := Hid.in (HVd.out.grow hb); have hk1 := HK.out _ hb; clear hb))
      clear hk1 c0 c1 c2 c3 c4 c5 c6 s1 hD HV HVd HK
      have k2 : w6.cell? ⟨V, 2, none⟩ = some (.int .i64 (co : Int)) := HV4.out.v.cell 2
      have k3 : w6.cell? ⟨V, 3, none⟩ = some (.int .i64 (cn : Int)) := HV4.out.v.cell 3
      have k4 : w6.cell? ⟨V, 4, none⟩ = some (.bool cm) := HV4.out.v.cell 4
      have f2 : w6.frozen? ⟨V, 2, none⟩ = false := HV4.out.v.free 2
      have f3 : w6.frozen? ⟨V, 3, none⟩ = false := HV4.out.v.free 3
      have f4 : w6.frozen? ⟨V, 4, none⟩ = false := HV4.out.v.free 4
      rcases hkd with rfl | rfl | rfl | rfl
      · have HE : Hid (cntC (callL L s.key) hart s.at_ (L.take (j + 1)) = ⟨co, cn, cm⟩) := by show _ = _; rw [HT.out, if_pos rfl]
        clear HT HNW
        go_wp2_with fail
        go_roundw
        case rel => exact ⟨j + 1, by go_num, by omega, by rw [HE.out]; exact HV4.out⟩
        case measure => simp [intOf]; omega
      · cases up with
        | true =>
          have HE : Hid (cntC (callL L s.key) hart s.at_ (L.take (j + 1)) = ⟨co + 1, cn, cm || decide (0 < cn)⟩) := by
            show _ = _
            rw [HT.out, if_neg (by decide), HNW.out.2.2]
            rfl
          clear HT HNW
          have HV5 : Hid (VS w (w6.setCell ⟨V, 2, none⟩ (.int .i64 ((co : Int) + 1))) w.heap.size V (w.heap.size + 1) s ⟨hart, site, (co + 1 : Nat), cn, cm⟩) := HV4.out.set HV2.out.1 HV2.out.2.1 HV2.out.2.2 2 _ rfl
          clear HV4 k3 k4 f3 f4
          go_upto_region 11 with fail
          generalize w6.setCell ⟨V, 2, none⟩ (.int .i64 ((co : Int) + 1)) = w7 at *
          clear k2 f2
          have k3 : w7.cell? ⟨V, 3, none⟩ = some (.int .i64 (cn : Int)) := HV5.out.v.cell 3
          have k4 : w7.cell? ⟨V, 4, none⟩ = some (.bool cm) := HV5.out.v.cell 4
          have f4 : w7.frozen? ⟨V, 4, none⟩ = false := HV5.out.v.free 4
          cases cm with
          | true =>
            go_wp2_with fail
            go_roundw
            case rel =>
              refine ⟨j + 1, by go_num, by omega, ?_⟩
              rw [HE.out]
              exact HV5.out.set HV2.out.1 HV2.out.2.1 HV2.out.2.2 4 _ rfl
            case measure => simp [intOf]; omega
          | false =>
            by_cases hc : 0 < cn
            · have q1 : decide ((0 : Int) < (cn : Int)) = true := decide_eq_true (by omega)
              have HE2 : Hid ((false || decide (0 < cn)) = true) := by show _ = _; rw [decide_eq_true hc]; rfl
              go_wp2_with fail
              go_roundw
              case rel =>
                refine ⟨j + 1, by go_num, by omega, ?_⟩
                rw [HE.out]
                dsimp only
                rw [HE2.out]
                exact HV5.out.set HV2.out.1 HV2.out.2.1 HV2.out.2.2 4 _ rfl
              case measure => simp [intOf]; omega
            · have q1 : decide ((0 : Int) < (cn : Int)) = false := decide_eq_false (by omega)
              have HE2 : Hid ((false || decide (0 < cn)) = false) := by show _ = _; rw [decide_eq_false hc]; rfl
              go_wp2_with fail
              go_roundw
              case rel =>
                refine ⟨j + 1, by go_num, by omega, ?_⟩
                rw [HE.out]
                dsimp only
                rw [HE2.out]
                exact HV5.out.set HV2.out.1 HV2.out.2.1 HV2.out.2.2 4 _ rfl
              case measure => simp [intOf]; omega
        | false =>
          have HE : Hid (cntC (callL L s.key) hart s.at_ (L.take (j + 1)) = ⟨co, cn + 1, cm⟩) := by
            show _ = _
            rw [HT.out, if_neg (by decide), HNW.out.2.2]
            rfl
          clear HT HNW
          go_wp2_with fail
          go_roundw
          case rel =>
            refine ⟨j + 1, by go_num, by omega, ?_⟩
            rw [HE.out]
            exact HV4.out.set HV2.out.1 HV2.out.2.1 HV2.out.2.2 3 _ rfl
          case measure => simp [intOf]; omega
      · cases up with
        | true =>
          have HE : Hid (cntC (callL L s.key) hart s.at_ (L.take (j + 1)) = ⟨co, cn + 1, cm⟩) := by
            show _ = _
            rw [HT.out, if_neg (by decide), HNW.out.2.1]
            rfl
          clear HT HNW
          go_wp2_with fail
          go_roundw
          case rel =>
            refine ⟨j + 1, by go_num, by omega, ?_⟩
            rw [HE.out]
            exact HV4.out.set HV2.out.1 HV2.out.2.1 HV2.out.2.2 3 _ rfl
          case measure => simp [intOf]; omega
        | false =>
          have HE : Hid (cntC (callL L s.key) hart s.at_ (L.take (j + 1)) = ⟨co + 1, cn, cm || decide (0 < cn)⟩) := by
            show _ = _
            rw [HT.out, if_neg (by decide), HNW.out.2.1]
            rfl
          clear HT HNW
          have HV5 : Hid (VS w (w6.setCell ⟨V, 2, none⟩ (.int .i64 ((co : Int) + 1))) w.heap.size V (w.heap.size + 1) s ⟨hart, site, (co + 1 : Nat), cn, cm⟩) := HV4.out.set HV2.out.1 HV2.out.2.1 HV2.out.2.2 2 _ rfl
          clear HV4 k3 k4 f3 f4
          go_upto_region 11 with fail
          generalize w6.setCell ⟨V, 2, none⟩ (.int .i64 ((co : Int) + 1)) = w7 at *
          clear k2 f2
          have k3 : w7.cell? ⟨V, 3, none⟩ = some (.int .i64 (cn : Int)) := HV5.out.v.cell 3
          have k4 : w7.cell? ⟨V, 4, none⟩ = some (.bool cm) := HV5.out.v.cell 4
          have f4 : w7.frozen? ⟨V, 4, none⟩ = false := HV5.out.v.free 4
          cases cm with
          | true =>
            go_wp2_with fail
            go_roundw
            case rel =>
              refine ⟨j + 1, by go_num, by omega, ?_⟩
              rw [HE.out]
              exact HV5.out.set HV2.out.1 HV2.out.2.1 HV2.out.2.2 4 _ rfl
            case measure => simp [intOf]; omega
          | false =>
            by_cases hc : 0 < cn
            · have q1 : decide ((0 : Int) < (cn : Int)) = true := decide_eq_true (by omega)
              have HE2 : Hid ((false || decide (0 < cn)) = true) := by show _ = _; rw [decide_eq_true hc]; rfl
              go_wp2_with fail
              go_roundw
              case rel =>
                refine ⟨j + 1, by go_num, by omega, ?_⟩
                rw [HE.out]
                dsimp only
                rw [HE2.out]
                exact HV5.out.set HV2.out.1 HV2.out.2.1 HV2.out.2.2 4 _ rfl
              case measure => simp [intOf]; omega
            · have q1 : decide ((0 : Int) < (cn : Int)) = false := decide_eq_false (by omega)
              have HE2 : Hid ((false || decide (0 < cn)) = false) := by show _ = _; rw [decide_eq_false hc]; rfl
              go_wp2_with fail
              go_roundw
              case rel =>
                refine ⟨j + 1, by go_num, by omega, ?_⟩
                rw [HE.out]
                dsimp only
                rw [HE2.out]
                exact HV5.out.set HV2.out.1 HV2.out.2.1 HV2.out.2.2 4 _ rfl
              case measure => simp [intOf]; omega
      · have HE : Hid (cntC (callL L s.key) hart s.at_ (L.take (j + 1)) = ⟨co, cn + 1, cm⟩) := by
          show _ = _
          rw [HT.out, if_neg (by decide), HNW.out.1]
          rfl
        clear HT HNW
        go_wp2_with fail
        go_roundw
        case rel =>
          refine ⟨j + 1, by go_num, by omega, ?_⟩
          rw [HE.out]
          exact HV4.out.set HV2.out.1 HV2.out.2.1 HV2.out.2.2 3 _ rfl
        case measure => simp [intOf]; omega
    · obtain rfl : j = n := by omega
      have HL : Hid (L.take j = L) := List.take_of_length_le (by rw [HN.out]; exact Nat.le_refl _)
      have hv := HV.out
      rw [HL.out] at hv
      have HVL := Hid.in hv
      clear hv HV HCL HNW HL
      obtain ⟨⟨co, cn, cm⟩, hct⟩ : ∃ ct, cntC (callL L s.key) hart s.at_ L = ct := ⟨_, rfl⟩
      have HCT := Hid.in hct
      rw [hct] at HVL
      dsimp only at HVL
      clear hct
      go_wp2_with (first
        | (refine step_load_blk HVL.out.v rfl 39 _ rfl rfl (vwA ⟨hart, site, co, cn, cm⟩) (List.prefix_refl _) _ Tryz.underlying39 rfl Tryz.sz39 ?_)
        | (refine step_store_blk HVL.out.r rfl 39 _ _ rfl rfl rfl (vwA ⟨hart, site, co, cn, cm⟩) rfl Tryz.sz39 rfl (by kernel_rfl) ?_; intro w9 hb9 hg9; refine Hid.out ?_))
      refine Lib.hid ?_
      go_wp2_with fail
      exact bodyPost_ret (res46 hb9 rfl) rfl ⟨by rw [HCT.out], HVL.out.b.grown hg9 HVL.out.b.size (fun k e => by cases e; omega)⟩
end Go.Proofs.YtgblohjdiheemaaGreat
