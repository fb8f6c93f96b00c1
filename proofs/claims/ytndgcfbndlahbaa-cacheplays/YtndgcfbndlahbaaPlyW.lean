/- CachePlays: any script over any small memory. -/
import Derived.Test.YtndgcfbndlahbaaPlyL
import Derived.Deep.DeepCutAuto
import Derived.Deep.CutBlock
import Derived.Deep.RegionHeld3
import Derived.BigQuiet
import Derived.Lib.Hide
namespace Go.Proofs.Ytndgcfbndlahbaa
open Go.RowKit Go.Maps

theorem Scr.below {W w' : World} {p : Option Addr} {L : List OpD} (h : Scr W p L) (hb : Below W.heap.size W w') : Scr w' p L := fun h0 => by
  obtain ⟨b, o, rfl, hc⟩ := h h0
  refine ⟨b, o, rfl, fun i x hx => ?_⟩
  obtain ⟨⟨g0, g1, g2, g3, g4⟩, hW⟩ := hc i x hx
  exact ⟨⟨(hb.cell (p := ⟨b, _, none⟩) (cell_lt g0)).trans g0, (hb.cell (p := ⟨b, _, none⟩) (cell_lt g1)).trans g1, (hb.cell (p := ⟨b, _, none⟩) (cell_lt g2)).trans g2, (hb.cell (p := ⟨b, _, none⟩) (cell_lt g3)).trans g3, (hb.cell (p := ⟨b, _, none⟩) (cell_lt g4)).trans g4⟩, hW.row.below hb, hW.byt, hW.len, hW.le, hW.dm, hW.g64, hW.a64⟩

theorem Mem.lower {w : World} {B B' q g : Nat} {xs : List Int} (h : Mem w B q g xs) (hB : B' ≤ B) : Mem w B' q g xs := ⟨h.blk, h.own.lower hB, Nat.le_trans hB h.base, h.ne⟩

theorem LnW.f8 {L : List Ln} (h : LnW L) : ∀ x ∈ L, F8 x.f := fun x hx => (h x hx).2
theorem LnW.g64 {L : List Ln} (h : LnW L) : ∀ x ∈ L, i64W x.g := fun x hx => (h x hx).1
theorem CSt.rowref {w0 w : World} {q mg l b n c : Nat} {v8 : Value} {p9 : Option Addr} {L R : List Ln} {xs ys : List Int} (h : CSt w0 w q mg v8 l b (.slice p9 n c) L R xs ys) : LRow w p9 R := by
  obtain ⟨p9', c9', e9, -, -, hrow⟩ := h.ref.row5
  have e1 : p9 = p9' := by injection e9
  rw [e1]; exact hrow
theorem CSt.cap {w0 w : World} {q mg l b n c : Nat} {v9 : Value} {p8 : Option Addr} {L R : List Ln} {xs ys : List Int} (h : CSt w0 w q mg (.slice p8 n c) l b v9 L R xs ys) : n ≤ c := by
  rcases h.own.shape with ⟨e, -⟩ | ⟨g5, cap5, e, ho⟩
  · injection e with e1 e2 e3
    omega
  · injection e with e1 e2 e3
    have := ho.cap
    omega
theorem slice_lo (q : Option Addr) (n5 d5 m : Nat) (W : World) (h : m ≤ n5) : (Instr.sliceAt 22 (.slice q n5 d5) (some (.int .i64 m)) none none).run Try.prog W = .ok (.slice (if d5 = m then q else q.map (·.add (m * 1))) (n5 - m) (d5 - m)) W := by
  have h0 : (0 : Int) ≤ (m : Int) := by omega
  have h1 : (m : Int) ≤ (n5 : Int) := by omega
  simp [Instr.sliceAt, Instr.slice, Instr.sliceBounds, go_sem, h0, h1]
theorem slice_lo' (q : Option Addr) (n5 d5 m : Nat) (W : World) (h : m ≤ n5) : (Instr.slice 22 (.slice q n5 d5) (some (.int .i64 m)) none none).run Try.prog W = .ok (.slice (if d5 = m then q else q.map (·.add (m * 1))) (n5 - m) (d5 - m)) W := by
  rw [← slice_lo q n5 d5 m W h]
  simp [Instr.sliceAt, go_sem]
/-- the first bytes of a list's granules, in cells of its own -/
structure Inc (w wx : World) (p : Option Addr) (n c : Nat) : Prop where
  bel : Below w.heap.size w wx
  row : ∃ cs : List Value, wx.ownsRow w.heap.size 43 5 (.slice p n c) n cs ∧ ∀ i, i < n → ∃ x, cs[i * 5 + 1]? = some (.int .u8 x)
theorem Inc.start {w wx : World} {p : Option Addr} {c : Nat} {L : List Ln} (h : LOwn 43 wx w.heap.size (.slice p L.length c) L) (hb : Below w.heap.size w wx) : Inc w wx p L.length c :=
  ⟨hb, c5 L, h, fun i hi => ⟨L[i].f.a, by rw [c5_at L i hi 1 (by decide)]; rfl⟩⟩
theorem Inc.drew {w wx : World} {p : Option Addr} {n c : Nat} (h : Inc w wx p n c) : Inc w wx.drew p n c := ⟨below_draws h.bel 1, h.row⟩
theorem Inc.at {w wx : World} {p : Option Addr} {n c : Nat} (h : Inc w wx p n c) {i : Nat} (hi : i < n) : ∃ g x, p = some ⟨g, 0, none⟩ ∧ wx.cell? ⟨g, i * 5 + 1, none⟩ = some (.int .u8 x) ∧ wx.frozen? ⟨g, i * 5 + 1, none⟩ = false ∧ ∀ v, Inc w (wx.setCell ⟨g, i * 5 + 1, none⟩ (.int .u8 v)) p n c := by
  obtain ⟨cs, ho, hc⟩ := h.row
  rcases ho.2 with ⟨e, e2⟩ | ⟨g, cap, cur, e, hB, hg, -⟩
  · omega
  · injection e with e1 e2 e3
    subst e1 e3
    obtain ⟨x, hx⟩ := hc i hi
    refine ⟨g, x, rfl, (ho.cellAt (i * 5 + 1) (by omega)).trans hx, ho.frozenAt _, fun v => ⟨h.bel.setCell hB _, _, (ho.stored (i * 5 + 1) _).1, fun j hj => ?_⟩⟩
    by_cases e : j = i
    · subst e
      refine ⟨v, ?_⟩
      rw [List.getElem?_set_self (List.getElem?_eq_some_iff.1 hx).1]
    · obtain ⟨y, hy⟩ := hc j hj
      exact ⟨y, by rw [List.getElem?_set_ne (by omega)]; exact hy⟩

set_option maxRecDepth 8000 in
set_option maxHeartbeats 1000000 in
theorem plays_walk (p s : Option Addr) (n c m d : Nat) (xs0 : List Int) (S : List OpD) (w : World) (hx : xs0.length = n) (hn : n ≤ 140737488351232) (hnc : n ≤ c) (hc : c ≤ 9223372036854775807) (hS : S.length = m) (hm : m ≤ 9223372036854775807) (hr : Row w p xs0) (hbx : Byt xs0) (hsc : Scr w s S) :
    Calls Try.prog 3 #[.slice p n c, .slice s m d] w fun e w' => e = .returned (.bool true) ∧ Below w.heap.size w w' := by
  have hall : ∃ (rr : Option Addr) (mm : Nat) (xs : List Int), xs.length = mm ∧ mm ≤ 4096 ∧ Byt xs ∧ (∀ W, Below w.heap.size w W → Row W rr xs) ∧ (4096 < n → .slice rr mm c = Value.slice p 4096 c) ∧ (¬ 4096 < n → .slice rr mm c = Value.slice p n c) := by
    by_cases h8 : 4096 < n
    · obtain ⟨b0, o0, rfl, -⟩ := hr (by omega)
      refine ⟨_, 4096, xs0.take 4096, by rw [List.length_take]; omega, Nat.le_refl _, fun i => ?_, fun W hW => ?_, fun _ => rfl, fun h => absurd h8 h⟩
      · by_cases hi : i < 4096
        · have h1 := hbx i
          have e : (xs0.take 4096).getD i 0 = xs0.getD i 0 := by simp only [List.getD, List.getElem?_take_of_lt hi]
          rw [e]; exact h1
        · have e : (xs0.take 4096).getD i 0 = 0 := by simp only [List.getD, List.getElem?_eq_none (show (xs0.take 4096).length ≤ i by rw [List.length_take]; omega), Option.getD_none]
          rw [e]; omega
      · have h1 := (hr.below hW).cut 0 4096 (by omega)
        rw [Nat.add_zero, List.drop_zero] at h1
        exact h1
    · exact ⟨p, n, xs0, hx, by omega, hbx, fun W hW => hr.below hW, fun h => absurd h h8, fun _ => rfl⟩
  obtain ⟨rr, mm, xs, hzl, hmm, hbz, hz, hv1, hv2⟩ := hall
  have HZ := Hid.in hz
  have HX := Hid.in hzl
  have HBX := Hid.in hbz
  have HV1 := Hid.in hv1
  have HV2 := Hid.in hv2
  have HS := Hid.in hS
  have HC : Hid (∀ W, Below w.heap.size w W → Scr W s S) := fun W hW => hsc.below hW
  have hp8 : 4096 < n → ∃ b0 o0, p = some ⟨b0, o0, none⟩ := fun h8 => by
    obtain ⟨b0, o0, e, -⟩ := hr (by omega)
    exact ⟨b0, o0, e⟩
  have HP8 := Hid.in hp8
  clear hz hzl hbz hv1 hv2 hS hx hbx hr hsc hp8
  go_enter Try.func3, Try.ntmps3
  go_upto_if 24 with fail
  go_cut [0] (fun v wx => v = .slice rr mm c ∧ wx = w)
  case first =>
    by_cases h8 : 4096 < n
    · have e := HV1.out h8
      injection e with e1 e2 _
      obtain ⟨b0, o0, rfl⟩ := HP8.out h8
      have g2 : decide (4096 < n) = true := decide_eq_true h8
      clear HV1 HV2 HP8 HZ
      go_wp2_with fail
      go_meet
      case rel => exact ⟨by rw [e1, e2], rfl⟩
    · have HE := Hid.in (HV2.out h8).symm
      have g2 : decide (4096 < n) = false := decide_eq_false h8
      go_wp2_with fail
      go_meet
      case rel => exact ⟨HE.out, rfl⟩
  case rest =>
    obtain ⟨rfl, rfl⟩ := hcut
    clear HV1 HV2 HP8
    go_wp2_with (go_at_call 7; refine Hid.out ?_)
    refine Lib.hid ?_
    refine (copy_any rr mm c xs wc HX.out (by omega) (HZ.out _ (below_self wc))).mono ?_
    rintro e w2 ⟨v2, rfl, ho2, hb⟩
    obtain ⟨p2, c2, rfl, hr2, -⟩ := ho2.slice
    rw [HX.out]
    have HR2 := Hid.in hr2
    have HB2 := Hid.in hb
    clear ho2 hr2 hb
    go_wp2_with (go_at_call 6; refine Hid.out ?_)
    refine Lib.hid ?_
    refine (new_ok p2 mm c2 xs w2 HX.out (by omega) HR2.out).mono ?_
    rintro e w3 ⟨q, mg, rfl, hm3, hb⟩
    have HM3 := Hid.in (hm3.lower HB2.out.size)
    have HB3 := Hid.in (below_step HB2.out hb)
    clear hm3 hb HR2 HB2
    go_wp2_with (go_at_call 8; refine Hid.out ?_)
    refine Lib.hid ?_
    refine (lnew_any w3).mono ?_
    rintro e w4 ⟨l, b, rfl, hl, hb⟩
    have HL4 := Hid.in (hl.lower HB3.out.size)
    have HM4 := Hid.in (HM3.out.below hb)
    have HB4 := Hid.in (below_step HB3.out hb)
    clear hl hb HM3 HB3
    go_wp2_with (go_at_call 7; refine Hid.out ?_)
    refine Lib.hid ?_
    refine (copy_any rr mm c xs w4 HX.out (by omega) (HZ.out _ HB4.out)).mono ?_
    rintro e w5 ⟨v5, rfl, ho5, hb⟩
    have HST : Hid (CSt wc w5 q mg v5 l b (.slice none 0 0) [] [] xs xs) := ⟨below_step HB4.out hb, HL4.out.below hb, HM4.out.below hb, row_lower ho5 HB4.out.size, LOwn.nil _ _ _, fun g n' c' e e2 => by
      rcases ho5.shape with ⟨e3, -⟩ | ⟨g', c'', e3, ho⟩
      · rw [e] at e3; cases e3
      · rw [e] at e3
        injection e3 with e3
        injection e3 with e3
        injection e3 with e3
        have h1 := ho.base
        have h2 := HM4.out.own.lt
        omega⟩
    obtain ⟨p5, c5, rfl, -, -⟩ := ho5.slice
    rw [HX.out] at HST ⊢
    clear ho5 hb HL4 HM4 HB4 HZ
    go_wp2_with fail
    go_loopw [7, 9, 10] (fun vl v9 i wr => ∃ (k l b : Nat) (L : List Ln) (ys : List Int) (p9 : Option Addr) (c9 : Nat), vl = .pointer (some ⟨l, 0, none⟩) ∧ v9 = .slice p9 L.length c9 ∧ i = .int .i64 k ∧ k ≤ m ∧ k ≤ 300 ∧ L.length ≤ k ∧ ys.length = mm ∧ Byt ys ∧ LnW L ∧ CSt wc wr q mg (.slice p5 mm c5) l b (.slice p9 L.length c9) L L ys ys) (fun _ _ i _ => 300 - (intOf i).toNat)
    case atStart => exact ⟨0, l, b, [], xs, none, 0, rfl, rfl, rfl, Nat.zero_le _, by decide, Nat.le_refl _, HX.out, HBX.out, (fun x hx => absurd hx (List.not_mem_nil)), HST.out⟩
    case round =>
      obtain ⟨k, l, b, L, ys, p9, c9, rfl, rfl, rfl, hk, hk3, hLk, hyl, hby, hlw, hst⟩ := hrel
      clear HST HX HBX
      have HST := Hid.in hst
      have HYL := Hid.in hyl
      have HBY := Hid.in hby
      have HLW := Hid.in hlw
      have HLK := Hid.in hLk
      clear hst hyl hby hlw hLk
      by_cases hgo : k < m ∧ k < 300
      · obtain ⟨hlt, hlt3⟩ := hgo
        obtain ⟨X, hX⟩ : ∃ X, S[k]? = some X := ⟨_, List.getElem?_eq_getElem (by rw [HS.out]; exact hlt)⟩
        obtain ⟨sb, so, rfl, hops⟩ := HC.out wr HST.out.bel (by rw [HS.out]; omega)
        obtain ⟨⟨s0, s1, s2, s3, s4⟩, hXW⟩ := hops k X hX
        have HXW := Hid.in hXW
        obtain ⟨sb', so', -, hops'⟩ := HC.out wc (below_self wc) (by rw [HS.out]; omega)
        have hrow' := (hops' k X hX).2.row
        have HXRW : Hid (∀ W, Below wc.heap.size wc W → Row W X.r X.ys) := fun W hW => hrow'.below hW
        clear hops' hrow'
        obtain ⟨kd, xg, xh, xa, xr, xd, zs⟩ := X
        dsimp only at s0 s1 s2 s3 s4
        clear hops hX hXW
        have HN := Hid.in (new_alloc wr (.cells #[.int .i64 kd, .int .i64 xg, .bool xh, .int .i64 xa, .slice xr zs.length xd] 33))
        have HO := Hid.in (Blk.new wr 33 #[.int .i64 kd, .int .i64 xg, .bool xh, .int .i64 xa, .slice xr zs.length xd])
        have HT := Hid.in (HST.out.below HN.out)
        clear HST
        go_upto_region 13 with fail
        generalize wr.alloc (.cells #[.int .i64 kd, .int .i64 xg, .bool xh, .int .i64 xa, .slice xr zs.length xd] 33) = w1 at *
        have HLT := Hid.in HO.out.lt
        have HXR := Hid.in (HXW.out.row.below HN.out)
        have HXL := Hid.in HXW.out.len
        have HXB := Hid.in HXW.out.byt
        have hxd : zs.length ≤ xd ∧ xd ≤ 9223372036854775807 := ⟨HXW.out.le, HXW.out.dm⟩
        generalize wr.heap.size = ob at *
        have HXG : Hid (i64W xg) := HXW.out.g64
        clear HXW HN
        dsimp only at HXR HXL HXB hxd HXG HXRW
        have c0 : w1.cell? ⟨ob, 0, none⟩ = some (.int .i64 kd) := HO.out.cell 0
        clear s0 s1 s2 s3 s4
        go_upto_block 2 with fail
        go_cut [7, 9] (fun vl v9 wx => ∃ (l b : Nat) (L : List Ln) (ys : List Int) (p9 : Option Addr) (c9 : Nat), vl = .pointer (some ⟨l, 0, none⟩) ∧ v9 = .slice p9 L.length c9 ∧ L.length ≤ k + 1 ∧ ys.length = mm ∧ Byt ys ∧ LnW L ∧ Blk wx ob 33 #[.int .i64 kd, .int .i64 xg, .bool xh, .int .i64 xa, .slice xr zs.length xd] ∧ CSt wc wx q mg (.slice p5 mm c5) l b (.slice p9 L.length c9) L L ys ys)
        case first =>
          have c1 : w1.cell? ⟨ob, 1, none⟩ = some (.int .i64 xg) := HO.out.cell 1
          have c2 : w1.cell? ⟨ob, 2, none⟩ = some (.bool xh) := HO.out.cell 2
          rcases (by omega : kd = 0 ∨ kd = 1 ∨ kd = 2 ∨ kd = 3 ∨ kd = 4 ∨ kd = 5 ∨ kd = 6 ∨ kd = 7 ∨ (kd < 0 ∨ 7 < kd)) with rfl | rfl | rfl | rfl | rfl | rfl | rfl | rfl | hkd
          · --TAKE0
            have hta := take_any HT.out (by have := HLK.out; omega) xg xh HXG.out
            have hra := fun W (h : CSt wc W q mg (.slice p5 mm c5) l b (.slice p9 L.length c9) (takR L ys xg xh).L L ys ys) => rtake_any h HT.out.lin.ris (by have := HLK.out; omega) (by rw [HYL.out]; omega) xg xh
            have hok := takR_ok (hold := xh) HLW.out HBY.out HXG.out
            generalize takR L ys xg xh = t at *
            obtain ⟨⟨f0, f1, f2, f3⟩, is, er, L2⟩ := t
            simp only [fV] at hta hra hok
            obtain ⟨⟨r0, r1, r2, r3⟩, hlw2, hll2⟩ := hok
            have HRA := Hid.in hra
            have HF : Hid ((0 ≤ f0 ∧ f0 ≤ 255) ∧ (0 ≤ f1 ∧ f1 ≤ 255) ∧ (0 ≤ f2 ∧ f2 ≤ 255) ∧ (0 ≤ f3 ∧ f3 ≤ 255)) := ⟨r0, r1, r2, r3⟩
            have HLW2 := Hid.in hlw2
            have HLL2 : Hid (L2.length ≤ k + 1) := Nat.le_trans hll2 (Nat.succ_le_succ HLK.out)
            clear hra r0 r1 r2 r3 hlw2 hll2
            go_wp2_with (go_at_call 9; refine Hid.out ?_)
            refine Lib.hid ?_
            refine hta.mono ?_
            rintro e w2 ⟨rfl, hs2, hk2⟩
            have HB3 := Hid.in (Blk.new w2 34 #[.int .u8 f0, .int .u8 f1, .int .u8 f2, .int .u8 f3])
            have HW3 := Hid.in (new_alloc w2 (.cells #[.int .u8 f0, .int .u8 f1, .int .u8 f2, .int .u8 f3] 34))
            have HO3 := Hid.in ((HO.out.lines HT.out.lin.isMap hk2).grow HW3.out)
            have HT3 := Hid.in (hs2.below HW3.out)
            clear hs2 hk2 hta HT HO c0 c1 c2 HW3
            go_upto_region 19 with fail
            generalize w2.alloc (.cells #[.int .u8 f0, .int .u8 f1, .int .u8 f2, .int .u8 f3] 34) = w3 at *
            generalize w2.heap.size = ga at *
            have c1 : w3.cell? ⟨ob, 1, none⟩ = some (.int .i64 xg) := HO3.out.cell 1
            have c2 : w3.cell? ⟨ob, 2, none⟩ = some (.bool xh) := HO3.out.cell 2
            go_wp2_with (go_at_call 10; refine Hid.out ?_)
            refine Lib.hid ?_
            refine (HRA.out w3 HT3.out).mono ?_
            rintro e w4 ⟨p4, c4, rfl, ho4, hb4⟩
            have HD5 := Hid.in (Blk.new w4 34 #[.int .u8 f0, .int .u8 f1, .int .u8 f2, .int .u8 f3])
            have HW5 := Hid.in (below_alloc hb4 (.cells #[.int .u8 f0, .int .u8 f1, .int .u8 f2, .int .u8 f3] 34))
            have HB5 := Hid.in (HB3.out.grow HW5.out)
            have HO5 := Hid.in (HO3.out.grow HW5.out)
            have HT5 := Hid.in ((HT3.out.below HW5.out).newref (ho4.alloc (.cells #[.int .u8 f0, .int .u8 f1, .int .u8 f2, .int .u8 f3] 34)))
            clear ho4 hb4 HRA HB3 HO3 HT3 HW5 c1 c2
            go_upto_region 20 with fail
            generalize w4.alloc (.cells #[.int .u8 f0, .int .u8 f1, .int .u8 f2, .int .u8 f3] 34) = w5 at *
            generalize w4.heap.size = gd at *
            have ca0 : w5.cell? ⟨ga, 0, none⟩ = some (.int .u8 f0) := HB5.out.cell 0
            have ca1 : w5.cell? ⟨ga, 1, none⟩ = some (.int .u8 f1) := HB5.out.cell 1
            have ca2 : w5.cell? ⟨ga, 2, none⟩ = some (.int .u8 f2) := HB5.out.cell 2
            have ca3 : w5.cell? ⟨ga, 3, none⟩ = some (.int .u8 f3) := HB5.out.cell 3
            have cd0 : w5.cell? ⟨gd, 0, none⟩ = some (.int .u8 f0) := HD5.out.cell 0
            have cd1 : w5.cell? ⟨gd, 1, none⟩ = some (.int .u8 f1) := HD5.out.cell 1
            have cd2 : w5.cell? ⟨gd, 2, none⟩ = some (.int .u8 f2) := HD5.out.cell 2
            have cd3 : w5.cell? ⟨gd, 3, none⟩ = some (.int .u8 f3) := HD5.out.cell 3
            have heq := eq_four_self f0 f1 f2 f3 w5 HF.out.1 HF.out.2.1 HF.out.2.2.1 HF.out.2.2.2
            clear HF
            go_wp2_with fail
            go_meet
            case rel => exact ⟨l, b, L2, ys, p4, c4, rfl, rfl, HLL2.out, HYL.out, HBY.out, HLW2.out, HO5.out, HT5.out⟩
          · --TAKE1
            have hta := take_any HT.out (by have := HLK.out; omega) xg xh HXG.out
            have hra := fun W (h : CSt wc W q mg (.slice p5 mm c5) l b (.slice p9 L.length c9) (takR L ys xg xh).L L ys ys) => rtake_any h HT.out.lin.ris (by have := HLK.out; omega) (by rw [HYL.out]; omega) xg xh
            have hok := takR_ok (hold := xh) HLW.out HBY.out HXG.out
            generalize takR L ys xg xh = t at *
            obtain ⟨⟨f0, f1, f2, f3⟩, is, er, L2⟩ := t
            simp only [fV] at hta hra hok
            obtain ⟨⟨r0, r1, r2, r3⟩, hlw2, hll2⟩ := hok
            have HRA := Hid.in hra
            have HF : Hid ((0 ≤ f0 ∧ f0 ≤ 255) ∧ (0 ≤ f1 ∧ f1 ≤ 255) ∧ (0 ≤ f2 ∧ f2 ≤ 255) ∧ (0 ≤ f3 ∧ f3 ≤ 255)) := ⟨r0, r1, r2, r3⟩
            have HLW2 := Hid.in hlw2
            have HLL2 : Hid (L2.length ≤ k + 1) := Nat.le_trans hll2 (Nat.succ_le_succ HLK.out)
            clear hra r0 r1 r2 r3 hlw2 hll2
            go_wp2_with (go_at_call 9; refine Hid.out ?_)
            refine Lib.hid ?_
            refine hta.mono ?_
            rintro e w2 ⟨rfl, hs2, hk2⟩
            have HB3 := Hid.in (Blk.new w2 34 #[.int .u8 f0, .int .u8 f1, .int .u8 f2, .int .u8 f3])
            have HW3 := Hid.in (new_alloc w2 (.cells #[.int .u8 f0, .int .u8 f1, .int .u8 f2, .int .u8 f3] 34))
            have HO3 := Hid.in ((HO.out.lines HT.out.lin.isMap hk2).grow HW3.out)
            have HT3 := Hid.in (hs2.below HW3.out)
            clear hs2 hk2 hta HT HO c0 c1 c2 HW3
            go_upto_region 19 with fail
            generalize w2.alloc (.cells #[.int .u8 f0, .int .u8 f1, .int .u8 f2, .int .u8 f3] 34) = w3 at *
            generalize w2.heap.size = ga at *
            have c1 : w3.cell? ⟨ob, 1, none⟩ = some (.int .i64 xg) := HO3.out.cell 1
            have c2 : w3.cell? ⟨ob, 2, none⟩ = some (.bool xh) := HO3.out.cell 2
            go_wp2_with (go_at_call 10; refine Hid.out ?_)
            refine Lib.hid ?_
            refine (HRA.out w3 HT3.out).mono ?_
            rintro e w4 ⟨p4, c4, rfl, ho4, hb4⟩
            have HD5 := Hid.in (Blk.new w4 34 #[.int .u8 f0, .int .u8 f1, .int .u8 f2, .int .u8 f3])
            have HW5 := Hid.in (below_alloc hb4 (.cells #[.int .u8 f0, .int .u8 f1, .int .u8 f2, .int .u8 f3] 34))
            have HB5 := Hid.in (HB3.out.grow HW5.out)
            have HO5 := Hid.in (HO3.out.grow HW5.out)
            have HT5 := Hid.in ((HT3.out.below HW5.out).newref (ho4.alloc (.cells #[.int .u8 f0, .int .u8 f1, .int .u8 f2, .int .u8 f3] 34)))
            clear ho4 hb4 HRA HB3 HO3 HT3 HW5 c1 c2
            go_upto_region 20 with fail
            generalize w4.alloc (.cells #[.int .u8 f0, .int .u8 f1, .int .u8 f2, .int .u8 f3] 34) = w5 at *
            generalize w4.heap.size = gd at *
            have ca0 : w5.cell? ⟨ga, 0, none⟩ = some (.int .u8 f0) := HB5.out.cell 0
            have ca1 : w5.cell? ⟨ga, 1, none⟩ = some (.int .u8 f1) := HB5.out.cell 1
            have ca2 : w5.cell? ⟨ga, 2, none⟩ = some (.int .u8 f2) := HB5.out.cell 2
            have ca3 : w5.cell? ⟨ga, 3, none⟩ = some (.int .u8 f3) := HB5.out.cell 3
            have cd0 : w5.cell? ⟨gd, 0, none⟩ = some (.int .u8 f0) := HD5.out.cell 0
            have cd1 : w5.cell? ⟨gd, 1, none⟩ = some (.int .u8 f1) := HD5.out.cell 1
            have cd2 : w5.cell? ⟨gd, 2, none⟩ = some (.int .u8 f2) := HD5.out.cell 2
            have cd3 : w5.cell? ⟨gd, 3, none⟩ = some (.int .u8 f3) := HD5.out.cell 3
            have heq := eq_four_self f0 f1 f2 f3 w5 HF.out.1 HF.out.2.1 HF.out.2.2.1 HF.out.2.2.2
            clear HF
            go_wp2_with fail
            go_meet
            case rel => exact ⟨l, b, L2, ys, p4, c4, rfl, rfl, HLL2.out, HYL.out, HBY.out, HLW2.out, HO5.out, HT5.out⟩
          · --TAKE2
            have hta := take_any HT.out (by have := HLK.out; omega) xg xh HXG.out
            have hra := fun W (h : CSt wc W q mg (.slice p5 mm c5) l b (.slice p9 L.length c9) (takR L ys xg xh).L L ys ys) => rtake_any h HT.out.lin.ris (by have := HLK.out; omega) (by rw [HYL.out]; omega) xg xh
            have hok := takR_ok (hold := xh) HLW.out HBY.out HXG.out
            generalize takR L ys xg xh = t at *
            obtain ⟨⟨f0, f1, f2, f3⟩, is, er, L2⟩ := t
            simp only [fV] at hta hra hok
            obtain ⟨⟨r0, r1, r2, r3⟩, hlw2, hll2⟩ := hok
            have HRA := Hid.in hra
            have HF : Hid ((0 ≤ f0 ∧ f0 ≤ 255) ∧ (0 ≤ f1 ∧ f1 ≤ 255) ∧ (0 ≤ f2 ∧ f2 ≤ 255) ∧ (0 ≤ f3 ∧ f3 ≤ 255)) := ⟨r0, r1, r2, r3⟩
            have HLW2 := Hid.in hlw2
            have HLL2 : Hid (L2.length ≤ k + 1) := Nat.le_trans hll2 (Nat.succ_le_succ HLK.out)
            clear hra r0 r1 r2 r3 hlw2 hll2
            go_wp2_with (go_at_call 9; refine Hid.out ?_)
            refine Lib.hid ?_
            refine hta.mono ?_
            rintro e w2 ⟨rfl, hs2, hk2⟩
            have HB3 := Hid.in (Blk.new w2 34 #[.int .u8 f0, .int .u8 f1, .int .u8 f2, .int .u8 f3])
            have HW3 := Hid.in (new_alloc w2 (.cells #[.int .u8 f0, .int .u8 f1, .int .u8 f2, .int .u8 f3] 34))
            have HO3 := Hid.in ((HO.out.lines HT.out.lin.isMap hk2).grow HW3.out)
            have HT3 := Hid.in (hs2.below HW3.out)
            clear hs2 hk2 hta HT HO c0 c1 c2 HW3
            go_upto_region 19 with fail
            generalize w2.alloc (.cells #[.int .u8 f0, .int .u8 f1, .int .u8 f2, .int .u8 f3] 34) = w3 at *
            generalize w2.heap.size = ga at *
            have c1 : w3.cell? ⟨ob, 1, none⟩ = some (.int .i64 xg) := HO3.out.cell 1
            have c2 : w3.cell? ⟨ob, 2, none⟩ = some (.bool xh) := HO3.out.cell 2
            go_wp2_with (go_at_call 10; refine Hid.out ?_)
            refine Lib.hid ?_
            refine (HRA.out w3 HT3.out).mono ?_
            rintro e w4 ⟨p4, c4, rfl, ho4, hb4⟩
            have HD5 := Hid.in (Blk.new w4 34 #[.int .u8 f0, .int .u8 f1, .int .u8 f2, .int .u8 f3])
            have HW5 := Hid.in (below_alloc hb4 (.cells #[.int .u8 f0, .int .u8 f1, .int .u8 f2, .int .u8 f3] 34))
            have HB5 := Hid.in (HB3.out.grow HW5.out)
            have HO5 := Hid.in (HO3.out.grow HW5.out)
            have HT5 := Hid.in ((HT3.out.below HW5.out).newref (ho4.alloc (.cells #[.int .u8 f0, .int .u8 f1, .int .u8 f2, .int .u8 f3] 34)))
            clear ho4 hb4 HRA HB3 HO3 HT3 HW5 c1 c2
            go_upto_region 20 with fail
            generalize w4.alloc (.cells #[.int .u8 f0, .int .u8 f1, .int .u8 f2, .int .u8 f3] 34) = w5 at *
            generalize w4.heap.size = gd at *
            have ca0 : w5.cell? ⟨ga, 0, none⟩ = some (.int .u8 f0) := HB5.out.cell 0
            have ca1 : w5.cell? ⟨ga, 1, none⟩ = some (.int .u8 f1) := HB5.out.cell 1
            have ca2 : w5.cell? ⟨ga, 2, none⟩ = some (.int .u8 f2) := HB5.out.cell 2
            have ca3 : w5.cell? ⟨ga, 3, none⟩ = some (.int .u8 f3) := HB5.out.cell 3
            have cd0 : w5.cell? ⟨gd, 0, none⟩ = some (.int .u8 f0) := HD5.out.cell 0
            have cd1 : w5.cell? ⟨gd, 1, none⟩ = some (.int .u8 f1) := HD5.out.cell 1
            have cd2 : w5.cell? ⟨gd, 2, none⟩ = some (.int .u8 f2) := HD5.out.cell 2
            have cd3 : w5.cell? ⟨gd, 3, none⟩ = some (.int .u8 f3) := HD5.out.cell 3
            have heq := eq_four_self f0 f1 f2 f3 w5 HF.out.1 HF.out.2.1 HF.out.2.2.1 HF.out.2.2.2
            clear HF
            go_wp2_with fail
            go_meet
            case rel => exact ⟨l, b, L2, ys, p4, c4, rfl, rfl, HLL2.out, HYL.out, HBY.out, HLW2.out, HO5.out, HT5.out⟩
          · --TAKE3
            have hta := take_any HT.out (by have := HLK.out; omega) xg xh HXG.out
            have hra := fun W (h : CSt wc W q mg (.slice p5 mm c5) l b (.slice p9 L.length c9) (takR L ys xg xh).L L ys ys) => rtake_any h HT.out.lin.ris (by have := HLK.out; omega) (by rw [HYL.out]; omega) xg xh
            have hok := takR_ok (hold := xh) HLW.out HBY.out HXG.out
            generalize takR L ys xg xh = t at *
            obtain ⟨⟨f0, f1, f2, f3⟩, is, er, L2⟩ := t
            simp only [fV] at hta hra hok
            obtain ⟨⟨r0, r1, r2, r3⟩, hlw2, hll2⟩ := hok
            have HRA := Hid.in hra
            have HF : Hid ((0 ≤ f0 ∧ f0 ≤ 255) ∧ (0 ≤ f1 ∧ f1 ≤ 255) ∧ (0 ≤ f2 ∧ f2 ≤ 255) ∧ (0 ≤ f3 ∧ f3 ≤ 255)) := ⟨r0, r1, r2, r3⟩
            have HLW2 := Hid.in hlw2
            have HLL2 : Hid (L2.length ≤ k + 1) := Nat.le_trans hll2 (Nat.succ_le_succ HLK.out)
            clear hra r0 r1 r2 r3 hlw2 hll2
            go_wp2_with (go_at_call 9; refine Hid.out ?_)
            refine Lib.hid ?_
            refine hta.mono ?_
            rintro e w2 ⟨rfl, hs2, hk2⟩
            have HB3 := Hid.in (Blk.new w2 34 #[.int .u8 f0, .int .u8 f1, .int .u8 f2, .int .u8 f3])
            have HW3 := Hid.in (new_alloc w2 (.cells #[.int .u8 f0, .int .u8 f1, .int .u8 f2, .int .u8 f3] 34))
            have HO3 := Hid.in ((HO.out.lines HT.out.lin.isMap hk2).grow HW3.out)
            have HT3 := Hid.in (hs2.below HW3.out)
            clear hs2 hk2 hta HT HO c0 c1 c2 HW3
            go_upto_region 19 with fail
            generalize w2.alloc (.cells #[.int .u8 f0, .int .u8 f1, .int .u8 f2, .int .u8 f3] 34) = w3 at *
            generalize w2.heap.size = ga at *
            have c1 : w3.cell? ⟨ob, 1, none⟩ = some (.int .i64 xg) := HO3.out.cell 1
            have c2 : w3.cell? ⟨ob, 2, none⟩ = some (.bool xh) := HO3.out.cell 2
            go_wp2_with (go_at_call 10; refine Hid.out ?_)
            refine Lib.hid ?_
            refine (HRA.out w3 HT3.out).mono ?_
            rintro e w4 ⟨p4, c4, rfl, ho4, hb4⟩
            have HD5 := Hid.in (Blk.new w4 34 #[.int .u8 f0, .int .u8 f1, .int .u8 f2, .int .u8 f3])
            have HW5 := Hid.in (below_alloc hb4 (.cells #[.int .u8 f0, .int .u8 f1, .int .u8 f2, .int .u8 f3] 34))
            have HB5 := Hid.in (HB3.out.grow HW5.out)
            have HO5 := Hid.in (HO3.out.grow HW5.out)
            have HT5 := Hid.in ((HT3.out.below HW5.out).newref (ho4.alloc (.cells #[.int .u8 f0, .int .u8 f1, .int .u8 f2, .int .u8 f3] 34)))
            clear ho4 hb4 HRA HB3 HO3 HT3 HW5 c1 c2
            go_upto_region 20 with fail
            generalize w4.alloc (.cells #[.int .u8 f0, .int .u8 f1, .int .u8 f2, .int .u8 f3] 34) = w5 at *
            generalize w4.heap.size = gd at *
            have ca0 : w5.cell? ⟨ga, 0, none⟩ = some (.int .u8 f0) := HB5.out.cell 0
            have ca1 : w5.cell? ⟨ga, 1, none⟩ = some (.int .u8 f1) := HB5.out.cell 1
            have ca2 : w5.cell? ⟨ga, 2, none⟩ = some (.int .u8 f2) := HB5.out.cell 2
            have ca3 : w5.cell? ⟨ga, 3, none⟩ = some (.int .u8 f3) := HB5.out.cell 3
            have cd0 : w5.cell? ⟨gd, 0, none⟩ = some (.int .u8 f0) := HD5.out.cell 0
            have cd1 : w5.cell? ⟨gd, 1, none⟩ = some (.int .u8 f1) := HD5.out.cell 1
            have cd2 : w5.cell? ⟨gd, 2, none⟩ = some (.int .u8 f2) := HD5.out.cell 2
            have cd3 : w5.cell? ⟨gd, 3, none⟩ = some (.int .u8 f3) := HD5.out.cell 3
            have heq := eq_four_self f0 f1 f2 f3 w5 HF.out.1 HF.out.2.1 HF.out.2.2.1 HF.out.2.2.2
            clear HF
            go_wp2_with fail
            go_meet
            case rel => exact ⟨l, b, L2, ys, p4, c4, rfl, rfl, HLL2.out, HYL.out, HBY.out, HLW2.out, HO5.out, HT5.out⟩
          · --FLUSH
            go_wp2_with (go_at_call 11; refine Hid.out ?_)
            refine Lib.hid ?_
            refine (flush_any _ l b L w1 HT.out.lin).mono ?_
            rintro e w2 ⟨rfl, hl2, hg2⟩
            have hk2 : Keeps (fun j => j = b) w1 w2 := (Keeps.refl _ _).grown hg2 (fun j e => by injection e with e; exact .inl e.symm)
            have HT2 := Hid.in ((HT.out.swap hl2 hk2).newref (LOwn.nil 43 _ _))
            have HO2 := Hid.in (HO.out.lines HT.out.lin.isMap hk2)
            clear hl2 hg2 hk2 HT HO c0 c1 c2
            go_wp2_with fail
            go_meet
            case rel => exact ⟨l, b, [], ys, none, 0, rfl, rfl, Nat.zero_le _, HYL.out, HBY.out, (fun x hx => absurd hx (List.not_mem_nil)), HO2.out, HT2.out⟩
          · --WRITE
            have c3 : w1.cell? ⟨ob, 3, none⟩ = some (.int .i64 xa) := HO.out.cell 3
            have c4 : w1.cell? ⟨ob, 4, none⟩ = some (.slice xr zs.length xd) := HO.out.cell 4
            clear c0 c1 c2
            have h7 := copy_any xr zs.length xd zs w1.drew rfl (by have := HXL.out; omega) (HXR.out.drewN 1)
            have HT1 := Hid.in (HT.out.drewN 1)
            have HO1 : Hid (Blk w1.drew ob 33 _) := HO.out
            have HXR1 : Hid (Row w1.drew xr zs) := HXR.out.drewN 1
            by_cases hfit : 0 ≤ xa ∧ xa ≤ (mm : Int) - zs.length
            · obtain ⟨a, rfl⟩ := Int.eq_ofNat_of_zero_le hfit.1
              have hfa : a + zs.length ≤ mm := by omega
              have ham : a ≤ mm := by omega
              clear hfit
              go_upto_region 28 with fail
              go_region_law (first
                | (go_simp; go_at_call 7; (with_reducible refine h7.mono ?_); rintro e w7 ⟨v7, rfl, ho7, hb7⟩; obtain ⟨p7, c7, rfl, hr7, -⟩ := ho7.slice; have HR7 := Hid.in hr7; have HT7 := Hid.in (HT1.out.below hb7); have HO7 := Hid.in (HO1.out.grow hb7); have HXR7 := Hid.in (HXR1.out.below hb7); have c37 : w7.cell? ⟨ob, 3, none⟩ = some (.int .i64 a) := HO7.out.cell 3; have c47 : w7.cell? ⟨ob, 4, none⟩ = some (.slice xr zs.length xd) := HO7.out.cell 4; clear hr7 ho7 hb7)
                | (go_simp; go_at_call 12; (with_reducible refine (write_ok q mg _ a c7 p7 ys zs w7 HT7.out.mem HR7.out (by rw [HYL.out]; exact hfa) (by rw [HYL.out]; omega)).mono ?_); rintro e w8 ⟨rfl, hm8, hk8⟩; have HT8 := Hid.in (HT7.out.written hm8 hk8); have HO8 := Hid.in (HO7.out.mem (by decide) HT7.out.mem hk8); clear hm8 hk8))
              all_goals
                clear c3 c4 c37 c47 h7 HT1 HO1 HXR1 HT7 HO7 HXR7 HR7 HT HO HXR
                have c38 : w8.cell? ⟨ob, 3, none⟩ = some (.int .i64 a) := HO8.out.cell 3
                have c48 : w8.cell? ⟨ob, 4, none⟩ = some (.slice xr zs.length xd) := HO8.out.cell 4
                go_upto_region 29 with fail
                have HT9 := Hid.in (HT8.out.drewN 1)
                have HO9 : Hid (Blk w8.drew ob 33 _) := HO8.out
                have HXR9 := Hid.in (HXRW.out _ HT9.out.bel)
                have HFY : Hid (a + zs.length ≤ ys.length) := by rw [HYL.out]; exact hfa
                have HDP : Hid (0 < zs.length → ∀ g, p5 = some ⟨g, 0, none⟩ → (if c5 = a then p5 else p5.map (·.add (a * 1))) = some ⟨g, a, none⟩) := fun h0 g e => by
                  have := HT8.out.cap
                  rw [if_neg (by omega), e]
                  simp [Addr.add]
                  exact fun h => h.symm
                have hsA := fun W => slice_lo p5 mm c5 a W ham
                have hsB := fun W => slice_lo' p5 mm c5 a W ham
                generalize (if c5 = a then p5 else p5.map (·.add (a * 1))) = dp at *
                clear HT8 HO8
                go_region_law (refine step_copy_own HT9.out HXR9.out a HFY.out rfl _ _ rfl _ _ _ _ rfl (by rw [HYL.out]) HDP.out rfl ?_; intro w10 HT10 HB10)
                all_goals
                  have HO10 := Hid.in (HB10.out ob 33 _ (by decide) HO9.out)
                  go_wp2_with fail
                  go_meet
                  case rel => exact ⟨l, b, L, putA ys a zs, p9, c9, rfl, rfl, Nat.le_succ_of_le HLK.out, (putA_len HFY.out).trans HYL.out, byt_putA HFY.out HBY.out HXB.out, HLW.out, HO10.out, HT10.out⟩
            · have HFIT := Hid.in hfit
              clear hfit
              go_upto_region 28 with fail
              go_region_law (first
                | (go_simp; go_at_call 7; (with_reducible refine h7.mono ?_); rintro e w7 ⟨v7, rfl, ho7, hb7⟩; obtain ⟨p7, c7, rfl, -, -⟩ := ho7.slice; have HT7 := Hid.in (HT1.out.below hb7); have HO7 := Hid.in (HO1.out.grow hb7); have c37 : w7.cell? ⟨ob, 3, none⟩ = some (.int .i64 xa) := HO7.out.cell 3; have c47 : w7.cell? ⟨ob, 4, none⟩ = some (.slice xr zs.length xd) := HO7.out.cell 4; clear ho7 hb7)
                | (go_simp; go_at_call 12; (with_reducible refine (write_out q mg _ zs.length c7 p7 xa ys w7 HT7.out.mem (by have := HXL.out; omega) (by rw [HYL.out]; exact HFIT.out)).mono ?_); rintro e w8 ⟨rfl, rfl⟩))
              all_goals
                clear c3 c4 c37 c47 h7 HT1 HO1 HXR1 HT HO HXR HFIT
                go_wp2_with fail
                go_meet
                case rel => exact ⟨l, b, L, ys, p9, c9, rfl, rfl, Nat.le_succ_of_le HLK.out, HYL.out, HBY.out, HLW.out, HO7.out, HT7.out⟩
          · --COPY
            go_wp2_with (go_at_call 13; refine Hid.out ?_)
            refine Lib.hid ?_
            refine (lcopy_any _ l b L w1 HT.out.lin).mono ?_
            rintro e w2 ⟨l2, b2, rfl, hl2, hb2⟩
            have HT2 := Hid.in (HT.out.below hb2)
            have HO2 := Hid.in (HO.out.grow hb2)
            have HL2 := Hid.in (hl2.lower HT.out.bel.size)
            have HNE : Hid (l2 ≠ b ∧ b2 ≠ b) := by
              have h1 := HT.out.lin.map.lt
              have h2 := hl2.hq
              have h3 := hl2.hb
              exact ⟨by omega, by omega⟩
            clear hl2 hb2 HT HO c0 c1 c2
            go_wp2_with (go_at_call 11; refine Hid.out ?_)
            refine Lib.hid ?_
            refine (flush_any _ l b L w2 HT2.out.lin).mono ?_
            rintro e w3 ⟨rfl, -, hg3⟩
            have hk3 : Keeps (fun j => j = b) w2 w3 := (Keeps.refl _ _).grown hg3 (fun j e => by injection e with e; exact .inl e.symm)
            have HT3 := Hid.in (HT2.out.swap (HL2.out.keeps hk3 HNE.out.1 HNE.out.2) hk3)
            have HO3 := Hid.in (HO2.out.lines HT2.out.lin.isMap hk3)
            clear hg3 hk3 HT2 HO2 HL2 HNE
            go_wp2_with fail
            go_meet
            case rel => exact ⟨l2, b2, L, ys, p9, c9, rfl, rfl, Nat.le_succ_of_le HLK.out, HYL.out, HBY.out, HLW.out, HO3.out, HT3.out⟩
          · --ALL
            go_wp2_with (go_at_call 14; refine Hid.out ?_)
            refine Lib.hid ?_
            refine (all_any _ l b L w1 HT.out.lin (by have := HLK.out; omega) HLW.out.g64).mono ?_
            rintro e w2 ⟨v2, rfl, ho2, hb2⟩
            obtain ⟨pa, ca, rfl, -, -, -⟩ := ho2.row5
            have HI := Hid.in (Inc.start ho2 hb2)
            have hlen : L.length ≤ 300 := Nat.le_trans HLK.out hk3
            clear ho2 hb2 c0 c1 c2
            go_wp2_with fail
            go_loopw [21] (fun i wx => ∃ j : Nat, j ≤ L.length ∧ i = .int .i64 j ∧ Inc w1 wx pa L.length ca) (fun i _ => L.length - (intOf i).toNat)
            case atStart => exact ⟨0, Nat.zero_le _, rfl, HI.out⟩
            case round =>
              obtain ⟨j, hj, rfl, hI⟩ := hrel
              clear HI
              have HI := Hid.in hI
              clear hI
              by_cases hjl : j < L.length
              · obtain ⟨gi, xi, rfl, e1, e2, hst⟩ := HI.out.at hjl
                have HSI := Hid.in hst
                clear hst HI
                go_wp2_with fail
                go_region_law (fail)
                all_goals
                  go_wp2_with fail
                  go_roundw
                  case rel => exact ⟨j + 1, by omega, by go_num, (HSI.out _).drew⟩
                  case measure => simp [intOf]; omega
              · have hje : j = L.length := by omega
                have HB := Hid.in HI.out.bel
                have HT2 := Hid.in (HT.out.below HB.out)
                have HO2 := Hid.in (HO.out.grow HB.out)
                clear HI HT HO HB
                go_wp2_with fail
                go_meet
                case rel => exact ⟨l, b, L, ys, p9, c9, rfl, rfl, Nat.le_succ_of_le HLK.out, HYL.out, HBY.out, HLW.out, HO2.out, HT2.out⟩
          · --NONE
            rcases hkd with hkd | hkd
            all_goals
              go_wp2_with fail
              go_meet
              case rel => exact ⟨l, b, L, ys, p9, c9, rfl, rfl, Nat.le_succ_of_le HLK.out, HYL.out, HBY.out, HLW.out, HO.out, HT.out⟩
        case rest =>
          obtain ⟨l, b, L, ys, p9, c9, rfl, rfl, hLk, hyl, hby, hlw, hob, hst⟩ := hcut
          clear HT HO HYL HBY HLW HLK HXR HXL HXB c0 HLT
          have HT : Hid (CSt _ wc.drew q mg (.slice p5 mm c5) l b (.slice p9 L.length c9) L L ys ys) := hst.drewN 1
          have HO : Hid (Blk wc.drew ob 33 _) := hob
          have HYL := Hid.in hyl
          have HBY := Hid.in hby
          have HLW := Hid.in hlw
          have HLK := Hid.in hLk
          have hlen : L.length ≤ 301 := by omega
          have c1 : wc.cell? ⟨ob, 1, none⟩ = some (.int .i64 xg) := hob.cell 1
          clear hst hob hyl hby hlw hLk
          have hfx := fidx_pos L xg
          have h14 := all_any _ l b L _ HT.out.lin (by omega) HLW.out.g64
          obtain ⟨bs, hbs⟩ : ∃ bs, (findL L xg).isSome = bs := ⟨_, rfl⟩
          obtain ⟨fx, hfxe⟩ : ∃ fx, fidx L xg = fx := ⟨_, rfl⟩
          have HFE := Hid.in hfxe
          have HBS := Hid.in hbs
          rw [hbs, hfxe] at hfx
          clear hbs hfxe
          go_upto_region 42 with fail
          go_region_held3 (fun w' => w'.cell? ⟨ob, 1, none⟩ = some (.int .i64 xg)) (first | go_keep | exact hk1 | exact hk2 | exact hk3' | exact hk4) (first
            | (go_at_call 14; (with_reducible refine h14.mono ?_); rintro e w3 ⟨v3, rfl, ho3, hb⟩; obtain ⟨pa, ca, rfl, -, -, hr3⟩ := ho3.row5; have HR3 := Hid.in hr3; have HT3 := Hid.in (HT.out.below hb); have HO3 := Hid.in (HO.out.grow hb); have hk1 : w3.cell? ⟨ob, 1, none⟩ = some (.int .i64 xg) := HO3.out.cell 1; clear ho3 hr3 hb)
            | (go_at_call 15; (with_reducible refine (sameLines_self pa p9 L.length ca c9 L w3 rfl (by omega) HR3.out HT3.out.rowref HLW.out.f8).mono ?_); rintro e w4 ⟨rfl, m4, hw4⟩; have HT4 : Hid (CSt _ w4 q mg (.slice p5 mm c5) l b (.slice p9 L.length c9) L L ys ys) := (by rw [hw4]; exact HT3.out.drewN _); have HO4 : Hid (Blk w4 ob 33 _) := (by rw [hw4]; exact HO3.out); have hk2 : w4.cell? ⟨ob, 1, none⟩ = some (.int .i64 xg) := HO4.out.cell 1; clear hw4)
            | (go_at_call 16; (with_reducible refine (has_any _ l b L xg w4 HT4.out.lin HXG.out).mono ?_); rw [HBS.out]; rintro e w5 ⟨rfl, hb⟩; have HT5 := Hid.in (HT4.out.below hb); have HO5 := Hid.in (HO4.out.grow hb); have hk3' : w5.cell? ⟨ob, 1, none⟩ = some (.int .i64 xg) := HO5.out.cell 1; clear hb)
            | (go_at_call 17; (with_reducible refine (rfind_any p9 L.length c9 L xg w5 rfl (by omega) HT5.out.rowref).mono ?_); rw [HFE.out]; rintro e w6 ⟨rfl, hw6⟩; have HT6 : Hid (CSt _ w6 q mg (.slice p5 mm c5) l b (.slice p9 L.length c9) L L ys ys) := (by rw [hw6]; exact HT5.out); have hk4 : w6.cell? ⟨ob, 1, none⟩ = some (.int .i64 xg) := (by rw [hw6]; exact hk3'); clear hw6))
          all_goals
            go_wp2_with fail
            go_roundw
            case rel => exact ⟨k + 1, l, b, L, ys, p9, c9, rfl, rfl, by go_num, by omega, by omega, HLK.out, HYL.out, HBY.out, HLW.out, HT6.out⟩
            case measure => simp [intOf]; omega
      · rcases (by omega : m ≤ k ∨ (k < m ∧ 300 ≤ k)) with hend | ⟨hend, hend3⟩
        all_goals
          clear hgo
          go_wp2_with (go_at_call 18; refine Hid.out ?_)
          refine Lib.hid ?_
          refine (awake_any _).mono ?_
          rintro e w9 ⟨rfl, hb⟩
          have HB9 := Hid.in (below_step HST.out.bel hb)
          clear hb
          go_wp2_with fail
          go_ret
          exact ⟨rfl, HB9.out⟩

end Go.Proofs.Ytndgcfbndlahbaa
