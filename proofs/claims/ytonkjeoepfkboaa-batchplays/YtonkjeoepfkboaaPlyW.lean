/- BatchPlays: the walk. -/
import Derived.Test.YtonkjeoepfkboaaOrdL
namespace Go.Proofs.Ytonkjeoepfkboaa
open Go.RowKit

theorem blk_ne {w : World} {g h : Nat} {T U : TypeId} {c d : Array Value} (h1 : Blk w g T c) (h2 : Blk w h U d) (hT : T ≠ U) : g ≠ h := fun e => by
  subst e
  have := h1.symm.trans h2
  simp only [Option.some.injEq, Obj.cells.injEq] at this
  exact hT this.2.1
theorem TOwn.apart {T U : TypeId} {w w' : World} {B q : Nat} {v : Value} {L : List V3} {d : Array Value} (h : TOwn T w B v L) (hq : Blk w q U d) (hg : w.grownBy w' (some q)) (hT : T ≠ U) : TOwn T w' B v L := by
  rcases h.2 with h2 | ⟨g, cap, cur, h1, h2, h3, h4⟩
  · exact ⟨h.1, .inl h2⟩
  · have hb : Blk w g T cur := h3
    exact ⟨h.1, .inr ⟨g, cap, cur, h1, h2, hb.kept hg (fun e => blk_ne hb hq hT (by injection e)), h4⟩⟩
/-- a batch, and the document's list beside it -/
structure PB (w0 w : World) (q : Nat) (v : Value) (L : List Si) : Prop where
  bat : Bat w q L
  ref : TOwn 35 w 0 v (L.map siV)
  bel : Below w0.heap.size w0 w
  ge : w0.heap.size ≤ q
theorem PB.below {w0 w w' : World} {q : Nat} {v : Value} {L : List Si} (h : PB w0 w q v L) (hb : Below w.heap.size w w') : PB w0 w' q v L := ⟨h.bat.below hb, h.ref.below hb, below_step h.bel hb, h.ge⟩
theorem PB.drewN {w0 w : World} {q : Nat} {v : Value} {L : List Si} (h : PB w0 w q v L) (n : Nat) : PB w0 (w.drewN n) q v L := ⟨h.bat.drewN n, h.ref, below_draws h.bel n, h.ge⟩
theorem PB.clear {w0 w w' : World} {q : Nat} {v : Value} {L : List Si} (h : PB w0 w q v L) (hb : Bat w' q []) (hg : w.grownBy w' (some q)) : PB w0 w' q (.slice none 0 0) [] :=
  ⟨hb, TOwn.nil _ _ _, h.bel.trans (below_grown hg h.ge h.bel.size), h.ge⟩
theorem PB.copied {w0 w w1 w2 : World} {q : Nat} {v : Value} {L : List Si} (h : PB w0 w q v L) (hb1 : Bat w1 w.heap.size L) (hl : Below w.heap.size w w1) (hg : w1.grownBy w2 (some q)) : PB w0 w2 w.heap.size v L := by
  have h1 := h.below hl
  have hne : w.heap.size ≠ q := by have := h.bat.lt; omega
  exact ⟨hb1.kept hg hne, h1.ref.apart h1.bat.blk hg (by decide), h1.bel.trans (below_grown hg h.ge h1.bel.size), h.bel.size⟩
theorem PB.added {w0 w w1 w2 : World} {q : Nat} {v v' : Value} {L : List Si} {a t : Int} {up : Bool} (h : PB w0 w q v L) (hl : Below w.heap.size w w1) (hr : (addE L a t ≠ 0 ∧ v' = v) ∨ (addE L a t = 0 ∧ TOwn 35 w1 w.heap.size v' ((addR L a t up).map siV))) (hb : Bat w2 q (addR L a t up)) (hg : w1.grownBy w2 (some q)) : PB w0 w2 q v' (addR L a t up) := by
  have h1 := h.below hl
  refine ⟨hb, ?_, h1.bel.trans (below_grown hg h.ge h1.bel.size), h.ge⟩
  rcases hr with ⟨he, rfl⟩ | ⟨he, ht⟩
  · rw [addR_no he]; exact h1.ref.apart h1.bat.blk hg (by decide)
  · exact (ht.lowB (Nat.zero_le _)).apart h1.bat.blk hg (by decide)
theorem PB.shape {w0 w : World} {q : Nat} {v : Value} {L : List Si} (h : PB w0 w q v L) : ∃ p c, v = .slice p L.length c ∧ Row3 w p (L.map siV) := by
  obtain ⟨p, c, e, -, -, hr⟩ := h.ref.row3
  rw [List.length_map] at e
  exact ⟨p, c, e, hr⟩
set_option maxRecDepth 20000 in
set_option maxHeartbeats 4000000 in
theorem plays_walk (p : Option Addr) (n e : Nat) (X : List OpD) (w : World) (hX : X.length = n) (hm : n ≤ 9223372036854775807) (hs : Scr w p X) :
    Calls Try.prog 3 #[.slice p n e] w fun E w' => E = .returned (.bool true) ∧ Below w.heap.size w w' := by
  have HX := Hid.in hX
  have HSC := Hid.in hs
  clear hX hs
  go_enter Try.func3, Try.ntmps3
  go_wp2_with (go_at_call 6; refine Hid.out ?_)
  refine Lib.hid ?_
  refine (new_any w).mono ?_
  rintro E w1 ⟨rfl, hb1, hl1⟩
  have HP1 : Hid (PB w w1 w.heap.size (.slice none 0 0) []) := ⟨hb1, TOwn.nil _ _ _, hl1, Nat.le_refl _⟩
  clear hb1 hl1
  go_wp2_with fail
  go_loopw [3, 4, 5] (fun v3 v4 v5 wr => ∃ (q i : Nat) (L : List Si), v3 = .pointer (some ⟨q, 0, none⟩) ∧ v5 = .int .i64 i ∧ i ≤ n ∧ i ≤ 400 ∧ PB w wr q v4 L) (fun _ _ v5 _ => n - (intOf v5).toNat)
  case atStart => exact ⟨_, 0, [], rfl, rfl, Nat.zero_le _, Nat.zero_le _, HP1.out⟩
  case round =>
    obtain ⟨q, i, L, rfl, rfl, hi, hi4, hPB⟩ := hrel
    clear HP1
    have HPB := Hid.in hPB
    obtain ⟨rp, rc, rfl, -⟩ := hPB.shape
    clear hPB
    by_cases hin : i < n ∧ i < 400
    · obtain ⟨hin1, hin2⟩ := hin
      have hiX : i < X.length := by rw [HX.out]; exact hin1
      obtain ⟨b, o, rfl, hc⟩ := (HSC.out.below HPB.out.bel) (by omega)
      obtain ⟨⟨c0, c1, c2, c3⟩, -⟩ := hc i X[i] (List.getElem?_eq_getElem hiX)
      clear hc
      generalize X[i] = x at *
      obtain ⟨kd, ax, tx, ux⟩ := x
      simp only at c0 c1 c2 c3
      go_upto_block 2 with fail
      obtain ⟨w2, hw2⟩ : ∃ w2, w2 = wr.alloc (.cells #[.int .i64 kd, .int .i64 ax, .int .i64 tx, .bool ux] 27) := ⟨_, rfl⟩
      rw [← hw2]
      have HO : Hid (Blk w2 wr.heap.size 27 #[.int .i64 kd, .int .i64 ax, .int .i64 tx, .bool ux]) := by rw [hw2]; exact Blk.new _ _ _
      have HP2 : Hid (PB w w2 q (.slice rp L.length rc) L) := by rw [hw2]; exact HPB.out.below (new_alloc _ _)
      clear hw2 HPB c0 c1 c2 c3
      generalize wr.heap.size = go at *
      go_cut [3, 4] (fun v3 v4 wx => ∃ (q' : Nat) (L' : List Si), v3 = .pointer (some ⟨q', 0, none⟩) ∧ PB w wx q' v4 L' ∧ Blk wx go 27 #[.int .i64 kd, .int .i64 ax, .int .i64 tx, .bool ux])
      case first =>
        by_cases hk : kd = 0 ∨ kd = 1 ∨ kd = 2
        · rcases hk with rfl | rfl | rfl
          · have o1 := (HO.out.cell 1).trans (show _ = some (.int .i64 ax) from rfl)
            have o2 := (HO.out.cell 2).trans (show _ = some (.int .i64 tx) from rfl)
            have o3 := (HO.out.cell 3).trans (show _ = some (.bool ux) from rfl)
            obtain ⟨rp', rc', er, hrow⟩ := HP2.out.shape
            injection er with er1 _ er2
            subst er1
            subst er2
            have HRA := Hid.in (radd_any rp L.length rc L ax tx ux w2 rfl HP2.out.bat.le HP2.out.bat.srt hrow)
            clear hrow
            go_wp2_with (go_at_call 7; refine Hid.out ?_)
            refine Lib.hid ?_
            refine HRA.out.mono ?_
            rintro E w3 ⟨v', rfl, hl3, hr3⟩
            have HO3 := Hid.in (HO.out.grow hl3)
            have HL3 := Hid.in hl3
            have HR3 := Hid.in hr3
            have HB3 := Hid.in (HP2.out.bat.below hl3)
            obtain ⟨vp, vn, vc, hvv⟩ : ∃ vp vn vc, v' = .slice vp vn vc := by
              rcases hr3 with ⟨-, e⟩ | ⟨-, ht⟩
              · exact ⟨_, _, _, e⟩
              · obtain ⟨pp, cc, ee, -⟩ := ht.shape
                exact ⟨_, _, _, ee⟩
            subst hvv
            clear hl3 hr3 o1 o2 o3 HRA
            have o1 := (HO3.out.cell 1).trans (show _ = some (.int .i64 ax) from rfl)
            have o2 := (HO3.out.cell 2).trans (show _ = some (.int .i64 tx) from rfl)
            have o3 := (HO3.out.cell 3).trans (show _ = some (.bool ux) from rfl)
            go_wp2_with (go_at_call 8; refine Hid.out ?_)
            refine Lib.hid ?_
            refine (add_any _ _ ax tx ux w3 HB3.out).mono ?_
            rintro E w4 ⟨rfl, hb4, hg4⟩
            have HP4 := Hid.in (HP2.out.added HL3.out HR3.out hb4 hg4)
            have HO4 := Hid.in (HO3.out.kept hg4 (fun e => blk_ne HO3.out HB3.out.blk (by decide) (by injection e)))
            clear hb4 hg4 o1 o2 o3 HB3 HR3 HL3
            generalize addE L ax tx = ee at *
            go_wp2_with fail
            go_meet
            case rel => exact ⟨_, _, rfl, HP4.out, HO4.out⟩
          · have o1 := (HO.out.cell 1).trans (show _ = some (.int .i64 ax) from rfl)
            have o2 := (HO.out.cell 2).trans (show _ = some (.int .i64 tx) from rfl)
            have o3 := (HO.out.cell 3).trans (show _ = some (.bool ux) from rfl)
            obtain ⟨rp', rc', er, hrow⟩ := HP2.out.shape
            injection er with er1 _ er2
            subst er1
            subst er2
            have HRA := Hid.in (radd_any rp L.length rc L ax tx ux w2 rfl HP2.out.bat.le HP2.out.bat.srt hrow)
            clear hrow
            go_wp2_with (go_at_call 7; refine Hid.out ?_)
            refine Lib.hid ?_
            refine HRA.out.mono ?_
            rintro E w3 ⟨v', rfl, hl3, hr3⟩
            have HO3 := Hid.in (HO.out.grow hl3)
            have HL3 := Hid.in hl3
            have HR3 := Hid.in hr3
            have HB3 := Hid.in (HP2.out.bat.below hl3)
            obtain ⟨vp, vn, vc, hvv⟩ : ∃ vp vn vc, v' = .slice vp vn vc := by
              rcases hr3 with ⟨-, e⟩ | ⟨-, ht⟩
              · exact ⟨_, _, _, e⟩
              · obtain ⟨pp, cc, ee, -⟩ := ht.shape
                exact ⟨_, _, _, ee⟩
            subst hvv
            clear hl3 hr3 o1 o2 o3 HRA
            have o1 := (HO3.out.cell 1).trans (show _ = some (.int .i64 ax) from rfl)
            have o2 := (HO3.out.cell 2).trans (show _ = some (.int .i64 tx) from rfl)
            have o3 := (HO3.out.cell 3).trans (show _ = some (.bool ux) from rfl)
            go_wp2_with (go_at_call 8; refine Hid.out ?_)
            refine Lib.hid ?_
            refine (add_any _ _ ax tx ux w3 HB3.out).mono ?_
            rintro E w4 ⟨rfl, hb4, hg4⟩
            have HP4 := Hid.in (HP2.out.added HL3.out HR3.out hb4 hg4)
            have HO4 := Hid.in (HO3.out.kept hg4 (fun e => blk_ne HO3.out HB3.out.blk (by decide) (by injection e)))
            clear hb4 hg4 o1 o2 o3 HB3 HR3 HL3
            generalize addE L ax tx = ee at *
            go_wp2_with fail
            go_meet
            case rel => exact ⟨_, _, rfl, HP4.out, HO4.out⟩
          · have o1 := (HO.out.cell 1).trans (show _ = some (.int .i64 ax) from rfl)
            have o2 := (HO.out.cell 2).trans (show _ = some (.int .i64 tx) from rfl)
            have o3 := (HO.out.cell 3).trans (show _ = some (.bool ux) from rfl)
            obtain ⟨rp', rc', er, hrow⟩ := HP2.out.shape
            injection er with er1 _ er2
            subst er1
            subst er2
            have HRA := Hid.in (radd_any rp L.length rc L ax tx ux w2 rfl HP2.out.bat.le HP2.out.bat.srt hrow)
            clear hrow
            go_wp2_with (go_at_call 7; refine Hid.out ?_)
            refine Lib.hid ?_
            refine HRA.out.mono ?_
            rintro E w3 ⟨v', rfl, hl3, hr3⟩
            have HO3 := Hid.in (HO.out.grow hl3)
            have HL3 := Hid.in hl3
            have HR3 := Hid.in hr3
            have HB3 := Hid.in (HP2.out.bat.below hl3)
            obtain ⟨vp, vn, vc, hvv⟩ : ∃ vp vn vc, v' = .slice vp vn vc := by
              rcases hr3 with ⟨-, e⟩ | ⟨-, ht⟩
              · exact ⟨_, _, _, e⟩
              · obtain ⟨pp, cc, ee, -⟩ := ht.shape
                exact ⟨_, _, _, ee⟩
            subst hvv
            clear hl3 hr3 o1 o2 o3 HRA
            have o1 := (HO3.out.cell 1).trans (show _ = some (.int .i64 ax) from rfl)
            have o2 := (HO3.out.cell 2).trans (show _ = some (.int .i64 tx) from rfl)
            have o3 := (HO3.out.cell 3).trans (show _ = some (.bool ux) from rfl)
            go_wp2_with (go_at_call 8; refine Hid.out ?_)
            refine Lib.hid ?_
            refine (add_any _ _ ax tx ux w3 HB3.out).mono ?_
            rintro E w4 ⟨rfl, hb4, hg4⟩
            have HP4 := Hid.in (HP2.out.added HL3.out HR3.out hb4 hg4)
            have HO4 := Hid.in (HO3.out.kept hg4 (fun e => blk_ne HO3.out HB3.out.blk (by decide) (by injection e)))
            clear hb4 hg4 o1 o2 o3 HB3 HR3 HL3
            generalize addE L ax tx = ee at *
            go_wp2_with fail
            go_meet
            case rel => exact ⟨_, _, rfl, HP4.out, HO4.out⟩
        · have hk0 : ¬ kd = 0 := fun e => hk (.inl e)
          have hk1 : ¬ kd = 1 := fun e => hk (.inr (.inl e))
          have hk2 : ¬ kd = 2 := fun e => hk (.inr (.inr e))
          clear hk
          by_cases hk3 : kd = 3
          · subst hk3
            go_wp2_with (go_at_call 9; refine Hid.out ?_)
            refine Lib.hid ?_
            refine (clear_any _ _ w2 HP2.out.bat).mono ?_
            rintro E w4 ⟨rfl, hb4, hg4⟩
            have HP4 := Hid.in (HP2.out.clear hb4 hg4)
            have HO4 := Hid.in (HO.out.kept hg4 (fun e => blk_ne HO.out HP2.out.bat.blk (by decide) (by injection e)))
            clear hb4 hg4
            go_wp2_with fail
            go_meet
            case rel => exact ⟨_, _, rfl, HP4.out, HO4.out⟩
          · by_cases hk4 : kd = 4
            · subst hk4
              go_wp2_with (go_at_call 10; refine Hid.out ?_)
              refine Lib.hid ?_
              refine (copy_any _ _ w2 HP2.out.bat).mono ?_
              rintro E w3 ⟨rfl, hb3, hl3⟩
              have HB3 := Hid.in hb3
              have HL3 := Hid.in hl3
              have HQ3 := Hid.in (HP2.out.bat.below hl3)
              have HO3 := Hid.in (HO.out.grow hl3)
              clear hb3 hl3
              go_wp2_with (go_at_call 9; refine Hid.out ?_)
              refine Lib.hid ?_
              refine (clear_any _ _ w3 HQ3.out).mono ?_
              rintro E w4 ⟨rfl, hb4, hg4⟩
              have HP4 := Hid.in (HP2.out.copied HB3.out HL3.out hg4)
              have HO4 := Hid.in (HO3.out.kept hg4 (fun e => blk_ne HO3.out HQ3.out.blk (by decide) (by injection e)))
              clear hb4 hg4
              go_wp2_with fail
              go_meet
              case rel => exact ⟨_, _, rfl, HP4.out, HO4.out⟩
            · by_cases hk5 : kd = 5
              · subst hk5
                go_wp2_with (go_at_call 11; refine Hid.out ?_)
                refine Lib.hid ?_
                refine (all_any _ _ w2 HP2.out.bat).mono ?_
                rintro E w3 ⟨v, rfl, ht3, hl3⟩
                have HL3 := Hid.in hl3
                clear hl3
                rcases ht3.2 with ⟨hv, hz⟩ | ⟨g, cap, cur, hv, hg, hb, hcl, -, hcs, -⟩
                · subst hv
                  clear ht3 hz
                  go_wp2_with fail
                  go_loopw [11] (fun v wr => v = .int .i64 0 ∧ wr = w3) (fun _ _ => 0)
                  case atStart => exact ⟨rfl, rfl⟩
                  case round =>
                    obtain ⟨rfl, hwr⟩ := hrel
                    rw [hwr]
                    clear hwr
                    go_wp2_with fail
                    go_meet
                    case rel => exact ⟨_, _, rfl, HP2.out.below HL3.out, HO.out.grow HL3.out⟩
                · rw [List.length_map] at hv hcl
                  subst hv
                  have HG := Hid.in hg
                  have HC3 : Hid (Blk w3 g 35 cur) := hb
                  have HCS := Hid.in hcs
                  have HCL := Hid.in hcl
                  have hL4 : L.length ≤ 4 := HP2.out.bat.le
                  clear ht3 hg hb hcl hcs
                  go_wp2_with fail
                  go_loopw [11] (fun v wr => ∃ (k : Nat) (cc : Array Value), v = .int .i64 k ∧ k ≤ L.length ∧ Blk wr g 35 cc ∧ cc.size = cap * 3 ∧ Below w2.heap.size w2 wr) (fun v _ => L.length - (intOf v).toNat)
                  case atStart => exact ⟨0, cur, rfl, Nat.zero_le _, HC3.out, HCS.out, HL3.out⟩
                  case round =>
                    obtain ⟨k, cc, rfl, hk, hbk, hck, hlk⟩ := hrel
                    by_cases hkl : k < L.length
                    · have hcx : k * 3 + 1 < cc.size := by rw [hck]; have := HCL.out; omega
                      have ck : wr.cell? ⟨g, k * 3 + 1, none⟩ = some cc[k * 3 + 1] := by rw [hbk.cell]; simp [hcx]
                      have fk : wr.frozen? ⟨g, k * 3 + 1, none⟩ = false := hbk.free _
                      have HBK := Hid.in hbk
                      have HCK := Hid.in hck
                      have HLK := Hid.in hlk
                      generalize cc[k * 3 + 1] = u at *
                      clear hbk hck hlk hcx
                      go_wp2_with fail
                      go_roundw
                      case rel => exact ⟨k + 1, _, by go_num, by omega, HBK.out.set _ _, by rw [Array.size_setIfInBounds]; exact HCK.out, HLK.out.trans (below_grown (grown_setCell _ _ _ _) HG.out HLK.out.size)⟩
                      case measure => simp [intOf]; omega
                    · have HLK := Hid.in hlk
                      clear hbk hck hlk
                      go_wp2_with fail
                      go_meet
                      case rel => exact ⟨_, _, rfl, HP2.out.below HLK.out, HO.out.grow HLK.out⟩
              · go_wp2_with fail
                go_meet
                case rel => exact ⟨_, _, rfl, HP2.out, HO.out⟩
      case rest =>
        obtain ⟨q', L', rfl, hP', hO'⟩ := hcut
        obtain ⟨rp', rc', rfl, hrow⟩ := hP'.shape
        have HP := Hid.in hP'
        have HR := Hid.in hrow
        have o1 := (hO'.cell 1).trans (show _ = some (.int .i64 ax) from rfl)
        clear hP' hO' hrow HP2 HO
        have hL4 : L'.length ≤ 4 := HP.out.bat.le
        go_wp2_with (go_at_call 12; refine Hid.out ?_)
        refine Lib.hid ?_
        refine (find_any _ _ ax wc HP.out.bat).mono ?_
        rintro E w5 ⟨rfl, nn, hw⟩
        have HP5 : Hid (PB w w5 q' (.slice rp' L'.length rc') L') := by rw [hw]; exact HP.out.drewN _
        have HR5 : Hid (Row3 w5 rp' (L'.map siV)) := by rw [hw]; exact HR.out.drewN _
        have o5 : w5.cell? ⟨go, 1, none⟩ = some (.int .i64 ax) := by rw [hw]; exact o1
        clear hw HP HR o1
        go_wp2_with (go_at_call 13; refine Hid.out ?_)
        refine Lib.hid ?_
        refine (refFind_any rp' L'.length rc' L' ax w5 rfl (by omega) HR5.out).mono ?_
        rintro E w6 ⟨rfl, hw⟩
        rw [hw]
        clear hw w6
        generalize fndI L' ax = fi at *
        generalize fndB L' ax = fb at *
        go_wp2_with (go_at_call 14; refine Hid.out ?_)
        refine Lib.hid ?_
        refine (len_any _ _ w5 HP5.out.bat).mono ?_
        rintro E w6 ⟨rfl, hw⟩
        rw [hw]
        clear hw w6
        go_wp2_with (go_at_call 11; refine Hid.out ?_)
        refine Lib.hid ?_
        refine (all_any _ _ w5 HP5.out.bat).mono ?_
        rintro E w7 ⟨v, rfl, ht, hb⟩
        have HP7 := Hid.in (HP5.out.below hb)
        have HR7 := Hid.in (HR5.out.below hb)
        obtain ⟨p7, c7, hv, -, -, hr⟩ := ht.row3
        rw [List.length_map] at hv
        subst hv
        have HA7 := Hid.in hr
        clear hr ht hb HP5 HR5 o5
        go_wp2_with (go_at_call 15; refine Hid.out ?_)
        refine Lib.hid ?_
        refine (sameSites_any p7 rp' L'.length c7 L'.length rc' L' L' w7 rfl rfl (by omega) (by omega) HA7.out HR7.out).mono ?_
        rintro E w8 ⟨⟨bt, rfl, hbt⟩, z, hw⟩
        obtain rfl : bt = true := hbt.2 rfl
        have HP8 : Hid (PB w w8 q' (.slice rp' L'.length rc') L') := by rw [hw]; exact HP7.out.drewN _
        clear hw hbt HP7 HR7 HA7
        go_wp2_with fail
        go_roundw
        case rel => exact ⟨q', i + 1, L', rfl, by go_num, by omega, by omega, HP8.out⟩
        case measure => simp [intOf]; omega
    · have HB := Hid.in HPB.out.bel
      by_cases hin1 : i < n
      · have hin2 : ¬ i < 400 := fun h => hin ⟨hin1, h⟩
        have hi400 : i = 400 := by omega
        subst hi400
        clear hin
        go_wp2_with (go_at_call 16; refine Hid.out ?_)
        refine Lib.hid ?_
        refine (awake_any wr).mono ?_
        rintro E w7 ⟨rfl, hb7⟩
        have HL7 := Hid.in (below_step HB.out hb7)
        clear hb7
        go_wp2_with fail
        go_ret
        exact ⟨rfl, HL7.out⟩
      · have hi400 : i = n := by omega
        subst hi400
        clear hin
        go_wp2_with (go_at_call 16; refine Hid.out ?_)
        refine Lib.hid ?_
        refine (awake_any wr).mono ?_
        rintro E w7 ⟨rfl, hb7⟩
        have HL7 := Hid.in (below_step HB.out hb7)
        clear hb7
        go_wp2_with fail
        go_ret
        exact ⟨rfl, HL7.out⟩
end Go.Proofs.Ytonkjeoepfkboaa
