/- Texts put together: PlyN. -/
import Derived.Test.YtnpaijbkhmnfpaaGreatKav
import Derived.Test.YtnpaijbkhmnfpaaGreatKbh
import Derived.Test.YtnpaijbkhmnfpaaGreatKas
import Derived.Test.YtnpaijbkhmnfpaaGreatKau
import Derived.Test.YtnpaijbkhmnfpaaGreatKar

/- Ours: HartPlays, walked. -/
namespace Go.Proofs.YtnpaijbkhmnfpaaGreat
open Go.RowKit Go.Maps

theorem i64_and1 (n : Int) : bits .and .i64 n 1 = n % 2 := by
  have h1 : (BitVec.ofInt 64 1).toNat = 2 ^ 1 - 1 := by decide
  have key : (BitVec.ofInt 64 n &&& BitVec.ofInt 64 1).toNat = (n % ((2 ^ 64 : Nat) : Int)).toNat % 2 ^ 1 := by
    rw [BitVec.toNat_and, BitVec.toNat_ofInt, h1, Nat.and_two_pow_sub_one_eq_mod]
  show IntKind.i64.wrap ((BitVec.ofInt 64 n &&& BitVec.ofInt 64 1).toNat : Nat) = n % 2
  rw [key, IntKind.wrap_i64]
  omega
theorem OwnV.offB {w : World} {B n c : Nat} {p : Option Addr} {xs : List Int} (h : OwnV w B (.slice p n c) xs) (G : Nat → Prop) (hG : ∀ j, G j → j < B ∨ w.heap.size ≤ j) : Off G p xs.length := fun h0 => by
  rcases h.shape with ⟨_, e⟩ | ⟨g, cap, e, ho⟩
  · rw [e] at h0; simp at h0
  · injection e with e
    refine ⟨g, 0, e, fun hg => ?_⟩
    have := ho.base
    have := ho.lt
    have := hG g hg
    omega
theorem Tryz.sz65 : (Tryz.prog.info? 65).map (·.size) = some 26 := by kernel_rfl
/-- what the reference's Step answers, of every hart (proved apart) -/
def RSteps : Prop := ∀ (H : Hs) (V : Value) (id t : Int) (p8 : Option Addr) (d : Nat) (xs : List Int) (hold : Bool) (w : World) (_ : HsOk 1000000 H) (G : Nat → Prop) (_ : ∀ j, G j → j < w.heap.size) (_ : HvN G w H V) (_ : Row w p8 xs) (_ : Off G p8 xs.length) (_ : xs.length ≤ 65536) (_ : Byt xs) (_ : Ris H.L) (tr : Option Nat) (_ : (tr = none ∧ t < 0) ∨ ∃ z : Nat, tr = some z ∧ t = z ∧ z ≤ 4294967295),
    Calls Tryz.prog 23 #[V, .int .i64 id, .slice p8 xs.length d, .bool hold, .int .i64 t] w fun e w' => RsIs G w (stpH id H xs hold tr) e w'
/-- where the law stands: both harts and the reference's at the same state -/
def PT (w wr : World) (q mg ga gs i : Nat) (p : Option Addr) (xs : List Int) : Prop :=
  ∃ (G : Nat → Prop) (h1 l1 b1 h2 l2 b2 : Nat) (H1 H2 : Hs) (S1 S2 : Array Value), TH w wr G q mg h1 l1 b1 0 H1 h2 l2 b2 1 H2 xs ∧ RF w wr G h1 h2 ga gs H1 H2 xs S1 S2 p ∧ HsOk i H1 ∧ HsOk i H2 ∧ Byt xs ∧ xs.length ≤ 2000

set_option maxRecDepth 8000 in
set_option maxHeartbeats 40000000 in
theorem hplays_walk (HRS : Hid RSteps) (p : Option Addr) (c pc other : Nat) (s : Option Addr) (e : Nat) (xs0 : List Int) (Z : List OpD) (w : World) (hc : xs0.length ≤ c) (hcm : c ≤ 9223372036854775807) (hr : Row w p xs0) (hby : Byt xs0) (hpc : pc ≤ 4294967295) (hoth : other ≤ 4294967295) (hZ : Z.length ≤ 9223372036854775807) (hsc : Scr w s Z) :
    Calls Tryz.prog 4 #[.slice p xs0.length c, .int .u32 pc, .int .u32 other, .slice s Z.length e] w fun e w' => e = .returned (.bool true) ∧ Below w.heap.size w w' := by
  have HC : Hid (∀ W, Below w.heap.size w W → Scr W s Z) := fun W hW => hsc.below hW
  have HXT : Hid (Row w p (xs0.take 2000)) := hr.take 2000
  have HXB : Hid (Byt (xs0.take 2000)) := byt_take hby 2000
  have hxl : (xs0.take 2000).length ≤ 2000 := by rw [List.length_take]; omega
  have HXE : Hid ((xs0.take 2000).length = min 2000 xs0.length) := List.length_take ..
  clear hsc hr hby
  generalize xs0.take 2000 = xs at *
  generalize xs0.length = n0 at *
  go_enter Tryz.func4, Tryz.ntmps4
  go_upto_if 28 with fail
  go_cut [0] (fun v W => v = .slice p xs.length c ∧ W = w)
  case first =>
    by_cases h2 : 2000 < n0
    · have hd : decide ((2000 : Int) < (n0 : Int)) = true := decide_eq_true (by omega)
      go_wp2_with fail
      go_meet
      case rel => exact ⟨by rw [HXE.out, Nat.min_eq_left (by omega)], rfl⟩
    · have hd : decide ((2000 : Int) < (n0 : Int)) = false := decide_eq_false (by omega)
      go_wp2_with fail
      go_meet
      case rel => exact ⟨by rw [HXE.out, Nat.min_eq_right (by omega)], rfl⟩
  case rest =>
    obtain ⟨rfl, hwc⟩ := hcut
    replace hwc := hwc.symm
    subst hwc
    go_wp2_with (go_at_call 8; refine Hid.out ?_)
    refine Lib.hid ?_
    refine (new_ok p xs.length c xs w rfl (by omega) HXT.out).mono ?_
    rintro e w1 ⟨q, mg, rfl, hm1, hb1⟩
    have HM1 := Hid.in hm1
    have HB1 := Hid.in hb1
    clear hm1 hb1
    go_wp2_with (go_at_call 21; refine Hid.out ?_)
    refine Lib.hid ?_
    refine (copy_any p xs.length c xs w1 rfl (by omega) (HXT.out.below HB1.out)).mono ?_
    rintro e w2 ⟨v2, rfl, hv2, hb2⟩
    have HM2 := Hid.in (HM1.out.below hb2)
    have HB2 := Hid.in (below_step HB1.out hb2)
    obtain ⟨pw, cw, rfl, hr2, -⟩ := hv2.slice
    have HOF := Hid.in (fun G hG => hv2.offB G hG)
    have HR2 := Hid.in hr2
    clear hr2
    have hmg2 : mg < w1.heap.size := HM1.out.own.lt
    have hw12 : w1.heap.size ≤ w2.heap.size := hb2.size
    clear hv2 hb2 HM1
    go_wp2_with (go_at_call 10; refine Hid.out ?_)
    refine Lib.hid ?_
    refine (hnew_any 0 pc w2).mono ?_
    rintro e w3 ⟨h1, l1, b1, rfl, hB3, hl3, h3a, h3b, h3c, h3d, hb3⟩
    have HK3 : Hid (HM w w3 (G3 h1 b1 mg) q mg h1 l1 b1 0 (newH pc) xs) := HM.new HM2.out HB2.out hB3 hl3 h3a h3b h3c h3d hb3
    have HR3 := Hid.in (HR2.out.below hb3)
    have hw23 : w2.heap.size ≤ w3.heap.size := hb3.size
    have hbb1 : w2.heap.size ≤ b1 := hl3.hb
    have hhh1 := h3a
    have hw13 : w1.heap.size ≤ w3.heap.size := Nat.le_trans hw12 hb3.size
    clear hB3 hl3 h3a h3b h3c h3d hb3 HM2 HR2
    go_wp2_with (go_at_call 10; refine Hid.out ?_)
    refine Lib.hid ?_
    refine (hnew_any 1 other w3).mono ?_
    rintro e w4 ⟨h2, l2, b2, rfl, hB4, hl4, h4a, -, -, -, hb4⟩
    have HT4 := Hid.in (TH.new HK3.out hB4 hl4 h4a hb4)
    have HR4 := Hid.in (HR3.out.below hb4)
    have hw34 : w3.heap.size ≤ w4.heap.size := hb4.size
    have hbb2 : w3.heap.size ≤ b2 := hl4.hb
    have hhh2 := h4a
    clear hB4 hl4 h4a hb4 HK3 HR3
    have HA5 := Hid.in (Blk.new w4 63 #[.pointer (some ⟨h1, 0, none⟩), .pointer (some ⟨h2, 0, none⟩)])
    have HN5 := Hid.in (new_alloc w4 (.cells #[.pointer (some ⟨h1, 0, none⟩), .pointer (some ⟨h2, 0, none⟩)] 63))
    have hs5 : (w4.alloc (.cells #[.pointer (some ⟨h1, 0, none⟩), .pointer (some ⟨h2, 0, none⟩)] 63)).heap.size = w4.heap.size + 1 := size_one ..
    go_upto_region 6 with fail
    generalize w4.alloc (.cells #[.pointer (some ⟨h1, 0, none⟩), .pointer (some ⟨h2, 0, none⟩)] 63) = w5 at *
    go_cut [13] (fun v W => ∃ (gs : Nat) (S1 S2 : Array Value), v = .pointer (some ⟨gs, 0, none⟩) ∧ Blk W gs 65 (S1 ++ S2) ∧ HvN (fun _ => True) W (newH pc) (.agg S1) ∧ HvN (fun _ => True) W (newH other) (.agg S2) ∧ w5.heap.size ≤ gs ∧ Below w5.heap.size w5 W)
    case first =>
      clear HT4 HR4 HA5 HN5 HOF HC HXT HXB HXE HRS
      go_wp2_with (go_at_call 22; refine Hid.out ?_)
      refine Lib.hid ?_
      refine (rnewN_any (fun _ => True) pc w5).mono ?_
      rintro e w6 ⟨V1, rfl, hv6, hb6⟩
      have HV6 := Hid.in hv6
      have HN6 := Hid.in hb6
      obtain ⟨pS1, cS1, pH1, cH1, pL1, cL1, rfl, -⟩ := hv6
      have hR1 : (newH pc).R.length = 8 := rfl
      generalize newH pc = X1 at *
      obtain ⟨st1, pc1, R1, SS1, hv1, L1⟩ := X1
      obtain ⟨r0, r1, r2, r3, r4, r5, r6, r7, rfl⟩ := eight hR1
      simp only [stA, List.getD_cons_zero, List.getD_cons_succ] at HV6 ⊢
      clear hb6 hR1
      go_wp2_with (go_at_call 22; refine Hid.out ?_)
      refine Lib.hid ?_
      refine (rnewN_any (fun _ => True) other w6).mono ?_
      rintro e w7 ⟨V2, rfl, hv7, hb7⟩
      have HV7 := Hid.in hv7
      have HU7 := Hid.in (HV6.out.below hb7)
      have HN7 := Hid.in (below_step HN6.out hb7)
      obtain ⟨pS2, cS2, pH2, cH2, pL2, cL2, rfl, -⟩ := hv7
      have hR2 : (newH other).R.length = 8 := rfl
      generalize newH other = X2 at *
      obtain ⟨st2, pc2, R2, SS2, hv2, L2⟩ := X2
      obtain ⟨t0, t1, t2, t3, t4, t5, t6, t7, rfl⟩ := eight hR2
      simp only [stA, List.getD_cons_zero, List.getD_cons_succ] at HV7 ⊢
      clear hb7 hR2 HN6 HV6
      have HZ7 := Hid.in (Blk.new w7 65 #[.int .u8 0, .int .u32 0, .int .u32 0, .int .u32 0, .int .u32 0, .int .u32 0, .int .u32 0, .int .u32 0, .int .u32 0, .int .u32 0, .slice none 0 0, .slice none 0 0, .slice none 0 0, .int .u8 0, .int .u32 0, .int .u32 0, .int .u32 0, .int .u32 0, .int .u32 0, .int .u32 0, .int .u32 0, .int .u32 0, .int .u32 0, .slice none 0 0, .slice none 0 0, .slice none 0 0])
      go_wp2_with (refine step_store_blk HZ7.out rfl 65 _ _ rfl rfl rfl #[.int .u8 st1, .int .u32 pc1, .int .u32 r0, .int .u32 r1, .int .u32 r2, .int .u32 r3, .int .u32 r4, .int .u32 r5, .int .u32 r6, .int .u32 r7, .slice pS1 SS1.length cS1, .slice pH1 hv1.length cH1, .slice pL1 L1.length cL1, .int .u8 st2, .int .u32 pc2, .int .u32 t0, .int .u32 t1, .int .u32 t2, .int .u32 t3, .int .u32 t4, .int .u32 t5, .int .u32 t6, .int .u32 t7, .slice pS2 SS2.length cS2, .slice pH2 hv2.length cH2, .slice pL2 L2.length cL2] rfl Tryz.sz65 rfl (by rw [List.all_toArray]; rfl) ?_; intro w8 hB8 hg8; have HB8 := Hid.in hB8; have HG8 := Hid.in hg8; clear hB8 hg8)
      go_meet
      case rel =>
        have hz := HN7.out.size
        have hb8 := HN7.out.alloc hz (.cells #[.int .u8 0, .int .u32 0, .int .u32 0, .int .u32 0, .int .u32 0, .int .u32 0, .int .u32 0, .int .u32 0, .int .u32 0, .int .u32 0, .slice none 0 0, .slice none 0 0, .slice none 0 0, .int .u8 0, .int .u32 0, .int .u32 0, .int .u32 0, .int .u32 0, .int .u32 0, .int .u32 0, .int .u32 0, .int .u32 0, .int .u32 0, .slice none 0 0, .slice none 0 0, .slice none 0 0] 65)
        have hb9 := hb8.grown HG8.out hb8.size (fun k hk => by injection hk with hk; omega)
        have hk8 : Below w7.heap.size w7 w8 := (new_alloc w7 (.cells #[.int .u8 0, .int .u32 0, .int .u32 0, .int .u32 0, .int .u32 0, .int .u32 0, .int .u32 0, .int .u32 0, .int .u32 0, .int .u32 0, .slice none 0 0, .slice none 0 0, .slice none 0 0, .int .u8 0, .int .u32 0, .int .u32 0, .int .u32 0, .int .u32 0, .int .u32 0, .int .u32 0, .int .u32 0, .int .u32 0, .int .u32 0, .slice none 0 0, .slice none 0 0, .slice none 0 0] 65)).grown HG8.out (new_alloc w7 _).size (fun k hk => by injection hk with hk; omega)
        exact ⟨w7.heap.size, #[.int .u8 st1, .int .u32 pc1, .int .u32 r0, .int .u32 r1, .int .u32 r2, .int .u32 r3, .int .u32 r4, .int .u32 r5, .int .u32 r6, .int .u32 r7, .slice pS1 SS1.length cS1, .slice pH1 hv1.length cH1, .slice pL1 L1.length cL1], #[.int .u8 st2, .int .u32 pc2, .int .u32 t0, .int .u32 t1, .int .u32 t2, .int .u32 t3, .int .u32 t4, .int .u32 t5, .int .u32 t6, .int .u32 t7, .slice pS2 SS2.length cS2, .slice pH2 hv2.length cH2, .slice pL2 L2.length cL2], rfl, HB8.out, HU7.out.below hk8, HV7.out.below hk8, hz, hb9⟩
    case rest =>
      obtain ⟨gs, S1, S2, rfl, hsb, hs1, hs2, hg5, hb5⟩ := hcut
      have HPT : Hid (PT w wc q mg w4.heap.size gs 0 pw xs) := by
        have hb9 := below_step HN5.out hb5
        have hz := hb5.size
        have hbw := HT4.out.k1.bel.size
        refine ⟨_, h1, l1, b1, h2, l2, b2, _, _, S1, S2, HT4.out.wide hb9 (Nat.le_refl _) (by omega) (by omega) hsb.lt, ⟨HA5.out.grow hb5, hsb, hs1.less (fun _ _ => trivial), hs2.less (fun _ _ => trivial), HR4.out.below hb9, HOF.out _ ?_, .inr (.inl rfl), .inr (.inr rfl), hbw, by omega⟩, newH_ok pc hpc, newH_ok other hoth, HXB.out, hxl⟩
        rintro j (((e | e | e) | e | e) | e | e) <;> omega
      generalize w4.heap.size = ga at *
      clear hsb hs1 hs2 hg5 hb5 HA5 HN5 HT4 HR4 HOF hs5 HB1 hbb1 hbb2 hhh1 hhh2 hw12 hw13 hw23 hw34 hmg2 HXT HXE
      go_wp2_with fail
      go_loopw [14, 11] (fun vi vw wr => ∃ (i : Nat) (p' : Option Addr) (ys : List Int) (c' : Nat), vi = .int .i64 i ∧ vw = .slice p' ys.length c' ∧ i ≤ 300 ∧ PT w wr q mg ga gs i p' ys) (fun vi _ _ => 300 - (intOf vi).toNat)
      case atStart => exact ⟨0, pw, xs, cw, rfl, rfl, by decide, HPT.out⟩
      case round =>
        obtain ⟨i, p', ys, c', rfl, rfl, hi, hpt⟩ := hrel
        clear HPT
        obtain ⟨G, h1, l1, b1, h2, l2, b2, H1, H2, S1, S2, hth, hrf, ok1, ok2, hby, hyl⟩ := hpt
        have HTH := Hid.in hth
        have HRF := Hid.in hrf
        have HOK1 := Hid.in ok1
        have HOK2 := Hid.in ok2
        have HBY := Hid.in hby
        clear hth hrf ok1 ok2 hby HXB
        by_cases hlt : i < Z.length
        · have hd1 : decide ((i : Int) < (Z.length : Int)) = true := decide_eq_true (by omega)
          by_cases hlt4 : i < 300
          · have hd2 : decide ((i : Int) < 300) = true := decide_eq_true (by omega)
            obtain ⟨⟨kind, on, hold, trap, at_, xr, xd, zs⟩, hX⟩ : ∃ X, Z[i]? = some X := ⟨_, List.getElem?_eq_getElem hlt⟩
            have HW : Hid (∀ W, Below w.heap.size w W → OpW W ⟨kind, on, hold, trap, at_, xr, xd, zs⟩) := fun W hW' => by
              obtain ⟨sb', so', e1, hops'⟩ := HC.out W hW' (by omega)
              exact (hops' i _ hX).2
            obtain ⟨sb, so, rfl, hops⟩ := HC.out wr HTH.out.k1.bel (by omega)
            obtain ⟨⟨s0, s1, s2, s3, s4, s5⟩, -⟩ := hops i _ hX
            dsimp only at s0 s1 s2 s3 s4 s5
            clear hops hX
            obtain ⟨jn, hjn, h01⟩ : ∃ jn : Int, bits .and .i64 on 1 = jn ∧ (jn = 0 ∨ jn = 1) := ⟨_, rfl, by rw [i64_and1]; omega⟩
            have HT6 := Hid.in (HTH.out.below (new_alloc wr (.cells #[.int .i64 kind, .int .i64 on, .bool hold, .int .i32 trap, .int .i64 at_, .slice xr zs.length xd] 67)))
            have HR6 := Hid.in (HRF.out.below (new_alloc wr (.cells #[.int .i64 kind, .int .i64 on, .bool hold, .int .i32 trap, .int .i64 at_, .slice xr zs.length xd] 67)))
            have hk0 := Blk.new wr 67 #[.int .i64 kind, .int .i64 on, .bool hold, .int .i32 trap, .int .i64 at_, .slice xr zs.length xd]
            have t0 := hk0.cell 0
            have t1 := hk0.cell 1
            clear HTH HRF
            go_upto_region 13 with fail
            generalize wr.alloc (.cells #[.int .i64 kind, .int .i64 on, .bool hold, .int .i32 trap, .int .i64 at_, .slice xr zs.length xd] 67) = w6 at *
            generalize wr.heap.size = ob at *
            clear s0 s1 s2 s3 s4 s5
            go_upto_block 2 with fail
            clear hjn
            go_cut [11, 17, 18, 19, 20, 21, 22, 23, 24] (fun vw _ _ _ _ _ _ _ _ wx => ∃ (p' : Option Addr) (ys : List Int) (c' : Nat), vw = .slice p' ys.length c' ∧ PT w wx q mg ga gs (i + 1) p' ys)
            case first =>
              have t2 := hk0.cell 2
              have t3 := hk0.cell 3
              have t4 := hk0.cell 4
              have t5 := hk0.cell 5
              have HK0 := Hid.in hk0
              clear hk0 t0 t1
              by_cases hk1 : kind = 1
              · subst hk1
                rcases h01 with rfl | rfl
                · as_aux_lemma =>
                    clear t4 t5
                    have HKO : Hid (Blk w6 ob 67 #[.int .i64 1, .int .i64 on, .bool hold, .int .i32 trap, .int .i64 at_, .slice xr zs.length xd]) := HK0.out
                    clear HK0
                    obtain ⟨tr, htr⟩ : ∃ tr : Option Nat, tr = if trap < 0 then none else some trap.toNat := ⟨_, rfl⟩
                    have ht32 := (HW.out w6 HT6.out.k1.bel).t32
                    dsimp only at ht32
                    have HTV : Hid (∀ W, Calls Tryz.prog 12 #[.int .i32 trap] W fun e w' => ∃ cc, e = .returned (.func (.func 46) #[] #[.pointer (some ⟨cc, 0, none⟩)]) ∧ TrV w' (.func (.func 46) #[] #[.pointer (some ⟨cc, 0, none⟩)]) tr ∧ Below W.heap.size W w') := fun W => by
                      refine (trap_any trap W).mono ?_
                      rintro e w' ⟨rfl, rfl⟩
                      exact ⟨_, rfl, .inr ⟨_, trap, rfl, (Blk.new W 21 #[.int .i32 trap]).cell 0, ht32.2, htr⟩, new_alloc _ _⟩
                    have HTM : Hid ((tr = none ∧ max trap (-1) < 0) ∨ ∃ z : Nat, tr = some z ∧ max trap (-1) = z ∧ z ≤ 4294967295) := by
                      by_cases e : trap < 0
                      · rw [if_pos e] at htr; exact .inl ⟨htr, by omega⟩
                      · rw [if_neg e] at htr; exact .inr ⟨trap.toNat, htr, by omega, by omega⟩
                    have HTZ : Hid (∀ z, tr = some z → z ≤ 4294967295) := fun z hz => by
                      rcases HTM.out with ⟨e, -⟩ | ⟨z', e, -, hz'⟩
                      · rw [hz] at e; cases e
                      · rw [hz] at e; injection e with e; omega
                    clear htr
                    have HRIS := Hid.in HT6.out.k1.hat.lin.ris
                    have HSO : Hid (StOk (i + 1) ys.length (stpH 0 H1 ys hold tr)) := stpH_ok HOK1.out HBY.out HTZ.out
                    have HK : Hid (∀ W, Blk W ga 63 #[.pointer (some ⟨h1, 0, none⟩), .pointer (some ⟨h2, 0, none⟩)] → Blk W ob 67 #[.int .i64 1, .int .i64 on, .bool hold, .int .i32 trap, .int .i64 at_, .slice xr zs.length xd] → W.cell? ⟨ga, 0, none⟩ = some (.pointer (some ⟨h1, 0, none⟩)) ∧ W.cell? ⟨ob, 2, none⟩ = some (.bool hold) ∧ W.cell? ⟨ob, 3, none⟩ = some (.int .i32 trap)) := fun W e1 e2 => ⟨e1.cell 0, e2.cell 2, e2.cell 3⟩
                    have HSTP : Hid (∀ W v, TH w W G q mg h1 l1 b1 0 H1 h2 l2 b2 1 H2 ys → TrV W v tr → Calls Tryz.prog 11 #[.pointer (some ⟨h1, 0, none⟩), .pointer (some ⟨q, 0, none⟩), .bool hold, v] W fun e w' => ∃ vv, e = .returned (.tuple #[vv, .int .i64 0]) ∧ EOwn 41 w' W.heap.size vv (stpH 0 H1 ys hold tr).ev ∧ TH w w' G q mg h1 l1 b1 0 (stpH 0 H1 ys hold tr).h h2 l2 b2 1 H2 (stpH 0 H1 ys hold tr).xs ∧ Keeps (G3 h1 b1 mg) W w') := fun W v hT hv => by
                      refine (hT.step hold v tr (by omega) HBY.out (HOK1.out.more (by omega)) hv).mono ?_
                      rintro e w' ⟨vv, rfl, ho, hT2, hk2⟩
                      exact ⟨vv, rfl, ho, hT2, hk2⟩
                    obtain ⟨y0, y1, y2⟩ := HK.out w6 HR6.out.arr HKO.out
                    go_upto_region 16 with fail
                    generalize hs0 : stpH 0 H1 ys hold tr = s at *
                    have HS0 := Hid.in hs0
                    clear hs0
                    go_region_held3 (fun W => W.cell? ⟨ga, 0, none⟩ = some (.pointer (some ⟨h1, 0, none⟩)) ∧ W.cell? ⟨ob, 2, none⟩ = some (.bool hold) ∧ W.cell? ⟨ob, 3, none⟩ = some (.int .i32 trap)) (first | (with_reducible exact hk7) | (with_reducible exact hk8) | go_keep)
                      (first
                        | (go_at_call 12; (with_reducible refine (HTV.out _).mono ?_); rintro E w7 ⟨cc, rfl, htv7, hb7⟩; have HB7 := Hid.in (below_step (below_draws (below_self w6) 1) hb7); have HT7 := Hid.in (HT6.out.below HB7.out); have HR7 := Hid.in (HR6.out.below HB7.out); have HO7 := Hid.in (HKO.out.grow HB7.out); have HV7 := Hid.in htv7; have hk7 := HK.out w7 HR7.out.arr HO7.out; clear hb7 htv7)
                        | (go_at_call 11; (with_reducible refine (HSTP.out _ _ HT7.out HV7.out).mono ?_); rintro E w8 ⟨vv, rfl, ho8, hT8, hk8'⟩; have HT8 := Hid.in hT8; have HR8 := Hid.in (HR7.out.keeps HT7.out.k1 hk8'); have HO8 := Hid.in ((hk8'.block ob HO7.out.lt (HT7.out.k1.no3 (show w7.heap[ob]? = some (.cells _ 67 (0, 0)) from HO7.out) (by decide) (by decide))).trans HO7.out); have HP8 : Hid (Blk w8 ob 67 #[.int .i64 1, .int .i64 on, .bool hold, .int .i32 trap, .int .i64 at_, .slice xr zs.length xd]) := HO8.out; have HE8 := Hid.in ho8; have hk8 := HK.out w8 HR8.out.arr HP8.out; have hgs : gs < w7.heap.size := HR7.out.sb.lt; clear ho8 hT8 hk8'))
                    clear y0 y1 y2 hk7 HT6 HR6 HT7 HR7 HO7 HO8 HV7 HTV HSTP HKO HB7
                    have hev := HE8.out.short
                    have hgs8 : gs < w8.heap.size := HR8.out.sb.lt
                    obtain ⟨pv, cv, rfl, -, -, -⟩ := HE8.out.row7
                    obtain ⟨hk81, hk82, hk83⟩ := hk8
                    clear hk81
                    go_upto_region 17 with fail
                    go_cut [19, 20, 21] (fun v19 v20 v21 wx => ∃ (gb : Nat) (S8 : Array Value) (p8 : Option Addr) (c8 : Nat) (pe : Option Addr) (ce : Nat), v19 = .pointer (some ⟨gb, 0, none⟩) ∧ v20 = .slice p8 s.xs.length c8 ∧ v21 = .slice pe s.ev.length ce ∧ R17 G w8 wx gb s S8 p8 pe ce)
                    case first =>
                      as_aux_lemma =>
                        obtain ⟨r0, r1, r2, r3, r4, r5, r6, r7, pS, cS, pH, cH, pL, cL, hS⟩ := HR8.out.s1.cells HOK1.out.lR
                        subst hS
                        have hdo := fun W (G' : Nat → Prop) (hb : Below w8.heap.size w8 W) hG' hv ho => HRS.out H1 (.agg #[.int .u8 H1.st, .int .u32 H1.pc, .int .u32 r0, .int .u32 r1, .int .u32 r2, .int .u32 r3, .int .u32 r4, .int .u32 r5, .int .u32 r6, .int .u32 r7, .slice pS H1.S.length cS, .slice pH H1.hv.length cH, .slice pL H1.L.length cL]) 0 (max trap (-1)) p' c' ys hold W (HOK1.out.more (by omega)) G' hG' hv (HR8.out.row.below hb) ho (by omega) HBY.out HRIS.out tr HTM.out
                        rw [HS0.out] at hdo
                        obtain ⟨e0, e1, e2, e3, e4, e5, e6, e7, e8, e9, e10, e11, e12⟩ := cells_lo HR8.out.sb
                        have kr0 := fun d os => cell_regrown e0 d os
                        have kr1 := fun d os => cell_regrown e1 d os
                        have kr2 := fun d os => cell_regrown e2 d os
                        have kr3 := fun d os => cell_regrown e3 d os
                        have kr4 := fun d os => cell_regrown e4 d os
                        have kr5 := fun d os => cell_regrown e5 d os
                        have kr6 := fun d os => cell_regrown e6 d os
                        have kr7 := fun d os => cell_regrown e7 d os
                        have kr8 := fun d os => cell_regrown e8 d os
                        have kr9 := fun d os => cell_regrown e9 d os
                        have kr10 := fun d os => cell_regrown e10 d os
                        have kr11 := fun d os => cell_regrown e11 d os
                        have kr12 := fun d os => cell_regrown e12 d os
                        have kr13 := fun d os => cell_regrown hk82 d os
                        have kr14 := fun d os => cell_regrown hk83 d os
                        have hwr : IntKind.i64.wrap (max trap (-1)) = max trap (-1) := by rw [IntKind.wrap_i64]; omega
                        refine wp_region_noPanic ?_
                        refine wp_region_sink 9 [17] 11 (by kernel_rfl) (by kernel_rfl) (by kernel_rfl) (by kernel_rfl) (by kernel_rfl) (fun _ _ _ _ _ h => h) ?_
                        simp only [List.take_succ_cons, List.take_zero]
                        iterate 9 (go_big_quiet_step (fail))
                        refine wpQuiet_nil ?_
                        rintro _ ⟨⟨dq, osq⟩, rfl⟩
                        have HQ := Hid.in (below_regrown w8 dq osq)
                        generalize Go.Sort.grow (redrawn w8 dq) osq = w9 at HQ ⊢
                        clear e0 kr0 e1 kr1 e2 kr2 e3 kr3 e4 kr4 e5 kr5 e6 kr6 e7 kr7 e8 kr8 e9 kr9 e10 kr10 e11 kr11 e12 kr12 kr13 kr14 hk82 hk83
                        refine wpAnyG_takeW (i := 9) (v := .int .i32 (max trap (-1))) rfl (by kernel_rfl) (by kernel_rfl) (by kernel_rfl) (fun _ _ _ h => h) (Closed.picked (ex := [17]) (List.range 9) _ (by kernel_rfl) (Closed.start _)) (by kernel_rfl) (fun W => by go_simp; try exact hwr) ?_
                        refine wpAnyG_takeW (i := 10) (v := .int .i64 (max trap (-1))) rfl (by kernel_rfl) (by kernel_rfl) (by kernel_rfl) (fun _ _ _ h => h) ((Closed.picked (ex := [17]) (List.range 9) _ (by kernel_rfl) (Closed.start _)).step (j := 9) (by kernel_rfl)) (by kernel_rfl) (fun W => by go_simp; try exact hwr) ?_
                        refine wpAnyG_two (i := 11) (j := 16) (by kernel_rfl) rfl rfl (fun K hK => ?_) (fun K hK => ?_)
                        · as_aux_lemma =>
                              go_simp
                              go_at_call 23
                              refine (hdo _ G HQ.out (fun j hj => Nat.lt_of_lt_of_le (HT8.out.k1.lt j hj) HQ.out.size) (HR8.out.s1.below HQ.out) HR8.out.off).mono ?_
                              rintro e_ w10 ⟨V8, p8, c8, v8, rfl, hv10, hr10, ho10, he10, hb10⟩
                              obtain ⟨S8, hS8⟩ : ∃ S, V8 = .agg S := by
                                obtain ⟨_, _, _, _, _, _, e, -⟩ := hv10
                                exact ⟨_, e⟩
                              subst hS8
                              obtain ⟨t0, t1, t2, t3, t4, t5, t6, t7, qS, dS, qH, dH, qL, dL, hS8⟩ := hv10.cells HSO.out.h.lR
                              subst hS8
                              obtain ⟨pe, ce, hve, -, -, -⟩ := he10.row7
                              subst hve
                              have HV10 := Hid.in (And.intro hv10 (And.intro hr10 (And.intro ho10 (he10.lower HQ.out.size))))
                              replace HQ := Hid.in (below_step HQ.out hb10)
                              refine hK.out _ _ (regrown_of_below HQ.out) (fun _ => ?_)
                              clear hK K hv10 hr10 ho10 he10 hb10
                              refine wpAnyG_takeW (i := 12) (v := .tuple #[.agg #[.int .u8 s.h.st, .int .u32 s.h.pc, .int .u32 t0, .int .u32 t1, .int .u32 t2, .int .u32 t3, .int .u32 t4, .int .u32 t5, .int .u32 t6, .int .u32 t7, .slice qS s.h.S.length dS, .slice qH s.h.hv.length dH, .slice qL s.h.L.length dL], .slice p8 s.xs.length c8, .slice pe s.ev.length ce]) rfl (by kernel_rfl) (by kernel_rfl) (by kernel_rfl) (fun _ _ _ h => h) ((((Closed.picked (ex := [17]) (List.range 9) _ (by kernel_rfl) (Closed.start _)).step (j := 9) (by kernel_rfl)).step (j := 10) (by kernel_rfl)).step (j := 11) (by kernel_rfl)) (by kernel_rfl) (fun W => by go_simp; try exact hwr) ?_
                              refine wpAnyG_takeW (i := 13) (v := .agg #[.int .u8 s.h.st, .int .u32 s.h.pc, .int .u32 t0, .int .u32 t1, .int .u32 t2, .int .u32 t3, .int .u32 t4, .int .u32 t5, .int .u32 t6, .int .u32 t7, .slice qS s.h.S.length dS, .slice qH s.h.hv.length dH, .slice qL s.h.L.length dL]) rfl (by kernel_rfl) (by kernel_rfl) (by kernel_rfl) (fun _ _ _ h => h) (((((Closed.picked (ex := [17]) (List.range 9) _ (by kernel_rfl) (Closed.start _)).step (j := 9) (by kernel_rfl)).step (j := 10) (by kernel_rfl)).step (j := 11) (by kernel_rfl)).step (j := 12) (by kernel_rfl)) (by kernel_rfl) (fun W => by go_simp; try exact hwr) ?_
                              refine wpAnyG_takeW (i := 14) (v := .slice p8 s.xs.length c8) rfl (by kernel_rfl) (by kernel_rfl) (by kernel_rfl) (fun _ _ _ h => h) ((((((Closed.picked (ex := [17]) (List.range 9) _ (by kernel_rfl) (Closed.start _)).step (j := 9) (by kernel_rfl)).step (j := 10) (by kernel_rfl)).step (j := 11) (by kernel_rfl)).step (j := 12) (by kernel_rfl)).step (j := 13) (by kernel_rfl)) (by kernel_rfl) (fun W => by go_simp; try exact hwr) ?_
                              refine wpAnyG_takeW (i := 15) (v := .slice pe s.ev.length ce) rfl (by kernel_rfl) (by kernel_rfl) (by kernel_rfl) (fun _ _ _ h => h) (((((((Closed.picked (ex := [17]) (List.range 9) _ (by kernel_rfl) (Closed.start _)).step (j := 9) (by kernel_rfl)).step (j := 10) (by kernel_rfl)).step (j := 11) (by kernel_rfl)).step (j := 12) (by kernel_rfl)).step (j := 13) (by kernel_rfl)).step (j := 14) (by kernel_rfl)) (by kernel_rfl) (fun W => by go_simp; try exact hwr) ?_
                              refine wpAnyG_one (i := 16) (by kernel_rfl) rfl (fun K hK => ?_)
                              go_simp
                              refine hK.out _ _ (regrown_of_below (below_alloc HQ.out _)) (fun _ => ?_)
                              clear hK K
                              have HA := Hid.in (Blk.new w10 50 #[.int .u8 0, .int .u32 0, .int .u32 0, .int .u32 0, .int .u32 0, .int .u32 0, .int .u32 0, .int .u32 0, .int .u32 0, .int .u32 0, .slice none 0 0, .slice none 0 0, .slice none 0 0])
                              have HN := Hid.in (new_alloc w10 (.cells #[.int .u8 0, .int .u32 0, .int .u32 0, .int .u32 0, .int .u32 0, .int .u32 0, .int .u32 0, .int .u32 0, .int .u32 0, .int .u32 0, .slice none 0 0, .slice none 0 0, .slice none 0 0] 50))
                              generalize w10.alloc (.cells #[.int .u8 0, .int .u32 0, .int .u32 0, .int .u32 0, .int .u32 0, .int .u32 0, .int .u32 0, .int .u32 0, .int .u32 0, .int .u32 0, .slice none 0 0, .slice none 0 0, .slice none 0 0] 50) = w11 at *
                              refine wpAnyG_last (i := 17) (by kernel_rfl) rfl rfl (fun K hK => ?_)
                              refine oper_store_any HA.out (by rfl) 50 _ _ (by rfl) (by rfl) (by rfl) [.int .u8 s.h.st, .int .u32 s.h.pc, .int .u32 t0, .int .u32 t1, .int .u32 t2, .int .u32 t3, .int .u32 t4, .int .u32 t5, .int .u32 t6, .int .u32 t7, .slice qS s.h.S.length dS, .slice qH s.h.hv.length dH, .slice qL s.h.L.length dL] (by rfl) Tryz.sz50 rfl rfl ?_
                              intro wA hbA hgA
                              refine hK.out _ _ ?_
                              clear hK K
                              have HF := Hid.in (fin17a HV10.out HN.out HQ.out hbA hgA)
                              clear hbA hgA HA HV10 HQ HN
                              refine wpAnyG_takeW (i := 18) (v := .slice p8 s.xs.length c8) rfl (by kernel_rfl) (by kernel_rfl) (by kernel_rfl) (fun _ _ _ h => h) ((((((((((Closed.picked (ex := [17]) (List.range 9) _ (by kernel_rfl) (Closed.start _)).step (j := 9) (by kernel_rfl)).step (j := 10) (by kernel_rfl)).step (j := 11) (by kernel_rfl)).step (j := 12) (by kernel_rfl)).step (j := 13) (by kernel_rfl)).step (j := 14) (by kernel_rfl)).step (j := 15) (by kernel_rfl)).step (j := 16) (by kernel_rfl)).step (j := 17) (by kernel_rfl)) (by kernel_rfl) (fun W => by go_simp; try exact hwr) ?_
                              refine wpAnyG_takeW (i := 19) (v := .slice pe s.ev.length ce) rfl (by kernel_rfl) (by kernel_rfl) (by kernel_rfl) (fun _ _ _ h => h) (((((((((((Closed.picked (ex := [17]) (List.range 9) _ (by kernel_rfl) (Closed.start _)).step (j := 9) (by kernel_rfl)).step (j := 10) (by kernel_rfl)).step (j := 11) (by kernel_rfl)).step (j := 12) (by kernel_rfl)).step (j := 13) (by kernel_rfl)).step (j := 14) (by kernel_rfl)).step (j := 15) (by kernel_rfl)).step (j := 16) (by kernel_rfl)).step (j := 17) (by kernel_rfl)).step (j := 18) (by kernel_rfl)) (by kernel_rfl) (fun W => by go_simp; try exact hwr) ?_
                              refine wpAnyG_done (by kernel_rfl) ?_ _
                              refine NoPanic.normal ?_
                              go_wp2_with fail
                              go_meet
                              case rel => exact ⟨_, _, p8, c8, pe, ce, rfl, rfl, rfl, HF.out⟩
                        · as_aux_lemma =>
                              go_simp
                              refine hK.out _ _ (regrown_of_below (below_alloc HQ.out _)) (fun _ => ?_)
                              clear hK K
                              have HA := Hid.in (Blk.new w9 50 #[.int .u8 0, .int .u32 0, .int .u32 0, .int .u32 0, .int .u32 0, .int .u32 0, .int .u32 0, .int .u32 0, .int .u32 0, .int .u32 0, .slice none 0 0, .slice none 0 0, .slice none 0 0])
                              have HGA : Hid (w8.heap.size ≤ w9.heap.size) := HQ.out.size
                              replace HQ := Hid.in (below_alloc HQ.out (.cells #[.int .u8 0, .int .u32 0, .int .u32 0, .int .u32 0, .int .u32 0, .int .u32 0, .int .u32 0, .int .u32 0, .int .u32 0, .int .u32 0, .slice none 0 0, .slice none 0 0, .slice none 0 0] 50))
                              generalize w9.alloc (.cells #[.int .u8 0, .int .u32 0, .int .u32 0, .int .u32 0, .int .u32 0, .int .u32 0, .int .u32 0, .int .u32 0, .int .u32 0, .int .u32 0, .slice none 0 0, .slice none 0 0, .slice none 0 0] 50) = w11 at *
                              generalize w9.heap.size = gb at *
                              refine wpAnyG_one (i := 11) (by kernel_rfl) rfl (fun K hK => ?_)
                              go_simp
                              go_at_call 23
                              refine (hdo _ (fun j => G j ∨ j = gb ∨ j = gb) HQ.out (by rintro j (hj | rfl | rfl); exact Nat.lt_of_lt_of_le (HT8.out.k1.lt j hj) HQ.out.size; all_goals exact HA.out.lt) (HR8.out.s1.wide HQ.out HGA.out HGA.out) (HR8.out.off.wideB HR8.out.row.lt0 HGA.out HGA.out)).mono ?_
                              rintro e_ w10 ⟨V8, p8, c8, v8, rfl, hv10, hr10, ho10, he10, hb10⟩
                              obtain ⟨S8, hS8⟩ : ∃ S, V8 = .agg S := by
                                obtain ⟨_, _, _, _, _, _, e, -⟩ := hv10
                                exact ⟨_, e⟩
                              subst hS8
                              obtain ⟨t0, t1, t2, t3, t4, t5, t6, t7, qS, dS, qH, dH, qL, dL, hS8⟩ := hv10.cells HSO.out.h.lR
                              subst hS8
                              obtain ⟨pe, ce, hve, -, -, -⟩ := he10.row7
                              subst hve
                              have HV10 := Hid.in (And.intro hv10 (And.intro hr10 (And.intro ho10 (he10.lower HQ.out.size))))
                              replace HA := Hid.in (HA.out.grow hb10)
                              replace HQ := Hid.in (below_step HQ.out hb10)
                              refine hK.out _ _ (regrown_of_below HQ.out) (fun _ => ?_)
                              clear hK K hv10 hr10 ho10 he10 hb10
                              refine wpAnyG_takeW (i := 12) (v := .tuple #[.agg #[.int .u8 s.h.st, .int .u32 s.h.pc, .int .u32 t0, .int .u32 t1, .int .u32 t2, .int .u32 t3, .int .u32 t4, .int .u32 t5, .int .u32 t6, .int .u32 t7, .slice qS s.h.S.length dS, .slice qH s.h.hv.length dH, .slice qL s.h.L.length dL], .slice p8 s.xs.length c8, .slice pe s.ev.length ce]) rfl (by kernel_rfl) (by kernel_rfl) (by kernel_rfl) (fun _ _ _ h => h) (((((Closed.picked (ex := [17]) (List.range 9) _ (by kernel_rfl) (Closed.start _)).step (j := 9) (by kernel_rfl)).step (j := 10) (by kernel_rfl)).step (j := 16) (by kernel_rfl)).step (j := 11) (by kernel_rfl)) (by kernel_rfl) (fun W => by go_simp; try exact hwr) ?_
                              refine wpAnyG_takeW (i := 13) (v := .agg #[.int .u8 s.h.st, .int .u32 s.h.pc, .int .u32 t0, .int .u32 t1, .int .u32 t2, .int .u32 t3, .int .u32 t4, .int .u32 t5, .int .u32 t6, .int .u32 t7, .slice qS s.h.S.length dS, .slice qH s.h.hv.length dH, .slice qL s.h.L.length dL]) rfl (by kernel_rfl) (by kernel_rfl) (by kernel_rfl) (fun _ _ _ h => h) ((((((Closed.picked (ex := [17]) (List.range 9) _ (by kernel_rfl) (Closed.start _)).step (j := 9) (by kernel_rfl)).step (j := 10) (by kernel_rfl)).step (j := 16) (by kernel_rfl)).step (j := 11) (by kernel_rfl)).step (j := 12) (by kernel_rfl)) (by kernel_rfl) (fun W => by go_simp; try exact hwr) ?_
                              refine wpAnyG_takeW (i := 14) (v := .slice p8 s.xs.length c8) rfl (by kernel_rfl) (by kernel_rfl) (by kernel_rfl) (fun _ _ _ h => h) (((((((Closed.picked (ex := [17]) (List.range 9) _ (by kernel_rfl) (Closed.start _)).step (j := 9) (by kernel_rfl)).step (j := 10) (by kernel_rfl)).step (j := 16) (by kernel_rfl)).step (j := 11) (by kernel_rfl)).step (j := 12) (by kernel_rfl)).step (j := 13) (by kernel_rfl)) (by kernel_rfl) (fun W => by go_simp; try exact hwr) ?_
                              refine wpAnyG_takeW (i := 15) (v := .slice pe s.ev.length ce) rfl (by kernel_rfl) (by kernel_rfl) (by kernel_rfl) (fun _ _ _ h => h) ((((((((Closed.picked (ex := [17]) (List.range 9) _ (by kernel_rfl) (Closed.start _)).step (j := 9) (by kernel_rfl)).step (j := 10) (by kernel_rfl)).step (j := 16) (by kernel_rfl)).step (j := 11) (by kernel_rfl)).step (j := 12) (by kernel_rfl)).step (j := 13) (by kernel_rfl)).step (j := 14) (by kernel_rfl)) (by kernel_rfl) (fun W => by go_simp; try exact hwr) ?_
                              refine wpAnyG_last (i := 17) (by kernel_rfl) rfl rfl (fun K hK => ?_)
                              refine oper_store_any HA.out (by rfl) 50 _ _ (by rfl) (by rfl) (by rfl) [.int .u8 s.h.st, .int .u32 s.h.pc, .int .u32 t0, .int .u32 t1, .int .u32 t2, .int .u32 t3, .int .u32 t4, .int .u32 t5, .int .u32 t6, .int .u32 t7, .slice qS s.h.S.length dS, .slice qH s.h.hv.length dH, .slice qL s.h.L.length dL] (by rfl) Tryz.sz50 rfl rfl ?_
                              intro wA hbA hgA
                              refine hK.out _ _ ?_
                              clear hK K
                              have HF := Hid.in (fin17b HV10.out HA.out HGA.out HQ.out hbA hgA)
                              clear hbA hgA HA HV10 HQ HGA
                              refine wpAnyG_takeW (i := 18) (v := .slice p8 s.xs.length c8) rfl (by kernel_rfl) (by kernel_rfl) (by kernel_rfl) (fun _ _ _ h => h) ((((((((((Closed.picked (ex := [17]) (List.range 9) _ (by kernel_rfl) (Closed.start _)).step (j := 9) (by kernel_rfl)).step (j := 10) (by kernel_rfl)).step (j := 16) (by kernel_rfl)).step (j := 11) (by kernel_rfl)).step (j := 12) (by kernel_rfl)).step (j := 13) (by kernel_rfl)).step (j := 14) (by kernel_rfl)).step (j := 15) (by kernel_rfl)).step (j := 17) (by kernel_rfl)) (by kernel_rfl) (fun W => by go_simp; try exact hwr) ?_
                              refine wpAnyG_takeW (i := 19) (v := .slice pe s.ev.length ce) rfl (by kernel_rfl) (by kernel_rfl) (by kernel_rfl) (fun _ _ _ h => h) (((((((((((Closed.picked (ex := [17]) (List.range 9) _ (by kernel_rfl) (Closed.start _)).step (j := 9) (by kernel_rfl)).step (j := 10) (by kernel_rfl)).step (j := 16) (by kernel_rfl)).step (j := 11) (by kernel_rfl)).step (j := 12) (by kernel_rfl)).step (j := 13) (by kernel_rfl)).step (j := 14) (by kernel_rfl)).step (j := 15) (by kernel_rfl)).step (j := 17) (by kernel_rfl)).step (j := 18) (by kernel_rfl)) (by kernel_rfl) (fun W => by go_simp; try exact hwr) ?_
                              refine wpAnyG_done (by kernel_rfl) ?_ _
                              refine NoPanic.normal ?_
                              go_wp2_with fail
                              go_meet
                              case rel => exact ⟨_, _, p8, c8, pe, ce, rfl, rfl, rfl, HF.out⟩
                    case rest =>
                      as_aux_lemma =>
                        obtain ⟨gb, S8, p8, c8, pe, ce, rfl, rfl, rfl, h17⟩ := hcut
                        have HT9 := Hid.in (HT8.out.below h17.bel)
                        have HR9 := Hid.in (HR8.out.below h17.bel)
                        have HE9 := Hid.in (HE8.out.below h17.bel)
                        have H17 := Hid.in h17
                        have z8 := h17.z
                        have HONE := Hid.in h17.hv.one
                        have z1 := HR9.out.s1.size.1
                        have z2 := HR9.out.s2.size.1
                        clear h17 HT8 HR8 HE8 hk82 hk83
                        go_wp2_with (first | (refine load13 H17.out.blk z8 rfl _ rfl rfl ?_) | (refine store_lo HR9.out.sb z1 z8 rfl _ _ rfl rfl rfl rfl HONE.out ?_; intro w10 hB10 hg10; have HT10 := Hid.in (HT9.out.at_ HR9.out.is_ HR9.out.sb (by decide) (by decide) HR9.out.bs (keeps_grown hg10)); have HR10 := Hid.in (HR9.out.put1 H17.out.hv H17.out.row H17.out.off hB10 hg10); have HE10 := Hid.in (HE9.out.kept hg10 hgs); have HE11 := Hid.in (H17.out.ev.kept hg10 hgs8); clear hB10 hg10) | (go_at_call 24; refine Hid.out ?_))
                        refine Lib.hid ?_
                        refine (sameEvents_self pv pe s.ev.length cv ce s.ev _ rfl hev HE10.out.erow HE11.out.erow).mono ?_
                        rintro e w11 ⟨rfl, z, hw⟩
                        have HPN : Hid (PT w w11 q mg ga gs (i + 1) p8 s.xs) := ⟨G, h1, l1, b1, h2, l2, b2, s.h, H2, S8, S2, hw ▸ HT10.out.below (below_draws (below_self _) z), hw ▸ HR10.out.below (below_draws (below_self _) z), HSO.out.h, HOK2.out.more (Nat.le_succ i), HSO.out.b, by rw [HSO.out.l]; exact hyl⟩
                        clear hw
                        go_wp2_with fail
                        go_meet
                        case rel => exact ⟨p8, s.xs, c8, rfl, HPN.out⟩
                · as_aux_lemma =>
                    clear t4 t5
                    have HKO : Hid (Blk w6 ob 67 #[.int .i64 1, .int .i64 on, .bool hold, .int .i32 trap, .int .i64 at_, .slice xr zs.length xd]) := HK0.out
                    clear HK0
                    obtain ⟨tr, htr⟩ : ∃ tr : Option Nat, tr = if trap < 0 then none else some trap.toNat := ⟨_, rfl⟩
                    have ht32 := (HW.out w6 HT6.out.k1.bel).t32
                    dsimp only at ht32
                    have HTV : Hid (∀ W, Calls Tryz.prog 12 #[.int .i32 trap] W fun e w' => ∃ cc, e = .returned (.func (.func 46) #[] #[.pointer (some ⟨cc, 0, none⟩)]) ∧ TrV w' (.func (.func 46) #[] #[.pointer (some ⟨cc, 0, none⟩)]) tr ∧ Below W.heap.size W w') := fun W => by
                      refine (trap_any trap W).mono ?_
                      rintro e w' ⟨rfl, rfl⟩
                      exact ⟨_, rfl, .inr ⟨_, trap, rfl, (Blk.new W 21 #[.int .i32 trap]).cell 0, ht32.2, htr⟩, new_alloc _ _⟩
                    have HTM : Hid ((tr = none ∧ max trap (-1) < 0) ∨ ∃ z : Nat, tr = some z ∧ max trap (-1) = z ∧ z ≤ 4294967295) := by
                      by_cases e : trap < 0
                      · rw [if_pos e] at htr; exact .inl ⟨htr, by omega⟩
                      · rw [if_neg e] at htr; exact .inr ⟨trap.toNat, htr, by omega, by omega⟩
                    have HTZ : Hid (∀ z, tr = some z → z ≤ 4294967295) := fun z hz => by
                      rcases HTM.out with ⟨e, -⟩ | ⟨z', e, -, hz'⟩
                      · rw [hz] at e; cases e
                      · rw [hz] at e; injection e with e; omega
                    clear htr
                    have HRIS := Hid.in HT6.out.k2.hat.lin.ris
                    have HSO : Hid (StOk (i + 1) ys.length (stpH 1 H2 ys hold tr)) := stpH_ok HOK2.out HBY.out HTZ.out
                    have HK : Hid (∀ W, Blk W ga 63 #[.pointer (some ⟨h1, 0, none⟩), .pointer (some ⟨h2, 0, none⟩)] → Blk W ob 67 #[.int .i64 1, .int .i64 on, .bool hold, .int .i32 trap, .int .i64 at_, .slice xr zs.length xd] → W.cell? ⟨ga, 1, none⟩ = some (.pointer (some ⟨h2, 0, none⟩)) ∧ W.cell? ⟨ob, 2, none⟩ = some (.bool hold) ∧ W.cell? ⟨ob, 3, none⟩ = some (.int .i32 trap)) := fun W e1 e2 => ⟨e1.cell 1, e2.cell 2, e2.cell 3⟩
                    have HSTP : Hid (∀ W v, TH w W G q mg h1 l1 b1 0 H1 h2 l2 b2 1 H2 ys → TrV W v tr → Calls Tryz.prog 11 #[.pointer (some ⟨h2, 0, none⟩), .pointer (some ⟨q, 0, none⟩), .bool hold, v] W fun e w' => ∃ vv, e = .returned (.tuple #[vv, .int .i64 0]) ∧ EOwn 41 w' W.heap.size vv (stpH 1 H2 ys hold tr).ev ∧ TH w w' G q mg h1 l1 b1 0 H1 h2 l2 b2 1 (stpH 1 H2 ys hold tr).h (stpH 1 H2 ys hold tr).xs ∧ Keeps (G3 h2 b2 mg) W w') := fun W v hT hv => by
                      refine (hT.swap.step hold v tr (by omega) HBY.out (HOK2.out.more (by omega)) hv).mono ?_
                      rintro e w' ⟨vv, rfl, ho, hT2, hk2⟩
                      exact ⟨vv, rfl, ho, hT2.swap, hk2⟩
                    obtain ⟨y0, y1, y2⟩ := HK.out w6 HR6.out.arr HKO.out
                    go_upto_region 16 with fail
                    generalize hs0 : stpH 1 H2 ys hold tr = s at *
                    have HS0 := Hid.in hs0
                    clear hs0
                    go_region_held3 (fun W => W.cell? ⟨ga, 1, none⟩ = some (.pointer (some ⟨h2, 0, none⟩)) ∧ W.cell? ⟨ob, 2, none⟩ = some (.bool hold) ∧ W.cell? ⟨ob, 3, none⟩ = some (.int .i32 trap)) (first | (with_reducible exact hk7) | (with_reducible exact hk8) | go_keep)
                      (first
                        | (go_at_call 12; (with_reducible refine (HTV.out _).mono ?_); rintro E w7 ⟨cc, rfl, htv7, hb7⟩; have HB7 := Hid.in (below_step (below_draws (below_self w6) 1) hb7); have HT7 := Hid.in (HT6.out.below HB7.out); have HR7 := Hid.in (HR6.out.below HB7.out); have HO7 := Hid.in (HKO.out.grow HB7.out); have HV7 := Hid.in htv7; have hk7 := HK.out w7 HR7.out.arr HO7.out; clear hb7 htv7)
                        | (go_at_call 11; (with_reducible refine (HSTP.out _ _ HT7.out HV7.out).mono ?_); rintro E w8 ⟨vv, rfl, ho8, hT8, hk8'⟩; have HT8 := Hid.in hT8; have HR8 := Hid.in (HR7.out.keeps HT7.out.k2 hk8'); have HO8 := Hid.in ((hk8'.block ob HO7.out.lt (HT7.out.k2.no3 (show w7.heap[ob]? = some (.cells _ 67 (0, 0)) from HO7.out) (by decide) (by decide))).trans HO7.out); have HP8 : Hid (Blk w8 ob 67 #[.int .i64 1, .int .i64 on, .bool hold, .int .i32 trap, .int .i64 at_, .slice xr zs.length xd]) := HO8.out; have HE8 := Hid.in ho8; have hk8 := HK.out w8 HR8.out.arr HP8.out; have hgs : gs < w7.heap.size := HR7.out.sb.lt; clear ho8 hT8 hk8'))
                    clear y0 y1 y2 hk7 HT6 HR6 HT7 HR7 HO7 HO8 HV7 HTV HSTP HKO HB7
                    have hev := HE8.out.short
                    have hgs8 : gs < w8.heap.size := HR8.out.sb.lt
                    obtain ⟨pv, cv, rfl, -, -, -⟩ := HE8.out.row7
                    obtain ⟨hk81, hk82, hk83⟩ := hk8
                    clear hk81
                    go_upto_region 17 with fail
                    go_cut [19, 20, 21] (fun v19 v20 v21 wx => ∃ (gb : Nat) (S8 : Array Value) (p8 : Option Addr) (c8 : Nat) (pe : Option Addr) (ce : Nat), v19 = .pointer (some ⟨gb, 0, none⟩) ∧ v20 = .slice p8 s.xs.length c8 ∧ v21 = .slice pe s.ev.length ce ∧ R17 G w8 wx gb s S8 p8 pe ce)
                    case first =>
                      as_aux_lemma =>
                        obtain ⟨r0, r1, r2, r3, r4, r5, r6, r7, pS, cS, pH, cH, pL, cL, hS⟩ := HR8.out.s2.cells HOK2.out.lR
                        subst hS
                        have z1 := HR8.out.s1.size.1
                        have hdo := fun W (G' : Nat → Prop) (hb : Below w8.heap.size w8 W) hG' hv ho => HRS.out H2 (.agg #[.int .u8 H2.st, .int .u32 H2.pc, .int .u32 r0, .int .u32 r1, .int .u32 r2, .int .u32 r3, .int .u32 r4, .int .u32 r5, .int .u32 r6, .int .u32 r7, .slice pS H2.S.length cS, .slice pH H2.hv.length cH, .slice pL H2.L.length cL]) 1 (max trap (-1)) p' c' ys hold W (HOK2.out.more (by omega)) G' hG' hv (HR8.out.row.below hb) ho (by omega) HBY.out HRIS.out tr HTM.out
                        rw [HS0.out] at hdo
                        obtain ⟨e0, e1, e2, e3, e4, e5, e6, e7, e8, e9, e10, e11, e12⟩ := cells_hi HR8.out.sb z1
                        have kr0 := fun d os => cell_regrown e0 d os
                        have kr1 := fun d os => cell_regrown e1 d os
                        have kr2 := fun d os => cell_regrown e2 d os
                        have kr3 := fun d os => cell_regrown e3 d os
                        have kr4 := fun d os => cell_regrown e4 d os
                        have kr5 := fun d os => cell_regrown e5 d os
                        have kr6 := fun d os => cell_regrown e6 d os
                        have kr7 := fun d os => cell_regrown e7 d os
                        have kr8 := fun d os => cell_regrown e8 d os
                        have kr9 := fun d os => cell_regrown e9 d os
                        have kr10 := fun d os => cell_regrown e10 d os
                        have kr11 := fun d os => cell_regrown e11 d os
                        have kr12 := fun d os => cell_regrown e12 d os
                        have kr13 := fun d os => cell_regrown hk82 d os
                        have kr14 := fun d os => cell_regrown hk83 d os
                        have hwr : IntKind.i64.wrap (max trap (-1)) = max trap (-1) := by rw [IntKind.wrap_i64]; omega
                        refine wp_region_noPanic ?_
                        refine wp_region_sink 9 [17] 11 (by kernel_rfl) (by kernel_rfl) (by kernel_rfl) (by kernel_rfl) (by kernel_rfl) (fun _ _ _ _ _ h => h) ?_
                        simp only [List.take_succ_cons, List.take_zero]
                        iterate 9 (go_big_quiet_step (fail))
                        refine wpQuiet_nil ?_
                        rintro _ ⟨⟨dq, osq⟩, rfl⟩
                        have HQ := Hid.in (below_regrown w8 dq osq)
                        generalize Go.Sort.grow (redrawn w8 dq) osq = w9 at HQ ⊢
                        clear e0 kr0 e1 kr1 e2 kr2 e3 kr3 e4 kr4 e5 kr5 e6 kr6 e7 kr7 e8 kr8 e9 kr9 e10 kr10 e11 kr11 e12 kr12 kr13 kr14 hk82 hk83
                        refine wpAnyG_takeW (i := 9) (v := .int .i32 (max trap (-1))) rfl (by kernel_rfl) (by kernel_rfl) (by kernel_rfl) (fun _ _ _ h => h) (Closed.picked (ex := [17]) (List.range 9) _ (by kernel_rfl) (Closed.start _)) (by kernel_rfl) (fun W => by go_simp; try exact hwr) ?_
                        refine wpAnyG_takeW (i := 10) (v := .int .i64 (max trap (-1))) rfl (by kernel_rfl) (by kernel_rfl) (by kernel_rfl) (fun _ _ _ h => h) ((Closed.picked (ex := [17]) (List.range 9) _ (by kernel_rfl) (Closed.start _)).step (j := 9) (by kernel_rfl)) (by kernel_rfl) (fun W => by go_simp; try exact hwr) ?_
                        refine wpAnyG_two (i := 11) (j := 16) (by kernel_rfl) rfl rfl (fun K hK => ?_) (fun K hK => ?_)
                        · as_aux_lemma =>
                              go_simp
                              go_at_call 23
                              refine (hdo _ G HQ.out (fun j hj => Nat.lt_of_lt_of_le (HT8.out.k1.lt j hj) HQ.out.size) (HR8.out.s2.below HQ.out) HR8.out.off).mono ?_
                              rintro e_ w10 ⟨V8, p8, c8, v8, rfl, hv10, hr10, ho10, he10, hb10⟩
                              obtain ⟨S8, hS8⟩ : ∃ S, V8 = .agg S := by
                                obtain ⟨_, _, _, _, _, _, e, -⟩ := hv10
                                exact ⟨_, e⟩
                              subst hS8
                              obtain ⟨t0, t1, t2, t3, t4, t5, t6, t7, qS, dS, qH, dH, qL, dL, hS8⟩ := hv10.cells HSO.out.h.lR
                              subst hS8
                              obtain ⟨pe, ce, hve, -, -, -⟩ := he10.row7
                              subst hve
                              have HV10 := Hid.in (And.intro hv10 (And.intro hr10 (And.intro ho10 (he10.lower HQ.out.size))))
                              replace HQ := Hid.in (below_step HQ.out hb10)
                              refine hK.out _ _ (regrown_of_below HQ.out) (fun _ => ?_)
                              clear hK K hv10 hr10 ho10 he10 hb10
                              refine wpAnyG_takeW (i := 12) (v := .tuple #[.agg #[.int .u8 s.h.st, .int .u32 s.h.pc, .int .u32 t0, .int .u32 t1, .int .u32 t2, .int .u32 t3, .int .u32 t4, .int .u32 t5, .int .u32 t6, .int .u32 t7, .slice qS s.h.S.length dS, .slice qH s.h.hv.length dH, .slice qL s.h.L.length dL], .slice p8 s.xs.length c8, .slice pe s.ev.length ce]) rfl (by kernel_rfl) (by kernel_rfl) (by kernel_rfl) (fun _ _ _ h => h) ((((Closed.picked (ex := [17]) (List.range 9) _ (by kernel_rfl) (Closed.start _)).step (j := 9) (by kernel_rfl)).step (j := 10) (by kernel_rfl)).step (j := 11) (by kernel_rfl)) (by kernel_rfl) (fun W => by go_simp; try exact hwr) ?_
                              refine wpAnyG_takeW (i := 13) (v := .agg #[.int .u8 s.h.st, .int .u32 s.h.pc, .int .u32 t0, .int .u32 t1, .int .u32 t2, .int .u32 t3, .int .u32 t4, .int .u32 t5, .int .u32 t6, .int .u32 t7, .slice qS s.h.S.length dS, .slice qH s.h.hv.length dH, .slice qL s.h.L.length dL]) rfl (by kernel_rfl) (by kernel_rfl) (by kernel_rfl) (fun _ _ _ h => h) (((((Closed.picked (ex := [17]) (List.range 9) _ (by kernel_rfl) (Closed.start _)).step (j := 9) (by kernel_rfl)).step (j := 10) (by kernel_rfl)).step (j := 11) (by kernel_rfl)).step (j := 12) (by kernel_rfl)) (by kernel_rfl) (fun W => by go_simp; try exact hwr) ?_
                              refine wpAnyG_takeW (i := 14) (v := .slice p8 s.xs.length c8) rfl (by kernel_rfl) (by kernel_rfl) (by kernel_rfl) (fun _ _ _ h => h) ((((((Closed.picked (ex := [17]) (List.range 9) _ (by kernel_rfl) (Closed.start _)).step (j := 9) (by kernel_rfl)).step (j := 10) (by kernel_rfl)).step (j := 11) (by kernel_rfl)).step (j := 12) (by kernel_rfl)).step (j := 13) (by kernel_rfl)) (by kernel_rfl) (fun W => by go_simp; try exact hwr) ?_
                              refine wpAnyG_takeW (i := 15) (v := .slice pe s.ev.length ce) rfl (by kernel_rfl) (by kernel_rfl) (by kernel_rfl) (fun _ _ _ h => h) (((((((Closed.picked (ex := [17]) (List.range 9) _ (by kernel_rfl) (Closed.start _)).step (j := 9) (by kernel_rfl)).step (j := 10) (by kernel_rfl)).step (j := 11) (by kernel_rfl)).step (j := 12) (by kernel_rfl)).step (j := 13) (by kernel_rfl)).step (j := 14) (by kernel_rfl)) (by kernel_rfl) (fun W => by go_simp; try exact hwr) ?_
                              refine wpAnyG_one (i := 16) (by kernel_rfl) rfl (fun K hK => ?_)
                              go_simp
                              refine hK.out _ _ (regrown_of_below (below_alloc HQ.out _)) (fun _ => ?_)
                              clear hK K
                              have HA := Hid.in (Blk.new w10 50 #[.int .u8 0, .int .u32 0, .int .u32 0, .int .u32 0, .int .u32 0, .int .u32 0, .int .u32 0, .int .u32 0, .int .u32 0, .int .u32 0, .slice none 0 0, .slice none 0 0, .slice none 0 0])
                              have HN := Hid.in (new_alloc w10 (.cells #[.int .u8 0, .int .u32 0, .int .u32 0, .int .u32 0, .int .u32 0, .int .u32 0, .int .u32 0, .int .u32 0, .int .u32 0, .int .u32 0, .slice none 0 0, .slice none 0 0, .slice none 0 0] 50))
                              generalize w10.alloc (.cells #[.int .u8 0, .int .u32 0, .int .u32 0, .int .u32 0, .int .u32 0, .int .u32 0, .int .u32 0, .int .u32 0, .int .u32 0, .int .u32 0, .slice none 0 0, .slice none 0 0, .slice none 0 0] 50) = w11 at *
                              refine wpAnyG_last (i := 17) (by kernel_rfl) rfl rfl (fun K hK => ?_)
                              refine oper_store_any HA.out (by rfl) 50 _ _ (by rfl) (by rfl) (by rfl) [.int .u8 s.h.st, .int .u32 s.h.pc, .int .u32 t0, .int .u32 t1, .int .u32 t2, .int .u32 t3, .int .u32 t4, .int .u32 t5, .int .u32 t6, .int .u32 t7, .slice qS s.h.S.length dS, .slice qH s.h.hv.length dH, .slice qL s.h.L.length dL] (by rfl) Tryz.sz50 rfl rfl ?_
                              intro wA hbA hgA
                              refine hK.out _ _ ?_
                              clear hK K
                              have HF := Hid.in (fin17a HV10.out HN.out HQ.out hbA hgA)
                              clear hbA hgA HA HV10 HQ HN
                              refine wpAnyG_takeW (i := 18) (v := .slice p8 s.xs.length c8) rfl (by kernel_rfl) (by kernel_rfl) (by kernel_rfl) (fun _ _ _ h => h) ((((((((((Closed.picked (ex := [17]) (List.range 9) _ (by kernel_rfl) (Closed.start _)).step (j := 9) (by kernel_rfl)).step (j := 10) (by kernel_rfl)).step (j := 11) (by kernel_rfl)).step (j := 12) (by kernel_rfl)).step (j := 13) (by kernel_rfl)).step (j := 14) (by kernel_rfl)).step (j := 15) (by kernel_rfl)).step (j := 16) (by kernel_rfl)).step (j := 17) (by kernel_rfl)) (by kernel_rfl) (fun W => by go_simp; try exact hwr) ?_
                              refine wpAnyG_takeW (i := 19) (v := .slice pe s.ev.length ce) rfl (by kernel_rfl) (by kernel_rfl) (by kernel_rfl) (fun _ _ _ h => h) (((((((((((Closed.picked (ex := [17]) (List.range 9) _ (by kernel_rfl) (Closed.start _)).step (j := 9) (by kernel_rfl)).step (j := 10) (by kernel_rfl)).step (j := 11) (by kernel_rfl)).step (j := 12) (by kernel_rfl)).step (j := 13) (by kernel_rfl)).step (j := 14) (by kernel_rfl)).step (j := 15) (by kernel_rfl)).step (j := 16) (by kernel_rfl)).step (j := 17) (by kernel_rfl)).step (j := 18) (by kernel_rfl)) (by kernel_rfl) (fun W => by go_simp; try exact hwr) ?_
                              refine wpAnyG_done (by kernel_rfl) ?_ _
                              refine NoPanic.normal ?_
                              go_wp2_with fail
                              go_meet
                              case rel => exact ⟨_, _, p8, c8, pe, ce, rfl, rfl, rfl, HF.out⟩
                        · as_aux_lemma =>
                              go_simp
                              refine hK.out _ _ (regrown_of_below (below_alloc HQ.out _)) (fun _ => ?_)
                              clear hK K
                              have HA := Hid.in (Blk.new w9 50 #[.int .u8 0, .int .u32 0, .int .u32 0, .int .u32 0, .int .u32 0, .int .u32 0, .int .u32 0, .int .u32 0, .int .u32 0, .int .u32 0, .slice none 0 0, .slice none 0 0, .slice none 0 0])
                              have HGA : Hid (w8.heap.size ≤ w9.heap.size) := HQ.out.size
                              replace HQ := Hid.in (below_alloc HQ.out (.cells #[.int .u8 0, .int .u32 0, .int .u32 0, .int .u32 0, .int .u32 0, .int .u32 0, .int .u32 0, .int .u32 0, .int .u32 0, .int .u32 0, .slice none 0 0, .slice none 0 0, .slice none 0 0] 50))
                              generalize w9.alloc (.cells #[.int .u8 0, .int .u32 0, .int .u32 0, .int .u32 0, .int .u32 0, .int .u32 0, .int .u32 0, .int .u32 0, .int .u32 0, .int .u32 0, .slice none 0 0, .slice none 0 0, .slice none 0 0] 50) = w11 at *
                              generalize w9.heap.size = gb at *
                              refine wpAnyG_one (i := 11) (by kernel_rfl) rfl (fun K hK => ?_)
                              go_simp
                              go_at_call 23
                              refine (hdo _ (fun j => G j ∨ j = gb ∨ j = gb) HQ.out (by rintro j (hj | rfl | rfl); exact Nat.lt_of_lt_of_le (HT8.out.k1.lt j hj) HQ.out.size; all_goals exact HA.out.lt) (HR8.out.s2.wide HQ.out HGA.out HGA.out) (HR8.out.off.wideB HR8.out.row.lt0 HGA.out HGA.out)).mono ?_
                              rintro e_ w10 ⟨V8, p8, c8, v8, rfl, hv10, hr10, ho10, he10, hb10⟩
                              obtain ⟨S8, hS8⟩ : ∃ S, V8 = .agg S := by
                                obtain ⟨_, _, _, _, _, _, e, -⟩ := hv10
                                exact ⟨_, e⟩
                              subst hS8
                              obtain ⟨t0, t1, t2, t3, t4, t5, t6, t7, qS, dS, qH, dH, qL, dL, hS8⟩ := hv10.cells HSO.out.h.lR
                              subst hS8
                              obtain ⟨pe, ce, hve, -, -, -⟩ := he10.row7
                              subst hve
                              have HV10 := Hid.in (And.intro hv10 (And.intro hr10 (And.intro ho10 (he10.lower HQ.out.size))))
                              replace HA := Hid.in (HA.out.grow hb10)
                              replace HQ := Hid.in (below_step HQ.out hb10)
                              refine hK.out _ _ (regrown_of_below HQ.out) (fun _ => ?_)
                              clear hK K hv10 hr10 ho10 he10 hb10
                              refine wpAnyG_takeW (i := 12) (v := .tuple #[.agg #[.int .u8 s.h.st, .int .u32 s.h.pc, .int .u32 t0, .int .u32 t1, .int .u32 t2, .int .u32 t3, .int .u32 t4, .int .u32 t5, .int .u32 t6, .int .u32 t7, .slice qS s.h.S.length dS, .slice qH s.h.hv.length dH, .slice qL s.h.L.length dL], .slice p8 s.xs.length c8, .slice pe s.ev.length ce]) rfl (by kernel_rfl) (by kernel_rfl) (by kernel_rfl) (fun _ _ _ h => h) (((((Closed.picked (ex := [17]) (List.range 9) _ (by kernel_rfl) (Closed.start _)).step (j := 9) (by kernel_rfl)).step (j := 10) (by kernel_rfl)).step (j := 16) (by kernel_rfl)).step (j := 11) (by kernel_rfl)) (by kernel_rfl) (fun W => by go_simp; try exact hwr) ?_
                              refine wpAnyG_takeW (i := 13) (v := .agg #[.int .u8 s.h.st, .int .u32 s.h.pc, .int .u32 t0, .int .u32 t1, .int .u32 t2, .int .u32 t3, .int .u32 t4, .int .u32 t5, .int .u32 t6, .int .u32 t7, .slice qS s.h.S.length dS, .slice qH s.h.hv.length dH, .slice qL s.h.L.length dL]) rfl (by kernel_rfl) (by kernel_rfl) (by kernel_rfl) (fun _ _ _ h => h) ((((((Closed.picked (ex := [17]) (List.range 9) _ (by kernel_rfl) (Closed.start _)).step (j := 9) (by kernel_rfl)).step (j := 10) (by kernel_rfl)).step (j := 16) (by kernel_rfl)).step (j := 11) (by kernel_rfl)).step (j := 12) (by kernel_rfl)) (by kernel_rfl) (fun W => by go_simp; try exact hwr) ?_
                              refine wpAnyG_takeW (i := 14) (v := .slice p8 s.xs.length c8) rfl (by kernel_rfl) (by kernel_rfl) (by kernel_rfl) (fun _ _ _ h => h) (((((((Closed.picked (ex := [17]) (List.range 9) _ (by kernel_rfl) (Closed.start _)).step (j := 9) (by kernel_rfl)).step (j := 10) (by kernel_rfl)).step (j := 16) (by kernel_rfl)).step (j := 11) (by kernel_rfl)).step (j := 12) (by kernel_rfl)).step (j := 13) (by kernel_rfl)) (by kernel_rfl) (fun W => by go_simp; try exact hwr) ?_
                              refine wpAnyG_takeW (i := 15) (v := .slice pe s.ev.length ce) rfl (by kernel_rfl) (by kernel_rfl) (by kernel_rfl) (fun _ _ _ h => h) ((((((((Closed.picked (ex := [17]) (List.range 9) _ (by kernel_rfl) (Closed.start _)).step (j := 9) (by kernel_rfl)).step (j := 10) (by kernel_rfl)).step (j := 16) (by kernel_rfl)).step (j := 11) (by kernel_rfl)).step (j := 12) (by kernel_rfl)).step (j := 13) (by kernel_rfl)).step (j := 14) (by kernel_rfl)) (by kernel_rfl) (fun W => by go_simp; try exact hwr) ?_
                              refine wpAnyG_last (i := 17) (by kernel_rfl) rfl rfl (fun K hK => ?_)
                              refine oper_store_any HA.out (by rfl) 50 _ _ (by rfl) (by rfl) (by rfl) [.int .u8 s.h.st, .int .u32 s.h.pc, .int .u32 t0, .int .u32 t1, .int .u32 t2, .int .u32 t3, .int .u32 t4, .int .u32 t5, .int .u32 t6, .int .u32 t7, .slice qS s.h.S.length dS, .slice qH s.h.hv.length dH, .slice qL s.h.L.length dL] (by rfl) Tryz.sz50 rfl rfl ?_
                              intro wA hbA hgA
                              refine hK.out _ _ ?_
                              clear hK K
                              have HF := Hid.in (fin17b HV10.out HA.out HGA.out HQ.out hbA hgA)
                              clear hbA hgA HA HV10 HQ HGA
                              refine wpAnyG_takeW (i := 18) (v := .slice p8 s.xs.length c8) rfl (by kernel_rfl) (by kernel_rfl) (by kernel_rfl) (fun _ _ _ h => h) ((((((((((Closed.picked (ex := [17]) (List.range 9) _ (by kernel_rfl) (Closed.start _)).step (j := 9) (by kernel_rfl)).step (j := 10) (by kernel_rfl)).step (j := 16) (by kernel_rfl)).step (j := 11) (by kernel_rfl)).step (j := 12) (by kernel_rfl)).step (j := 13) (by kernel_rfl)).step (j := 14) (by kernel_rfl)).step (j := 15) (by kernel_rfl)).step (j := 17) (by kernel_rfl)) (by kernel_rfl) (fun W => by go_simp; try exact hwr) ?_
                              refine wpAnyG_takeW (i := 19) (v := .slice pe s.ev.length ce) rfl (by kernel_rfl) (by kernel_rfl) (by kernel_rfl) (fun _ _ _ h => h) (((((((((((Closed.picked (ex := [17]) (List.range 9) _ (by kernel_rfl) (Closed.start _)).step (j := 9) (by kernel_rfl)).step (j := 10) (by kernel_rfl)).step (j := 16) (by kernel_rfl)).step (j := 11) (by kernel_rfl)).step (j := 12) (by kernel_rfl)).step (j := 13) (by kernel_rfl)).step (j := 14) (by kernel_rfl)).step (j := 15) (by kernel_rfl)).step (j := 17) (by kernel_rfl)).step (j := 18) (by kernel_rfl)) (by kernel_rfl) (fun W => by go_simp; try exact hwr) ?_
                              refine wpAnyG_done (by kernel_rfl) ?_ _
                              refine NoPanic.normal ?_
                              go_wp2_with fail
                              go_meet
                              case rel => exact ⟨_, _, p8, c8, pe, ce, rfl, rfl, rfl, HF.out⟩
                    case rest =>
                      as_aux_lemma =>
                        obtain ⟨gb, S8, p8, c8, pe, ce, rfl, rfl, rfl, h17⟩ := hcut
                        have HT9 := Hid.in (HT8.out.below h17.bel)
                        have HR9 := Hid.in (HR8.out.below h17.bel)
                        have HE9 := Hid.in (HE8.out.below h17.bel)
                        have H17 := Hid.in h17
                        have z8 := h17.z
                        have HONE := Hid.in h17.hv.one
                        have z1 := HR9.out.s1.size.1
                        have z2 := HR9.out.s2.size.1
                        clear h17 HT8 HR8 HE8 hk82 hk83
                        go_wp2_with (first | (refine load13 H17.out.blk z8 rfl _ rfl rfl ?_) | (refine store_hi HR9.out.sb z1 z2 z8 rfl _ _ rfl rfl rfl rfl HONE.out ?_; intro w10 hB10 hg10; have HT10 := Hid.in (HT9.out.at_ HR9.out.is_ HR9.out.sb (by decide) (by decide) HR9.out.bs (keeps_grown hg10)); have HR10 := Hid.in (HR9.out.put2 H17.out.hv H17.out.row H17.out.off hB10 hg10); have HE10 := Hid.in (HE9.out.kept hg10 hgs); have HE11 := Hid.in (H17.out.ev.kept hg10 hgs8); clear hB10 hg10) | (go_at_call 24; refine Hid.out ?_))
                        refine Lib.hid ?_
                        refine (sameEvents_self pv pe s.ev.length cv ce s.ev _ rfl hev HE10.out.erow HE11.out.erow).mono ?_
                        rintro e w11 ⟨rfl, z, hw⟩
                        have HPN : Hid (PT w w11 q mg ga gs (i + 1) p8 s.xs) := ⟨G, h1, l1, b1, h2, l2, b2, H1, s.h, S1, S8, hw ▸ HT10.out.below (below_draws (below_self _) z), hw ▸ HR10.out.below (below_draws (below_self _) z), HOK1.out.more (Nat.le_succ i), HSO.out.h, HSO.out.b, by rw [HSO.out.l]; exact hyl⟩
                        clear hw
                        go_wp2_with fail
                        go_meet
                        case rel => exact ⟨p8, s.xs, c8, rfl, HPN.out⟩
              have hb1 : (kind == 1) = false := beq_eq_false_iff_ne.2 hk1
              have hd1' : decide (kind = 1) = false := decide_eq_false hk1
              by_cases hk2 : kind = 2
              · as_aux_lemma =>
                    subst hk2
                    clear t2 t3 t4 t5
                    rcases h01 with rfl | rfl
                    · have z1 := HR6.out.s1.size.1
                      have hrs := rsyncN_any w6 HOK1.out.lR HR6.out.s1
                      go_wp2_with (first | (refine load_lo HR6.out.sb z1 rfl _ rfl rfl ?_) | (go_at_call 25; refine Hid.out ?_))
                      refine Lib.hid ?_
                      refine hrs.mono ?_
                      rintro e w8 ⟨V8, rfl, hv8, hb8⟩
                      obtain ⟨S8, rfl⟩ : ∃ S, V8 = .agg S := by
                        obtain ⟨_, _, _, _, _, _, e, -⟩ := hv8
                        exact ⟨_, e⟩
                      have HV8 := Hid.in hv8
                      have z8 := hv8.size.1
                      have HONE := Hid.in hv8.one
                      have HT8 := Hid.in (HT6.out.below hb8)
                      have HR8 := Hid.in (HR6.out.below hb8)
                      have HZ8 := Hid.in (Blk.new w8 50 #[.int .u8 0, .int .u32 0, .int .u32 0, .int .u32 0, .int .u32 0, .int .u32 0, .int .u32 0, .int .u32 0, .int .u32 0, .int .u32 0, .slice none 0 0, .slice none 0 0, .slice none 0 0])
                      have hN8 := new_alloc w8 (.cells #[.int .u8 0, .int .u32 0, .int .u32 0, .int .u32 0, .int .u32 0, .int .u32 0, .int .u32 0, .int .u32 0, .int .u32 0, .int .u32 0, .slice none 0 0, .slice none 0 0, .slice none 0 0] 50)
                      have HN8 := Hid.in hN8
                      clear hv8 hb8 hrs hN8
                      have q0 : (((H1.L.length : Nat) : Int) != ((H1.L.length : Nat) : Int)) = false := by simp
                      go_wp2_with (first
                        | (refine step_store_blk HZ8.out rfl 50 _ _ rfl rfl rfl S8 rfl (by rw [z8]; exact Tryz.sz50) z8 HONE.out ?_; intro w9 hB9 hg9; have HB9 := Hid.in hB9; have hb9 := HN8.out.grown hg9 HN8.out.size (fun k hk => by injection hk with hk; omega); have HT9 := Hid.in (HT8.out.below hb9); have HR9 := Hid.in (HR8.out.below hb9); have HV9 := Hid.in (HV8.out.below hb9); clear hB9 hg9 hb9)
                        | (refine load13 HB9.out z8 rfl _ rfl rfl ?_)
                        | (refine store_lo HR9.out.sb z1 z8 rfl _ _ rfl rfl rfl rfl HONE.out ?_; intro w10 hB10 hg10; have HT10 := Hid.in (HT9.out.at_ HR9.out.is_ HR9.out.sb (by decide) (by decide) HR9.out.bs (keeps_grown hg10)); have HR10 := Hid.in (HR9.out.put1 HV9.out HR9.out.row HR9.out.off hB10 hg10); clear hB10 hg10; have c0 := HR10.out.arr.cell 0)
                        | (go_at_call 17; refine Hid.out ?_))
                      refine Lib.hid ?_
                      refine HT10.out.sync.mono ?_
                      rintro e w11 ⟨rfl, hT11, hk11⟩
                      have HPN : Hid (PT w w11 q mg ga gs (i + 1) p' ys) := ⟨G, h1, l1, b1, h2, l2, b2, _, H2, S8, S2, hT11, HR10.out.keeps HT10.out.k1 hk11, ⟨HOK1.out.pc, HOK1.out.lR, HOK1.out.wR, HOK1.out.wS, HOK1.out.lS, byt_nil, Nat.zero_le _, fun _ hx => absurd hx List.not_mem_nil, Nat.zero_le _⟩, HOK2.out.more (Nat.le_succ i), HBY.out, hyl⟩
                      clear hT11 hk11 c0
                      go_wp2_with fail
                      go_meet
                      case rel => exact ⟨p', ys, c', rfl, HPN.out⟩
                    · have z1 := HR6.out.s1.size.1
                      have z2 := HR6.out.s2.size.1
                      have hrs := rsyncN_any w6 HOK2.out.lR HR6.out.s2
                      go_wp2_with (first | (refine load_hi HR6.out.sb z1 z2 rfl _ rfl rfl ?_) | (go_at_call 25; refine Hid.out ?_))
                      refine Lib.hid ?_
                      refine hrs.mono ?_
                      rintro e w8 ⟨V8, rfl, hv8, hb8⟩
                      obtain ⟨S8, rfl⟩ : ∃ S, V8 = .agg S := by
                        obtain ⟨_, _, _, _, _, _, e, -⟩ := hv8
                        exact ⟨_, e⟩
                      have HV8 := Hid.in hv8
                      have z8 := hv8.size.1
                      have HONE := Hid.in hv8.one
                      have HT8 := Hid.in (HT6.out.below hb8)
                      have HR8 := Hid.in (HR6.out.below hb8)
                      have HZ8 := Hid.in (Blk.new w8 50 #[.int .u8 0, .int .u32 0, .int .u32 0, .int .u32 0, .int .u32 0, .int .u32 0, .int .u32 0, .int .u32 0, .int .u32 0, .int .u32 0, .slice none 0 0, .slice none 0 0, .slice none 0 0])
                      have hN8 := new_alloc w8 (.cells #[.int .u8 0, .int .u32 0, .int .u32 0, .int .u32 0, .int .u32 0, .int .u32 0, .int .u32 0, .int .u32 0, .int .u32 0, .int .u32 0, .slice none 0 0, .slice none 0 0, .slice none 0 0] 50)
                      have HN8 := Hid.in hN8
                      clear hv8 hb8 hrs hN8
                      have q0 : (((H2.L.length : Nat) : Int) != ((H2.L.length : Nat) : Int)) = false := by simp
                      go_wp2_with (first
                        | (refine step_store_blk HZ8.out rfl 50 _ _ rfl rfl rfl S8 rfl (by rw [z8]; exact Tryz.sz50) z8 HONE.out ?_; intro w9 hB9 hg9; have HB9 := Hid.in hB9; have hb9 := HN8.out.grown hg9 HN8.out.size (fun k hk => by injection hk with hk; omega); have HT9 := Hid.in (HT8.out.below hb9); have HR9 := Hid.in (HR8.out.below hb9); have HV9 := Hid.in (HV8.out.below hb9); clear hB9 hg9 hb9)
                        | (refine load13 HB9.out z8 rfl _ rfl rfl ?_)
                        | (refine store_hi HR9.out.sb z1 z2 z8 rfl _ _ rfl rfl rfl rfl HONE.out ?_; intro w10 hB10 hg10; have HT10 := Hid.in (HT9.out.at_ HR9.out.is_ HR9.out.sb (by decide) (by decide) HR9.out.bs (keeps_grown hg10)); have HR10 := Hid.in (HR9.out.put2 HV9.out HR9.out.row HR9.out.off hB10 hg10); clear hB10 hg10; have c0 := HR10.out.arr.cell 1)
                        | (go_at_call 17; refine Hid.out ?_))
                      refine Lib.hid ?_
                      refine HT10.out.swap.sync.mono ?_
                      rintro e w11 ⟨rfl, hT11, hk11⟩
                      have HPN : Hid (PT w w11 q mg ga gs (i + 1) p' ys) := ⟨G, h1, l1, b1, h2, l2, b2, H1, _, S1, S8, hT11.swap, HR10.out.keeps HT10.out.k2 hk11, HOK1.out.more (Nat.le_succ i), ⟨HOK2.out.pc, HOK2.out.lR, HOK2.out.wR, HOK2.out.wS, HOK2.out.lS, byt_nil, Nat.zero_le _, fun _ hx => absurd hx List.not_mem_nil, Nat.zero_le _⟩, HBY.out, hyl⟩
                      clear hT11 hk11 c0
                      go_wp2_with fail
                      go_meet
                      case rel => exact ⟨p', ys, c', rfl, HPN.out⟩
              have hb2 : (kind == 2) = false := beq_eq_false_iff_ne.2 hk2
              have hd2' : decide (kind = 2) = false := decide_eq_false hk2
              by_cases hk3 : kind = 3
              · as_aux_lemma =>
                    subst hk3
                    clear t2 t3 h01
                    by_cases hf : 0 ≤ at_ ∧ at_ ≤ (ys.length : Int) - zs.length
                    · obtain ⟨a, rfl⟩ : ∃ a : Nat, at_ = a := ⟨at_.toNat, by omega⟩
                      have hfit : a + zs.length ≤ ys.length := by omega
                      have hwr := HT6.out.write (c := xd) (a := a) ((HW.out w6 HT6.out.k1.bel).row) hfit (by omega)
                      go_wp2_with (go_at_call 26; refine Hid.out ?_)
                      refine Lib.hid ?_
                      refine hwr.mono ?_
                      rintro e w8 ⟨rfl, hT8, hk8⟩
                      have HT8 := Hid.in hT8
                      have HR8 := Hid.in (HR6.out.keeps HT6.out.k1 hk8)
                      have HK8 := Hid.in ((hk8.block ob HK0.out.lt (HT6.out.k1.no3 (show w6.heap[ob]? = some (.cells _ 67 (0, 0)) from HK0.out) (by decide) (by decide))).trans HK0.out)
                      have HK9 : Hid (Blk w8 ob 67 #[.int .i64 3, .int .i64 on, .bool hold, .int .i32 trap, .int .i64 a, .slice xr zs.length xd]) := HK8.out
                      clear hwr hT8 hk8 t4 t5 HK8
                      have t4 := HK9.out.cell 4
                      have t5 := HK9.out.cell 5
                      have hrw := refWrite_ok p' xr c' xd a ys zs w8 HR8.out.row ((HW.out w8 HT8.out.k1.bel).row) (by omega) hfit
                      go_wp2_with (go_at_call 27; refine Hid.out ?_)
                      refine Lib.hid ?_
                      refine hrw.mono ?_
                      rintro e w9 ⟨v, rfl, hv9, hb9⟩
                      obtain ⟨p9, c9, rfl, hr9, ho9⟩ := hv9.off (G := G) HT8.out.k1.lt
                      have HPN : Hid (PT w w9 q mg ga gs (i + 1) p9 (putA ys a zs)) := ⟨G, h1, l1, b1, h2, l2, b2, H1, H2, S1, S2, HT8.out.below hb9, (HR8.out.below hb9).mem hr9 ho9, HOK1.out.more (Nat.le_succ i), HOK2.out.more (Nat.le_succ i), byt_putA hfit HBY.out (HW.out w8 HT8.out.k1.bel).byt, by rw [putA_len hfit]; exact hyl⟩
                      clear hrw hv9 hb9 hr9 ho9 t4 t5
                      go_wp2_with fail
                      go_meet
                      case rel => exact ⟨p9, _, c9, rfl, HPN.out⟩
                    · have hzl : zs.length ≤ 9223372036854775807 := by have := (HW.out w6 HT6.out.k1.bel).len; dsimp only at this; omega
                      have hwr := write_out q mg _ zs.length xd xr at_ ys w6 HT6.out.k1.mem hzl hf
                      have hrw := refWrite_out p' xr c' ys.length xd zs.length at_ w6 (by omega) hzl hf
                      go_wp2_with (go_at_call 26; refine Hid.out ?_)
                      refine Lib.hid ?_
                      refine hwr.mono ?_
                      rintro e w8 ⟨rfl, hw8⟩
                      rw [hw8]
                      clear hw8 hwr
                      go_wp2_with (go_at_call 27; refine Hid.out ?_)
                      refine Lib.hid ?_
                      refine hrw.mono ?_
                      rintro e w9 ⟨rfl, hw9⟩
                      rw [hw9]
                      clear hw9 hrw
                      go_wp2_with fail
                      go_meet
                      case rel => exact ⟨p', ys, c', rfl, G, h1, l1, b1, h2, l2, b2, H1, H2, S1, S2, HT6.out, HR6.out, HOK1.out.more (Nat.le_succ i), HOK2.out.more (Nat.le_succ i), HBY.out, hyl⟩
              have hb3 : (kind == 3) = false := beq_eq_false_iff_ne.2 hk3
              have hd3' : decide (kind = 3) = false := decide_eq_false hk3
              by_cases hk4 : kind = 4
              · subst hk4
                rcases h01 with rfl | rfl
                · as_aux_lemma =>
                    clear t2 t3 t4 t5 HK0 HW
                    have c0 := HR6.out.arr.cell 0
                    have hn1 := HT6.out.n1
                    have hn2 := HT6.out.n2
                    have hcp := HT6.out.copy2 (HOK1.out.more (by omega))
                    go_wp2_with (go_at_call 18; refine Hid.out ?_)
                    refine Lib.hid ?_
                    refine hcp.mono ?_
                    rintro e w7 ⟨h', l', b', rfl, hN7, hO7, a1, a2, g1, g2, hb7⟩
                    have HN7 := Hid.in hN7
                    have HO7 := Hid.in hO7
                    have HR7 := Hid.in (HR6.out.wide hb7 g1 g2)
                    clear hN7 hO7 hb7 hcp c0 HT6 HR6 g1 g2
                    have c0 := HR7.out.arr.cell 0
                    have f0 := HR7.out.arr.free 0
                    have HB8 : Hid (Blk (w7.setCell ⟨ga, 0, none⟩ (.pointer (some ⟨h', 0, none⟩))) ga 63 #[.pointer (some ⟨h', 0, none⟩), .pointer (some ⟨h2, 0, none⟩)]) := HR7.out.arr.set 0 _
                    have HG8 := Hid.in (grown_setCell w7 ga 0 (.pointer (some ⟨h', 0, none⟩)))
                    go_wp2_with (go_at_call 17; refine Hid.out ?_)
                    refine Lib.hid ?_
                    clear c0 f0
                    generalize w7.setCell ⟨ga, 0, none⟩ (.pointer (some ⟨h', 0, none⟩)) = w8 at *
                    have HR8 := Hid.in (HR7.out.turn HB8.out HG8.out)
                    have HN8 := Hid.in (HN7.out.at_ HR7.out.ia HR7.out.arr (by decide) (by decide) HR7.out.ba (keeps_grown HG8.out))
                    have HO8 := Hid.in (HO7.out.at_ HR7.out.ia HR7.out.arr (by decide) (by decide) HR7.out.ba (keeps_grown HG8.out))
                    clear HR7 HN7 HO7 HB8 HG8
                    refine HO8.out.sync.mono ?_
                    rintro e w9 ⟨rfl, hO9, hk9⟩
                    have HN9 := Hid.in (HN8.out.sync3 HO8.out a1 a2 hn1 hn2 hO9 hk9)
                    have HR9 := Hid.in (HR8.out.keeps HO8.out hk9)
                    have HO9 := Hid.in hO9
                    clear hO9 hk9 HN8 HR8 HO8
                    go_wp2_with (go_at_call 28; refine Hid.out ?_)
                    refine Lib.hid ?_
                    refine (mcopy_any q mg w.heap.size ys _ HO9.out.mem (by omega)).mono ?_
                    rintro e w10 ⟨q', g', rfl, hm10, hb10⟩
                    have HM10 := Hid.in hm10
                    have HB10 := Hid.in hb10
                    have HO10 := Hid.in (HO9.out.memNew hb10 hm10)
                    have HR10 := Hid.in (HR9.out.wide hb10 hm10.own.base hm10.own.base)
                    clear hm10 hb10 HR9
                    go_wp2_with (go_at_call 11; refine Hid.out ?_)
                    refine Lib.hid ?_
                    refine (HO10.out.step false .nilFunc none (by omega) HBY.out ⟨HOK1.out.pc, HOK1.out.lR, HOK1.out.wR, HOK1.out.wS, HOK1.out.lS, byt_nil, Nat.zero_le _, fun _ hx => absurd hx List.not_mem_nil, Nat.zero_le _⟩ (.inl ⟨rfl, rfl⟩)).mono ?_
                    rintro e w11 ⟨vv, rfl, -, -, hk11⟩
                    have HPN : Hid (PT w w11 q mg ga gs (i + 1) p' ys) := ⟨_, h', l', b', h2, l2, b2, H1, H2, S1, S2, (HN9.out.step3 HO9.out a1 a2 hn1 hn2 HB10.out HM10.out hk11), HR10.out.keeps HO10.out hk11, HOK1.out.more (Nat.le_succ i), HOK2.out.more (Nat.le_succ i), HBY.out, hyl⟩
                    clear hk11
                    go_wp2_with fail
                    go_meet
                    case rel => exact ⟨p', ys, c', rfl, HPN.out⟩
                · as_aux_lemma =>
                    clear t2 t3 t4 t5 HK0 HW
                    have c0 := HR6.out.arr.cell 1
                    have hn1 := HT6.out.swap.n1
                    have hn2 := HT6.out.swap.n2
                    have hcp := HT6.out.swap.copy2 (HOK2.out.more (by omega))
                    go_wp2_with (go_at_call 18; refine Hid.out ?_)
                    refine Lib.hid ?_
                    refine hcp.mono ?_
                    rintro e w7 ⟨h', l', b', rfl, hN7, hO7, a1, a2, g1, g2, hb7⟩
                    have HN7 := Hid.in hN7
                    have HO7 := Hid.in hO7
                    have HR7 := Hid.in (HR6.out.wide hb7 g1 g2)
                    clear hN7 hO7 hb7 hcp c0 HT6 HR6 g1 g2
                    have c0 := HR7.out.arr.cell 1
                    have f0 := HR7.out.arr.free 1
                    have HB8 : Hid (Blk (w7.setCell ⟨ga, 1, none⟩ (.pointer (some ⟨h', 0, none⟩))) ga 63 #[.pointer (some ⟨h1, 0, none⟩), .pointer (some ⟨h', 0, none⟩)]) := HR7.out.arr.set 1 _
                    have HG8 := Hid.in (grown_setCell w7 ga 1 (.pointer (some ⟨h', 0, none⟩)))
                    go_wp2_with (go_at_call 17; refine Hid.out ?_)
                    refine Lib.hid ?_
                    clear c0 f0
                    generalize w7.setCell ⟨ga, 1, none⟩ (.pointer (some ⟨h', 0, none⟩)) = w8 at *
                    have HR8 := Hid.in (HR7.out.turn HB8.out HG8.out)
                    have HN8 := Hid.in (HN7.out.at_ HR7.out.ia HR7.out.arr (by decide) (by decide) HR7.out.ba (keeps_grown HG8.out))
                    have HO8 := Hid.in (HO7.out.at_ HR7.out.ia HR7.out.arr (by decide) (by decide) HR7.out.ba (keeps_grown HG8.out))
                    clear HR7 HN7 HO7 HB8 HG8
                    refine HO8.out.sync.mono ?_
                    rintro e w9 ⟨rfl, hO9, hk9⟩
                    have HN9 := Hid.in (HN8.out.sync3 HO8.out a1 a2 hn1 hn2 hO9 hk9)
                    have HR9 := Hid.in (HR8.out.keeps HO8.out hk9)
                    have HO9 := Hid.in hO9
                    clear hO9 hk9 HN8 HR8 HO8
                    go_wp2_with (go_at_call 28; refine Hid.out ?_)
                    refine Lib.hid ?_
                    refine (mcopy_any q mg w.heap.size ys _ HO9.out.mem (by omega)).mono ?_
                    rintro e w10 ⟨q', g', rfl, hm10, hb10⟩
                    have HM10 := Hid.in hm10
                    have HB10 := Hid.in hb10
                    have HO10 := Hid.in (HO9.out.memNew hb10 hm10)
                    have HR10 := Hid.in (HR9.out.wide hb10 hm10.own.base hm10.own.base)
                    clear hm10 hb10 HR9
                    go_wp2_with (go_at_call 11; refine Hid.out ?_)
                    refine Lib.hid ?_
                    refine (HO10.out.step false .nilFunc none (by omega) HBY.out ⟨HOK2.out.pc, HOK2.out.lR, HOK2.out.wR, HOK2.out.wS, HOK2.out.lS, byt_nil, Nat.zero_le _, fun _ hx => absurd hx List.not_mem_nil, Nat.zero_le _⟩ (.inl ⟨rfl, rfl⟩)).mono ?_
                    rintro e w11 ⟨vv, rfl, -, -, hk11⟩
                    have HPN : Hid (PT w w11 q mg ga gs (i + 1) p' ys) := ⟨_, h1, l1, b1, h', l', b', H1, H2, S1, S2, (HN9.out.step3 HO9.out a1 a2 hn1 hn2 HB10.out HM10.out hk11).swap, HR10.out.keeps HO10.out hk11, HOK1.out.more (Nat.le_succ i), HOK2.out.more (Nat.le_succ i), HBY.out, hyl⟩
                    clear hk11
                    go_wp2_with fail
                    go_meet
                    case rel => exact ⟨p', ys, c', rfl, HPN.out⟩
              have hb4 : (kind == 4) = false := beq_eq_false_iff_ne.2 hk4
              have hd4' : decide (kind = 4) = false := decide_eq_false hk4
              go_wp2_with fail
              go_meet
              case rel => exact ⟨p', ys, c', rfl, G, h1, l1, b1, h2, l2, b2, H1, H2, S1, S2, HT6.out, HR6.out, HOK1.out.more (Nat.le_succ i), HOK2.out.more (Nat.le_succ i), HBY.out, hyl⟩
            case rest =>
              as_aux_lemma =>
                obtain ⟨p9, zs9, c9, rfl, hpt⟩ := hcut
                clear HT6 HR6 HOK1 HOK2 HBY HW hk0 t0 t1 h01
                have HPT := Hid.in hpt
                clear hpt
                go_wp2_with fail
                go_loopw [25] (fun vk wx => ∃ (k : Nat), vk = .int .i64 k ∧ k ≤ 2 ∧ PT w wx q mg ga gs (i + 1) p9 zs9) (fun vk _ => 2 - (intOf vk).toNat)
                case atStart => exact ⟨0, rfl, by decide, HPT.out⟩
                case round =>
                  obtain ⟨k, rfl, hk, hpt⟩ := hrel
                  clear HPT
                  obtain ⟨G, h1, l1, b1, h2, l2, b2, H1, H2, S1, S2, hth, hrf, ok1, ok2, hby, hyl⟩ := hpt
                  have HTH := Hid.in hth
                  have HRF := Hid.in hrf
                  have HOK1 := Hid.in ok1
                  have HOK2 := Hid.in ok2
                  have HBY := Hid.in hby
                  clear hth hrf ok1 ok2 hby
                  by_cases hk2 : k < 2
                  · have hdk : decide ((k : Int) < 2) = true := decide_eq_true (by omega)
                    rcases (show k = 0 ∨ k = 1 by omega) with rfl | rfl
                    · as_aux_lemma =>
                        obtain ⟨r0, r1, r2, r3, r4, r5, r6, r7, pS, cS, pH, cH, pL, cL, hS⟩ := HRF.out.s1.cells HOK1.out.lR
                        subst hS
                        have HK : Hid (∀ W, Below wr.heap.size wr W → W.cell? ⟨gs, 0, none⟩ = some (.int .u8 H1.st) ∧ W.cell? ⟨gs, 1, none⟩ = some (.int .u32 H1.pc) ∧ W.cell? ⟨gs, 2, none⟩ = some (.int .u32 r0) ∧ W.cell? ⟨gs, 3, none⟩ = some (.int .u32 r1) ∧ W.cell? ⟨gs, 4, none⟩ = some (.int .u32 r2) ∧ W.cell? ⟨gs, 5, none⟩ = some (.int .u32 r3) ∧ W.cell? ⟨gs, 6, none⟩ = some (.int .u32 r4) ∧ W.cell? ⟨gs, 7, none⟩ = some (.int .u32 r5) ∧ W.cell? ⟨gs, 8, none⟩ = some (.int .u32 r6) ∧ W.cell? ⟨gs, 9, none⟩ = some (.int .u32 r7) ∧ W.cell? ⟨gs, 10, none⟩ = some (.slice pS H1.S.length cS) ∧ W.cell? ⟨gs, 11, none⟩ = some (.slice pH H1.hv.length cH) ∧ W.cell? ⟨gs, 12, none⟩ = some (.slice pL H1.L.length cL) ∧ W.cell? ⟨ga, 0, none⟩ = some (.pointer (some ⟨h1, 0, none⟩))) := fun W hb => by
                          obtain ⟨y0, y1, y2, y3, y4, y5, y6, y7, y8, y9, y10, y11, y12⟩ := cells_lo (HRF.out.sb.grow hb)
                          exact ⟨y0, y1, y2, y3, y4, y5, y6, y7, y8, y9, y10, y11, y12, (HRF.out.arr.grow hb).cell 0⟩
                        obtain ⟨y0, y1, y2, y3, y4, y5, y6, y7, y8, y9, y10, y11, y12, y13⟩ := HK.out wr (below_self _)
                        have HT1 : Hid (TH w wr.drew G q mg h1 l1 b1 0 H1 h2 l2 b2 1 H2 zs9) := HTH.out.below (below_draws (below_self _) 1)
                        have HST : Hid (∀ W, TH w W G q mg h1 l1 b1 0 H1 h2 l2 b2 1 H2 zs9 → Calls Tryz.prog 14 #[.pointer (some ⟨h1, 0, none⟩)] W fun e w' => ∃ V, e = .returned V ∧ HvV w' H1 V ∧ Below W.heap.size W w') := fun W hW => by
                          refine (hW.k1.stateV (HOK1.out.more (by omega))).mono ?_
                          rintro e w' ⟨V, rfl, hv, hb⟩
                          exact ⟨V, rfl, hv.hv, hb⟩
                        have HSH : Hid (∀ W V, Below wr.heap.size wr W → HvV W H1 V → Calls Tryz.prog 19 #[V, .agg #[.int .u8 H1.st, .int .u32 H1.pc, .int .u32 r0, .int .u32 r1, .int .u32 r2, .int .u32 r3, .int .u32 r4, .int .u32 r5, .int .u32 r6, .int .u32 r7, .slice pS H1.S.length cS, .slice pH H1.hv.length cH, .slice pL H1.L.length cL]] W fun e w' => e = .returned (.bool true) ∧ Below W.heap.size W w') := fun W V hW hv => sameHart_self W (HOK1.out.more (by omega)) HOK1.out.wL.f8 hv (HRF.out.s1.below hW).hv
                        have HRN : Hid (∀ W, TH w W G q mg h1 l1 b1 0 H1 h2 l2 b2 1 H2 zs9 → Calls Tryz.prog 13 #[.pointer (some ⟨h1, 0, none⟩)] W fun e w' => e = .returned (.bool (decide (H1.st = 0))) ∧ w' = W) := fun W hW => hW.k1.run rfl
                        have hst : decide (H1.st = 0) = (H1.st == 0) := by by_cases e : H1.st = 0 <;> simp [e]
                        go_upto_region 37 with fail
                        go_region_held3 (fun W => W.cell? ⟨gs, 0, none⟩ = some (.int .u8 H1.st) ∧ W.cell? ⟨gs, 1, none⟩ = some (.int .u32 H1.pc) ∧ W.cell? ⟨gs, 2, none⟩ = some (.int .u32 r0) ∧ W.cell? ⟨gs, 3, none⟩ = some (.int .u32 r1) ∧ W.cell? ⟨gs, 4, none⟩ = some (.int .u32 r2) ∧ W.cell? ⟨gs, 5, none⟩ = some (.int .u32 r3) ∧ W.cell? ⟨gs, 6, none⟩ = some (.int .u32 r4) ∧ W.cell? ⟨gs, 7, none⟩ = some (.int .u32 r5) ∧ W.cell? ⟨gs, 8, none⟩ = some (.int .u32 r6) ∧ W.cell? ⟨gs, 9, none⟩ = some (.int .u32 r7) ∧ W.cell? ⟨gs, 10, none⟩ = some (.slice pS H1.S.length cS) ∧ W.cell? ⟨gs, 11, none⟩ = some (.slice pH H1.hv.length cH) ∧ W.cell? ⟨gs, 12, none⟩ = some (.slice pL H1.L.length cL) ∧ W.cell? ⟨ga, 0, none⟩ = some (.pointer (some ⟨h1, 0, none⟩))) (first | (with_reducible exact hk3) | (with_reducible exact hk4) | (with_reducible exact hk5) | go_keep)
                          (first
                            | (go_at_call 14; (with_reducible refine (HST.out _ HT1.out).mono ?_); rintro E w3 ⟨V, rfl, hv3, hb3⟩; have HB3 := Hid.in (below_step (below_draws (below_self wr) 1) hb3); have hk3 := HK.out w3 HB3.out; have HV3 := Hid.in hv3; clear hb3 hv3)
                            | (go_at_call 19; (with_reducible refine (HSH.out _ V HB3.out HV3.out).mono ?_); rintro E w4 ⟨rfl, hb4⟩; have HB4 := Hid.in (below_step HB3.out hb4); have hk4 := HK.out w4 HB4.out; have HT4 := Hid.in (HTH.out.below HB4.out); clear hb4)
                            | (go_at_call 13; (with_reducible refine (HRN.out _ HT4.out).mono ?_); rintro E w5 ⟨rfl, hw5⟩; have HB5 := Hid.in (hw5 ▸ HB4.out); have hk5 := HK.out w5 HB5.out; clear hw5))
                        clear hk3 hk4 hk5 y0 y1 y2 y3 y4 y5 y6 y7 y8 y9 y10 y11 y12 y13
                        have hns : (decide (H1.st = 0) != (H1.st == 0)) = false := by rw [hst]; simp
                        go_wp2_with fail
                        go_roundw
                        case rel => exact ⟨1, by go_num, by omega, G, h1, l1, b1, h2, l2, b2, H1, H2, _, _, HTH.out.below HB5.out, HRF.out.below HB5.out, HOK1.out, HOK2.out, HBY.out, hyl⟩
                        case measure => simp [intOf]
                    · as_aux_lemma =>
                        obtain ⟨r0, r1, r2, r3, r4, r5, r6, r7, pS, cS, pH, cH, pL, cL, hS⟩ := HRF.out.s2.cells HOK2.out.lR
                        subst hS
                        have z1 := HRF.out.s1.size.1
                        have HK : Hid (∀ W, Below wr.heap.size wr W → W.cell? ⟨gs, 13, none⟩ = some (.int .u8 H2.st) ∧ W.cell? ⟨gs, 14, none⟩ = some (.int .u32 H2.pc) ∧ W.cell? ⟨gs, 15, none⟩ = some (.int .u32 r0) ∧ W.cell? ⟨gs, 16, none⟩ = some (.int .u32 r1) ∧ W.cell? ⟨gs, 17, none⟩ = some (.int .u32 r2) ∧ W.cell? ⟨gs, 18, none⟩ = some (.int .u32 r3) ∧ W.cell? ⟨gs, 19, none⟩ = some (.int .u32 r4) ∧ W.cell? ⟨gs, 20, none⟩ = some (.int .u32 r5) ∧ W.cell? ⟨gs, 21, none⟩ = some (.int .u32 r6) ∧ W.cell? ⟨gs, 22, none⟩ = some (.int .u32 r7) ∧ W.cell? ⟨gs, 23, none⟩ = some (.slice pS H2.S.length cS) ∧ W.cell? ⟨gs, 24, none⟩ = some (.slice pH H2.hv.length cH) ∧ W.cell? ⟨gs, 25, none⟩ = some (.slice pL H2.L.length cL) ∧ W.cell? ⟨ga, 1, none⟩ = some (.pointer (some ⟨h2, 0, none⟩))) := fun W hb => by
                          obtain ⟨y0, y1, y2, y3, y4, y5, y6, y7, y8, y9, y10, y11, y12⟩ := cells_hi (HRF.out.sb.grow hb) z1
                          exact ⟨y0, y1, y2, y3, y4, y5, y6, y7, y8, y9, y10, y11, y12, (HRF.out.arr.grow hb).cell 1⟩
                        obtain ⟨y0, y1, y2, y3, y4, y5, y6, y7, y8, y9, y10, y11, y12, y13⟩ := HK.out wr (below_self _)
                        have HT1 : Hid (TH w wr.drew G q mg h1 l1 b1 0 H1 h2 l2 b2 1 H2 zs9) := HTH.out.below (below_draws (below_self _) 1)
                        have HST : Hid (∀ W, TH w W G q mg h1 l1 b1 0 H1 h2 l2 b2 1 H2 zs9 → Calls Tryz.prog 14 #[.pointer (some ⟨h2, 0, none⟩)] W fun e w' => ∃ V, e = .returned V ∧ HvV w' H2 V ∧ Below W.heap.size W w') := fun W hW => by
                          refine (hW.k2.stateV (HOK2.out.more (by omega))).mono ?_
                          rintro e w' ⟨V, rfl, hv, hb⟩
                          exact ⟨V, rfl, hv.hv, hb⟩
                        have HSH : Hid (∀ W V, Below wr.heap.size wr W → HvV W H2 V → Calls Tryz.prog 19 #[V, .agg #[.int .u8 H2.st, .int .u32 H2.pc, .int .u32 r0, .int .u32 r1, .int .u32 r2, .int .u32 r3, .int .u32 r4, .int .u32 r5, .int .u32 r6, .int .u32 r7, .slice pS H2.S.length cS, .slice pH H2.hv.length cH, .slice pL H2.L.length cL]] W fun e w' => e = .returned (.bool true) ∧ Below W.heap.size W w') := fun W V hW hv => sameHart_self W (HOK2.out.more (by omega)) HOK2.out.wL.f8 hv (HRF.out.s2.below hW).hv
                        have HRN : Hid (∀ W, TH w W G q mg h1 l1 b1 0 H1 h2 l2 b2 1 H2 zs9 → Calls Tryz.prog 13 #[.pointer (some ⟨h2, 0, none⟩)] W fun e w' => e = .returned (.bool (decide (H2.st = 0))) ∧ w' = W) := fun W hW => hW.k2.run rfl
                        have hst : decide (H2.st = 0) = (H2.st == 0) := by by_cases e : H2.st = 0 <;> simp [e]
                        go_upto_region 37 with fail
                        go_region_held3 (fun W => W.cell? ⟨gs, 13, none⟩ = some (.int .u8 H2.st) ∧ W.cell? ⟨gs, 14, none⟩ = some (.int .u32 H2.pc) ∧ W.cell? ⟨gs, 15, none⟩ = some (.int .u32 r0) ∧ W.cell? ⟨gs, 16, none⟩ = some (.int .u32 r1) ∧ W.cell? ⟨gs, 17, none⟩ = some (.int .u32 r2) ∧ W.cell? ⟨gs, 18, none⟩ = some (.int .u32 r3) ∧ W.cell? ⟨gs, 19, none⟩ = some (.int .u32 r4) ∧ W.cell? ⟨gs, 20, none⟩ = some (.int .u32 r5) ∧ W.cell? ⟨gs, 21, none⟩ = some (.int .u32 r6) ∧ W.cell? ⟨gs, 22, none⟩ = some (.int .u32 r7) ∧ W.cell? ⟨gs, 23, none⟩ = some (.slice pS H2.S.length cS) ∧ W.cell? ⟨gs, 24, none⟩ = some (.slice pH H2.hv.length cH) ∧ W.cell? ⟨gs, 25, none⟩ = some (.slice pL H2.L.length cL) ∧ W.cell? ⟨ga, 1, none⟩ = some (.pointer (some ⟨h2, 0, none⟩))) (first | (with_reducible exact hk3) | (with_reducible exact hk4) | (with_reducible exact hk5) | go_keep)
                          (first
                            | (go_at_call 14; (with_reducible refine (HST.out _ HT1.out).mono ?_); rintro E w3 ⟨V, rfl, hv3, hb3⟩; have HB3 := Hid.in (below_step (below_draws (below_self wr) 1) hb3); have hk3 := HK.out w3 HB3.out; have HV3 := Hid.in hv3; clear hb3 hv3)
                            | (go_at_call 19; (with_reducible refine (HSH.out _ V HB3.out HV3.out).mono ?_); rintro E w4 ⟨rfl, hb4⟩; have HB4 := Hid.in (below_step HB3.out hb4); have hk4 := HK.out w4 HB4.out; have HT4 := Hid.in (HTH.out.below HB4.out); clear hb4)
                            | (go_at_call 13; (with_reducible refine (HRN.out _ HT4.out).mono ?_); rintro E w5 ⟨rfl, hw5⟩; have HB5 := Hid.in (hw5 ▸ HB4.out); have hk5 := HK.out w5 HB5.out; clear hw5))
                        clear hk3 hk4 hk5 y0 y1 y2 y3 y4 y5 y6 y7 y8 y9 y10 y11 y12 y13
                        have hns : (decide (H2.st = 0) != (H2.st == 0)) = false := by rw [hst]; simp
                        go_wp2_with fail
                        go_roundw
                        case rel => exact ⟨2, by go_num, by omega, G, h1, l1, b1, h2, l2, b2, H1, H2, _, _, HTH.out.below HB5.out, HRF.out.below HB5.out, HOK1.out, HOK2.out, HBY.out, hyl⟩
                        case measure => simp [intOf]
                  · as_aux_lemma =>
                      have hdk : decide ((k : Int) < 2) = false := decide_eq_false (by omega)
                      go_wp2_with (go_at_call 30; refine Hid.out ?_)
                      refine Lib.hid ?_
                      refine (bytes_any q mg w.heap.size zs9 _ HTH.out.k1.mem (by omega)).mono ?_
                      rintro e w3 ⟨hb, rfl, ho3, hb3⟩
                      have HO3 := Hid.in ho3.row
                      have HT3 := Hid.in (HTH.out.below hb3)
                      have HR3 := Hid.in (HRF.out.below hb3)
                      clear ho3 hb3
                      go_wp2_with (go_at_call 29; refine Hid.out ?_)
                      refine Lib.hid ?_
                      refine (sameBytes_any (some ⟨hb, 0, none⟩) p9 zs9.length zs9.length zs9.length c9 zs9 zs9 _ rfl rfl (by omega) HO3.out HR3.out.row).mono ?_
                      rintro e w4 ⟨rfl, z, hw⟩
                      rw [sameB_self]
                      have HPN : Hid (PT w w4 q mg ga gs (i + 1) p9 zs9) := ⟨G, h1, l1, b1, h2, l2, b2, H1, H2, S1, S2, hw ▸ HT3.out.below (below_draws (below_self _) z), hw ▸ HR3.out.below (below_draws (below_self _) z), HOK1.out, HOK2.out, HBY.out, hyl⟩
                      clear hw
                      go_wp2_with fail
                      go_roundw
                      case rel => exact ⟨i + 1, p9, zs9, c9, by go_num, rfl, by omega, HPN.out⟩
                      case measure => simp [intOf]; omega
          · have hd2 : decide ((i : Int) < 300) = false := decide_eq_false (by omega)
            have HBW := Hid.in HTH.out.k1.bel
            clear HTH HRF HOK1 HOK2 HBY
            go_wp2_with (go_at_call 20; refine Hid.out ?_)
            refine Lib.hid ?_
            refine (awake_any _).mono ?_
            rintro e wa ⟨rfl, hba⟩
            have HBa := Hid.in (below_step HBW.out hba)
            clear hba
            go_wp2_with fail
            go_ret
            exact ⟨rfl, HBa.out⟩
        · have hd1 : decide ((i : Int) < (Z.length : Int)) = false := decide_eq_false (by omega)
          have HBW := Hid.in HTH.out.k1.bel
          clear HTH HRF HOK1 HOK2 HBY
          go_wp2_with (go_at_call 20; refine Hid.out ?_)
          refine Lib.hid ?_
          refine (awake_any _).mono ?_
          rintro e wa ⟨rfl, hba⟩
          have HBa := Hid.in (below_step HBW.out hba)
          clear hba
          go_wp2_with fail
          go_ret
          exact ⟨rfl, HBa.out⟩

end Go.Proofs.YtnpaijbkhmnfpaaGreat
