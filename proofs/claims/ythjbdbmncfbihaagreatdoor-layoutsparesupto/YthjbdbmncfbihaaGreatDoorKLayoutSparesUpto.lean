/-
  Proved here: the law LayoutSpares (switchyardlaw05) answers true wherever its arguments hold together at most 1048576 values and letters, and each argument reads afterwards as it read before; the card: what the row lists of the library's variables is tied to the program's text. 
-/
import Derived.Test.YthjbdbmncfbihaaGreatDoorKzm
import Derived.Test.YthjbdbmncfbihaaGreatDoorKzn
import Derived.Test.YthjbdbmncfbihaaGreatDoorKze
import Derived.Test.YthjbdbmncfbihaaGreatDoorKzj
import Derived.Test.YthjbdbmncfbihaaGreatDoorCards
import Derived.Test.YthjbdbmncfbihaaGreatDoorTie
import Derived.SevenTiedAt

/- switchyardlaw05.LayoutSpares answers true. -/
namespace Go.Proofs.YthjbdbmncfbihaaGreatDoor
open Go.RowKit

set_option maxRecDepth 100000 in
set_option maxHeartbeats 1000000 in
theorem spares_any (p : Option Addr) (n c : Nat) (xs : List Src) (w : World) (he : Env w) (hn : xs.length = n) (hnc : n ≤ c) (hc : c ≤ 1048576) (hx : Items w p xs) :
    Calls Tryz.prog 6 #[.slice p n c] w fun E w' => E = .returned (.bool true) ∧ Below w.heap.size w w' := by
  have hP := fun W hW hX => places_any p n c xs W hW hn hnc (by omega) hX
  have hB := fun W hW hX => bytes_any p n c xs W hW hn hnc (by omega) hX
  have hC := fun W hX => copyItems_any p n c xs W hn (by omega) hX
  have hA := fun W hW => awake_any W hW
  have hzi := placesI_len xs
  have hzb := bytesI_len xs
  rw [hn] at hzi
  unfold PlacesIs at hP
  unfold BytesIs at hB
  generalize endI xs = ei at *
  generalize hle : layE xs = le at *
  obtain ⟨zi, hzi2⟩ : ∃ zi, (placesI xs).length = zi := ⟨_, rfl⟩
  obtain ⟨zb, hzb2⟩ : ∃ zb, (bytesI xs).length = zb := ⟨_, rfl⟩
  rw [hzi2] at hzi
  rw [hzb2] at hzb
  have HZI : Hid ((nums (placesI xs)).length = zi) := by
    rw [show (nums (placesI xs)).length = (placesI xs).length from List.length_map _]; exact hzi2
  have HZB : Hid ((byts (bytesI xs)).length = zb) := by
    rw [show (byts (bytesI xs)).length = (bytesI xs).length from List.length_map _]; exact hzb2
  have HZI2 := Hid.in hzi2
  have HZB2 := Hid.in hzb2
  have HX := Hid.in hx
  have HE := Hid.in he
  have HN := Hid.in hn
  have HFX := Hid.in hx.fit
  clear hx he hn hzi2 hzb2 hle
  go_enter Tryz.func6, Tryz.ntmps6
  go_upto_region 5 with (first
    | (go_at_call 13; first
        | (refine (hP w HE.out HX.out).mono ?_; rintro E w1 ⟨v1, rfl, hv1, hb1⟩; obtain ⟨pa, ca, rfl, oa, ia⟩ := hv1.split HZI.out; have OA1 := Hid.in oa; have IA := Hid.in ia; have HB1 := Hid.in hb1; clear hv1 hb1 oa ia)
        | (refine (hP w1 (HE.out.below HB1.out) (HX.out.below HB1.out)).mono ?_; rintro E w2 ⟨v2, rfl, hv2, hb2⟩; obtain ⟨pb, cb, rfl, ob, ib⟩ := hv2.split HZI.out; have OB2 := Hid.in ob; have IB := Hid.in ib; have OA2 := Hid.in (OA1.out.below hb2); have HS2 := Hid.in hb2.size; have HB2 := Hid.in (below_step HB1.out hb2); clear hv2 hb2 ob ib))
    | (go_at_call 15; first
        | (refine (hB w2 (HE.out.below HB2.out) (HX.out.below HB2.out)).mono ?_; rintro E w3 ⟨v3, rfl, hv3, hb3⟩; obtain ⟨pc, cc, rfl, oc, ic⟩ := hv3.genB.split HZB.out; have OC3 := Hid.in oc; have IC := Hid.in ic; have OA3 := Hid.in (OA2.out.below hb3); have OB3 := Hid.in (OB2.out.below hb3); have HS3 := Hid.in hb3.size; have HB3 := Hid.in (below_step HB2.out hb3); clear hv3 hb3 oc ic)
        | (refine (hB w3 (HE.out.below HB3.out) (HX.out.below HB3.out)).mono ?_; rintro E w4 ⟨v4, rfl, hv4, hb4⟩; obtain ⟨pd, cd, rfl, od, id⟩ := hv4.genB.split HZB.out; have OD4 := Hid.in od; have ID := Hid.in id; have OA4 := Hid.in (OA3.out.below hb4); have OB4 := Hid.in (OB3.out.below hb4); have OC4 := Hid.in (OC3.out.below hb4); have HS4 := Hid.in hb4.size; have HB4 := Hid.in (below_step HB3.out hb4); clear hv4 hb4 od id)))
  clear OA1 OA2 OB2 OA3 OB3 OC3 hP
  have HS1 := Hid.in HB1.out.size
  have hSI := sameInts_self (ptr pa) (ptr pb) zi ca cb (placesI xs) w4 (by omega) HZI2.out OA4.out.rowP OB4.out.rowP
  have hSB := fun m => sameBytes_any (ptr pc) (ptr pd) zb cc zb cd (bytesI xs) (bytesI xs) (w4.drewN m) HZB2.out HZB2.out (by omega) (OC4.out.rowOf.drewN m) (OD4.out.rowOf.drewN m)
  rw [sameB_self] at hSB
  go_upto_region 7 with (first
    | (go_at_call 17; refine hSI.mono ?_; rintro E w5 ⟨rfl, m5, rfl⟩)
    | (go_at_call 18; refine (hSB _).mono ?_; rintro E w6 ⟨rfl, m6, rfl⟩))
  have OA6 : Hid (GOwnV 3 (w4.drewN (m5 + m6)) w.heap.size (sl pa zi ca) (nums (placesI xs))) := OA4.out.drewN _
  have OB6 : Hid (GOwnV 3 (w4.drewN (m5 + m6)) w1.heap.size (sl pb zi cb) (nums (placesI xs))) := OB4.out.drewN _
  have OC6 : Hid (GOwnV 5 (w4.drewN (m5 + m6)) w2.heap.size (sl pc zb cc) (byts (bytesI xs))) := OC4.out.drewN _
  have OD6 : Hid (GOwnV 5 (w4.drewN (m5 + m6)) w3.heap.size (sl pd zb cd) (byts (bytesI xs))) := OD4.out.drewN _
  have HB6 : Hid (Below w.heap.size w (w4.drewN (m5 + m6))) := below_draws HB4.out _
  have HS6 : Hid ((w4.drewN (m5 + m6)).heap.size = w4.heap.size) := rfl
  generalize w4.drewN (m5 + m6) = w6 at *
  clear OA4 OB4 OC4 OD4 HB4 hSI hSB
  have hCB := copy_any (ptr pc) zb cc (bytesI xs) w6 HZB2.out (by omega) OC6.out.rowOf
  go_upto_region 8 with (first
    | (go_at_call 21; refine hCB.mono ?_; rintro E w7 ⟨v7, rfl, hv7, hb7⟩; have OW7 := Hid.in hv7; have HB7 := Hid.in hb7; clear hv7 hb7)
    | (go_at_call 12; refine (hC w7 (HX.out.below (below_step HB6.out HB7.out))).mono ?_; rintro E w8 ⟨v8, L8, rfl, hm8, hI8, hb8⟩; have HM8 := Hid.in hm8; have HI8 := Hid.in hI8; have HB8 := Hid.in (below_step HB7.out hb8); have OW8 := Hid.in (OW7.out.below hb8); have HS7 := Hid.in HB7.out.size; clear hm8 hI8 hb8))
  have OA8 := Hid.in (OA6.out.below HB8.out)
  have OB8 := Hid.in ((OB6.out.below HB8.out).lowerV HS1.out)
  have OC8 := Hid.in ((OC6.out.below HB8.out).lowerV (Nat.le_trans HS1.out HS2.out))
  have OD8 := Hid.in ((OD6.out.below HB8.out).lowerV (Nat.le_trans HS1.out (Nat.le_trans HS2.out HS3.out)))
  have HW8 := Hid.in (below_step HB6.out HB8.out)
  clear OA6 OB6 OC6 OD6 OW7 hCB
  obtain ⟨p8, c8, hv8, hl8, hlm8, -⟩ := HI8.out.list HM8.out HFX.out
  rw [HN.out] at hv8 hl8
  subst hv8
  obtain ⟨p7, c7, hv7, -, -⟩ := OW8.out.slice
  rw [HZB2.out] at hv7
  subst hv7
  have hS1 := HS1.out
  have hS2 := HS2.out
  have hS3 := HS3.out
  have hS4 := HS4.out
  have hS6 := HS6.out
  have hS7 := HS7.out
  have hS8 := HB8.out.size
  have hSW := HW8.out.size
  have RI := Hid.in (two_out (l := w.heap.size) (r := w4.heap.size) (fun g hg => by have := IA.out g hg; omega) (fun g hg => by have := IB.out g hg; omega) : (∀ g, w4.heap.size ≤ g → ¬ GSet 2 (twoV pa pb) g) ∧ ∀ g, GSet 2 (twoV pa pb) g → w.heap.size ≤ g)
  have RB := Hid.in (two_out (l := w.heap.size) (r := w4.heap.size) (fun g hg => by have := IC.out g hg; omega) (fun g hg => by have := ID.out g hg; omega) : (∀ g, w4.heap.size ≤ g → ¬ GSet 2 (twoV pc pd) g) ∧ ∀ g, GSet 2 (twoV pc pd) g → w.heap.size ≤ g)
  have RX : Hid (∀ g, (pc = some g ∨ pd = some g) → ¬ GSet 2 (twoV pa pb) g) := fun g hg h => by
    have h2 : w2.heap.size ≤ g := by
      rcases hg with e | e
      · exact (IC.out g e).1
      · have := (ID.out g e).1; omega
    rcases two_mem h with e | e
    · have := IA.out g e; omega
    · have := IB.out g e; omega
  have hAI := apartInts_any 2 w.heap.size w8.heap.size (twoV pa pb) (twoV zi zi) (twoV ca cb) (twoV (nums (placesI xs)) (nums (placesI xs))) (w8.alloc (.cells #[.slice (ptr pa) zi ca, .slice (ptr pb) zi cb] 36)) (by decide)
    (two_apart IA.out IB.out (Nat.le_refl _)) (fun k _ => two_len HZI.out k) (fun k _ => two_le (by omega) k) (by rw [size_one]; omega) (two_own (OA8.out.alloc _) (OB8.out.alloc _)) (two_tab 36 w8 pa pb zi ca cb)
  go_wp2_with (first
    | (go_at_call 22; refine hAI.mono ?_; rintro E w9 ⟨rfl, hk9⟩; refine Hid.out ?_))
  refine Lib.hid ?_
  have OC9 := Hid.in ((OC8.out.alloc _).keeps hk9 (fun g e => RX.out g (.inl e)))
  have OD9 := Hid.in ((OD8.out.alloc _).keeps hk9 (fun g e => RX.out g (.inr e)))
  have OW9 := Hid.in (OwnV.keeps (OW8.out.alloc _) hk9 (fun g hg => RI.out.1 g (by omega)))
  have HI9 := Hid.in ((HI8.out.below (new_alloc w8 _)).keeps hk9 (fun g hg => RI.out.1 g (by omega)))
  have HW9 := Hid.in ((below_alloc HW8.out _).trans (hk9.below (by rw [size_one]; omega) RI.out.2))
  have hS9 := hk9.size
  rw [size_one] at hS9
  clear hk9 OC8 OD8 OW8 HI8 HW8 OA8 OB8 hAI
  have hAB := apartBytes_any 2 w.heap.size w9.heap.size (twoV pc pd) (twoV zb zb) (twoV cc cd) (twoV (byts (bytesI xs)) (byts (bytesI xs))) (w9.alloc (.cells #[.slice (ptr pc) zb cc, .slice (ptr pd) zb cd] 26)) (by decide)
    (two_apart IC.out ID.out (Nat.le_refl _)) (fun k _ => two_len HZB.out k) (fun k _ => two_le (by omega) k) (by rw [size_one]; omega) (two_own (OC9.out.alloc _) (OD9.out.alloc _)) (two_tab 26 w9 pc pd zb cc cd)
  go_upto_region 9 with (go_at_call 23; refine hAB.mono ?_; rintro E w10 ⟨rfl, hk10⟩; refine Hid.out ?_)
  refine Lib.hid ?_
  have OW10 := Hid.in (OwnV.keeps (OW9.out.alloc _) hk10 (fun g hg => RB.out.1 g (by omega)))
  have HI10 := Hid.in ((HI9.out.below (new_alloc w9 _)).keeps hk10 (fun g hg => RB.out.1 g (by omega)))
  have HW10 := Hid.in ((below_alloc HW9.out _).trans (hk10.below (by rw [size_one]; omega) RB.out.2))
  clear hk10 OC9 OD9 OW9 HI9 HW9 hAB
  obtain ⟨p8', c8', hv8', -, -, hit⟩ := HI10.out.list HM8.out HFX.out
  rw [HN.out] at hv8'
  injection hv8' with e1 e2 e3
  subst e1
  clear e2 e3
  have HIT := Hid.in hit
  have hBO := bytes_any p8 n c8 xs w10 (HE.out.below HW10.out) HN.out hl8 (Nat.le_trans hlm8 (by unfold maxLen; decide)) hit
  unfold BytesIs at hBO
  obtain ⟨p7', c7', hv7', hr7, -⟩ := OW10.out.slice
  rw [HZB2.out] at hv7'
  injection hv7' with e1 e2 e3
  subst e1
  clear e2 e3
  have HR7 := Hid.in hr7
  clear hit hr7 OW10
  go_upto_region 10 with (go_at_call 15; refine hBO.mono ?_; rintro E w11 ⟨v11, rfl, hv11, hb11⟩; obtain ⟨p11, c11, hp11, hr11, -⟩ := hv11.slice; rw [HZB2.out] at hp11; subst hp11; have HR11 := Hid.in hr11; have HR7' := Hid.in (HR7.out.below hb11); have HIT' := Hid.in (HIT.out.below hb11); have HW11 := Hid.in (below_step HW10.out hb11); clear hv11 hb11 hr11)
  have hSB := sameBytes_any p11 p7 zb c11 zb c7 (bytesI xs) (bytesI xs) w11 HZB2.out HZB2.out (by omega) HR11.out HR7'.out
  rw [sameB_self] at hSB
  have hSS := fun m => sameItems_yes p p8 n c c8 xs (w11.drewN m) HN.out (by omega) (fun x hx => Nat.le_trans (HFX.out x hx).dz (by decide)) (HX.out.below (below_draws HW11.out m)) (HIT'.out.below (below_draws (below_self w11) m))
  clear hBO HIT HR7 HR11 HR7'
  go_wp2_with (first
    | (go_at_call 18; refine hSB.mono ?_; rintro E w12 ⟨rfl, m12, rfl⟩)
    | (go_at_call 19; refine (hSS _).mono ?_; rintro E w13 ⟨rfl, hb13⟩; have HB13 := Hid.in (below_step (below_draws HW11.out m12) hb13); clear hb13)
    | (go_at_call 11; refine (hA _ (HE.out.below HB13.out)).mono ?_; rintro E w14 ⟨rfl, hb14⟩))
  go_ret
  exact ⟨rfl, below_step HB13.out hb14⟩

end Go.Proofs.YthjbdbmncfbihaaGreatDoor

/-
  Proved here: the law LayoutSpares (switchyardlaw05) answers true wherever its arguments hold together at most 1048576 values and letters, and each argument reads afterwards as it read before; the card: what the row lists of the library's variables is tied to the program's text. 
-/
namespace Go.Proofs.YthjbdbmncfbihaaGreatDoor
open Go.ChangeShapes Go.WideShapes Go.ChangeAt Go.RowKit
open Go.ChangeMaps (open_string shut_string)

theorem layoutSparesUpto_reads (os : Os) {H : Type} (enc : TypeId × Value → H) : ∃ places, DataW.whole enc Tryz.prog ((laidWorld os).forCall (fun _ _ => 0) ⟨#[], #[.slice none 0 0], []⟩).memory Tryz.f6.params.toList (Rows.OpenSpec.upto Rows.layoutSparesSpec).vars false (#[.slice none 0 0] : Array Value).toList 8 = some ([.nil], [], places) :=
  ⟨[], by kernel_rfl⟩

set_option maxRecDepth 100000 in
theorem layoutSparesUpto_lifted (os : Os) (started : os.Started) (H : Type) (enc : TypeId × Value → H) (F : Stop.Interp) :
    ReturnsInHanded {} Tryz.checked os 6 .any ((Rows.OpenSpec.upto Rows.layoutSparesSpec).preRow enc Tryz.prog Tryz.f6 Rows.layoutSparesUptoRow.domain false Rows.layoutSparesUptoRow.laid) (((Rows.OpenSpec.upto Rows.layoutSparesSpec).at F).post enc Tryz.prog Tryz.f6 false true false false) := by
  obtain ⟨places, hx⟩ := layoutSparesUpto_reads os enc
  refine returnsInHanded_of_row (C := Tryz.checked) (s := (Rows.OpenSpec.upto Rows.layoutSparesSpec)) Tryz.own started (by kernel_rfl) Tryz.func6
    (witness_row_atRef (enc := enc) (C := Tryz.checked) false (laidWorld os) #[.slice none 0 0] rfl (by kernel_rfl) (by kernel_rfl) (by kernel_rfl)
      (OpenSpec.preRow_of_cond 8 hx (by kernel_rfl) (fun k hk => by cases hk; kernel_rfl) (by kernel_rfl) (laid_met os _))) ?_
  intro W base args ds gs before hval0 hW _ hcond hsz0 hL _ _
  have hV := env_of hL
  have hk := hcond _ rfl
  have hW' := hW
  obtain ⟨p, q, hA0, hVv, rfl, hfz, hnd⟩ := hW
  have hA : DataW.TrodAll enc Tryz.prog W 0 (fun _ => true) true Tryz.f6.params.toList args.toList ds p := hA0
  have hval : ∀ (j : Nat) t v, Tryz.f6.params[j]? = some t → args[j]? = some v → Value.okWide Tryz.prog W .any base t v := hval0
  rw [Tryz.params6] at hA hval
  obtain ⟨v0, vs0, d0, ds0, p0, q0, hargs, rfl, rfl, h0, r0⟩ := trodAll_cons hA
  obtain ⟨rfl, rfl, rfl⟩ := trodAll_nil r0
  obtain rfl : args = #[v0] := by cases args; simp_all
  obtain ⟨rfl, rfl⟩ := trodVars_none hVv
  obtain ⟨a0, n0, c0, rfl⟩ := okWide_slice Tryz.underlying34 (hval 0 34 v0 rfl rfl)
  have k0 := h0
  have lt0 : ∀ x ∈ p0, x.block < W.heap.size := by obtain ⟨m, hm⟩ := k0; exact DataW.trod_lt m _ _ _ hm
  obtain ⟨x0, hx0, hl0, hc0, hr0⟩ := opened_items h0 (bulk_one (d := d0) hk (by simp))
  refine (spares_any a0 n0 c0 x0 W hV hx0 hl0 hc0 hr0).mono fun e W' ⟨he, bel⟩ => ?_
  subst he
  exact ⟨_, rfl, _, _, _, [], _, [], hW', trodAll_mk1 (shut_bool Tryz.underlying4 _), (trodAll_cons_mk (Below.trod Tryz.laidOut (by kernel_rfl) (of_decide_eq_true (by kernel_rfl)) k0 bel lt0) trodAll_mk0), rfl, bel.frame _, fun h => by cases h⟩

theorem layoutSparesUpto_said : Rows.LayoutSparesUptoSaid :=
  OpenClaim.holds_of_cond 6 Tryz.f6 rfl rfl rfl rfl rfl rfl rfl ⟨rfl, rfl, rfl, rfl, rfl⟩ rfl rfl rfl rfl rfl (by kernel_rfl) Tryz.func6 (by kernel_rfl)
    (of_decide_eq_true (by kernel_rfl)) (by unfold Func.isWrapper; first | (rw [if_pos (by decide +kernel)]; kernel_rfl) | (rw [if_neg (by decide +kernel)]; exact ⟨rfl, rfl⟩))
    (fun os started H enc _ F => by rw [OpenClaim.pre_eq_preRow]; exact layoutSparesUpto_lifted os started H enc F)

theorem layoutSparesUpto_plain (f : FuncId) (fn : Func) (hf : Tryz.pinned.checked.prog.funcNamed "switchyard/switchyardlaw05.LayoutSpares" = some f) (hfn : Tryz.pinned.checked.prog.funcs[f]? = some fn) :
    true = Tryz.pinned.checked.prog.looks [] ∧ ∀ (j : Nat) t, fn.params[j]? = some t → Tryz.pinned.checked.prog.wantsStandIn t = false := by
  obtain rfl : f = 6 := Option.some.inj ((show Tryz.prog.funcNamed "switchyard/switchyardlaw05.LayoutSpares" = some 6 by kernel_rfl).symm.trans hf) |>.symm
  obtain rfl : fn = Tryz.f6 := (Option.some.inj (Tryz.func6.symm.trans hfn)).symm
  refine ⟨by kernel_rfl, fun j t ht => ?_⟩
  rw [Tryz.params6] at ht
  rcases j with _ | j
  · obtain rfl : t = 34 := by simpa using ht.symm
    exact (show Tryz.prog.wantsStandIn 34 = false by kernel_rfl)
  · simp at ht

theorem layoutSparesUpto_holds : Rows.LayoutSparesUptoCardSaid :=
  Claim7.holds_tied_plain_at .later [] _ _ _ _ layoutSparesUpto_said (fun _ h => by cases h) (by kernel_rfl) (fun _ h => by cases h) layoutSparesUpto_row_tie rfl ⟨rfl, rfl⟩ (by kernel_rfl) rfl layoutSparesUpto_plain (by kernel_rfl)
#print axioms layoutSparesUpto_holds

end Go.Proofs.YthjbdbmncfbihaaGreatDoor
