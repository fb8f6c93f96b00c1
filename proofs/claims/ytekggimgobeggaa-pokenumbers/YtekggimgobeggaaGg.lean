/- Texts put together: NumW. -/
import Derived.Test.YtekggimgobeggaaGf

/- PokeNumbers: the walk. -/
namespace Go.Proofs.Ytekggimgobeggaa
open Go.RowKit Go.Sort

theorem GP_ge {w : World} {B pq mq mg rq bq : Nat} {lp : Option Addr} {lc : Nat} {s : PS} (h : PA w B pq mq mg rq bq lp lc s) : ∀ j, GP pq mg rq bq j → B ≤ j := fun j hj => by
  rcases hj with e | e | e | e
  · subst e; exact h.gp
  · subst e; exact h.mem.own.base
  · subst e; exact h.gr
  · subst e; exact h.gb
theorem L1.re {w wr : World} {r1 pq mq mg rq bq k k' : Nat} {v3 v4 : Value} {ps ks : List Int} {s : PS} (h : L1 w wr r1 pq mq mg rq bq k v3 v4 ps ks s) : L1 w wr r1 pq mq mg rq bq k' v3 v4 ps ks s := ⟨h.pa, h.x, h.ph, h.kd, h.bel⟩
theorem news1 (w : World) (u : Value) (T : TypeId) : ∀ j x, [u][j]? = some x → (w.alloc (.cells #[u] T)).cell? ((⟨w.heap.size, 0, none⟩ : Addr).add j) = some x := fun j x hj => by
  rw [Go.WideShapes.add_plain]
  match j, hj with
  | 0, hj => simpa using hj
  | j + 1, hj => simp at hj
theorem one1 (z : Int) : ∀ x ∈ [Value.int .u8 z], x.oneCell' = true := fun x hx => by
  simp at hx
  subst hx
  rfl
theorem phsB_len : ∀ k, (phsB k).length = k
  | 0 => rfl
  | k + 1 => by simp [phsB, phsB_len k]
theorem knsB_len (k : Nat) (hk : k ≤ 15) : (u8s (knsB k)).length ≤ 6 := by
  rcases (by omega : k = 0 ∨ k = 1 ∨ k = 2 ∨ k = 3 ∨ k = 4 ∨ k = 5 ∨ k = 6 ∨ k = 7 ∨ k = 8 ∨ k = 9 ∨ k = 10 ∨ k = 11 ∨ k = 12 ∨ k = 13 ∨ k = 14 ∨ k = 15) with rfl | rfl | rfl | rfl | rfl | rfl | rfl | rfl | rfl | rfl | rfl | rfl | rfl | rfl | rfl | rfl <;> decide +kernel
theorem eown_push {w w' : World} {B : Nat} {v u : Value} {L : List Ev} {T : TypeId} (h : EOwn 43 w B v L) (hO : ∀ j, u.ownBlock = some j → ∃ c, Blk w j T c) (hg : w.grownBy w' u.ownBlock) (hT : T ≠ 43 := by decide) : EOwn 43 w' B v L := by
  rcases h.2 with h2 | ⟨g, cap, cur, h1, h2, h3, h4⟩
  · exact ⟨h.1, .inl h2⟩
  · have hb : Blk w g 43 cur := h3
    exact ⟨h.1, .inr ⟨g, cap, cur, h1, h2, hb.keeps (keeps_own hg) (fun hj => by obtain ⟨c, hc⟩ := hO g hj; exact blk_ne hc hb hT rfl), h4⟩⟩
theorem bcell {w w' : World} {a : Addr} {v : Value} (h : w.cell? a = some v) (hb : Below w.heap.size w w') : w'.cell? a = some v := by
  have hlt : a.block < w.heap.size := by
    apply Decidable.byContradiction
    intro hn
    simp [World.cell?, Array.getElem?_eq_none (Nat.le_of_not_lt hn)] at h
  rw [← h]
  simp only [World.cell?, hb.block _ hlt]
theorem PA.keeps26 {w w' : World} {B pq mq mg rq bq : Nat} {lp : Option Addr} {lc : Nat} {s : PS} (h : PA w B pq mq mg rq bq lp lc s) {j : Nat} {c : Array Value} (hb : Blk w j 26 c) (hk : Keeps (GP pq mg rq bq) w w') : Blk w' j 26 c := hb.keeps hk (fun hj => by
  obtain ⟨cg, hcg⟩ := h.mem.blkg
  rcases hj with e | e | e | e
  · exact blk_ne hb h.pat (by decide) e
  · exact blk_ne hb hcg (by decide) e
  · exact blk_ne hb h.rnd.blk (by decide) e
  · exact blk_ne hb h.bat.blk (by decide) e)
theorem PA.keepsB {w w' w0 : World} {pq mq mg rq bq : Nat} {lp : Option Addr} {lc : Nat} {s : PS} (h : PA w w0.heap.size pq mq mg rq bq lp lc s) (hb : Below w0.heap.size w0 w) (hk : Keeps (GP pq mg rq bq) w w') : Below w0.heap.size w0 w' := hb.trans (hk.below hb.size (GP_ge h))
def s3L : List Si := [⟨0, 0, 4101⟩, ⟨0, 5, 0⟩, ⟨0, 11, 15⟩]
theorem strP_yes (s : PS) (h0 : s.ph = 0) (hx : s.xs.length = 16) : strP s s3L false = ({ s with left := s3L, up := false, ph := 1, ct := ⟨3, 0, 0, 1, 0⟩ }, 0) := by
  unfold strP
  rw [if_neg (by simp [h0]), hx, if_pos (by decide)]
  rfl
theorem strP_on (s : PS) (L : List Si) (up : Bool) (h : s.ph ≠ 0) : strP s L up = (s, 310) := if_pos h
theorem Mem.low {w : World} {B B' q g : Nat} {xs : List Int} (h : Mem w B q g xs) (hB : B' ≤ B) : Mem w B' q g xs := ⟨h.blk, h.own.lower hB, Nat.le_trans hB h.base, h.ne⟩
theorem strP_far (xs : List Int) (fs : List Bool) (n : Int) (hx : xs.length = 65536) : strP (newP xs fs n) [⟨0, 65531, 65536⟩] true = ({ newP xs fs n with left := [⟨0, 65531, 65536⟩], up := true, ph := 1, ct := ⟨1, 0, 0, 1, 0⟩ }, 0) := by
  have hm : mayF (newP xs fs n).xs.length 0 [⟨0, 65531, 65536⟩] = true := by show mayF xs.length 0 _ = true; rw [hx]; decide
  unfold strP
  rw [if_neg (fun h => h rfl), if_pos hm]
  rfl
theorem GP_lt {w : World} {B pq mq mg rq bq : Nat} {lp : Option Addr} {lc : Nat} {s : PS} (h : PA w B pq mq mg rq bq lp lc s) : ∀ j, GP pq mg rq bq j → j < w.heap.size := fun j hj => by
  obtain ⟨cg, hcg⟩ := h.mem.blkg
  rcases hj with e | e | e | e
  · subst e; exact h.pat.lt
  · subst e; exact hcg.lt
  · subst e; exact h.rnd.blk.lt
  · subst e; exact h.bat.blk.lt
def itC : Nat → PS
  | 0 => itB 1
  | k + 1 => (stpP (tkP (itC k)) [true]).s
theorem itC_ok : ∀ k, POk (itC k) (2 + k) ∧ BtOk (itC k).bt
  | 0 => itB_ok 1
  | k + 1 => by
    obtain ⟨h1, h2⟩ := itC_ok k
    obtain ⟨h3, h4⟩ := stp_ok (rs := [true]) (tk_ok h1) h2
    exact ⟨h3.mono (by omega), h4⟩
theorem itC_end : (itC 30).ph = 0 := by kernel_rfl
/-- the second loop: x goes on, y stays -/
structure L2 (w wr : World) (r3 zj pq mq mg rq bq pq5 mq4 mg4 rq5 bq5 : Nat) (lp5 : Option Addr) (lc5 : Nat) (s : PS) : Prop where
  pa : ∃ lp lc, PA wr w.heap.size pq mq mg rq bq lp lc s
  x : Blk wr r3 26 (wA mq rq pq)
  y : PA wr zj pq5 mq4 mg4 rq5 bq5 lp5 lc5 (itB 1)
  bel : Below w.heap.size w wr
theorem L2.step {w wr wr' : World} {r3 zj pq mq mg rq bq pq5 mq4 mg4 rq5 bq5 : Nat} {lp5 lp lp' : Option Addr} {lc5 lc lc' : Nat} {s s' : PS} (h : L2 w wr r3 zj pq mq mg rq bq pq5 mq4 mg4 rq5 bq5 lp5 lc5 s) (hP : PA wr w.heap.size pq mq mg rq bq lp lc s) (hP' : PA wr' w.heap.size pq mq mg rq bq lp' lc' s') (hk : Keeps (GP pq mg rq bq) wr wr') (hG : ∀ j, GP pq mg rq bq j → j < zj) : L2 w wr' r3 zj pq mq mg rq bq pq5 mq4 mg4 rq5 bq5 lp5 lc5 s' :=
  ⟨⟨_, _, hP'⟩, hP.keeps26 h.x hk, h.y.keeps hk hG, hP.keepsB h.bel hk⟩
theorem L2.below {w wr wr' : World} {r3 zj pq mq mg rq bq pq5 mq4 mg4 rq5 bq5 : Nat} {lp5 : Option Addr} {lc5 : Nat} {s : PS} (h : L2 w wr r3 zj pq mq mg rq bq pq5 mq4 mg4 rq5 bq5 lp5 lc5 s) (hb : Below wr.heap.size wr wr') : L2 w wr' r3 zj pq mq mg rq bq pq5 mq4 mg4 rq5 bq5 lp5 lc5 s := by
  obtain ⟨lp, lc, hP⟩ := h.pa
  exact ⟨⟨_, _, hP.below hb⟩, h.x.grow hb, h.y.below hb, below_step h.bel hb⟩
def nP : PS := newP (List.replicate 16 0) [] 0
def nP1 : PS := { nP with left := [], up := true, ph := 1, ct := ⟨0, 0, 0, 1, 0⟩ }
theorem strP_nP : strP nP [] true = (nP1, 0) := by kernel_rfl
theorem nP_tells : (stpP nP1 []).back = true ∧ (stpP nP1 []).e = 0 ∧ (stpP nP1 []).s.ct = ⟨0, 0, 0, 2, 0⟩ := ⟨by kernel_rfl, by kernel_rfl, by kernel_rfl⟩
theorem nP1_ok : POk nP1 1 := ⟨by decide, by decide, by decide, fun _ => rfl, ⟨by decide, by decide⟩, ⟨by decide, by decide⟩, ⟨by decide, by decide⟩, ⟨by decide, by decide⟩, ⟨by decide, by decide⟩, by decide⟩
theorem itB1_find : fndP (itB 1).bt 4 = (12, true) := by kernel_rfl
theorem itB1_ph : (itB 1).ph = 2 := by kernel_rfl
theorem itB1_left : (itB 1).left = [] := by kernel_rfl
set_option maxRecDepth 100000 in
set_option maxHeartbeats 40000000 in
theorem numbers_walk (w : World) : Calls Try.prog 3 #[] w fun e w' => e = .returned (.bool true) ∧ Below w.heap.size w w' := by
  go_enter Try.func3, Try.ntmps3
  go_wp2_with (go_at_call 8; refine Hid.out ?_)
  refine Lib.hid ?_
  refine (alone_any w).mono ?_
  rintro e w1 ⟨mq, mg, rq, pq, bq, lp, lc, rfl, hP1, hB1⟩
  have HP1 := Hid.in hP1
  have HB1 := Hid.in hB1
  clear hP1 hB1
  go_upto_region 2 with fail
  obtain ⟨w2, hw2⟩ : ∃ w2, w2 = w1.alloc (.cells (wA mq rq pq) 26) := ⟨_, rfl⟩
  rw [← hw2]
  have HL2 : Hid (L1 w w2 w1.heap.size pq mq mg rq bq 0 (.slice none 0 0) (.slice none 0 0) [] [] (itB 0)) := by
    rw [hw2]
    exact ⟨⟨lp, lc, HP1.out.below (new_alloc _ _)⟩, Blk.new _ _ _, GOwnV.nil _ _ _, GOwnV.nil _ _ _, below_alloc HB1.out _⟩
  clear hw2 HP1 HB1
  generalize w1.heap.size = r1 at *
  go_wp2_with fail
  go_loopw [3, 4, 5, 6, 7, 8, 9] (fun v3 v4 v5 _ _ _ _ wr => ∃ k : Nat, v5 = .int .i64 k ∧ k ≤ 15 ∧ L1 w wr r1 pq mq mg rq bq k v3 v4 (phsB k) (knsB k) (itB k)) (fun _ _ v5 _ _ _ _ _ => 40 - (intOf v5).toNat)
  case atStart => exact ⟨0, rfl, by decide, HL2.out⟩
  case round =>
    clear HL2
    obtain ⟨k, rfl, hk, hL⟩ := hrel
    obtain ⟨v3p, v3c, e3, -⟩ := hL.ph.slice
    rw [List.length_map] at e3
    subst e3
    obtain ⟨v4p, v4c, e4, -⟩ := hL.kd.slice
    rw [List.length_map] at e4
    subst e4
    have HL := Hid.in hL
    obtain ⟨lp, lc, hP⟩ := hL.pa
    have HP := Hid.in hP
    have q2 : wr.cell? ⟨r1, 2, none⟩ = some (.pointer (some ⟨pq, 0, none⟩)) := (hL.x.cell 2).trans rfl
    have q1 : wr.cell? ⟨r1, 1, none⟩ = some (.pointer (some ⟨rq, 0, none⟩)) := (hL.x.cell 1).trans rfl
    clear hL hP
    have hk40 : (k : Int) < 40 := by omega
    go_wp2_with (go_at_call 9; refine Hid.out ?_)
    refine Lib.hid ?_
    refine (pphase_any HP.out).mono ?_
    rintro e w3 ⟨rfl, hw⟩
    rw [hw]
    clear hw w3
    by_cases hk15 : k = 15
    · subst hk15
      rw [show ((itB 15).ph : Int) = 0 by rw [itB_end.1]; rfl]
      have HPH : Hid (GOwnV 31 wr w.heap.size (.slice v3p 15 v3c) (u8s [2, 2, 5, 5, 5, 3, 3, 5, 5, 4, 4, 5, 5, 6, 0])) := by have h := HL.out.ph; rw [itB_end.2.1] at h; exact h
      have HKD : Hid (GOwnV 40 wr w.heap.size (.slice v4p 6 v4c) (u8s [10, 11, 10, 11, 10, 11])) := by have h := HL.out.kd; rw [itB_end.2.2.1] at h; exact h
      obtain ⟨p3', c3', e3', hr3, -⟩ := HPH.out.slice
      injection e3' with e31 _ _
      subst e31
      obtain ⟨b3, o3, rfl, hc3⟩ := hr3 (by decide)
      obtain ⟨p4', c4', e4', hr4, -⟩ := HKD.out.slice
      injection e4' with e41 _ _
      subst e41
      obtain ⟨b4, o4, rfl, hc4⟩ := hr4 (by decide)
      have a0 : wr.cell? ⟨b3, o3, none⟩ = some (.int .u8 2) := hc3 0 (by decide)
      have a2 : wr.cell? ⟨b3, o3 + 2, none⟩ = some (.int .u8 5) := hc3 2 (by decide)
      have a3 : wr.cell? ⟨b3, o3 + 3, none⟩ = some (.int .u8 5) := hc3 3 (by decide)
      have a5 : wr.cell? ⟨b3, o3 + 5, none⟩ = some (.int .u8 3) := hc3 5 (by decide)
      have b0 : wr.cell? ⟨b4, o4, none⟩ = some (.int .u8 10) := hc4 0 (by decide)
      have b1 : wr.cell? ⟨b4, o4 + 1, none⟩ = some (.int .u8 11) := hc4 1 (by decide)
      have HX := Hid.in HL.out.x
      have HB := Hid.in HL.out.bel
      have l3 : (phsB 15).length = 15 := phsB_len 15
      have l4 : (knsB 15).length = 6 := by rw [itB_end.2.2.1]; rfl
      rw [l3, l4]
      clear hc3 hc4 hr3 hr4 HPH HKD HL q1 l3 l4
      go_wp2_with (go_at_call 12; refine Hid.out ?_)
      refine Lib.hid ?_
      refine (pcounts_any HP.out).mono ?_
      rintro e w3 ⟨rfl, hb3⟩
      have HP3 := Hid.in (HP.out.below hb3)
      have HX3 := Hid.in (HX.out.grow hb3)
      have HB3 := Hid.in (below_step HB.out hb3)
      have hwa : (itB 15).ct.wa = 4 := itB_end.2.2.2
      have HPE : Hid ((itB 15).ph = 0) := itB_end.1
      have HXS : Hid ((itB 15).xs.length = 16) := itB_xs
      clear hb3 HP HX HB q2 a0 a2 a3 a5 b0 b1
      generalize itB 15 = sB at *
      have hxs : sB.xs.length = 16 := HXS.out
      generalize hct : sB.ct = cB at *
      obtain ⟨csi, cwr, cro, cst, cwa⟩ := cB
      simp only at hwa
      subst hwa
      clear hct
      have hF : ∀ W : World, (Instr.field 45 (.agg #[.int .i64 csi, .int .i64 cwr, .int .i64 cro, .int .i64 cst, .int .i64 4]) 4).run Try.prog W = .ok (.int .i64 4) W := fun W => by kernel_rfl
      simp only [ctA] at *
      go_upto_region 21 with fail
      have HPZ := Hid.in (HP3.out.below (lu0 w3))
      have HXZ := Hid.in (HX3.out.grow (lu0 w3))
      have HBZ := Hid.in (below_step HB3.out (lu0 w3))
      have HLI := Hid.in (lits w3)
      have qz : (lw11 w3).cell? ⟨r1, 2, none⟩ = some (.pointer (some ⟨pq, 0, none⟩)) := (HXZ.out.cell 2).trans rfl
      clear HP3 HX3 HB3 hxs hF hk hk40
      go_wp2_with fail
      obtain ⟨W4, hW4⟩ : ∃ W4, W4 = lw11 w3 := ⟨_, rfl⟩
      rw [← hW4] at HPZ HXZ HBZ HLI qz
      change Code.wp Try.prog _ _ _ (lw11 w3)
      rw [← hW4]
      clear hW4
      generalize w3.heap.size = z3 at *
      go_loopw [11, 171] (fun _ v wr => ∃ i : Nat, v = .int .i64 i ∧ i ≤ 10 ∧ Below W4.heap.size W4 wr) (fun _ v _ => 10 - (intOf v).toNat)
      case atStart => exact ⟨0, rfl, by decide, Below.refl _ _⟩
      case round =>
        obtain ⟨i, rfl, hi, hbr⟩ := hrel
        have HBR := Hid.in hbr
        have q2 : wr.cell? ⟨r1, 2, none⟩ = some (.pointer (some ⟨pq, 0, none⟩)) := ((HXZ.out.grow hbr).cell 2).trans rfl
        by_cases hi10 : i = 10
        · subst hi10
          have HP5 := Hid.in (HPZ.out.below hbr)
          have HX5 := Hid.in (HXZ.out.grow hbr)
          have HB5 := Hid.in (below_step HBZ.out hbr)
          clear hbr qz HPZ HXZ HBZ HLI HBR
          go_upto_region 27 with fail
          go_wp2_with (go_at_call 13; refine Hid.out ?_)
          refine Lib.hid ?_
          have HP6 := Hid.in (HP5.out.below (new_alloc wr (.cells #[.int .i64 0, .int .i64 0, .int .i64 4101, .int .i64 0, .int .i64 5, .int .i64 0, .int .i64 0, .int .i64 11, .int .i64 15] 48)))
          have HX6 := Hid.in (HX5.out.grow (new_alloc wr (.cells #[.int .i64 0, .int .i64 0, .int .i64 4101, .int .i64 0, .int .i64 5, .int .i64 0, .int .i64 0, .int .i64 11, .int .i64 15] 48)))
          have HB6 := Hid.in (below_alloc HB5.out (.cells #[.int .i64 0, .int .i64 0, .int .i64 4101, .int .i64 0, .int .i64 5, .int .i64 0, .int .i64 0, .int .i64 11, .int .i64 15] 48))
          have hst := pstart_any _ _ _ _ _ _ _ _ sB (some ⟨wr.heap.size, 0, none⟩) 3 s3L false _ HP6.out HB6.out.size (by rw [HXS.out]; decide) (by decide) (fun e => by cases e) (blk_row (Blk.new _ _ _) s3L rfl)
          rw [strP_yes sB HPE.out HXS.out] at hst
          refine hst.mono ?_
          rintro e w7 ⟨lp7, lc7, rfl, hp7, hk7⟩
          have HP7 := Hid.in hp7
          have HX7 := Hid.in (HP6.out.keeps26 HX6.out hk7)
          have HB7 := Hid.in (HP6.out.keepsB HB6.out hk7)
          clear hp7 hk7 hst HP6 HX6 HB6 HP5 HX5 HB5 q2
          have q2 : w7.cell? ⟨r1, 2, none⟩ = some (.pointer (some ⟨pq, 0, none⟩)) := (HX7.out.cell 2).trans rfl
          go_wp2_with (go_at_call 13; refine Hid.out ?_)
          refine Lib.hid ?_
          have hst := pstart_any _ _ _ _ _ _ _ _ _ none 0 [] true _ HP7.out HB7.out.size (by show sB.xs.length ≤ _; rw [HXS.out]; decide) (by decide) (fun _ => rfl) (Row3.nil _ _)
          rw [strP_on _ _ _ (fun h => by cases h)] at hst
          refine hst.mono ?_
          rintro e w8 ⟨lp8, lc8, rfl, hp8, hk8⟩
          have HP8 := Hid.in hp8
          have HX8 := Hid.in (HP7.out.keeps26 HX7.out hk8)
          have HB8 := Hid.in (HP7.out.keepsB HB7.out hk8)
          clear hp8 hk8 hst HP7 HX7 HB7 q2
          go_upto_region 28 with fail
          have HR8 := Hid.in HP8.out.rnd
          have HG8 := Hid.in HP8.out.gr
          clear HP8 HPE HXS
          go_wp2_with (refine wp_make16 rfl _ _ rfl 65536 rfl rfl (by decide) ?_; intro w9 HO9 HL9; refine Hid.out ?_)
          refine Lib.hid ?_
          go_wp2_with (go_at_call 14; refine Hid.out ?_)
          refine Lib.hid ?_
          have HOX : ∃ x6 : List Int, x6.length = 65536 ∧ Row w9 (some ⟨w8.heap.size, 0, none⟩) x6 := ⟨_, List.length_replicate, HO9.out.row⟩
          clear HO9
          obtain ⟨x6, hx6, hrow⟩ := HOX
          refine (mnew_ok (some ⟨w8.heap.size, 0, none⟩) 65536 65536 x6 w9 hx6 (by decide) hrow).mono ?_
          rintro e wa ⟨mq2, mg2, rfl, hma, hba⟩
          have HL89 := Hid.in (below_step HL9.out hba)
          have HMA := Hid.in (hma.low (Nat.le_trans HB8.out.size HL9.out.size))
          have HXA := Hid.in (HX8.out.grow HL89.out)
          have HBA := Hid.in (below_step HB8.out HL89.out)
          have HRA := Hid.in (HR8.out.below HL89.out)
          have HX6 := Hid.in hx6
          have qa : wa.cell? ⟨r1, 1, none⟩ = some (.pointer (some ⟨rq, 0, none⟩)) := (HXA.out.cell 1).trans rfl
          clear hma hba hrow hx6 HL9 HL89 HX8 HB8 HR8
          go_wp2_with (go_at_call 15; refine Hid.out ?_)
          refine Lib.hid ?_
          refine (pnew_ok HMA.out HRA.out (by rw [HX6.out]; decide) HG8.out HBA.out.size).mono ?_
          rintro e wb ⟨pq2, bq2, rfl, hpb, hbb, -, -⟩
          have HPB := Hid.in hpb
          have HXB := Hid.in (HXA.out.grow hbb)
          have HBB := Hid.in (below_step HBA.out hbb)
          clear hpb hbb HMA HXA HBA HRA qa
          generalize sB.fs = fB at *
          generalize sB.n = nB at *
          go_wp2_with (go_at_call 13; refine Hid.out ?_)
          refine Lib.hid ?_
          refine (pstart_no (HPB.out.below (new_alloc wb (.cells #[.int .i64 0, .int .i64 4092, .int .i64 0] 48))) (some ⟨wb.heap.size, 0, none⟩) 1 [⟨0, 4092, 0⟩] true (by show x6.length ≤ _; rw [HX6.out]; decide) (by decide) (blk_row (Blk.new _ _ _) _ rfl) rfl (by show mayF x6.length 0 _ = _; rw [HX6.out]; decide)).mono ?_
          rintro e wc ⟨rfl, hb⟩
          have HL := Hid.in (below_step (new_alloc wb (.cells #[.int .i64 0, .int .i64 4092, .int .i64 0] 48)) hb)
          have HPC := Hid.in (HPB.out.below HL.out)
          have HXC := Hid.in (HXB.out.grow HL.out)
          have HBC := Hid.in (below_step HBB.out HL.out)
          clear hb HL HPB HXB HBB
          go_wp2_with (go_at_call 13; refine Hid.out ?_)
          refine Lib.hid ?_
          refine (pstart_no (HPC.out.below (new_alloc wc (.cells #[.int .i64 0, .int .i64 65531, .int .i64 65537] 48))) (some ⟨wc.heap.size, 0, none⟩) 1 [⟨0, 65531, 65537⟩] true (by show x6.length ≤ _; rw [HX6.out]; decide) (by decide) (blk_row (Blk.new _ _ _) _ rfl) rfl (by show mayF x6.length 0 _ = _; rw [HX6.out]; decide)).mono ?_
          rintro e wd ⟨rfl, hb⟩
          have HL := Hid.in (below_step (new_alloc wc (.cells #[.int .i64 0, .int .i64 65531, .int .i64 65537] 48)) hb)
          have HPD := Hid.in (HPC.out.below HL.out)
          have HXD := Hid.in (HXC.out.grow HL.out)
          have HBD := Hid.in (below_step HBC.out HL.out)
          clear hb HL HPC HXC HBC
          go_wp2_with (go_at_call 13; refine Hid.out ?_)
          refine Lib.hid ?_
          have HPE := Hid.in (HPD.out.below (new_alloc wd (.cells #[.int .i64 0, .int .i64 65531, .int .i64 65536] 48)))
          have HBE := Hid.in (below_alloc HBD.out (.cells #[.int .i64 0, .int .i64 65531, .int .i64 65536] 48))
          have HXE := Hid.in (HXD.out.grow (new_alloc wd (.cells #[.int .i64 0, .int .i64 65531, .int .i64 65536] 48)))
          have hst := pstart_any _ _ _ _ _ _ _ _ _ (some ⟨wd.heap.size, 0, none⟩) 1 [⟨0, 65531, 65536⟩] true _ HPE.out HBE.out.size (by show x6.length ≤ _; rw [HX6.out]; decide) (by decide) (fun e => by cases e) (blk_row (Blk.new _ _ _) _ rfl)
          rw [strP_far x6 fB nB HX6.out] at hst
          refine hst.mono ?_
          rintro e wf ⟨lpf, lcf, rfl, hpf, hkf⟩
          have HXF := Hid.in (HPE.out.keeps26 HXE.out hkf)
          have HBF := Hid.in (HPE.out.keepsB HBE.out hkf)
          clear hpf hkf hst HPE HXE HBE HPD HXD HBD HX6 HXF
          go_wp2_with (go_at_call 8; refine Hid.out ?_)
          refine Lib.hid ?_
          refine (alone_any wf).mono ?_
          rintro e wg ⟨mq3, mg3, rq3, pq3, bq3, lp3, lc3, rfl, hP3, hB3⟩
          have HPG := Hid.in (hP3.lowB HBF.out.size)
          have HBG := Hid.in (below_step HBF.out hB3)
          clear hP3 hB3 HBF
          go_upto_region 32 with fail
          obtain ⟨wh, hwh⟩ : ∃ wh, wh = wg.alloc (.cells (wA mq3 rq3 pq3) 26) := ⟨_, rfl⟩
          change Code.wp Try.prog _ _ _ (wg.alloc (.cells (wA mq3 rq3 pq3) 26))
          rw [← hwh]
          have HPH : Hid (PA wh w.heap.size pq3 mq3 mg3 rq3 bq3 lp3 lc3 alP) := by rw [hwh]; exact HPG.out.below (new_alloc _ _)
          have HXH : Hid (Blk wh wg.heap.size 26 (wA mq3 rq3 pq3)) := by rw [hwh]; exact Blk.new _ _ _
          have HBH : Hid (Below w.heap.size w wh) := by rw [hwh]; exact below_alloc HBG.out _
          clear hwh HPG HBG
          generalize wg.heap.size = r3 at *
          have q2 : wh.cell? ⟨r3, 2, none⟩ = some (.pointer (some ⟨pq3, 0, none⟩)) := (HXH.out.cell 2).trans rfl
          go_wp2_with (go_at_call 11; refine Hid.out ?_)
          refine Lib.hid ?_
          have HPI := Hid.in (HPH.out.below (new_alloc wh (.cells #[.bool true] 4)))
          have HXI := Hid.in (HXH.out.grow (new_alloc wh (.cells #[.bool true] 4)))
          have HBI := Hid.in (below_alloc HBH.out (.cells #[.bool true] 4))
          have hst := pstep_any w.heap.size pq3 mq3 mg3 rq3 bq3 lp3 lc3 alP (some ⟨wh.heap.size, 0, none⟩) 1 [true] _ HPI.out (flags_new wh [true]) ((itB_ok 0).1.mono (by decide)) (itB_ok 0).2
          refine hst.mono ?_
          rintro e wj ⟨v, lp4, lc4, rfl, hv, hPj, hkj⟩
          have HPJ : Hid (PA wj w.heap.size pq3 mq3 mg3 rq3 bq3 lp4 lc4 (itB 1)) := hPj
          have HXJ := Hid.in (HPI.out.keeps26 HXI.out hkj)
          have HBJ := Hid.in (HPI.out.keepsB HBI.out hkj)
          clear hv hPj hkj hst HPI HXI HBI HPH HXH HBH q2
          generalize (stpP alP [true]).e = e1 at *
          generalize (stpP alP [true]).back = k1 at *
          go_upto_region 33 with fail
          refine wp_region_noPanic ?_
          refine wp_region_G (fun W => Blk W r3 26 (wA mq3 rq3 pq3)) [] (by kernel_rfl) ?_
          refine wpAnyG_takeW (i := 0) (v := .pointer (some ⟨r3, 2, none⟩)) rfl (by kernel_rfl) (by kernel_rfl) (by kernel_rfl) (fun _ _ _ h => h) (Closed.start _) (by kernel_rfl) (fun W => by go_simp) ?_
          go_simp
          refine wpAnyG_takeS (i := 1) (v := .pointer (some ⟨pq3, 0, none⟩)) rfl (by kernel_rfl) (by kernel_rfl) (by kernel_rfl) (by kernel_rfl) (fun _ _ _ _ _ h => h) (Closed.step (j := 0) (Closed.start _) (by kernel_rfl)) (by kernel_rfl) HXJ.out (fun W hW => by
            have q0 : W.cell? ⟨r3, 0, none⟩ = some (.pointer (some ⟨mq3, 0, none⟩)) := (hW.cell 0).trans rfl
            have q1 : W.cell? ⟨r3, 1, none⟩ = some (.pointer (some ⟨rq3, 0, none⟩)) := (hW.cell 1).trans rfl
            have q2 : W.cell? ⟨r3, 2, none⟩ = some (.pointer (some ⟨pq3, 0, none⟩)) := (hW.cell 2).trans rfl
            clear hW
            go_simp) ?_
          go_simp
          refine wpAnyG_takeW (i := 2) (v := .pointer (some ⟨r3, 0, none⟩)) rfl (by kernel_rfl) (by kernel_rfl) (by kernel_rfl) (fun _ _ _ h => h) (Closed.step (j := 1) (Closed.step (j := 0) (Closed.start _) (by kernel_rfl)) (by kernel_rfl)) (by kernel_rfl) (fun W => by go_simp) ?_
          go_simp
          refine wpAnyG_takeS (i := 3) (v := .pointer (some ⟨mq3, 0, none⟩)) rfl (by kernel_rfl) (by kernel_rfl) (by kernel_rfl) (by kernel_rfl) (fun _ _ _ _ _ h => h) (Closed.step (j := 2) (Closed.step (j := 1) (Closed.step (j := 0) (Closed.start _) (by kernel_rfl)) (by kernel_rfl)) (by kernel_rfl)) (by kernel_rfl) HXJ.out (fun W hW => by
            have q0 : W.cell? ⟨r3, 0, none⟩ = some (.pointer (some ⟨mq3, 0, none⟩)) := (hW.cell 0).trans rfl
            have q1 : W.cell? ⟨r3, 1, none⟩ = some (.pointer (some ⟨rq3, 0, none⟩)) := (hW.cell 1).trans rfl
            have q2 : W.cell? ⟨r3, 2, none⟩ = some (.pointer (some ⟨pq3, 0, none⟩)) := (hW.cell 2).trans rfl
            clear hW
            go_simp) ?_
          go_simp
          refine wpAnyG_takeW (i := 5) (v := .pointer (some ⟨r3, 1, none⟩)) rfl (by kernel_rfl) (by kernel_rfl) (by kernel_rfl) (fun _ _ _ h => h) (Closed.step (j := 3) (Closed.step (j := 2) (Closed.step (j := 1) (Closed.step (j := 0) (Closed.start _) (by kernel_rfl)) (by kernel_rfl)) (by kernel_rfl)) (by kernel_rfl)) (by kernel_rfl) (fun W => by go_simp) ?_
          go_simp
          refine wpAnyG_takeS (i := 6) (v := .pointer (some ⟨rq3, 0, none⟩)) rfl (by kernel_rfl) (by kernel_rfl) (by kernel_rfl) (by kernel_rfl) (fun _ _ _ _ _ h => h) (Closed.step (j := 5) (Closed.step (j := 3) (Closed.step (j := 2) (Closed.step (j := 1) (Closed.step (j := 0) (Closed.start _) (by kernel_rfl)) (by kernel_rfl)) (by kernel_rfl)) (by kernel_rfl)) (by kernel_rfl)) (by kernel_rfl) HXJ.out (fun W hW => by
            have q0 : W.cell? ⟨r3, 0, none⟩ = some (.pointer (some ⟨mq3, 0, none⟩)) := (hW.cell 0).trans rfl
            have q1 : W.cell? ⟨r3, 1, none⟩ = some (.pointer (some ⟨rq3, 0, none⟩)) := (hW.cell 1).trans rfl
            have q2 : W.cell? ⟨r3, 2, none⟩ = some (.pointer (some ⟨pq3, 0, none⟩)) := (hW.cell 2).trans rfl
            clear hW
            go_simp) ?_
          go_simp
          refine wpAnyG_one (i := 4) (by kernel_rfl) rfl (fun K hK => ?_)
          go_simp
          go_at_call 17
          have HLd : Hid (Below wj.heap.size wj wj.drew) := (Below.refl _ _).drew
          refine (mcopy_any mq3 mg3 w.heap.size (itB 1).xs wj.drew (HPJ.out.below HLd.out).mem (Nat.le_trans (itB_ok 1).1.xl (by decide))).mono ?_
          rintro e wk ⟨mq4, mg4, rfl, hm4, hb4⟩
          have HLK := Hid.in (below_step HLd.out hb4)
          have HMK : Hid (Mem wk wj.heap.size mq4 mg4 (itB 1).xs) := hm4
          have HXK := Hid.in (HXJ.out.grow HLK.out)
          have HPK := Hid.in (HPJ.out.below HLK.out)
          clear hm4 hb4 HLd
          refine hK.out _ _ HXK.out (fun _ => ?_)
          clear hK
          go_simp
          refine wpAnyG_one (i := 7) (by kernel_rfl) rfl (fun K hK => ?_)
          go_simp
          go_at_call 18
          refine (rcopy_any rq3 (itB 1).fs (itB 1).n wk HPK.out.rnd).mono ?_
          rintro e wl ⟨rfl, hr5, hb5⟩
          have HLL := Hid.in (below_step HLK.out hb5)
          have HML := Hid.in (HMK.out.below hb5)
          have HXL := Hid.in (HXK.out.grow hb5)
          have HPL := Hid.in (HPK.out.below hb5)
          have HRL := Hid.in hr5
          have HZK : Hid (wj.heap.size ≤ wk.heap.size) := HLK.out.size
          clear hr5 hb5 HLK HMK HXK HPK
          generalize wk.heap.size = rq5 at *
          refine hK.out _ _ HXL.out (fun _ => ?_)
          clear hK
          go_simp
          refine wpAnyG_one (i := 8) (by kernel_rfl) rfl (fun K hK => ?_)
          go_simp
          go_at_call 16
          refine (pcopy_ok HPL.out (HML.out.low HBJ.out.size) HRL.out (Nat.le_trans (itB_ok 1).1.xl (by decide)) (Nat.le_trans HBJ.out.size HZK.out) (Nat.le_trans HBJ.out.size HLL.out.size)).mono ?_
          rintro e wm ⟨pq5, bq5, rfl, hp5, hb5, hz5, hy5⟩
          have HLM := Hid.in (below_step HLL.out hb5)
          have HXM := Hid.in (HXL.out.grow hb5)
          have HPM := Hid.in (HPL.out.below hb5)
          have HYM : Hid (PA wm wj.heap.size pq5 mq4 mg4 rq5 bq5 lp4 lc4 (itB 1)) := ⟨hp5.pat, fun h => by rw [itB1_left] at h; simp at h, hp5.lcl, hp5.lcm, HML.out.below hb5, hp5.rnd, hp5.bat, Nat.le_trans HLL.out.size hz5, HZK.out, Nat.le_trans HLL.out.size hy5⟩
          have HBM := Hid.in (below_step HBJ.out HLM.out)
          clear hp5 hb5 hz5 hy5 HLL HML HXL HPL HRL HLM
          refine hK.out _ _ HXM.out (fun _ => ?_)
          clear hK
          go_simp
          refine wpAnyG_one (i := 9) (by kernel_rfl) rfl (fun K hK => ?_)
          go_simp
          refine hK.out _ _ HXM.out (fun _ => ?_)
          clear hK
          refine wpAnyG_done (by kernel_rfl) ?_ _
          refine NoPanic.normal ?_
          go_simp
          have HGJ := Hid.in (GP_lt HPJ.out)
          have HL0 : Hid (L2 w wm r3 wj.heap.size pq3 mq3 mg3 rq3 bq3 pq5 mq4 mg4 rq5 bq5 lp4 lc4 (itC 0)) := ⟨⟨_, _, HPM.out⟩, HXM.out, HYM.out, HBM.out⟩
          clear HPJ HXJ HBJ HPM HXM HYM HBM HZK
          generalize wj.heap.size = zj at *
          go_wp2_with fail
          go_loopw [21] (fun v wr => ∃ k : Nat, v = .int .i64 k ∧ k ≤ 30 ∧ L2 w wr r3 zj pq3 mq3 mg3 rq3 bq3 pq5 mq4 mg4 rq5 bq5 lp4 lc4 (itC k)) (fun v _ => 30 - (intOf v).toNat)
          case atStart => exact ⟨0, rfl, by decide, HL0.out⟩
          case round =>
            clear HL0
            obtain ⟨k, rfl, hk, hL⟩ := hrel
            have HL := Hid.in hL
            obtain ⟨lp6, lc6, hP⟩ := hL.pa
            have HP := Hid.in hP
            clear hL hP
            by_cases hk30 : k = 30
            · subst hk30
              go_wp2_with (go_at_call 19; refine Hid.out ?_)
              refine Lib.hid ?_
              have hf := pfind_any HL.out.y (itB_ok 1).2 4 (by decide) (by decide)
              rw [itB1_find] at hf
              refine hf.mono ?_
              rintro e wo ⟨rfl, hbo⟩
              have HLO := Hid.in (HL.out.below hbo)
              clear hf hbo HL HP
              go_wp2_with (go_at_call 9; refine Hid.out ?_)
              refine Lib.hid ?_
              refine (pphase_any HLO.out.y).mono ?_
              rintro e wp ⟨rfl, hw⟩
              rw [hw]
              clear hw wp
              rw [show ((itB 1).ph : Int) = 2 by rw [itB1_ph]; rfl]
              have q2 : wo.cell? ⟨r3, 2, none⟩ = some (.pointer (some ⟨pq3, 0, none⟩)) := (HLO.out.x.cell 2).trans rfl
              go_wp2_with (go_at_call 9; refine Hid.out ?_)
              refine Lib.hid ?_
              obtain ⟨lp7, lc7, hP7⟩ := HLO.out.pa
              refine (pphase_any hP7).mono ?_
              rintro e wp ⟨rfl, hw⟩
              rw [hw]
              clear hw wp hP7 q2
              rw [show ((itC 30).ph : Int) = 0 by rw [itC_end]; rfl]
              have HBO := Hid.in HLO.out.bel
              clear HLO
              go_wp2_with (refine wp_make16 rfl _ _ rfl 16 rfl rfl (by decide) ?_; intro w9 HO9 HL9; refine Hid.out ?_)
              refine Lib.hid ?_
              go_wp2_with (go_at_call 20; refine Hid.out ?_)
              refine Lib.hid ?_
              refine (made_any (some ⟨wo.heap.size, 0, none⟩) 16 16 (List.replicate 16 0) 0 w9 rfl (by decide) (by decide) HO9.out.row).mono ?_
              rintro e wq ⟨kk, mq6, mg6, rq6, pq6, bq6, bv, g6, hkk, -, rfl, hP6, hO6, -, hb6⟩
              have hk0 : kk = 0 := hkk.trans (by decide)
              subst hk0
              have HB9 := Hid.in (below_step HBO.out HL9.out)
              have HPQ : Hid (PA wq w.heap.size pq6 mq6 mg6 rq6 bq6 none 0 nP) := hP6.lowB HB9.out.size
              have HBQ := Hid.in (below_step HB9.out hb6)
              obtain ⟨bp6, bc6, hbv, -, -⟩ := hO6.slice
              subst hbv
              clear hP6 hO6 hb6 hkk HO9 HL9 HBO HB9
              have HZ66 : Hid (Blk ((wq.alloc (.cells (wA mq6 rq6 pq6) 26)).alloc (.cells #[.slice none 0 0, .int .i64 0, .slice none 0 0, .int .u8 0, .int .u8 0, .slice none 0 0, .slice none 0 0, .int .i64 0, .bool false, .int .i64 0, .int .i64 0, .int .i64 0, .int .i64 0, .int .i64 0] 66)) (wq.heap.size + 1) 66 #[.slice none 0 0, .int .i64 0, .slice none 0 0, .int .u8 0, .int .u8 0, .slice none 0 0, .slice none 0 0, .int .i64 0, .bool false, .int .i64 0, .int .i64 0, .int .i64 0, .int .i64 0, .int .i64 0]) := by
                have hb := Blk.new (wq.alloc (.cells (wA mq6 rq6 pq6) 26)) 66 #[.slice none 0 0, .int .i64 0, .slice none 0 0, .int .u8 0, .int .u8 0, .slice none 0 0, .slice none 0 0, .int .i64 0, .bool false, .int .i64 0, .int .i64 0, .int .i64 0, .int .i64 0, .int .i64 0]
                rw [size_one] at hb
                exact hb
              have HX0 : Hid (Blk ((wq.alloc (.cells (wA mq6 rq6 pq6) 26)).alloc (.cells #[.slice none 0 0, .int .i64 0, .slice none 0 0, .int .u8 0, .int .u8 0, .slice none 0 0, .slice none 0 0, .int .i64 0, .bool false, .int .i64 0, .int .i64 0, .int .i64 0, .int .i64 0, .int .i64 0] 66)) wq.heap.size 26 (wA mq6 rq6 pq6)) := (Blk.new _ _ _).grow (new_alloc _ _)
              have HL0 : Hid (Below wq.heap.size wq ((wq.alloc (.cells (wA mq6 rq6 pq6) 26)).alloc (.cells #[.slice none 0 0, .int .i64 0, .slice none 0 0, .int .u8 0, .int .u8 0, .slice none 0 0, .slice none 0 0, .int .i64 0, .bool false, .int .i64 0, .int .i64 0, .int .i64 0, .int .i64 0, .int .i64 0] 66))) := below_alloc (new_alloc _ _) _
              go_wp2_with (refine step_store_blk HZ66.out rfl 66 _ _ rfl rfl rfl (stA (.slice bp6 16 bc6) (.slice (some ⟨g6, 0, none⟩) 0 0) 0 0 0 (.slice none 0 0) (.slice none 0 0) 0 false ⟨0, 0, 0, 0, 0⟩) rfl (by kernel_rfl) rfl (by kernel_rfl) ?_; intro wu hbu hgu; refine Hid.out ?_)
              refine Lib.hid ?_
              have HXU := Hid.in (HX0.out.kept hgu (fun e => by injection e with e; omega))
              have HLU : Hid (Below wq.heap.size wq wu) := HL0.out.trans (below_grown hgu (Nat.le_succ _) HL0.out.size)
              have HPU := Hid.in (HPQ.out.below HLU.out)
              have HBU := Hid.in (below_step HBQ.out HLU.out)
              clear hbu hgu HZ66 HX0 HL0 HPQ HBQ HLU
              generalize wq.heap.size = r6 at *
              have q2 : wu.cell? ⟨r6, 2, none⟩ = some (.pointer (some ⟨pq6, 0, none⟩)) := (HXU.out.cell 2).trans rfl
              go_wp2_with (go_at_call 13; refine Hid.out ?_)
              refine Lib.hid ?_
              have hst := pstart_any _ _ _ _ _ _ _ _ nP none 0 [] true _ HPU.out HBU.out.size (by decide) (by decide) (fun _ => rfl) (Row3.nil _ _)
              rw [strP_nP] at hst
              refine hst.mono ?_
              rintro e wv ⟨lp8, lc8, rfl, hp8, hk8⟩
              have HPV := Hid.in hp8
              have HXV := Hid.in (HPU.out.keeps26 HXU.out hk8)
              have HBV := Hid.in (HPU.out.keepsB HBU.out hk8)
              clear hp8 hk8 hst HPU HXU HBU q2
              have q2 : wv.cell? ⟨r6, 2, none⟩ = some (.pointer (some ⟨pq6, 0, none⟩)) := (HXV.out.cell 2).trans rfl
              go_wp2_with (go_at_call 11; refine Hid.out ?_)
              refine Lib.hid ?_
              have hst := pstep_any w.heap.size pq6 mq6 mg6 rq6 bq6 lp8 lc8 nP1 none 0 [] wv HPV.out (fun h => absurd h (by simp)) (nP1_ok.mono (by decide)) btOk_nil
              refine hst.mono ?_
              rintro e ww ⟨v, lp9, lc9, rfl, hv, hP9, hk9⟩
              rw [nP_tells.1, nP_tells.2.1]
              have HPW := Hid.in hP9
              have HXW := Hid.in (HPV.out.keeps26 HXV.out hk9)
              have HBW := Hid.in (HPV.out.keepsB HBV.out hk9)
              clear hv hP9 hk9 hst HPV HXV HBV q2
              have q2 : ww.cell? ⟨r6, 2, none⟩ = some (.pointer (some ⟨pq6, 0, none⟩)) := (HXW.out.cell 2).trans rfl
              go_wp2_with (go_at_call 12; refine Hid.out ?_)
              refine Lib.hid ?_
              refine (pcounts_any HPW.out).mono ?_
              rintro e wx ⟨rfl, hbx⟩
              rw [nP_tells.2.2]
              have HBX := Hid.in (below_step HBW.out hbx)
              clear hbx HPW HXW HBW q2
              simp only [ctA] at *
              go_wp2_with (go_at_call 21; refine Hid.out ?_)
              refine Lib.hid ?_
              refine (awake_any _).mono ?_
              rintro e wy ⟨rfl, hby⟩
              have HBY := Hid.in (below_step (below_alloc HBX.out _) hby)
              clear hby HBX
              go_wp2_with fail
              go_ret
              exact ⟨rfl, HBY.out⟩
            · have hkl : (k : Int) < 30 := by omega
              have q1 : wr.cell? ⟨r3, 1, none⟩ = some (.pointer (some ⟨rq3, 0, none⟩)) := (HL.out.x.cell 1).trans rfl
              go_wp2_with (go_at_call 10; refine Hid.out ?_)
              refine Lib.hid ?_
              refine (rtake_any rq3 (itC k).fs (itC k).n 0 wr HP.out.rnd).mono ?_
              rintro e wc ⟨rfl, hr3, hg3⟩
              have HPc : Hid (PA wc w.heap.size pq3 mq3 mg3 rq3 bq3 lp6 lc6 (tkP (itC k))) := HP.out.setR hr3 hg3
              have HLc := Hid.in (HL.out.step HP.out HPc.out (keepsR hg3) HGJ.out)
              clear hr3 hg3 q1 HP HL
              generalize tkN (itC k).fs (itC k).n 0 = tk at *
              generalize pnd (itC k).fs 0 = pk at *
              have q2 : wc.cell? ⟨r3, 2, none⟩ = some (.pointer (some ⟨pq3, 0, none⟩)) := (HLc.out.x.cell 2).trans rfl
              go_wp2_with (go_at_call 11; refine Hid.out ?_)
              refine Lib.hid ?_
              have HL4 := Hid.in (HLc.out.below (new_alloc wc (.cells #[.bool true] 4)))
              have HP4 := Hid.in (HPc.out.below (new_alloc wc (.cells #[.bool true] 4)))
              have hkk : (2 : Int) + k ≤ 1000000 := by omega
              have hst := pstep_any w.heap.size pq3 mq3 mg3 rq3 bq3 lp6 lc6 (tkP (itC k)) (some ⟨wc.heap.size, 0, none⟩) 1 [true] _ HP4.out (flags_new wc [true]) ((tk_ok (itC_ok k).1).mono hkk) (itC_ok k).2
              refine hst.mono ?_
              rintro e w5 ⟨v, lp', lc', rfl, hv, hP5, hk5⟩
              have HL5 : Hid (L2 w w5 r3 zj pq3 mq3 mg3 rq3 bq3 pq5 mq4 mg4 rq5 bq5 lp4 lc4 (itC (k + 1))) := HL4.out.step HP4.out hP5 hk5 HGJ.out
              clear hv hP5 hk5 hst HP4 HL4 HPc HLc q2 hkk
              go_wp2_with fail
              go_roundw
              case rel => exact ⟨k + 1, by go_num, by omega, HL5.out⟩
              case measure => simp [intOf]; omega
        · have hi9 : i < 10 := by omega
          obtain ⟨L, lb, hc, hr, hl, hm⟩ := HLI.out i hi9
          have hcw := bcell hc hbr
          have HC := Hid.in (pstart_no (HPZ.out.below hbr) (some ⟨lb, 0, none⟩) L.length L true (by rw [HXS.out]; decide) hl (hr.below hbr) HPE.out (by rw [HXS.out]; exact hm))
          have hii : (i : Int) < 10 := by omega
          clear hbr qz hi10 hc hr hl hm
          go_wp2_with (go_at_call 13; refine Hid.out ?_)
          refine Lib.hid ?_
          refine HC.out.mono ?_
          rintro e wq ⟨rfl, hbq⟩
          have HBQ := Hid.in (below_step HBR.out hbq)
          clear hbq HC HBR hcw q2
          go_wp2_with fail
          go_roundw
          case rel => exact ⟨i + 1, by go_num, by omega, HBQ.out⟩
          case measure => simp [intOf]; omega
    · have hk14 : k < 15 := by omega
      have HT := Hid.in (itB_tells k hk14)
      have HOK := Hid.in (itB_ok k)
      have hne : ¬ ((itB k).ph : Int) = 0 := by have := HT.out.2.2; omega
      have HPB : Hid ((k = 5 ∨ k = 9 ∨ k = 13) → prB k (itB k) = tkP (itB k)) := fun h => if_pos h
      have HPN : Hid (¬ (k = 5 ∨ k = 9 ∨ k = 13) → prB k (itB k) = itB k) := fun h => if_neg h
      clear hk15
      rcases (by omega : k = 5 ∨ k = 9 ∨ k = 13 ∨ ¬ (k = 5 ∨ k = 9 ∨ k = 13)) with hkk | hkk | hkk | hkk
      · have HPR := Hid.in (HPB.out (by omega))
        have d5 : decide ((k : Int) = 5) = true := decide_eq_true (by omega)
        have e5 : ((k : Int) == 5) = true := by simpa using (show (k : Int) = 5 by omega)
        have n5 : decide (k = 5) = true := decide_eq_true (by omega)
        clear hkk HPB HPN
        go_wp2_with (go_at_call 10; refine Hid.out ?_)
        refine Lib.hid ?_
        refine (rtake_any rq (itB k).fs (itB k).n 0 wr HP.out.rnd).mono ?_
        rintro e wc ⟨rfl, hr3, hg3⟩
        have HPc : Hid (PA wc w.heap.size pq mq mg rq bq lp lc (prB k (itB k))) := by rw [HPR.out]; exact HP.out.setR hr3 hg3
        have HLc : Hid (L1 w wc r1 pq mq mg rq bq k (.slice v3p (phsB k).length v3c) (.slice v4p (knsB k).length v4c) (phsB k) (knsB k) (prB k (itB k))) := HL.out.step HPc.out (keepsR hg3)
        clear hr3 hg3 q1 q2 HP HL HPR
        generalize tkN (itB k).fs (itB k).n 0 = tk at *
        generalize pnd (itB k).fs 0 = pk at *
        have q2 : wc.cell? ⟨r1, 2, none⟩ = some (.pointer (some ⟨pq, 0, none⟩)) := (HLc.out.x.cell 2).trans rfl
        go_wp2_with (go_at_call 11; refine Hid.out ?_)
        refine Lib.hid ?_
        obtain ⟨w4, hw4⟩ : ∃ w4, w4 = wc.alloc (.cells #[.bool true] 4) := ⟨_, rfl⟩
        rw [← hw4]
        have HL4 : Hid (L1 w w4 r1 pq mq mg rq bq k (.slice v3p (phsB k).length v3c) (.slice v4p (knsB k).length v4c) (phsB k) (knsB k) (prB k (itB k))) := by rw [hw4]; exact HLc.out.below (new_alloc _ _)
        have HP4 : Hid (PA w4 w.heap.size pq mq mg rq bq lp lc (prB k (itB k))) := by rw [hw4]; exact HPc.out.below (new_alloc _ _)
        have HF4 : Hid (BRow w4 (some ⟨wc.heap.size, 0, none⟩) [true]) := by rw [hw4]; exact flags_new wc [true]
        have hkk : (1 : Int) + k ≤ 1000000 := by omega
        have hst := pstep_any w.heap.size pq mq mg rq bq lp lc (prB k (itB k)) (some ⟨wc.heap.size, 0, none⟩) 1 [true] w4 HP4.out HF4.out ((prB_ok HOK.out.1).mono hkk) (by rw [prB_bt]; exact HOK.out.2)
        clear hw4 HLc HPc q2 hkk
        generalize wc.heap.size = fb at *
        refine hst.mono ?_
        rintro e w5 ⟨v, lp', lc', rfl, hv, hP5, hk5⟩
        rw [HT.out.1]
        have HL5 : Hid (L1 w w5 r1 pq mq mg rq bq k (.slice v3p (phsB k).length v3c) (.slice v4p (knsB k).length v4c) (phsB k) (knsB k) (itB (k + 1))) := HL4.out.step hP5 hk5
        have HP5 : Hid (PA w5 w.heap.size pq mq mg rq bq lp' lc' (itB (k + 1))) := hP5
        have HE5 : Hid (EOwn 43 w5 w4.heap.size v (evB k)) := hv
        have HEL := Hid.in HT.out.2.1
        obtain ⟨pv, cv, ev, -⟩ := hv.shape
        obtain ⟨el, hel⟩ : ∃ el, el = (stpP (prB k (itB k)) [true]).ev.length := ⟨_, rfl⟩
        rw [← hel] at ev
        have hel1 : el ≤ 1 := by rw [hel]; exact HEL.out
        have HEE : Hid (el = (evB k).length) := hel
        subst ev
        clear hv hP5 hk5 hst HP4 HL4 HF4 HT hel HEL
        generalize (stpP (prB k (itB k)) [true]).back = bk at *
        have q2 : w5.cell? ⟨r1, 2, none⟩ = some (.pointer (some ⟨pq, 0, none⟩)) := (HL5.out.x.cell 2).trans rfl
        have hle : ¬ (1 : Int) < el := by omega
        go_wp2_with (go_at_call 9; refine Hid.out ?_)
        refine Lib.hid ?_
        refine (pphase_any HP5.out).mono ?_
        rintro e w6 ⟨rfl, hw⟩
        rw [hw]
        clear hw w6
        have HPS : Hid (phsB (k + 1) = phsB k ++ [((itB (k + 1)).ph : Int)]) := rfl
        have hpl : (u8s (phsB k)).length ≤ 1000 := by rw [List.length_map, phsB_len]; omega
        have hkl : (u8s (knsB k)).length ≤ 1000 := Nat.le_trans (knsB_len k (by omega)) (by omega)
        generalize (itB (k + 1)).ph = nph at *
        go_wp2_with (refine gpush Try.elemPh _ rfl _ _ rfl w.heap.size (.slice v3p (phsB k).length v3c) (u8s (phsB k)) rfl (HL5.out.ph.alloc _) ⟨w5.heap.size, 0, none⟩ 1 1 [.int .u8 nph] rfl rfl (news1 _ _ _) (one1 _) (by omega) (by omega) (by have h1 := HL5.out.bel.size; simp; omega) ?_; intro v7 w7 hT7 hg7 hb7 _; refine Hid.out ?_)
        refine Lib.hid ?_
        have HL7 : Hid (L1 w w7 r1 pq mq mg rq bq k v7 (.slice v4p (knsB k).length v4c) (phsB (k + 1)) (knsB k) (itB (k + 1))) := by
          rw [HPS.out]
          exact (HL5.out.below (new_alloc _ _)).pushP (by rw [show u8s (phsB k ++ [(nph : Int)]) = u8s (phsB k) ++ [.int .u8 nph] from List.map_append]; exact hT7) hg7 hb7
        have HE7 : Hid (EOwn 43 w7 w4.heap.size (.slice pv el cv) (evB k)) := eown_push (HE5.out.alloc _) (own_blk (HL5.out.ph.alloc _)) hg7
        obtain ⟨v7p, v7c, e7, -⟩ := HL7.out.ph.slice
        rw [List.length_map] at e7
        subst e7
        clear hT7 hg7 hb7 HL5 HE5 q2 HP5
        have HKS : Hid (knsB (k + 1) = knsB k ++ (evB k).map (·.k)) := rfl
        go_wp2_with fail
        go_loopw [4, 9] (fun v4 v9 wx => (v4 = (.slice v4p (knsB k).length v4c) ∧ v9 = .int .i64 0 ∧ wx = w7) ∨ (v9 = .int .i64 1 ∧ el = 1 ∧ L1 w wx r1 pq mq mg rq bq k (.slice v7p (phsB (k + 1)).length v7c) v4 (phsB (k + 1)) (knsB (k + 1)) (itB (k + 1)))) (fun _ v9 _ => 1 - (intOf v9).toNat)
        case atStart => exact .inl ⟨rfl, rfl, rfl⟩
        case round =>
          rcases hrel with ⟨rfl, rfl, hwx⟩ | ⟨rfl, hel, hLx⟩
          · rw [hwx]
            clear hwx
            rcases (by omega : el = 0 ∨ el = 1) with hel0 | hel0
            · have hz0 : ¬ (0 : Int) < el := by omega
              have HL8 : Hid (L1 w w7 r1 pq mq mg rq bq k (.slice v7p (phsB (k + 1)).length v7c) (.slice v4p (knsB k).length v4c) (phsB (k + 1)) (knsB (k + 1)) (itB (k + 1))) := by
                rw [HKS.out, List.eq_nil_of_length_eq_zero (HEE.out.symm.trans hel0), List.map_nil, List.append_nil]
                exact HL7.out
              clear HL7 HE7 hel0
              go_wp2_with fail
              go_roundw
              case rel => exact ⟨k + 1, by go_num, by omega, HL8.out.re⟩
              case measure => simp [intOf]; omega
            · obtain ⟨x, hx⟩ : ∃ x, evB k = [x] := by
                have h1 := HEE.out.symm.trans hel0
                match hh : evB k, h1 with
                | [x], _ => exact ⟨x, rfl⟩
              obtain ⟨p9, c9, e9, -, -, hcell⟩ := HE7.out.shape
              rw [hx] at e9 hcell
              injection e9 with e91 e92 e93
              clear e92 e93
              subst e91
              obtain ⟨g9, rfl, -, -, hc9⟩ := hcell (by simp)
              have k0 : w7.cell? ⟨g9, 0, none⟩ = some (.int .u8 x.k) := hc9 0 (by simp) 0 (by decide)
              have HKX : Hid (knsB (k + 1) = knsB k ++ [x.k]) := by rw [HKS.out, hx]; exact rfl
              have HE1 := Hid.in hel0
              have hz0 : (0 : Int) < el := by omega
              have hz1 : 0 < el := by omega
              clear hcell hc9 hx HE7 HEE HKS hel0
              go_wp2_with (refine gpush Try.elemKd _ rfl _ _ rfl w.heap.size (.slice v4p (knsB k).length v4c) (u8s (knsB k)) rfl (HL7.out.kd.alloc _) ⟨w7.heap.size, 0, none⟩ 1 1 [.int .u8 x.k] rfl rfl (news1 _ _ _) (one1 _) (by omega) (by omega) (by have h1 := HL7.out.bel.size; simp; omega) ?_; intro v8 w8 hT8 hg8 hb8 _; have HL8 := Hid.in ((HL7.out.below (new_alloc _ _)).pushK (ks' := knsB (k + 1)) (by rw [HKX.out, show u8s (knsB k ++ [x.k]) = u8s (knsB k) ++ [.int .u8 x.k] from List.map_append]; exact hT8) hg8 hb8); clear hT8 hg8 hb8)
              go_roundw
              case rel => exact .inr ⟨by go_num, HE1.out, HL8.out⟩
              case measure => simp [intOf]
          · have hz1 : ¬ (1 : Int) < el := by omega
            clear hel
            have HLX := Hid.in hLx
            obtain ⟨v8p, v8c, e8, -⟩ := hLx.kd.slice
            rw [List.length_map] at e8
            subst e8
            clear hLx HL7 HE7 HEE HKS
            go_wp2_with fail
            go_roundw
            case rel => exact ⟨k + 1, by go_num, by omega, HLX.out.re⟩
            case measure => simp [intOf]; omega
      · have HPR := Hid.in (HPB.out (by omega))
        have d5 : decide ((k : Int) = 5) = false := decide_eq_false (by omega)
        have e5 : ((k : Int) == 5) = false := by simpa using (show ¬ (k : Int) = 5 by omega)
        have n5 : decide (k = 5) = false := decide_eq_false (by omega)
        have d9 : decide ((k : Int) = 9) = true := decide_eq_true (by omega)
        have e9 : ((k : Int) == 9) = true := by simpa using (show (k : Int) = 9 by omega)
        have n9 : decide (k = 9) = true := decide_eq_true (by omega)
        clear hkk HPB HPN
        go_wp2_with (go_at_call 10; refine Hid.out ?_)
        refine Lib.hid ?_
        refine (rtake_any rq (itB k).fs (itB k).n 0 wr HP.out.rnd).mono ?_
        rintro e wc ⟨rfl, hr3, hg3⟩
        have HPc : Hid (PA wc w.heap.size pq mq mg rq bq lp lc (prB k (itB k))) := by rw [HPR.out]; exact HP.out.setR hr3 hg3
        have HLc : Hid (L1 w wc r1 pq mq mg rq bq k (.slice v3p (phsB k).length v3c) (.slice v4p (knsB k).length v4c) (phsB k) (knsB k) (prB k (itB k))) := HL.out.step HPc.out (keepsR hg3)
        clear hr3 hg3 q1 q2 HP HL HPR
        generalize tkN (itB k).fs (itB k).n 0 = tk at *
        generalize pnd (itB k).fs 0 = pk at *
        have q2 : wc.cell? ⟨r1, 2, none⟩ = some (.pointer (some ⟨pq, 0, none⟩)) := (HLc.out.x.cell 2).trans rfl
        go_wp2_with (go_at_call 11; refine Hid.out ?_)
        refine Lib.hid ?_
        obtain ⟨w4, hw4⟩ : ∃ w4, w4 = wc.alloc (.cells #[.bool true] 4) := ⟨_, rfl⟩
        rw [← hw4]
        have HL4 : Hid (L1 w w4 r1 pq mq mg rq bq k (.slice v3p (phsB k).length v3c) (.slice v4p (knsB k).length v4c) (phsB k) (knsB k) (prB k (itB k))) := by rw [hw4]; exact HLc.out.below (new_alloc _ _)
        have HP4 : Hid (PA w4 w.heap.size pq mq mg rq bq lp lc (prB k (itB k))) := by rw [hw4]; exact HPc.out.below (new_alloc _ _)
        have HF4 : Hid (BRow w4 (some ⟨wc.heap.size, 0, none⟩) [true]) := by rw [hw4]; exact flags_new wc [true]
        have hkk : (1 : Int) + k ≤ 1000000 := by omega
        have hst := pstep_any w.heap.size pq mq mg rq bq lp lc (prB k (itB k)) (some ⟨wc.heap.size, 0, none⟩) 1 [true] w4 HP4.out HF4.out ((prB_ok HOK.out.1).mono hkk) (by rw [prB_bt]; exact HOK.out.2)
        clear hw4 HLc HPc q2 hkk
        generalize wc.heap.size = fb at *
        refine hst.mono ?_
        rintro e w5 ⟨v, lp', lc', rfl, hv, hP5, hk5⟩
        rw [HT.out.1]
        have HL5 : Hid (L1 w w5 r1 pq mq mg rq bq k (.slice v3p (phsB k).length v3c) (.slice v4p (knsB k).length v4c) (phsB k) (knsB k) (itB (k + 1))) := HL4.out.step hP5 hk5
        have HP5 : Hid (PA w5 w.heap.size pq mq mg rq bq lp' lc' (itB (k + 1))) := hP5
        have HE5 : Hid (EOwn 43 w5 w4.heap.size v (evB k)) := hv
        have HEL := Hid.in HT.out.2.1
        obtain ⟨pv, cv, ev, -⟩ := hv.shape
        obtain ⟨el, hel⟩ : ∃ el, el = (stpP (prB k (itB k)) [true]).ev.length := ⟨_, rfl⟩
        rw [← hel] at ev
        have hel1 : el ≤ 1 := by rw [hel]; exact HEL.out
        have HEE : Hid (el = (evB k).length) := hel
        subst ev
        clear hv hP5 hk5 hst HP4 HL4 HF4 HT hel HEL
        generalize (stpP (prB k (itB k)) [true]).back = bk at *
        have q2 : w5.cell? ⟨r1, 2, none⟩ = some (.pointer (some ⟨pq, 0, none⟩)) := (HL5.out.x.cell 2).trans rfl
        have hle : ¬ (1 : Int) < el := by omega
        go_wp2_with (go_at_call 9; refine Hid.out ?_)
        refine Lib.hid ?_
        refine (pphase_any HP5.out).mono ?_
        rintro e w6 ⟨rfl, hw⟩
        rw [hw]
        clear hw w6
        have HPS : Hid (phsB (k + 1) = phsB k ++ [((itB (k + 1)).ph : Int)]) := rfl
        have hpl : (u8s (phsB k)).length ≤ 1000 := by rw [List.length_map, phsB_len]; omega
        have hkl : (u8s (knsB k)).length ≤ 1000 := Nat.le_trans (knsB_len k (by omega)) (by omega)
        generalize (itB (k + 1)).ph = nph at *
        go_wp2_with (refine gpush Try.elemPh _ rfl _ _ rfl w.heap.size (.slice v3p (phsB k).length v3c) (u8s (phsB k)) rfl (HL5.out.ph.alloc _) ⟨w5.heap.size, 0, none⟩ 1 1 [.int .u8 nph] rfl rfl (news1 _ _ _) (one1 _) (by omega) (by omega) (by have h1 := HL5.out.bel.size; simp; omega) ?_; intro v7 w7 hT7 hg7 hb7 _; refine Hid.out ?_)
        refine Lib.hid ?_
        have HL7 : Hid (L1 w w7 r1 pq mq mg rq bq k v7 (.slice v4p (knsB k).length v4c) (phsB (k + 1)) (knsB k) (itB (k + 1))) := by
          rw [HPS.out]
          exact (HL5.out.below (new_alloc _ _)).pushP (by rw [show u8s (phsB k ++ [(nph : Int)]) = u8s (phsB k) ++ [.int .u8 nph] from List.map_append]; exact hT7) hg7 hb7
        have HE7 : Hid (EOwn 43 w7 w4.heap.size (.slice pv el cv) (evB k)) := eown_push (HE5.out.alloc _) (own_blk (HL5.out.ph.alloc _)) hg7
        obtain ⟨v7p, v7c, e7, -⟩ := HL7.out.ph.slice
        rw [List.length_map] at e7
        subst e7
        clear hT7 hg7 hb7 HL5 HE5 q2 HP5
        have HKS : Hid (knsB (k + 1) = knsB k ++ (evB k).map (·.k)) := rfl
        go_wp2_with fail
        go_loopw [4, 9] (fun v4 v9 wx => (v4 = (.slice v4p (knsB k).length v4c) ∧ v9 = .int .i64 0 ∧ wx = w7) ∨ (v9 = .int .i64 1 ∧ el = 1 ∧ L1 w wx r1 pq mq mg rq bq k (.slice v7p (phsB (k + 1)).length v7c) v4 (phsB (k + 1)) (knsB (k + 1)) (itB (k + 1)))) (fun _ v9 _ => 1 - (intOf v9).toNat)
        case atStart => exact .inl ⟨rfl, rfl, rfl⟩
        case round =>
          rcases hrel with ⟨rfl, rfl, hwx⟩ | ⟨rfl, hel, hLx⟩
          · rw [hwx]
            clear hwx
            rcases (by omega : el = 0 ∨ el = 1) with hel0 | hel0
            · have hz0 : ¬ (0 : Int) < el := by omega
              have HL8 : Hid (L1 w w7 r1 pq mq mg rq bq k (.slice v7p (phsB (k + 1)).length v7c) (.slice v4p (knsB k).length v4c) (phsB (k + 1)) (knsB (k + 1)) (itB (k + 1))) := by
                rw [HKS.out, List.eq_nil_of_length_eq_zero (HEE.out.symm.trans hel0), List.map_nil, List.append_nil]
                exact HL7.out
              clear HL7 HE7 hel0
              go_wp2_with fail
              go_roundw
              case rel => exact ⟨k + 1, by go_num, by omega, HL8.out.re⟩
              case measure => simp [intOf]; omega
            · obtain ⟨x, hx⟩ : ∃ x, evB k = [x] := by
                have h1 := HEE.out.symm.trans hel0
                match hh : evB k, h1 with
                | [x], _ => exact ⟨x, rfl⟩
              obtain ⟨p9, c9, e9, -, -, hcell⟩ := HE7.out.shape
              rw [hx] at e9 hcell
              injection e9 with e91 e92 e93
              clear e92 e93
              subst e91
              obtain ⟨g9, rfl, -, -, hc9⟩ := hcell (by simp)
              have k0 : w7.cell? ⟨g9, 0, none⟩ = some (.int .u8 x.k) := hc9 0 (by simp) 0 (by decide)
              have HKX : Hid (knsB (k + 1) = knsB k ++ [x.k]) := by rw [HKS.out, hx]; exact rfl
              have HE1 := Hid.in hel0
              have hz0 : (0 : Int) < el := by omega
              have hz1 : 0 < el := by omega
              clear hcell hc9 hx HE7 HEE HKS hel0
              go_wp2_with (refine gpush Try.elemKd _ rfl _ _ rfl w.heap.size (.slice v4p (knsB k).length v4c) (u8s (knsB k)) rfl (HL7.out.kd.alloc _) ⟨w7.heap.size, 0, none⟩ 1 1 [.int .u8 x.k] rfl rfl (news1 _ _ _) (one1 _) (by omega) (by omega) (by have h1 := HL7.out.bel.size; simp; omega) ?_; intro v8 w8 hT8 hg8 hb8 _; have HL8 := Hid.in ((HL7.out.below (new_alloc _ _)).pushK (ks' := knsB (k + 1)) (by rw [HKX.out, show u8s (knsB k ++ [x.k]) = u8s (knsB k) ++ [.int .u8 x.k] from List.map_append]; exact hT8) hg8 hb8); clear hT8 hg8 hb8)
              go_roundw
              case rel => exact .inr ⟨by go_num, HE1.out, HL8.out⟩
              case measure => simp [intOf]
          · have hz1 : ¬ (1 : Int) < el := by omega
            clear hel
            have HLX := Hid.in hLx
            obtain ⟨v8p, v8c, e8, -⟩ := hLx.kd.slice
            rw [List.length_map] at e8
            subst e8
            clear hLx HL7 HE7 HEE HKS
            go_wp2_with fail
            go_roundw
            case rel => exact ⟨k + 1, by go_num, by omega, HLX.out.re⟩
            case measure => simp [intOf]; omega
      · have HPR := Hid.in (HPB.out (by omega))
        have d5 : decide ((k : Int) = 5) = false := decide_eq_false (by omega)
        have e5 : ((k : Int) == 5) = false := by simpa using (show ¬ (k : Int) = 5 by omega)
        have n5 : decide (k = 5) = false := decide_eq_false (by omega)
        have d9 : decide ((k : Int) = 9) = false := decide_eq_false (by omega)
        have e9 : ((k : Int) == 9) = false := by simpa using (show ¬ (k : Int) = 9 by omega)
        have n9 : decide (k = 9) = false := decide_eq_false (by omega)
        have d13 : decide ((k : Int) = 13) = true := decide_eq_true (by omega)
        have e13 : ((k : Int) == 13) = true := by simpa using (show (k : Int) = 13 by omega)
        have n13 : decide (k = 13) = true := decide_eq_true (by omega)
        clear hkk HPB HPN
        go_wp2_with (go_at_call 10; refine Hid.out ?_)
        refine Lib.hid ?_
        refine (rtake_any rq (itB k).fs (itB k).n 0 wr HP.out.rnd).mono ?_
        rintro e wc ⟨rfl, hr3, hg3⟩
        have HPc : Hid (PA wc w.heap.size pq mq mg rq bq lp lc (prB k (itB k))) := by rw [HPR.out]; exact HP.out.setR hr3 hg3
        have HLc : Hid (L1 w wc r1 pq mq mg rq bq k (.slice v3p (phsB k).length v3c) (.slice v4p (knsB k).length v4c) (phsB k) (knsB k) (prB k (itB k))) := HL.out.step HPc.out (keepsR hg3)
        clear hr3 hg3 q1 q2 HP HL HPR
        generalize tkN (itB k).fs (itB k).n 0 = tk at *
        generalize pnd (itB k).fs 0 = pk at *
        have q2 : wc.cell? ⟨r1, 2, none⟩ = some (.pointer (some ⟨pq, 0, none⟩)) := (HLc.out.x.cell 2).trans rfl
        go_wp2_with (go_at_call 11; refine Hid.out ?_)
        refine Lib.hid ?_
        obtain ⟨w4, hw4⟩ : ∃ w4, w4 = wc.alloc (.cells #[.bool true] 4) := ⟨_, rfl⟩
        rw [← hw4]
        have HL4 : Hid (L1 w w4 r1 pq mq mg rq bq k (.slice v3p (phsB k).length v3c) (.slice v4p (knsB k).length v4c) (phsB k) (knsB k) (prB k (itB k))) := by rw [hw4]; exact HLc.out.below (new_alloc _ _)
        have HP4 : Hid (PA w4 w.heap.size pq mq mg rq bq lp lc (prB k (itB k))) := by rw [hw4]; exact HPc.out.below (new_alloc _ _)
        have HF4 : Hid (BRow w4 (some ⟨wc.heap.size, 0, none⟩) [true]) := by rw [hw4]; exact flags_new wc [true]
        have hkk : (1 : Int) + k ≤ 1000000 := by omega
        have hst := pstep_any w.heap.size pq mq mg rq bq lp lc (prB k (itB k)) (some ⟨wc.heap.size, 0, none⟩) 1 [true] w4 HP4.out HF4.out ((prB_ok HOK.out.1).mono hkk) (by rw [prB_bt]; exact HOK.out.2)
        clear hw4 HLc HPc q2 hkk
        generalize wc.heap.size = fb at *
        refine hst.mono ?_
        rintro e w5 ⟨v, lp', lc', rfl, hv, hP5, hk5⟩
        rw [HT.out.1]
        have HL5 : Hid (L1 w w5 r1 pq mq mg rq bq k (.slice v3p (phsB k).length v3c) (.slice v4p (knsB k).length v4c) (phsB k) (knsB k) (itB (k + 1))) := HL4.out.step hP5 hk5
        have HP5 : Hid (PA w5 w.heap.size pq mq mg rq bq lp' lc' (itB (k + 1))) := hP5
        have HE5 : Hid (EOwn 43 w5 w4.heap.size v (evB k)) := hv
        have HEL := Hid.in HT.out.2.1
        obtain ⟨pv, cv, ev, -⟩ := hv.shape
        obtain ⟨el, hel⟩ : ∃ el, el = (stpP (prB k (itB k)) [true]).ev.length := ⟨_, rfl⟩
        rw [← hel] at ev
        have hel1 : el ≤ 1 := by rw [hel]; exact HEL.out
        have HEE : Hid (el = (evB k).length) := hel
        subst ev
        clear hv hP5 hk5 hst HP4 HL4 HF4 HT hel HEL
        generalize (stpP (prB k (itB k)) [true]).back = bk at *
        have q2 : w5.cell? ⟨r1, 2, none⟩ = some (.pointer (some ⟨pq, 0, none⟩)) := (HL5.out.x.cell 2).trans rfl
        have hle : ¬ (1 : Int) < el := by omega
        go_wp2_with (go_at_call 9; refine Hid.out ?_)
        refine Lib.hid ?_
        refine (pphase_any HP5.out).mono ?_
        rintro e w6 ⟨rfl, hw⟩
        rw [hw]
        clear hw w6
        have HPS : Hid (phsB (k + 1) = phsB k ++ [((itB (k + 1)).ph : Int)]) := rfl
        have hpl : (u8s (phsB k)).length ≤ 1000 := by rw [List.length_map, phsB_len]; omega
        have hkl : (u8s (knsB k)).length ≤ 1000 := Nat.le_trans (knsB_len k (by omega)) (by omega)
        generalize (itB (k + 1)).ph = nph at *
        go_wp2_with (refine gpush Try.elemPh _ rfl _ _ rfl w.heap.size (.slice v3p (phsB k).length v3c) (u8s (phsB k)) rfl (HL5.out.ph.alloc _) ⟨w5.heap.size, 0, none⟩ 1 1 [.int .u8 nph] rfl rfl (news1 _ _ _) (one1 _) (by omega) (by omega) (by have h1 := HL5.out.bel.size; simp; omega) ?_; intro v7 w7 hT7 hg7 hb7 _; refine Hid.out ?_)
        refine Lib.hid ?_
        have HL7 : Hid (L1 w w7 r1 pq mq mg rq bq k v7 (.slice v4p (knsB k).length v4c) (phsB (k + 1)) (knsB k) (itB (k + 1))) := by
          rw [HPS.out]
          exact (HL5.out.below (new_alloc _ _)).pushP (by rw [show u8s (phsB k ++ [(nph : Int)]) = u8s (phsB k) ++ [.int .u8 nph] from List.map_append]; exact hT7) hg7 hb7
        have HE7 : Hid (EOwn 43 w7 w4.heap.size (.slice pv el cv) (evB k)) := eown_push (HE5.out.alloc _) (own_blk (HL5.out.ph.alloc _)) hg7
        obtain ⟨v7p, v7c, e7, -⟩ := HL7.out.ph.slice
        rw [List.length_map] at e7
        subst e7
        clear hT7 hg7 hb7 HL5 HE5 q2 HP5
        have HKS : Hid (knsB (k + 1) = knsB k ++ (evB k).map (·.k)) := rfl
        go_wp2_with fail
        go_loopw [4, 9] (fun v4 v9 wx => (v4 = (.slice v4p (knsB k).length v4c) ∧ v9 = .int .i64 0 ∧ wx = w7) ∨ (v9 = .int .i64 1 ∧ el = 1 ∧ L1 w wx r1 pq mq mg rq bq k (.slice v7p (phsB (k + 1)).length v7c) v4 (phsB (k + 1)) (knsB (k + 1)) (itB (k + 1)))) (fun _ v9 _ => 1 - (intOf v9).toNat)
        case atStart => exact .inl ⟨rfl, rfl, rfl⟩
        case round =>
          rcases hrel with ⟨rfl, rfl, hwx⟩ | ⟨rfl, hel, hLx⟩
          · rw [hwx]
            clear hwx
            rcases (by omega : el = 0 ∨ el = 1) with hel0 | hel0
            · have hz0 : ¬ (0 : Int) < el := by omega
              have HL8 : Hid (L1 w w7 r1 pq mq mg rq bq k (.slice v7p (phsB (k + 1)).length v7c) (.slice v4p (knsB k).length v4c) (phsB (k + 1)) (knsB (k + 1)) (itB (k + 1))) := by
                rw [HKS.out, List.eq_nil_of_length_eq_zero (HEE.out.symm.trans hel0), List.map_nil, List.append_nil]
                exact HL7.out
              clear HL7 HE7 hel0
              go_wp2_with fail
              go_roundw
              case rel => exact ⟨k + 1, by go_num, by omega, HL8.out.re⟩
              case measure => simp [intOf]; omega
            · obtain ⟨x, hx⟩ : ∃ x, evB k = [x] := by
                have h1 := HEE.out.symm.trans hel0
                match hh : evB k, h1 with
                | [x], _ => exact ⟨x, rfl⟩
              obtain ⟨p9, c9, e9, -, -, hcell⟩ := HE7.out.shape
              rw [hx] at e9 hcell
              injection e9 with e91 e92 e93
              clear e92 e93
              subst e91
              obtain ⟨g9, rfl, -, -, hc9⟩ := hcell (by simp)
              have k0 : w7.cell? ⟨g9, 0, none⟩ = some (.int .u8 x.k) := hc9 0 (by simp) 0 (by decide)
              have HKX : Hid (knsB (k + 1) = knsB k ++ [x.k]) := by rw [HKS.out, hx]; exact rfl
              have HE1 := Hid.in hel0
              have hz0 : (0 : Int) < el := by omega
              have hz1 : 0 < el := by omega
              clear hcell hc9 hx HE7 HEE HKS hel0
              go_wp2_with (refine gpush Try.elemKd _ rfl _ _ rfl w.heap.size (.slice v4p (knsB k).length v4c) (u8s (knsB k)) rfl (HL7.out.kd.alloc _) ⟨w7.heap.size, 0, none⟩ 1 1 [.int .u8 x.k] rfl rfl (news1 _ _ _) (one1 _) (by omega) (by omega) (by have h1 := HL7.out.bel.size; simp; omega) ?_; intro v8 w8 hT8 hg8 hb8 _; have HL8 := Hid.in ((HL7.out.below (new_alloc _ _)).pushK (ks' := knsB (k + 1)) (by rw [HKX.out, show u8s (knsB k ++ [x.k]) = u8s (knsB k) ++ [.int .u8 x.k] from List.map_append]; exact hT8) hg8 hb8); clear hT8 hg8 hb8)
              go_roundw
              case rel => exact .inr ⟨by go_num, HE1.out, HL8.out⟩
              case measure => simp [intOf]
          · have hz1 : ¬ (1 : Int) < el := by omega
            clear hel
            have HLX := Hid.in hLx
            obtain ⟨v8p, v8c, e8, -⟩ := hLx.kd.slice
            rw [List.length_map] at e8
            subst e8
            clear hLx HL7 HE7 HEE HKS
            go_wp2_with fail
            go_roundw
            case rel => exact ⟨k + 1, by go_num, by omega, HLX.out.re⟩
            case measure => simp [intOf]; omega
      · have HPR := Hid.in (HPN.out hkk)
        have d5 : decide ((k : Int) = 5) = false := decide_eq_false (by omega)
        have e5 : ((k : Int) == 5) = false := by simpa using (show ¬ (k : Int) = 5 by omega)
        have n5 : decide (k = 5) = false := decide_eq_false (by omega)
        have d9 : decide ((k : Int) = 9) = false := decide_eq_false (by omega)
        have e9 : ((k : Int) == 9) = false := by simpa using (show ¬ (k : Int) = 9 by omega)
        have n9 : decide (k = 9) = false := decide_eq_false (by omega)
        have d13 : decide ((k : Int) = 13) = false := decide_eq_false (by omega)
        have e13 : ((k : Int) == 13) = false := by simpa using (show ¬ (k : Int) = 13 by omega)
        have n13 : decide (k = 13) = false := decide_eq_false (by omega)
        clear hkk HPB HPN
        have HPc : Hid (PA wr w.heap.size pq mq mg rq bq lp lc (prB k (itB k))) := by rw [HPR.out]; exact HP.out
        have HLc : Hid (L1 w wr r1 pq mq mg rq bq k (.slice v3p (phsB k).length v3c) (.slice v4p (knsB k).length v4c) (phsB k) (knsB k) (prB k (itB k))) := by rw [HPR.out]; exact HL.out
        clear q1 HP HL HPR
        go_wp2_with (go_at_call 11; refine Hid.out ?_)
        refine Lib.hid ?_
        obtain ⟨w4, hw4⟩ : ∃ w4, w4 = wr.alloc (.cells #[.bool true] 4) := ⟨_, rfl⟩
        rw [← hw4]
        have HL4 : Hid (L1 w w4 r1 pq mq mg rq bq k (.slice v3p (phsB k).length v3c) (.slice v4p (knsB k).length v4c) (phsB k) (knsB k) (prB k (itB k))) := by rw [hw4]; exact HLc.out.below (new_alloc _ _)
        have HP4 : Hid (PA w4 w.heap.size pq mq mg rq bq lp lc (prB k (itB k))) := by rw [hw4]; exact HPc.out.below (new_alloc _ _)
        have HF4 : Hid (BRow w4 (some ⟨wr.heap.size, 0, none⟩) [true]) := by rw [hw4]; exact flags_new wr [true]
        have hkk : (1 : Int) + k ≤ 1000000 := by omega
        have hst := pstep_any w.heap.size pq mq mg rq bq lp lc (prB k (itB k)) (some ⟨wr.heap.size, 0, none⟩) 1 [true] w4 HP4.out HF4.out ((prB_ok HOK.out.1).mono hkk) (by rw [prB_bt]; exact HOK.out.2)
        clear hw4 HLc HPc q2 hkk
        generalize wr.heap.size = fb at *
        refine hst.mono ?_
        rintro e w5 ⟨v, lp', lc', rfl, hv, hP5, hk5⟩
        rw [HT.out.1]
        have HL5 : Hid (L1 w w5 r1 pq mq mg rq bq k (.slice v3p (phsB k).length v3c) (.slice v4p (knsB k).length v4c) (phsB k) (knsB k) (itB (k + 1))) := HL4.out.step hP5 hk5
        have HP5 : Hid (PA w5 w.heap.size pq mq mg rq bq lp' lc' (itB (k + 1))) := hP5
        have HE5 : Hid (EOwn 43 w5 w4.heap.size v (evB k)) := hv
        have HEL := Hid.in HT.out.2.1
        obtain ⟨pv, cv, ev, -⟩ := hv.shape
        obtain ⟨el, hel⟩ : ∃ el, el = (stpP (prB k (itB k)) [true]).ev.length := ⟨_, rfl⟩
        rw [← hel] at ev
        have hel1 : el ≤ 1 := by rw [hel]; exact HEL.out
        have HEE : Hid (el = (evB k).length) := hel
        subst ev
        clear hv hP5 hk5 hst HP4 HL4 HF4 HT hel HEL
        generalize (stpP (prB k (itB k)) [true]).back = bk at *
        have q2 : w5.cell? ⟨r1, 2, none⟩ = some (.pointer (some ⟨pq, 0, none⟩)) := (HL5.out.x.cell 2).trans rfl
        have hle : ¬ (1 : Int) < el := by omega
        go_wp2_with (go_at_call 9; refine Hid.out ?_)
        refine Lib.hid ?_
        refine (pphase_any HP5.out).mono ?_
        rintro e w6 ⟨rfl, hw⟩
        rw [hw]
        clear hw w6
        have HPS : Hid (phsB (k + 1) = phsB k ++ [((itB (k + 1)).ph : Int)]) := rfl
        have hpl : (u8s (phsB k)).length ≤ 1000 := by rw [List.length_map, phsB_len]; omega
        have hkl : (u8s (knsB k)).length ≤ 1000 := Nat.le_trans (knsB_len k (by omega)) (by omega)
        generalize (itB (k + 1)).ph = nph at *
        go_wp2_with (refine gpush Try.elemPh _ rfl _ _ rfl w.heap.size (.slice v3p (phsB k).length v3c) (u8s (phsB k)) rfl (HL5.out.ph.alloc _) ⟨w5.heap.size, 0, none⟩ 1 1 [.int .u8 nph] rfl rfl (news1 _ _ _) (one1 _) (by omega) (by omega) (by have h1 := HL5.out.bel.size; simp; omega) ?_; intro v7 w7 hT7 hg7 hb7 _; refine Hid.out ?_)
        refine Lib.hid ?_
        have HL7 : Hid (L1 w w7 r1 pq mq mg rq bq k v7 (.slice v4p (knsB k).length v4c) (phsB (k + 1)) (knsB k) (itB (k + 1))) := by
          rw [HPS.out]
          exact (HL5.out.below (new_alloc _ _)).pushP (by rw [show u8s (phsB k ++ [(nph : Int)]) = u8s (phsB k) ++ [.int .u8 nph] from List.map_append]; exact hT7) hg7 hb7
        have HE7 : Hid (EOwn 43 w7 w4.heap.size (.slice pv el cv) (evB k)) := eown_push (HE5.out.alloc _) (own_blk (HL5.out.ph.alloc _)) hg7
        obtain ⟨v7p, v7c, e7, -⟩ := HL7.out.ph.slice
        rw [List.length_map] at e7
        subst e7
        clear hT7 hg7 hb7 HL5 HE5 q2 HP5
        have HKS : Hid (knsB (k + 1) = knsB k ++ (evB k).map (·.k)) := rfl
        go_wp2_with fail
        go_loopw [4, 9] (fun v4 v9 wx => (v4 = (.slice v4p (knsB k).length v4c) ∧ v9 = .int .i64 0 ∧ wx = w7) ∨ (v9 = .int .i64 1 ∧ el = 1 ∧ L1 w wx r1 pq mq mg rq bq k (.slice v7p (phsB (k + 1)).length v7c) v4 (phsB (k + 1)) (knsB (k + 1)) (itB (k + 1)))) (fun _ v9 _ => 1 - (intOf v9).toNat)
        case atStart => exact .inl ⟨rfl, rfl, rfl⟩
        case round =>
          rcases hrel with ⟨rfl, rfl, hwx⟩ | ⟨rfl, hel, hLx⟩
          · rw [hwx]
            clear hwx
            rcases (by omega : el = 0 ∨ el = 1) with hel0 | hel0
            · have hz0 : ¬ (0 : Int) < el := by omega
              have HL8 : Hid (L1 w w7 r1 pq mq mg rq bq k (.slice v7p (phsB (k + 1)).length v7c) (.slice v4p (knsB k).length v4c) (phsB (k + 1)) (knsB (k + 1)) (itB (k + 1))) := by
                rw [HKS.out, List.eq_nil_of_length_eq_zero (HEE.out.symm.trans hel0), List.map_nil, List.append_nil]
                exact HL7.out
              clear HL7 HE7 hel0
              go_wp2_with fail
              go_roundw
              case rel => exact ⟨k + 1, by go_num, by omega, HL8.out.re⟩
              case measure => simp [intOf]; omega
            · obtain ⟨x, hx⟩ : ∃ x, evB k = [x] := by
                have h1 := HEE.out.symm.trans hel0
                match hh : evB k, h1 with
                | [x], _ => exact ⟨x, rfl⟩
              obtain ⟨p9, c9, e9, -, -, hcell⟩ := HE7.out.shape
              rw [hx] at e9 hcell
              injection e9 with e91 e92 e93
              clear e92 e93
              subst e91
              obtain ⟨g9, rfl, -, -, hc9⟩ := hcell (by simp)
              have k0 : w7.cell? ⟨g9, 0, none⟩ = some (.int .u8 x.k) := hc9 0 (by simp) 0 (by decide)
              have HKX : Hid (knsB (k + 1) = knsB k ++ [x.k]) := by rw [HKS.out, hx]; exact rfl
              have HE1 := Hid.in hel0
              have hz0 : (0 : Int) < el := by omega
              have hz1 : 0 < el := by omega
              clear hcell hc9 hx HE7 HEE HKS hel0
              go_wp2_with (refine gpush Try.elemKd _ rfl _ _ rfl w.heap.size (.slice v4p (knsB k).length v4c) (u8s (knsB k)) rfl (HL7.out.kd.alloc _) ⟨w7.heap.size, 0, none⟩ 1 1 [.int .u8 x.k] rfl rfl (news1 _ _ _) (one1 _) (by omega) (by omega) (by have h1 := HL7.out.bel.size; simp; omega) ?_; intro v8 w8 hT8 hg8 hb8 _; have HL8 := Hid.in ((HL7.out.below (new_alloc _ _)).pushK (ks' := knsB (k + 1)) (by rw [HKX.out, show u8s (knsB k ++ [x.k]) = u8s (knsB k) ++ [.int .u8 x.k] from List.map_append]; exact hT8) hg8 hb8); clear hT8 hg8 hb8)
              go_roundw
              case rel => exact .inr ⟨by go_num, HE1.out, HL8.out⟩
              case measure => simp [intOf]
          · have hz1 : ¬ (1 : Int) < el := by omega
            clear hel
            have HLX := Hid.in hLx
            obtain ⟨v8p, v8c, e8, -⟩ := hLx.kd.slice
            rw [List.length_map] at e8
            subst e8
            clear hLx HL7 HE7 HEE HKS
            go_wp2_with fail
            go_roundw
            case rel => exact ⟨k + 1, by go_num, by omega, HLX.out.re⟩
            case measure => simp [intOf]; omega
end Go.Proofs.Ytekggimgobeggaa
