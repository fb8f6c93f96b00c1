/- Texts put together: HrtI, FetM, HrtH, HrtJ, HrtK, EvS. -/
import Derived.Test.YtnpaijbkhmnfpaaGreatKaq
import Derived.Test.YtnpaijbkhmnfpaaGreatKaj
import Derived.Deep.DeepCutAuto
import Derived.Lib.Hide
import Derived.Test.YtnpaijbkhmnfpaaGreatKao
import Derived.Test.YtnpaijbkhmnfpaaGreatKae
import Derived.Test.YtnpaijbkhmnfpaaGreatKaa
import Derived.Test.YtnpaijbkhmnfpaaGreatKad

/- A step of a hart. -/
namespace Go.Proofs.YtnpaijbkhmnfpaaGreat
open Go.RowKit Go.Maps

/-- do, whatever stands there -/
theorem hdo_any (B B' q mg h l b : Nat) (G : Nat → Prop) (id : Int) (H : Hs) (xs : List Int) (v : Value) (tr : Option Nat) (w : World) (hh : HAt w G B h l b id H) (hm : Mem w B' q mg xs) (hG : ∀ j, G j → j < w.heap.size) (gm : G mg) (gq : ¬ G q) (hx6 : xs.length ≤ 65536) (hbx : Byt xs) (hok : HsOk 1000000 H) (ht : TrV w v tr) :
    Calls Tryz.prog 45 #[.pointer (some ⟨h, 0, none⟩), .pointer (some ⟨q, 0, none⟩), v] w fun e w' => ∃ vv, e = .returned vv ∧ EOwn 41 w' w.heap.size vv (insH id (nilH H) xs tr (dec H.hv)).ev ∧ HAt w' G B h l b id (insH id (nilH H) xs tr (dec H.hv)).h ∧ Mem w' B' q mg (insH id (nilH H) xs tr (dec H.hv)).xs ∧ Keeps (fun j => j = h ∨ j = mg) w w' := by
  by_cases he : (dec H.hv).e = 0
  · by_cases ho : (dec H.hv).o = 4
    · exact hdo_brk B B' q mg h l b G id H xs v tr w hh hm hG gm gq hx6 hbx hok ht ⟨he, ho⟩
    · exact hdo_ex B B' q mg h l b G id H xs v tr w hh hm hG gm gq hx6 hbx hok ht ⟨he, ho⟩
  · exact hdo_bad B B' q mg h l b G id H xs v tr w hh hm hG gm gq hx6 hbx hok ht he

set_option maxHeartbeats 1600000 in
theorem hstep_any (B B' q mg h l b : Nat) (G : Nat → Prop) (id : Int) (H : Hs) (xs : List Int) (hold : Bool) (v : Value) (tr : Option Nat) (w : World) (hh : HAt w G B h l b id H) (hm : Mem w B' q mg xs) (hG : ∀ j, G j → j < w.heap.size) (gm : G mg) (gq : ¬ G q) (hx6 : xs.length ≤ 65536) (hbx : Byt xs) (hok : HsOk 1000000 H) (ht : TrV w v tr) :
    Calls Tryz.prog 11 #[.pointer (some ⟨h, 0, none⟩), .pointer (some ⟨q, 0, none⟩), .bool hold, v] w fun e w' => ∃ vv, e = .returned (.tuple #[vv, .int .i64 0]) ∧ EOwn 41 w' w.heap.size vv (stpH id H xs hold tr).ev ∧ HAt w' G B h l b id (stpH id H xs hold tr).h ∧ Mem w' B' q mg (stpH id H xs hold tr).xs ∧ Keeps (fun j => j = h ∨ j = b ∨ j = mg) w w' := by
  obtain ⟨pS, cS, pH, cH, hB, hPS, hRH, oS, oH⟩ := hh.blk
  have hN := hnone_no h l w (hB.cell 13)
  have hM := missing_no q mg B' xs w hm hx6
  have HD : Hid (∀ W, Below w.heap.size w W → Calls Tryz.prog 43 #[.slice pH H.hv.length cH] W _) := fun W hb => done_any pH H.hv.length cH H.hv W rfl (by have := hok.lH; omega) (hRH.below hb)
  have HBK := Hid.in hB
  have HMo : Hid (∀ W, Below w.heap.size w W → doneB H.hv = false → Calls Tryz.prog 44 #[.pointer (some ⟨h, 0, none⟩), .pointer (some ⟨q, 0, none⟩), .bool hold] W _) := fun W hb hd => more_any B B' q mg h l b G id H xs hold W (hh.below hb) (hm.below hb) (fun j hj => Nat.lt_of_lt_of_le (hG j hj) hb.size) gm gq hok.lL hx6 hok.pc hok.lH hd
  have HDo : Hid (∀ W, Below w.heap.size w W → Calls Tryz.prog 45 #[.pointer (some ⟨h, 0, none⟩), .pointer (some ⟨q, 0, none⟩), v] W _) := fun W hb => hdo_any B B' q mg h l b G id H xs v tr W (hh.below hb) (hm.below hb) (fun j hj => Nat.lt_of_lt_of_le (hG j hj) hb.size) gm gq hx6 hbx hok (ht.below hb)
  have HH := Hid.in hh
  have HM := Hid.in hm
  clear hB hPS hRH oS oH hh hm hG gm gq hx6 hbx hok ht
  go_enter Tryz.func11, Tryz.ntmps11
  go_wp2_with (go_at_call 41; refine Hid.out ?_)
  refine Lib.hid ?_
  (with_reducible refine hN.mono ?_)
  rintro e w1 ⟨rfl, rfl⟩
  go_wp2_with (go_at_call 42; refine Hid.out ?_)
  refine Lib.hid ?_
  (with_reducible refine hM.mono ?_)
  rintro e w2 ⟨rfl, hb2⟩
  have HB2 := Hid.in hb2
  clear hN hM hb2
  have d1 : w2.cell? ⟨h, 1, none⟩ = some (.int .u8 H.st) := (HBK.out.grow HB2.out).cell 1
  have d12 : w2.cell? ⟨h, 12, none⟩ = some (.slice pH H.hv.length cH) := (HBK.out.grow HB2.out).cell 12
  by_cases h0 : H.st = 0
  · have HS0 : Hid (stpH id H xs hold tr = if doneB H.hv = true then insH id (nilH H) xs tr (dec H.hv) else movH id H xs (stpR H.L xs H.pc H.hv hold)) := if_pos h0
    rw [h0] at d1
    have H0 := Hid.in h0
    clear h0
    go_wp2_with (go_at_call 43; refine Hid.out ?_)
    refine Lib.hid ?_
    (with_reducible refine (HD.out _ HB2.out).mono ?_)
    rintro e w3 ⟨rfl, hb3⟩
    have HB3 := Hid.in (below_step HB2.out hb3)
    clear hb3 HD d1 d12
    by_cases hd : doneB H.hv = true
    · rw [hd]
      have HE : Hid (stpH id H xs hold tr = insH id (nilH H) xs tr (dec H.hv)) := HS0.out.trans (if_pos hd)
      go_wp2_with (go_at_call 45; refine Hid.out ?_)
      refine Lib.hid ?_
      (with_reducible refine (HDo.out _ HB3.out).mono ?_)
      rintro e w4 ⟨vv, rfl, ho4, hh4, hm4, hk4⟩
      have HR : Hid _ := And.intro (ho4.lower HB3.out.size) (And.intro hh4 (And.intro hm4 ((Keeps.ofBelow (G := fun j => j = h ∨ j = b ∨ j = mg) HB3.out).trans' (hk4.wider (fun _ e => e.imp _root_.id .inr)))))
      clear ho4 hh4 hm4 hk4
      go_wp2_with fail
      go_ret2
      rw [HE.out]
      exact ⟨vv, rfl, HR.out⟩
    · have hd' : doneB H.hv = false := by simpa using hd
      rw [hd']
      have HE : Hid (stpH id H xs hold tr = movH id H xs (stpR H.L xs H.pc H.hv hold)) := HS0.out.trans (if_neg hd)
      have hmo := HMo.out _ HB3.out hd'
      go_wp2_with (go_at_call 44; refine Hid.out ?_)
      refine Lib.hid ?_
      (with_reducible refine hmo.mono ?_)
      rintro e w4 ⟨vv, rfl, ho4, hh4, hm4, hk4⟩
      have HR : Hid _ := And.intro (ho4.lower HB3.out.size) (And.intro hh4 (And.intro hm4 ((Keeps.ofBelow (G := fun j => j = h ∨ j = b ∨ j = mg) HB3.out).trans' (hk4.wider (fun _ e => e.imp _root_.id .inl)))))
      clear ho4 hh4 hm4 hk4 hmo
      go_wp2_with fail
      go_ret2
      rw [HE.out]
      have hx : (movH id H xs (stpR H.L xs H.pc H.hv hold)).xs = xs := by unfold movH; split <;> rfl
      rw [hx]
      exact ⟨vv, rfl, HR.out⟩
  · have g0 : (H.st != 0) = true := by simpa using h0
    have HE : Hid (stpH id H xs hold tr = ⟨H, xs, []⟩) := if_neg h0
    go_wp2_with fail
    go_ret2
    rw [HE.out]
    exact ⟨_, rfl, World.ownsRow_nil _ _ _ _, HH.out.below HB2.out, HM.out.below HB2.out, Keeps.ofBelow HB2.out⟩

end Go.Proofs.YtnpaijbkhmnfpaaGreat

/- The laws of fetch: memory and lines side by side; made; awake answers true. -/
namespace Go.Proofs.YtnpaijbkhmnfpaaGreat
open Go.RowKit Go.Maps

theorem Mem.lower {w : World} {B B' q g : Nat} {xs : List Int} (h : Mem w B q g xs) (hB : B' ≤ B) : Mem w B' q g xs := ⟨h.blk, h.own.lower hB, Nat.le_trans hB h.base, h.ne⟩
/-- memory and lines, behind w0 -/
structure FSt (w0 w : World) (q mg l b : Nat) (L : List Ln) (xs : List Int) : Prop where
  bel : Below w0.heap.size w0 w
  lin : LinAt w w0.heap.size l b L
  mem : Mem w w0.heap.size q mg xs
/-- what stands not in that block -/
def Far (p : Option Addr) (mg : Nat) : Prop := ∀ g o, p = some ⟨g, o, none⟩ → g ≠ mg
theorem far_none (mg : Nat) : Far none mg := fun _ _ e => by cases e
section
variable {w0 w w' : World} {q mg l b : Nat} {L : List Ln} {xs : List Int}
theorem FSt.below (h : FSt w0 w q mg l b L xs) (hb : Below w.heap.size w w') : FSt w0 w' q mg l b L xs := ⟨below_step h.bel hb, h.lin.below hb, h.mem.below hb⟩
theorem FSt.drewN (h : FSt w0 w q mg l b L xs) (n : Nat) : FSt w0 (w.drewN n) q mg l b L xs := ⟨below_draws h.bel n, h.lin.drewN n, h.mem.drewN n⟩
theorem FSt.swap (h : FSt w0 w q mg l b L xs) {L' : List Ln} (hl : LinAt w' w0.heap.size l b L') (hk : Keeps (fun j => j = b) w w') : FSt w0 w' q mg l b L' xs :=
  ⟨below_take h.bel hk h.lin.hb (Nat.le_refl _), hl, h.mem.lines h.lin.isMap hk⟩
theorem FSt.written (h : FSt w0 w q mg l b L xs) {zs : List Int} (hm : Mem w' w0.heap.size q mg zs) (hk : Keeps (fun j => j = mg) w w') : FSt w0 w' q mg l b L zs :=
  ⟨below_take h.bel hk h.mem.own.base (Nat.le_refl _), h.lin.mem h.mem hk, hm⟩
theorem Row.far {p : Option Addr} {ys : List Int} (h : Row w p ys) (hf : Far p mg) (hk : Keeps (fun j => j = mg) w w') : Row w' p ys := fun h0 => by
  obtain ⟨g, o, rfl, hc⟩ := h h0
  refine ⟨g, o, rfl, fun i hi => ?_⟩
  have h1 := hc i hi
  have h2 := hk.block g (cell_lt h1) (hf g o rfl)
  unfold World.cell? at h1 ⊢
  dsimp only at h1 ⊢
  rw [h2]; exact h1
theorem OwnV.far {B : Nat} {v : Value} {ys : List Int} (h : OwnV w B v ys) (hg : mg < B) : ∃ p c, v = .slice p ys.length c ∧ Row w p ys ∧ Far p mg ∧ (0 < ys.length → ∃ g, p = some ⟨g, 0, none⟩) := by
  rcases h.shape with ⟨rfl, rfl⟩ | ⟨g, cap, rfl, ho⟩
  · exact ⟨none, 0, rfl, fun h => absurd h (Nat.lt_irrefl 0), far_none _, fun h => absurd h (Nat.lt_irrefl 0)⟩
  · exact ⟨_, _, rfl, ho.row, fun g' o e => by injection e with e; injection e with e; have := ho.base; omega, fun _ => ⟨g, rfl⟩⟩
/-- Step, where memory and lines stand so -/
theorem FSt.step (h : FSt w0 w q mg l b L xs) (pc c : Nat) (p : Option Addr) (hv : List Int) (hold : Bool) (hlen : L.length ≤ 1048576) (hx6 : xs.length ≤ 65536) (hpc : pc ≤ 4294967295) (hn : hv.length ≤ 140737488355328) (hrow : Row w p hv) :
    Calls Tryz.prog 78 #[.pointer (some ⟨q, 0, none⟩), .pointer (some ⟨l, 0, none⟩), .int .u32 pc, .slice p hv.length c, .bool hold] w fun e w' => ∃ p' c', e = .returned (.tuple #[.slice p' (stpR L xs pc hv hold).out.length c', .int .i64 (stpR L xs pc hv hold).g, .bool (stpR L xs pc hv hold).is, .int .i64 (stpR L xs pc hv hold).e]) ∧ Row w' p' (stpR L xs pc hv hold).out ∧ Far p' mg ∧ FSt w0 w' q mg l b (stpR L xs pc hv hold).L xs ∧ ∀ r ys, Row w r ys → Row w' r ys := by
  refine (step_any _ _ q mg l b pc c p L xs hv hold w h.lin h.mem hlen hx6 hpc hn hrow).mono ?_
  rintro e w' ⟨v, rfl, ho, hl, hk⟩
  obtain ⟨p', c', rfl, hr, hf, -⟩ := ho.far h.mem.own.lt
  exact ⟨p', c', rfl, hr, hf, h.swap hl hk, fun r ys hr => hr.lines h.lin.isMap hk⟩
end

theorem Row.take {w : World} {p : Option Addr} {xs : List Int} (h : Row w p xs) (n : Nat) : Row w p (xs.take n) := fun h0 => by
  rw [List.length_take] at h0
  obtain ⟨b, o, rfl, hc⟩ := h (by omega)
  refine ⟨b, o, rfl, fun i hi => ?_⟩
  rw [List.length_take] at hi
  rw [hc i (by omega)]
  simp only [List.getD, List.getElem?_take_of_lt (show i < n by omega)]
theorem byt_take {xs : List Int} (h : Byt xs) (n : Nat) : Byt (xs.take n) := fun i => by
  by_cases hi : i < n
  · have e : (xs.take n).getD i 0 = xs.getD i 0 := by simp only [List.getD, List.getElem?_take_of_lt hi]
    rw [e]; exact h i
  · have e : (xs.take n).getD i 0 = 0 := by simp only [List.getD, List.getElem?_eq_none (show (xs.take n).length ≤ i by rw [List.length_take]; omega), Option.getD_none]
    rw [e]; omega

def aw : List Int := [144, 233, 1, 2, 3, 4, 144, 0]

end Go.Proofs.YtnpaijbkhmnfpaaGreat

/- New, Sync and State. -/
namespace Go.Proofs.YtnpaijbkhmnfpaaGreat
open Go.RowKit Go.Maps

abbrev Z8r : List Int := [0, 0, 0, 0, 0, 0, 0, 0]
def newH (pc : Nat) : Hs := ⟨0, pc, Z8r, [], [], []⟩
set_option maxHeartbeats 800000 in
theorem hnew_any (id : Int) (pc : Nat) (w : World) :
    Calls Tryz.prog 10 #[.int .i64 id, .int .u32 pc] w fun e w' => ∃ h l b, e = .returned (.pointer (some ⟨h, 0, none⟩)) ∧ Blk w' h 56 (hrA id 0 pc Z8r (.slice none 0 0) (.slice none 0 0) l) ∧ LinAt w' w.heap.size l b [] ∧ w.heap.size ≤ h ∧ h ≠ l ∧ l < h ∧ b < h ∧ Below w.heap.size w w' := by
  have hL := lnew_any w
  go_enter Tryz.func10, Tryz.ntmps10
  go_wp2_with (go_at_call 40; refine Hid.out ?_)
  refine Lib.hid ?_
  (with_reducible refine hL.mono ?_)
  rintro e w1 ⟨l, b, rfl, hl1, hb1⟩
  have HL1 := Hid.in hl1
  have HB1 := Hid.in hb1
  clear hL hl1 hb1
  go_wp2_with fail
  go_ret
  have hll : l < w1.heap.size := (Array.getElem?_eq_some_iff.1 HL1.out.blk).1
  have hbb : b < w1.heap.size := by
    obtain ⟨es, c, e⟩ := HL1.out.isMap
    exact (Array.getElem?_eq_some_iff.1 e).1
  exact ⟨_, l, b, rfl, Blk.new w1 56 (hrA id 0 pc Z8r (.slice none 0 0) (.slice none 0 0) l), HL1.out.below (new_alloc _ _), HB1.out.size, by omega, hll, hbb, below_alloc HB1.out _⟩

set_option maxHeartbeats 800000 in
theorem hsync_any (B h l b : Nat) (G : Nat → Prop) (id : Int) (H : Hs) (w : World) (hh : HAt w G B h l b id H) :
    Calls Tryz.prog 17 #[.pointer (some ⟨h, 0, none⟩)] w fun e w' => e = .returned (.int .i64 H.L.length) ∧ HAt w' G B h l b id { H with hv := [], L := [] } ∧ Keeps (fun j => j = h ∨ j = b) w w' := by
  obtain ⟨st, pc, R, S, hv, L⟩ := H
  obtain ⟨pS, cS, pH, cH, hB, hPS, hRH, oS, oH⟩ := hh.blk
  dsimp only at hB hPS hRH oS oH ⊢
  have hlin := hh.lin
  dsimp only at hlin
  have HN := hnone_no h l w (hB.cell 13)
  have c12 : w.cell? ⟨h, 12, none⟩ = some (.slice pH hv.length cH) := hB.cell 12
  have zf : w.frozen? ⟨h, 12, none⟩ = false := hB.free 12
  have hk := keeps_set (G := fun j => j = h) w h 12 (.slice none 0 0) rfl
  have HB2 : Hid (Blk (w.setCell ⟨h, 12, none⟩ (.slice none 0 0)) h 56 (hrA id st pc R (.slice pS S.length cS) (.slice none 0 0) l)) := hB.set 12 (.slice none 0 0)
  have HK2 := Hid.in hk
  have HL2 := Hid.in (hlin.keeps hk (fun e => hh.gl (e ▸ hh.gh)) (fun e => hh.ne e.symm))
  have HH := Hid.in hh
  have HPS := Hid.in hPS
  have HOS := Hid.in oS
  clear hh hlin hB hk hPS hRH oS oH
  go_enter Tryz.func17, Tryz.ntmps17
  go_wp2_with (go_at_call 41; refine Hid.out ?_)
  refine Lib.hid ?_
  (with_reducible refine HN.mono ?_)
  rintro e w1 ⟨rfl, rfl⟩
  clear HN
  go_upto_region 4 with fail
  generalize w1.setCell ⟨h, 12, none⟩ (.slice none 0 0) = w2 at *
  have d13 : w2.cell? ⟨h, 13, none⟩ = some (.pointer (some ⟨l, 0, none⟩)) := HB2.out.cell 13
  have hF := flush_any B l b L w2 HL2.out
  go_wp2_with (go_at_call 50; refine Hid.out ?_)
  refine Lib.hid ?_
  (with_reducible refine hF.mono ?_)
  rintro e w3 ⟨rfl, hl3, hg3⟩
  have HL3 := Hid.in hl3
  have HK3 : Hid (Keeps (fun j => j = b) w2 w3) := (Keeps.refl _ w2).grown hg3 (fun k hk => by injection hk with hk; exact .inl hk.symm)
  clear hF hl3 hg3
  go_wp2_with fail
  go_ret
  have hG1 : Keeps G w1 w2 := HK2.out.wider (fun _ (e : _ = h) => e ▸ HH.out.gh)
  have hG2 : Keeps G w2 w3 := HK3.out.wider (fun _ (e : _ = b) => e ▸ HH.out.gb)
  exact ⟨rfl, ⟨⟨pS, cS, none, 0, (HK3.out.block h HB2.out.lt HH.out.ne).trans HB2.out, (HPS.out.off HOS.out hG1).off HOS.out hG2, fun h => absurd h (Nat.lt_irrefl 0), HOS.out, Off.zero _ _⟩, HL3.out, HH.out.gh, HH.out.gb, HH.out.gl, HH.out.bh⟩, (HK2.out.wider (fun _ e => .inl e)).trans' (HK3.out.wider (fun _ e => .inr e))⟩

theorem rowKept {w w' : World} {B : Nat} {T : TypeId} {z : Nat} {v : Value} {n : Nat} {xs : List Value} {g : Nat} (h : w.ownsRow B T z v n xs) (hg : w.grownBy w' (some g)) (hB : g < B) : w'.ownsRow B T z v n xs := by
  refine ⟨h.1, h.2.imp id ?_⟩
  rintro ⟨k, cap, cur, e1, e2, e3, e4⟩
  exact ⟨k, cap, cur, e1, e2, (hg.block k (Array.getElem?_eq_some_iff.1 e3).1 (fun e => by injection e with e; omega)).trans e3, e4⟩
theorem rowLower {w : World} {B B' : Nat} {T : TypeId} {z : Nat} {v : Value} {n : Nat} {xs : List Value} (h : w.ownsRow B T z v n xs) (hB : B' ≤ B) : w.ownsRow B' T z v n xs := by
  refine ⟨h.1, h.2.imp id ?_⟩
  rintro ⟨k, cap, cur, e1, e2, e3⟩
  exact ⟨k, cap, cur, e1, Nat.le_trans hB e2, e3⟩
/-- what State answers -/
def stA (st pc : Int) (R : List Int) (vS vH vL : Value) : Array Value :=
  #[.int .u8 st, .int .u32 pc, .int .u32 (R.getD 0 0), .int .u32 (R.getD 1 0), .int .u32 (R.getD 2 0), .int .u32 (R.getD 3 0), .int .u32 (R.getD 4 0), .int .u32 (R.getD 5 0), .int .u32 (R.getD 6 0), .int .u32 (R.getD 7 0), vS, vH, vL]
theorem Tryz.sz50 : (Tryz.prog.info? 50).map (·.size) = some 13 := by kernel_rfl
/-- a hart that is answered: its lists in memory of their own -/
structure StV (w : World) (B : Nat) (H : Hs) (V : Value) : Prop where
  ex : ∃ vS vH vL, V = .agg (stA H.st H.pc H.R vS vH vL) ∧ POwnV w B vS H.S ∧ OwnV w B vH H.hv ∧ LOwn 94 w B vL H.L

set_option maxHeartbeats 4000000 in
set_option maxRecDepth 8000 in
theorem hstate_any (B h l b : Nat) (G : Nat → Prop) (id : Int) (H : Hs) (w : World) (hh : HAt w G B h l b id H) (hok : HsOk 1000000 H) :
    Calls Tryz.prog 14 #[.pointer (some ⟨h, 0, none⟩)] w fun e w' => ∃ V, e = .returned V ∧ StV w' w.heap.size H V ∧ Below w.heap.size w w' := by
  obtain ⟨st, pc, R, S, hv, L⟩ := H
  obtain ⟨hpc, lR, wR, wS, lS, bH, lH, wL, lL⟩ := hok
  dsimp only at hpc lR lS lH wL lL
  obtain ⟨pS, cS, pH, cH, hB, hPS, hRH, oS, oH⟩ := hh.blk
  dsimp only at hB hPS hRH
  have hlin := hh.lin
  dsimp only at hlin
  obtain ⟨r0, r1, r2, r3, r4, r5, r6, r7, rfl⟩ := eight lR
  have HN1 := Hid.in (new_alloc w (.cells #[.int .u8 0, .int .u32 0, .int .u32 0, .int .u32 0, .int .u32 0, .int .u32 0, .int .u32 0, .int .u32 0, .int .u32 0, .int .u32 0, .slice none 0 0, .slice none 0 0, .slice none 0 0] 50))
  have HZ := Hid.in (Blk.new w 50 #[.int .u8 0, .int .u32 0, .int .u32 0, .int .u32 0, .int .u32 0, .int .u32 0, .int .u32 0, .int .u32 0, .int .u32 0, .int .u32 0, .slice none 0 0, .slice none 0 0, .slice none 0 0])
  have HB1 := Hid.in (hB.grow HN1.out)
  have hP : ∀ W, Below (w.alloc (.cells #[.int .u8 0, .int .u32 0, .int .u32 0, .int .u32 0, .int .u32 0, .int .u32 0, .int .u32 0, .int .u32 0, .int .u32 0, .int .u32 0, .slice none 0 0, .slice none 0 0, .slice none 0 0] 50)).heap.size (w.alloc (.cells #[.int .u8 0, .int .u32 0, .int .u32 0, .int .u32 0, .int .u32 0, .int .u32 0, .int .u32 0, .int .u32 0, .int .u32 0, .int .u32 0, .slice none 0 0, .slice none 0 0, .slice none 0 0] 50)) W → _ := fun W hb => pcopied_any pS S.length cS S W rfl (by omega) (hPS.below (below_step HN1.out hb))
  have hH : ∀ W, Below (w.alloc (.cells #[.int .u8 0, .int .u32 0, .int .u32 0, .int .u32 0, .int .u32 0, .int .u32 0, .int .u32 0, .int .u32 0, .int .u32 0, .int .u32 0, .slice none 0 0, .slice none 0 0, .slice none 0 0] 50)).heap.size (w.alloc (.cells #[.int .u8 0, .int .u32 0, .int .u32 0, .int .u32 0, .int .u32 0, .int .u32 0, .int .u32 0, .int .u32 0, .int .u32 0, .int .u32 0, .slice none 0 0, .slice none 0 0, .slice none 0 0] 50)) W → _ := fun W hb => hcopied_any pH hv.length cH hv W rfl (by omega) (hRH.below (below_step HN1.out hb))
  have hL : ∀ W, Below (w.alloc (.cells #[.int .u8 0, .int .u32 0, .int .u32 0, .int .u32 0, .int .u32 0, .int .u32 0, .int .u32 0, .int .u32 0, .int .u32 0, .int .u32 0, .slice none 0 0, .slice none 0 0, .slice none 0 0] 50)).heap.size (w.alloc (.cells #[.int .u8 0, .int .u32 0, .int .u32 0, .int .u32 0, .int .u32 0, .int .u32 0, .int .u32 0, .int .u32 0, .int .u32 0, .int .u32 0, .slice none 0 0, .slice none 0 0, .slice none 0 0] 50)) W → _ := fun W hb => all_any B l b L W (hlin.below (below_step HN1.out hb)) lL (fun x hx => (wL x hx).1)
  have HN := hnone_no h l (w.alloc (.cells #[.int .u8 0, .int .u32 0, .int .u32 0, .int .u32 0, .int .u32 0, .int .u32 0, .int .u32 0, .int .u32 0, .int .u32 0, .int .u32 0, .slice none 0 0, .slice none 0 0, .slice none 0 0] 50)) (HB1.out.cell 13)
  have HSZ1 : Hid (w.heap.size + 1 = (w.alloc (.cells #[.int .u8 0, .int .u32 0, .int .u32 0, .int .u32 0, .int .u32 0, .int .u32 0, .int .u32 0, .int .u32 0, .int .u32 0, .int .u32 0, .slice none 0 0, .slice none 0 0, .slice none 0 0] 50)).heap.size) := (size_one _ _).symm
  have HLT : Hid (h < w.heap.size) := hB.lt
  clear hh hB hPS hRH oS oH hlin wR wS bH wL lR
  go_enter Tryz.func14, Tryz.ntmps14
  go_wp2_with (go_at_call 41; refine Hid.out ?_)
  refine Lib.hid ?_
  (with_reducible refine HN.mono ?_)
  rintro e w1 ⟨rfl, rfl⟩
  clear HN
  go_upto_region 3 with fail
  generalize w.alloc (.cells #[.int .u8 0, .int .u32 0, .int .u32 0, .int .u32 0, .int .u32 0, .int .u32 0, .int .u32 0, .int .u32 0, .int .u32 0, .int .u32 0, .slice none 0 0, .slice none 0 0, .slice none 0 0] 50) = w1 at *
  have c1 : w1.cell? ⟨h, 1, none⟩ = some (.int .u8 st) := HB1.out.cell 1
  have c2 : w1.cell? ⟨h, 2, none⟩ = some (.int .u32 pc) := HB1.out.cell 2
  have c3 : w1.cell? ⟨h, 3, none⟩ = some (.int .u32 r0) := HB1.out.cell 3
  have c4 : w1.cell? ⟨h, 4, none⟩ = some (.int .u32 r1) := HB1.out.cell 4
  have c5 : w1.cell? ⟨h, 5, none⟩ = some (.int .u32 r2) := HB1.out.cell 5
  have c6 : w1.cell? ⟨h, 6, none⟩ = some (.int .u32 r3) := HB1.out.cell 6
  have c7 : w1.cell? ⟨h, 7, none⟩ = some (.int .u32 r4) := HB1.out.cell 7
  have c8 : w1.cell? ⟨h, 8, none⟩ = some (.int .u32 r5) := HB1.out.cell 8
  have c9 : w1.cell? ⟨h, 9, none⟩ = some (.int .u32 r6) := HB1.out.cell 9
  have c10 : w1.cell? ⟨h, 10, none⟩ = some (.int .u32 r7) := HB1.out.cell 10
  have c11 : w1.cell? ⟨h, 11, none⟩ = some (.slice pS S.length cS) := HB1.out.cell 11
  have c12 : w1.cell? ⟨h, 12, none⟩ = some (.slice pH hv.length cH) := HB1.out.cell 12
  have c13 : w1.cell? ⟨h, 13, none⟩ = some (.pointer (some ⟨l, 0, none⟩)) := HB1.out.cell 13
  have HD1 : Hid (Below w1.heap.size w1 w1.drew) := (below_self w1).drew
  have n1 : ¬ h = w.heap.size := by have := HLT.out; omega
  have n2 : ¬ w.heap.size = h := fun e => n1 e.symm
  go_region_held3 (fun W => W.cell? ⟨h, 1, none⟩ = some (.int .u8 st) ∧ W.cell? ⟨h, 2, none⟩ = some (.int .u32 pc) ∧ W.cell? ⟨h, 3, none⟩ = some (.int .u32 r0) ∧ W.cell? ⟨h, 4, none⟩ = some (.int .u32 r1) ∧ W.cell? ⟨h, 5, none⟩ = some (.int .u32 r2) ∧ W.cell? ⟨h, 6, none⟩ = some (.int .u32 r3) ∧ W.cell? ⟨h, 7, none⟩ = some (.int .u32 r4) ∧ W.cell? ⟨h, 8, none⟩ = some (.int .u32 r5) ∧ W.cell? ⟨h, 9, none⟩ = some (.int .u32 r6) ∧ W.cell? ⟨h, 10, none⟩ = some (.int .u32 r7) ∧ W.cell? ⟨h, 11, none⟩ = some (.slice pS S.length cS) ∧ W.cell? ⟨h, 12, none⟩ = some (.slice pH hv.length cH) ∧ W.cell? ⟨h, 13, none⟩ = some (.pointer (some ⟨l, 0, none⟩))) (first | (with_reducible exact hk2) | (with_reducible exact hk3) | (with_reducible exact hk4) | go_keep)
    (first
      | (go_at_call 47; (with_reducible refine (hP _ HD1.out).mono ?_); rintro e w2 ⟨g2, rfl, ho2, hb2⟩; have HW2 := Hid.in (below_step HD1.out hb2); have HO2 := Hid.in ho2; have hk2 : w2.cell? ⟨h, 1, none⟩ = some (.int .u8 st) ∧ w2.cell? ⟨h, 2, none⟩ = some (.int .u32 pc) ∧ w2.cell? ⟨h, 3, none⟩ = some (.int .u32 r0) ∧ w2.cell? ⟨h, 4, none⟩ = some (.int .u32 r1) ∧ w2.cell? ⟨h, 5, none⟩ = some (.int .u32 r2) ∧ w2.cell? ⟨h, 6, none⟩ = some (.int .u32 r3) ∧ w2.cell? ⟨h, 7, none⟩ = some (.int .u32 r4) ∧ w2.cell? ⟨h, 8, none⟩ = some (.int .u32 r5) ∧ w2.cell? ⟨h, 9, none⟩ = some (.int .u32 r6) ∧ w2.cell? ⟨h, 10, none⟩ = some (.int .u32 r7) ∧ w2.cell? ⟨h, 11, none⟩ = some (.slice pS S.length cS) ∧ w2.cell? ⟨h, 12, none⟩ = some (.slice pH hv.length cH) ∧ w2.cell? ⟨h, 13, none⟩ = some (.pointer (some ⟨l, 0, none⟩)) := ⟨(HB1.out.grow HW2.out).cell 1, (HB1.out.grow HW2.out).cell 2, (HB1.out.grow HW2.out).cell 3, (HB1.out.grow HW2.out).cell 4, (HB1.out.grow HW2.out).cell 5, (HB1.out.grow HW2.out).cell 6, (HB1.out.grow HW2.out).cell 7, (HB1.out.grow HW2.out).cell 8, (HB1.out.grow HW2.out).cell 9, (HB1.out.grow HW2.out).cell 10, (HB1.out.grow HW2.out).cell 11, (HB1.out.grow HW2.out).cell 12, (HB1.out.grow HW2.out).cell 13⟩; clear ho2 hb2)
      | (go_at_call 48; (with_reducible refine (hH _ HW2.out).mono ?_); rintro e w3 ⟨g3, rfl, ho3, hb3⟩; have HW3 := Hid.in (below_step HW2.out hb3); have HO3 := Hid.in ho3; have HO23 := Hid.in (HO2.out.below hb3); have hk3 : w3.cell? ⟨h, 1, none⟩ = some (.int .u8 st) ∧ w3.cell? ⟨h, 2, none⟩ = some (.int .u32 pc) ∧ w3.cell? ⟨h, 3, none⟩ = some (.int .u32 r0) ∧ w3.cell? ⟨h, 4, none⟩ = some (.int .u32 r1) ∧ w3.cell? ⟨h, 5, none⟩ = some (.int .u32 r2) ∧ w3.cell? ⟨h, 6, none⟩ = some (.int .u32 r3) ∧ w3.cell? ⟨h, 7, none⟩ = some (.int .u32 r4) ∧ w3.cell? ⟨h, 8, none⟩ = some (.int .u32 r5) ∧ w3.cell? ⟨h, 9, none⟩ = some (.int .u32 r6) ∧ w3.cell? ⟨h, 10, none⟩ = some (.int .u32 r7) ∧ w3.cell? ⟨h, 11, none⟩ = some (.slice pS S.length cS) ∧ w3.cell? ⟨h, 12, none⟩ = some (.slice pH hv.length cH) ∧ w3.cell? ⟨h, 13, none⟩ = some (.pointer (some ⟨l, 0, none⟩)) := ⟨(HB1.out.grow HW3.out).cell 1, (HB1.out.grow HW3.out).cell 2, (HB1.out.grow HW3.out).cell 3, (HB1.out.grow HW3.out).cell 4, (HB1.out.grow HW3.out).cell 5, (HB1.out.grow HW3.out).cell 6, (HB1.out.grow HW3.out).cell 7, (HB1.out.grow HW3.out).cell 8, (HB1.out.grow HW3.out).cell 9, (HB1.out.grow HW3.out).cell 10, (HB1.out.grow HW3.out).cell 11, (HB1.out.grow HW3.out).cell 12, (HB1.out.grow HW3.out).cell 13⟩; clear ho3 hb3)
      | (go_at_call 49; (with_reducible refine (hL _ HW3.out).mono ?_); rintro e w4 ⟨v4, rfl, ho4, hb4⟩; obtain ⟨p4, c4, hv4, -, -, -⟩ := ho4.shape; subst hv4; have HW4 := Hid.in (below_step HW3.out hb4); have HO4 := Hid.in ho4; have HO24 := Hid.in (HO23.out.below hb4); have HO34 := Hid.in (HO3.out.below hb4); have HSS := Hid.in (HW3.out.size); have HZ4 := Hid.in (HZ.out.grow HW4.out); have hk4 : w4.cell? ⟨h, 1, none⟩ = some (.int .u8 st) ∧ w4.cell? ⟨h, 2, none⟩ = some (.int .u32 pc) ∧ w4.cell? ⟨h, 3, none⟩ = some (.int .u32 r0) ∧ w4.cell? ⟨h, 4, none⟩ = some (.int .u32 r1) ∧ w4.cell? ⟨h, 5, none⟩ = some (.int .u32 r2) ∧ w4.cell? ⟨h, 6, none⟩ = some (.int .u32 r3) ∧ w4.cell? ⟨h, 7, none⟩ = some (.int .u32 r4) ∧ w4.cell? ⟨h, 8, none⟩ = some (.int .u32 r5) ∧ w4.cell? ⟨h, 9, none⟩ = some (.int .u32 r6) ∧ w4.cell? ⟨h, 10, none⟩ = some (.int .u32 r7) ∧ w4.cell? ⟨h, 11, none⟩ = some (.slice pS S.length cS) ∧ w4.cell? ⟨h, 12, none⟩ = some (.slice pH hv.length cH) ∧ w4.cell? ⟨h, 13, none⟩ = some (.pointer (some ⟨l, 0, none⟩)) := ⟨(HB1.out.grow HW4.out).cell 1, (HB1.out.grow HW4.out).cell 2, (HB1.out.grow HW4.out).cell 3, (HB1.out.grow HW4.out).cell 4, (HB1.out.grow HW4.out).cell 5, (HB1.out.grow HW4.out).cell 6, (HB1.out.grow HW4.out).cell 7, (HB1.out.grow HW4.out).cell 8, (HB1.out.grow HW4.out).cell 9, (HB1.out.grow HW4.out).cell 10, (HB1.out.grow HW4.out).cell 11, (HB1.out.grow HW4.out).cell 12, (HB1.out.grow HW4.out).cell 13⟩; have z0 : w4.cell? ⟨w.heap.size, 0, none⟩ = some (.int .u8 0) := HZ4.out.cell 0; have z1 : w4.cell? ⟨w.heap.size, 1, none⟩ = some (.int .u32 0) := HZ4.out.cell 1; have z2 : w4.cell? ⟨w.heap.size, 2, none⟩ = some (.int .u32 0) := HZ4.out.cell 2; have z3 : w4.cell? ⟨w.heap.size, 3, none⟩ = some (.int .u32 0) := HZ4.out.cell 3; have z4 : w4.cell? ⟨w.heap.size, 4, none⟩ = some (.int .u32 0) := HZ4.out.cell 4; have z5 : w4.cell? ⟨w.heap.size, 5, none⟩ = some (.int .u32 0) := HZ4.out.cell 5; have z6 : w4.cell? ⟨w.heap.size, 6, none⟩ = some (.int .u32 0) := HZ4.out.cell 6; have z7 : w4.cell? ⟨w.heap.size, 7, none⟩ = some (.int .u32 0) := HZ4.out.cell 7; have z8 : w4.cell? ⟨w.heap.size, 8, none⟩ = some (.int .u32 0) := HZ4.out.cell 8; have z9 : w4.cell? ⟨w.heap.size, 9, none⟩ = some (.int .u32 0) := HZ4.out.cell 9; have z10 : w4.cell? ⟨w.heap.size, 10, none⟩ = some (.slice none 0 0) := HZ4.out.cell 10; have z11 : w4.cell? ⟨w.heap.size, 11, none⟩ = some (.slice none 0 0) := HZ4.out.cell 11; have z12 : w4.cell? ⟨w.heap.size, 12, none⟩ = some (.slice none 0 0) := HZ4.out.cell 12; have zf : ∀ i, w4.frozen? ⟨w.heap.size, i, none⟩ = false := fun i => HZ4.out.free i; clear ho4 hb4))
  have HB5 : Hid (Blk (((((((((((((w4.setCell ⟨w.heap.size, 0, none⟩ (.int .u8 st)).setCell ⟨w.heap.size, 1, none⟩ (.int .u32 pc)).setCell ⟨w.heap.size, 2, none⟩ (.int .u32 r0)).setCell ⟨w.heap.size, 3, none⟩ (.int .u32 r1)).setCell ⟨w.heap.size, 4, none⟩ (.int .u32 r2)).setCell ⟨w.heap.size, 5, none⟩ (.int .u32 r3)).setCell ⟨w.heap.size, 6, none⟩ (.int .u32 r4)).setCell ⟨w.heap.size, 7, none⟩ (.int .u32 r5)).setCell ⟨w.heap.size, 8, none⟩ (.int .u32 r6)).setCell ⟨w.heap.size, 9, none⟩ (.int .u32 r7)).setCell ⟨w.heap.size, 10, none⟩ (.slice (some ⟨g2, 0, none⟩) S.length S.length)).setCell ⟨w.heap.size, 11, none⟩ (.slice (some ⟨g3, 0, none⟩) hv.length hv.length)).setCell ⟨w.heap.size, 12, none⟩ (.slice p4 L.length c4)) w.heap.size 50 #[.int .u8 st, .int .u32 pc, .int .u32 r0, .int .u32 r1, .int .u32 r2, .int .u32 r3, .int .u32 r4, .int .u32 r5, .int .u32 r6, .int .u32 r7, .slice (some ⟨g2, 0, none⟩) S.length S.length, .slice (some ⟨g3, 0, none⟩) hv.length hv.length, .slice p4 L.length c4]) := HZ4.out.setAll #[.int .u8 st, .int .u32 pc, .int .u32 r0, .int .u32 r1, .int .u32 r2, .int .u32 r3, .int .u32 r4, .int .u32 r5, .int .u32 r6, .int .u32 r7, .slice (some ⟨g2, 0, none⟩) S.length S.length, .slice (some ⟨g3, 0, none⟩) hv.length hv.length, .slice p4 L.length c4] rfl
  have HG5 : Hid (w4.grownBy (((((((((((((w4.setCell ⟨w.heap.size, 0, none⟩ (.int .u8 st)).setCell ⟨w.heap.size, 1, none⟩ (.int .u32 pc)).setCell ⟨w.heap.size, 2, none⟩ (.int .u32 r0)).setCell ⟨w.heap.size, 3, none⟩ (.int .u32 r1)).setCell ⟨w.heap.size, 4, none⟩ (.int .u32 r2)).setCell ⟨w.heap.size, 5, none⟩ (.int .u32 r3)).setCell ⟨w.heap.size, 6, none⟩ (.int .u32 r4)).setCell ⟨w.heap.size, 7, none⟩ (.int .u32 r5)).setCell ⟨w.heap.size, 8, none⟩ (.int .u32 r6)).setCell ⟨w.heap.size, 9, none⟩ (.int .u32 r7)).setCell ⟨w.heap.size, 10, none⟩ (.slice (some ⟨g2, 0, none⟩) S.length S.length)).setCell ⟨w.heap.size, 11, none⟩ (.slice (some ⟨g3, 0, none⟩) hv.length hv.length)).setCell ⟨w.heap.size, 12, none⟩ (.slice p4 L.length c4)) (some w.heap.size)) := grown_setCells w.heap.size (Array.toList #[.int .u8 st, .int .u32 pc, .int .u32 r0, .int .u32 r1, .int .u32 r2, .int .u32 r3, .int .u32 r4, .int .u32 r5, .int .u32 r6, .int .u32 r7, .slice (some ⟨g2, 0, none⟩) S.length S.length, .slice (some ⟨g3, 0, none⟩) hv.length hv.length, .slice p4 L.length c4]) 0 w4
  generalize (((((((((((((w4.setCell ⟨w.heap.size, 0, none⟩ (.int .u8 st)).setCell ⟨w.heap.size, 1, none⟩ (.int .u32 pc)).setCell ⟨w.heap.size, 2, none⟩ (.int .u32 r0)).setCell ⟨w.heap.size, 3, none⟩ (.int .u32 r1)).setCell ⟨w.heap.size, 4, none⟩ (.int .u32 r2)).setCell ⟨w.heap.size, 5, none⟩ (.int .u32 r3)).setCell ⟨w.heap.size, 6, none⟩ (.int .u32 r4)).setCell ⟨w.heap.size, 7, none⟩ (.int .u32 r5)).setCell ⟨w.heap.size, 8, none⟩ (.int .u32 r6)).setCell ⟨w.heap.size, 9, none⟩ (.int .u32 r7)).setCell ⟨w.heap.size, 10, none⟩ (.slice (some ⟨g2, 0, none⟩) S.length S.length)).setCell ⟨w.heap.size, 11, none⟩ (.slice (some ⟨g3, 0, none⟩) hv.length hv.length)).setCell ⟨w.heap.size, 12, none⟩ (.slice p4 L.length c4)) = w5 at *
  have l0 : w.heap.size < w1.heap.size := by have := HSZ1.out; omega
  have HQ1 := Hid.in (rowLower (rowKept HO24.out.val HG5.out (Nat.lt_of_lt_of_le l0 HD1.out.size)) (Nat.le_of_lt (Nat.lt_of_lt_of_le l0 HD1.out.size)))
  have HQ2 := Hid.in (rowLower (rowKept HO34.out.val HG5.out (Nat.lt_of_lt_of_le l0 HW2.out.size)) (Nat.le_of_lt (Nat.lt_of_lt_of_le l0 HW2.out.size)))
  have HQ3 := Hid.in (rowLower (rowKept HO4.out HG5.out (Nat.lt_of_lt_of_le l0 HW3.out.size)) (Nat.le_of_lt (Nat.lt_of_lt_of_le l0 HW3.out.size)))
  have HBB := Hid.in ((below_step HN1.out HW4.out).grown HG5.out (below_step HN1.out HW4.out).size (fun k hk => by cases hk; exact Nat.le_refl _))
  clear hk2 hk3 hk4 z0 z1 z2 z3 z4 z5 z6 z7 z8 z9 z10 z11 z12 zf c1 c2 c3 c5 c6 c7 c8 c9 c10 c11 c12 c13 hP hH hL
  go_wp2_with fail
  have hld := HB5.out.load 50 _ Tryz.underlying50 rfl Tryz.sz50
  exact bodyPost_ret (v := .agg #[.int .u8 st, .int .u32 pc, .int .u32 r0, .int .u32 r1, .int .u32 r2, .int .u32 r3, .int .u32 r4, .int .u32 r5, .int .u32 r6, .int .u32 r7, .slice (some ⟨g2, 0, none⟩) S.length S.length, .slice (some ⟨g3, 0, none⟩) hv.length hv.length, .slice p4 L.length c4]) (by simp [results, Tryz.results14, asAddr, hld]) rfl ⟨_, rfl, ⟨⟨_, _, _, rfl, HQ1.out, HQ2.out, HQ3.out⟩⟩, HBB.out⟩

end Go.Proofs.YtnpaijbkhmnfpaaGreat

/- A copy of a hart. -/
namespace Go.Proofs.YtnpaijbkhmnfpaaGreat
open Go.RowKit Go.Maps

theorem rowBelow {w w' : World} {B : Nat} {T : TypeId} {z : Nat} {v : Value} {n : Nat} {xs : List Value} (h : w.ownsRow B T z v n xs) (hb : Below w.heap.size w w') : w'.ownsRow B T z v n xs := by
  refine ⟨h.1, h.2.imp id ?_⟩
  rintro ⟨k, cap, cur, e1, e2, e3, e4⟩
  exact ⟨k, cap, cur, e1, e2, (hb.block k (Array.getElem?_eq_some_iff.1 e3).1).trans e3, e4⟩
theorem rowOther {w w' : World} {B : Nat} {T T' : TypeId} {z : Nat} {v : Value} {n : Nat} {xs : List Value} {g : Nat} {c : Array Value} (h : w.ownsRow B T z v n xs) (hg : w.grownBy w' (some g)) (hb : Blk w g T' c) (hT : T ≠ T') : w'.ownsRow B T z v n xs := by
  refine ⟨h.1, h.2.imp id ?_⟩
  rintro ⟨k, cap, cur, e1, e2, e3, e4⟩
  refine ⟨k, cap, cur, e1, e2, (hg.block k (Array.getElem?_eq_some_iff.1 e3).1 (fun e => ?_)).trans e3, e4⟩
  injection e with e
  rw [e, show w.heap[g]? = _ from hb] at e3
  injection e3 with e3
  injection e3 with _ e3 _
  exact hT e3.symm

set_option maxHeartbeats 4000000 in
set_option maxRecDepth 8000 in
theorem hcopy_any (B h l b : Nat) (G : Nat → Prop) (id : Int) (H : Hs) (w : World) (hh : HAt w G B h l b id H) (hok : HsOk 1000000 H) :
    Calls Tryz.prog 18 #[.pointer (some ⟨h, 0, none⟩)] w fun e w' => ∃ h' l' b' vS vH, e = .returned (.pointer (some ⟨h', 0, none⟩)) ∧ Blk w' h' 56 (hrA id H.st H.pc H.R vS vH l') ∧ POwnV w' w.heap.size vS H.S ∧ OwnV w' w.heap.size vH H.hv ∧ LinAt w' w.heap.size l' b' H.L ∧ w.heap.size ≤ h' ∧ Below w.heap.size w w' := by
  obtain ⟨st, pc, R, S, hv, L⟩ := H
  obtain ⟨hpc, lR, wR, wS, lS, bH, lH, wL, lL⟩ := hok
  dsimp only at hpc lR lS lH wL lL ⊢
  obtain ⟨pS, cS, pH, cH, hB, hPS, hRH, oS, oH⟩ := hh.blk
  dsimp only at hB hPS hRH
  have hlin := hh.lin
  dsimp only at hlin
  obtain ⟨r0, r1, r2, r3, r4, r5, r6, r7, rfl⟩ := eight lR
  have HN := hnone_no h l w (hB.cell 13)
  have c0 : w.cell? ⟨h, 0, none⟩ = some (.int .i64 id) := hB.cell 0
  have c1 : w.cell? ⟨h, 1, none⟩ = some (.int .u8 st) := hB.cell 1
  have c2 : w.cell? ⟨h, 2, none⟩ = some (.int .u32 pc) := hB.cell 2
  have c3 : w.cell? ⟨h, 3, none⟩ = some (.int .u32 r0) := hB.cell 3
  have c4 : w.cell? ⟨h, 4, none⟩ = some (.int .u32 r1) := hB.cell 4
  have c5 : w.cell? ⟨h, 5, none⟩ = some (.int .u32 r2) := hB.cell 5
  have c6 : w.cell? ⟨h, 6, none⟩ = some (.int .u32 r3) := hB.cell 6
  have c7 : w.cell? ⟨h, 7, none⟩ = some (.int .u32 r4) := hB.cell 7
  have c8 : w.cell? ⟨h, 8, none⟩ = some (.int .u32 r5) := hB.cell 8
  have c9 : w.cell? ⟨h, 9, none⟩ = some (.int .u32 r6) := hB.cell 9
  have c10 : w.cell? ⟨h, 10, none⟩ = some (.int .u32 r7) := hB.cell 10
  have c11 : w.cell? ⟨h, 11, none⟩ = some (.slice pS S.length cS) := hB.cell 11
  have c12 : w.cell? ⟨h, 12, none⟩ = some (.slice pH hv.length cH) := hB.cell 12
  have c13 : w.cell? ⟨h, 13, none⟩ = some (.pointer (some ⟨l, 0, none⟩)) := hB.cell 13
  have HP : Hid (∀ W, Below w.heap.size w W → Calls Tryz.prog 47 #[.slice pS S.length cS] W _) := fun W hb => pcopied_any pS S.length cS S W rfl (by omega) (hPS.below hb)
  have HH : Hid (∀ W, Below w.heap.size w W → Calls Tryz.prog 48 #[.slice pH hv.length cH] W _) := fun W hb => hcopied_any pH hv.length cH hv W rfl (by omega) (hRH.below hb)
  have HL : Hid (∀ W, Below w.heap.size w W → Calls Tryz.prog 51 #[.pointer (some ⟨l, 0, none⟩)] W _) := fun W hb => lcopy_any B l b L W (hlin.below hb)
  have HB := Hid.in hB
  clear hh hB hPS hRH oS oH hlin wR wS bH wL lR
  go_enter Tryz.func18, Tryz.ntmps18
  go_wp2_with (go_at_call 41; refine Hid.out ?_)
  refine Lib.hid ?_
  (with_reducible refine HN.mono ?_)
  rintro e w1 ⟨rfl, rfl⟩
  clear HN
  have HN1 := Hid.in (new_alloc w1 (.cells #[.int .i64 id, .int .u8 st, .int .u32 pc, .int .u32 r0, .int .u32 r1, .int .u32 r2, .int .u32 r3, .int .u32 r4, .int .u32 r5, .int .u32 r6, .int .u32 r7, .slice pS S.length cS, .slice pH hv.length cH, .pointer (some ⟨l, 0, none⟩)] 56))
  have HT1 := Hid.in (Blk.new w1 56 #[.int .i64 id, .int .u8 st, .int .u32 pc, .int .u32 r0, .int .u32 r1, .int .u32 r2, .int .u32 r3, .int .u32 r4, .int .u32 r5, .int .u32 r6, .int .u32 r7, .slice pS S.length cS, .slice pH hv.length cH, .pointer (some ⟨l, 0, none⟩)])
  go_upto_region 4 with fail
  have HLT : Hid (h < w1.heap.size) := HB.out.lt
  have HT : Hid (w1.heap.size < (w1.alloc (.cells #[.int .i64 id, .int .u8 st, .int .u32 pc, .int .u32 r0, .int .u32 r1, .int .u32 r2, .int .u32 r3, .int .u32 r4, .int .u32 r5, .int .u32 r6, .int .u32 r7, .slice pS S.length cS, .slice pH hv.length cH, .pointer (some ⟨l, 0, none⟩)] 56)).heap.size) := HT1.out.lt
  generalize w1.alloc (.cells #[.int .i64 id, .int .u8 st, .int .u32 pc, .int .u32 r0, .int .u32 r1, .int .u32 r2, .int .u32 r3, .int .u32 r4, .int .u32 r5, .int .u32 r6, .int .u32 r7, .slice pS S.length cS, .slice pH hv.length cH, .pointer (some ⟨l, 0, none⟩)] 56) = w2 at *
  have HB2 := Hid.in (HB.out.grow HN1.out)
  clear c0 c1 c2 c3 c4 c5 c6 c7 c8 c9 c10 c11 c12 c13
  have d11 : w2.cell? ⟨h, 11, none⟩ = some (.slice pS S.length cS) := HB2.out.cell 11
  go_wp2_with (go_at_call 47; refine Hid.out ?_)
  refine Lib.hid ?_
  (with_reducible refine (HP.out _ HN1.out).mono ?_)
  rintro e w3 ⟨g3, rfl, ho3, hb3⟩
  have HN3 := Hid.in (below_step HN1.out hb3)
  have HT3 := Hid.in (HT1.out.grow hb3)
  have HO3 := Hid.in (rowLower ho3.val HN1.out.size)
  have e11 : w3.cell? ⟨w1.heap.size, 11, none⟩ = some (.slice pS S.length cS) := HT3.out.cell 11
  have z11 : w3.frozen? ⟨w1.heap.size, 11, none⟩ = false := HT3.out.free 11
  clear ho3 hb3 HT1 HP d11
  go_upto_region 5 with fail
  have HT4 : Hid (Blk (w3.setCell ⟨w1.heap.size, 11, none⟩ (.slice (some ⟨g3, 0, none⟩) S.length S.length)) w1.heap.size 56 (hrA id st pc [r0, r1, r2, r3, r4, r5, r6, r7] (.slice (some ⟨g3, 0, none⟩) S.length S.length) (.slice pH hv.length cH) l)) := HT3.out.set 11 (.slice (some ⟨g3, 0, none⟩) S.length S.length)
  have hg4 := grown_setCell w3 w1.heap.size 11 (.slice (some ⟨g3, 0, none⟩) S.length S.length)
  have HN4 := Hid.in (HN3.out.grown hg4 HN3.out.size (fun k hk => by cases hk; exact Nat.le_refl _))
  have HO4 := Hid.in (rowOther HO3.out (T' := 56) hg4 HT3.out (by decide))
  clear HT3 HN3 HO3 e11 z11 hg4
  generalize w3.setCell ⟨w1.heap.size, 11, none⟩ (.slice (some ⟨g3, 0, none⟩) S.length S.length) = w4 at *
  have d12 : w4.cell? ⟨h, 12, none⟩ = some (.slice pH hv.length cH) := (HB.out.grow HN4.out).cell 12
  go_wp2_with (go_at_call 48; refine Hid.out ?_)
  refine Lib.hid ?_
  (with_reducible refine (HH.out _ HN4.out).mono ?_)
  rintro e w5 ⟨g5, rfl, ho5, hb5⟩
  have HN5 := Hid.in (below_step HN4.out hb5)
  have HT5 := Hid.in (HT4.out.grow hb5)
  have HO5 := Hid.in (rowBelow HO4.out hb5)
  have HP5 := Hid.in (rowLower ho5.val HN4.out.size)
  have e12 : w5.cell? ⟨w1.heap.size, 12, none⟩ = some (.slice pH hv.length cH) := HT5.out.cell 12
  have z12 : w5.frozen? ⟨w1.heap.size, 12, none⟩ = false := HT5.out.free 12
  clear ho5 hb5 HT4 HN4 HO4 HH d12
  go_upto_region 6 with fail
  have HT6 : Hid (Blk (w5.setCell ⟨w1.heap.size, 12, none⟩ (.slice (some ⟨g5, 0, none⟩) hv.length hv.length)) w1.heap.size 56 (hrA id st pc [r0, r1, r2, r3, r4, r5, r6, r7] (.slice (some ⟨g3, 0, none⟩) S.length S.length) (.slice (some ⟨g5, 0, none⟩) hv.length hv.length) l)) := HT5.out.set 12 (.slice (some ⟨g5, 0, none⟩) hv.length hv.length)
  have hg6 := grown_setCell w5 w1.heap.size 12 (.slice (some ⟨g5, 0, none⟩) hv.length hv.length)
  have HN6 := Hid.in (HN5.out.grown hg6 HN5.out.size (fun k hk => by cases hk; exact Nat.le_refl _))
  have HO6 := Hid.in (rowOther HO5.out (T' := 56) hg6 HT5.out (by decide))
  have HP6 := Hid.in (rowOther HP5.out (T' := 56) hg6 HT5.out (by decide))
  clear HT5 HN5 HO5 HP5 e12 z12 hg6
  generalize w5.setCell ⟨w1.heap.size, 12, none⟩ (.slice (some ⟨g5, 0, none⟩) hv.length hv.length) = w6 at *
  have d13 : w6.cell? ⟨h, 13, none⟩ = some (.pointer (some ⟨l, 0, none⟩)) := (HB.out.grow HN6.out).cell 13
  go_wp2_with (go_at_call 51; refine Hid.out ?_)
  refine Lib.hid ?_
  (with_reducible refine (HL.out _ HN6.out).mono ?_)
  rintro e w7 ⟨l', b', rfl, hl7, hb7⟩
  have HN7 := Hid.in (below_step HN6.out hb7)
  have HT7 := Hid.in (HT6.out.grow hb7)
  have HO7 := Hid.in (rowBelow HO6.out hb7)
  have HP7 := Hid.in (rowBelow HP6.out hb7)
  have HL7 := Hid.in hl7
  have HGE := Hid.in HN6.out.size
  have e13 : w7.cell? ⟨w1.heap.size, 13, none⟩ = some (.pointer (some ⟨l, 0, none⟩)) := HT7.out.cell 13
  have z13 : w7.frozen? ⟨w1.heap.size, 13, none⟩ = false := HT7.out.free 13
  have HLT6 : Hid (w1.heap.size < w6.heap.size) := HT6.out.lt
  clear hl7 hb7 HT6 HN6 HO6 HP6 HL d13
  go_upto_region 7 with fail
  have HT8 : Hid (Blk (w7.setCell ⟨w1.heap.size, 13, none⟩ (.pointer (some ⟨l', 0, none⟩))) w1.heap.size 56 (hrA id st pc [r0, r1, r2, r3, r4, r5, r6, r7] (.slice (some ⟨g3, 0, none⟩) S.length S.length) (.slice (some ⟨g5, 0, none⟩) hv.length hv.length) l')) := HT7.out.set 13 (.pointer (some ⟨l', 0, none⟩))
  have hg8 := grown_setCell w7 w1.heap.size 13 (.pointer (some ⟨l', 0, none⟩))
  have HN8 := Hid.in (HN7.out.grown hg8 HN7.out.size (fun k hk => by cases hk; exact Nat.le_refl _))
  have HO8 := Hid.in (rowOther HO7.out (T' := 56) hg8 HT7.out (by decide))
  have HP8 := Hid.in (rowOther HP7.out (T' := 56) hg8 HT7.out (by decide))
  have HL8 := Hid.in ((HL7.out.keeps ((Keeps.refl (fun j => j = w1.heap.size) w7).setCell w1.heap.size 13 (.pointer (some ⟨l', 0, none⟩)) (.inl rfl)) (fun e => by have := HL7.out.hq; have := HLT6.out; omega) (fun e => by have := HL7.out.hb; have := HLT6.out; omega)).lower HGE.out)
  clear HT7 HN7 HO7 HP7 HL7 e13 z13 hg8
  generalize w7.setCell ⟨w1.heap.size, 13, none⟩ (.pointer (some ⟨l', 0, none⟩)) = w8 at *
  go_wp2_with fail
  go_ret
  exact ⟨_, l', b', _, _, rfl, HT8.out, HO8.out, HP8.out, HL8.out, Nat.le_refl _, HN8.out⟩

end Go.Proofs.YtnpaijbkhmnfpaaGreat

/- What a step leaves may be. -/
namespace Go.Proofs.YtnpaijbkhmnfpaaGreat
open Go.RowKit Go.Maps

theorem LnW.f8 {L : List Ln} (h : LnW L) : ∀ x ∈ L, F8 x.f := fun x hx => (h x hx).2
theorem stp_ok {L : List Ln} {xs : List Int} {pc : Nat} {hv : List Int} {hold : Bool} (h : LnW L) (hx : Byt xs) (hp : pc ≤ 4294967295) (hb : Byt hv) : LnW (stpR L xs pc hv hold).L ∧ (stpR L xs pc hv hold).L.length ≤ L.length + 1 ∧ (stpR L xs pc hv hold).out.length ≤ 6 ∧ Byt (stpR L xs pc hv hold).out := by
  unfold stpR
  by_cases hd : doneB hv = true
  · rw [if_pos hd]; exact ⟨h, Nat.le_succ _, Nat.zero_le _, byt_nil⟩
  · rw [if_neg hd]
    have hd : doneB hv = false := by simpa using hd
    by_cases hx' : xs.length ≤ pc + hv.length
    · rw [if_pos hx']; exact ⟨h, Nat.le_succ _, Nat.zero_le _, byt_nil⟩
    · rw [if_neg hx']
      have hn6 : hv.length ≤ 6 := by
        by_cases h0 : hv.length = 0
        · omega
        · have := lt_of_not_done hd (by omega)
          have := (lenB_in (hv.getD 0 0)).2
          omega
      obtain ⟨t1, t2, t3⟩ := takR_ok (hold := hold) h hx (g := (((pc + hv.length) / 4 : Nat) : Int)) (by unfold i64W; omega)
      exact ⟨t2, t3, (outF_more hd _ (Nat.mod_lt _ (by decide))).2.2, byt_out hb t1 _⟩
theorem byt_putA {xs ys : List Int} {a : Nat} (hf : a + ys.length ≤ xs.length) (hx : Byt xs) (hy : Byt ys) : Byt (putA xs a ys) := fun i => by
  unfold putA
  have hl : (xs.take a).length = a := by rw [List.length_take]; omega
  by_cases h1 : i < a
  · have e : (xs.take a ++ (ys ++ xs.drop (a + ys.length))).getD i 0 = xs.getD i 0 := by simp only [List.getD, List.getElem?_append_left (show i < (xs.take a).length by omega), List.getElem?_take_of_lt h1]
    rw [e]; exact hx i
  · by_cases h2 : i < a + ys.length
    · have e : (xs.take a ++ (ys ++ xs.drop (a + ys.length))).getD i 0 = ys.getD (i - a) 0 := by simp only [List.getD, List.getElem?_append_right (show (xs.take a).length ≤ i by omega), hl, List.getElem?_append_left (show i - a < ys.length by omega)]
      rw [e]; exact hy _
    · have e : (xs.take a ++ (ys ++ xs.drop (a + ys.length))).getD i 0 = xs.getD (a + ys.length + (i - a - ys.length)) 0 := by simp only [List.getD, List.getElem?_append_right (show (xs.take a).length ≤ i by omega), hl, List.getElem?_append_right (show ys.length ≤ i - a by omega), List.getElem?_drop]
      rw [e]; exact hx _
/-- what a step leaves may be -/
structure StOk (k n : Nat) (s : St) : Prop where
  h : HsOk k s.h
  b : Byt s.xs
  l : s.xs.length = n
theorem flt_ok {k : Nat} {id e : Int} {h : Hs} {xs : List Int} (hk : HsOk k h) (hb : Byt xs) : StOk k xs.length (fltH id h xs e) := ⟨⟨hk.pc, hk.lR, hk.wR, hk.wS, hk.lS, hk.bH, hk.lH, hk.wL, hk.lL⟩, hb, rfl⟩
theorem exe_ok {k : Nat} {id : Int} {h : Hs} {xs : List Int} {o : Nat} {r : List Int × List Int × Eff} (hn : HsOk k h) (hb : Byt xs) (f1 : r.1.length = 8) (f2 : Wds r.1) (f3 : Wds r.2.1) (f4 : r.2.1.length ≤ 64) (f5 : U32 r.2.2.nx) (hput : r.2.2.fl = 0 → r.2.2.st = true → r.2.2.at_.toNat + (le4 r.2.2.va).length ≤ xs.length) : StOk k xs.length (exeH id h xs o r) := by
  unfold exeH
  split
  · rename_i hf
    refine ⟨⟨by have := f5; show r.2.2.nx.toNat ≤ 4294967295; omega, f1, f2, f3, f4, hn.bH, hn.lH, hn.wL, hn.lL⟩, ?_, ?_⟩
    · dsimp only
      split
      · rename_i hs; exact byt_putA (hput hf hs) hb (le4_byt _)
      · exact hb
    · dsimp only
      split
      · rename_i hs; exact putA_len (hput hf hs)
      · rfl
  · exact flt_ok hn hb
theorem stpH_ok {k : Nat} {id : Int} {h : Hs} {xs : List Int} {hold : Bool} {tr : Option Nat} (hk : HsOk k h) (hb : Byt xs) (ht : ∀ z, tr = some z → z ≤ 4294967295) : StOk (k + 1) xs.length (stpH id h xs hold tr) := by
  unfold stpH
  split
  · split
    · rename_i hd
      have hn := (hk.nil).more (Nat.le_succ k)
      unfold insH
      split
      · rename_i he
        split
        · cases tr with
          | none => exact flt_ok hn hb
          | some z => exact ⟨⟨ht z rfl, hn.lR, hn.wR, hn.wS, hn.lS, hn.bH, hn.lH, hn.wL, hn.lL⟩, hb, rfl⟩
        · obtain ⟨d1, d2, d3, d4, d5⟩ := dec_bounds hk.bH he
          obtain ⟨f1, f2, f3, f4, f5, f6, f7, f8, f9⟩ := doL_facts (dec h.hv).o.toNat (dec h.hv).a.toNat (dec h.hv).b.toNat (dec h.hv).n h.pc h.R h.S (dataL xs (dec h.hv).o.toNat (dec h.hv).n) (by have := hk.pc; constructor <;> omega) hk.lR hk.wR hk.wS hk.lS (dataL_byt hb _ _)
          refine exe_ok hn hb f1 f2 f3 f4 f5 (fun hf hs => ?_)
          obtain ⟨g1, g2, g3⟩ := f9 hf hs
          have e : dataL xs (dec h.hv).o.toNat (dec h.hv).n = (xs.drop (dec h.hv).n.toNat).take 4 := if_pos (.inr g1)
          rw [e, List.length_take, List.length_drop] at g3
          have := d5 (by omega)
          have g2' : (doL (dec h.hv).o.toNat (dec h.hv).a.toNat (dec h.hv).b.toNat (dec h.hv).n (nilH h).pc (nilH h).R (nilH h).S (dataL xs (dec h.hv).o.toNat (dec h.hv).n)).2.2.at_ = (dec h.hv).n % 4294967296 := g2
          rw [le4_len, g2']
          omega
      · exact flt_ok hn hb
    · unfold movH
      split
      · obtain ⟨s1, s2, s3, s4⟩ := stp_ok (hold := hold) hk.wL hb hk.pc hk.bH
        exact ⟨⟨hk.pc, hk.lR, hk.wR, hk.wS, hk.lS, s4, s3, s1, by have := hk.lL; exact Nat.le_trans s2 (by omega)⟩, hb, rfl⟩
      · exact flt_ok (hk.more (Nat.le_succ k)) hb
  · exact ⟨hk.more (Nat.le_succ k), hb, rfl⟩
theorem newH_ok (pc : Nat) (h : pc ≤ 4294967295) : HsOk 0 (newH pc) := by
  refine ⟨h, rfl, ?_, fun _ hx => absurd hx List.not_mem_nil, Nat.zero_le _, byt_nil, Nat.zero_le _, fun _ hx => absurd hx List.not_mem_nil, Nat.le_refl _⟩
  intro x hx
  have : x = 0 := by simpa [newH, Z8r] using hx
  subst this
  decide

end Go.Proofs.YtnpaijbkhmnfpaaGreat

/- Lists of events: SameEvents, append. -/
namespace Go.Proofs.YtnpaijbkhmnfpaaGreat
open Go.RowKit Go.Maps

/-- a list of events in memory, whoever made it -/
def ERow (w : World) (p : Option Addr) (L : List Ev) : Prop :=
  0 < L.length → ∃ b o, p = some ⟨b, o, none⟩ ∧ ∀ i (hi : i < L.length) j, j < 7 → w.cell? ⟨b, o + i * 7 + j, none⟩ = (l7 L[i])[j]?
theorem ERow.below {w w' : World} {p : Option Addr} {L : List Ev} (h : ERow w p L) (hb : Below w.heap.size w w') : ERow w' p L := fun h0 => by
  obtain ⟨b, o, e, h1⟩ := h h0
  refine ⟨b, o, e, fun i hi j hj => ?_⟩
  have h2 := h1 i hi j hj
  obtain ⟨u, hu⟩ : ∃ u, (l7 L[i])[j]? = some u := ⟨_, List.getElem?_eq_getElem (show j < 7 from hj)⟩
  rw [hu] at h2 ⊢
  exact (hb.cell (p := ⟨b, o + i * 7 + j, none⟩) (cell_lt h2)).trans h2
theorem ERow.seven {w : World} {p : Option Addr} {L : List Ev} (h : ERow w p L) (h0 : 0 < L.length) : ∃ b o, p = some ⟨b, o, none⟩ ∧ ∀ i (hi : i < L.length), w.cell? ⟨b, o + i * 7, none⟩ = some (.int .u8 L[i].k) ∧ w.cell? ⟨b, o + i * 7 + 1, none⟩ = some (.int .i64 0) ∧ w.cell? ⟨b, o + i * 7 + 2, none⟩ = some (.int .i64 L[i].h) ∧ w.cell? ⟨b, o + i * 7 + 3, none⟩ = some (.int .i64 L[i].p) ∧ w.cell? ⟨b, o + i * 7 + 4, none⟩ = some (.int .u8 L[i].o) ∧ w.cell? ⟨b, o + i * 7 + 5, none⟩ = some (.int .i64 0) ∧ w.cell? ⟨b, o + i * 7 + 6, none⟩ = some (.int .i64 L[i].n) := by
  obtain ⟨b, o, e, hc⟩ := h h0
  exact ⟨b, o, e, fun i hi => ⟨hc i hi 0 (by omega), hc i hi 1 (by omega), hc i hi 2 (by omega), hc i hi 3 (by omega), hc i hi 4 (by omega), hc i hi 5 (by omega), hc i hi 6 (by omega)⟩⟩
theorem EOwn.row7 {T : TypeId} {w : World} {B : Nat} {v : Value} {L : List Ev} (h : EOwn T w B v L) : ∃ p cap, v = .slice p L.length cap ∧ L.length ≤ cap ∧ cap ≤ maxLen ∧ ERow w p L := by
  obtain ⟨p, cap, e, h1, h2, h3⟩ := h.shape
  refine ⟨p, cap, e, h1, h2, fun h0 => ?_⟩
  obtain ⟨g, e2, -, -, h4⟩ := h3 h0
  exact ⟨g, 0, e2, fun i hi j hj => by rw [Nat.zero_add]; exact h4 i hi j hj⟩

set_option maxHeartbeats 2000000 in
theorem sameEvents_self (p q : Option Addr) (n c d : Nat) (L : List Ev) (w : World) (hn : L.length = n) (hn6 : n ≤ 9223372036854775807) (h1 : ERow w p L) (h2 : ERow w q L) :
    Calls Tryz.prog 24 #[.slice p n c, .slice q n d] w fun e w' => e = .returned (.bool true) ∧ ∃ m, w' = w.drewN m := by
  have HN := Hid.in hn
  have HR := Hid.in h1
  have HQ := Hid.in h2
  clear hn h1 h2
  have g0 : (n != n) = false := by simp
  go_enter Tryz.func24, Tryz.ntmps24
  go_wp2_with fail
  go_loopw [5] (fun vi wr => ∃ j m : Nat, vi = .int .i64 j ∧ j ≤ n ∧ wr = w.drewN m) (fun vi _ => n - (intOf vi).toNat)
  case atStart => exact ⟨0, 0, rfl, Nat.zero_le _, rfl⟩
  case round =>
    obtain ⟨j, m, rfl, hj, rfl⟩ := hrel
    by_cases hlt : j < n
    · have hjL : j < L.length := by rw [HN.out]; exact hlt
      obtain ⟨b, o, rfl, hcc⟩ := HR.out.seven (by omega)
      obtain ⟨b', o', rfl, hcd⟩ := HQ.out.seven (by omega)
      obtain ⟨c0, c1, c2, c3, c4, c5, c6⟩ := hcc j hjL
      obtain ⟨d0, d1, d2, d3, d4, d5, d6⟩ := hcd j hjL
      clear hcc hcd
      generalize L[j] = x at *
      obtain ⟨xk, xh, xp, xo, xn⟩ := x
      dsimp only at *
      have g1 : (xk == xk) = true := by simp
      have g2 : (xh == xh) = true := by simp
      have g3 : (xp == xp) = true := by simp
      have g4 : (xo == xo) = true := by simp
      have g5 : (xn == xn) = true := by simp
      go_wp2_with fail
      go_quiet (fail)
      go_wp2_with fail
      go_roundw
      case rel => exact ⟨j + 1, _, by go_num, by omega, rfl⟩
      case measure => simp [intOf]; omega
    · go_wp2_with fail
      go_ret
      exact ⟨rfl, _, rfl⟩

theorem one7_all (M : List Ev) : ∀ u ∈ c7 M, u.oneCell' = true := fun u hu => by
  unfold c7 at hu
  rw [List.mem_flatMap] at hu
  obtain ⟨q, _, hq⟩ := hu
  exact one7_mem q u hq
/-- 'append(l, more...)', where there are more -/
theorem epushL {ops : Array Oper} {rest : List Oper} {o : Oper} {a : Act} {Q : Exit → Act → World → Prop} {t T : TypeId} {by_ : Nat} (he : Elem7 t T by_) (w : World) (hgd : o.guard = none) (s x : Operand)
    (ho : o.op = .call { callee := .builtin .append, args := #[s, x], argTypes := #[t, t] }) (B : Nat) (v : Value) (L M : List Ev) (hs : a.eval s = v) (hown : EOwn T w B v L)
    (p : Option Addr) (m c : Nat) (hm : M.length = m) (hx : a.eval x = .slice p m c) (h0 : 0 < M.length) (hrow : ERow w p M)
    (hlen : L.length ≤ 1048576) (hlm : M.length ≤ 1048576) (hby : by_ ≤ 100) (hB : B ≤ w.heap.size)
    (h : ∀ g cap w', EOwn T w' B (.slice (some ⟨g, 0, none⟩) (L ++ M).length cap) (L ++ M) → w.grownBy w' v.ownBlock → (v.ownBlock = some g ∨ g = w.heap.size) → g < w'.heap.size → wpList Tryz.prog ops Q rest (a.put o.dst (.slice (some ⟨g, 0, none⟩) (L ++ M).length cap)) w') :
    wpList Tryz.prog ops Q (o :: rest) a w := by
  subst hm
  obtain ⟨hu, z, hzc, hinfo⟩ := he
  obtain ⟨i0, hi, hz0, hz1, hz2⟩ := info_parts hinfo
  obtain ⟨b, o', rfl, hc⟩ := hrow h0
  have hnews : ∀ j u, (c7 M)[j]? = some u → w.cell? ((⟨b, o', none⟩ : Addr).add j) = some u := fun j u hj => by
    have hjl : j < M.length * 7 := by rw [← c7_len]; exact (List.getElem?_eq_some_iff.1 hj).1
    rw [Go.WideShapes.add_plain]
    have h1 := hc (j / 7) (by omega) (j % 7) (Nat.mod_lt _ (by decide))
    have h2 := c7_at M (j / 7) (by omega) (j % 7) (Nat.mod_lt _ (by decide))
    rw [show j / 7 * 7 + j % 7 = j by omega] at h2
    rw [show o' + j / 7 * 7 + j % 7 = o' + j by omega] at h1
    rw [← h2, hj] at h1
    exact h1
  refine wpList_append_lies w hgd s x t ho B T i0 z 7 by_ hu hi hz0 hz1 hz2 hzc (by decide) v L.length (c7 L) hs hown ⟨b, o', none⟩ M.length c (c7 M) hx (c7_len M) hnews (one7_all M) h0 (by unfold maxLen; omega) (Nat.le_trans (Nat.mul_le_mul (show L.length + M.length ≤ 2097152 by omega) hby) (by decide)) hB w.heap.size rfl ?_
  intro g cap w' h2 h3 h4 h5
  have := h g cap w' (by unfold EOwn; rw [List.length_append, c7_two]; exact h2) h3 h4 h5
  rwa [List.length_append] at this

end Go.Proofs.YtnpaijbkhmnfpaaGreat
