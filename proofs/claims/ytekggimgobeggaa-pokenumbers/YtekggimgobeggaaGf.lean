/- Texts put together: NumA, PokN, NumB, NumC, NumD. -/
import Derived.Test.YtekggimgobeggaaGe
import Derived.Test.YtekggimgobeggaaGc

/- PokeNumbers: the chapter's numbers reckoned. -/
namespace Go.Proofs.Ytekggimgobeggaa
open Go.RowKit

/-- the example's state behind k rounds: at 5, 9 and 13 the hart takes its sync -/
def prB (k : Nat) (s : PS) : PS := if k = 5 ∨ k = 9 ∨ k = 13 then tkP s else s
def itB : Nat → PS
  | 0 => alP
  | k + 1 => (stpP (prB k (itB k)) [true]).s
/-- the phases and kinds that are told -/
def phsB : Nat → List Int
  | 0 => []
  | k + 1 => phsB k ++ [((itB (k + 1)).ph : Int)]
def evB (k : Nat) : List Ev := (stpP (prB k (itB k)) [true]).ev
def knsB : Nat → List Int
  | 0 => []
  | k + 1 => knsB k ++ (evB k).map (·.k)
theorem prB_ok {k : Nat} {s : PS} {M : Int} (h : POk s M) : POk (prB k s) M := by unfold prB; split; exact tk_ok h; exact h
theorem prB_bt (k : Nat) (s : PS) : (prB k s).bt = s.bt := by unfold prB; split <;> rfl
theorem itB_ok : ∀ k, POk (itB k) (1 + k) ∧ BtOk (itB k).bt
  | 0 => itA_ok 0
  | k + 1 => by
    obtain ⟨h1, h2⟩ := itB_ok k
    obtain ⟨h3, h4⟩ := stp_ok (rs := [true]) (prB_ok (k := k) h1) (by rw [prB_bt]; exact h2)
    exact ⟨h3.mono (by omega), h4⟩
theorem itB_tells (k : Nat) (hk : k < 15) : (stpP (prB k (itB k)) [true]).e = 0 ∧ (evB k).length ≤ 1 ∧ (itB k).ph ≠ 0 := by
  rcases (by omega : k = 0 ∨ k = 1 ∨ k = 2 ∨ k = 3 ∨ k = 4 ∨ k = 5 ∨ k = 6 ∨ k = 7 ∨ k = 8 ∨ k = 9 ∨ k = 10 ∨ k = 11 ∨ k = 12 ∨ k = 13 ∨ k = 14) with rfl | rfl | rfl | rfl | rfl | rfl | rfl | rfl | rfl | rfl | rfl | rfl | rfl | rfl | rfl <;> exact ⟨by kernel_rfl, by decide +kernel, by decide +kernel⟩
theorem itB_end : (itB 15).ph = 0 ∧ phsB 15 = [2, 2, 5, 5, 5, 3, 3, 5, 5, 4, 4, 5, 5, 6, 0] ∧ knsB 15 = [10, 11, 10, 11, 10, 11] ∧ (itB 15).ct.wa = 4 := ⟨by kernel_rfl, by kernel_rfl, by kernel_rfl, by kernel_rfl⟩
end Go.Proofs.Ytekggimgobeggaa

/- Copy. -/
namespace Go.Proofs.Ytekggimgobeggaa
open Go.RowKit Go.Sort

/-- a patcher upon another memory and other rounds -/
def cpyP (s : PS) (xs : List Int) (fs : List Bool) (n : Int) : PS := { s with xs := xs, fs := fs, n := n }
set_option maxRecDepth 20000 in
set_option maxHeartbeats 2000000 in
theorem pcopy_ok {w : World} {B pq mq mg rq bq : Nat} {lp : Option Addr} {lc : Nat} {s : PS} (h : PA w B pq mq mg rq bq lp lc s) {mq' mg' rq' : Nat} {xs : List Int} {fs : List Bool} {n : Int} (hm : Mem w B mq' mg' xs) (hr : Rnd w rq' fs n) (hxl : xs.length ≤ 65536) (hB : B ≤ rq') (hBw : B ≤ w.heap.size) :
    Calls Try.prog 16 #[.pointer (some ⟨pq, 0, none⟩), .pointer (some ⟨mq', 0, none⟩), .pointer (some ⟨rq', 0, none⟩)] w fun e w' => ∃ pq' bq', e = .returned (.pointer (some ⟨pq', 0, none⟩)) ∧ PA w' B pq' mq' mg' rq' bq' lp lc (cpyP s xs fs n) ∧ Below w.heap.size w w' ∧ w.heap.size ≤ pq' ∧ w.heap.size ≤ bq' := by
  have hnn := pnone_no pq bq w (h.c 2 rfl)
  have hms := missing_no hm hr hxl
  have HP := Hid.in h
  have HM := Hid.in hm
  have HR := Hid.in hr
  clear h hm hr
  go_enter Try.func16, Try.ntmps16
  go_wp2_with (go_at_call 40; refine Hid.out ?_)
  refine Lib.hid ?_
  refine hnn.mono ?_
  rintro e w1 ⟨rfl, hw⟩
  rw [hw]
  clear hw w1 hnn
  go_wp2_with (go_at_call 52; refine Hid.out ?_)
  refine Lib.hid ?_
  refine hms.mono ?_
  rintro e w1 ⟨rfl, hb⟩
  have HB1 := Hid.in hb
  have HP1 := Hid.in (HP.out.below hb)
  have HM1 := Hid.in (HM.out.below hb)
  have HR1 := Hid.in (HR.out.below hb)
  clear hb hms HP HM HR
  have hz : (patA mq rq bq lp lc s).size = 13 := rfl
  have HA : Hid ((patA mq rq bq lp lc s).all (·.oneCell') = true) := by show _ = true; kernel_rfl
  have HPB := Hid.in HP1.out.pat
  have HNW : Hid (Blk (w1.alloc (.cells #[.pointer none, .pointer none, .pointer none, .slice none 0 0, .bool false, .int .u8 0, .int .i64 0, .int .u8 0, .int .i64 0, .int .i64 0, .int .i64 0, .int .i64 0, .int .i64 0] 99)) w1.heap.size 99 #[.pointer none, .pointer none, .pointer none, .slice none 0 0, .bool false, .int .u8 0, .int .i64 0, .int .u8 0, .int .i64 0, .int .i64 0, .int .i64 0, .int .i64 0, .int .i64 0]) := Blk.new _ _ _
  go_wp2_with (first | (refine step_load_blk HPB.out rfl 99 _ rfl rfl (patA mq rq bq lp lc s) (List.prefix_refl _) _ Try.underlying99 rfl (by rw [hz]; kernel_rfl) ?_) | (refine step_store_blk HNW.out rfl 99 _ _ rfl rfl rfl (patA mq rq bq lp lc s) rfl (by rw [hz]; kernel_rfl) rfl HA.out ?_; intro w2 hb2 hg2; refine Hid.out ?_))
  refine Lib.hid ?_
  have HN2 := Hid.in hb2
  have HL2 : Hid (Below w1.heap.size w1 w2) := (new_alloc _ _).trans (below_grown hg2 (Nat.le_refl _) (by simp))
  have HP2 := Hid.in (HP1.out.below HL2.out)
  have HM2 := Hid.in (HM1.out.below HL2.out)
  have HR2 := Hid.in (HR1.out.below HL2.out)
  have HB2 := Hid.in (below_step HB1.out HL2.out)
  have HZ1 : Hid (w.heap.size ≤ w1.heap.size) := HB1.out.size
  clear hb2 hg2 HNW HPB HP1 HM1 HR1 HB1 HL2
  generalize w1.heap.size = pq' at *
  have c2 : w2.cell? ⟨pq, 2, none⟩ = some (.pointer (some ⟨bq, 0, none⟩)) := HP2.out.c 2 rfl
  go_wp2_with (go_at_call 54; refine Hid.out ?_)
  refine Lib.hid ?_
  refine (bcopy_any bq s.bt w2 HP2.out.bat).mono ?_
  rintro e w3 ⟨rfl, hb3, hl3⟩
  have HT3 := Hid.in hb3
  have HN3 := Hid.in (HN2.out.grow hl3)
  have HW3 := Hid.in (HP2.out.row.below hl3)
  have HM3 := Hid.in (HM2.out.below hl3)
  have HR3 := Hid.in (HR2.out.below hl3)
  have HB3 := Hid.in (below_step HB2.out hl3)
  have HZ2 : Hid (w.heap.size ≤ w2.heap.size) := HB2.out.size
  have HLC : Hid (s.left.length ≤ lc ∧ lc ≤ maxLen) := ⟨HP2.out.lcl, HP2.out.lcm⟩
  clear hb3 hl3 HP2 HN2 HM2 HR2 HB2 c2
  generalize w2.heap.size = bq' at *
  have e0 : w3.cell? ⟨pq', 0, none⟩ = some (.pointer (some ⟨mq, 0, none⟩)) := (HN3.out.cell 0).trans rfl
  have e1 : w3.cell? ⟨pq', 1, none⟩ = some (.pointer (some ⟨rq, 0, none⟩)) := (HN3.out.cell 1).trans rfl
  have e2 : w3.cell? ⟨pq', 2, none⟩ = some (.pointer (some ⟨bq, 0, none⟩)) := (HN3.out.cell 2).trans rfl
  have f0 := HN3.out.free 0
  have f1 := HN3.out.free 1
  have f2 := HN3.out.free 2
  go_wp2_with fail
  go_ret
  obtain ⟨cg, hcg⟩ := HM3.out.blkg
  have hg := ((grown_setCell w3 pq' 0 (.pointer (some ⟨mq', 0, none⟩))).trans (grown_setCell _ pq' 1 (.pointer (some ⟨rq', 0, none⟩)))).trans (grown_setCell _ pq' 2 (.pointer (some ⟨bq', 0, none⟩)))
  have hk := keeps_grown hg
  refine ⟨pq', bq', rfl, ?_, HB3.out.trans (below_grown hg HZ1.out HB3.out.size), HZ1.out, HZ2.out⟩
  exact ⟨((HN3.out.set 0 _).set 1 _).set 2 _, HW3.out.keeps hk (fun j hj => ⟨99, _, hj ▸ HN3.out, by decide⟩), HLC.out.1, HLC.out.2, HM3.out.keeps hk (blk_ne HM3.out.blk2 HN3.out (by decide)) (blk_ne hcg HN3.out (by decide)), ⟨HR3.out.le, HR3.out.blk.keeps hk (blk_ne HR3.out.blk HN3.out (by decide))⟩, ⟨HT3.out.le, HT3.out.srt, HT3.out.blk.keeps hk (blk_ne HT3.out.blk HN3.out (by decide))⟩, Nat.le_trans hBw HZ1.out, hB, Nat.le_trans hBw HZ2.out⟩
end Go.Proofs.Ytekggimgobeggaa

/- PokeNumbers: what stays beside a patcher; lists of small numbers. -/
namespace Go.Proofs.Ytekggimgobeggaa
open Go.RowKit Go.Sort

/-- a kind of block that no patcher has -/
def offT (T : TypeId) : Bool := T != 99 && T != 93 && T != 5 && T != 96 && T != 141 && T != 48
theorem PA.typed {G : Nat → Prop} {w w' : World} {B pq mq mg rq bq : Nat} {lp : Option Addr} {lc : Nat} {s : PS} (h : PA w B pq mq mg rq bq lp lc s) (hk : Keeps G w w') (hG : ∀ j, G j → ∃ T c, Blk w j T c ∧ offT T = true) : PA w' B pq mq mg rq bq lp lc s := by
  have hn : ∀ {j : Nat} {U : TypeId} {d : Array Value}, Blk w j U d → offT U = false → ¬ G j := fun hb hU hg => by
    obtain ⟨T, c, h1, h2⟩ := hG _ hg
    exact blk_ne h1 hb (fun e => by rw [e, hU] at h2; cases h2) rfl
  obtain ⟨cg, hcg⟩ := h.mem.blkg
  refine ⟨h.pat.keeps hk (hn h.pat (by decide)), fun h0 => ?_, h.lcl, h.lcm, h.mem.keeps hk (hn h.mem.blk2 (by decide)) (hn hcg (by decide)), ⟨h.rnd.le, h.rnd.blk.keeps hk (hn h.rnd.blk (by decide))⟩, ⟨h.bat.le, h.bat.srt, h.bat.blk.keeps hk (hn h.bat.blk (by decide))⟩, h.gp, h.gr, h.gb⟩
  obtain ⟨b, o, cur, e, hB, hb, hc⟩ := h.row h0
  have hb' := hb.keeps hk (hn hb (by decide))
  exact ⟨b, o, cur, e, hB, hb', fun i hi j hj => by rw [hb'.cell, ← hb.cell]; exact hc i hi j hj⟩
theorem GP.typed {w : World} {B pq mq mg rq bq : Nat} {lp : Option Addr} {lc : Nat} {s : PS} (h : PA w B pq mq mg rq bq lp lc s) {j : Nat} {T : TypeId} {c : Array Value} (hb : Blk w j T c) (hT : offT T = true) : ¬ GP pq mg rq bq j := fun hj => by
  obtain ⟨cg, hcg⟩ := h.mem.blkg
  have hne : ∀ {U : TypeId}, offT U = false → T ≠ U := fun hU e => by rw [e, hU] at hT; cases hT
  rcases hj with e | e | e | e
  · exact blk_ne hb h.pat (hne (by decide)) e
  · exact blk_ne hb hcg (hne (by decide)) e
  · exact blk_ne hb h.rnd.blk (hne (by decide)) e
  · exact blk_ne hb h.bat.blk (hne (by decide)) e
theorem gown_keeps {G : Nat → Prop} {T : TypeId} {w w' : World} {B : Nat} {v : Value} {vs : List Value} (h : GOwnV T w B v vs) (hk : Keeps G w w') (hn : ∀ j c, Blk w j T c → ¬ G j) : GOwnV T w' B v vs := by
  rcases h.2 with h2 | ⟨g, cap, cur, h1, h2, h3, h4⟩
  · exact ⟨h.1, .inl h2⟩
  · have hb : Blk w g T cur := h3
    exact ⟨h.1, .inr ⟨g, cap, cur, h1, h2, hb.keeps hk (hn g cur hb), h4⟩⟩
theorem own_blk {T : TypeId} {w : World} {B : Nat} {v : Value} {vs : List Value} (h : GOwnV T w B v vs) : ∀ j, v.ownBlock = some j → ∃ c, Blk w j T c := fun j hj => by
  rcases h.2 with ⟨e, _⟩ | ⟨g, cap, cur, e, -, h3, -⟩
  · rw [e] at hj; simp [Value.ownBlock] at hj
  · rw [e] at hj
    simp [Value.ownBlock] at hj
    subst hj
    exact ⟨cur, h3⟩
theorem keeps_own {w w' : World} {v : Value} (h : w.grownBy w' v.ownBlock) : Keeps (fun j => v.ownBlock = some j) w w' := ⟨h.os, h.tape, h.output, h.size, fun k hk hn => h.block k hk (fun e => hn e.symm)⟩
theorem Try.elemPh : Elem 29 31 1 := ⟨Try.underlying29, .int .u8 0, rfl, by kernel_rfl⟩
theorem Try.elemKd : Elem 30 40 1 := ⟨Try.underlying30, .int .u8 0, rfl, by kernel_rfl⟩
abbrev u8s (xs : List Int) : List Value := xs.map (Value.int .u8)
/-- what the first loop has: the patcher, its struct, the two lists -/
structure L1 (w wr : World) (r1 pq mq mg rq bq : Nat) (k : Nat) (v3 v4 : Value) (ps ks : List Int) (s : PS) : Prop where
  pa : ∃ lp lc, PA wr w.heap.size pq mq mg rq bq lp lc s
  x : Blk wr r1 26 (wA mq rq pq)
  ph : GOwnV 31 wr w.heap.size v3 (u8s ps)
  kd : GOwnV 40 wr w.heap.size v4 (u8s ks)
  bel : Below w.heap.size w wr
theorem L1.below {w wr w' : World} {r1 pq mq mg rq bq k : Nat} {v3 v4 : Value} {ps ks : List Int} {s : PS} (h : L1 w wr r1 pq mq mg rq bq k v3 v4 ps ks s) (hb : Below wr.heap.size wr w') : L1 w w' r1 pq mq mg rq bq k v3 v4 ps ks s := by
  obtain ⟨lp, lc, hp⟩ := h.pa
  exact ⟨⟨lp, lc, hp.below hb⟩, h.x.grow hb, h.ph.below hb, h.kd.below hb, below_step h.bel hb⟩
theorem L1.step {w wr w' : World} {r1 pq mq mg rq bq k : Nat} {v3 v4 : Value} {ps ks : List Int} {s s' : PS} (h : L1 w wr r1 pq mq mg rq bq k v3 v4 ps ks s) {lp' : Option Addr} {lc' : Nat} (hp' : PA w' w.heap.size pq mq mg rq bq lp' lc' s') (hk : Keeps (GP pq mg rq bq) wr w') : L1 w w' r1 pq mq mg rq bq k v3 v4 ps ks s' := by
  obtain ⟨lp, lc, hp⟩ := h.pa
  refine ⟨⟨lp', lc', hp'⟩, h.x.keeps hk (GP.typed hp h.x (by decide)), gown_keeps h.ph hk (fun j c hb => GP.typed hp hb (by decide)), gown_keeps h.kd hk (fun j c hb => GP.typed hp hb (by decide)), h.bel.trans (hk.below h.bel.size (fun j hj => ?_))⟩
  rcases hj with e | e | e | e
  · subst e; exact hp.gp
  · subst e; exact hp.mem.own.base
  · subst e; exact hp.gr
  · subst e; exact hp.gb
theorem L1.pushP {w wr w' : World} {r1 pq mq mg rq bq k : Nat} {v3 v3' v4 : Value} {ps ps' ks : List Int} {s : PS} (h : L1 w wr r1 pq mq mg rq bq k v3 v4 ps ks s) (hn : GOwnV 31 w' w.heap.size v3' (u8s ps')) (hg : wr.grownBy w' v3.ownBlock) (hb : ∀ w0, Below w.heap.size w0 wr → Below w.heap.size w0 w') : L1 w w' r1 pq mq mg rq bq k v3' v4 ps' ks s := by
  obtain ⟨lp, lc, hp⟩ := h.pa
  have hk := keeps_own hg
  have hO := own_blk h.ph
  refine ⟨⟨lp, lc, hp.typed hk (fun j hj => by obtain ⟨c, hc⟩ := hO j hj; exact ⟨31, c, hc, by decide⟩)⟩, h.x.keeps hk (fun hj => by obtain ⟨c, hc⟩ := hO _ hj; exact blk_ne hc h.x (by decide) rfl), hn, gown_keeps h.kd hk (fun j c hbk hj => by obtain ⟨c', hc'⟩ := hO _ hj; exact blk_ne hc' hbk (by decide) rfl), hb w h.bel⟩
theorem L1.pushK {w wr w' : World} {r1 pq mq mg rq bq k : Nat} {v3 v4 v4' : Value} {ps ks ks' : List Int} {s : PS} (h : L1 w wr r1 pq mq mg rq bq k v3 v4 ps ks s) (hn : GOwnV 40 w' w.heap.size v4' (u8s ks')) (hg : wr.grownBy w' v4.ownBlock) (hb : ∀ w0, Below w.heap.size w0 wr → Below w.heap.size w0 w') : L1 w w' r1 pq mq mg rq bq k v3 v4' ps ks' s := by
  obtain ⟨lp, lc, hp⟩ := h.pa
  have hk := keeps_own hg
  have hO := own_blk h.kd
  refine ⟨⟨lp, lc, hp.typed hk (fun j hj => by obtain ⟨c, hc⟩ := hO j hj; exact ⟨40, c, hc, by decide⟩)⟩, h.x.keeps hk (fun hj => by obtain ⟨c, hc⟩ := hO _ hj; exact blk_ne hc h.x (by decide) rfl), gown_keeps h.ph hk (fun j c hbk hj => by obtain ⟨c', hc'⟩ := hO _ hj; exact blk_ne hc' hbk (by decide) rfl), hn, hb w h.bel⟩
end Go.Proofs.Ytekggimgobeggaa

/- Start refused: nothing turns. -/
namespace Go.Proofs.Ytekggimgobeggaa
open Go.RowKit Go.Sort

set_option maxRecDepth 20000 in
set_option maxHeartbeats 2000000 in
theorem pstart_no {w : World} {B pq mq mg rq bq : Nat} {lp : Option Addr} {lc : Nat} {s : PS} (h : PA w B pq mq mg rq bq lp lc s) (p : Option Addr) (c : Nat) (L : List Si) (up : Bool) (hxl : s.xs.length ≤ 65536) (hn : L.length ≤ 1000) (hr : Row3 w p (L.map siV)) (h0 : s.ph = 0) (hm : mayF s.xs.length 0 L = false) :
    Calls Try.prog 13 #[.pointer (some ⟨pq, 0, none⟩), .slice p L.length c, .bool up] w fun e w' => e = .returned (.int .i64 2) ∧ Below w.heap.size w w' := by
  have hnn := pnone_no pq bq w (h.c 2 rfl)
  have c5 : w.cell? ⟨pq, 5, none⟩ = some (.int .u8 s.ph) := h.c 5 rfl
  have c0 : w.cell? ⟨pq, 0, none⟩ = some (.pointer (some ⟨mq, 0, none⟩)) := h.c 0 rfl
  rw [h0] at c5
  have hlen := mlen_any mq mg B s.xs w h.mem
  have hturn := turn_any p L.length c L s.xs.length w rfl (by omega) hr (by omega) (by omega)
  rw [hm] at hturn
  clear h hr hm h0
  go_enter Try.func13, Try.ntmps13
  go_wp2_with (go_at_call 40; refine Hid.out ?_)
  refine Lib.hid ?_
  refine hnn.mono ?_
  rintro e w1 ⟨rfl, hw⟩
  rw [hw]
  clear hw w1 hnn
  go_wp2_with (go_at_call 49; refine Hid.out ?_)
  refine Lib.hid ?_
  refine hlen.mono ?_
  rintro e w1 ⟨rfl, hw⟩
  rw [hw]
  clear hw w1 hlen
  go_wp2_with (go_at_call 48; refine Hid.out ?_)
  refine Lib.hid ?_
  refine hturn.mono ?_
  rintro e w1 ⟨rfl, hb⟩
  have HB1 := Hid.in hb
  clear hb hturn
  go_wp2_with fail
  go_ret
  exact ⟨rfl, HB1.out⟩
/-- a list of sites as cells of a block -/
theorem blk_row {w : World} {b : Nat} {c : Array Value} (h : Blk w b 48 c) (L : List Si) (hc : c.toList = siR L) : Row3 w (some ⟨b, 0, none⟩) (L.map siV) := fun _ => ⟨b, 0, rfl, fun i hi j hj => by
  rw [List.length_map] at hi
  rw [h.cell, Nat.zero_add, ← Array.getElem?_toList, hc, siR_at L i hi j hj]
  simp [siV, l3, siC]⟩
theorem itB_xs : (itB 15).xs.length = 16 := by kernel_rfl
end Go.Proofs.Ytekggimgobeggaa

/- the lists that Start refuses -/
namespace Go.Proofs.Ytekggimgobeggaa
open Go.RowKit Go.Sort

def lw1 (w : World) : World := w.alloc (.cells #[.int .i64 0, .int .i64 12, .int .i64 4] 48)
def lw2 (w : World) : World := (lw1 w).alloc (.cells #[.int .i64 0, .int .i64 (-1), .int .i64 4] 48)
def lw3 (w : World) : World := (lw2 w).alloc (.cells #[.int .i64 0, .int .i64 4, .int .i64 (-1)] 48)
def lw4 (w : World) : World := (lw3 w).alloc (.cells #[.int .i64 0, .int .i64 0, .int .i64 4102] 48)
def lw5 (w : World) : World := (lw4 w).alloc (.cells #[.int .i64 0, .int .i64 0, .int .i64 65536] 48)
def lw6 (w : World) : World := (lw5 w).alloc (.cells #[.int .i64 0, .int .i64 0, .int .i64 4, .int .i64 0, .int .i64 4, .int .i64 4] 48)
def lw7 (w : World) : World := (lw6 w).alloc (.cells #[.int .i64 0, .int .i64 8, .int .i64 4, .int .i64 0, .int .i64 0, .int .i64 4] 48)
def lw8 (w : World) : World := (lw7 w).alloc (.cells #[.int .i64 0, .int .i64 9223372036854775807, .int .i64 4] 48)
def lw9 (w : World) : World := (lw8 w).alloc (.cells #[.int .i64 0, .int .i64 (-9223372036854775808), .int .i64 4] 48)
def lw10 (w : World) : World := (lw9 w).alloc (.cells #[.int .i64 0, .int .i64 4, .int .i64 (-9223372036854775808)] 48)
def lw11 (w : World) : World := (lw10 w).alloc (.cells #[.slice (some ⟨w.heap.size, 0, none⟩) 1 1, .slice (some ⟨w.heap.size + 1, 0, none⟩) 1 1, .slice (some ⟨w.heap.size + 1 + 1, 0, none⟩) 1 1, .slice (some ⟨w.heap.size + 1 + 1 + 1, 0, none⟩) 1 1, .slice (some ⟨w.heap.size + 1 + 1 + 1 + 1, 0, none⟩) 1 1, .slice (some ⟨w.heap.size + 1 + 1 + 1 + 1 + 1, 0, none⟩) 2 2, .slice (some ⟨w.heap.size + 1 + 1 + 1 + 1 + 1 + 1, 0, none⟩) 2 2, .slice (some ⟨w.heap.size + 1 + 1 + 1 + 1 + 1 + 1 + 1, 0, none⟩) 1 1, .slice (some ⟨w.heap.size + 1 + 1 + 1 + 1 + 1 + 1 + 1 + 1, 0, none⟩) 1 1, .slice (some ⟨w.heap.size + 1 + 1 + 1 + 1 + 1 + 1 + 1 + 1 + 1, 0, none⟩) 1 1] 49)
theorem lz1 (w : World) : (lw1 w).heap.size = w.heap.size + 1 := by simp [lw1]
theorem lz2 (w : World) : (lw2 w).heap.size = w.heap.size + 2 := by have h := lz1 w; simp [lw2, h]
theorem lz3 (w : World) : (lw3 w).heap.size = w.heap.size + 3 := by have h := lz2 w; simp [lw3, h]
theorem lz4 (w : World) : (lw4 w).heap.size = w.heap.size + 4 := by have h := lz3 w; simp [lw4, h]
theorem lz5 (w : World) : (lw5 w).heap.size = w.heap.size + 5 := by have h := lz4 w; simp [lw5, h]
theorem lz6 (w : World) : (lw6 w).heap.size = w.heap.size + 6 := by have h := lz5 w; simp [lw6, h]
theorem lz7 (w : World) : (lw7 w).heap.size = w.heap.size + 7 := by have h := lz6 w; simp [lw7, h]
theorem lz8 (w : World) : (lw8 w).heap.size = w.heap.size + 8 := by have h := lz7 w; simp [lw8, h]
theorem lz9 (w : World) : (lw9 w).heap.size = w.heap.size + 9 := by have h := lz8 w; simp [lw9, h]
theorem lz10 (w : World) : (lw10 w).heap.size = w.heap.size + 10 := by have h := lz9 w; simp [lw10, h]
theorem lz11 (w : World) : (lw11 w).heap.size = w.heap.size + 11 := by have h := lz10 w; simp [lw11, h]
theorem lb1 (w : World) : Below w.heap.size w (lw1 w) := new_alloc _ _
theorem lb2 (w : World) : Below (lw1 w).heap.size (lw1 w) (lw2 w) := new_alloc _ _
theorem lb3 (w : World) : Below (lw2 w).heap.size (lw2 w) (lw3 w) := new_alloc _ _
theorem lb4 (w : World) : Below (lw3 w).heap.size (lw3 w) (lw4 w) := new_alloc _ _
theorem lb5 (w : World) : Below (lw4 w).heap.size (lw4 w) (lw5 w) := new_alloc _ _
theorem lb6 (w : World) : Below (lw5 w).heap.size (lw5 w) (lw6 w) := new_alloc _ _
theorem lb7 (w : World) : Below (lw6 w).heap.size (lw6 w) (lw7 w) := new_alloc _ _
theorem lb8 (w : World) : Below (lw7 w).heap.size (lw7 w) (lw8 w) := new_alloc _ _
theorem lb9 (w : World) : Below (lw8 w).heap.size (lw8 w) (lw9 w) := new_alloc _ _
theorem lb10 (w : World) : Below (lw9 w).heap.size (lw9 w) (lw10 w) := new_alloc _ _
theorem lb11 (w : World) : Below (lw10 w).heap.size (lw10 w) (lw11 w) := new_alloc _ _
theorem lu11 (w : World) : Below (lw11 w).heap.size (lw11 w) (lw11 w) := Below.refl _ _
theorem lu10 (w : World) : Below (lw10 w).heap.size (lw10 w) (lw11 w) := below_step (lb11 w) (lu11 w)
theorem lu9 (w : World) : Below (lw9 w).heap.size (lw9 w) (lw11 w) := below_step (lb10 w) (lu10 w)
theorem lu8 (w : World) : Below (lw8 w).heap.size (lw8 w) (lw11 w) := below_step (lb9 w) (lu9 w)
theorem lu7 (w : World) : Below (lw7 w).heap.size (lw7 w) (lw11 w) := below_step (lb8 w) (lu8 w)
theorem lu6 (w : World) : Below (lw6 w).heap.size (lw6 w) (lw11 w) := below_step (lb7 w) (lu7 w)
theorem lu5 (w : World) : Below (lw5 w).heap.size (lw5 w) (lw11 w) := below_step (lb6 w) (lu6 w)
theorem lu4 (w : World) : Below (lw4 w).heap.size (lw4 w) (lw11 w) := below_step (lb5 w) (lu5 w)
theorem lu3 (w : World) : Below (lw3 w).heap.size (lw3 w) (lw11 w) := below_step (lb4 w) (lu4 w)
theorem lu2 (w : World) : Below (lw2 w).heap.size (lw2 w) (lw11 w) := below_step (lb3 w) (lu3 w)
theorem lu1 (w : World) : Below (lw1 w).heap.size (lw1 w) (lw11 w) := below_step (lb2 w) (lu2 w)
theorem lu0 (w : World) : Below w.heap.size w (lw11 w) := below_step (lb1 w) (lu1 w)
theorem lk0 (w : World) : Blk (lw11 w) (w.heap.size) 48 #[.int .i64 0, .int .i64 12, .int .i64 4] := by
  have h : Blk (lw1 w) w.heap.size 48 #[.int .i64 0, .int .i64 12, .int .i64 4] := Blk.new _ _ _
  exact h.grow (lu1 w)
theorem lk1 (w : World) : Blk (lw11 w) (w.heap.size + 1) 48 #[.int .i64 0, .int .i64 (-1), .int .i64 4] := by
  have h : Blk (lw2 w) (lw1 w).heap.size 48 #[.int .i64 0, .int .i64 (-1), .int .i64 4] := Blk.new _ _ _
  rw [lz1 w] at h
  exact h.grow (lu2 w)
theorem lk2 (w : World) : Blk (lw11 w) (w.heap.size + 1 + 1) 48 #[.int .i64 0, .int .i64 4, .int .i64 (-1)] := by
  have h : Blk (lw3 w) (lw2 w).heap.size 48 #[.int .i64 0, .int .i64 4, .int .i64 (-1)] := Blk.new _ _ _
  rw [lz2 w] at h
  exact h.grow (lu3 w)
theorem lk3 (w : World) : Blk (lw11 w) (w.heap.size + 1 + 1 + 1) 48 #[.int .i64 0, .int .i64 0, .int .i64 4102] := by
  have h : Blk (lw4 w) (lw3 w).heap.size 48 #[.int .i64 0, .int .i64 0, .int .i64 4102] := Blk.new _ _ _
  rw [lz3 w] at h
  exact h.grow (lu4 w)
theorem lk4 (w : World) : Blk (lw11 w) (w.heap.size + 1 + 1 + 1 + 1) 48 #[.int .i64 0, .int .i64 0, .int .i64 65536] := by
  have h : Blk (lw5 w) (lw4 w).heap.size 48 #[.int .i64 0, .int .i64 0, .int .i64 65536] := Blk.new _ _ _
  rw [lz4 w] at h
  exact h.grow (lu5 w)
theorem lk5 (w : World) : Blk (lw11 w) (w.heap.size + 1 + 1 + 1 + 1 + 1) 48 #[.int .i64 0, .int .i64 0, .int .i64 4, .int .i64 0, .int .i64 4, .int .i64 4] := by
  have h : Blk (lw6 w) (lw5 w).heap.size 48 #[.int .i64 0, .int .i64 0, .int .i64 4, .int .i64 0, .int .i64 4, .int .i64 4] := Blk.new _ _ _
  rw [lz5 w] at h
  exact h.grow (lu6 w)
theorem lk6 (w : World) : Blk (lw11 w) (w.heap.size + 1 + 1 + 1 + 1 + 1 + 1) 48 #[.int .i64 0, .int .i64 8, .int .i64 4, .int .i64 0, .int .i64 0, .int .i64 4] := by
  have h : Blk (lw7 w) (lw6 w).heap.size 48 #[.int .i64 0, .int .i64 8, .int .i64 4, .int .i64 0, .int .i64 0, .int .i64 4] := Blk.new _ _ _
  rw [lz6 w] at h
  exact h.grow (lu7 w)
theorem lk7 (w : World) : Blk (lw11 w) (w.heap.size + 1 + 1 + 1 + 1 + 1 + 1 + 1) 48 #[.int .i64 0, .int .i64 9223372036854775807, .int .i64 4] := by
  have h : Blk (lw8 w) (lw7 w).heap.size 48 #[.int .i64 0, .int .i64 9223372036854775807, .int .i64 4] := Blk.new _ _ _
  rw [lz7 w] at h
  exact h.grow (lu8 w)
theorem lk8 (w : World) : Blk (lw11 w) (w.heap.size + 1 + 1 + 1 + 1 + 1 + 1 + 1 + 1) 48 #[.int .i64 0, .int .i64 (-9223372036854775808), .int .i64 4] := by
  have h : Blk (lw9 w) (lw8 w).heap.size 48 #[.int .i64 0, .int .i64 (-9223372036854775808), .int .i64 4] := Blk.new _ _ _
  rw [lz8 w] at h
  exact h.grow (lu9 w)
theorem lk9 (w : World) : Blk (lw11 w) (w.heap.size + 1 + 1 + 1 + 1 + 1 + 1 + 1 + 1 + 1) 48 #[.int .i64 0, .int .i64 4, .int .i64 (-9223372036854775808)] := by
  have h : Blk (lw10 w) (lw9 w).heap.size 48 #[.int .i64 0, .int .i64 4, .int .i64 (-9223372036854775808)] := Blk.new _ _ _
  rw [lz9 w] at h
  exact h.grow (lu10 w)
theorem lits (w : World) (i : Nat) (hi : i < 10) : ∃ L b, (lw11 w).cell? ⟨w.heap.size + 1 + 1 + 1 + 1 + 1 + 1 + 1 + 1 + 1 + 1, i, none⟩ = some (.slice (some ⟨b, 0, none⟩) (List.length (α := Si) L) L.length) ∧ Row3 (lw11 w) (some ⟨b, 0, none⟩) (L.map siV) ∧ L.length ≤ 1000 ∧ mayF 16 0 L = false := by
  have h : Blk (lw11 w) (lw10 w).heap.size 49 _ := Blk.new _ _ _
  rw [lz10 w] at h
  have hc : ∀ i, (lw11 w).cell? ⟨w.heap.size + 1 + 1 + 1 + 1 + 1 + 1 + 1 + 1 + 1 + 1, i, none⟩ = _ := fun i => h.cell i
  rcases (by omega : i = 0 ∨ i = 1 ∨ i = 2 ∨ i = 3 ∨ i = 4 ∨ i = 5 ∨ i = 6 ∨ i = 7 ∨ i = 8 ∨ i = 9) with rfl | rfl | rfl | rfl | rfl | rfl | rfl | rfl | rfl | rfl
  · exact ⟨[⟨0, 12, 4⟩], w.heap.size, (hc 0).trans rfl, blk_row (lk0 w) _ rfl, by decide, by decide⟩
  · exact ⟨[⟨0, (-1), 4⟩], w.heap.size + 1, (hc 1).trans rfl, blk_row (lk1 w) _ rfl, by decide, by decide⟩
  · exact ⟨[⟨0, 4, (-1)⟩], w.heap.size + 1 + 1, (hc 2).trans rfl, blk_row (lk2 w) _ rfl, by decide, by decide⟩
  · exact ⟨[⟨0, 0, 4102⟩], w.heap.size + 1 + 1 + 1, (hc 3).trans rfl, blk_row (lk3 w) _ rfl, by decide, by decide⟩
  · exact ⟨[⟨0, 0, 65536⟩], w.heap.size + 1 + 1 + 1 + 1, (hc 4).trans rfl, blk_row (lk4 w) _ rfl, by decide, by decide⟩
  · exact ⟨[⟨0, 0, 4⟩, ⟨0, 4, 4⟩], w.heap.size + 1 + 1 + 1 + 1 + 1, (hc 5).trans rfl, blk_row (lk5 w) _ rfl, by decide, by decide⟩
  · exact ⟨[⟨0, 8, 4⟩, ⟨0, 0, 4⟩], w.heap.size + 1 + 1 + 1 + 1 + 1 + 1, (hc 6).trans rfl, blk_row (lk6 w) _ rfl, by decide, by decide⟩
  · exact ⟨[⟨0, 9223372036854775807, 4⟩], w.heap.size + 1 + 1 + 1 + 1 + 1 + 1 + 1, (hc 7).trans rfl, blk_row (lk7 w) _ rfl, by decide, by decide⟩
  · exact ⟨[⟨0, (-9223372036854775808), 4⟩], w.heap.size + 1 + 1 + 1 + 1 + 1 + 1 + 1 + 1, (hc 8).trans rfl, blk_row (lk8 w) _ rfl, by decide, by decide⟩
  · exact ⟨[⟨0, 4, (-9223372036854775808)⟩], w.heap.size + 1 + 1 + 1 + 1 + 1 + 1 + 1 + 1 + 1, (hc 9).trans rfl, blk_row (lk9 w) _ rfl, by decide, by decide⟩
end Go.Proofs.Ytekggimgobeggaa
