/- Texts put together: RGa, QSink, QPick, PshB, RGb, RGd, Lent, ApartA. -/
import Derived.Test.YtfhjaabbfaamjaaGd
import Derived.Test.YtfhjaabbfaamjaaGf
import Derived.Test.YtfhjaabbfaamjaaGh
import Derived.Lib.Hide
import Derived.Test.YtfhjaabbfaamjaaGa
import Derived.OwnWalk
import Derived.Deep.DeepCutAuto
import Derived.Deep.CutBlock
import Derived.Test.YtfhjaabbfaamjaaCopy
import Derived.Deep.RegionHeld3

/- switchyardref10: what is left to read: some, number. -/
namespace Go.Proofs.Ytfhjaabbfaamjaa
open Go.RowKit

/-- what the reference has left to read -/
structure Ur (W : World) (g : Nat) (r : Rd) (p : Option Addr) (c : Nat) : Prop where
  blk : Blk W g 65 #[.slice p r.l.length c, .int .i64 r.e]
  row : Row W p r.l
  far : ∀ a, p = some a → a.block < g
  cap : r.l.length ≤ c
  mcap : c ≤ 9223372036854775807
  byt : Byt r.l
  nil : p = none → c = 0
theorem Ur.more {W W' : World} {g c : Nat} {r : Rd} {p : Option Addr} {row : Option Nat} (h : Ur W g r p c) (hg : W.grownBy W' row) (hr : ∀ k, row = some k → g < k) : Ur W' g r p c :=
  ⟨h.blk.kept hg (fun e => by have := hr g e.symm; omega), fun h0 => by
    obtain ⟨b, o, rfl, hc⟩ := h.row h0
    have : b < g := h.far _ rfl
    exact ⟨b, o, rfl, fun i hi => hg.cell (hc i hi) (fun e => by have := hr b e.symm; omega)⟩, h.far, h.cap, h.mcap, h.byt, h.nil⟩
theorem Ur.below {W W' : World} {g c : Nat} {r : Rd} {p : Option Addr} (h : Ur W g r p c) (hb : Below W.heap.size W W') : Ur W' g r p c :=
  ⟨h.blk.grow hb, h.row.below hb, h.far, h.cap, h.mcap, h.byt, h.nil⟩
set_option maxRecDepth 20000 in
set_option maxHeartbeats 1000000 in
theorem rsome_any (g n c : Nat) (r : Rd) (p : Option Addr) (w : World) (h : Ur w g r p c) (hn : n ≤ 9223372036854775807) :
    Calls Try.prog 38 #[.pointer (some ⟨g, 0, none⟩), .int .i64 n] w fun E w' => ∃ q d p' c', E = .returned (.slice q (partR n r).1.length d) ∧ Pt w' g (partR n r).1 q d ∧ Ur w' g (partR n r).2 p' c' ∧ w.grownBy w' (some g) ∧ (q = none → d = 0) := by
  have H := Hid.in h
  have c0 : w.cell? ⟨g, 0, none⟩ = some (.slice p r.l.length c) := h.blk.cell 0
  have c1 : w.cell? ⟨g, 1, none⟩ = some (.int .i64 r.e) := h.blk.cell 1
  have f0 := h.blk.free 0
  have f1 := h.blk.free 1
  have hcap := h.cap
  have hmc := h.mcap
  clear h
  obtain ⟨l, e⟩ := r
  dsimp only at *
  by_cases h0 : e = 0
  · subst h0
    by_cases hl : l.length < n
    · have HP : Hid (partR n ⟨l, 0⟩ = ([], ⟨l, 4⟩)) := by
        have : partR n ⟨l, 0⟩ = ([], ⟨l, 4⟩) := by unfold partR; rw [if_neg (by simp), if_pos hl]
        exact this
      rw [HP.out]
      have HN : Hid (Ur (w.setCell ⟨g, 1, none⟩ (.int .i64 4)) g ⟨l, 4⟩ p c) := by
        refine ⟨?_, ?_, H.out.far, H.out.cap, H.out.mcap, H.out.byt, H.out.nil⟩
        · have := H.out.blk.set 1 (.int .i64 4); simpa using this
        · exact Un.kept H.out.row H.out.far (grown_setCell _ _ _ _)
      have q1 : decide ((l.length : Int) < (n : Int)) = true := decide_eq_true (by omega)
      have HL := Hid.in hl
      clear hl
      generalize l.length = L at *
      go_enter Try.func38, Try.ntmps38
      go_wp2_with fail
      go_ret
      exact ⟨none, 0, p, c, rfl, ⟨fun h => absurd h (Nat.lt_irrefl 0), by simp, Nat.le_refl _, by omega, fun i => by simp⟩, HN.out, grown_setCell _ _ _ _, fun _ => rfl⟩
    · have HP : Hid (partR n ⟨l, 0⟩ = (l.take n, ⟨l.drop n, 0⟩)) := by
        have : partR n ⟨l, 0⟩ = (l.take n, ⟨l.drop n, 0⟩) := by unfold partR; rw [if_neg (by simp), if_neg hl]
        exact this
      rw [HP.out]
      obtain ⟨p', e1, e2, hrow, hn1, hn2⟩ := slice_from H.out.row rfl hcap (show n ≤ l.length by omega)
      have hi1 := fun W => slice_hi p l.length c n W (by omega)
      have hi2 := fun W => slice_hi' p l.length c n W (by omega)
      have hfar : ∀ a, p' = some a → a.block < g := hf3 H.out.far (show n ≤ l.length by omega) w e1
      have HN : Hid (Ur (w.setCell ⟨g, 0, none⟩ (.slice p' (l.length - n) (c - n))) g ⟨l.drop n, 0⟩ p' (c - n)) := by
        refine ⟨?_, ?_, hfar, by show (l.drop n).length ≤ c - n; rw [List.length_drop]; omega, by omega, byt_dropS H.out.byt n, fun e => by have := H.out.nil (hn2 e); omega⟩
        · have := H.out.blk.set 0 (.slice p' (l.length - n) (c - n)); simpa using this
        · exact Un.kept hrow hfar (grown_setCell _ _ _ _)
      have HT : Hid (Pt (w.setCell ⟨g, 0, none⟩ (.slice p' (l.length - n) (c - n))) g (l.take n) p c) :=
        ⟨Un.kept (H.out.row.take n) H.out.far (grown_setCell _ _ _ _), H.out.far, by rw [List.length_take]; omega, H.out.mcap, byt_takeS H.out.byt n⟩
      have HLT : Hid ((l.take n).length = n) := by
        have : (l.take n).length = n := by rw [List.length_take]; omega
        exact this
      have q1 : decide ((l.length : Int) < (n : Int)) = false := decide_eq_false (by omega)
      have HL := Hid.in hl
      clear hl hrow hn1 hn2
      generalize l.length = L at *
      go_enter Try.func38, Try.ntmps38
      go_wp2_with fail
      go_ret
      exact ⟨p, c, p', c - n, by rw [HLT.out]; rfl, HT.out, HN.out, grown_setCell _ _ _ _, H.out.nil⟩
  · have HP : Hid (partR n ⟨l, e⟩ = ([], ⟨l, e⟩)) := by
      have : partR n ⟨l, e⟩ = ([], ⟨l, e⟩) := by unfold partR; rw [if_pos h0]
      exact this
    rw [HP.out]
    have q1 : decide (e = 0) = false := decide_eq_false h0
    generalize l.length = L at *
    go_enter Try.func38, Try.ntmps38
    go_wp2_with fail
    go_ret
    exact ⟨none, 0, p, c, rfl, ⟨fun h => absurd h (Nat.lt_irrefl 0), by simp, Nat.le_refl _, by omega, fun i => by simp⟩, H.out, grown_same _ _, fun _ => rfl⟩


set_option maxRecDepth 20000 in
set_option maxHeartbeats 1000000 in
theorem rnum_any (g most c : Nat) (r : Rd) (p : Option Addr) (w : World) (h : Ur w g r p c) (hm : most ≤ 4294967295) :
    Calls Try.prog 39 #[.pointer (some ⟨g, 0, none⟩), .int .i64 most] w fun E w' => ∃ p' c', E = .returned (.int .i64 (numR most r).1) ∧ Ur w' g (numR most r).2 p' c' ∧ w.grownBy w' (some g) := by
  have hp : Calls Try.prog 38 #[.pointer (some ⟨g, 0, none⟩), .int .i64 4] w _ := rsome_any g 4 c r p w h (by omega)
  have HE : Hid (numR most r = if (partR 4 r).2.e ≠ 0 then (0, (partR 4 r).2) else if most < (n4 (partR 4 r).1 0).toNat then (0, ⟨(partR 4 r).2.l, 200⟩) else ((n4 (partR 4 r).1 0).toNat, (partR 4 r).2)) := by
    have : numR most r = if (partR 4 r).2.e ≠ 0 then (0, (partR 4 r).2) else if most < (n4 (partR 4 r).1 0).toNat then (0, ⟨(partR 4 r).2.l, 200⟩) else ((n4 (partR 4 r).1 0).toNat, (partR 4 r).2) := rfl
    exact this
  have HB := Hid.in (part_bad (n := 4) (r := r))
  have HG := Hid.in (part_good (n := 4) (r := r))
  have HBY := Hid.in (part_byt (n := 4) h.byt)
  clear h
  generalize partR 4 r = pr at *
  obtain ⟨xs, r2⟩ := pr
  dsimp only at hp HE HB HG HBY
  by_cases he : r2.e = 0
  · rw [if_neg (by simp [he])] at HE
    have hl : xs.length = 4 := HG.out he
    match xs, hl with
    | [x0, x1, x2, x3], _ =>
      have b0 := HBY.out 0
      have b1 := HBY.out 1
      have b2 := HBY.out 2
      have b3 := HBY.out 3
      simp only [List.getD_cons_zero, List.getD_cons_succ] at b0 b1 b2 b3
      obtain ⟨v, hv⟩ : ∃ v : Nat, x0 + 256 * x1 + 65536 * x2 + 16777216 * x3 = v := ⟨(x0 + 256 * x1 + 65536 * x2 + 16777216 * x3).toNat, by omega⟩
      have HV : Hid (n4 [x0, x1, x2, x3] 0 = v) := by
        show x0 + 256 * x1 + 65536 * x2 + 16777216 * x3 = v
        exact hv
      rw [HV.out, Int.toNat_natCast] at HE
      clear HBY HB HG
      have hvb : v ≤ 4294967295 := by omega
      have w0 : 65536 * x2 + 16777216 * x3 + 256 * x1 + x0 ≤ 4294967295 := by omega
      have HVV := Hid.in hv
      have HP := Hid.in hp
      clear hp
      have q0 : (r2.e != 0) = false := by simpa using he
      by_cases hmost : most < v
      · rw [if_pos hmost] at HE
        rw [HE.out]
        have q1 : decide ((most : Int) < (v : Int)) = true := decide_eq_true (by omega)
        go_enter Try.func39, Try.ntmps39
        go_wp2_with (go_at_call 38; refine Hid.out ?_)
        refine Lib.hid ?_
        refine HP.out.mono ?_
        rintro e w1 ⟨q, d, p1, c1, rfl, hq, hu, hg, -⟩
        obtain ⟨bb, bo, rfl, hcc⟩ := hq.row (by simp)
        have k0 : w1.cell? ⟨bb, bo, none⟩ = some (.int .u8 x0) := hcc 0 (by simp)
        have k1 : w1.cell? ⟨bb, bo + 1, none⟩ = some (.int .u8 x1) := hcc 1 (by simp)
        have k2 : w1.cell? ⟨bb, bo + 2, none⟩ = some (.int .u8 x2) := hcc 2 (by simp)
        have k3 : w1.cell? ⟨bb, bo + 3, none⟩ = some (.int .u8 x3) := hcc 3 (by simp)
        have e1 : w1.cell? ⟨g, 1, none⟩ = some (.int .i64 r2.e) := hu.blk.cell 1
        have f1 := hu.blk.free 1
        have HU := Hid.in hu
        have HGR := Hid.in hg
        clear hq hu hg hcc HP
        go_wp2_with fail
        go_quiet (fail)
        have HU2 : Hid (Ur (w1.drewN nq) g r2 p1 c1) := HU.out.below (below_draws (below_self w1) nq)
        have HG2 : Hid (w.grownBy (w1.drewN nq) (some g)) := grown_below HGR.out (below_draws (below_self w1) nq)
        clear k0 k1 k2 k3 e1 f1 HU HGR
        generalize w1.drewN nq = w2 at *
        have f1 := HU2.out.blk.free 1
        have e1 : w2.cell? ⟨g, 1, none⟩ = some (.int .i64 r2.e) := HU2.out.blk.cell 1
        go_wp2_with fail
        go_ret
        refine ⟨p1, c1, rfl, ⟨?_, Un.kept HU2.out.row HU2.out.far (grown_setCell _ _ _ _), HU2.out.far, HU2.out.cap, HU2.out.mcap, HU2.out.byt, HU2.out.nil⟩, ?_⟩
        · have := HU2.out.blk.set 1 (.int .i64 200); simpa using this
        · exact HG2.out.trans (grown_setCell _ _ _ _)
      · rw [if_neg hmost] at HE
        rw [HE.out]
        have q1 : decide ((most : Int) < (v : Int)) = false := decide_eq_false (by omega)
        go_enter Try.func39, Try.ntmps39
        go_wp2_with (go_at_call 38; refine Hid.out ?_)
        refine Lib.hid ?_
        refine HP.out.mono ?_
        rintro e w1 ⟨q, d, p1, c1, rfl, hq, hu, hg, -⟩
        obtain ⟨bb, bo, rfl, hcc⟩ := hq.row (by simp)
        have k0 : w1.cell? ⟨bb, bo, none⟩ = some (.int .u8 x0) := hcc 0 (by simp)
        have k1 : w1.cell? ⟨bb, bo + 1, none⟩ = some (.int .u8 x1) := hcc 1 (by simp)
        have k2 : w1.cell? ⟨bb, bo + 2, none⟩ = some (.int .u8 x2) := hcc 2 (by simp)
        have k3 : w1.cell? ⟨bb, bo + 3, none⟩ = some (.int .u8 x3) := hcc 3 (by simp)
        have e1 : w1.cell? ⟨g, 1, none⟩ = some (.int .i64 r2.e) := hu.blk.cell 1
        have f1 := hu.blk.free 1
        have HU := Hid.in hu
        have HGR := Hid.in hg
        clear hq hu hg hcc HP
        go_wp2_with fail
        go_quiet (fail)
        have HU2 : Hid (Ur (w1.drewN nq) g r2 p1 c1) := HU.out.below (below_draws (below_self w1) nq)
        have HG2 : Hid (w.grownBy (w1.drewN nq) (some g)) := grown_below HGR.out (below_draws (below_self w1) nq)
        clear k0 k1 k2 k3 e1 f1 HU HGR
        generalize w1.drewN nq = w2 at *
        go_wp2_with fail
        go_ret
        exact ⟨p1, c1, by go_num, HU2.out, HG2.out⟩
  · rw [if_pos he] at HE
    have hx : xs = [] := HB.out he
    subst hx
    rw [HE.out]
    have q0 : (r2.e != 0) = true := by simpa using he
    go_enter Try.func39, Try.ntmps39
    go_wp2_with (go_at_call 38; refine hp.mono ?_; rintro e w1 ⟨q, d, p1, c1, rfl, hq, hu, hg, -⟩; have HU := Hid.in hu; have HQ := Hid.in hq; have HGR := Hid.in hg; have k1 : w1.cell? ⟨g, 1, none⟩ = some (.int .i64 r2.e) := hu.blk.cell 1; clear hq hu hg hp)
    go_ret
    exact ⟨p1, c1, rfl, HU.out, HGR.out⟩
end Go.Proofs.Ytfhjaabbfaamjaa

/- A region that draws its order: operations that only read are taken first; behind those that wait for all of them nothing need be kept. -/
namespace Go.Proofs.Ytfhjaabbfaamjaa
open Go.RowKit Go.Sort

section
variable {P : Program} {ops : Array Oper} {md : Region.Mode} {S : World → Prop} {Q : Exit → Act → World → Prop} {ex : List Nat}
/-- whatever order is picked, and every operation but those of ex keeps S -/
def wpAnyG (P : Program) (md : Region.Mode) (ops : Array Oper) (Q : Exit → Act → World → Prop) (S : World → Prop) (ex : List Nat) : Nat → Array Bool → Act → World → Prop
  | 0, listed, a, w => Region.ready md ops listed = [] ∧ Q .normal a w
  | fuel + 1, listed, a, w =>
    (Region.ready md ops listed = [] → Q .normal a w) ∧
    ∀ i ∈ Region.ready md ops listed, wpOp P ops Q i (fun a' w' => (ex.contains i = false → S w → S w') ∧ wpAnyG P md ops Q S ex fuel (listed.setIfInBounds i true) a' w') a w
theorem wpAny_of_G : ∀ (fuel : Nat) (listed : Array Bool) (a : Act) (w : World), wpAnyG P md ops Q S ex fuel listed a w → wpAny P md ops Q fuel listed a w
  | 0, _, _, _, h => h
  | fuel + 1, _, _, _, h => ⟨h.1, fun i hi => wpOp_mono (fun a' w' h' => wpAny_of_G fuel _ a' w' h'.2) (h.2 i hi)⟩
/-- what has come up: with each operation those that it waits for -/
def Closed (md : Region.Mode) (ops : Array Oper) (listed : Array Bool) : Prop := ∀ j o, ops[j]? = some o → listed.getD j false = true → ∀ e ∈ o.after, Region.binds md e = true → listed.getD e.on false = true
theorem Closed.set {listed : Array Bool} {j : Nat} (h : Closed md ops listed) (hj : j ∈ Region.ready md ops listed) : Closed md ops (listed.setIfInBounds j true) := by
  intro k o ho hk e he hb
  obtain ⟨h0, oj, hoj, hall⟩ := mem_ready.1 hj
  by_cases hjk : j = k
  · subst hjk
    rw [hoj] at ho
    injection ho with ho
    subst ho
    exact getD_set_true (hall e he hb)
  · rw [getD_set_ne false hjk] at hk
    exact getD_set_true (h k o ho hk e he hb)
theorem Closed.start (m : Nat) : Closed md ops (Array.replicate m false) := fun j o _ hj => by
  have : (Array.replicate m false).getD j false = false := by
    simp only [Array.getD_eq_getD_getElem?, Array.getElem?_replicate]
    split <;> rfl
  rw [this] at hj
  cases hj
/-- operation n waits for i -/
def waits (md : Region.Mode) (ops : Array Oper) (i : Nat) : Nat → Nat → Bool
  | 0, _ => false
  | f + 1, n => match ops[n]? with
    | none => false
    | some o => o.after.toList.any fun e => Region.binds md e && (e.on == i || waits md ops i f e.on)
theorem waits_listed {listed : Array Bool} {i : Nat} (hc : Closed md ops listed) : ∀ (f n : Nat), waits md ops i f n = true → (∀ o, ops[n]? = some o → ∀ e ∈ o.after, Region.binds md e = true → listed.getD e.on false = true) → listed.getD i false = true
  | 0, _, h, _ => by simp [waits] at h
  | f + 1, n, h, hd => by
    unfold waits at h
    cases ho : ops[n]? with
    | none => rw [ho] at h; simp at h
    | some o =>
      rw [ho] at h
      simp only [List.any_eq_true, Bool.and_eq_true, Bool.or_eq_true, beq_iff_eq] at h
      obtain ⟨e, he', hb, h1 | h1⟩ := h
      all_goals have he : e ∈ o.after := by simpa using he'
      · rw [← h1]; exact hd o ho e he hb
      · exact waits_listed hc f e.on h1 (fun o' ho' => hc e.on o' ho' (hd o ho e he hb))
theorem waits_not {listed : Array Bool} {i n f : Nat} (hc : Closed md ops listed) (h : waits md ops i f n = true) (hn : n ∈ Region.ready md ops listed) (hi : i ∈ Region.ready md ops listed) : False := by
  obtain ⟨_, o, ho, hall⟩ := mem_ready.1 hn
  have h1 := waits_listed hc f n h (fun o' ho' => by rw [ho] at ho'; injection ho' with ho'; subst ho'; exact hall)
  have h2 := (mem_ready.1 hi).1
  rcases Nat.lt_or_ge i listed.size with h' | h'
  · simp [h'] at h1 h2; rw [h1] at h2; cases h2
  · simp [Array.getElem?_eq_none h'] at h1
theorem wpAnyG_first {T : World → Prop} {i : Nat} {oi : Oper} {v : Value} (hi : ops[i]? = some oi) (hsel : ∀ (j : Nat) (o : Oper) cs b, ops[j]? = some o → o.op ≠ .select cs b)
    (hQ : ∀ c a w, Q (.panic c) (a.put oi.dst v) w → Q (.panic c) a w)
    (hT : ∀ (listed : Array Bool) (j : Nat) (w w' : World), Closed md ops listed → j ∈ Region.ready md ops listed → i ∈ Region.ready md ops listed → T w → (ex.contains j = false → S w → S w') → T w') :
    ∀ (fuel : Nat) (listed : Array Bool) (a : Act) (w : World), Closed md ops listed →
      (∀ j oj, ops[j]? = some oj → j ≠ i → listed.getD j true = false → (∀ e ∈ oj.after, Region.binds md e = true → e.on ≠ i) → oi.apart ops oj = true) →
      i ∈ Region.ready md ops listed → YieldsIf P ops T oi v a → T w →
      wpAnyG P md ops Q S ex fuel (listed.setIfInBounds i true) (a.put oi.dst v) w → wpAnyG P md ops Q S ex (fuel + 1) listed a w := by
  intro fuel
  induction fuel with
  | zero =>
    intro listed a w hc _ hr hy hS H
    refine ⟨fun h => (by rw [h] at hr; cases hr), fun j hj => ?_⟩
    by_cases hji : j = i
    · subst hji; exact hy.wpOp hi hS ⟨fun _ h => h, H⟩
    · have := ready_mono hj hji
      rw [H.1] at this
      cases this
  | succ fuel ih =>
    intro listed a w hc hfree hr hy hS H
    refine ⟨fun h => (by rw [h] at hr; cases hr), fun j hj => ?_⟩
    by_cases hji : j = i
    · subst hji; exact hy.wpOp hi hS ⟨fun _ h => h, H⟩
    · have h1 := H.2 j (ready_mono hj hji)
      obtain ⟨hjun, oj, hoj, hall⟩ := mem_ready.1 hj
      have hnot : ∀ e ∈ oj.after, Region.binds md e = true → e.on ≠ i := fun e he hb heq => by
        have h1 := hall e he hb
        have h0 := (mem_ready.1 hr).1
        rw [heq] at h1
        rcases Nat.lt_or_ge i listed.size with h' | h'
        · simp [h'] at h0 h1; rw [h0] at h1; cases h1
        · simp [Array.getElem?_eq_none h'] at h1
      have h2 := wpOp_putIf hoj (hfree j oj hoj hji hjun hnot) (fun cs b => hsel i oi cs b hi) (fun cs b => hsel j oj cs b hoj) hQ hy h1
      have hfree' : ∀ k ok, ops[k]? = some ok → k ≠ i → (listed.setIfInBounds j true).getD k true = false →
          (∀ e ∈ ok.after, Region.binds md e = true → e.on ≠ i) → oi.apart ops ok = true := fun k ok hk hki hun hno => by
        refine hfree k ok hk hki ?_ hno
        by_cases hjk : j = k
        · subst hjk; exact hjun
        · rw [getD_set_ne true hjk] at hun; exact hun
      refine wpOp_mono (fun a' w' h3 => ⟨h3.2.1, ih (listed.setIfInBounds j true) a' w' (hc.set hj) hfree' (ready_mono hr (Ne.symm hji)) h3.1 (hT listed j w w' hc hj hr hS h3.2.1) ?_⟩) h2
      rw [Array.setIfInBounds_comm _ _ hji]
      exact h3.2.2
/-- the operations that are taken first, in the order of the list -/
def pickUp (md : Region.Mode) (ops : Array Oper) (ex : List Nat) : List Nat → Array Bool → Bool
  | [], _ => true
  | i :: is, listed => (Region.ready md ops listed).contains i && Region.free md ops listed i && (ex.all fun n => waits md ops i ops.size n) && pickUp md ops ex is (listed.setIfInBounds i true)
def picked : List Nat → Array Bool → Array Bool
  | [], listed => listed
  | i :: is, listed => picked is (listed.setIfInBounds i true)
theorem Closed.picked {ex : List Nat} : ∀ (is : List Nat) (listed : Array Bool), pickUp md ops ex is listed = true → Closed md ops listed → Closed md ops (picked is listed)
  | [], _, _, h => h
  | i :: is, listed, hB, h => by
    simp only [pickUp, Bool.and_eq_true] at hB
    exact Closed.picked is _ hB.2 (h.set (by simpa using hB.1.1.1))
theorem wpAnyG_pick (hs : Region.noSelect ops = true) (hQ : ∀ c a d v w, Q (.panic c) (Act.put a d v) w → Q (.panic c) a w) (m : Nat) :
    ∀ (is : List Nat) (l : List Oper) (listed : Array Bool) (a : Act) (w : World), is.length = l.length → (∀ j, j < l.length → l[j]? = (is[j]?).bind fun i => ops[i]?) → l.all plainOp = true → pickUp md ops ex is listed = true → Closed md ops listed → S w →
      wpQuiet P ops S (fun a' => ∀ w', S w' → wpAnyG P md ops Q S ex m (picked is listed) a' w') l a → wpAnyG P md ops Q S ex (l.length + m) listed a w
  | [], [], _, _, w, _, _, _, _, _, hC, h => by
    have := h w hC
    rw [List.length_nil, Nat.zero_add]
    exact this
  | [], _ :: _, _, _, _, hl, _, _, _, _, _, _ => by simp at hl
  | _ :: _, [], _, _, _, hl, _, _, _, _, _, _ => by simp at hl
  | i :: is, o :: l, listed, a, w, hlen, hl, hp, hB, hcl, hC, h => by
    have h0 : ops[i]? = some o := by simpa using (hl 0 (by simp)).symm
    simp only [pickUp, Bool.and_eq_true] at hB
    obtain ⟨⟨⟨hr, hf⟩, hw⟩, hB'⟩ := hB
    rw [List.all_cons, Bool.and_eq_true] at hp
    have hst : qOp P ops S i (wpQuiet P ops S (fun a' => ∀ w', S w' → wpAnyG P md ops Q S ex m (picked (i :: is) listed) a' w') l) a := by unfold qOp; simp only [h0]; exact h
    obtain ⟨v, hy, hK⟩ := yieldsIn_of_qOp h0 hst
    have hri : i ∈ Region.ready md ops listed := by simpa using hr
    rw [List.length_cons, show l.length + 1 + m = l.length + m + 1 by omega]
    refine wpAnyG_first (T := S) h0 (Region.noSelect_spec hs) (fun c a w => hQ c a _ _ w) (fun listed' j w0 w' hc hj hi' hS0 hx => ?_) (l.length + m) listed a w hcl (Region.free_spec h0 hf) hri (yieldsIf_of_plain hp.1 hy) hC
      (wpAnyG_pick hs hQ m is l _ _ w (by simpa using hlen) (fun j hj => by have := hl (j + 1) (by simpa using hj); simpa using this) hp.2 hB' (hcl.set hri) hC hK)
    cases hxj : ex.contains j with
    | false => exact hx hxj hS0
    | true =>
      have hm : j ∈ ex := by simpa using hxj
      exact (waits_not hc (List.all_eq_true.1 hw j hm) hj hi').elim
/-- **the first n operations only read, in the worlds in which of what was there nothing has turned; the rest in whatever order; behind those of ex nothing is kept** -/
theorem wp_region_sink (n : Nat) (ex : List Nat) (m : Nat) {id : Nat} {a : Act} {w : World} {l : List Oper} (hm : P.follows .mixedOrders = true) (hs : Region.noSelect l.toArray = true) (hn : (l.length == n + m) = true) (hp : (l.take n).all plainOp = true)
    (hB : pickUp .any l.toArray ex (List.range n) (Array.replicate l.length false) = true) (hQ : ∀ c a d v w, Q (.panic c) (Act.put a d v) w → Q (.panic c) a w)
    (h : wpQuiet P l.toArray (fun w' => ∃ p : Regrown, w' = grow (redrawn w p.d) p.os) (fun a' => ∀ w', (∃ p : Regrown, w' = grow (redrawn w p.d) p.os) → wpAnyG P .any l.toArray Q (fun w' => ∃ p : Regrown, w' = grow (redrawn w p.d) p.os) ex m (picked (List.range n) (Array.replicate l.length false)) a' w') (l.take n) a) :
    (Code.region id l.toArray true).wp P Q a w := by
  have hn' : l.length = n + m := by simpa using hn
  have hl : (l.take n).length = n := by rw [List.length_take]; omega
  have := wpAnyG_pick (P := P) (md := .any) (S := fun w' => ∃ p : Regrown, w' = grow (redrawn w p.d) p.os) (Q := Q) (ex := ex) hs hQ m (List.range n) (l.take n) (Array.replicate l.length false) a { w with drawn := w.drawn + 1 } (by rw [hl, List.length_range])
    (fun j hj => by rw [hl] at hj; simp [hj]) hp hB (Closed.start _) ⟨⟨w.drawn + 1, #[]⟩, by rw [grow_empty]; rfl⟩ h
  refine wp_region_any hm (wpAny_of_G (S := fun w' => ∃ p : Regrown, w' = grow (redrawn w p.d) p.os) (ex := ex) _ _ _ _ ?_)
  rw [hl, ← hn'] at this
  simpa using this
/-- one operation alone may come up -/
theorem wpAnyG_one {i : Nat} {o : Oper} {fuel : Nat} {listed : Array Bool} {a : Act} {w : World} (hr : Region.ready md ops listed = [i]) (ho : ops[i]? = some o)
    (h : ∀ K' : Act → World → Prop, Shut (∀ a w, S w → (S w → wpAnyG P md ops Q S ex fuel (listed.setIfInBounds i true) a w) → K' a w) → if Region.wanted o (yielded ops a.tmps) = true then Oper.wp P o a w K' Q else K' (a.put o.dst undef) w) :
    wpAnyG P md ops Q S ex (fuel + 1) listed a w := by
  refine ⟨fun h0 => absurd (hr ▸ h0) (by simp), fun j hj => ?_⟩
  rw [hr] at hj
  obtain rfl : j = i := by simpa using hj
  exact wpOp_step ho (fun K' hK => h K' (fun a w hS hW => hK a w ⟨fun _ _ => hS, hW hS⟩))
/-- .. and nothing is kept behind it -/
theorem wpAnyG_last {i : Nat} {o : Oper} {fuel : Nat} {listed : Array Bool} {a : Act} {w : World} (hr : Region.ready md ops listed = [i]) (ho : ops[i]? = some o) (hx : ex.contains i = true)
    (h : ∀ K' : Act → World → Prop, Shut (∀ a w, wpAnyG P md ops Q S ex fuel (listed.setIfInBounds i true) a w → K' a w) → if Region.wanted o (yielded ops a.tmps) = true then Oper.wp P o a w K' Q else K' (a.put o.dst undef) w) :
    wpAnyG P md ops Q S ex (fuel + 1) listed a w := by
  refine ⟨fun h0 => absurd (hr ▸ h0) (by simp), fun j hj => ?_⟩
  rw [hr] at hj
  obtain rfl : j = i := by simpa using hj
  exact wpOp_step ho (fun K' hK => h K' (fun a w hW => hK a w ⟨(fun e _ => by rw [hx] at e; cases e), hW⟩))
/-- an operation that no world turns is taken -/
theorem wpAnyG_takeW {i : Nat} {oi : Oper} {v : Value} {fuel : Nat} {listed : Array Bool} {a : Act} {w : World} (hi : ops[i]? = some oi) (hs : Region.noSelect ops = true) (hf : Region.free md ops listed i = true) (hr : (Region.ready md ops listed).contains i = true)
    (hQ : ∀ c a w, Q (.panic c) (a.put oi.dst v) w → Q (.panic c) a w) (hc : Closed md ops listed) (hw : Region.wanted oi (yielded ops a.tmps) = true) (hy : ∀ w, (execOp a.eval oi).run P w = .ok (.value v) w)
    (h : wpAnyG P md ops Q S ex fuel (listed.setIfInBounds i true) (a.put oi.dst v) w) : wpAnyG P md ops Q S ex (fuel + 1) listed a w :=
  wpAnyG_first (T := fun _ => True) hi (Region.noSelect_spec hs) hQ (fun _ _ _ _ _ _ _ _ _ => trivial) fuel listed a w hc (Region.free_spec hi hf) (by simpa using hr) (.inl ⟨hw, fun w _ => hy w⟩) trivial h
theorem wpAnyG_done {listed : Array Bool} {a : Act} {w : World} (hr : Region.ready md ops listed = []) (h : Q .normal a w) : ∀ fuel, wpAnyG P md ops Q S ex fuel listed a w
  | 0 => ⟨hr, h⟩
  | _ + 1 => ⟨fun _ => h, by rw [hr]; simp⟩
end

end Go.Proofs.Ytfhjaabbfaamjaa

/- A region that draws its order: operations that read what S says are picked first, wherever they stand; behind the operations of ex, which wait for all of these, nothing need be kept. -/
namespace Go.Proofs.Ytfhjaabbfaamjaa
open Go.RowKit Go.Sort

theorem wp_region_pick {P : Program} {Q : Exit → Act → World → Prop} (S : World → Prop) (is ex : List Nat) (m : Nat) (ps : List Oper) {id : Nat} {a : Act} {w : World} {l : List Oper} (hm : P.follows .mixedOrders = true) (hs : Region.noSelect l.toArray = true)
    (hn : (l.length == ps.length + m) = true) (hi : is.length = ps.length) (hps : ∀ j, j < ps.length → ps[j]? = (is[j]?).bind fun i => l.toArray[i]?) (hp : ps.all plainOp = true)
    (hB : pickUp .any l.toArray ex is (Array.replicate l.length false) = true) (hQ : ∀ c a d v w, Q (.panic c) (Act.put a d v) w → Q (.panic c) a w) (hS : S w.drew)
    (h : wpQuiet P l.toArray S (fun a' => ∀ w', S w' → wpAnyG P .any l.toArray Q S ex m (picked is (Array.replicate l.length false)) a' w') ps a) :
    (Code.region id l.toArray true).wp P Q a w := by
  have hn' : l.length = ps.length + m := by simpa using hn
  have := wpAnyG_pick (P := P) (md := .any) (S := S) (Q := Q) (ex := ex) hs hQ m is ps (Array.replicate l.length false) a w.drew hi hps hp hB (Closed.start _) hS h
  refine wp_region_any hm (wpAny_of_G (S := S) (ex := ex) _ _ _ _ ?_)
  rw [← hn'] at this
  simpa using this

/-- two operations may come up -/
theorem wpAnyG_two {P : Program} {md : Region.Mode} {ops : Array Oper} {Q : Exit → Act → World → Prop} {S : World → Prop} {ex : List Nat} {i j : Nat} {oi oj : Oper} {fuel : Nat} {listed : Array Bool} {a : Act} {w : World} (hr : Region.ready md ops listed = [i, j]) (hi : ops[i]? = some oi) (hj : ops[j]? = some oj)
    (h1 : ∀ K' : Act → World → Prop, Shut (∀ a w, S w → (S w → wpAnyG P md ops Q S ex fuel (listed.setIfInBounds i true) a w) → K' a w) → if Region.wanted oi (yielded ops a.tmps) = true then Oper.wp P oi a w K' Q else K' (a.put oi.dst undef) w)
    (h2 : ∀ K' : Act → World → Prop, Shut (∀ a w, S w → (S w → wpAnyG P md ops Q S ex fuel (listed.setIfInBounds j true) a w) → K' a w) → if Region.wanted oj (yielded ops a.tmps) = true then Oper.wp P oj a w K' Q else K' (a.put oj.dst undef) w) :
    wpAnyG P md ops Q S ex (fuel + 1) listed a w := by
  refine ⟨fun h0 => absurd (hr ▸ h0) (by simp), fun k hk => ?_⟩
  rw [hr] at hk
  simp only [List.mem_cons, List.not_mem_nil, or_false] at hk
  rcases hk with rfl | rfl
  · exact wpOp_step hi (fun K' hK => h1 K' (fun a w hS hW => hK a w ⟨fun _ _ => hS, hW hS⟩))
  · exact wpOp_step hj (fun K' hK => h2 K' (fun a w hS hW => hK a w ⟨fun _ _ => hS, hW hS⟩))

section
variable {P : Program} {ops : Array Oper} {md : Region.Mode} {S : World → Prop} {Q : Exit → Act → World → Prop} {ex : List Nat}
/-- an operation that reads what S says is taken, the world stays as it is -/
theorem wpAnyG_takeS {i : Nat} {oi : Oper} {v : Value} {fuel : Nat} {listed : Array Bool} {a : Act} {w : World} (hi : ops[i]? = some oi) (hs : Region.noSelect ops = true) (hf : Region.free md ops listed i = true) (hr : (Region.ready md ops listed).contains i = true) (hx : (ex.all fun n => waits md ops i ops.size n) = true)
    (hQ : ∀ c a d v w, Q (.panic c) (Act.put a d v) w → Q (.panic c) a w) (hc : Closed md ops listed) (hw : Region.wanted oi (yielded ops a.tmps) = true) (hS : S w) (hy : ∀ w, S w → (execOp a.eval oi).run P w = .ok (.value v) w)
    (h : wpAnyG P md ops Q S ex fuel (listed.setIfInBounds i true) (a.put oi.dst v) w) : wpAnyG P md ops Q S ex (fuel + 1) listed a w :=
  wpAnyG_first (T := S) hi (Region.noSelect_spec hs) (fun c a w => hQ c a oi.dst v w) (fun l j w w' hcl hj hir hT hk => hk (by
    cases e : ex.contains j
    · rfl
    · have hw' := List.all_eq_true.1 hx j (by simpa using e)
      exact (waits_not hcl hw' hj hir).elim) hT) fuel listed a w hc (Region.free_spec hi hf) (by simpa using hr) (.inl ⟨hw, hy⟩) hS h
theorem wp_region_G (S : World → Prop) (ex : List Nat) {id : Nat} {a : Act} {w : World} {l : List Oper} (hm : P.follows .mixedOrders = true) (h : wpAnyG P .any l.toArray Q S ex l.length (Array.replicate l.length false) a w.drew) : (Code.region id l.toArray true).wp P Q a w := by
  refine wp_region_any hm (wpAny_of_G (S := S) (ex := ex) _ _ _ _ ?_)
  simpa using h
end

end Go.Proofs.Ytfhjaabbfaamjaa

/- 'append(out, more...)' where what comes behind is as great as an argument may be. -/
namespace Go.Proofs.Ytfhjaabbfaamjaa
open Go.RowKit

/-- how far a slice grows: by a quarter at most -/
theorem nextcap_le {need old : Nat} (h : old < need) : Builtin.nextslicecap need old ≤ need + need / 4 + 1000 := by
  unfold Builtin.nextslicecap
  split
  · omega
  · split
    · omega
    · rw [growBy_four]
      repeat' split
      all_goals omega

theorem OwnV.lenOf {w : World} {B n c : Nat} {p : Option Addr} {xs : List Int} (h : OwnV w B (.slice p n c) xs) : xs.length = n := by
  rcases h.shape with ⟨e, rfl⟩ | ⟨g, cap, e, _⟩
  · injection e with _ e _; exact e.symm
  · injection e with _ e _; exact e.symm

theorem OwnV.cellsOf {w : World} {B n c g : Nat} {xs : List Int} (h : OwnV w B (.slice (some ⟨g, 0, none⟩) n c) xs) : ∀ j u, (byts xs)[j]? = some u → w.cell? ((⟨g, 0, none⟩ : Addr).add j) = some u := fun j u hj => by
  have hjl : j < xs.length := by
    rcases Nat.lt_or_ge j xs.length with h | h
    · exact h
    · rw [List.getElem?_eq_none (by simpa using h)] at hj; cases hj
  rw [getD_byts xs j hjl] at hj
  rcases h.shape with ⟨e, _⟩ | ⟨g', cap', e, hO⟩
  · cases e
  · injection e with e _ _; injection e with e; injection e with e _ _
    rw [← hj, Go.WideShapes.add_plain, e]
    simpa using hO.cell j hjl

theorem wp_push_big {ops : Array Oper} {rest : List Oper} {o : Oper} {a : Act} {Q : Exit → Act → World → Prop} (w : World) (hgd : o.guard = none) (s x : Operand)
    (ho : o.op = .call { callee := .builtin .append, args := #[s, x], argTypes := #[22, 22] }) (B g n cap : Nat) (xs : List Int) (hs : a.eval s = .slice (some ⟨g, 0, none⟩) n cap) (hown : OwnV w B (.slice (some ⟨g, 0, none⟩) n cap) xs)
    (ad : Addr) (m d : Nat) (ys : List Int) (hx : a.eval x = .slice (some ad) m d) (hl : ys.length = m) (hrow : Row w (some ad) ys) (hlen : n + m ≤ 140737489355328) (hB : B ≤ w.heap.size)
    (h : ∀ v' w', OwnV w' B v' (xs ++ ys) → w.grownBy w' (Value.slice (some ⟨g, 0, none⟩) n cap).ownBlock → wpList Try.prog ops Q rest (a.put o.dst v') w') :
    wpList Try.prog ops Q (o :: rest) a w := by
  obtain ⟨i0, hi, hz0, hz1, hz2⟩ := info_parts Try.info5
  have hn := hown.lenOf
  have hone : ∀ u ∈ byts ys, u.oneCell' = true := fun u hu => by
    simp only [byts, List.mem_map] at hu
    obtain ⟨z, _, rfl⟩ := hu
    rfl
  have hnews : ∀ j u, (byts ys)[j]? = some u → w.cell? (ad.add j) = some u := fun j u hj => by
    have hjl : j < ys.length := by
      rcases Nat.lt_or_ge j ys.length with h | h
      · exact h
      · rw [List.getElem?_eq_none (by simpa using h)] at hj; cases hj
    obtain ⟨b, off, e, hc⟩ := hrow (by omega)
    cases e
    rw [getD_byts ys j hjl] at hj
    rw [← hj, ← hc j hjl, Go.WideShapes.add_plain]
  by_cases hroom : n + m ≤ cap
  · subst hn
    refine wpList_append_fits w hgd s x 22 ho B 5 i0 1 Try.underlying22 hi hz1 g xs.length cap (byts xs) hs hown ad m d (byts ys) hx (by simp [hl]) hnews hone hroom fun w' h1 h2 => h _ w' ?_ h2
    unfold OwnV
    rw [List.length_append, hl]
    simpa [byts] using h1
  · have holds := hown.cellsOf
    have hc := nextcap_le (need := n + m) (old := cap) (by omega)
    have hr := run_append_grow (P := Try.prog) w 22 o.type 5 i0 (.int .u8 0) Try.underlying22 hi hz0 ⟨g, 0, none⟩ n cap (byts xs) (by rw [hz1]; simp [hn]) holds ad m d (byts ys) (by rw [hz1]; simp [hl]) hnews (by omega) (by omega) (by rw [hz2]; omega)
    have h1 := grownCap_ge w (n + m) cap 5
    have h2 := grownCap_le_maxLen w (n + m) cap 5 (by unfold maxLen; omega)
    refine wpList_plain hgd fun K hK => ?_
    unfold Oper.wp execOp
    simp only [ho, resolve, invoke, builtin, Sem.run_bind, Sem.run_pure, Result.andThen_ok, List.map_toArray, List.map_cons, List.map_nil, hs, hx, hr]
    refine hK _ _ (h _ _ ?_ ⟨rfl, rfl, rfl, by simp, fun k hk _ => (new_alloc w.drew _).block k hk⟩)
    have hl2 : (xs ++ ys).length = n + m := by rw [List.length_append, hn, hl]
    clear hr
    generalize grownCap w (n + m) cap 5 = G at *
    rw [← hl2]
    rw [← hl2] at h1
    refine (Own.mk (B := B) hB (heap_alloc_new w.drew _) h1 h2 ?_ ?_).val
    · simp only [Array.size_append, List.size_toArray, size_zeroCells, byts, List.length_map]
      rw [show (Value.int .u8 0).cells.size = 1 from rfl, Nat.mul_one, hl2, hn, hl]
      rw [hl2] at h1
      omega
    · simp only [Array.toList_append, List.append_assoc]
      rw [← List.append_assoc, show byts xs ++ byts ys = byts (xs ++ ys) by simp [byts]]
      exact List.take_left' (by simp [byts])

end Go.Proofs.Ytfhjaabbfaamjaa

/- switchyardref10.Get: where it stands; what each part leaves. -/
namespace Go.Proofs.Ytfhjaabbfaamjaa
open Go.RowKit

theorem Closed.step {md : Region.Mode} {ops : Array Oper} {listed : Array Bool} {j : Nat} (h : Closed md ops listed) (hr : (Region.ready md ops listed).contains j = true) : Closed md ops (listed.setIfInBounds j true) := h.set (by simpa using hr)
/-- a list of another kind of element stays -/
theorem own_typ {w w' : World} {B B' e e' s s' n n' : Nat} {v u : Value} {xs ys : List Value} (h : w.ownsRow B e s v n xs) (h' : w.ownsRow B' e' s' u n' ys) (hne : e ≠ e') (hg : w.grownBy w' u.ownBlock) : w'.ownsRow B e s v n xs := by
  refine ⟨h.1, h.2.imp id ?_⟩
  rintro ⟨a, cap, cur, e1, e2, e3, e4⟩
  refine ⟨a, cap, cur, e1, e2, (hg.block a (Array.getElem?_eq_some_iff.1 e3).1 (fun k => ?_)).trans e3, e4⟩
  rcases h'.2 with ⟨q1, -⟩ | ⟨b, cap', cur', q1, -, q3, -⟩
  · rw [q1] at k; cases k
  · rw [q1] at k
    have k' : some a = some b := k
    injection k' with k'
    subst k'
    rw [e3] at q3
    injection q3 with q3
    injection q3 with _ q3 _
    exact hne q3
theorem own_above {w : World} {B e s n : Nat} {v : Value} {xs : List Value} (h : w.ownsRow B e s v n xs) (k : Nat) (hk : v.ownBlock = some k) : B ≤ k := (World.ownsRow.lt h k hk).1

/-- where Get stands: what is left, the image in its variable -/
structure GT (w : World) (g M : Nat) (W : World) (r : Rd) (p : Option Addr) (c : Nat) (m : IM) (vb vk vs vu : Value) : Prop where
  un : Ur W g r p c
  res : Blk W w.heap.size 27 nil4
  loc : Blk W M 27 #[vb, vk, vs, vu]
  own : ImOwn W (M + 1) m vb vk vs vu
  bel : Below w.heap.size w W
  eg : w.heap.size < g
  lm : g < M
section
variable {w W W' : World} {g M : Nat} {r r' : Rd} {p p' : Option Addr} {c c' : Nat} {m : IM} {vb vk vs vu : Value}
theorem GT.room (h : GT w g M W r p c m vb vk vs vu) : M + 1 ≤ W.heap.size := h.loc.lt
theorem GT.call (h : GT w g M W r p c m vb vk vs vu) (hu : Ur W' g r' p' c') (hg : W.grownBy W' (some g)) : GT w g M W' r' p' c' m vb vk vs vu := by
  have e := h.eg
  have l := h.lm
  have hl := h.loc.lt
  exact ⟨hu, h.res.kept hg (by simp; omega), h.loc.kept hg (by simp; omega), ⟨own_kept h.own.b hg (by omega), own_kept h.own.k hg (by omega), own_kept h.own.s hg (by omega), own_kept h.own.u hg (by omega)⟩, h.bel.grown hg (by omega) (fun k hk => by injection hk; omega), e, l⟩
theorem GT.below (h : GT w g M W r p c m vb vk vs vu) (hb : Below W.heap.size W W') : GT w g M W' r p c m vb vk vs vu :=
  ⟨h.un.below hb, h.res.grow hb, h.loc.grow hb, h.own.below hb, below_step h.bel hb, h.eg, h.lm⟩
/-- what an append leaves but the lists -/
theorem GT.base (h : GT w g M W r p c m vb vk vs vu) {u : Value} (hg : W.grownBy W' u.ownBlock) (hu : ∀ k, u.ownBlock = some k → M + 1 ≤ k) : Ur W' g r p c ∧ Blk W' w.heap.size 27 nil4 ∧ Blk W' M 27 #[vb, vk, vs, vu] ∧ Below w.heap.size w W' := by
  have e := h.eg
  have l := h.lm
  have hl := h.loc.lt
  exact ⟨h.un.more hg (fun k hk => by have := hu k hk; omega), h.res.kept hg (fun x => by have := hu _ x.symm; omega), h.loc.kept hg (fun x => by have := hu _ x.symm; omega), h.bel.grown hg (by omega) (fun k hk => by have := hu k hk; omega)⟩
theorem GT.fin (h : GT w g M W r p c m vb vk vs vu) (i : Nat) {v : Value} {m' : IM} {vb' vk' vs' vu' : Value} (hb : Ur W' g r p c ∧ Blk W' w.heap.size 27 nil4 ∧ Blk W' M 27 #[vb, vk, vs, vu] ∧ Below w.heap.size w W') (hA : #[vb, vk, vs, vu].setIfInBounds i v = #[vb', vk', vs', vu']) (ho : ImOwn W' (M + 1) m' vb' vk' vs' vu') : GT w g M (W'.setCell ⟨M, i, none⟩ v) r p c m' vb' vk' vs' vu' := by
  have e := h.eg
  have l := h.lm
  have hs := hb.2.2.1.set i v
  rw [hA] at hs
  exact ⟨hb.1.more (grown_setCell _ _ _ _) (fun k hk => by injection hk; omega), hb.2.1.other (by omega) _ _, hs, ho.set (by omega) v, hb.2.2.2.setCell (show w.heap.size ≤ M by omega) _, e, l⟩
theorem GT.put0 (h : GT w g M W r p c m vb vk vs vu) {v : Value} {xs : List Int} (hg : W.grownBy W' vb.ownBlock) (hv : OwnV W' (M + 1) v xs) : GT w g M (W'.setCell ⟨M, 0, none⟩ v) r p c { m with bs := xs } v vk vs vu :=
  h.fin 0 (h.base hg (fun k hk => own_above h.own.b k hk)) rfl ⟨hv, own_typ h.own.k h.own.b (by decide) hg, own_typ h.own.s h.own.b (by decide) hg, own_typ h.own.u h.own.b (by decide) hg⟩
theorem GT.put1 (h : GT w g M W r p c m vb vk vs vu) {v : Value} {ks : List ByteArray} (hg : W.grownBy W' vk.ownBlock) (hv : GOwnV 9 W' (M + 1) v (strV ks)) : GT w g M (W'.setCell ⟨M, 1, none⟩ v) r p c { m with ks := ks } vb v vs vu :=
  h.fin 1 (h.base hg (fun k hk => own_above h.own.k k hk)) rfl ⟨own_typ h.own.b h.own.k (by decide) hg, hv, own_typ h.own.s h.own.k (by decide) hg, own_typ h.own.u h.own.k (by decide) hg⟩
theorem GT.put2 (h : GT w g M W r p c m vb vk vs vu) {v : Value} {ss : List Si} (hg : W.grownBy W' vs.ownBlock) (hv : TOwn 52 W' (M + 1) v (ss.map siV)) : GT w g M (W'.setCell ⟨M, 2, none⟩ v) r p c { m with si := ss } vb vk v vu :=
  h.fin 2 (h.base hg (fun k hk => own_above h.own.s k hk)) rfl ⟨own_typ h.own.b h.own.s (by decide) hg, own_typ h.own.k h.own.s (by decide) hg, hv, own_typ h.own.u h.own.s (by decide) hg⟩
theorem GT.put3 (h : GT w g M W r p c m vb vk vs vu) {v : Value} {us : List Int} (hg : W.grownBy W' vu.ownBlock) (hv : GOwnV 3 W' (M + 1) v (intV us)) : GT w g M (W'.setCell ⟨M, 3, none⟩ v) r p c { m with un := us } vb vk vs v :=
  h.fin 3 (h.base hg (fun k hk => own_above h.own.u k hk)) rfl ⟨own_typ h.own.b h.own.u (by decide) hg, own_typ h.own.k h.own.u (by decide) hg, own_typ h.own.s h.own.u (by decide) hg, hv⟩
theorem GT.start (hu : Ur W g r p c) (hr : Blk W w.heap.size 27 nil4) (hb : Below w.heap.size w W) (e : w.heap.size < g) : GT w g W.heap.size (W.alloc (.cells nil4 27)) r p c noIM (.slice none 0 0) (.slice none 0 0) (.slice none 0 0) (.slice none 0 0) :=
  ⟨hu.below (new_alloc _ _), hr.grow (new_alloc _ _), Blk.new _ _ _, ImOwn.nil _ _, below_alloc hb _, e, hu.blk.lt⟩
end

/-- append of elements of one cell, in a region that draws -/
theorem step_gpush {ops : Array Oper} {o : Oper} {a : Act} {K : Act → World → Prop} {Q : Exit → Act → World → Prop} {E : Prop} {t T : TypeId} {by_ : Nat} (he : Elem t T by_) (w : World) (hgd : o.guard = none) (s x : Operand)
    (ho : o.op = .call { callee := .builtin .append, args := #[s, x], argTypes := #[t, t] }) (B : Nat) (v : Value) (vs : List Value) (hs : a.eval s = v) (hown : GOwnV T w B v vs)
    (ad : Addr) (m c : Nat) (ns : List Value) (hx : a.eval x = .slice (some ad) m c) (hl : ns.length = m) (hm : 0 < m) (hnews : ∀ j u, ns[j]? = some u → w.cell? (ad.add j) = some u) (h1 : ∀ u ∈ ns, u.oneCell' = true)
    (hlen : vs.length + m ≤ 140737488355328) (hby : (vs.length + m) * by_ ≤ 140737488355328) (hB : B ≤ w.heap.size)
    (h : ∀ g cap w', GOwnV T w' B (.slice (some ⟨g, 0, none⟩) (vs.length + m) cap) (vs ++ ns) → w.grownBy w' v.ownBlock → K (a.put o.dst (.slice (some ⟨g, 0, none⟩) (vs.length + m) cap)) w') :
    if Region.wanted o (yielded ops a.tmps) = true then Oper.wp Try.prog o a w K Q else E := by
  obtain ⟨hu, z, hzc, hinfo⟩ := he
  obtain ⟨i0, hi, hz0, hz1, hz2⟩ := info_parts hinfo
  refine step_append_lies w hgd s x t ho B T i0 z 1 by_ hu hi hz0 hz1 hz2 hzc (by decide) v vs.length vs hs hown ad m c ns hx (by simp [hl]) hnews h1 hm (by unfold maxLen; omega) hby hB w.heap.size rfl ?_
  intro g cap w' h1 h2 _ _
  refine h g cap w' ?_ h2
  unfold GOwnV
  rw [List.length_append, hl]
  exact h1

/-- append of bytes, in a region that draws -/
theorem step_push_rowG {ops : Array Oper} {o : Oper} {a : Act} {K : Act → World → Prop} {Q : Exit → Act → World → Prop} {E : Prop} (w : World) (hgd : o.guard = none) (s x : Operand)
    (ho : o.op = .call { callee := .builtin .append, args := #[s, x], argTypes := #[22, 22] }) (B : Nat) (v : Value) (xs : List Int) (hs : a.eval s = v) (hown : OwnV w B v xs)
    (q : Option Addr) (m d : Nat) (ys : List Int) (hx : a.eval x = .slice q m d) (hl : ys.length = m) (hrow : Row w q ys) (hq : q = none → m = 0 ∧ d = 0)
    (hlen : xs.length + m ≤ 140737488355328) (hB : B ≤ w.heap.size)
    (h : ∀ v' w', OwnV w' B v' (xs ++ ys) → w.grownBy w' v.ownBlock → K (a.put o.dst v') w') :
    if Region.wanted o (yielded ops a.tmps) = true then Oper.wp Try.prog o a w K Q else E := by
  have hw : Region.wanted o (yielded ops a.tmps) = true := by simp [Region.wanted, hgd]
  rw [if_pos hw]
  obtain ⟨i0, hi, hz0, hz1, hz2⟩ := info_parts Try.info5
  cases q with
  | none =>
    obtain ⟨rfl, rfl⟩ := hq rfl
    obtain rfl : ys = [] := List.eq_nil_of_length_eq_zero hl
    have hrun := run_append_owned_none (P := Try.prog) (w := w) B 22 o.type 5 i0 1 Try.underlying22 hi v xs.length (byts xs) hown
    unfold Oper.wp
    simp [execOp, ho, resolve, invoke, builtin, hs, hx, hrun, Result.andThen]
    exact h v w (by rw [List.append_nil]; exact hown) (World.grownBy.refl w _)
  | some ad =>
    refine wp_append_own w s x 22 ho B 5 i0 (.int .u8 0) 1 1 Try.underlying22 hi hz0 hz1 hz2 rfl (by decide) v xs.length (byts xs) hs hown ad m d (byts ys) hx (by simp [hl]) (fun j u hj => ?_) (fun u hu => ?_) (by unfold maxLen; omega) (by omega) hB ?_
    · have hjl : j < ys.length := by
        rcases Nat.lt_or_ge j ys.length with h | h
        · exact h
        · rw [List.getElem?_eq_none (by simpa using h)] at hj; cases hj
      obtain ⟨b, off, e, hc⟩ := hrow (by omega)
      cases e
      rw [getD_byts ys j hjl] at hj
      rw [← hj, ← hc j hjl, Go.WideShapes.add_plain]
    · simp only [byts, List.mem_map] at hu
      obtain ⟨z, _, rfl⟩ := hu
      rfl
    · intro v' w' h1 h2 _
      refine h v' w' ?_ h2
      unfold OwnV
      rw [List.length_append, hl]
      simpa [byts] using h1

theorem Try.results15 : Try.f15.results = #[.cell 2 27, .tmp 3] := rfl
theorem res15 {tmps : Array Value} {W : World} {R : Nat} {v0 v1 v2 v3 : Value} {e : Int} (h : Blk W R 27 #[v0, v1, v2, v3]) (h2 : tmps.getD 2 undef = .pointer (some ⟨R, 0, none⟩)) (h3 : tmps.getD 3 undef = .int .i64 e) :
    (results Try.f15 tmps).run Try.prog W = .ok (.tuple #[.agg #[v0, v1, v2, v3], .int .i64 e]) W := by
  have hld := load_im h
  simp only [Array.getD_eq_getD_getElem?] at h2 h3
  simp [results, asAddr, hld, h2, h3]
end Go.Proofs.Ytfhjaabbfaamjaa

/- switchyardref10.Get answers P10.2. -/
namespace Go.Proofs.Ytfhjaabbfaamjaa
open Go.RowKit

/-- append(empty, b...): b in memory of its own -/
theorem wp_push_all {ops : Array Oper} {rest : List Oper} {o : Oper} {a : Act} {Q : Exit → Act → World → Prop} (w : World) (hgd : o.guard = none) (s x : Operand)
    (ho : o.op = .call { callee := .builtin .append, args := #[s, x], argTypes := #[22, 22] }) (B g : Nat) (hs : a.eval s = .slice (some ⟨g, 0, none⟩) 0 0) (hown : OwnV w B (.slice (some ⟨g, 0, none⟩) 0 0) [])
    (p : Option Addr) (m d : Nat) (ys : List Int) (hx : a.eval x = .slice p m d) (hl : ys.length = m) (hrow : Row w p ys) (hnil : p = none → m = 0 ∧ d = 0) (hlen : m ≤ 140737488351232) (hB : B ≤ w.heap.size)
    (h : ∀ v' w', Hid (OwnV w' B v' ys) → Hid (w.grownBy w' (some g)) → wpList Try.prog ops Q rest (a.put o.dst v') w') :
    wpList Try.prog ops Q (o :: rest) a w := by
  cases p with
  | none =>
    obtain ⟨rfl, rfl⟩ := hnil rfl
    obtain rfl : ys = [] := List.eq_nil_of_length_eq_zero hl
    obtain ⟨i0, hi, hz0, hz1, hz2⟩ := info_parts Try.info5
    exact wpList_append_own_none hgd s x 22 ho B 5 i0 1 Try.underlying22 hi _ 0 (byts []) hs hown hx (h _ w hown (World.grownBy.refl w _))
  | some ad =>
    exact wp_push_big w hgd s x ho B g 0 0 [] hs hown ad m d ys hx hl hrow (by omega) hB fun v' w' h1 h2 => h v' w' h1 h2

set_option maxRecDepth 20000 in
set_option maxHeartbeats 4000000 in
theorem rget_any (p : Option Addr) (n c : Nat) (bs : List Int) (w : World) (hn : bs.length = n) (hm : n ≤ 140737488351232) (hrow : Row w p bs) (hnil : p = none → n = 0 ∧ c = 0) (hbyt : Byt bs) :
    Calls Try.prog 15 #[.slice p n c] w fun E w' => ∃ vb vk vs vu, E = .returned (.tuple #[.agg #[vb, vk, vs, vu], .int .i64 (getL bs).2]) ∧ ImOwn w' w.heap.size (getL bs).1 vb vk vs vu ∧ Below w.heap.size w w' := by
  have HRW := Hid.in hrow
  have HNL := Hid.in hnil
  have HN := Hid.in hn
  have HBT := Hid.in hbyt
  clear hrow hnil hn hbyt
  go_enter Try.func15, Try.ntmps15
  go_upto_region 1 with fail
  go_cut [4] (fun v4 wx => ∃ (g : Nat) (p' : Option Addr) (c' : Nat), v4 = .pointer (some ⟨g, 0, none⟩) ∧ Ur wx g ⟨bs, 0⟩ p' c' ∧ Blk wx w.heap.size 27 nil4 ∧ Below w.heap.size w wx ∧ w.heap.size < g)
  case first =>
    have HK1 := Hid.in ((Blk.new w 27 nil4).grow (new_alloc _ (.cells #[] 5)))
    have HB1 := Hid.in (below_alloc (new_alloc w (.cells nil4 27)) (.cells #[] 5))
    have HO1 : Hid (OwnV ((w.alloc (.cells nil4 27)).alloc (.cells #[] 5)) (w.heap.size + 1) (.slice (some ⟨w.heap.size + 1, 0, none⟩) 0 0) []) := by
      have := (Own.lit (w.alloc (.cells nil4 27)) [] (by simp))
      rw [size_one] at this
      exact this.val
    go_wp2_with (at_builtin; refine Hid.out ?_)
    refine Lib.hid ?_
    refine wp_push_all _ rfl _ _ rfl (w.heap.size + 1) (w.heap.size + 1) rfl HO1.out p n c bs rfl HN.out (HRW.out.below HB1.out) HNL.out hm (by simp) ?_
    intro v w2 HO2 HG2
    obtain ⟨pv, cv, rfl, hrv, hcv, hmv⟩ := HO2.out.sliceC
    have HVN : Hid (pv = none → cv = 0) := fun e => by
      rcases HO2.out.shape with ⟨e1, -⟩ | ⟨g, cap, e1, -⟩
      · injection e1
      · injection e1 with e1
        rw [e] at e1; cases e1
    have HVF : Hid (∀ a, pv = some a → a.block < w2.heap.size) := fun a e => by
      rcases HO2.out.shape with ⟨e1, -⟩ | ⟨g, cap, e1, ho⟩
      · injection e1 with e1
        rw [e] at e1; cases e1
      · injection e1 with e1
        rw [e] at e1
        injection e1 with e1
        rw [e1]; exact ho.lt
    have HRV := Hid.in hrv
    have HCV := Hid.in (And.intro hcv hmv)
    have HK2 := Hid.in (HK1.out.kept HG2.out (fun e => by injection e with e; omega))
    have HB2 := Hid.in (HB1.out.grown HG2.out HB1.out.size (fun k hk => by injection hk with hk; omega))
    have HLT := Hid.in HK2.out.lt
    clear hrv hcv hmv HK1 HB1 HO1 HO2 HG2
    go_wp2_with fail
    go_meet
    case rel => exact ⟨w2.heap.size, pv, cv, rfl, ⟨Blk.new _ _ _, HRV.out.below (new_alloc _ _), HVF.out, HCV.out.1, HCV.out.2, HBT.out, HVN.out⟩, HK2.out.grow (new_alloc _ _), below_alloc HB2.out _, HLT.out⟩
  case rest =>
    obtain ⟨g, p1, c1, rfl, hu, hr, hb, hg⟩ := hcut
    clear HRW HNL
    have HU := Hid.in hu
    have HR := Hid.in hr
    have HB := Hid.in hb
    clear hu hr hb
    go_upto_region 2 with fail
    go_cut [26] (fun v26 wx => v26 = .bool (decide ((partR 4 ⟨bs, 0⟩).2.e = 0 ∧ (partR 4 ⟨bs, 0⟩).1 ≠ swy)) ∧ (∃ p' c', Ur wx g (partR 4 ⟨bs, 0⟩).2 p' c') ∧ Blk wx w.heap.size 27 nil4 ∧ Below w.heap.size w wx)
    case first =>
      have hp := rsome_any g 4 c1 ⟨bs, 0⟩ p1 wc HU.out (by omega)
      have HBAD := Hid.in (part_bad (n := 4) (r := ⟨bs, 0⟩))
      generalize partR 4 ⟨bs, 0⟩ = pr at *
      obtain ⟨xs, r2⟩ := pr
      dsimp only at hp HBAD
      by_cases he : r2.e = 0
      · by_cases hx : xs = swy
        · have HDC : Hid (decide (r2.e = 0 ∧ xs ≠ swy) = false) := decide_eq_false (fun h => h.2 hx)
          subst hx
          go_wp2_with (go_at_call 38; refine Hid.out ?_)
          refine Lib.hid ?_
          refine hp.mono ?_
          rintro e w3 ⟨q, d, p2, c2, rfl, hq, hu, hgr, -⟩
          have hcv := hq.row.convert rfl d
          rw [swy_text] at hcv
          have HU3 := Hid.in hu
          have HR3 := Hid.in (HR.out.kept hgr (fun e => by injection e with e; omega))
          have HB3 := Hid.in (HB.out.grown hgr HB.out.size (fun k hk => by injection hk with hk; omega))
          clear hq hu hgr hp
          go_wp2_with fail
          go_meet
          case rel => exact ⟨by rw [HDC.out], ⟨p2, c2, HU3.out⟩, HR3.out, HB3.out⟩
        · have HDC : Hid (decide (r2.e = 0 ∧ xs ≠ swy) = true) := decide_eq_true ⟨he, hx⟩
          go_wp2_with (go_at_call 38; refine Hid.out ?_)
          refine Lib.hid ?_
          refine hp.mono ?_
          rintro e w3 ⟨q, d, p2, c2, rfl, hq, hu, hgr, -⟩
          have hcv := hq.row.convert rfl d
          have hns := not_swy hq.byt hx
          have HU3 := Hid.in hu
          have k1 : w3.cell? ⟨g, 1, none⟩ = some (.int .i64 0) := by have := hu.blk.cell 1; rw [he] at this; exact this
          have HR3 := Hid.in (HR.out.kept hgr (fun e => by injection e with e; omega))
          have HB3 := Hid.in (HB.out.grown hgr HB.out.size (fun k hk => by injection hk with hk; omega))
          clear hq hu hgr hp
          go_wp2_with fail
          go_meet
          case rel => exact ⟨by rw [HDC.out], ⟨p2, c2, HU3.out⟩, HR3.out, HB3.out⟩
      · have HDC : Hid (decide (r2.e = 0 ∧ xs ≠ swy) = false) := decide_eq_false (fun h => he h.1)
        have hx : xs = [] := HBAD.out he
        subst hx
        have q1 : decide (r2.e = 0) = false := decide_eq_false he
        have q2 : (r2.e == 0) = false := beq_eq_false_iff_ne.2 he
        go_wp2_with (go_at_call 38; refine Hid.out ?_)
        refine Lib.hid ?_
        refine hp.mono ?_
        rintro e w3 ⟨q, d, p2, c2, rfl, hq, hu, hgr, -⟩
        have hcv := convert_zero w3 q d
        have HU3 := Hid.in hu
        have k1 : w3.cell? ⟨g, 1, none⟩ = some (.int .i64 r2.e) := hu.blk.cell 1
        have HR3 := Hid.in (HR.out.kept hgr (fun e => by injection e with e; omega))
        have HB3 := Hid.in (HB.out.grown hgr HB.out.size (fun k hk => by injection hk with hk; omega))
        clear hq hu hgr hp
        go_wp2_with fail
        go_meet
        case rel => exact ⟨by rw [HDC.out], ⟨p2, c2, HU3.out⟩, HR3.out, HB3.out⟩
    case rest =>
      obtain ⟨rfl, ⟨p2, c2, hu⟩, hr, hb⟩ := hcut
      clear HU HR HB
      have HU := Hid.in hu
      have HR := Hid.in hr
      have HB := Hid.in hb
      clear hu hr hb
      have HE : Hid (startR ⟨bs, 0⟩ = if (partR 4 ⟨bs, 0⟩).2.e = 0 ∧ (partR 4 ⟨bs, 0⟩).1 ≠ swy then ⟨(partR 4 ⟨bs, 0⟩).2.l, 200⟩ else (partR 4 ⟨bs, 0⟩).2) := by
        have : startR ⟨bs, 0⟩ = if (partR 4 ⟨bs, 0⟩).2.e = 0 ∧ (partR 4 ⟨bs, 0⟩).1 ≠ swy then ⟨(partR 4 ⟨bs, 0⟩).2.l, 200⟩ else (partR 4 ⟨bs, 0⟩).2 := rfl
        exact this
      generalize partR 4 ⟨bs, 0⟩ = pr at *
      obtain ⟨xs, r2⟩ := pr
      dsimp only at HU HE ⊢
      obtain ⟨tt, htt⟩ : ∃ tt, decide (r2.e = 0 ∧ xs ≠ swy) = tt := ⟨_, rfl⟩
      rw [htt]
      have HTT := Hid.in htt
      clear htt
      go_upto_if 26 with fail
      go_cut [4] (fun v4 wx => v4 = .pointer (some ⟨g, 0, none⟩) ∧ (∃ p' c', Ur wx g (startR ⟨bs, 0⟩) p' c') ∧ Blk wx w.heap.size 27 nil4 ∧ Below w.heap.size w wx)
      case first =>
        cases tt
        · have hno : ¬ (r2.e = 0 ∧ xs ≠ swy) := of_decide_eq_false HTT.out
          rw [if_neg hno] at HE
          clear hno
          go_wp2_with fail
          go_meet
          case rel => exact ⟨rfl, ⟨p2, c2, by rw [HE.out]; exact HU.out⟩, HR.out, HB.out⟩
        · have hyes : r2.e = 0 ∧ xs ≠ swy := of_decide_eq_true HTT.out
          rw [if_pos hyes] at HE
          have k1 : wc.cell? ⟨g, 1, none⟩ = some (.int .i64 r2.e) := HU.out.blk.cell 1
          have f1 := HU.out.blk.free 1
          have HR3 := Hid.in (HR.out.kept (grown_setCell _ g 1 (.int .i64 200)) (fun e => by injection e with e; omega))
          have HB3 := Hid.in (HB.out.setCell (p := ⟨g, 1, none⟩) (show w.heap.size ≤ g by omega) (.int .i64 200))
          have HU4 : Hid (Ur (wc.setCell ⟨g, 1, none⟩ (.int .i64 200)) g ⟨r2.l, 200⟩ p2 c2) := by
            refine ⟨?_, Un.kept HU.out.row HU.out.far (grown_setCell _ _ _ _), HU.out.far, HU.out.cap, HU.out.mcap, HU.out.byt, HU.out.nil⟩
            have := HU.out.blk.set 1 (.int .i64 200)
            simpa using this
          clear hyes
          go_wp2_with fail
          go_meet
          case rel => exact ⟨rfl, ⟨p2, c2, by rw [HE.out]; exact HU4.out⟩, HR3.out, HB3.out⟩
      case rest =>
        obtain ⟨rfl, ⟨p2, c2, hu⟩, hr, hb⟩ := hcut
        clear HU HR HB HE HTT
        have HS1 := Hid.in (GT.start hu hr hb hg)
        have HGM := Hid.in hu.blk.lt
        clear hu hr hb
        have HRD : Hid (∀ a, memR (startR ⟨bs, 0⟩) = a → ∀ b, listR keyR 64 a.2 = b → ∀ x, listR siteR 256 b.2 = x → ∀ d, listR unitR 16 x.2 = d → readI ⟨bs, 0⟩ = (⟨a.1, b.1, x.1, d.1⟩, d.2)) := by
          rintro _ rfl _ rfl _ rfl _ rfl; rfl
        have HM1 : Hid (memR (startR ⟨bs, 0⟩) = partR (numR 65536 (startR ⟨bs, 0⟩)).1 (numR 65536 (startR ⟨bs, 0⟩)).2) := by
          have : memR (startR ⟨bs, 0⟩) = partR (numR 65536 (startR ⟨bs, 0⟩)).1 (numR 65536 (startR ⟨bs, 0⟩)).2 := rfl
          exact this
        go_upto_region 5 with fail
        generalize wc.alloc (.cells nil4 27) = w3 at *
        generalize hMM : wc.heap.size = M at *
        clear hMM
        have hnum := fun W P C (h : Ur W g (startR ⟨bs, 0⟩) P C) => rnum_any g 65536 C (startR ⟨bs, 0⟩) P W h (by omega)
        have hnle := num_le 65536 (startR ⟨bs, 0⟩)
        generalize numR 65536 (startR ⟨bs, 0⟩) = nr at *
        obtain ⟨nn, rr⟩ := nr
        dsimp only at HM1 hnum hnle
        have hsome := fun W P C (h : Ur W g rr P C) => rsome_any g nn C rr P W h (by omega)
        rw [← HM1.out] at hsome
        have HML : Hid ((memR (startR ⟨bs, 0⟩)).1.length ≤ 65536) := by
          have : (memR (startR ⟨bs, 0⟩)).1.length ≤ 65536 := by rw [HM1.out]; exact Nat.le_trans (part_le nn rr) hnle
          exact this
        generalize ha : memR (startR ⟨bs, 0⟩) = a at *
        replace HRD := Hid.in (HRD.out a rfl)
        obtain ⟨ab, ar⟩ := a
        dsimp only at HRD HML hsome
        clear ha HM1
        go_cut [5] (fun v5 wx => v5 = .pointer (some ⟨M, 0, none⟩) ∧ Byt ab ∧ ∃ p' c' vb, GT w g M wx ar p' c' ⟨ab, [], [], []⟩ vb (.slice none 0 0) (.slice none 0 0) (.slice none 0 0))
        case first =>
          refine wp_region_noPanic ?_
          refine wp_region_G (fun W => Blk W M 27 nil4) [8] (by kernel_rfl) ?_
          have HW1 : Hid (Blk w3.drew M 27 nil4) := HS1.out.loc
          refine wpAnyG_takeW (i := 0) (v := .pointer (some ⟨M, 0, none⟩)) rfl (by kernel_rfl) (by kernel_rfl) (by kernel_rfl) (fun _ _ _ h => h) (Closed.start _) (by kernel_rfl) (fun W => by go_simp) ?_
          refine wpAnyG_takeS (i := 1) (v := .slice none 0 0) rfl (by kernel_rfl) (by kernel_rfl) (by kernel_rfl) (by kernel_rfl) (fun _ _ _ _ _ h => h) ((Closed.start _).step (j := 0) (by kernel_rfl)) (by kernel_rfl) HW1.out (fun W hW => by
            have hcc : W.cell? ⟨M, 0, none⟩ = some (.slice none 0 0) := hW.cell 0
            clear hW
            go_simp) ?_
          refine wpAnyG_takeW (i := 2) (v := .pointer (some ⟨g, 0, none⟩)) rfl (by kernel_rfl) (by kernel_rfl) (by kernel_rfl) (fun _ _ _ h => h) (((Closed.start _).step (j := 0) (by kernel_rfl)).step (j := 1) (by kernel_rfl)) (by kernel_rfl) (fun W => by go_simp) ?_
          refine wpAnyG_takeW (i := 3) (v := .pointer (some ⟨g, 0, none⟩)) rfl (by kernel_rfl) (by kernel_rfl) (by kernel_rfl) (fun _ _ _ h => h) ((((Closed.start _).step (j := 0) (by kernel_rfl)).step (j := 1) (by kernel_rfl)).step (j := 2) (by kernel_rfl)) (by kernel_rfl) (fun W => by go_simp) ?_
          refine wpAnyG_one (i := 4) (by kernel_rfl) rfl (fun K hK => ?_)
          go_simp
          go_at_call 39
          have HS2 : Hid (GT w g M w3.drew (startR ⟨bs, 0⟩) p2 c2 noIM (.slice none 0 0) (.slice none 0 0) (.slice none 0 0) (.slice none 0 0)) := HS1.out.below (below_draws (below_self _) 1)
          refine (hnum _ _ _ HS2.out.un).mono ?_
          rintro e_ w4 ⟨p3, c3, rfl, hu3, hg3⟩
          have HS3 := Hid.in (HS2.out.call hu3 hg3)
          refine hK.out _ _ HS3.out.loc (fun _ => ?_)
          clear hK K hu3 hg3 HS2 HS1 HW1
          refine wpAnyG_one (i := 5) (by kernel_rfl) rfl (fun K hK => ?_)
          go_simp
          go_at_call 38
          refine (hsome _ _ _ HS3.out.un).mono ?_
          rintro e_ w5 ⟨q, d, p4, c4, rfl, hq, hu4, hg4, hqn⟩
          have HS4 := Hid.in (HS3.out.call hu4 hg4)
          have HQ := Hid.in hq
          have HQN : Hid (q = none → ab.length = 0 ∧ d = 0) := fun e => ⟨by have h1 := hq.cap; have h2 := hqn e; omega, hqn e⟩
          refine hK.out _ _ HS4.out.loc (fun _ => ?_)
          clear hK K hu4 hg4 HS3 hq hqn
          refine wpAnyG_one (i := 6) (by kernel_rfl) rfl (fun K hK => ?_)
          have hml := HML.out
          refine step_push_rowG w5 (by rfl) _ _ (by rfl) (M + 1) (.slice none 0 0) [] (by rfl) HS4.out.own.b q ab.length d ab (by rfl) rfl HQ.out.row HQN.out (by simp; omega) HS4.out.room ?_
          intro v6 w6 ho6 hg6
          have HP6 := Hid.in (HS4.out.put0 hg6 ho6)
          have HL6 : Hid (Blk w6 M 27 nil4) := (HS4.out.base hg6 (fun k hk => own_above HS4.out.own.b k hk)).2.2.1
          obtain ⟨p6, n6, c6, rfl, -⟩ := ho6.sl
          refine hK.out _ _ HL6.out (fun _ => ?_)
          clear hK K ho6 hg6
          refine wpAnyG_one (i := 7) (by kernel_rfl) rfl (fun K hK => ?_)
          go_simp
          refine hK.out _ _ HL6.out (fun _ => ?_)
          clear hK K
          have d0 : w6.cell? ⟨M, 0, none⟩ = some (.slice none 0 0) := HL6.out.cell 0
          have f0 := HL6.out.free 0
          refine wpAnyG_last (i := 8) (by kernel_rfl) rfl rfl (fun K hK => ?_)
          go_simp
          refine hK.out _ _ ?_
          clear hK K d0 f0 HL6
          have HBA := Hid.in HQ.out.byt
          refine wpAnyG_done (by kernel_rfl) ?_ _
          refine NoPanic.normal ?_
          generalize w6.setCell ⟨M, 0, none⟩ (.slice p6 n6 c6) = w7 at *
          go_wp2_with fail
          go_meet
          case rel => exact ⟨rfl, HBA.out, p4, c4, _, HP6.out⟩
        case rest =>
          obtain ⟨rfl, hba, p3, c3, vb, hs⟩ := hcut
          have HBA := Hid.in hba
          have HS := Hid.in hs
          clear hba hs HS1 hnum hsome
          obtain ⟨pb, nb, cb, rfl, hnb⟩ := HS.out.own.b.sl
          have HNB := Hid.in hnb
          clear hnb
          have HKL := Hid.in (keys_le ar)
          have HKN := Hid.in (list_len keyR 64 ar)
          have hnle := num_le 64 ar
          have HLE : Hid (listR keyR 64 ar = manyR keyR (numR 64 ar).1 (numR 64 ar).2) := by
            have : listR keyR 64 ar = manyR keyR (numR 64 ar).1 (numR 64 ar).2 := rfl
            exact this
          go_wp2_with (go_at_call 39; refine Hid.out ?_)
          refine Lib.hid ?_
          refine (rnum_any g 64 c3 ar p3 wc HS.out.un (by omega)).mono ?_
          rintro e_ w4 ⟨p4, c4, rfl, hu4, hg4⟩
          have HS4 := Hid.in (HS.out.call hu4 hg4)
          clear hu4 hg4 HS
          generalize numR 64 ar = nr at *
          obtain ⟨NK, r0⟩ := nr
          dsimp only at HLE hnle HS4 ⊢
          go_wp2_with fail
          go_loopw [6] (fun vn wr => ∃ (k : Nat) (p' : Option Addr) (c' : Nat) (vk : Value), vn = .int .i64 ((NK : Int) - k) ∧ k ≤ NK ∧ GT w g M wr (manyR keyR k r0).2 p' c' ⟨ab, (manyR keyR k r0).1.map strOfNums, [], []⟩ (.slice pb nb cb) vk (.slice none 0 0) (.slice none 0 0)) (fun vn _ => (intOf vn).toNat)
          case atStart => exact ⟨0, p4, c4, _, by go_num, Nat.zero_le _, HS4.out⟩
          case round =>
            obtain ⟨k, p5, c5, vk, rfl, hk, hs⟩ := hrel
            clear HS4
            have HS5 := Hid.in hs
            clear hs
            obtain ⟨pk, nk, ck, rfl, hnk⟩ := HS5.out.own.k.sl
            have HNK := Hid.in hnk
            clear hnk
            by_cases hkn : k < NK
            · have hdk : decide ((0 : Int) < (NK : Int) - k) = true := decide_eq_true (by omega)
              have HSN := Hid.in (many_snoc keyR k r0)
              have HML2 : Hid ((manyR keyR k r0).1.length = k) := many_len ..
              generalize manyR keyR k r0 = mr at *
              obtain ⟨ks, rk⟩ := mr
              dsimp only at HSN HS5 HNK HML2
              have HKE : Hid (keyR rk = partR (numR 16 rk).1 (numR 16 rk).2) := by
                have : keyR rk = partR (numR 16 rk).1 (numR 16 rk).2 := rfl
                exact this
              have hnum := fun W P C (h : Ur W g rk P C) => rnum_any g 16 C rk P W h (by omega)
              have hn16 := num_le 16 rk
              generalize numR 16 rk = nr at *
              obtain ⟨nn, rr⟩ := nr
              dsimp only at HKE hnum hn16
              have hsome := fun W P C (h : Ur W g rr P C) => rsome_any g nn C rr P W h (by omega)
              rw [← HKE.out] at hsome
              generalize keyR rk = kr at *
              obtain ⟨xk, rk2⟩ := kr
              dsimp only at HSN hsome
              go_upto_region 9 with fail
              refine wp_region_noPanic ?_
              refine wp_region_G (fun W => Blk W M 27 #[.slice pb nb cb, .slice pk nk ck, .slice none 0 0, .slice none 0 0]) [10] (by kernel_rfl) ?_
              have HW1 : Hid (Blk wr.drew M 27 #[.slice pb nb cb, .slice pk nk ck, .slice none 0 0, .slice none 0 0]) := HS5.out.loc
              refine wpAnyG_takeW (i := 0) (v := .pointer (some ⟨M, 1, none⟩)) rfl (by kernel_rfl) (by kernel_rfl) (by kernel_rfl) (fun _ _ _ h => h) (Closed.start _) (by kernel_rfl) (fun W => by go_simp) ?_
              refine wpAnyG_takeS (i := 1) (v := .slice pk nk ck) rfl (by kernel_rfl) (by kernel_rfl) (by kernel_rfl) (by kernel_rfl) (fun _ _ _ _ _ h => h) ((Closed.start _).step (j := 0) (by kernel_rfl)) (by kernel_rfl) HW1.out (fun W hW => by
                have hcc : W.cell? ⟨M, 1, none⟩ = some (.slice pk nk ck) := hW.cell 1
                clear hW
                go_simp) ?_
              refine wpAnyG_takeW (i := 2) (v := .pointer (some ⟨g, 0, none⟩)) rfl (by kernel_rfl) (by kernel_rfl) (by kernel_rfl) (fun _ _ _ h => h) (((Closed.start _).step (j := 0) (by kernel_rfl)).step (j := 1) (by kernel_rfl)) (by kernel_rfl) (fun W => by go_simp) ?_
              refine wpAnyG_takeW (i := 3) (v := .pointer (some ⟨g, 0, none⟩)) rfl (by kernel_rfl) (by kernel_rfl) (by kernel_rfl) (fun _ _ _ h => h) ((((Closed.start _).step (j := 0) (by kernel_rfl)).step (j := 1) (by kernel_rfl)).step (j := 2) (by kernel_rfl)) (by kernel_rfl) (fun W => by go_simp) ?_
              refine wpAnyG_one (i := 4) (by kernel_rfl) rfl (fun K hK => ?_)
              go_simp
              go_at_call 39
              have HS6 : Hid (GT w g M wr.drew rk p5 c5 ⟨ab, ks.map strOfNums, [], []⟩ (.slice pb nb cb) (.slice pk nk ck) (.slice none 0 0) (.slice none 0 0)) := HS5.out.below (below_draws (below_self _) 1)
              refine (hnum _ _ _ HS6.out.un).mono ?_
              rintro e_ w6 ⟨p6, c6, rfl, hu6, hg6⟩
              have HS7 := Hid.in (HS6.out.call hu6 hg6)
              refine hK.out _ _ HS7.out.loc (fun _ => ?_)
              clear hK K hu6 hg6 HS6 HS5 HW1
              refine wpAnyG_one (i := 5) (by kernel_rfl) rfl (fun K hK => ?_)
              go_simp
              go_at_call 38
              refine (hsome _ _ _ HS7.out.un).mono ?_
              rintro e_ w7 ⟨q, d, p7, c7, rfl, hq, hu7, hg7, -⟩
              have HS8 := Hid.in (HS7.out.call hu7 hg7)
              have hcv := hq.row.convert rfl d
              refine hK.out _ _ HS8.out.loc (fun _ => ?_)
              clear hK K hu7 hg7 HS7 hq
              refine wpAnyG_one (i := 6) (by kernel_rfl) rfl (fun K hK => ?_)
              go_simp
              refine hK.out _ _ HS8.out.loc (fun _ => ?_)
              clear hK K hcv
              refine wpAnyG_one (i := 7) (by kernel_rfl) rfl (fun K hK => ?_)
              go_simp
              have HS9 := Hid.in (HS8.out.below (new_alloc w7 (.cells #[.string (strOfNums xk)] 9)))
              refine hK.out _ _ HS9.out.loc (fun _ => ?_)
              clear hK K
              refine wpAnyG_one (i := 8) (by kernel_rfl) rfl (fun K hK => ?_)
              have hlk : (strV (ks.map strOfNums)).length = k := by rw [List.length_map, List.length_map, HML2.out]
              refine step_gpush Try.elemS _ (by rfl) _ _ (by rfl) (M + 1) (.slice pk nk ck) (strV (ks.map strOfNums)) (by rfl) HS9.out.own.k ⟨w7.heap.size, 0, none⟩ 1 1 [.string (strOfNums xk)] (by rfl) rfl (by decide) (cell_one_new _ _ _) (by simp [Value.oneCell']) (by rw [hlk]; omega) (by rw [hlk]; omega) HS9.out.room ?_
              intro g8 cap8 w8 ho8 hg8
              have HAP : Hid (strV (ks.map strOfNums) ++ [.string (strOfNums xk)] = strV ((ks ++ [xk]).map strOfNums)) := by
                have : strV (ks.map strOfNums) ++ [.string (strOfNums xk)] = strV ((ks ++ [xk]).map strOfNums) := by simp
                exact this
              rw [HAP.out] at ho8
              have HP8 := Hid.in (HS9.out.put1 hg8 ho8)
              have HL8 : Hid (Blk w8 M 27 #[.slice pb nb cb, .slice pk nk ck, .slice none 0 0, .slice none 0 0]) := (HS9.out.base hg8 (fun k hk => own_above HS9.out.own.k k hk)).2.2.1
              refine hK.out _ _ HL8.out (fun _ => ?_)
              clear hK K ho8 hg8 HS9 HS8
              generalize (strV (ks.map strOfNums)).length + 1 = n8 at *
              refine wpAnyG_one (i := 9) (by kernel_rfl) rfl (fun K hK => ?_)
              go_simp
              refine hK.out _ _ HL8.out (fun _ => ?_)
              clear hK K
              have d1 : w8.cell? ⟨M, 1, none⟩ = some (.slice pk nk ck) := HL8.out.cell 1
              have f1 := HL8.out.free 1
              refine wpAnyG_last (i := 10) (by kernel_rfl) rfl rfl (fun K hK => ?_)
              go_simp
              refine hK.out _ _ ?_
              clear hK K d1 f1 HL8
              refine wpAnyG_done (by kernel_rfl) ?_ _
              refine NoPanic.normal ?_
              generalize w8.setCell ⟨M, 1, none⟩ (.slice (some ⟨g8, 0, none⟩) n8 cap8) = w9 at *
              go_wp2_with fail
              go_roundw
              case rel => exact ⟨k + 1, p7, c7, _, by go_num, by omega, by rw [HSN.out]; exact HP8.out⟩
              case measure => simp [intOf]; omega
            · obtain rfl : k = NK := by omega
              have hdk : decide ((0 : Int) < (k : Int) - k) = false := decide_eq_false (by omega)
              rw [← HLE.out] at HS5 HNK
              generalize hb : listR keyR 64 ar = b at *
              replace HRD := Hid.in (HRD.out b rfl)
              obtain ⟨bk, br⟩ := b
              dsimp only at HRD HS5 HKL HKN HNK
              clear hb HLE
              have HSN2 := Hid.in (list_len siteR 256 br)
              have hnle2 := num_le 256 br
              have HLE2 : Hid (listR siteR 256 br = manyR siteR (numR 256 br).1 (numR 256 br).2) := by
                have : listR siteR 256 br = manyR siteR (numR 256 br).1 (numR 256 br).2 := rfl
                exact this
              go_wp2_with (go_at_call 39; refine Hid.out ?_)
              refine Lib.hid ?_
              refine (rnum_any g 256 c5 br p5 wr HS5.out.un (by omega)).mono ?_
              rintro e_ w6 ⟨p6, c6, rfl, hu6, hg6⟩
              have HS6 := Hid.in (HS5.out.call hu6 hg6)
              clear hu6 hg6 HS5
              generalize numR 256 br = nr at *
              obtain ⟨NS, r1⟩ := nr
              dsimp only at HLE2 hnle2 HS6 ⊢
              go_wp2_with fail
              go_loopw [7] (fun vn wr => ∃ (k : Nat) (p' : Option Addr) (c' : Nat) (vs : Value), vn = .int .i64 ((NS : Int) - k) ∧ k ≤ NS ∧ GT w g M wr (manyR siteR k r1).2 p' c' ⟨ab, bk.map strOfNums, (manyR siteR k r1).1, []⟩ (.slice pb nb cb) (.slice pk nk ck) vs (.slice none 0 0)) (fun vn _ => (intOf vn).toNat)
              case atStart => exact ⟨0, p6, c6, _, by go_num, Nat.zero_le _, HS6.out⟩
              case round =>
                obtain ⟨k2, p7, c7, vs, rfl, hk2, hs⟩ := hrel
                clear HS6
                have HS7 := Hid.in hs
                clear hs
                obtain ⟨ps, ns, cs, rfl, hns⟩ := HS7.out.own.s.sl
                have HNS := Hid.in hns
                clear hns
                by_cases hkn2 : k2 < NS
                · have hdk2 : decide ((0 : Int) < (NS : Int) - k2) = true := decide_eq_true (by omega)
                  have HSN := Hid.in (many_snoc siteR k2 r1)
                  have HML2 : Hid ((manyR siteR k2 r1).1.length = k2) := many_len ..
                  generalize manyR siteR k2 r1 = mr at *
                  obtain ⟨ss, rk⟩ := mr
                  dsimp only at HSN HS7 HNS HML2
                  have HKE : Hid (siteR rk = (⟨((numR 2147483647 rk).1 : Int), ((numR 2147483647 (numR 2147483647 rk).2).1 : Int), ((numR 2147483647 (numR 2147483647 (numR 2147483647 rk).2).2).1 : Int)⟩, (numR 2147483647 (numR 2147483647 (numR 2147483647 rk).2).2).2)) := by
                    have : siteR rk = (⟨((numR 2147483647 rk).1 : Int), ((numR 2147483647 (numR 2147483647 rk).2).1 : Int), ((numR 2147483647 (numR 2147483647 (numR 2147483647 rk).2).2).1 : Int)⟩, (numR 2147483647 (numR 2147483647 (numR 2147483647 rk).2).2).2) := rfl
                    exact this
                  have hnum := fun r W P C (h : Ur W g r P C) => rnum_any g 2147483647 C r P W h (by omega)
                  have HNUM := Hid.in hnum
                  clear hnum
                  go_wp2_with (go_at_call 39; refine Hid.out ?_)
                  refine Lib.hid ?_
                  refine (HNUM.out rk wr p7 c7 HS7.out.un).mono ?_
                  rintro e_ w8 ⟨p8, c8, rfl, hu8, hg8⟩
                  have HS8 := Hid.in (HS7.out.call hu8 hg8)
                  clear hu8 hg8 HS7
                  generalize numR 2147483647 rk = na at *
                  obtain ⟨n1, ra⟩ := na
                  dsimp only at HKE HS8 ⊢
                  go_wp2_with (go_at_call 39; refine Hid.out ?_)
                  refine Lib.hid ?_
                  refine (HNUM.out ra w8 p8 c8 HS8.out.un).mono ?_
                  rintro e_ w9 ⟨p9, c9, rfl, hu9, hg9⟩
                  have HS9 := Hid.in (HS8.out.call hu9 hg9)
                  clear hu9 hg9 HS8
                  generalize numR 2147483647 ra = nb2 at *
                  obtain ⟨n2, rb⟩ := nb2
                  dsimp only at HKE HS9 ⊢
                  have hnum3 := HNUM.out rb
                  generalize numR 2147483647 rb = nc2 at *
                  obtain ⟨n3, rc⟩ := nc2
                  dsimp only at HKE hnum3
                  rw [HKE.out] at HSN
                  dsimp only at HSN
                  clear HKE HNUM
                  go_upto_region 15 with fail
                  refine wp_region_noPanic ?_
                  refine wp_region_G (fun W => Blk W M 27 #[.slice pb nb cb, .slice pk nk ck, .slice ps ns cs, .slice none 0 0]) [10] (by kernel_rfl) ?_
                  have HW1 : Hid (Blk w9.drew M 27 #[.slice pb nb cb, .slice pk nk ck, .slice ps ns cs, .slice none 0 0]) := HS9.out.loc
                  refine wpAnyG_takeW (i := 0) (v := .pointer (some ⟨M, 2, none⟩)) rfl (by kernel_rfl) (by kernel_rfl) (by kernel_rfl) (fun _ _ _ h => h) (Closed.start _) (by kernel_rfl) (fun W => by go_simp) ?_
                  refine wpAnyG_takeS (i := 1) (v := .slice ps ns cs) rfl (by kernel_rfl) (by kernel_rfl) (by kernel_rfl) (by kernel_rfl) (fun _ _ _ _ _ h => h) ((Closed.start _).step (j := 0) (by kernel_rfl)) (by kernel_rfl) HW1.out (fun W hW => by
                    have hcc : W.cell? ⟨M, 2, none⟩ = some (.slice ps ns cs) := hW.cell 2
                    clear hW
                    go_simp) ?_
                  refine wpAnyG_takeW (i := 2) (v := .int .i64 n1) rfl (by kernel_rfl) (by kernel_rfl) (by kernel_rfl) (fun _ _ _ h => h) (((Closed.start _).step (j := 0) (by kernel_rfl)).step (j := 1) (by kernel_rfl)) (by kernel_rfl) (fun W => by go_simp) ?_
                  refine wpAnyG_takeW (i := 3) (v := .int .i64 n2) rfl (by kernel_rfl) (by kernel_rfl) (by kernel_rfl) (fun _ _ _ h => h) ((((Closed.start _).step (j := 0) (by kernel_rfl)).step (j := 1) (by kernel_rfl)).step (j := 2) (by kernel_rfl)) (by kernel_rfl) (fun W => by go_simp) ?_
                  refine wpAnyG_takeW (i := 4) (v := .pointer (some ⟨g, 0, none⟩)) rfl (by kernel_rfl) (by kernel_rfl) (by kernel_rfl) (fun _ _ _ h => h) (((((Closed.start _).step (j := 0) (by kernel_rfl)).step (j := 1) (by kernel_rfl)).step (j := 2) (by kernel_rfl)).step (j := 3) (by kernel_rfl)) (by kernel_rfl) (fun W => by go_simp) ?_
                  refine wpAnyG_one (i := 5) (by kernel_rfl) rfl (fun K hK => ?_)
                  go_simp
                  go_at_call 39
                  have HS10 : Hid (GT w g M w9.drew rb p9 c9 ⟨ab, bk.map strOfNums, ss, []⟩ (.slice pb nb cb) (.slice pk nk ck) (.slice ps ns cs) (.slice none 0 0)) := HS9.out.below (below_draws (below_self _) 1)
                  refine (hnum3 _ _ _ HS10.out.un).mono ?_
                  rintro e_ w10 ⟨p10, c10, rfl, hu10, hg10⟩
                  have HS11 := Hid.in (HS10.out.call hu10 hg10)
                  refine hK.out _ _ HS11.out.loc (fun _ => ?_)
                  clear hK K hu10 hg10 HS10 HS9 HW1
                  refine wpAnyG_one (i := 6) (by kernel_rfl) rfl (fun K hK => ?_)
                  go_simp
                  refine hK.out _ _ HS11.out.loc (fun _ => ?_)
                  clear hK K
                  refine wpAnyG_one (i := 7) (by kernel_rfl) rfl (fun K hK => ?_)
                  go_simp
                  have HS12 := Hid.in (HS11.out.below (new_alloc w10 (.cells #[.int .i64 n1, .int .i64 n2, .int .i64 n3] 52)))
                  refine hK.out _ _ HS12.out.loc (fun _ => ?_)
                  clear hK K
                  refine wpAnyG_one (i := 8) (by kernel_rfl) rfl (fun K hK => ?_)
                  have hlk : (ss.map siV).length = k2 := by rw [List.length_map, HML2.out]
                  refine step_tpush Try.elemSite _ (by rfl) _ _ (by rfl) (M + 1) (.slice ps ns cs) (ss.map siV) (by rfl) HS12.out.own.s ⟨w10.heap.size, 0, none⟩ 1 (.int .i64 n1, .int .i64 n2, .int .i64 n3) ⟨rfl, rfl, rfl⟩ (by rfl) (news3 w10 (.int .i64 n1, .int .i64 n2, .int .i64 n3) 52) (by rw [hlk]; omega) (by decide) HS12.out.room ?_
                  intro g8 cap8 w11 ho8 hg8 _
                  have HAP : Hid (ss.map siV ++ [(.int .i64 n1, .int .i64 n2, .int .i64 n3)] = (ss ++ [(⟨n1, n2, n3⟩ : Si)]).map siV) := by
                    have : ss.map siV ++ [(.int .i64 n1, .int .i64 n2, .int .i64 n3)] = (ss ++ [(⟨n1, n2, n3⟩ : Si)]).map siV := by simp [siV]
                    exact this
                  rw [HAP.out] at ho8
                  have HP8 := Hid.in (HS12.out.put2 hg8 ho8)
                  have HL8 : Hid (Blk w11 M 27 #[.slice pb nb cb, .slice pk nk ck, .slice ps ns cs, .slice none 0 0]) := (HS12.out.base hg8 (fun k hk => own_above HS12.out.own.s k hk)).2.2.1
                  refine hK.out _ _ HL8.out (fun _ => ?_)
                  clear hK K ho8 hg8 HS12 HS11
                  generalize (ss.map siV).length + 1 = n8 at *
                  refine wpAnyG_one (i := 9) (by kernel_rfl) rfl (fun K hK => ?_)
                  go_simp
                  refine hK.out _ _ HL8.out (fun _ => ?_)
                  clear hK K
                  have d1 : w11.cell? ⟨M, 2, none⟩ = some (.slice ps ns cs) := HL8.out.cell 2
                  have f1 := HL8.out.free 2
                  refine wpAnyG_last (i := 10) (by kernel_rfl) rfl rfl (fun K hK => ?_)
                  go_simp
                  refine hK.out _ _ ?_
                  clear hK K d1 f1 HL8
                  refine wpAnyG_done (by kernel_rfl) ?_ _
                  refine NoPanic.normal ?_
                  generalize w11.setCell ⟨M, 2, none⟩ (.slice (some ⟨g8, 0, none⟩) n8 cap8) = w12 at *
                  go_wp2_with fail
                  go_roundw
                  case rel => exact ⟨k2 + 1, by omega, by omega, p10, c10, _, by rw [HSN.out]; exact HP8.out⟩
                  case measure => simp [intOf]; omega
                · obtain rfl : k2 = NS := by omega
                  have hdk2 : decide ((0 : Int) < (k2 : Int) - k2) = false := decide_eq_false (by omega)
                  rw [← HLE2.out] at HS7 HNS
                  generalize hb : listR siteR 256 br = b at *
                  replace HRD := Hid.in (HRD.out b rfl)
                  obtain ⟨xs, xr⟩ := b
                  dsimp only at HRD HS7 HSN2 HNS
                  clear hb HLE2
                  have HUL := Hid.in (units_le xr)
                  have HUN := Hid.in (list_len unitR 16 xr)
                  have hnle3 := num_le 16 xr
                  have HLE3 : Hid (listR unitR 16 xr = manyR unitR (numR 16 xr).1 (numR 16 xr).2) := by
                    have : listR unitR 16 xr = manyR unitR (numR 16 xr).1 (numR 16 xr).2 := rfl
                    exact this
                  go_wp2_with (go_at_call 39; refine Hid.out ?_)
                  refine Lib.hid ?_
                  refine (rnum_any g 16 c7 xr p7 wr HS7.out.un (by omega)).mono ?_
                  rintro e_ w8 ⟨p8, c8, rfl, hu8, hg8⟩
                  have HS8 := Hid.in (HS7.out.call hu8 hg8)
                  clear hu8 hg8 HS7
                  generalize numR 16 xr = nr at *
                  obtain ⟨NU, r2⟩ := nr
                  dsimp only at HLE3 hnle3 HS8 ⊢
                  go_wp2_with fail
                  go_loopw [10] (fun vn wr => ∃ (k : Nat) (p' : Option Addr) (c' : Nat) (vu : Value), vn = .int .i64 ((NU : Int) - k) ∧ k ≤ NU ∧ GT w g M wr (manyR unitR k r2).2 p' c' ⟨ab, bk.map strOfNums, xs, (manyR unitR k r2).1⟩ (.slice pb nb cb) (.slice pk nk ck) (.slice ps ns cs) vu) (fun vn _ => (intOf vn).toNat)
                  case atStart => exact ⟨0, p8, c8, _, by go_num, Nat.zero_le _, HS8.out⟩
                  case round =>
                    obtain ⟨k3, p9, c9, vu, rfl, hk3, hs⟩ := hrel
                    clear HS8
                    have HS9 := Hid.in hs
                    clear hs
                    obtain ⟨pu, nu, cu, rfl, hnu⟩ := HS9.out.own.u.sl
                    have HNU := Hid.in hnu
                    clear hnu
                    by_cases hkn3 : k3 < NU
                    · have hdk3 : decide ((0 : Int) < (NU : Int) - k3) = true := decide_eq_true (by omega)
                      have HSN := Hid.in (many_snoc unitR k3 r2)
                      have HML2 : Hid ((manyR unitR k3 r2).1.length = k3) := many_len ..
                      generalize manyR unitR k3 r2 = mr at *
                      obtain ⟨us, rk⟩ := mr
                      dsimp only at HSN HS9 HNU HML2
                      have HKE : Hid (unitR rk = (((numR 2147483647 rk).1 : Int), (numR 2147483647 rk).2)) := by
                        have : unitR rk = (((numR 2147483647 rk).1 : Int), (numR 2147483647 rk).2) := rfl
                        exact this
                      have hnum := fun W P C (h : Ur W g rk P C) => rnum_any g 2147483647 C rk P W h (by omega)
                      generalize numR 2147483647 rk = na at *
                      obtain ⟨n1, ra⟩ := na
                      dsimp only at HKE hnum
                      rw [HKE.out] at HSN
                      dsimp only at HSN
                      clear HKE
                      go_upto_region 19 with fail
                      refine wp_region_noPanic ?_
                      refine wp_region_G (fun W => Blk W M 27 #[.slice pb nb cb, .slice pk nk ck, .slice ps ns cs, .slice pu nu cu]) [7] (by kernel_rfl) ?_
                      have HW1 : Hid (Blk wr.drew M 27 #[.slice pb nb cb, .slice pk nk ck, .slice ps ns cs, .slice pu nu cu]) := HS9.out.loc
                      refine wpAnyG_takeW (i := 0) (v := .pointer (some ⟨M, 3, none⟩)) rfl (by kernel_rfl) (by kernel_rfl) (by kernel_rfl) (fun _ _ _ h => h) (Closed.start _) (by kernel_rfl) (fun W => by go_simp) ?_
                      refine wpAnyG_takeS (i := 1) (v := .slice pu nu cu) rfl (by kernel_rfl) (by kernel_rfl) (by kernel_rfl) (by kernel_rfl) (fun _ _ _ _ _ h => h) ((Closed.start _).step (j := 0) (by kernel_rfl)) (by kernel_rfl) HW1.out (fun W hW => by
                        have hcc : W.cell? ⟨M, 3, none⟩ = some (.slice pu nu cu) := hW.cell 3
                        clear hW
                        go_simp) ?_
                      refine wpAnyG_takeW (i := 2) (v := .pointer (some ⟨g, 0, none⟩)) rfl (by kernel_rfl) (by kernel_rfl) (by kernel_rfl) (fun _ _ _ h => h) (((Closed.start _).step (j := 0) (by kernel_rfl)).step (j := 1) (by kernel_rfl)) (by kernel_rfl) (fun W => by go_simp) ?_
                      refine wpAnyG_one (i := 3) (by kernel_rfl) rfl (fun K hK => ?_)
                      go_simp
                      go_at_call 39
                      have HS10 : Hid (GT w g M wr.drew rk p9 c9 ⟨ab, bk.map strOfNums, xs, us⟩ (.slice pb nb cb) (.slice pk nk ck) (.slice ps ns cs) (.slice pu nu cu)) := HS9.out.below (below_draws (below_self _) 1)
                      refine (hnum _ _ _ HS10.out.un).mono ?_
                      rintro e_ w10 ⟨p10, c10, rfl, hu10, hg10⟩
                      have HS11 := Hid.in (HS10.out.call hu10 hg10)
                      refine hK.out _ _ HS11.out.loc (fun _ => ?_)
                      clear hK K hu10 hg10 HS10 HS9 HW1
                      refine wpAnyG_one (i := 4) (by kernel_rfl) rfl (fun K hK => ?_)
                      go_simp
                      have HS12 := Hid.in (HS11.out.below (new_alloc w10 (.cells #[.int .i64 n1] 3)))
                      refine hK.out _ _ HS12.out.loc (fun _ => ?_)
                      clear hK K
                      refine wpAnyG_one (i := 5) (by kernel_rfl) rfl (fun K hK => ?_)
                      have hlk : (intV us).length = k3 := by rw [List.length_map, HML2.out]
                      refine step_gpush Try.elemI _ (by rfl) _ _ (by rfl) (M + 1) (.slice pu nu cu) (intV us) (by rfl) HS12.out.own.u ⟨w10.heap.size, 0, none⟩ 1 1 [.int .i64 n1] (by rfl) rfl (by decide) (cell_one_new _ _ _) (by simp [Value.oneCell']) (by rw [hlk]; omega) (by rw [hlk]; omega) HS12.out.room ?_
                      intro g8 cap8 w11 ho8 hg8
                      have HAP : Hid (intV us ++ [.int .i64 n1] = intV (us ++ [(n1 : Int)])) := by
                        have : intV us ++ [.int .i64 n1] = intV (us ++ [(n1 : Int)]) := by simp
                        exact this
                      rw [HAP.out] at ho8
                      have HP8 := Hid.in (HS12.out.put3 hg8 ho8)
                      have HL8 : Hid (Blk w11 M 27 #[.slice pb nb cb, .slice pk nk ck, .slice ps ns cs, .slice pu nu cu]) := (HS12.out.base hg8 (fun k hk => own_above HS12.out.own.u k hk)).2.2.1
                      refine hK.out _ _ HL8.out (fun _ => ?_)
                      clear hK K ho8 hg8 HS12 HS11
                      generalize (intV us).length + 1 = n8 at *
                      refine wpAnyG_one (i := 6) (by kernel_rfl) rfl (fun K hK => ?_)
                      go_simp
                      refine hK.out _ _ HL8.out (fun _ => ?_)
                      clear hK K
                      have d1 : w11.cell? ⟨M, 3, none⟩ = some (.slice pu nu cu) := HL8.out.cell 3
                      have f1 := HL8.out.free 3
                      refine wpAnyG_last (i := 7) (by kernel_rfl) rfl rfl (fun K hK => ?_)
                      go_simp
                      refine hK.out _ _ ?_
                      clear hK K d1 f1 HL8
                      refine wpAnyG_done (by kernel_rfl) ?_ _
                      refine NoPanic.normal ?_
                      generalize w11.setCell ⟨M, 3, none⟩ (.slice (some ⟨g8, 0, none⟩) n8 cap8) = w12 at *
                      go_wp2_with fail
                      go_roundw
                      case rel => exact ⟨k3 + 1, by omega, by omega, p10, c10, _, by rw [HSN.out]; exact HP8.out⟩
                      case measure => simp [intOf]; omega
                    · obtain rfl : k3 = NU := by omega
                      have hdk3 : decide ((0 : Int) < (k3 : Int) - k3) = false := decide_eq_false (by omega)
                      rw [← HLE3.out] at HS9 HNU
                      generalize hb : listR unitR 16 xr = b at *
                      replace HRD := Hid.in (HRD.out b rfl)
                      obtain ⟨du, dr⟩ := b
                      dsimp only at HRD HS9 HUL HUN HNU
                      clear hb HLE3
                      have HGE : Hid (getL bs = if endR dr ≠ 0 then (noIM, endR dr) else if okI ⟨ab, bk.map strOfNums, xs, du⟩ = true then (⟨ab, bk.map strOfNums, xs, du⟩, 0) else (noIM, 200)) := by
                        have : getL bs = if endR (readI ⟨bs, 0⟩).2 ≠ 0 then (noIM, endR (readI ⟨bs, 0⟩).2) else if okI (imOf (readI ⟨bs, 0⟩).1) = true then (imOf (readI ⟨bs, 0⟩).1, 0) else (noIM, 200) := rfl
                        rw [HRD.out] at this
                        exact this
                      have HED : Hid (endR dr = if dr.e = 0 ∧ 0 < dr.l.length then 200 else dr.e) := by
                        have : endR dr = if dr.e = 0 ∧ 0 < dr.l.length then 200 else dr.e := rfl
                        exact this
                      clear HRD
                      have e1 : wr.cell? ⟨g, 1, none⟩ = some (.int .i64 dr.e) := HS9.out.un.blk.cell 1
                      have e0 : wr.cell? ⟨g, 0, none⟩ = some (.slice p9 dr.l.length c9) := HS9.out.un.blk.cell 0
                      obtain ⟨d0, d1, d2, d3⟩ := HS9.out.res.cells4
                      have y0 := HS9.out.res.free 0
                      have y1 := HS9.out.res.free 1
                      have y2 := HS9.out.res.free 2
                      have y3 := HS9.out.res.free 3
                      have hEG := HS9.out.eg
                      by_cases hde : dr.e = 0
                      · have q0 : (dr.e != 0) = false := by simpa using hde
                        by_cases hdl : 0 < dr.l.length
                        · have q1 : decide ((0 : Int) < (dr.l.length : Int)) = true := decide_eq_true (by omega)
                          rw [if_pos ⟨hde, hdl⟩] at HED
                          rw [if_pos (by rw [HED.out]; decide), HED.out] at HGE
                          go_wp2_with fail
                          have HBE := Hid.in (HS9.out.res.set4 rfl (.slice none 0 0) (.slice none 0 0) (.slice none 0 0) (.slice none 0 0) rfl)
                          have HLE := Hid.in (below4 HS9.out.bel (.slice none 0 0) (.slice none 0 0) (.slice none 0 0) (.slice none 0 0))
                          generalize ((((wr.setCell ⟨w.heap.size, 0, none⟩ (.slice none 0 0)).setCell ⟨w.heap.size, 1, none⟩ (.slice none 0 0)).setCell ⟨w.heap.size, 2, none⟩ (.slice none 0 0)).setCell ⟨w.heap.size, 3, none⟩ (.slice none 0 0)) = WE at *
                          exact bodyPost_ret (v := .tuple #[.agg nil4, .int .i64 200]) (res15 (W := WE) HBE.out rfl rfl) rfl ⟨_, _, _, _, by rw [HGE.out], by rw [HGE.out]; exact ImOwn.nil _ _, HLE.out⟩
                        · have q1 : decide ((0 : Int) < (dr.l.length : Int)) = false := decide_eq_false (by omega)
                          rw [if_neg (fun h => hdl h.2), hde] at HED
                          rw [if_neg (by rw [HED.out]; simp)] at HGE
                          have HIN := Hid.in (HS9.out.own.imIn HBA.out HNB.out HNK.out HNS.out HNU.out HKN.out HSN2.out HUN.out HKL.out HUL.out)
                          have h26 := rightR_any ⟨ab, bk.map strOfNums, xs, du⟩ pb pk ps pu nb cb nk ck ns cs nu cu wr HIN.out
                          have m0 : wr.cell? ⟨M, 0, none⟩ = some (.slice pb nb cb) := HS9.out.loc.cell 0
                          have m1 : wr.cell? ⟨M, 1, none⟩ = some (.slice pk nk ck) := HS9.out.loc.cell 1
                          have m2 : wr.cell? ⟨M, 2, none⟩ = some (.slice ps ns cs) := HS9.out.loc.cell 2
                          have m3 : wr.cell? ⟨M, 3, none⟩ = some (.slice pu nu cu) := HS9.out.loc.cell 3
                          cases hok : okI ⟨ab, bk.map strOfNums, xs, du⟩
                          · rw [hok] at h26
                            rw [if_neg (by rw [hok]; decide)] at HGE
                            clear hok
                            go_wp2_with (go_at_call 26; refine Hid.out ?_)
                            refine Lib.hid ?_
                            refine h26.mono ?_
                            rintro e_ w10 ⟨rfl, hb10⟩
                            have HS10 := Hid.in (HS9.out.below hb10)
                            clear hb10 d0 d1 d2 d3 y0 y1 y2 y3 e0 e1 m0 m1 m2 m3 HS9
                            obtain ⟨d0, d1, d2, d3⟩ := HS10.out.res.cells4
                            have y0 := HS10.out.res.free 0
                            have y1 := HS10.out.res.free 1
                            have y2 := HS10.out.res.free 2
                            have y3 := HS10.out.res.free 3
                            go_wp2_with fail
                            have HBE := Hid.in (HS10.out.res.set4 rfl (.slice none 0 0) (.slice none 0 0) (.slice none 0 0) (.slice none 0 0) rfl)
                            have HLE := Hid.in (below4 HS10.out.bel (.slice none 0 0) (.slice none 0 0) (.slice none 0 0) (.slice none 0 0))
                            generalize ((((w10.setCell ⟨w.heap.size, 0, none⟩ (.slice none 0 0)).setCell ⟨w.heap.size, 1, none⟩ (.slice none 0 0)).setCell ⟨w.heap.size, 2, none⟩ (.slice none 0 0)).setCell ⟨w.heap.size, 3, none⟩ (.slice none 0 0)) = WE at *
                            exact bodyPost_ret (v := .tuple #[.agg nil4, .int .i64 200]) (res15 (W := WE) HBE.out rfl rfl) rfl ⟨_, _, _, _, by rw [HGE.out], by rw [HGE.out]; exact ImOwn.nil _ _, HLE.out⟩
                          · rw [hok] at h26
                            rw [if_pos hok] at HGE
                            clear hok
                            go_wp2_with (go_at_call 26; refine Hid.out ?_)
                            refine Lib.hid ?_
                            refine h26.mono ?_
                            rintro e_ w10 ⟨rfl, hb10⟩
                            have HS10 := Hid.in (HS9.out.below hb10)
                            clear hb10 d0 d1 d2 d3 y0 y1 y2 y3 e0 e1 m0 m1 m2 m3 HS9
                            obtain ⟨d0, d1, d2, d3⟩ := HS10.out.res.cells4
                            have y0 := HS10.out.res.free 0
                            have y1 := HS10.out.res.free 1
                            have y2 := HS10.out.res.free 2
                            have y3 := HS10.out.res.free 3
                            have m0 : w10.cell? ⟨M, 0, none⟩ = some (.slice pb nb cb) := HS10.out.loc.cell 0
                            have m1 : w10.cell? ⟨M, 1, none⟩ = some (.slice pk nk ck) := HS10.out.loc.cell 1
                            have m2 : w10.cell? ⟨M, 2, none⟩ = some (.slice ps ns cs) := HS10.out.loc.cell 2
                            have m3 : w10.cell? ⟨M, 3, none⟩ = some (.slice pu nu cu) := HS10.out.loc.cell 3
                            go_wp2_with fail
                            have hlm := HS10.out.lm
                            have HBE := Hid.in (HS10.out.res.set4 rfl (.slice pb nb cb) (.slice pk nk ck) (.slice ps ns cs) (.slice pu nu cu) rfl)
                            have HLE := Hid.in (below4 HS10.out.bel (.slice pb nb cb) (.slice pk nk ck) (.slice ps ns cs) (.slice pu nu cu))
                            have HIE := Hid.in (HS10.out.own.set4 (R := w.heap.size) (by omega) (.slice pb nb cb) (.slice pk nk ck) (.slice ps ns cs) (.slice pu nu cu))
                            generalize ((((w10.setCell ⟨w.heap.size, 0, none⟩ (.slice pb nb cb)).setCell ⟨w.heap.size, 1, none⟩ (.slice pk nk ck)).setCell ⟨w.heap.size, 2, none⟩ (.slice ps ns cs)).setCell ⟨w.heap.size, 3, none⟩ (.slice pu nu cu)) = WE at *
                            exact bodyPost_ret (v := .tuple #[.agg (imA pb pk ps pu nb cb nk ck ns cs nu cu), .int .i64 0]) (res15 (W := WE) HBE.out rfl rfl) rfl ⟨_, _, _, _, by rw [HGE.out], by rw [HGE.out]; exact HIE.out.lower (by omega), HLE.out⟩
                      · have q0 : (dr.e != 0) = true := by simpa using hde
                        rw [if_neg (fun h => hde h.1)] at HED
                        rw [if_pos (by rw [HED.out]; exact hde), HED.out] at HGE
                        go_wp2_with fail
                        go_region_with (fail)
                        all_goals go_wp2_with fail
                        all_goals
                          have HBE := Hid.in (HS9.out.res.set4 rfl (.slice none 0 0) (.slice none 0 0) (.slice none 0 0) (.slice none 0 0) rfl)
                          have HLE := Hid.in (below4 HS9.out.bel (.slice none 0 0) (.slice none 0 0) (.slice none 0 0) (.slice none 0 0))
                          generalize ((((wr.setCell ⟨w.heap.size, 0, none⟩ (.slice none 0 0)).setCell ⟨w.heap.size, 1, none⟩ (.slice none 0 0)).setCell ⟨w.heap.size, 2, none⟩ (.slice none 0 0)).setCell ⟨w.heap.size, 3, none⟩ (.slice none 0 0)) = WE at *
                          exact bodyPost_ret (v := .tuple #[.agg nil4, .int .i64 dr.e]) (res15 (W := WE.drew) HBE.out rfl rfl) rfl ⟨_, _, _, _, by rw [HGE.out], by rw [HGE.out]; exact ImOwn.nil _ _, below_draws HLE.out 1⟩

end Go.Proofs.Ytfhjaabbfaamjaa

/- What switchyardkit.LentBytes and KeptBytes do, for every slice of bytes. -/
namespace Go.Proofs.Ytfhjaabbfaamjaa
open Go.RowKit

theorem OwnV.held {w : World} {B : Nat} {v : Value} {xs : List Int} (h : OwnV w B v xs) (hv : v ≠ .slice none 0 0) : ∃ g cap, v = .slice (some ⟨g, 0, none⟩) xs.length cap ∧ Own w B g cap xs := by
  rcases h.shape with ⟨h1, _⟩ | h1
  · exact absurd h1 hv
  · exact h1

set_option maxHeartbeats 400000 in
theorem lent_any (p : Option Addr) (n c : Nat) (xs : List Int) (w : World) (hx : xs.length = n) (hn : n ≤ 140737488351232) (hr : Row w p xs) :
    Calls Try.prog 13 #[.slice p n c] w fun e w' => ∃ g cap, e = .returned (.slice (some ⟨g, 0, none⟩) n cap) ∧ Own w' w.heap.size g cap (xs ++ [77, 78]) ∧ Below w.heap.size w w' := by
  have hcon := copy_any p n c xs w hx (by omega) hr
  have HX : Hid (xs.length = n) := hx
  clear hr hx
  go_enter Try.func13, Try.ntmps13
  go_wp2_with fail
  refine hcon.mono ?_
  rintro e w1 ⟨v, rfl, hown, hb⟩
  have hsz := hb.size
  have hl : xs.length + 2 ≤ 140737488355328 := by rw [HX.out]; omega
  clear hcon
  go_wp2_with (at_builtin; refine wp_push _ rfl _ _ rfl w.heap.size _ xs rfl (hown.alloc _) ⟨w1.heap.size, 0, none⟩ 2 2 [77, 78] rfl rfl (cell_two_new _ _ _ _) hl (by simp; omega) ?_; intro v' w2 hown2 _hgrow hbel hnil; obtain ⟨g, cap, hv, ho⟩ := hown2.held (fun h => by have := (hnil.1 h).2; omega); have hcap : n + 2 ≤ cap := (by have := ho.cap; rw [List.length_append, HX.out] at this; simpa using this); have hb2 := hbel _ (below_alloc hb _); rw [hv]; clear hown2 hbel hnil hv hown hb)
  go_ret
  exact ⟨g, cap, rfl, ho, hb2⟩

theorem getD_left (xs ys : List Int) (i : Nat) (h : i < xs.length) : (xs ++ ys).getD i 0 = xs.getD i 0 := by
  simp [List.getD, List.getElem?_append_left h]
theorem getD_right (xs ys : List Int) (i : Nat) : (xs ++ ys).getD (xs.length + i) 0 = ys.getD i 0 := by
  simp [List.getD, List.getElem?_append_right]

theorem Own.front {w : World} {B g cap : Nat} {xs ys : List Int} (h : Own w B g cap (xs ++ ys)) : Own w B g cap xs := by
  obtain ⟨cur, h1, h2, h3, h4, h5, h6⟩ := h.parts
  rw [List.length_append] at h3
  refine Own.mk h1 h2 (by omega) h4 h5 ?_
  have e : cur.toList.take xs.length = (cur.toList.take (xs ++ ys).length).take xs.length := by
    rw [List.take_take, List.length_append, Nat.min_eq_left (by omega)]
  rw [e, h6]
  simp [byts]

set_option maxHeartbeats 400000 in
theorem kept_any (q : Option Addr) (g n cap c B : Nat) (xs : List Int) (w : World) (hx : xs.length = n) (hn : n ≤ 140737488351232) (ho : Own w B g cap (xs ++ [77, 78])) (hr : Row w q xs) :
    Calls Try.prog 16 #[.slice (some ⟨g, 0, none⟩) n cap, .slice q n c] w fun e w' => e = .returned (.bool true) ∧ ∃ m, w' = w.drewN m := by
  have hcon := sameBytes_any (some ⟨g, 0, none⟩) q n cap n c xs xs w hx hx (by omega) ho.front.row hr
  have c0 := ho.cell (xs.length + 0) (by simp)
  have c1 := ho.cell (xs.length + 1) (by simp)
  have hcap := ho.cap
  rw [getD_right, hx] at c0 c1
  rw [sameB_self] at hcon
  rw [List.length_append, hx] at hcap
  simp only [List.getD_cons_zero, List.getD_cons_succ, Nat.add_zero, List.length_cons, List.length_nil] at c0 c1 hcap
  clear ho hr hx
  go_enter Try.func16, Try.ntmps16
  go_wp2_with (go_at_call 10; refine hcon.mono ?_; rintro e w' ⟨rfl, m, rfl⟩)
  go_ret
  exact ⟨rfl, m, rfl⟩

end Go.Proofs.Ytfhjaabbfaamjaa

/- Lists of bytes that lie apart: what stores and appends leave as it was. Plain facts on worlds. -/
namespace Go.Proofs.Ytfhjaabbfaamjaa
open Go.RowKit

theorem Try.info22 : (Try.prog.info? 22).map (fun i => (i.zero, i.size, i.bytes)) = some (some (.slice none 0 0), 1, 24) := by kernel_rfl

/-- all old blocks but those of G are as they were -/
structure Keeps (G : Nat → Prop) (w w' : World) : Prop where
  os : w'.os = w.os
  tape : w'.tape = w.tape
  output : w'.output = w.output
  size : w.heap.size ≤ w'.heap.size
  block : ∀ j, j < w.heap.size → ¬ G j → w'.heap[j]? = w.heap[j]?

theorem Keeps.refl (G : Nat → Prop) (w : World) : Keeps G w w := ⟨rfl, rfl, rfl, Nat.le_refl _, fun _ _ _ => rfl⟩
theorem Keeps.drewN {G : Nat → Prop} {a w : World} (h : Keeps G a w) (n : Nat) : Keeps G a (w.drewN n) := ⟨h.os, h.tape, h.output, h.size, h.block⟩
theorem Keeps.drew {G : Nat → Prop} {a w : World} (h : Keeps G a w) : Keeps G a w.drew := ⟨h.os, h.tape, h.output, h.size, h.block⟩
theorem Keeps.grown {G : Nat → Prop} {a w w' : World} {row : Option Nat} (h : Keeps G a w) (hg : w.grownBy w' row) (hr : ∀ k, row = some k → G k ∨ a.heap.size ≤ k) : Keeps G a w' :=
  ⟨hg.os.trans h.os, hg.tape.trans h.tape, hg.output.trans h.output, Nat.le_trans h.size hg.size, fun j hj hn => by
    rw [hg.block j (Nat.lt_of_lt_of_le hj h.size) (fun e => by
      rcases hr j e.symm with h1 | h1
      · exact hn h1
      · omega), h.block j hj hn]⟩
theorem Keeps.alloc {G : Nat → Prop} {a w : World} (h : Keeps G a w) (o : Obj) : Keeps G a (w.alloc o) := h.grown (World.grownBy_alloc w o none) (fun _ e => by cases e)
theorem Keeps.setCell {G : Nat → Prop} {a w : World} (h : Keeps G a w) (b i : Nat) (v : Value) (hb : G b ∨ a.heap.size ≤ b) : Keeps G a (w.setCell ⟨b, i, none⟩ v) :=
  ⟨h.os, h.tape, h.output, by rw [World.size_setCell]; exact h.size, fun j hj hn => by
    rw [heap_setCell_other w ⟨b, i, none⟩ j v (fun e => by
      simp only at e
      subst e
      rcases hb with h1 | h1
      · exact hn h1
      · omega), h.block j hj hn]⟩
theorem Keeps.below {G : Nat → Prop} {B : Nat} {w w' : World} (h : Keeps G w w') (hB : B ≤ w.heap.size) (hG : ∀ j, G j → B ≤ j) : Below B w w' :=
  ⟨h.os, h.tape, h.output, h.size, fun k hk => h.block k (by omega) fun hg => by have := hG k hg; omega⟩

theorem Own.kept {w w' : World} {B g cap : Nat} {xs : List Int} {row : Option Nat} (h : Own w B g cap xs) (hg : w.grownBy w' row) (hne : some g ≠ row) : Own w' B g cap xs := by
  obtain ⟨cur, h1, h2, h3, h4, h5, h6⟩ := h.parts
  exact Own.mk h1 (by rw [hg.block g h.lt hne]; exact h2) h3 h4 h5 h6
theorem Own.store_other {w : World} {B g cap : Nat} {xs : List Int} (h : Own w B g cap xs) (b i : Nat) (v : Value) (hne : g ≠ b) : Own (w.setCell ⟨b, i, none⟩ v) B g cap xs := by
  obtain ⟨cur, h1, h2, h3, h4, h5, h6⟩ := h.parts
  exact Own.mk h1 (by rw [heap_setCell_other w ⟨b, i, none⟩ g v hne]; exact h2) h3 h4 h5 h6
theorem Own.caps {w : World} {B B' g cap cap' : Nat} {xs ys : List Int} (h : Own w B g cap xs) (h' : Own w B' g cap' ys) : cap = cap' := by
  obtain ⟨cur, _, h2, _, _, h5, _⟩ := h.parts
  obtain ⟨cur', _, h2', _, _, h5', _⟩ := h'.parts
  rw [h2] at h2'
  cases h2'
  omega

/-- a table of K values (slices of bytes) in a block of its own -/
def TabOf (w : World) (L K : Nat) (f : Nat → Value) : Prop := w.heap[L]? = some (.cells ((List.range K).map f).toArray 22 (0, 0))
theorem TabOf.cell {w : World} {L K : Nat} {f : Nat → Value} (h : TabOf w L K f) (k : Nat) (hk : k < K) : w.cell? ⟨L, k, none⟩ = some (f k) := by
  rw [cell_of_row w L k _ 22 (0, 0) h]
  simp [hk]
theorem TabOf.free {w : World} {L K : Nat} {f : Nat → Value} (h : TabOf w L K f) (k : Nat) : w.frozen? ⟨L, k, none⟩ = false := frozen_of_row w L k _ 22 h
theorem TabOf.lt {w : World} {L K : Nat} {f : Nat → Value} (h : TabOf w L K f) : L < w.heap.size := by
  rcases Nat.lt_or_ge L w.heap.size with h' | h'
  · exact h'
  · unfold TabOf at h; rw [Array.getElem?_eq_none h'] at h; cases h
theorem TabOf.ne {w : World} {L K : Nat} {f : Nat → Value} (h : TabOf w L K f) {B g cap : Nat} {xs : List Int} (ho : Own w B g cap xs) : L ≠ g := fun e => by
  obtain ⟨cur, _, h2, _⟩ := ho.parts
  subst e
  unfold TabOf at h
  rw [h2] at h
  simp at h
theorem TabOf.kept {w w' : World} {L K : Nat} {f : Nat → Value} {row : Option Nat} (h : TabOf w L K f) (hg : w.grownBy w' row) (hne : some L ≠ row) : TabOf w' L K f := by
  unfold TabOf; rw [hg.block L h.lt hne]; exact h
theorem TabOf.alloc {w : World} {L K : Nat} {f : Nat → Value} (h : TabOf w L K f) (o : Obj) : TabOf (w.alloc o) L K f := h.kept (World.grownBy_alloc w o none) (by simp)
theorem TabOf.drewN {w : World} {L K : Nat} {f : Nat → Value} (h : TabOf w L K f) (n : Nat) : TabOf (w.drewN n) L K f := h
theorem TabOf.drew {w : World} {L K : Nat} {f : Nat → Value} (h : TabOf w L K f) : TabOf w.drew L K f := h
theorem TabOf.store_other {w : World} {L K : Nat} {f : Nat → Value} (h : TabOf w L K f) (b i : Nat) (v : Value) (hne : L ≠ b) : TabOf (w.setCell ⟨b, i, none⟩ v) L K f := by
  unfold TabOf; rw [heap_setCell_other w ⟨b, i, none⟩ L v hne]; exact h
theorem TabOf.store {w : World} {L K : Nat} {f : Nat → Value} (h : TabOf w L K f) (k : Nat) (v : Value) : TabOf (w.setCell ⟨L, k, none⟩ v) L K (fun i => if i = k then v else f i) := by
  unfold TabOf
  rw [heap_setCell_same w L k _ 22 v h]
  congr 2
  apply Array.ext'
  rw [Array.toList_setIfInBounds]
  apply List.ext_getElem?
  intro j
  simp only [List.getElem?_set, List.length_map, List.length_range, List.getElem?_map]
  by_cases e : k = j
  · subst e
    by_cases hk : k < K <;> simp [hk]
  · by_cases hj : j < K <;> simp [e, hj, Ne.symm e]
theorem TabOf.made {w : World} {B g n : Nat} (h : w.ownsRow B 22 1 (.slice (some ⟨g, 0, none⟩) n n) n (madeCells (Value.slice none 0 0).cells (n * 1)).toList) : TabOf w g n (fun _ => .slice none 0 0) := by
  rcases h.2 with ⟨h', _⟩ | ⟨g', cap', cur, h', h1, h2, h3, h4, h5, h6⟩
  · simp at h'
  · simp only [Value.slice.injEq, Option.some.injEq, Addr.mk.injEq, and_true, true_and] at h'
    obtain ⟨rfl, rfl⟩ := h'
    unfold TabOf
    rw [h2]
    congr 2
    apply Array.ext'
    rw [List.take_of_length_le (by rw [Array.length_toList, h5]; exact Nat.le_refl _)] at h6
    rw [h6, show (Value.slice none 0 0).cells = #[Value.slice none 0 0] from rfl, toList_madeCells_one]
    apply List.ext_getElem?
    intro j
    by_cases hj : j < n <;> simp [hj]

/-- lists apart: each in a block of its own -/
def AllOwn (w : World) (B K : Nat) (g c : Nat → Nat) (ct : Nat → List Int) : Prop := ∀ j, j < K → Own w B (g j) (c j) (ct j)
def Apart (K : Nat) (g : Nat → Nat) : Prop := ∀ i j, i < K → j < K → i ≠ j → g i ≠ g j
theorem AllOwn.kept {w w' : World} {B K : Nat} {g c : Nat → Nat} {ct : Nat → List Int} {row : Option Nat} (h : AllOwn w B K g c ct) (hg : w.grownBy w' row) (hne : ∀ j, j < K → some (g j) ≠ row) : AllOwn w' B K g c ct :=
  fun j hj => (h j hj).kept hg (hne j hj)
theorem AllOwn.store_other {w : World} {B K : Nat} {g c : Nat → Nat} {ct : Nat → List Int} (h : AllOwn w B K g c ct) (b i : Nat) (v : Value) (hne : ∀ j, j < K → g j ≠ b) : AllOwn (w.setCell ⟨b, i, none⟩ v) B K g c ct :=
  fun j hj => (h j hj).store_other b i v (hne j hj)
theorem AllOwn.store {w : World} {B K : Nat} {g c : Nat → Nat} {ct ct' : Nat → List Int} (h : AllOwn w B K g c ct) (ha : Apart K g) (k i : Nat) (hk : k < K) (z : Int) (h1 : ct' k = (ct k).set i z) (h2 : ∀ j, j ≠ k → ct' j = ct j) : AllOwn (w.setCell ⟨g k, i, none⟩ (.int .u8 z)) B K g c ct' := fun j hj => by
  by_cases e : j = k
  · subst e; rw [h1]; exact (h j hj).store i z
  · rw [h2 j e]; exact (h j hj).store_other (g k) i _ (ha j k hj hk e)
theorem AllOwn.drewN {w : World} {B K : Nat} {g c : Nat → Nat} {ct : Nat → List Int} (h : AllOwn w B K g c ct) (n : Nat) : AllOwn (w.drewN n) B K g c ct := h
theorem AllOwn.drew {w : World} {B K : Nat} {g c : Nat → Nat} {ct : Nat → List Int} (h : AllOwn w B K g c ct) : AllOwn w.drew B K g c ct := h

end Go.Proofs.Ytfhjaabbfaamjaa
