/- Texts put together: RfA, RfB, RfC. -/
import Derived.Test.YtekggimgobeggaaGd
import Derived.Great.BuildSlice
import Derived.Laws.BytesArg

/- The document's patcher: its state as lists and in memory; Clear. -/
namespace Go.Proofs.Ytekggimgobeggaa
open Go.RowKit Go.Sort

/-- the document's state, as lists -/
structure RD where
  xs : List Int
  n : Int
  fs : List Bool
  ph : Nat
  sent : Nat
  bt : List Si
  lf : List Si
  dn : Nat
  up : Bool
  ct : Ct
/-- where its lists lie -/
structure RP where
  bp : Option Addr
  bc : Nat
  fp : Option Addr
  fc : Nat
  tp : Option Addr
  tc : Nat
  lp : Option Addr
  lc : Nat
abbrev RD.val (r : RD) (q : RP) : Array Value := stA (.slice q.bp r.xs.length q.bc) (.slice q.fp r.fs.length q.fc) r.n r.ph r.sent (.slice q.tp r.bt.length q.tc) (.slice q.lp r.lf.length q.lc) r.dn r.up r.ct
/-- bytes in a block that is not mg -/
def RowB (w : World) (mg : Nat) (p : Option Addr) (xs : List Int) : Prop :=
  0 < xs.length → ∃ b o cur, p = some ⟨b, o, none⟩ ∧ b ≠ mg ∧ Blk w b 5 cur ∧ ∀ i, i < xs.length → w.cell? ⟨b, o + i, none⟩ = some (.int .u8 (xs.getD i 0))
/-- flags in a block of flags -/
def RowF (w : World) (p : Option Addr) (fs : List Bool) : Prop :=
  0 < fs.length → ∃ b o cur, p = some ⟨b, o, none⟩ ∧ Blk w b 4 cur ∧ ∀ i, i < fs.length → w.cell? ⟨b, o + i, none⟩ = some (.bool (fs.getD i false))
theorem cell_of_blk {w w' : World} {b j : Nat} {T : TypeId} {cur : Array Value} (h : Blk w b T cur) (h' : Blk w' b T cur) : w'.cell? ⟨b, j, none⟩ = w.cell? ⟨b, j, none⟩ := by rw [h.cell, h'.cell]
theorem RowB.row {w : World} {mg : Nat} {p : Option Addr} {xs : List Int} (h : RowB w mg p xs) : Row w p xs := fun h0 => by
  obtain ⟨b, o, cur, e, -, -, hc⟩ := h h0
  exact ⟨b, o, e, hc⟩
theorem RowF.row {w : World} {p : Option Addr} {fs : List Bool} (h : RowF w p fs) : BRow w p fs := fun h0 => by
  obtain ⟨b, o, cur, e, -, hc⟩ := h h0
  exact ⟨b, o, e, hc⟩
theorem RowB.below {w w' : World} {mg : Nat} {p : Option Addr} {xs : List Int} (h : RowB w mg p xs) (hb : Below w.heap.size w w') : RowB w' mg p xs := fun h0 => by
  obtain ⟨b, o, cur, e, hn, hB, hc⟩ := h h0
  exact ⟨b, o, cur, e, hn, hB.grow hb, fun i hi => (cell_of_blk hB (hB.grow hb)).trans (hc i hi)⟩
theorem RowF.below {w w' : World} {p : Option Addr} {fs : List Bool} (h : RowF w p fs) (hb : Below w.heap.size w w') : RowF w' p fs := fun h0 => by
  obtain ⟨b, o, cur, e, hB, hc⟩ := h h0
  exact ⟨b, o, cur, e, hB.grow hb, fun i hi => (cell_of_blk hB (hB.grow hb)).trans (hc i hi)⟩
theorem RowB.keeps {G : Nat → Prop} {w w' : World} {mg : Nat} {p : Option Addr} {xs : List Int} (h : RowB w mg p xs) (hk : Keeps G w w') (hG : ∀ j, G j → j = mg ∨ ∃ T c, Blk w j T c ∧ T ≠ 5) : RowB w' mg p xs := fun h0 => by
  obtain ⟨b, o, cur, e, hn, hB, hc⟩ := h h0
  have hB' : Blk w' b 5 cur := hB.keeps hk (fun hg => by
    rcases hG b hg with h1 | ⟨T, c, h1, h2⟩
    · exact hn h1
    · exact blk_ne hB h1 (fun e => h2 e.symm) rfl)
  exact ⟨b, o, cur, e, hn, hB', fun i hi => (cell_of_blk hB hB').trans (hc i hi)⟩
theorem RowF.keeps {G : Nat → Prop} {w w' : World} {p : Option Addr} {fs : List Bool} (h : RowF w p fs) (hk : Keeps G w w') (hG : ∀ j, G j → ∃ T c, Blk w j T c ∧ T ≠ 4) : RowF w' p fs := fun h0 => by
  obtain ⟨b, o, cur, e, hB, hc⟩ := h h0
  have hB' : Blk w' b 4 cur := hB.keeps hk (fun hg => by
    obtain ⟨T, c, h1, h2⟩ := hG b hg
    exact blk_ne hB h1 (fun e => h2 e.symm) rfl)
  exact ⟨b, o, cur, e, hB', fun i hi => (cell_of_blk hB hB').trans (hc i hi)⟩
/-- the document's state in memory -/
structure RM (w : World) (mg : Nat) (r : RD) (q : RP) : Prop where
  xs : RowB w mg q.bp r.xs
  fs : RowF w q.fp r.fs
  bt : RowS w 0 q.tp r.bt
  lf : RowS w 0 q.lp r.lf
  hb : r.xs.length ≤ q.bc
  hf : r.fs.length ≤ q.fc
  ht : r.bt.length ≤ q.tc
  tn : q.tp = none → q.tc = 0
  hl : r.lf.length ≤ q.lc ∧ q.lc ≤ maxLen
theorem RM.below {w w' : World} {mg : Nat} {r : RD} {q : RP} (h : RM w mg r q) (hb : Below w.heap.size w w') : RM w' mg r q := ⟨h.xs.below hb, h.fs.below hb, h.bt.below hb, h.lf.below hb, h.hb, h.hf, h.ht, h.tn, h.hl⟩
theorem gp_types {w : World} {B pq mq mg rq bq : Nat} {lp : Option Addr} {lc : Nat} {s : PS} (h : PA w B pq mq mg rq bq lp lc s) {j : Nat} (hj : GP pq mg rq bq j) : (j = mg ∧ ∃ c, Blk w j 5 c) ∨ ∃ T c, Blk w j T c ∧ T ≠ 4 ∧ T ≠ 5 ∧ T ≠ 48 := by
  rcases hj with rfl | rfl | rfl | rfl
  · exact .inr ⟨_, _, h.pat, by decide, by decide, by decide⟩
  · exact .inl ⟨rfl, h.mem.blkg⟩
  · exact .inr ⟨_, _, h.rnd.blk, by decide, by decide, by decide⟩
  · exact .inr ⟨_, _, h.bat.blk, by decide, by decide, by decide⟩
theorem RM.keeps {w w' : World} {B pq mq mg rq bq : Nat} {lp : Option Addr} {lc : Nat} {s : PS} {r : RD} {q : RP} (h : RM w mg r q) (hP : PA w B pq mq mg rq bq lp lc s) (hk : Keeps (GP pq mg rq bq) w w') : RM w' mg r q := by
  refine ⟨h.xs.keeps hk (fun j hj => ?_), h.fs.keeps hk (fun j hj => ?_), h.bt.keeps hk (fun j hj => ?_), h.lf.keeps hk (fun j hj => ?_), h.hb, h.hf, h.ht, h.tn, h.hl⟩
  · rcases gp_types hP hj with ⟨e, -⟩ | ⟨T, c, h1, -, h2, -⟩
    · exact .inl e
    · exact .inr ⟨T, c, h1, h2⟩
  · rcases gp_types hP hj with ⟨-, c, h1⟩ | ⟨T, c, h1, h2, -, -⟩
    · exact ⟨5, c, h1, by decide⟩
    · exact ⟨T, c, h1, h2⟩
  · rcases gp_types hP hj with ⟨-, c, h1⟩ | ⟨T, c, h1, -, -, h2⟩
    · exact ⟨5, c, h1, by decide⟩
    · exact ⟨T, c, h1, h2⟩
  · rcases gp_types hP hj with ⟨-, c, h1⟩ | ⟨T, c, h1, -, -, h2⟩
    · exact ⟨5, c, h1, by decide⟩
    · exact ⟨T, c, h1, h2⟩

/-- Clear -/
def clrR (r : RD) : RD := if r.lf.length = 0 then { r with bt := [], ph := 0 } else { r with bt := [], ph := 1 }
def clrQ (q : RP) : RP := { q with tp := none, tc := 0 }
theorem res65 {tmps : Array Value} {W : World} {r2 : Nat} {a : Array Value} {t : Bool} (h2 : Blk W r2 66 a) (e2 : tmps.getD 2 undef = .pointer (some ⟨r2, 0, none⟩)) (e3 : tmps.getD 3 undef = .bool t) (sa : a.size = 14 := by rfl) :
    (results Try.f65 tmps).run Try.prog W = .ok (.tuple #[.agg a, .bool t]) W := by
  have l2 := run_loadVar_mid (P := Try.prog) W r2 0 66 a.toList _ h2.range Try.underlying66 rfl (by rw [Array.length_toList, sa]; kernel_rfl)
  simp only [Array.getD_eq_getD_getElem?] at e2 e3
  simp [results, asAddr, l2, e2, e3]
theorem blk_second (w : World) (T U : TypeId) (c d : Array Value) : Blk ((w.alloc (.cells c T)).alloc (.cells d U)) (w.heap.size + 1) U d := by
  have hb := Blk.new (w.alloc (.cells c T)) U d
  rw [size_one] at hb
  exact hb
abbrev stZ : Array Value := #[.slice none 0 0, .int .i64 0, .slice none 0 0, .int .u8 0, .int .u8 0, .slice none 0 0, .slice none 0 0, .int .i64 0, .bool false, .int .i64 0, .int .i64 0, .int .i64 0, .int .i64 0, .int .i64 0]
theorem below_two {w w' : World} (h : Below w.heap.size w w') (i : Nat) (v : Value) : Below w.heap.size w (w'.setCell ⟨w.heap.size, i, none⟩ v) := h.trans (below_grown (grown_setCell _ _ _ _) (Nat.le_refl _) h.size)
set_option maxRecDepth 20000 in
set_option maxHeartbeats 1000000 in
theorem rcleared_any (r : RD) (q : RP) (w : World) :
    Calls Try.prog 65 #[.agg (r.val q)] w fun e w' => e = .returned (.tuple #[.agg ((clrR r).val (clrQ q)), .bool (decide (r.lf.length = 0))]) ∧ Below w.heap.size w w' := by
  obtain ⟨xs, n, fs, ph, sent, bt, lf, dn, up, ct⟩ := r
  obtain ⟨bp, bc, fp, fc, tp, tc, lp, lc⟩ := q
  by_cases hl : lf.length = 0
  · have HC : Hid (clrR ⟨xs, n, fs, ph, sent, bt, lf, dn, up, ct⟩ = ⟨xs, n, fs, 0, sent, [], lf, dn, up, ct⟩) := if_pos hl
    have hd : decide (lf.length = 0) = true := decide_eq_true hl
    simp only [hd]
    have HD : Hid (∀ w', Below w.heap.size w w' → (Ending.returned (.tuple #[.agg ((RD.mk xs n fs 0 sent [] lf dn up ct).val (clrQ ⟨bp, bc, fp, fc, tp, tc, lp, lc⟩)), .bool true]) = Ending.returned (.tuple #[.agg ((clrR ⟨xs, n, fs, ph, sent, bt, lf, dn, up, ct⟩).val (clrQ ⟨bp, bc, fp, fc, tp, tc, lp, lc⟩)), .bool true]) ∧ Below w.heap.size w w')) := fun w' hb => ⟨by rw [HC.out], hb⟩
    clear HC hd
    go_enter Try.func65, Try.ntmps65
    go_upto_region 1 with fail
    obtain ⟨w0, hw0⟩ : ∃ w0, w0 = (w.alloc (.cells ((RD.mk xs n fs ph sent bt lf dn up ct).val ⟨bp, bc, fp, fc, tp, tc, lp, lc⟩) 66)).alloc (.cells stZ 66) := ⟨_, rfl⟩
    rw [← hw0]
    have HB1 : Hid (Blk w0 w.heap.size 66 ((RD.mk xs n fs ph sent bt lf dn up ct).val ⟨bp, bc, fp, fc, tp, tc, lp, lc⟩)) := by rw [hw0]; exact (Blk.new _ _ _).grow (new_alloc _ _)
    have HB2 : Hid (Blk w0 (w.heap.size + 1) 66 stZ) := by rw [hw0]; exact blk_second _ _ _ _ _
    have HL0 : Hid (Below w.heap.size w w0) := by rw [hw0]; exact below_alloc (new_alloc _ _) _
    clear hw0
    have c3 : w0.cell? ⟨w.heap.size, 3, none⟩ = some (.int .u8 ph) := HB1.out.cell 3
    have c5 : w0.cell? ⟨w.heap.size, 5, none⟩ = some (.slice tp bt.length tc) := HB1.out.cell 5
    have c6 : w0.cell? ⟨w.heap.size, 6, none⟩ = some (.slice lp lf.length lc) := HB1.out.cell 6
    rw [hl] at c6
    have f3 := HB1.out.free 3
    have f5 := HB1.out.free 5
    go_upto_region 6 with fail
    obtain ⟨w1, hw1⟩ : ∃ w1, w1 = (w0.setCell ⟨w.heap.size, 5, none⟩ (.slice none 0 0)).setCell ⟨w.heap.size, 3, none⟩ (.int .u8 0) := ⟨_, rfl⟩
    rw [← hw1]
    have HA1 : Hid (Blk w1 w.heap.size 66 ((RD.mk xs n fs 0 sent [] lf dn up ct).val (clrQ ⟨bp, bc, fp, fc, tp, tc, lp, lc⟩))) := by rw [hw1]; exact (HB1.out.set 5 _).set 3 _
    have HA2 : Hid (Blk w1 (w.heap.size + 1) 66 stZ) := by rw [hw1]; exact (HB2.out.other (by omega) _ _).other (by omega) _ _
    have HL1 : Hid (Below w.heap.size w w1) := by rw [hw1]; exact below_two (below_two HL0.out _ _) _ _
    clear hw1 HB1 HB2 HL0 c3 c5 c6 f3 f5
    go_wp2_with (first | (refine step_load_blk HA1.out rfl 66 _ rfl rfl _ (List.prefix_refl _) _ Try.underlying66 rfl (by kernel_rfl) ?_) | (refine step_store_blk HA2.out rfl 66 _ _ rfl rfl rfl _ rfl (by kernel_rfl) rfl (by kernel_rfl) ?_; intro w2 hb2 hk2; refine Hid.out ?_))
    refine Lib.hid ?_
    have HA3 := Hid.in hb2
    have HL3 := Hid.in (HL1.out.trans (below_grown hk2 (Nat.le_succ _) HL1.out.size))
    clear hb2 hk2
    go_wp2_with fail
    exact bodyPost_ret (res65 HA3.out rfl rfl) rfl (HD.out _ HL3.out)
  · have HC : Hid (clrR ⟨xs, n, fs, ph, sent, bt, lf, dn, up, ct⟩ = ⟨xs, n, fs, 1, sent, [], lf, dn, up, ct⟩) := if_neg hl
    have hd : decide (lf.length = 0) = false := decide_eq_false hl
    simp only [hd]
    have HD : Hid (∀ w', Below w.heap.size w w' → (Ending.returned (.tuple #[.agg ((RD.mk xs n fs 1 sent [] lf dn up ct).val (clrQ ⟨bp, bc, fp, fc, tp, tc, lp, lc⟩)), .bool false]) = Ending.returned (.tuple #[.agg ((clrR ⟨xs, n, fs, ph, sent, bt, lf, dn, up, ct⟩).val (clrQ ⟨bp, bc, fp, fc, tp, tc, lp, lc⟩)), .bool false]) ∧ Below w.heap.size w w')) := fun w' hb => ⟨by rw [HC.out], hb⟩
    clear HC hd
    go_enter Try.func65, Try.ntmps65
    go_upto_region 1 with fail
    obtain ⟨w0, hw0⟩ : ∃ w0, w0 = (w.alloc (.cells ((RD.mk xs n fs ph sent bt lf dn up ct).val ⟨bp, bc, fp, fc, tp, tc, lp, lc⟩) 66)).alloc (.cells stZ 66) := ⟨_, rfl⟩
    rw [← hw0]
    have HB1 : Hid (Blk w0 w.heap.size 66 ((RD.mk xs n fs ph sent bt lf dn up ct).val ⟨bp, bc, fp, fc, tp, tc, lp, lc⟩)) := by rw [hw0]; exact (Blk.new _ _ _).grow (new_alloc _ _)
    have HB2 : Hid (Blk w0 (w.heap.size + 1) 66 stZ) := by rw [hw0]; exact blk_second _ _ _ _ _
    have HL0 : Hid (Below w.heap.size w w0) := by rw [hw0]; exact below_alloc (new_alloc _ _) _
    clear hw0
    have c3 : w0.cell? ⟨w.heap.size, 3, none⟩ = some (.int .u8 ph) := HB1.out.cell 3
    have c5 : w0.cell? ⟨w.heap.size, 5, none⟩ = some (.slice tp bt.length tc) := HB1.out.cell 5
    have c6 : w0.cell? ⟨w.heap.size, 6, none⟩ = some (.slice lp lf.length lc) := HB1.out.cell 6
    have hl1 : 0 < lf.length := by omega
    have f3 := HB1.out.free 3
    have f5 := HB1.out.free 5
    go_upto_region 4 with fail
    obtain ⟨w1, hw1⟩ : ∃ w1, w1 = (w0.setCell ⟨w.heap.size, 5, none⟩ (.slice none 0 0)).setCell ⟨w.heap.size, 3, none⟩ (.int .u8 1) := ⟨_, rfl⟩
    rw [← hw1]
    have HA1 : Hid (Blk w1 w.heap.size 66 ((RD.mk xs n fs 1 sent [] lf dn up ct).val (clrQ ⟨bp, bc, fp, fc, tp, tc, lp, lc⟩))) := by rw [hw1]; exact (HB1.out.set 5 _).set 3 _
    have HA2 : Hid (Blk w1 (w.heap.size + 1) 66 stZ) := by rw [hw1]; exact (HB2.out.other (by omega) _ _).other (by omega) _ _
    have HL1 : Hid (Below w.heap.size w w1) := by rw [hw1]; exact below_two (below_two HL0.out _ _) _ _
    clear hw1 HB1 HB2 HL0 c3 c5 c6 f3 f5
    go_wp2_with (first | (refine step_load_blk HA1.out rfl 66 _ rfl rfl _ (List.prefix_refl _) _ Try.underlying66 rfl (by kernel_rfl) ?_) | (refine step_store_blk HA2.out rfl 66 _ _ rfl rfl rfl _ rfl (by kernel_rfl) rfl (by kernel_rfl) ?_; intro w2 hb2 hk2; refine Hid.out ?_))
    refine Lib.hid ?_
    have HA3 := Hid.in hb2
    have HL3 := Hid.in (HL1.out.trans (below_grown hk2 (Nat.le_succ _) HL1.out.size))
    clear hb2 hk2
    go_wp2_with fail
    exact bodyPost_ret (res65 HA3.out rfl rfl) rfl (HD.out _ HL3.out)
end Go.Proofs.Ytekggimgobeggaa

/- The document's patcher: Gather. -/
namespace Go.Proofs.Ytekggimgobeggaa
open Go.RowKit Go.Sort

/-- append of a whole list of sites to none -/
theorem push_none {ops : Array Oper} {rest : List Oper} {o : Oper} {a : Act} {Q : Exit → Act → World → Prop} (w : World) (hgd : o.guard = none) (s x : Operand)
    (ho : o.op = .call { callee := .builtin .append, args := #[s, x], argTypes := #[49, 49] }) (hs : a.eval s = .slice none 0 0)
    (p : Option Addr) (c : Nat) (L : List Si) (hx : a.eval x = .slice p L.length c) (hp : p = none → L.length = 0 ∧ c = 0) (hr : Row3 w p (L.map siV)) (hby : L.length * 24 ≤ 140737488355328)
    (h : ∀ v' w', TOwn 48 w' w.heap.size v' (L.map siV) → Below w.heap.size w w' → wpList Try.prog ops Q rest (a.put o.dst v') w') :
    wpList Try.prog ops Q (o :: rest) a w := by
  cases p with
  | some ad => exact push_all w hgd s x ho w.heap.size _ hs (TOwn.nil _ _ _) ad c L hx hr hby (Nat.le_refl _) (fun v' w' h1 h2 => h v' w' h1 (h2 w (below_self w)))
  | none =>
    obtain ⟨h0, h1⟩ := hp rfl
    rw [h0, h1] at hx
    obtain ⟨hu, z, hzc, hinfo⟩ := Try.elemSite
    obtain ⟨i0, hi, hz0, hz1, hz2⟩ := info_parts hinfo
    have hL : L = [] := List.eq_nil_of_length_eq_zero h0
    subst hL
    refine wpList_append_own_none hgd s x 49 ho w.heap.size 48 i0 3 hu hi _ 0 (c3 []) hs (TOwn.nil 48 w w.heap.size) hx ?_
    exact h _ _ (TOwn.nil _ _ _) (below_self _)
/-- Gather -/
def gatR (r : RD) : RD × Bool := match r.lf with
  | [] => (clrR r, true)
  | x :: l => ({ r with bt := r.bt ++ [x], lf := l, ph := if (r.bt ++ [x]).length = 4 ∨ l.length = 0 then 2 else r.ph, dn := if (r.bt ++ [x]).length = 4 ∨ l.length = 0 then 0 else r.dn }, false)
theorem res64 {tmps : Array Value} {W : World} {r2 : Nat} {a : Array Value} {t : Bool} (h2 : Blk W r2 66 a) (e2 : tmps.getD 2 undef = .pointer (some ⟨r2, 0, none⟩)) (e3 : tmps.getD 3 undef = .bool t) (sa : a.size = 14 := by rfl) :
    (results Try.f64 tmps).run Try.prog W = .ok (.tuple #[.agg a, .bool t]) W := by
  have l2 := run_loadVar_mid (P := Try.prog) W r2 0 66 a.toList _ h2.range Try.underlying66 rfl (by rw [Array.length_toList, sa]; kernel_rfl)
  simp only [Array.getD_eq_getD_getElem?] at e2 e3
  simp [results, asAddr, l2, e2, e3]
theorem TOwn.rowZ {w : World} {B : Nat} {v : Value} {L : List Si} (h : TOwn 48 w B v (L.map siV)) : ∃ p cap, v = .slice p L.length cap ∧ L.length ≤ cap ∧ RowS w 0 p L ∧ (p = none → cap = 0) := by
  obtain ⟨p, cap, e, h1, h2, h3⟩ := h.rowS
  refine ⟨p, cap, e, h1, fun h0 => ?_, fun hp => ?_⟩
  · obtain ⟨b, o, cur, e, -, h4⟩ := h3 h0
    exact ⟨b, o, cur, e, Nat.zero_le _, h4⟩
  · subst hp
    rcases h.2 with h2 | ⟨g, cap', cur, h1, h2, h3⟩
    · rw [e] at h2
      injection h2.1
    · rw [e] at h1
      injection h1 with h1 _ _
      cases h1
theorem RM.cleared {w : World} {mg : Nat} {r : RD} {q : RP} (h : RM w mg r q) : RM w mg (clrR r) (clrQ q) := by
  unfold clrR
  split
  · exact ⟨h.xs, h.fs, RowS.nil _ _ _, h.lf, h.hb, h.hf, Nat.le_refl _, fun _ => rfl, h.hl⟩
  · exact ⟨h.xs, h.fs, RowS.nil _ _ _, h.lf, h.hb, h.hf, Nat.le_refl _, fun _ => rfl, h.hl⟩
set_option maxRecDepth 20000 in
set_option maxHeartbeats 1000000 in
theorem rgathered_nil (xs : List Int) (n : Int) (fs : List Bool) (ph sent : Nat) (bt : List Si) (dn : Nat) (up : Bool) (ct : Ct) (q : RP) (w : World) :
    Calls Try.prog 64 #[.agg ((RD.mk xs n fs ph sent bt [] dn up ct).val q)] w fun e w' => e = .returned (.tuple #[.agg ((RD.mk xs n fs 0 sent [] [] dn up ct).val (clrQ q)), .bool true]) ∧ Below w.heap.size w w' := by
  have HCL := Hid.in (rcleared_any (RD.mk xs n fs ph sent bt [] dn up ct) q)
  obtain ⟨bp, bc, fp, fc, tp, tc, lp, lc⟩ := q
  go_enter Try.func64, Try.ntmps64
  go_upto_region 1 with fail
  obtain ⟨w0, hw0⟩ : ∃ w0, w0 = (w.alloc (.cells ((RD.mk xs n fs ph sent bt [] dn up ct).val ⟨bp, bc, fp, fc, tp, tc, lp, lc⟩) 66)).alloc (.cells stZ 66) := ⟨_, rfl⟩
  rw [← hw0]
  have HB1 : Hid (Blk w0 w.heap.size 66 ((RD.mk xs n fs ph sent bt [] dn up ct).val ⟨bp, bc, fp, fc, tp, tc, lp, lc⟩)) := by rw [hw0]; exact (Blk.new _ _ _).grow (new_alloc _ _)
  have HB2 : Hid (Blk w0 (w.heap.size + 1) 66 stZ) := by rw [hw0]; exact blk_second _ _ _ _ _
  have HL0 : Hid (Below w.heap.size w w0) := by rw [hw0]; exact below_alloc (new_alloc _ _) _
  have hs0 : w0.heap.size = w.heap.size + 2 := by rw [hw0, size_one, size_one]
  clear hw0
  have c6 : w0.cell? ⟨w.heap.size, 6, none⟩ = some (.slice lp 0 lc) := HB1.out.cell 6
  go_upto_region 2 with fail
  go_wp2_with (first | (refine step_load_blk HB1.out rfl 66 _ rfl rfl _ (List.prefix_refl _) _ Try.underlying66 rfl (by kernel_rfl) ?_) | (go_at_call 65; refine Hid.out ?_))
  refine Lib.hid ?_
  refine (HCL.out w0).mono ?_
  rintro e w1 ⟨rfl, hb⟩
  have HA2 := Hid.in (HB2.out.grow hb)
  have HL1 := Hid.in (below_step HL0.out hb)
  have hd : decide ((RD.mk xs n fs ph sent bt [] dn up ct).lf.length = 0) = true := rfl
  have hcr : clrR (RD.mk xs n fs ph sent bt [] dn up ct) = RD.mk xs n fs 0 sent [] [] dn up ct := rfl
  rw [hd, hcr]
  clear hb HB1 HB2 HL0 HCL c6 hd hcr hs0
  go_wp2_with (first | (refine step_store_blk HA2.out rfl 66 _ _ rfl rfl rfl _ rfl (by kernel_rfl) rfl (by kernel_rfl) ?_; intro w2 hb2 hk2; refine Hid.out ?_))
  refine Lib.hid ?_
  have HA3 := Hid.in hb2
  have HL3 := Hid.in (HL1.out.trans (below_grown hk2 (Nat.le_succ _) HL1.out.size))
  clear hb2 hk2
  go_wp2_with fail
  exact bodyPost_ret (res64 HA3.out rfl rfl) rfl ⟨rfl, HL3.out⟩
set_option maxRecDepth 20000 in
set_option maxHeartbeats 2000000 in
theorem rgathered_a (xs : List Int) (n : Int) (fs : List Bool) (ph sent : Nat) (bt : List Si) (x : Si) (l : List Si) (dn : Nat) (up : Bool) (ct : Ct) (bp : Option Addr) (bc : Nat) (fp : Option Addr) (fc : Nat) (tp : Option Addr) (tc b o lc o3 : Nat) (w : World) (ho3 : o3 = if lc = 1 then o else o + 3)
    (ht : RowS w 0 tp bt) (htn : tp = none → tc = 0) (hb4 : bt.length ≤ 4) (hl : RowS w 0 (some ⟨b, o, none⟩) (x :: l)) (_hlc : l.length + 1 ≤ lc) (hlm : lc ≤ maxLen) (hy : (bt ++ [x]).length = 4) :
    Calls Try.prog 64 #[.agg ((RD.mk xs n fs ph sent bt (x :: l) dn up ct).val ⟨bp, bc, fp, fc, tp, tc, some ⟨b, o, none⟩, lc⟩)] w fun e w' => ∃ p3 c3', e = .returned (.tuple #[.agg ((RD.mk xs n fs 2 sent (bt ++ [x]) l 0 up ct).val ⟨bp, bc, fp, fc, p3, c3', some ⟨b, o3, none⟩, lc - 1⟩), .bool false]) ∧ RowS w' 0 p3 (bt ++ [x]) ∧ (bt ++ [x]).length ≤ c3' ∧ (p3 = none → c3' = 0) ∧ Below w.heap.size w w' := by
  have HT := Hid.in ht
  have HLF := Hid.in hl
  have HTN : Hid (tp = none → bt.length = 0 ∧ tc = 0) := fun e => ⟨by
    by_cases h0 : 0 < bt.length
    · obtain ⟨_, _, _, e2, _⟩ := ht h0; rw [e] at e2; cases e2
    · omega, htn e⟩
  have HLM := Hid.in hlm
  have HO3 := Hid.in ho3
  clear ht hl htn hlm ho3
  go_enter Try.func64, Try.ntmps64
  go_upto_region 1 with fail
  obtain ⟨w0, hw0⟩ : ∃ w0, w0 = (w.alloc (.cells ((RD.mk xs n fs ph sent bt (x :: l) dn up ct).val ⟨bp, bc, fp, fc, tp, tc, some ⟨b, o, none⟩, lc⟩) 66)).alloc (.cells stZ 66) := ⟨_, rfl⟩
  rw [← hw0]
  have HB1 : Hid (Blk w0 w.heap.size 66 ((RD.mk xs n fs ph sent bt (x :: l) dn up ct).val ⟨bp, bc, fp, fc, tp, tc, some ⟨b, o, none⟩, lc⟩)) := by rw [hw0]; exact (Blk.new _ _ _).grow (new_alloc _ _)
  have HB2 : Hid (Blk w0 (w.heap.size + 1) 66 stZ) := by rw [hw0]; exact blk_second _ _ _ _ _
  have HL0 : Hid (Below w.heap.size w w0) := by rw [hw0]; exact below_alloc (new_alloc _ _) _
  have hs0 : w0.heap.size = w.heap.size + 2 := by rw [hw0, size_one, size_one]
  clear hw0
  have HT0 := Hid.in (HT.out.below HL0.out)
  have HF0 := Hid.in (HLF.out.below HL0.out)
  obtain ⟨b', o', cur, e', -, hbk, hc⟩ := HF0.out (by simp)
  injection e' with e'
  injection e' with e1 e2
  subst e1
  subst e2
  have d0 : w0.cell? ⟨b, o, none⟩ = some (.int .i64 x.key) := by have := hc 0 (by simp) 0 (by decide); simpa [l3, siV] using this
  have d1 : w0.cell? ⟨b, o + 1, none⟩ = some (.int .i64 x.at_) := by have := hc 0 (by simp) 1 (by decide); simpa [l3, siV] using this
  have d2 : w0.cell? ⟨b, o + 2, none⟩ = some (.int .i64 x.to_) := by have := hc 0 (by simp) 2 (by decide); simpa [l3, siV] using this
  have HBK := Hid.in hbk
  clear hc hbk HT HLF
  have c6 : w0.cell? ⟨w.heap.size, 6, none⟩ = some (.slice (some ⟨b, o, none⟩) (l.length + 1) lc) := HB1.out.cell 6
  have c5 : w0.cell? ⟨w.heap.size, 5, none⟩ = some (.slice tp bt.length tc) := HB1.out.cell 5
  go_upto_region 4 with fail
  go_wp2_with (refine push_none _ rfl _ _ rfl rfl tp tc bt rfl HTN.out HT0.out.row3 (by omega) ?_; intro v1 w1 ht1 hb1; refine Hid.out ?_)
  refine Lib.hid ?_
  have HB1' := Hid.in (HB1.out.grow hb1)
  have HB01 := Hid.in hb1
  have HBK1 := Hid.in (HBK.out.grow hb1)
  have HO1 := Hid.in ht1
  have HSZ := Hid.in hb1.size
  obtain ⟨q1, n1, k1, hv1⟩ : ∃ q1 n1 k1, v1 = .slice q1 n1 k1 := by obtain ⟨p, c, e, -⟩ := ht1.shape; exact ⟨_, _, _, e⟩
  subst hv1
  have g0 : w1.cell? ⟨b, o, none⟩ = some (.int .i64 x.key) := (cell_of_blk HBK.out HBK1.out).trans d0
  have g1 : w1.cell? ⟨b, o + 1, none⟩ = some (.int .i64 x.at_) := (cell_of_blk HBK.out HBK1.out).trans d1
  have g2 : w1.cell? ⟨b, o + 2, none⟩ = some (.int .i64 x.to_) := (cell_of_blk HBK.out HBK1.out).trans d2
  have g6 : w1.cell? ⟨w.heap.size, 6, none⟩ = some (.slice (some ⟨b, o, none⟩) (l.length + 1) lc) := HB1'.out.cell 6
  have g5 : w1.cell? ⟨w.heap.size, 5, none⟩ = some (.slice tp bt.length tc) := HB1'.out.cell 5
  clear ht1 hb1 HT0 d0 d1 d2 c6 c5
  go_upto_region 5 with fail
  go_wp2_with (refine tpush Try.elemSite _ rfl _ _ rfl w0.heap.size _ (bt.map siV) rfl (HO1.out.alloc _) ⟨w1.heap.size, 0, none⟩ 1 (siV x) ⟨rfl, rfl, rfl⟩ rfl (news3 _ _ _) (by rw [List.length_map]; omega) (by decide) (by rw [size_one]; have := HSZ.out; omega) ?_; intro v3 w3 ht3 hg3 hb3; refine Hid.out ?_)
  refine Lib.hid ?_
  have HB03 : Hid (Below w0.heap.size w0 w3) := hb3 w0 (HB01.out.alloc HSZ.out _)
  have hm3 : bt.map siV ++ [siV x] = (bt ++ [x]).map siV := by simp
  rw [hm3] at ht3
  obtain ⟨p3, c3', hv3, hl3, hr3, hn3⟩ := ht3.rowZ
  subst hv3
  have HR3 := Hid.in hr3
  have HN3 := Hid.in (And.intro hl3 hn3)
  have HA1 := Hid.in (HB1.out.grow HB03.out)
  have HA2 := Hid.in (HB2.out.grow HB03.out)
  have HL1 := Hid.in (below_step HL0.out HB03.out)
  clear ht3 hg3 hb3 hm3 hr3 hl3 hn3 g0 g1 g2 g5 g6 HB1' HB01 HSZ HO1 HBK1 HBK HB1 HB2 HL0 HB03 HF0 HTN
  have c3 : w3.cell? ⟨w.heap.size, 3, none⟩ = some (.int .u8 ph) := HA1.out.cell 3
  have c5 : w3.cell? ⟨w.heap.size, 5, none⟩ = some (.slice tp bt.length tc) := HA1.out.cell 5
  have c6 : w3.cell? ⟨w.heap.size, 6, none⟩ = some (.slice (some ⟨b, o, none⟩) (l.length + 1) lc) := HA1.out.cell 6
  have c7 : w3.cell? ⟨w.heap.size, 7, none⟩ = some (.int .i64 dn) := HA1.out.cell 7
  have f3 := HA1.out.free 3
  have f5 := HA1.out.free 5
  have f6 := HA1.out.free 6
  have f7 := HA1.out.free 7
  have hsl := fun W => sl_one b o l.length lc W
  rw [← HO3.out] at hsl
  have HB66 : Hid (∀ j, j = w.heap.size → Blk w3 j 66 ((RD.mk xs n fs ph sent bt (x :: l) dn up ct).val ⟨bp, bc, fp, fc, tp, tc, some ⟨b, o, none⟩, lc⟩)) := fun j hj => hj ▸ HA1.out
  obtain ⟨m, hM⟩ : ∃ m, m = (bt ++ [x]).length := ⟨_, rfl⟩
  rw [← hM] at hy
  rw [← hM]
  have HMM := Hid.in hM
  clear hM
  have hq : ((m : Int) == 4) = true := by rw [hy]; rfl
  clear hy
  go_upto_region 10 with fail
  rw [HMM.out]
  obtain ⟨w4, hw4⟩ : ∃ w4, w4 = (((w3.setCell ⟨w.heap.size, 5, none⟩ (.slice p3 (bt ++ [x]).length c3')).setCell ⟨w.heap.size, 6, none⟩ (.slice (some ⟨b, o3, none⟩) l.length (lc - 1))).setCell ⟨w.heap.size, 3, none⟩ (.int .u8 2)).setCell ⟨w.heap.size, 7, none⟩ (.int .i64 0) := ⟨_, rfl⟩
  rw [← hw4]
  have HE1 : Hid (Blk w4 w.heap.size 66 ((RD.mk xs n fs 2 sent (bt ++ [x]) l 0 up ct).val ⟨bp, bc, fp, fc, p3, c3', some ⟨b, o3, none⟩, lc - 1⟩)) := by rw [hw4]; exact ((((HA1.out.set 5 _).set 6 _).set 3 _).set 7 _)
  have HE2 : Hid (Blk w4 (w.heap.size + 1) 66 stZ) := by rw [hw4]; exact ((((HA2.out.other (by omega) _ _).other (by omega) _ _).other (by omega) _ _).other (by omega) _ _)
  have HEL : Hid (Below w.heap.size w w4) := by rw [hw4]; exact (below_two (below_two (below_two (below_two HL1.out _ _) _ _) _ _) _ _)
  have HEB : Hid (Keeps (fun j => j = w.heap.size) w3 w4) := by rw [hw4]; exact keeps_grown ((((grown_setCell _ _ _ _).trans (grown_setCell _ _ _ _)).trans (grown_setCell _ _ _ _)).trans (grown_setCell _ _ _ _))
  clear hw4 HA1 HA2 HL1 c3 c5 c6 c7 f3 f5 f6 f7 hsl
  go_wp2_with (first | (refine step_load_blk HE1.out rfl 66 _ rfl rfl _ (List.prefix_refl _) _ Try.underlying66 rfl (by kernel_rfl) ?_) | (refine step_store_blk HE2.out rfl 66 _ _ rfl rfl rfl _ rfl (by kernel_rfl) rfl (by kernel_rfl) ?_; intro w5 hb5 hk5; refine Hid.out ?_))
  refine Lib.hid ?_
  have HX1 := Hid.in hb5
  have HXL := Hid.in (HEL.out.trans (below_grown hk5 (Nat.le_succ _) HEL.out.size))
  have HXR : Hid (RowS w5 0 p3 (bt ++ [x])) := (HR3.out.keeps HEB.out (fun j hj => ⟨66, _, HB66.out j hj, by decide⟩)).keeps (keeps_grown hk5) (fun j hj => ⟨66, _, hj ▸ HE2.out, by decide⟩)
  clear hb5 hk5
  go_wp2_with fail
  exact bodyPost_ret (res64 HX1.out rfl rfl) rfl ⟨_, _, rfl, HXR.out, (by simpa using HN3.out.1), HN3.out.2, HXL.out⟩
set_option maxRecDepth 20000 in
set_option maxHeartbeats 2000000 in
theorem rgathered_b (xs : List Int) (n : Int) (fs : List Bool) (ph sent : Nat) (bt : List Si) (x : Si) (l : List Si) (dn : Nat) (up : Bool) (ct : Ct) (bp : Option Addr) (bc : Nat) (fp : Option Addr) (fc : Nat) (tp : Option Addr) (tc b o lc o3 : Nat) (w : World) (ho3 : o3 = if lc = 1 then o else o + 3)
    (ht : RowS w 0 tp bt) (htn : tp = none → tc = 0) (hb4 : bt.length ≤ 4) (hl : RowS w 0 (some ⟨b, o, none⟩) (x :: l)) (_hlc : l.length + 1 ≤ lc) (hlm : lc ≤ maxLen) (hy : (bt ++ [x]).length ≠ 4 ∧ l.length = 0) :
    Calls Try.prog 64 #[.agg ((RD.mk xs n fs ph sent bt (x :: l) dn up ct).val ⟨bp, bc, fp, fc, tp, tc, some ⟨b, o, none⟩, lc⟩)] w fun e w' => ∃ p3 c3', e = .returned (.tuple #[.agg ((RD.mk xs n fs 2 sent (bt ++ [x]) l 0 up ct).val ⟨bp, bc, fp, fc, p3, c3', some ⟨b, o3, none⟩, lc - 1⟩), .bool false]) ∧ RowS w' 0 p3 (bt ++ [x]) ∧ (bt ++ [x]).length ≤ c3' ∧ (p3 = none → c3' = 0) ∧ Below w.heap.size w w' := by
  have HT := Hid.in ht
  have HLF := Hid.in hl
  have HTN : Hid (tp = none → bt.length = 0 ∧ tc = 0) := fun e => ⟨by
    by_cases h0 : 0 < bt.length
    · obtain ⟨_, _, _, e2, _⟩ := ht h0; rw [e] at e2; cases e2
    · omega, htn e⟩
  have HLM := Hid.in hlm
  have HO3 := Hid.in ho3
  clear ht hl htn hlm ho3
  go_enter Try.func64, Try.ntmps64
  go_upto_region 1 with fail
  obtain ⟨w0, hw0⟩ : ∃ w0, w0 = (w.alloc (.cells ((RD.mk xs n fs ph sent bt (x :: l) dn up ct).val ⟨bp, bc, fp, fc, tp, tc, some ⟨b, o, none⟩, lc⟩) 66)).alloc (.cells stZ 66) := ⟨_, rfl⟩
  rw [← hw0]
  have HB1 : Hid (Blk w0 w.heap.size 66 ((RD.mk xs n fs ph sent bt (x :: l) dn up ct).val ⟨bp, bc, fp, fc, tp, tc, some ⟨b, o, none⟩, lc⟩)) := by rw [hw0]; exact (Blk.new _ _ _).grow (new_alloc _ _)
  have HB2 : Hid (Blk w0 (w.heap.size + 1) 66 stZ) := by rw [hw0]; exact blk_second _ _ _ _ _
  have HL0 : Hid (Below w.heap.size w w0) := by rw [hw0]; exact below_alloc (new_alloc _ _) _
  have hs0 : w0.heap.size = w.heap.size + 2 := by rw [hw0, size_one, size_one]
  clear hw0
  have HT0 := Hid.in (HT.out.below HL0.out)
  have HF0 := Hid.in (HLF.out.below HL0.out)
  obtain ⟨b', o', cur, e', -, hbk, hc⟩ := HF0.out (by simp)
  injection e' with e'
  injection e' with e1 e2
  subst e1
  subst e2
  have d0 : w0.cell? ⟨b, o, none⟩ = some (.int .i64 x.key) := by have := hc 0 (by simp) 0 (by decide); simpa [l3, siV] using this
  have d1 : w0.cell? ⟨b, o + 1, none⟩ = some (.int .i64 x.at_) := by have := hc 0 (by simp) 1 (by decide); simpa [l3, siV] using this
  have d2 : w0.cell? ⟨b, o + 2, none⟩ = some (.int .i64 x.to_) := by have := hc 0 (by simp) 2 (by decide); simpa [l3, siV] using this
  have HBK := Hid.in hbk
  clear hc hbk HT HLF
  have c6 : w0.cell? ⟨w.heap.size, 6, none⟩ = some (.slice (some ⟨b, o, none⟩) (l.length + 1) lc) := HB1.out.cell 6
  have c5 : w0.cell? ⟨w.heap.size, 5, none⟩ = some (.slice tp bt.length tc) := HB1.out.cell 5
  go_upto_region 4 with fail
  go_wp2_with (refine push_none _ rfl _ _ rfl rfl tp tc bt rfl HTN.out HT0.out.row3 (by omega) ?_; intro v1 w1 ht1 hb1; refine Hid.out ?_)
  refine Lib.hid ?_
  have HB1' := Hid.in (HB1.out.grow hb1)
  have HB01 := Hid.in hb1
  have HBK1 := Hid.in (HBK.out.grow hb1)
  have HO1 := Hid.in ht1
  have HSZ := Hid.in hb1.size
  obtain ⟨q1, n1, k1, hv1⟩ : ∃ q1 n1 k1, v1 = .slice q1 n1 k1 := by obtain ⟨p, c, e, -⟩ := ht1.shape; exact ⟨_, _, _, e⟩
  subst hv1
  have g0 : w1.cell? ⟨b, o, none⟩ = some (.int .i64 x.key) := (cell_of_blk HBK.out HBK1.out).trans d0
  have g1 : w1.cell? ⟨b, o + 1, none⟩ = some (.int .i64 x.at_) := (cell_of_blk HBK.out HBK1.out).trans d1
  have g2 : w1.cell? ⟨b, o + 2, none⟩ = some (.int .i64 x.to_) := (cell_of_blk HBK.out HBK1.out).trans d2
  have g6 : w1.cell? ⟨w.heap.size, 6, none⟩ = some (.slice (some ⟨b, o, none⟩) (l.length + 1) lc) := HB1'.out.cell 6
  have g5 : w1.cell? ⟨w.heap.size, 5, none⟩ = some (.slice tp bt.length tc) := HB1'.out.cell 5
  clear ht1 hb1 HT0 d0 d1 d2 c6 c5
  go_upto_region 5 with fail
  go_wp2_with (refine tpush Try.elemSite _ rfl _ _ rfl w0.heap.size _ (bt.map siV) rfl (HO1.out.alloc _) ⟨w1.heap.size, 0, none⟩ 1 (siV x) ⟨rfl, rfl, rfl⟩ rfl (news3 _ _ _) (by rw [List.length_map]; omega) (by decide) (by rw [size_one]; have := HSZ.out; omega) ?_; intro v3 w3 ht3 hg3 hb3; refine Hid.out ?_)
  refine Lib.hid ?_
  have HB03 : Hid (Below w0.heap.size w0 w3) := hb3 w0 (HB01.out.alloc HSZ.out _)
  have hm3 : bt.map siV ++ [siV x] = (bt ++ [x]).map siV := by simp
  rw [hm3] at ht3
  obtain ⟨p3, c3', hv3, hl3, hr3, hn3⟩ := ht3.rowZ
  subst hv3
  have HR3 := Hid.in hr3
  have HN3 := Hid.in (And.intro hl3 hn3)
  have HA1 := Hid.in (HB1.out.grow HB03.out)
  have HA2 := Hid.in (HB2.out.grow HB03.out)
  have HL1 := Hid.in (below_step HL0.out HB03.out)
  clear ht3 hg3 hb3 hm3 hr3 hl3 hn3 g0 g1 g2 g5 g6 HB1' HB01 HSZ HO1 HBK1 HBK HB1 HB2 HL0 HB03 HF0 HTN
  have c3 : w3.cell? ⟨w.heap.size, 3, none⟩ = some (.int .u8 ph) := HA1.out.cell 3
  have c5 : w3.cell? ⟨w.heap.size, 5, none⟩ = some (.slice tp bt.length tc) := HA1.out.cell 5
  have c6 : w3.cell? ⟨w.heap.size, 6, none⟩ = some (.slice (some ⟨b, o, none⟩) (l.length + 1) lc) := HA1.out.cell 6
  have c7 : w3.cell? ⟨w.heap.size, 7, none⟩ = some (.int .i64 dn) := HA1.out.cell 7
  have f3 := HA1.out.free 3
  have f5 := HA1.out.free 5
  have f6 := HA1.out.free 6
  have f7 := HA1.out.free 7
  have hsl := fun W => sl_one b o l.length lc W
  rw [← HO3.out] at hsl
  have HB66 : Hid (∀ j, j = w.heap.size → Blk w3 j 66 ((RD.mk xs n fs ph sent bt (x :: l) dn up ct).val ⟨bp, bc, fp, fc, tp, tc, some ⟨b, o, none⟩, lc⟩)) := fun j hj => hj ▸ HA1.out
  obtain ⟨m, hM⟩ : ∃ m, m = (bt ++ [x]).length := ⟨_, rfl⟩
  rw [← hM] at hy
  rw [← hM]
  have HMM := Hid.in hM
  clear hM
  have hq : ((m : Int) == 4) = false := by rw [beq_eq_false_iff_ne]; omega
  have hq2 : ((l.length : Int) == 0) = true := by rw [hy.2]; rfl
  clear hy
  go_upto_region 10 with fail
  rw [HMM.out]
  obtain ⟨w4, hw4⟩ : ∃ w4, w4 = (((w3.setCell ⟨w.heap.size, 5, none⟩ (.slice p3 (bt ++ [x]).length c3')).setCell ⟨w.heap.size, 6, none⟩ (.slice (some ⟨b, o3, none⟩) l.length (lc - 1))).setCell ⟨w.heap.size, 3, none⟩ (.int .u8 2)).setCell ⟨w.heap.size, 7, none⟩ (.int .i64 0) := ⟨_, rfl⟩
  rw [← hw4]
  have HE1 : Hid (Blk w4 w.heap.size 66 ((RD.mk xs n fs 2 sent (bt ++ [x]) l 0 up ct).val ⟨bp, bc, fp, fc, p3, c3', some ⟨b, o3, none⟩, lc - 1⟩)) := by rw [hw4]; exact ((((HA1.out.set 5 _).set 6 _).set 3 _).set 7 _)
  have HE2 : Hid (Blk w4 (w.heap.size + 1) 66 stZ) := by rw [hw4]; exact ((((HA2.out.other (by omega) _ _).other (by omega) _ _).other (by omega) _ _).other (by omega) _ _)
  have HEL : Hid (Below w.heap.size w w4) := by rw [hw4]; exact (below_two (below_two (below_two (below_two HL1.out _ _) _ _) _ _) _ _)
  have HEB : Hid (Keeps (fun j => j = w.heap.size) w3 w4) := by rw [hw4]; exact keeps_grown ((((grown_setCell _ _ _ _).trans (grown_setCell _ _ _ _)).trans (grown_setCell _ _ _ _)).trans (grown_setCell _ _ _ _))
  clear hw4 HA1 HA2 HL1 c3 c5 c6 c7 f3 f5 f6 f7 hsl
  go_wp2_with (first | (refine step_load_blk HE1.out rfl 66 _ rfl rfl _ (List.prefix_refl _) _ Try.underlying66 rfl (by kernel_rfl) ?_) | (refine step_store_blk HE2.out rfl 66 _ _ rfl rfl rfl _ rfl (by kernel_rfl) rfl (by kernel_rfl) ?_; intro w5 hb5 hk5; refine Hid.out ?_))
  refine Lib.hid ?_
  have HX1 := Hid.in hb5
  have HXL := Hid.in (HEL.out.trans (below_grown hk5 (Nat.le_succ _) HEL.out.size))
  have HXR : Hid (RowS w5 0 p3 (bt ++ [x])) := (HR3.out.keeps HEB.out (fun j hj => ⟨66, _, HB66.out j hj, by decide⟩)).keeps (keeps_grown hk5) (fun j hj => ⟨66, _, hj ▸ HE2.out, by decide⟩)
  clear hb5 hk5
  go_wp2_with fail
  exact bodyPost_ret (res64 HX1.out rfl rfl) rfl ⟨_, _, rfl, HXR.out, (by simpa using HN3.out.1), HN3.out.2, HXL.out⟩
set_option maxRecDepth 20000 in
set_option maxHeartbeats 2000000 in
theorem rgathered_c (xs : List Int) (n : Int) (fs : List Bool) (ph sent : Nat) (bt : List Si) (x : Si) (l : List Si) (dn : Nat) (up : Bool) (ct : Ct) (bp : Option Addr) (bc : Nat) (fp : Option Addr) (fc : Nat) (tp : Option Addr) (tc b o lc o3 : Nat) (w : World) (ho3 : o3 = if lc = 1 then o else o + 3)
    (ht : RowS w 0 tp bt) (htn : tp = none → tc = 0) (hb4 : bt.length ≤ 4) (hl : RowS w 0 (some ⟨b, o, none⟩) (x :: l)) (_hlc : l.length + 1 ≤ lc) (hlm : lc ≤ maxLen) (hy : (bt ++ [x]).length ≠ 4 ∧ l.length ≠ 0) :
    Calls Try.prog 64 #[.agg ((RD.mk xs n fs ph sent bt (x :: l) dn up ct).val ⟨bp, bc, fp, fc, tp, tc, some ⟨b, o, none⟩, lc⟩)] w fun e w' => ∃ p3 c3', e = .returned (.tuple #[.agg ((RD.mk xs n fs ph sent (bt ++ [x]) l dn up ct).val ⟨bp, bc, fp, fc, p3, c3', some ⟨b, o3, none⟩, lc - 1⟩), .bool false]) ∧ RowS w' 0 p3 (bt ++ [x]) ∧ (bt ++ [x]).length ≤ c3' ∧ (p3 = none → c3' = 0) ∧ Below w.heap.size w w' := by
  have HT := Hid.in ht
  have HLF := Hid.in hl
  have HTN : Hid (tp = none → bt.length = 0 ∧ tc = 0) := fun e => ⟨by
    by_cases h0 : 0 < bt.length
    · obtain ⟨_, _, _, e2, _⟩ := ht h0; rw [e] at e2; cases e2
    · omega, htn e⟩
  have HLM := Hid.in hlm
  have HO3 := Hid.in ho3
  clear ht hl htn hlm ho3
  go_enter Try.func64, Try.ntmps64
  go_upto_region 1 with fail
  obtain ⟨w0, hw0⟩ : ∃ w0, w0 = (w.alloc (.cells ((RD.mk xs n fs ph sent bt (x :: l) dn up ct).val ⟨bp, bc, fp, fc, tp, tc, some ⟨b, o, none⟩, lc⟩) 66)).alloc (.cells stZ 66) := ⟨_, rfl⟩
  rw [← hw0]
  have HB1 : Hid (Blk w0 w.heap.size 66 ((RD.mk xs n fs ph sent bt (x :: l) dn up ct).val ⟨bp, bc, fp, fc, tp, tc, some ⟨b, o, none⟩, lc⟩)) := by rw [hw0]; exact (Blk.new _ _ _).grow (new_alloc _ _)
  have HB2 : Hid (Blk w0 (w.heap.size + 1) 66 stZ) := by rw [hw0]; exact blk_second _ _ _ _ _
  have HL0 : Hid (Below w.heap.size w w0) := by rw [hw0]; exact below_alloc (new_alloc _ _) _
  have hs0 : w0.heap.size = w.heap.size + 2 := by rw [hw0, size_one, size_one]
  clear hw0
  have HT0 := Hid.in (HT.out.below HL0.out)
  have HF0 := Hid.in (HLF.out.below HL0.out)
  obtain ⟨b', o', cur, e', -, hbk, hc⟩ := HF0.out (by simp)
  injection e' with e'
  injection e' with e1 e2
  subst e1
  subst e2
  have d0 : w0.cell? ⟨b, o, none⟩ = some (.int .i64 x.key) := by have := hc 0 (by simp) 0 (by decide); simpa [l3, siV] using this
  have d1 : w0.cell? ⟨b, o + 1, none⟩ = some (.int .i64 x.at_) := by have := hc 0 (by simp) 1 (by decide); simpa [l3, siV] using this
  have d2 : w0.cell? ⟨b, o + 2, none⟩ = some (.int .i64 x.to_) := by have := hc 0 (by simp) 2 (by decide); simpa [l3, siV] using this
  have HBK := Hid.in hbk
  clear hc hbk HT HLF
  have c6 : w0.cell? ⟨w.heap.size, 6, none⟩ = some (.slice (some ⟨b, o, none⟩) (l.length + 1) lc) := HB1.out.cell 6
  have c5 : w0.cell? ⟨w.heap.size, 5, none⟩ = some (.slice tp bt.length tc) := HB1.out.cell 5
  go_upto_region 4 with fail
  go_wp2_with (refine push_none _ rfl _ _ rfl rfl tp tc bt rfl HTN.out HT0.out.row3 (by omega) ?_; intro v1 w1 ht1 hb1; refine Hid.out ?_)
  refine Lib.hid ?_
  have HB1' := Hid.in (HB1.out.grow hb1)
  have HB01 := Hid.in hb1
  have HBK1 := Hid.in (HBK.out.grow hb1)
  have HO1 := Hid.in ht1
  have HSZ := Hid.in hb1.size
  obtain ⟨q1, n1, k1, hv1⟩ : ∃ q1 n1 k1, v1 = .slice q1 n1 k1 := by obtain ⟨p, c, e, -⟩ := ht1.shape; exact ⟨_, _, _, e⟩
  subst hv1
  have g0 : w1.cell? ⟨b, o, none⟩ = some (.int .i64 x.key) := (cell_of_blk HBK.out HBK1.out).trans d0
  have g1 : w1.cell? ⟨b, o + 1, none⟩ = some (.int .i64 x.at_) := (cell_of_blk HBK.out HBK1.out).trans d1
  have g2 : w1.cell? ⟨b, o + 2, none⟩ = some (.int .i64 x.to_) := (cell_of_blk HBK.out HBK1.out).trans d2
  have g6 : w1.cell? ⟨w.heap.size, 6, none⟩ = some (.slice (some ⟨b, o, none⟩) (l.length + 1) lc) := HB1'.out.cell 6
  have g5 : w1.cell? ⟨w.heap.size, 5, none⟩ = some (.slice tp bt.length tc) := HB1'.out.cell 5
  clear ht1 hb1 HT0 d0 d1 d2 c6 c5
  go_upto_region 5 with fail
  go_wp2_with (refine tpush Try.elemSite _ rfl _ _ rfl w0.heap.size _ (bt.map siV) rfl (HO1.out.alloc _) ⟨w1.heap.size, 0, none⟩ 1 (siV x) ⟨rfl, rfl, rfl⟩ rfl (news3 _ _ _) (by rw [List.length_map]; omega) (by decide) (by rw [size_one]; have := HSZ.out; omega) ?_; intro v3 w3 ht3 hg3 hb3; refine Hid.out ?_)
  refine Lib.hid ?_
  have HB03 : Hid (Below w0.heap.size w0 w3) := hb3 w0 (HB01.out.alloc HSZ.out _)
  have hm3 : bt.map siV ++ [siV x] = (bt ++ [x]).map siV := by simp
  rw [hm3] at ht3
  obtain ⟨p3, c3', hv3, hl3, hr3, hn3⟩ := ht3.rowZ
  subst hv3
  have HR3 := Hid.in hr3
  have HN3 := Hid.in (And.intro hl3 hn3)
  have HA1 := Hid.in (HB1.out.grow HB03.out)
  have HA2 := Hid.in (HB2.out.grow HB03.out)
  have HL1 := Hid.in (below_step HL0.out HB03.out)
  clear ht3 hg3 hb3 hm3 hr3 hl3 hn3 g0 g1 g2 g5 g6 HB1' HB01 HSZ HO1 HBK1 HBK HB1 HB2 HL0 HB03 HF0 HTN
  have c3 : w3.cell? ⟨w.heap.size, 3, none⟩ = some (.int .u8 ph) := HA1.out.cell 3
  have c5 : w3.cell? ⟨w.heap.size, 5, none⟩ = some (.slice tp bt.length tc) := HA1.out.cell 5
  have c6 : w3.cell? ⟨w.heap.size, 6, none⟩ = some (.slice (some ⟨b, o, none⟩) (l.length + 1) lc) := HA1.out.cell 6
  have c7 : w3.cell? ⟨w.heap.size, 7, none⟩ = some (.int .i64 dn) := HA1.out.cell 7
  have f3 := HA1.out.free 3
  have f5 := HA1.out.free 5
  have f6 := HA1.out.free 6
  have f7 := HA1.out.free 7
  have hsl := fun W => sl_one b o l.length lc W
  rw [← HO3.out] at hsl
  have HB66 : Hid (∀ j, j = w.heap.size → Blk w3 j 66 ((RD.mk xs n fs ph sent bt (x :: l) dn up ct).val ⟨bp, bc, fp, fc, tp, tc, some ⟨b, o, none⟩, lc⟩)) := fun j hj => hj ▸ HA1.out
  obtain ⟨m, hM⟩ : ∃ m, m = (bt ++ [x]).length := ⟨_, rfl⟩
  rw [← hM] at hy
  rw [← hM]
  have HMM := Hid.in hM
  clear hM
  have hq : ((m : Int) == 4) = false := by rw [beq_eq_false_iff_ne]; omega
  have hq2 : ((l.length : Int) == 0) = false := by rw [beq_eq_false_iff_ne]; omega
  clear hy
  go_upto_region 10 with fail
  rw [HMM.out]
  obtain ⟨w4, hw4⟩ : ∃ w4, w4 = (w3.setCell ⟨w.heap.size, 5, none⟩ (.slice p3 (bt ++ [x]).length c3')).setCell ⟨w.heap.size, 6, none⟩ (.slice (some ⟨b, o3, none⟩) l.length (lc - 1)) := ⟨_, rfl⟩
  rw [← hw4]
  have HE1 : Hid (Blk w4 w.heap.size 66 ((RD.mk xs n fs ph sent (bt ++ [x]) l dn up ct).val ⟨bp, bc, fp, fc, p3, c3', some ⟨b, o3, none⟩, lc - 1⟩)) := by rw [hw4]; exact ((HA1.out.set 5 _).set 6 _)
  have HE2 : Hid (Blk w4 (w.heap.size + 1) 66 stZ) := by rw [hw4]; exact ((HA2.out.other (by omega) _ _).other (by omega) _ _)
  have HEL : Hid (Below w.heap.size w w4) := by rw [hw4]; exact (below_two (below_two HL1.out _ _) _ _)
  have HEB : Hid (Keeps (fun j => j = w.heap.size) w3 w4) := by rw [hw4]; exact keeps_grown ((grown_setCell _ _ _ _).trans (grown_setCell _ _ _ _))
  clear hw4 HA1 HA2 HL1 c3 c5 c6 c7 f3 f5 f6 f7 hsl
  go_wp2_with (first | (refine step_load_blk HE1.out rfl 66 _ rfl rfl _ (List.prefix_refl _) _ Try.underlying66 rfl (by kernel_rfl) ?_) | (refine step_store_blk HE2.out rfl 66 _ _ rfl rfl rfl _ rfl (by kernel_rfl) rfl (by kernel_rfl) ?_; intro w5 hb5 hk5; refine Hid.out ?_))
  refine Lib.hid ?_
  have HX1 := Hid.in hb5
  have HXL := Hid.in (HEL.out.trans (below_grown hk5 (Nat.le_succ _) HEL.out.size))
  have HXR : Hid (RowS w5 0 p3 (bt ++ [x])) := (HR3.out.keeps HEB.out (fun j hj => ⟨66, _, HB66.out j hj, by decide⟩)).keeps (keeps_grown hk5) (fun j hj => ⟨66, _, hj ▸ HE2.out, by decide⟩)
  clear hb5 hk5
  go_wp2_with fail
  exact bodyPost_ret (res64 HX1.out rfl rfl) rfl ⟨_, _, rfl, HXR.out, (by simpa using HN3.out.1), HN3.out.2, HXL.out⟩

/-- Gather, whatever is left -/
theorem rgathered_any (r : RD) (q : RP) (mg : Nat) (w : World) (h : RM w mg r q) (hb4 : r.bt.length ≤ 4) :
    Calls Try.prog 64 #[.agg (r.val q)] w fun e w' => ∃ q', e = .returned (.tuple #[.agg ((gatR r).1.val q'), .bool (gatR r).2]) ∧ RM w' mg (gatR r).1 q' ∧ Below w.heap.size w w' := by
  obtain ⟨xs, n, fs, ph, sent, bt, lf, dn, up, ct⟩ := r
  obtain ⟨bp, bc, fp, fc, tp, tc, lp, lc⟩ := q
  cases lf with
  | nil =>
    refine (rgathered_nil xs n fs ph sent bt dn up ct ⟨bp, bc, fp, fc, tp, tc, lp, lc⟩ w).mono ?_
    rintro e w' ⟨rfl, hb⟩
    exact ⟨_, rfl, (h.below hb).cleared, hb⟩
  | cons x l =>
    obtain ⟨b, o, -, rfl, -, -, -⟩ := h.lf (by simp)
    have hlc : l.length + 1 ≤ lc := h.hl.1
    obtain ⟨o3, ho3⟩ : ∃ o3, o3 = if lc = 1 then o else o + 3 := ⟨_, rfl⟩
    have htl : RowS w 0 (some ⟨b, o3, none⟩) l := by rw [ho3]; exact RowS.tail h.lf h.hl.1
    have hl2 : l.length ≤ lc - 1 ∧ lc - 1 ≤ maxLen := ⟨by omega, by have := h.hl.2; simp only at this; omega⟩
    by_cases h4 : (bt ++ [x]).length = 4
    · have hg : gatR ⟨xs, n, fs, ph, sent, bt, x :: l, dn, up, ct⟩ = (⟨xs, n, fs, 2, sent, bt ++ [x], l, 0, up, ct⟩, false) := by simp only [gatR]; rw [if_pos (.inl h4), if_pos (.inl h4)]
      rw [hg]
      refine (rgathered_a xs n fs ph sent bt x l dn up ct bp bc fp fc tp tc b o lc o3 w ho3 h.bt h.tn hb4 h.lf hlc h.hl.2 h4).mono ?_
      rintro e w' ⟨p3, c3', rfl, h1, h2, h3, h5⟩
      exact ⟨_, rfl, ⟨h.xs.below h5, h.fs.below h5, h1, htl.below h5, h.hb, h.hf, h2, h3, hl2⟩, h5⟩
    · by_cases h0 : l.length = 0
      · have hg : gatR ⟨xs, n, fs, ph, sent, bt, x :: l, dn, up, ct⟩ = (⟨xs, n, fs, 2, sent, bt ++ [x], l, 0, up, ct⟩, false) := by simp only [gatR]; rw [if_pos (.inr h0), if_pos (.inr h0)]
        rw [hg]
        refine (rgathered_b xs n fs ph sent bt x l dn up ct bp bc fp fc tp tc b o lc o3 w ho3 h.bt h.tn hb4 h.lf hlc h.hl.2 ⟨h4, h0⟩).mono ?_
        rintro e w' ⟨p3, c3', rfl, h1, h2, h3, h5⟩
        exact ⟨_, rfl, ⟨h.xs.below h5, h.fs.below h5, h1, htl.below h5, h.hb, h.hf, h2, h3, hl2⟩, h5⟩
      · have hno : ¬ ((bt ++ [x]).length = 4 ∨ l.length = 0) := fun e => e.elim h4 h0
        have hg : gatR ⟨xs, n, fs, ph, sent, bt, x :: l, dn, up, ct⟩ = (⟨xs, n, fs, ph, sent, bt ++ [x], l, dn, up, ct⟩, false) := by simp only [gatR]; rw [if_neg hno, if_neg hno]
        rw [hg]
        refine (rgathered_c xs n fs ph sent bt x l dn up ct bp bc fp fc tp tc b o lc o3 w ho3 h.bt h.tn hb4 h.lf hlc h.hl.2 ⟨h4, h0⟩).mono ?_
        rintro e w' ⟨p3, c3', rfl, h1, h2, h3, h5⟩
        exact ⟨_, rfl, ⟨h.xs.below h5, h.fs.below h5, h1, htl.below h5, h.hb, h.hf, h2, h3, hl2⟩, h5⟩
end Go.Proofs.Ytekggimgobeggaa

/- The document's patcher: the new instruction's bytes; what is written at a site in a phase. -/
namespace Go.Proofs.Ytekggimgobeggaa
open Go.RowKit Go.Sort

def four (v : Int) : List Int := [v % 256, v / 256 % 256, v / 65536 % 256, v / 16777216]
theorem four_any (v : Int) (w : World) (hv : 0 ≤ v ∧ v ≤ 4294967295) :
    Calls Try.prog 103 #[.int .u32 v] w fun e w' => ∃ g, e = .returned (.slice (some ⟨g, 0, none⟩) 4 4) ∧ Own w' w.heap.size g 4 (four v) ∧ Below w.heap.size w w' := by
  go_enter Try.func103, Try.ntmps103
  go_wp2
  go_ret
  exact ⟨_, rfl, Own.lit w (four v) (by simp [four, maxLen]), new_alloc _ _⟩
/-- the new instruction's bytes -/
def newR (x : Si) (up : Bool) : List Int := newB { x with key := dirK up }
theorem newR_len (x : Si) (up : Bool) : (newR x up).length = 5 := newB_len _
theorem newR_up (x : Si) : newR x true = 233 :: four ((x.to_ - (x.at_ + 5)) % 4294967296) := by
  unfold newR newB
  rw [if_pos (by rfl)]
  rfl
theorem newR_down (x : Si) : newR x false = [15, 31, 68, 0, 0] := by
  unfold newR newB
  rw [if_neg (show ¬ dirK false = 1 by decide)]
  decide
theorem Try.elemB : Elem 54 5 1 := ⟨by kernel_rfl, .int .u8 0, rfl, by kernel_rfl⟩
set_option maxHeartbeats 1000000 in
theorem rquiet_any (x : Si) (w : World) : Calls Try.prog 98 #[] w fun e w' => ∃ g cap, e = .returned (.slice (some ⟨g, 0, none⟩) 5 cap) ∧ Own w' w.heap.size g cap (newR x false) ∧ Below w.heap.size w w' := by
  have HN := Hid.in (newR_down x)
  go_enter Try.func98, Try.ntmps98
  go_wp2_with (first | (refine wpList_buildFlat rfl 54 5 5 _ rfl .u8 [15, 31, 68, 0, 0] Try.underlying54 (by kernel_rfl) (by kernel_rfl) rfl (by decide) (by decide) rfl ?_))
  go_ret
  exact ⟨_, _, rfl, by rw [HN.out]; exact Own.lit w [15, 31, 68, 0, 0] (by decide), new_alloc _ _⟩
theorem own_low_draw {w0 w1 : World} {A g cap : Nat} {xs : List Int} (h : Own w1 (w0.drewN 1).heap.size g cap xs) (hA : A ≤ w0.heap.size) : Own w1 A g cap xs := h.lower hA
theorem own_five {w : World} {A g cap : Nat} {xs : List Int} (h : Own w A g cap xs) (hl : xs.length = 5) : 5 ≤ cap := by rw [← hl]; exact h.cap
theorem below_of {w w1 w2 : World} {A : Nat} (h : Below A w1 w2) (k : Below w.heap.size w w1) (hA : w.heap.size ≤ A := by omega) : Below w.heap.size w w2 := k.trans (h.mono hA)
set_option maxRecDepth 20000 in
set_option maxHeartbeats 1000000 in
theorem rjump_any (x : Si) (w : World) (hx : SiB x) : Calls Try.prog 97 #[.agg (siA x)] w fun e w' => ∃ g cap, e = .returned (.slice (some ⟨g, 0, none⟩) 5 cap) ∧ Own w' w.heap.size g cap (newR x true) ∧ Below w.heap.size w w' := by
  have HN := Hid.in (newR_up x)
  obtain ⟨k, a, t⟩ := x
  obtain ⟨a0, a1, t0, t1⟩ := hx
  simp only at a0 a1 t0 t1 HN
  generalize newR ⟨k, a, t⟩ true = nr at *
  have hw1 : wrap64 (t - a) = t - a := by unfold wrap64; omega
  have hw2 : wrap64 (t - a - 5) = t - a - 5 := by unfold wrap64; omega
  have hw3 : IntKind.i32.wrap (t - a - 5) = t - a - 5 := by rw [IntKind.wrap_i32]; omega
  obtain ⟨v, hv⟩ : ∃ v, v = (t - a - 5) % 4294967296 := ⟨_, rfl⟩
  have hv0 : 0 ≤ v ∧ v ≤ 4294967295 := by omega
  have HV : Hid (nr = 233 :: four v) := by rw [HN.out, hv]; congr 3; omega
  clear HN
  go_enter Try.func97, Try.ntmps97
  go_wp2_with (go_at_call 103; refine Hid.out ?_)
  refine Lib.hid ?_
  rw [← hv]
  have H0 : Hid (Own ((w.alloc (.cells #[.int .i64 k, .int .i64 a, .int .i64 t] 48)).alloc (.cells #[.int .u8 233] 5)) (w.heap.size + 1) (w.heap.size + 1) 1 [233]) := by
    have := Own.lit (w.alloc (.cells #[.int .i64 k, .int .i64 a, .int .i64 t] 48)) [233] (by decide)
    rw [size_one] at this
    exact this
  have HL0 : Hid (Below w.heap.size w ((w.alloc (.cells #[.int .i64 k, .int .i64 a, .int .i64 t] 48)).alloc (.cells #[.int .u8 233] 5))) := below_alloc (new_alloc _ _) _
  refine (four_any v _ hv0).mono ?_
  rintro e w3 ⟨g, rfl, ho, hb⟩
  have HO := Hid.in (H0.out.below hb)
  have HL3 := Hid.in (below_step HL0.out hb)
  have HF := Hid.in ho
  have HS3 : Hid (w.heap.size + 1 ≤ w3.heap.size) := by have := hb.size; rw [size_one, size_one] at this; exact Nat.le_trans (Nat.le_succ _) this
  have HC : Hid (∀ j u, (byts (four v))[j]? = some u → w3.cell? ((⟨g, 0, none⟩ : Addr).add j) = some u) := fun j u hu => by
    have hj : j < (four v).length := by have := (List.getElem?_eq_some_iff.1 hu).1; simpa [byts] using this
    have hc := ho.cell j hj
    have e : (⟨g, 0, none⟩ : Addr).add j = ⟨g, j, none⟩ := by simp [Addr.add]; omega
    rw [e, hc, ← hu]
    simp [byts, List.getD, hj]
  clear ho hb H0 HL0 hw1 hw2 hw3 hv hv0
  go_wp2_with (at_builtin; refine wp_push _ rfl _ _ rfl (w.heap.size + 1) _ [233] rfl HO.out.val ⟨g, 0, none⟩ 4 4 (four v) rfl rfl HC.out (by decide) HS3.out ?_; intro v' w4 hown' _hgrow hbel _hnil; refine Hid.out ?_)
  refine Lib.hid ?_
  have HV4 : Hid (OwnV w4 (w.heap.size + 1) v' nr) := by rw [HV.out]; exact hown'
  have HL4 := Hid.in (below_of (hbel w3 (Below.refl _ _)) HL3.out)
  clear hown' hbel _hgrow _hnil
  obtain ⟨g5, cap5, hv5, ho5⟩ : ∃ g cap, v' = .slice (some ⟨g, 0, none⟩) 5 cap ∧ Own w4 (w.heap.size + 1) g cap nr := by
    rcases HV4.out.shape with ⟨-, h2⟩ | ⟨g, cap, h1, h2⟩
    · rw [HV.out] at h2; cases h2
    · exact ⟨g, cap, by rw [h1, HV.out]; rfl, h2⟩
  subst hv5
  have HO5 := Hid.in ho5
  clear ho5 HV4
  go_wp2_with fail
  go_ret
  exact ⟨_, _, rfl, HO5.out.lower (Nat.le_succ _), HL4.out⟩
set_option maxHeartbeats 1000000 in
theorem rnewI_any (x : Si) (up : Bool) (w : World) (hx : SiB x) : Calls Try.prog 87 #[.agg (siA x), .bool up] w fun e w' => ∃ g cap, e = .returned (.slice (some ⟨g, 0, none⟩) 5 cap) ∧ Own w' w.heap.size g cap (newR x up) ∧ Below w.heap.size w w' := by
  cases up
  · have HQ := Hid.in (rquiet_any x)
    generalize newR x false = nr at *
    go_enter Try.func87, Try.ntmps87
    go_wp2_with (go_at_call 98; refine Hid.out ?_)
    refine Lib.hid ?_
    refine (HQ.out _).mono ?_
    rintro e w3 ⟨g, cap, rfl, ho, hb⟩
    have HO := Hid.in (ho.lower (by rw [size_one]; exact Nat.le_succ w.heap.size))
    have HL := Hid.in (below_step (new_alloc _ _) hb)
    clear ho hb
    go_wp2_with fail
    go_ret
    exact ⟨_, _, rfl, HO.out, HL.out⟩
  · have HQ := Hid.in (fun W => rjump_any x W hx)
    generalize newR x true = nr at *
    go_enter Try.func87, Try.ntmps87
    go_wp2_with (go_at_call 97; refine Hid.out ?_)
    refine Lib.hid ?_
    refine (HQ.out _).mono ?_
    rintro e w3 ⟨g, cap, rfl, ho, hb⟩
    have HO := Hid.in (ho.lower (by rw [size_one]; exact Nat.le_succ w.heap.size))
    have HL := Hid.in (below_step (new_alloc _ _) hb)
    clear ho hb
    go_wp2_with fail
    go_ret
    exact ⟨_, _, rfl, HO.out, HL.out⟩
/-- what is written at a site in a phase -/
def pieceR (ph : Nat) (up : Bool) (x : Si) : Int × List Int :=
  if ph = 2 then (x.at_, [204]) else if ph = 3 then (x.at_ + 1, (newR x up).drop 1) else (x.at_, (newR x up).take 1)
set_option maxRecDepth 20000 in
set_option maxHeartbeats 2000000 in
theorem rpiece_2 (xs : List Int) (n : Int) (fs : List Bool) (sent : Nat) (bt lf : List Si) (dn : Nat) (up : Bool) (ct : Ct) (q : RP) (x : Si) (w : World) (hx : SiB x) :
    Calls Try.prog 66 #[.agg ((RD.mk xs n fs 2 sent bt lf dn up ct).val q), .agg (siA x)] w (PieceIs w x.at_ [204]) := by
  obtain ⟨bp, bc, fp, fc, tp, tc, lp, lc⟩ := q
  have HR : Hid (∀ p c w', Row w' p [204] → Below w.heap.size w w' → PieceIs w x.at_ [204] (.returned (.tuple #[.int .i64 x.at_, .slice p 1 c])) w') := fun p c w' hr hb => ⟨p, c, rfl, hr, hb⟩
  generalize PieceIs w x.at_ [204] = R at *
  obtain ⟨k, a, t⟩ := x
  go_enter Try.func66, Try.ntmps66
  go_upto_region 1 with fail
  obtain ⟨w0, hw0⟩ : ∃ w0, w0 = (w.alloc (.cells ((RD.mk xs n fs 2 sent bt lf dn up ct).val ⟨bp, bc, fp, fc, tp, tc, lp, lc⟩) 66)).alloc (.cells #[.int .i64 k, .int .i64 a, .int .i64 t] 48) := ⟨_, rfl⟩
  rw [← hw0]
  have HB1 : Hid (Blk w0 w.heap.size 66 ((RD.mk xs n fs 2 sent bt lf dn up ct).val ⟨bp, bc, fp, fc, tp, tc, lp, lc⟩)) := by rw [hw0]; exact (Blk.new _ _ _).grow (new_alloc _ _)
  have HB2 : Hid (Blk w0 (w.heap.size + 1) 48 #[.int .i64 k, .int .i64 a, .int .i64 t]) := by rw [hw0]; exact blk_second _ _ _ _ _
  have HL0 : Hid (Below w.heap.size w w0) := by rw [hw0]; exact below_alloc (new_alloc _ _) _
  clear hw0
  have c3 : w0.cell? ⟨w.heap.size, 3, none⟩ = some (.int .u8 2) := HB1.out.cell 3
  have c8 : w0.cell? ⟨w.heap.size, 8, none⟩ = some (.bool up) := HB1.out.cell 8
  have x0 : w0.cell? ⟨w.heap.size + 1, 0, none⟩ = some (.int .i64 k) := HB2.out.cell 0
  have x1 : w0.cell? ⟨w.heap.size + 1, 1, none⟩ = some (.int .i64 a) := HB2.out.cell 1
  have x2 : w0.cell? ⟨w.heap.size + 1, 2, none⟩ = some (.int .i64 t) := HB2.out.cell 2
  clear hx
  go_wp2_with fail
  exact HR.out _ _ _ (Own.lit w0 [204] (by decide)).row (below_step HL0.out (new_alloc _ _))
set_option maxRecDepth 20000 in
set_option maxHeartbeats 2000000 in
theorem rpiece_3 (xs : List Int) (n : Int) (fs : List Bool) (sent : Nat) (bt lf : List Si) (dn : Nat) (up : Bool) (ct : Ct) (q : RP) (x : Si) (w : World) (hx : SiB x) :
    Calls Try.prog 66 #[.agg ((RD.mk xs n fs 3 sent bt lf dn up ct).val q), .agg (siA x)] w (PieceIs w (x.at_ + 1) ((newR x up).drop 1)) := by
  obtain ⟨bp, bc, fp, fc, tp, tc, lp, lc⟩ := q
  have HR : Hid (∀ g cap w1, Own w1 w.heap.size g cap (newR x up) → Below w.heap.size w w1 → PieceIs w (x.at_ + 1) ((newR x up).drop 1) (.returned (.tuple #[.int .i64 (x.at_ + 1), .slice (some ⟨g, 1, none⟩) 4 (cap - 1)])) w1) := fun g cap w1 ho hb => by
    have hl := newR_len x up
    exact ⟨_, _, by rw [List.length_drop, hl], ho.row.tail (by omega), hb⟩
  have HL := Hid.in (newR_len x up)
  have HSB := Hid.in hx
  have hb0 := hx.a0
  have hb1 := hx.a1
  have hin := fun W => rnewI_any x up W HSB.out
  generalize PieceIs w (x.at_ + 1) ((newR x up).drop 1) = R at *
  obtain ⟨k, a, t⟩ := x
  simp only at hb0 hb1
  have hwa : IntKind.i64.wrap (a + 1) = a + 1 := by rw [IntKind.wrap_i64]; omega
  go_enter Try.func66, Try.ntmps66
  go_upto_region 1 with fail
  obtain ⟨w0, hw0⟩ : ∃ w0, w0 = (w.alloc (.cells ((RD.mk xs n fs 3 sent bt lf dn up ct).val ⟨bp, bc, fp, fc, tp, tc, lp, lc⟩) 66)).alloc (.cells #[.int .i64 k, .int .i64 a, .int .i64 t] 48) := ⟨_, rfl⟩
  rw [← hw0]
  have HB1 : Hid (Blk w0 w.heap.size 66 ((RD.mk xs n fs 3 sent bt lf dn up ct).val ⟨bp, bc, fp, fc, tp, tc, lp, lc⟩)) := by rw [hw0]; exact (Blk.new _ _ _).grow (new_alloc _ _)
  have HB2 : Hid (Blk w0 (w.heap.size + 1) 48 #[.int .i64 k, .int .i64 a, .int .i64 t]) := by rw [hw0]; exact blk_second _ _ _ _ _
  have HL0 : Hid (Below w.heap.size w w0) := by rw [hw0]; exact below_alloc (new_alloc _ _) _
  clear hw0
  have c3 : w0.cell? ⟨w.heap.size, 3, none⟩ = some (.int .u8 3) := HB1.out.cell 3
  have c8 : w0.cell? ⟨w.heap.size, 8, none⟩ = some (.bool up) := HB1.out.cell 8
  have x0 : w0.cell? ⟨w.heap.size + 1, 0, none⟩ = some (.int .i64 k) := HB2.out.cell 0
  have x1 : w0.cell? ⟨w.heap.size + 1, 1, none⟩ = some (.int .i64 a) := HB2.out.cell 1
  have x2 : w0.cell? ⟨w.heap.size + 1, 2, none⟩ = some (.int .i64 t) := HB2.out.cell 2
  go_upto_region 5 with fail
  have HK : Hid (∀ W, Below w0.heap.size w0 W → W.cell? ⟨w.heap.size, 8, none⟩ = some (.bool up) ∧ W.cell? ⟨w.heap.size + 1, 0, none⟩ = some (.int .i64 k) ∧ W.cell? ⟨w.heap.size + 1, 1, none⟩ = some (.int .i64 a) ∧ W.cell? ⟨w.heap.size + 1, 2, none⟩ = some (.int .i64 t)) := fun W hb => ⟨(HB1.out.grow hb).cell 8, (HB2.out.grow hb).cell 0, (HB2.out.grow hb).cell 1, (HB2.out.grow hb).cell 2⟩
  go_region_held3 (fun W => W.cell? ⟨w.heap.size, 8, none⟩ = some (.bool up) ∧ W.cell? ⟨w.heap.size + 1, 0, none⟩ = some (.int .i64 k) ∧ W.cell? ⟨w.heap.size + 1, 1, none⟩ = some (.int .i64 a) ∧ W.cell? ⟨w.heap.size + 1, 2, none⟩ = some (.int .i64 t)) (first | go_keep | exact hk3)
    (first | (go_at_call 87; refine (hin _).mono ?_; rintro e w3 ⟨g, cap, rfl, ho, hb⟩; have HB3 := Hid.in (below_step (below_draws (below_self w0) 1) hb); have hk3 := HK.out w3 HB3.out; have HO := Hid.in (own_low_draw ho HL0.out.size); have hc5 : 5 ≤ cap := own_five HO.out HL.out; have hs5 := fun W => sl_lo g cap hc5 W; clear ho hb))
  have HL3 := Hid.in (below_step HL0.out HB3.out)
  clear hs5 hk3
  go_wp2_with fail
  exact HR.out g cap w3 HO.out HL3.out
set_option maxRecDepth 20000 in
set_option maxHeartbeats 2000000 in
theorem rpiece_4 (xs : List Int) (n : Int) (fs : List Bool) (ph : Nat) (sent : Nat) (bt lf : List Si) (dn : Nat) (up : Bool) (ct : Ct) (q : RP) (x : Si) (w : World) (hx : SiB x) (h2 : ph ≠ 2) (h3 : ph ≠ 3) :
    Calls Try.prog 66 #[.agg ((RD.mk xs n fs ph sent bt lf dn up ct).val q), .agg (siA x)] w (PieceIs w x.at_ ((newR x up).take 1)) := by
  obtain ⟨bp, bc, fp, fc, tp, tc, lp, lc⟩ := q
  have HR : Hid (∀ g cap w1, Own w1 w.heap.size g cap (newR x up) → Below w.heap.size w w1 → PieceIs w x.at_ ((newR x up).take 1) (.returned (.tuple #[.int .i64 x.at_, .slice (some ⟨g, 0, none⟩) 1 cap])) w1) := fun g cap w1 ho hb => by
    have hl := newR_len x up
    exact ⟨_, _, by rw [List.length_take, hl]; rfl, ho.row.head (by omega), hb⟩
  have HL := Hid.in (newR_len x up)
  have HSB := Hid.in hx
  have hb0 := hx.a0
  have hb1 := hx.a1
  have hin := fun W => rnewI_any x up W HSB.out
  generalize PieceIs w x.at_ ((newR x up).take 1) = R at *
  obtain ⟨k, a, t⟩ := x
  simp only at hb0 hb1
  have g2 : ((ph : Int) == 2) = false := by rw [beq_eq_false_iff_ne]; omega
  have g3 : ((ph : Int) == 3) = false := by rw [beq_eq_false_iff_ne]; omega
  clear h2 h3
  go_enter Try.func66, Try.ntmps66
  go_upto_region 1 with fail
  obtain ⟨w0, hw0⟩ : ∃ w0, w0 = (w.alloc (.cells ((RD.mk xs n fs ph sent bt lf dn up ct).val ⟨bp, bc, fp, fc, tp, tc, lp, lc⟩) 66)).alloc (.cells #[.int .i64 k, .int .i64 a, .int .i64 t] 48) := ⟨_, rfl⟩
  rw [← hw0]
  have HB1 : Hid (Blk w0 w.heap.size 66 ((RD.mk xs n fs ph sent bt lf dn up ct).val ⟨bp, bc, fp, fc, tp, tc, lp, lc⟩)) := by rw [hw0]; exact (Blk.new _ _ _).grow (new_alloc _ _)
  have HB2 : Hid (Blk w0 (w.heap.size + 1) 48 #[.int .i64 k, .int .i64 a, .int .i64 t]) := by rw [hw0]; exact blk_second _ _ _ _ _
  have HL0 : Hid (Below w.heap.size w w0) := by rw [hw0]; exact below_alloc (new_alloc _ _) _
  clear hw0
  have c3 : w0.cell? ⟨w.heap.size, 3, none⟩ = some (.int .u8 ph) := HB1.out.cell 3
  have c8 : w0.cell? ⟨w.heap.size, 8, none⟩ = some (.bool up) := HB1.out.cell 8
  have x0 : w0.cell? ⟨w.heap.size + 1, 0, none⟩ = some (.int .i64 k) := HB2.out.cell 0
  have x1 : w0.cell? ⟨w.heap.size + 1, 1, none⟩ = some (.int .i64 a) := HB2.out.cell 1
  have x2 : w0.cell? ⟨w.heap.size + 1, 2, none⟩ = some (.int .i64 t) := HB2.out.cell 2
  go_upto_region 6 with fail
  have HK : Hid (∀ W, Below w0.heap.size w0 W → W.cell? ⟨w.heap.size, 8, none⟩ = some (.bool up) ∧ W.cell? ⟨w.heap.size + 1, 0, none⟩ = some (.int .i64 k) ∧ W.cell? ⟨w.heap.size + 1, 1, none⟩ = some (.int .i64 a) ∧ W.cell? ⟨w.heap.size + 1, 2, none⟩ = some (.int .i64 t)) := fun W hb => ⟨(HB1.out.grow hb).cell 8, (HB2.out.grow hb).cell 0, (HB2.out.grow hb).cell 1, (HB2.out.grow hb).cell 2⟩
  go_region_held3 (fun W => W.cell? ⟨w.heap.size, 8, none⟩ = some (.bool up) ∧ W.cell? ⟨w.heap.size + 1, 0, none⟩ = some (.int .i64 k) ∧ W.cell? ⟨w.heap.size + 1, 1, none⟩ = some (.int .i64 a) ∧ W.cell? ⟨w.heap.size + 1, 2, none⟩ = some (.int .i64 t)) (first | go_keep | exact hk3)
    (first | (go_at_call 87; refine (hin _).mono ?_; rintro e w3 ⟨g, cap, rfl, ho, hb⟩; have HB3 := Hid.in (below_step (below_draws (below_self w0) 1) hb); have hk3 := HK.out w3 HB3.out; have HO := Hid.in (own_low_draw ho HL0.out.size); have hc5 : 5 ≤ cap := own_five HO.out HL.out; have hs5 := fun W => sl_hi g cap hc5 W; clear ho hb))
  have HL3 := Hid.in (below_step HL0.out HB3.out)
  clear hs5 hk3
  go_wp2_with fail
  exact HR.out g cap w3 HO.out HL3.out
theorem rpiece_any (r : RD) (q : RP) (x : Si) (w : World) (hx : SiB x) : Calls Try.prog 66 #[.agg (r.val q), .agg (siA x)] w (PieceIs w (pieceR r.ph r.up x).1 (pieceR r.ph r.up x).2) := by
  obtain ⟨xs, n, fs, ph, sent, bt, lf, dn, up, ct⟩ := r
  unfold pieceR
  by_cases h2 : ph = 2
  · subst h2
    exact rpiece_2 xs n fs sent bt lf dn up ct q x w hx
  · by_cases h3 : ph = 3
    · subst h3
      exact rpiece_3 xs n fs sent bt lf dn up ct q x w hx
    · rw [if_neg h2, if_neg h3]
      exact rpiece_4 xs n fs ph sent bt lf dn up ct q x w hx h2 h3
end Go.Proofs.Ytekggimgobeggaa
