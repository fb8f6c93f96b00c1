/- Texts put together: AloW, AwkP. -/
import Derived.Test.YtekggimgobeggaaGd
import Derived.Test.YtekggimgobeggaaSame
import Derived.Great.BuildSlice

/- alone: one site of a small memory. -/
namespace Go.Proofs.Ytekggimgobeggaa
open Go.RowKit Go.Sort

/-- the state of the chapter's example, behind Start -/
def alP : PS := ⟨[⟨0, 4, 12⟩], true, 1, 0, 0, ⟨1, 0, 0, 1, 0⟩, [], List.replicate 16 0, [false], 0⟩
theorem al_start : strP (newP (List.replicate 16 0) [false] 0) [⟨0, 4, 12⟩] true = (alP, 0) := by kernel_rfl
theorem wp_make16 {ops : Array Oper} {rest : List Oper} {o : Oper} {a : Act} {w : World} {Q : Exit → Act → World → Prop} (hg : o.guard = none) (s1 s2 : Operand) (ho : o.op = .makeSlice 54 s1 s2) (n : Nat) (h1 : a.eval s1 = .int .i64 n) (h2 : a.eval s2 = .int .i64 n) (hn : n ≤ 1048576)
    (h : ∀ w1, Hid (Own w1 w.heap.size w.heap.size n (List.replicate n 0)) → Hid (Below w.heap.size w w1) → wpList Try.prog ops Q rest (a.put o.dst (.slice (some ⟨w.heap.size, 0, none⟩) n n)) w1) : wpList Try.prog ops Q (o :: rest) a w := by
  obtain ⟨i0, hi, hz0, hz1, hz2⟩ := info_parts Try.info5
  refine wpList_make_full _ hg s1 s2 54 ho _ 5 i0 (.int .u8 0) 1 Try.underlying54 hi hz0 hz1 _ _ _ _ n h1 h2 rfl rfl (by rw [hz2]; omega) (by unfold maxLen; omega) (Nat.le_refl _) ?_
  intro w1 hown hgrow
  refine h w1 ?_ ((Below.refl w.heap.size w).grown hgrow (Nat.le_refl _) (by simp))
  rw [show (Value.int .u8 0).cells = #[Value.int .u8 0] from rfl, toList_madeCells_one] at hown
  show w1.ownsRow _ _ _ _ _ _
  have e : (List.replicate n (0 : Int)).length = n := by simp
  rw [e]
  simpa [byts] using hown
theorem res8 {tmps : Array Value} {W : World} {r0 : Nat} {a : Array Value} {t : Bool} (h0 : Blk W r0 26 a) (e0 : tmps.getD 0 undef = .pointer (some ⟨r0, 0, none⟩)) (e1 : tmps.getD 1 undef = .bool t) (sa : a.size = 3 := by rfl) :
    (results Try.f8 tmps).run Try.prog W = .ok (.tuple #[.agg a, .bool t]) W := by
  have l0 := run_loadVar_mid (P := Try.prog) W r0 0 26 a.toList _ h0.range Try.underlying26 rfl (by rw [Array.length_toList, sa]; kernel_rfl)
  simp only [Array.getD_eq_getD_getElem?] at e0 e1
  simp [results, asAddr, l0, e0, e1]
set_option maxRecDepth 20000 in
set_option maxHeartbeats 4000000 in
theorem alone_any (w : World) : Calls Try.prog 8 #[] w fun e w' => ∃ mq mg rq pq bq lp lc, e = .returned (.tuple #[.agg (wA mq rq pq), .bool true]) ∧ PA w' w.heap.size pq mq mg rq bq lp lc alP ∧ Below w.heap.size w w' := by
  go_enter Try.func8, Try.ntmps8
  go_upto_region 1 with fail
  obtain ⟨wa, hwa⟩ : ∃ wa, wa = w.alloc (.cells #[.pointer none, .pointer none, .pointer none] 26) := ⟨_, rfl⟩
  rw [← hwa]
  have HBa : Hid (Below w.heap.size w wa) := by rw [hwa]; exact new_alloc _ _
  have HR0 : Hid (Blk wa w.heap.size 26 #[.pointer none, .pointer none, .pointer none]) := by rw [hwa]; exact Blk.new _ _ _
  clear hwa
  go_wp2_with (refine wp_make16 rfl _ _ rfl 16 rfl rfl (by decide) ?_; intro w1 HO1 HB1; refine Hid.out ?_)
  refine Lib.hid ?_
  go_wp2_with (go_at_call 20; refine Hid.out ?_)
  refine Lib.hid ?_
  refine (made_any (some ⟨wa.heap.size, 0, none⟩) 16 16 (List.replicate 16 0) 1 w1 rfl (by decide) (by decide) HO1.out.row).mono ?_
  rintro e w2 ⟨k, mq, mg, rq, pq, bq, bv, g, hk, -, rfl, hP, hO, -, hb⟩
  have hk1 : k = 1 := hk.trans (by decide)
  subst hk1
  have HP2 : Hid (PA w2 w1.heap.size pq mq mg rq bq none 0 (newP (List.replicate 16 0) [false] 0)) := hP
  have HB2 := Hid.in (below_step HB1.out hb)
  have HZ1 : Hid (wa.heap.size ≤ w1.heap.size) := HB1.out.size
  have HBM : Hid (w1.heap.size ≤ w2.heap.size) := hb.size
  obtain ⟨bp, bc, hbv, -, -⟩ := hO.slice
  subst hbv
  clear hP hO hb hk HO1 HB1
  have HZ66 : Hid (Blk ((w2.alloc (.cells (wA mq rq pq) 26)).alloc (.cells #[.slice none 0 0, .int .i64 0, .slice none 0 0, .int .u8 0, .int .u8 0, .slice none 0 0, .slice none 0 0, .int .i64 0, .bool false, .int .i64 0, .int .i64 0, .int .i64 0, .int .i64 0, .int .i64 0] 66)) (w2.heap.size + 1) 66 #[.slice none 0 0, .int .i64 0, .slice none 0 0, .int .u8 0, .int .u8 0, .slice none 0 0, .slice none 0 0, .int .i64 0, .bool false, .int .i64 0, .int .i64 0, .int .i64 0, .int .i64 0, .int .i64 0]) := by
    have hb := Blk.new (w2.alloc (.cells (wA mq rq pq) 26)) 66 #[.slice none 0 0, .int .i64 0, .slice none 0 0, .int .u8 0, .int .u8 0, .slice none 0 0, .slice none 0 0, .int .i64 0, .bool false, .int .i64 0, .int .i64 0, .int .i64 0, .int .i64 0, .int .i64 0]
    rw [size_one] at hb
    exact hb
  have HX0 : Hid (Blk ((w2.alloc (.cells (wA mq rq pq) 26)).alloc (.cells #[.slice none 0 0, .int .i64 0, .slice none 0 0, .int .u8 0, .int .u8 0, .slice none 0 0, .slice none 0 0, .int .i64 0, .bool false, .int .i64 0, .int .i64 0, .int .i64 0, .int .i64 0, .int .i64 0] 66)) w2.heap.size 26 (wA mq rq pq)) := (Blk.new _ _ _).grow (new_alloc _ _)
  have HL0 : Hid (Below w2.heap.size w2 ((w2.alloc (.cells (wA mq rq pq) 26)).alloc (.cells #[.slice none 0 0, .int .i64 0, .slice none 0 0, .int .u8 0, .int .u8 0, .slice none 0 0, .slice none 0 0, .int .i64 0, .bool false, .int .i64 0, .int .i64 0, .int .i64 0, .int .i64 0, .int .i64 0] 66))) := below_alloc (new_alloc _ _) _
  go_wp2_with (refine step_store_blk HZ66.out rfl 66 _ _ rfl rfl rfl (stA (.slice bp 16 bc) (.slice (some ⟨g, 0, none⟩) 1 1) 0 0 0 (.slice none 0 0) (.slice none 0 0) 0 false ⟨0, 0, 0, 0, 0⟩) rfl (by kernel_rfl) rfl (by kernel_rfl) ?_; intro w3 hb3 hg3; refine Hid.out ?_)
  refine Lib.hid ?_
  have HX3 := Hid.in (HX0.out.kept hg3 (fun e => by injection e with e; omega))
  have HL3 : Hid (Below w2.heap.size w2 w3) := HL0.out.trans (below_grown hg3 (Nat.le_succ _) HL0.out.size)
  have HP3 := Hid.in (HP2.out.below HL3.out)
  have HB13' : Hid (w1.heap.size ≤ w3.heap.size) := Nat.le_trans HBM.out HL3.out.size
  have HB3 := Hid.in (below_step (below_step HBa.out HB2.out) HL3.out)
  have HR3 := Hid.in ((HR0.out.grow HB2.out).grow HL3.out)
  have HN0 : Hid (w.heap.size < wa.heap.size) := HR0.out.lt
  have HZ2 : Hid (wa.heap.size ≤ w2.heap.size) := HB2.out.size
  clear hb3 hg3 HZ66 HX0 HL0 HP2 HB2 HR0 HL3
  have HB1w : Hid (w.heap.size ≤ w1.heap.size) := Nat.le_trans (Nat.le_of_lt HN0.out) HZ1.out
  have HB13 : Hid (w1.heap.size ≤ w3.heap.size) := HB13'.out
  clear HB13'
  generalize w2.heap.size = r2 at *
  go_upto_region 2 with fail
  refine wp_region_noPanic ?_
  refine wp_region_G (fun W => Blk W r2 26 (wA mq rq pq)) [] (by kernel_rfl) ?_
  refine wpAnyG_takeS (i := 0) (v := .agg (wA mq rq pq)) rfl (by kernel_rfl) (by kernel_rfl) (by kernel_rfl) (by kernel_rfl) (fun _ _ _ _ _ h => h) (Closed.start _) (by kernel_rfl) HX3.out (fun W hW => by
    have q0 : W.cell? ⟨r2, 0, none⟩ = some (.pointer (some ⟨mq, 0, none⟩)) := (hW.cell 0).trans rfl
    have q1 : W.cell? ⟨r2, 1, none⟩ = some (.pointer (some ⟨rq, 0, none⟩)) := (hW.cell 1).trans rfl
    have q2 : W.cell? ⟨r2, 2, none⟩ = some (.pointer (some ⟨pq, 0, none⟩)) := (hW.cell 2).trans rfl
    clear hW
    go_simp) ?_
  go_simp
  refine wpAnyG_takeW (i := 1) (v := .bool true) rfl (by kernel_rfl) (by kernel_rfl) (by kernel_rfl) (fun _ _ _ h => h) (Closed.step (j := 0) (Closed.start _) (by kernel_rfl)) (by kernel_rfl) (fun W => by go_simp) ?_
  go_simp
  refine wpAnyG_takeW (i := 2) (v := .bool true) rfl (by kernel_rfl) (by kernel_rfl) (by kernel_rfl) (fun _ _ _ h => h) (Closed.step (j := 1) (Closed.step (j := 0) (Closed.start _) (by kernel_rfl)) (by kernel_rfl)) (by kernel_rfl) (fun W => by go_simp) ?_
  go_simp
  refine wpAnyG_takeW (i := 3) (v := .pointer (some ⟨r2, 2, none⟩)) rfl (by kernel_rfl) (by kernel_rfl) (by kernel_rfl) (fun _ _ _ h => h) (Closed.step (j := 2) (Closed.step (j := 1) (Closed.step (j := 0) (Closed.start _) (by kernel_rfl)) (by kernel_rfl)) (by kernel_rfl)) (by kernel_rfl) (fun W => by go_simp) ?_
  go_simp
  refine wpAnyG_takeS (i := 4) (v := .pointer (some ⟨pq, 0, none⟩)) rfl (by kernel_rfl) (by kernel_rfl) (by kernel_rfl) (by kernel_rfl) (fun _ _ _ _ _ h => h) (Closed.step (j := 3) (Closed.step (j := 2) (Closed.step (j := 1) (Closed.step (j := 0) (Closed.start _) (by kernel_rfl)) (by kernel_rfl)) (by kernel_rfl)) (by kernel_rfl)) (by kernel_rfl) HX3.out (fun W hW => by
    have q0 : W.cell? ⟨r2, 0, none⟩ = some (.pointer (some ⟨mq, 0, none⟩)) := (hW.cell 0).trans rfl
    have q1 : W.cell? ⟨r2, 1, none⟩ = some (.pointer (some ⟨rq, 0, none⟩)) := (hW.cell 1).trans rfl
    have q2 : W.cell? ⟨r2, 2, none⟩ = some (.pointer (some ⟨pq, 0, none⟩)) := (hW.cell 2).trans rfl
    clear hW
    go_simp) ?_
  go_simp
  refine wpAnyG_takeW (i := 5) (v := .agg #[.int .i64 0, .int .i64 4, .int .i64 12]) rfl (by kernel_rfl) (by kernel_rfl) (by kernel_rfl) (fun _ _ _ h => h) (Closed.step (j := 4) (Closed.step (j := 3) (Closed.step (j := 2) (Closed.step (j := 1) (Closed.step (j := 0) (Closed.start _) (by kernel_rfl)) (by kernel_rfl)) (by kernel_rfl)) (by kernel_rfl)) (by kernel_rfl)) (by kernel_rfl) (fun W => by go_simp) ?_
  go_simp
  refine wpAnyG_one (i := 6) (by kernel_rfl) rfl (fun K hK => ?_)
  go_simp
  obtain ⟨w4, hw4⟩ : ∃ w4, w4 = (w3.alloc (.cells #[.int .i64 0, .int .i64 4, .int .i64 12] 48)).drew := ⟨_, rfl⟩
  rw [← hw4]
  have HL4 : Hid (Below w3.heap.size w3 w4) := by rw [hw4]; exact (new_alloc _ _).drew
  have HS4 : Hid (Blk w4 w3.heap.size 48 #[.int .i64 0, .int .i64 4, .int .i64 12]) := by rw [hw4]; exact Blk.new w3 48 _
  clear hw4
  have HX4 := Hid.in (HX3.out.grow HL4.out)
  have HP4 := Hid.in (HP3.out.below HL4.out)
  have HB4 := Hid.in (below_step HB3.out HL4.out)
  have HR4 := Hid.in (HR3.out.grow HL4.out)
  have HZ4 : Hid (w1.heap.size ≤ w4.heap.size) := Nat.le_trans HB13.out HL4.out.size
  have HRW : Hid (Row3 w4 (some ⟨w3.heap.size, 0, none⟩) ([(⟨0, 4, 12⟩ : Si)].map siV)) := fun _ => ⟨w3.heap.size, 0, rfl, fun i hi j hj => by
    have hi' : i < 1 := hi
    obtain rfl : i = 0 := by omega
    rw [HS4.out.cell]
    rcases (by omega : j = 0 ∨ j = 1 ∨ j = 2) with rfl | rfl | rfl <;> rfl⟩
  clear HX3 HP3 HB3 HR3 HS4
  refine hK.out _ _ HX4.out (fun _ => ?_)
  clear hK
  refine wpAnyG_one (i := 7) (by kernel_rfl) rfl (fun K hK => ?_)
  go_simp
  go_at_call 13
  have hst := pstart_any w1.heap.size pq mq mg rq bq none 0 (newP (List.replicate 16 0) [false] 0) (some ⟨w3.heap.size, 0, none⟩) 1 [⟨0, 4, 12⟩] true w4 HP4.out HZ4.out (by decide) (by decide) (fun e => by cases e) HRW.out
  rw [al_start] at hst
  refine hst.mono ?_
  rintro e w5 ⟨lp, lc, rfl, hp5, hk5⟩
  obtain ⟨cg, hcg⟩ := HP4.out.mem.blkg
  have hG : ∀ {j : Nat} {c : Array Value}, Blk w4 j 26 c → ¬ GP pq mg rq bq j := fun hb hj => by
    rcases hj with e | e | e | e
    · exact blk_ne hb HP4.out.pat (by decide) e
    · exact blk_ne hb hcg (by decide) e
    · exact blk_ne hb HP4.out.rnd.blk (by decide) e
    · exact blk_ne hb HP4.out.bat.blk (by decide) e
  have HX5 := Hid.in (HX4.out.keeps hk5 (hG HX4.out))
  have HR5 := Hid.in (HR4.out.keeps hk5 (hG HR4.out))
  have HP5 := Hid.in hp5
  have HGE : Hid (∀ j, GP pq mg rq bq j → w.heap.size ≤ j) := fun j hj => by
    have h1 := HB1w.out
    rcases hj with e | e | e | e
    · subst e; exact Nat.le_trans h1 HP4.out.gp
    · subst e; exact Nat.le_trans h1 HP4.out.mem.own.base
    · subst e; exact Nat.le_trans h1 HP4.out.gr
    · subst e; exact Nat.le_trans h1 HP4.out.gb
  have HB5 : Hid (Below w.heap.size w w5) := HB4.out.trans (hk5.below HB4.out.size HGE.out)
  clear hp5 hk5 hst hG hcg HX4 HR4 HP4 HB4
  refine hK.out _ _ HX5.out (fun _ => ?_)
  clear hK
  go_simp
  refine wpAnyG_takeW (i := 8) (v := .bool true) rfl (by kernel_rfl) (by kernel_rfl) (by kernel_rfl) (fun _ _ _ h => h) (Closed.step (j := 7) (Closed.step (j := 6) (Closed.step (j := 5) (Closed.step (j := 4) (Closed.step (j := 3) (Closed.step (j := 2) (Closed.step (j := 1) (Closed.step (j := 0) (Closed.start _) (by kernel_rfl)) (by kernel_rfl)) (by kernel_rfl)) (by kernel_rfl)) (by kernel_rfl)) (by kernel_rfl)) (by kernel_rfl)) (by kernel_rfl)) (by kernel_rfl) (fun W => by go_simp) ?_
  go_simp
  refine wpAnyG_takeW (i := 9) (v := .bool true) rfl (by kernel_rfl) (by kernel_rfl) (by kernel_rfl) (fun _ _ _ h => h) (Closed.step (j := 8) (Closed.step (j := 7) (Closed.step (j := 6) (Closed.step (j := 5) (Closed.step (j := 4) (Closed.step (j := 3) (Closed.step (j := 2) (Closed.step (j := 1) (Closed.step (j := 0) (Closed.start _) (by kernel_rfl)) (by kernel_rfl)) (by kernel_rfl)) (by kernel_rfl)) (by kernel_rfl)) (by kernel_rfl)) (by kernel_rfl)) (by kernel_rfl)) (by kernel_rfl)) (by kernel_rfl) (fun W => by go_simp) ?_
  go_simp
  have hne : r2 ≠ w.heap.size := by have h1 := HN0.out; have h2 := HZ2.out; omega
  refine wpAnyG_one (i := 10) (by kernel_rfl) rfl (fun K hK => ?_)
  refine step_store_whole rfl _ _ _ rfl rfl HR5.out (wA mq rq pq) rfl rfl (by kernel_rfl) rfl (by kernel_rfl) ?_
  intro w6 HS6 HG6
  refine hK.out _ _ (HX5.out.kept HG6.out (fun e => hne (by injection e))) (fun _ => ?_)
  clear hK
  refine wpAnyG_one (i := 11) (by kernel_rfl) rfl (fun K hK => ?_)
  go_simp
  refine hK.out _ _ (HX5.out.kept HG6.out (fun e => hne (by injection e))) (fun _ => ?_)
  clear hK
  refine wpAnyG_done (by kernel_rfl) ?_ _
  refine NoPanic.normal ?_
  have hG0 : ∀ j, (fun j => j = w.heap.size) j → j < w1.heap.size := fun j hj => by have h1 := HN0.out; have h2 := HZ1.out; subst hj; exact Nat.lt_of_lt_of_le h1 h2
  have HP6 := Hid.in (HP5.out.keeps (keeps_grown HG6.out) hG0)
  have HB6 : Hid (Below w.heap.size w w6) := HB5.out.trans (below_grown HG6.out (Nat.le_refl _) HB5.out.size)
  clear HG6 HP5 HB5 HX5 HR5
  go_simp
  go_wp2_with fail
  refine bodyPost_ret (v := .tuple #[.agg (wA mq rq pq), .bool true]) (res8 HS6.out rfl rfl) rfl ?_
  exact ⟨mq, mg, rq, pq, rfl, ⟨bq, lp, lc, HP6.out.lowB HB1w.out⟩, HB6.out⟩
end Go.Proofs.Ytekggimgobeggaa

/- awake: a switch of one site is carried out. -/
namespace Go.Proofs.Ytekggimgobeggaa
open Go.RowKit Go.Sort

/-- the example's state behind k rounds: the hart takes its sync, the patcher steps -/
def tkP (s : PS) : PS := { s with fs := drp s.fs 0 }
def itA : Nat → PS
  | 0 => alP
  | k + 1 => (stpP (tkP (itA k)) [true]).s
theorem tk_ok {s : PS} {M : Int} (h : POk s M) : POk (tkP s) M := ⟨h.ph, h.nx, h.w1, h.w2, h.c1, h.c2, h.c3, h.c4, h.n, h.xl⟩
theorem itA_ok : ∀ k, POk (itA k) (1 + k) ∧ BtOk (itA k).bt
  | 0 => ⟨⟨by decide, by decide, by decide, fun _ => rfl, ⟨by decide, by decide⟩, ⟨by decide, by decide⟩, ⟨by decide, by decide⟩, ⟨by decide, by decide⟩, ⟨by decide, by decide⟩, by decide⟩, btOk_nil⟩
  | k + 1 => by
    obtain ⟨h1, h2⟩ := itA_ok k
    obtain ⟨h3, h4⟩ := stp_ok (rs := [true]) (tk_ok h1) h2
    exact ⟨h3.mono (by omega), h4⟩
theorem itA_tells (k : Nat) (hk : k ≤ 10) : (stpP (tkP (itA k)) [true]).e = 0 ∧ (stpP (tkP (itA k)) [true]).back = decide (k = 10) := by
  rcases (by omega : k = 0 ∨ k = 1 ∨ k = 2 ∨ k = 3 ∨ k = 4 ∨ k = 5 ∨ k = 6 ∨ k = 7 ∨ k = 8 ∨ k = 9 ∨ k = 10) with rfl | rfl | rfl | rfl | rfl | rfl | rfl | rfl | rfl | rfl | rfl <;> exact ⟨by kernel_rfl, by kernel_rfl⟩
theorem itA_end : (itA 11).xs = [0, 0, 0, 0, 233, 3, 0, 0, 0, 0, 0, 0, 0, 0, 0, 0] ∧ (itA 11).ct = ⟨1, 3, 3, 12, 0⟩ := ⟨by kernel_rfl, by kernel_rfl⟩
set_option maxRecDepth 20000 in
set_option maxHeartbeats 4000000 in
theorem awake_any (w : World) : Calls Try.prog 21 #[] w fun e w' => e = .returned (.bool true) ∧ Below w.heap.size w w' := by
  go_enter Try.func21, Try.ntmps21
  go_wp2_with (go_at_call 8; refine Hid.out ?_)
  refine Lib.hid ?_
  refine (alone_any w).mono ?_
  rintro e w1 ⟨mq, mg, rq, pq, bq, lp, lc, rfl, hP1, hB1⟩
  have HP1 := Hid.in hP1
  have HB1 := Hid.in hB1
  clear hP1 hB1
  go_upto_region 2 with fail
  obtain ⟨w2, hw2⟩ : ∃ w2, w2 = w1.alloc (.cells (wA mq rq pq) 26) := ⟨_, rfl⟩
  rw [← hw2]
  have HX2 : Hid (Blk w2 w1.heap.size 26 (wA mq rq pq)) := by rw [hw2]; exact Blk.new _ _ _
  have HP2 : Hid (PA w2 w.heap.size pq mq mg rq bq lp lc alP) := by rw [hw2]; exact HP1.out.below (new_alloc _ _)
  have HB2 : Hid (Below w.heap.size w w2) := by rw [hw2]; exact below_alloc HB1.out _
  have HGE : Hid (∀ j, GP pq mg rq bq j → w.heap.size ≤ j) := fun j hj => by
    rcases hj with e | e | e | e
    · subst e; exact HP1.out.gp
    · subst e; exact HP1.out.mem.own.base
    · subst e; exact HP1.out.gr
    · subst e; exact HP1.out.gb
  clear hw2 HP1 HB1
  generalize w1.heap.size = r1 at *
  have q2 : w2.cell? ⟨r1, 2, none⟩ = some (.pointer (some ⟨pq, 0, none⟩)) := (HX2.out.cell 2).trans rfl
  go_wp2_with (go_at_call 9; refine Hid.out ?_)
  refine Lib.hid ?_
  refine (pphase_any HP2.out).mono ?_
  rintro e w3 ⟨rfl, hw⟩
  rw [hw, show alP.ph = 1 from rfl]
  clear hw w3 q2
  go_wp2_with fail
  go_loopw [3, 4, 5, 6, 7] (fun v3 v4 _ _ _ wr => ∃ (k : Nat) (lp : Option Addr) (lc : Nat), v3 = .int .i64 k ∧ v4 = .int .i64 k ∧ k ≤ 10 ∧ PA wr w.heap.size pq mq mg rq bq lp lc (itA k) ∧ Blk wr r1 26 (wA mq rq pq) ∧ Below w.heap.size w wr) (fun _ v4 _ _ _ _ => 30 - (intOf v4).toNat)
  case atStart => exact ⟨0, lp, lc, rfl, rfl, Nat.zero_le _, HP2.out, HX2.out, HB2.out⟩
  case round =>
    clear HP2 HX2 HB2
    obtain ⟨k, lp, lc, rfl, rfl, hk, hP, hX, hB⟩ := hrel
    have HP := Hid.in hP
    have HX := Hid.in hX
    have HB := Hid.in hB
    have HT := Hid.in (itA_tells k hk)
    have HOK := Hid.in (itA_ok k)
    have q1 : wr.cell? ⟨r1, 1, none⟩ = some (.pointer (some ⟨rq, 0, none⟩)) := (hX.cell 1).trans rfl
    clear hP hX hB
    go_wp2_with (go_at_call 10; refine Hid.out ?_)
    refine Lib.hid ?_
    refine (rtake_any rq (itA k).fs (itA k).n 0 wr HP.out.rnd).mono ?_
    rintro e w3 ⟨rfl, hr3, hg3⟩
    have HP3 : Hid (PA w3 w.heap.size pq mq mg rq bq lp lc (tkP (itA k))) := HP.out.setR hr3 hg3
    have HX3 := Hid.in (HX.out.kept hg3 (fun e => blk_ne HX.out HP.out.rnd.blk (by decide) (by injection e)))
    have HB3 := Hid.in (HB.out.trans (below_grown hg3 HP.out.gr HB.out.size))
    clear hr3 hg3 q1 HP HX HB
    have q2 : w3.cell? ⟨r1, 2, none⟩ = some (.pointer (some ⟨pq, 0, none⟩)) := (HX3.out.cell 2).trans rfl
    generalize tkN (itA k).fs (itA k).n 0 = tk at *
    generalize pnd (itA k).fs 0 = pk at *
    go_wp2_with (go_at_call 11; refine Hid.out ?_)
    refine Lib.hid ?_
    obtain ⟨w4, hw4⟩ : ∃ w4, w4 = w3.alloc (.cells #[.bool true] 4) := ⟨_, rfl⟩
    rw [← hw4]
    have HP4 : Hid (PA w4 w.heap.size pq mq mg rq bq lp lc (tkP (itA k))) := by rw [hw4]; exact HP3.out.below (new_alloc _ _)
    have HX4 : Hid (Blk w4 r1 26 (wA mq rq pq)) := by rw [hw4]; exact HX3.out.grow (new_alloc _ _)
    have HB4 : Hid (Below w.heap.size w w4) := by rw [hw4]; exact below_alloc HB3.out _
    have HF4 : Hid (BRow w4 (some ⟨w3.heap.size, 0, none⟩) [true]) := by rw [hw4]; exact flags_new w3 [true]
    have hkk : (1 : Int) + k ≤ 1000000 := by omega
    have hst := pstep_any w.heap.size pq mq mg rq bq lp lc (tkP (itA k)) (some ⟨w3.heap.size, 0, none⟩) 1 [true] w4 HP4.out HF4.out ((tk_ok HOK.out.1).mono hkk) HOK.out.2
    clear hw4 HP3 HX3 HB3 q2 hkk
    generalize w3.heap.size = fb at *
    refine hst.mono ?_
    rintro e w5 ⟨v, lp', lc', rfl, hv, hP5, hk5⟩
    rw [HT.out.1, HT.out.2]
    have HP5 : Hid (PA w5 w.heap.size pq mq mg rq bq lp' lc' (itA (k + 1))) := hP5
    obtain ⟨cg, hcg⟩ := HP4.out.mem.blkg
    have hG : ¬ GP pq mg rq bq r1 := fun hj => by
      rcases hj with e | e | e | e
      · exact blk_ne HX4.out HP4.out.pat (by decide) e
      · exact blk_ne HX4.out hcg (by decide) e
      · exact blk_ne HX4.out HP4.out.rnd.blk (by decide) e
      · exact blk_ne HX4.out HP4.out.bat.blk (by decide) e
    have HX5 := Hid.in (HX4.out.keeps hk5 hG)
    have HB5 : Hid (Below w.heap.size w w5) := HB4.out.trans (hk5.below HB4.out.size HGE.out)
    obtain ⟨pv, cv, ev, -⟩ := hv.shape
    generalize (stpP (tkP (itA k)) [true]).ev.length = el at ev
    subst ev
    clear hv hP5 hk5 hst hG hcg HP4 HX4 HB4 HF4 HT HOK
    by_cases hk10 : k = 10
    · subst hk10
      have q0 : w5.cell? ⟨r1, 0, none⟩ = some (.pointer (some ⟨mq, 0, none⟩)) := (HX5.out.cell 0).trans rfl
      have q2 : w5.cell? ⟨r1, 2, none⟩ = some (.pointer (some ⟨pq, 0, none⟩)) := (HX5.out.cell 2).trans rfl
      have hl : (itA 11).xs.length = 16 := by rw [itA_end.1]; rfl
      go_wp2_with (go_at_call 34; refine Hid.out ?_)
      refine Lib.hid ?_
      refine (mbytes_any mq mg w.heap.size (itA 11).xs w5 HP5.out.mem (by rw [hl]; decide)).mono ?_
      rintro e w6 ⟨hb, rfl, ho6, hb6⟩
      rw [hl] at ho6 ⊢
      have HO6 := Hid.in ho6
      have HP6 := Hid.in (HP5.out.below hb6)
      have HB6 := Hid.in (below_step HB5.out hb6)
      have p2 : w6.cell? ⟨r1, 2, none⟩ = some (.pointer (some ⟨pq, 0, none⟩)) := (hb6.cell (p := ⟨r1, 2, none⟩) (cell_lt q2)).trans q2
      clear ho6 hb6 HP5 HB5 HX5 q0 q2 hl
      go_wp2_with (go_at_call 33; refine Hid.out ?_)
      refine Lib.hid ?_
      obtain ⟨w7, hw7⟩ : ∃ w7, w7 = w6.alloc (.cells #[.int .u8 233, .int .u8 3, .int .u8 0, .int .u8 0, .int .u8 0] 5) := ⟨_, rfl⟩
      rw [← hw7]
      have HL7 : Hid (Below w6.heap.size w6 w7) := by rw [hw7]; exact new_alloc _ _
      have HR7 : Hid (Row w7 (some ⟨w6.heap.size, 0, none⟩) [233, 3, 0, 0, 0]) := fun _ => ⟨w6.heap.size, 0, rfl, fun i hi => by
        have hi' : i < 5 := hi
        have hbk : Blk w7 w6.heap.size 5 #[.int .u8 233, .int .u8 3, .int .u8 0, .int .u8 0, .int .u8 0] := by rw [hw7]; exact Blk.new _ _ _
        rw [Nat.zero_add, hbk.cell]
        rcases (by omega : i = 0 ∨ i = 1 ∨ i = 2 ∨ i = 3 ∨ i = 4) with rfl | rfl | rfl | rfl | rfl <;> rfl⟩
      have HC7 : Hid (Row w7 (some ⟨hb, 4, none⟩) [233, 3, 0, 0, 0]) := by
        have hcut := (HO6.out.row.below HL7.out).cut 4 5 (by rw [itA_end.1]; decide)
        rw [itA_end.1] at hcut
        exact hcut
      have HP7 := Hid.in (HP6.out.below HL7.out)
      have HB7 := Hid.in (below_step HB6.out HL7.out)
      have p7 : w7.cell? ⟨r1, 2, none⟩ = some (.pointer (some ⟨pq, 0, none⟩)) := (HL7.out.cell (p := ⟨r1, 2, none⟩) (cell_lt p2)).trans p2
      clear hw7 HO6 HP6 HB6 p2 HL7
      refine (sameBytes_any (some ⟨hb, 4, none⟩) (some ⟨w6.heap.size, 0, none⟩) 5 12 5 5 [233, 3, 0, 0, 0] [233, 3, 0, 0, 0] w7 rfl rfl (by decide) HC7.out HR7.out).mono ?_
      rintro e w8 ⟨rfl, nn, hw⟩
      rw [show sameB [233, 3, 0, 0, 0] [233, 3, 0, 0, 0] = true by decide]
      have HL8 : Hid (Below w7.heap.size w7 w8) := by rw [hw]; exact below_draws (below_self _) _
      have HP8 := Hid.in (HP7.out.below HL8.out)
      have HB8 := Hid.in (below_step HB7.out HL8.out)
      have p8 : w8.cell? ⟨r1, 2, none⟩ = some (.pointer (some ⟨pq, 0, none⟩)) := by rw [hw]; exact p7
      clear hw HL8 HP7 HB7 p7 HR7 HC7
      go_wp2_with (go_at_call 12; refine Hid.out ?_)
      refine Lib.hid ?_
      refine (pcounts_any HP8.out).mono ?_
      rintro e w9 ⟨rfl, hb9⟩
      rw [itA_end.2]
      have HB9 := Hid.in (below_step HB8.out hb9)
      clear hb9 HP8 HB8 p8
      have heq : ∀ W, (binOp .eql 45 (.agg #[.int .i64 1, .int .i64 3, .int .i64 3, .int .i64 12, .int .i64 0]) (.agg #[.int .i64 1, .int .i64 3, .int .i64 3, .int .i64 12, .int .i64 0])).run Try.prog W = .ok (.bool true) W := fun W => by kernel_rfl
      go_wp2_with fail
      go_ret
      exact ⟨rfl, HB9.out⟩
    · have hk9 : k < 10 := by omega
      have hd : decide (k = 10) = false := decide_eq_false hk10
      rw [hd]
      clear hd
      go_wp2_with fail
      go_roundw
      case rel => exact ⟨k + 1, lp', lc', by go_num, by go_num, by omega, HP5.out, HX5.out, HB5.out⟩
      case measure => simp [intOf]; omega
end Go.Proofs.Ytekggimgobeggaa
