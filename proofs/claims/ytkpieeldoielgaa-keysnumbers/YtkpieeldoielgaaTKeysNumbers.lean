/-
  Proved here: the law KeysNumbers (switchyardlaw21) answers true for every input, and each argument reads afterwards as it read before. No condition of ours: the row's own reach alone (each slice and text takes at most 2^47 - 4096 bytes).
-/
import Derived.Test.YtkpieeldoielgaaGf
import Derived.Test.YtkpieeldoielgaaOpen

/- Ours: KeysNumbers answers true. -/
namespace Go.Proofs.Ytkpieeldoielgaa
open Go.RowKit

theorem i64_2 : i64P 2 := by unfold i64P; omega
theorem i64_m : i64P (-1) := by unfold i64P; omega
theorem i64_l : i64P (-9223372036854775808) := by unfold i64P; omega
theorem cell_keeps {G : Nat → Prop} {w w' : World} {g i : Nat} {v : Value} (h : w.cell? ⟨g, i, none⟩ = some v) (hk : Keeps G w w') (hn : ¬ G g) : w'.cell? ⟨g, i, none⟩ = some v := by
  have := hk.block g (cell_lt h) hn
  rw [← h]
  unfold World.cell?
  dsimp only
  rw [this]
def im2b : IM := { im2 with si := [⟨0, 1, 17⟩, ⟨0, 20, 29⟩, ⟨1, 32, 41⟩] }
theorem im2b_ok : okI im2b = false := by kernel_rfl
theorem noIM_ok : okI noIM = true := by kernel_rfl
/-- an image that a call has made, in memory, whether it is right or not -/
theorem ImOwn.inn {w : World} {B : Nat} {m : IM} {vb vk vs vu : Value} (h : ImOwn w B m vb vk vs vu) (hbyt : Byt m.bs) (b2 : m.ks.length ≤ 1048576) (b3 : m.si.length ≤ 1048576) (b4 : m.un.length ≤ 1048576) (hk : ∀ k ∈ m.ks, k.size ≤ maxLen) (hu : ∀ u ∈ m.un, i64P u) :
    ∃ qb qk qs qu db dk ds du, vb = .slice qb m.bs.length db ∧ vk = .slice qk m.ks.length dk ∧ vs = .slice qs m.si.length ds ∧ vu = .slice qu m.un.length du ∧ ImIn w m qb qk qs qu m.bs.length db m.ks.length dk m.si.length ds m.un.length du := by
  obtain ⟨qb, db, e1, r1, l1, l2⟩ := h.b.sliceC
  obtain ⟨qk, dk, e2, r2, _⟩ := h.k.slice
  obtain ⟨qs, ds, e3, _, _, r3⟩ := h.s.row3
  obtain ⟨qu, du, e4, r4, _⟩ := h.u.slice
  rw [List.length_map] at e2 e3 e4
  exact ⟨qb, qk, qs, qu, db, dk, ds, du, e1, e2, e3, e4, ⟨rfl, rfl, rfl, rfl, l1, l2, by omega, by omega, by omega, r1, r2, r3, r4, hbyt, hk, hu⟩⟩
theorem im2_key : ∀ k ∈ im2.ks, k.size ≤ maxLen := by
  have e : im2.ks = [strOfNums [97], strOfNums [98]] := by kernel_rfl
  rw [e]
  intro k hk
  simp only [List.mem_cons, List.not_mem_nil, or_false] at hk
  rcases hk with rfl | rfl <;> decide
theorem im2_row : im2.si.map siV = (imS [0, 0, 1]).map z3V := siV_zS _
/-- the sites' first place is turned -/
theorem ImOwn.bad {w : World} {B g n c : Nat} {vb vk vu : Value} (h : ImOwn w B im2 vb vk (.slice (some ⟨g, 0, none⟩) n c) vu) : ImOwn (w.setCell ⟨g, 1, none⟩ (.int .i64 1)) B im2b vb vk (.slice (some ⟨g, 0, none⟩) n c) vu := by
  have h0 : w.ownsRow B 41 3 (.slice (some ⟨g, 0, none⟩) n c) (im2.si.map siV).length (c3 (im2.si.map siV)) := h.s
  have hn : n = (im2.si.map siV).length := by
    obtain ⟨p, cc, e, -⟩ := h.s.shape
    injection e
  subst hn
  have h1 := World.ownsRow.stored h0 1 (.int .i64 1)
  refine ⟨?_, ?_, ?_, ?_⟩
  · exact row_stay h.b h1.2 (fun k hk => rows_ap h.b h.s (by decide) k hk)
  · exact row_stay h.k h1.2 (fun k hk => rows_ap h.k h.s (by decide) k hk)
  · have e : (c3 (im2.si.map siV)).set 1 (.int .i64 1) = c3 (im2b.si.map siV) := by rw [im2_si]; rfl
    have h2 := h1.1
    rw [e] at h2
    have hl : (im2.si.map siV).length = (im2b.si.map siV).length := by rw [im2_si]; rfl
    unfold TOwn
    rw [← hl]
    exact h2
  · exact row_stay h.u h1.2 (fun k hk => rows_ap h.u h.s (by decide) k hk)
set_option maxRecDepth 20000 in
set_option maxHeartbeats 16000000 in
theorem numbers_walk (w : World) : Calls Try.prog 3 #[] w fun e w' => e = .returned (.bool true) ∧ Below w.heap.size w w' := by
  go_enter Try.func3, Try.ntmps3
  go_wp2_with (go_at_call 10; refine Hid.out ?_)
  refine Lib.hid ?_
  refine (two_any w).mono ?_
  rintro e w1 ⟨vB, vK, vS, vU, rfl, hI, hb1⟩
  have hT1 := tnew_two w1 w.heap.size vB vK vS vU hI
  have HB1 := Hid.in hb1
  clear hI hb1
  go_wp2_with (go_at_call 9; refine Hid.out ?_)
  refine Lib.hid ?_
  (with_reducible refine hT1.mono ?_)
  rintro e w2 ⟨h, b, p, c, rfl, hT, hb2, hh, hb⟩
  have HB2 := Hid.in (below_step HB1.out hb2)
  have HG : Hid (∀ j, G2 h b j → w.heap.size ≤ j) := fun j hj => by
    have := HB1.out.size
    rcases hj with rfl | rfl <;> omega
  have HS2 : Hid (w.heap.size ≤ w2.heap.size) := HB2.out.size
  have HT2 := Hid.in hT
  have hn2 : (2 : Nat) ≤ 2 := Nat.le_refl _
  clear hT hb2 hT1 HB1 hh hb
  have hC2 := call_sl h b 2 [0, 0] p c im2.si w2 false HT2.out (2) i64_2 true (by omega) ⟨[0, 0], false, false, 311⟩ (by kernel_rfl) [] rfl
  go_wp2_with (go_at_call 11; refine Hid.out ?_)
  refine Lib.hid ?_
  (with_reducible refine hC2.mono ?_)
  rintro e w3 ⟨q3, cq3, n3, rfl, hL3, hT3, hn3, hK3⟩
  have HB3 : Hid (Below w.heap.size w w3) := HB2.out.trans (hK3.below HB2.out.size HG.out)
  have HT3 := Hid.in hT3
  clear hT3 hK3 hC2 HB2 HT2 hL3
  have hC3 := call_sl h b n3 [0, 0] p c im2.si w3 false HT3.out (-1) i64_m true (by omega) ⟨[0, 0], false, false, 311⟩ (by kernel_rfl) [] rfl
  go_wp2_with (go_at_call 11; refine Hid.out ?_)
  refine Lib.hid ?_
  (with_reducible refine hC3.mono ?_)
  rintro e w4 ⟨q4, cq4, n4, rfl, hL4, hT4, hn4, hK4⟩
  have HB4 : Hid (Below w.heap.size w w4) := HB3.out.trans (hK4.below HB3.out.size HG.out)
  have HT4 := Hid.in hT4
  clear hT4 hK4 hC3 HB3 HT3 hL4
  have hC4 := call_sl h b n4 [0, 0] p c im2.si w4 false HT4.out 1 i64_1 false (by omega) ⟨[0, 0], false, false, 312⟩ (by kernel_rfl) [] rfl
  go_wp2_with (go_at_call 11; refine Hid.out ?_)
  refine Lib.hid ?_
  (with_reducible refine hC4.mono ?_)
  rintro e w5 ⟨q5, cq5, n5, rfl, hL5, hT5, hn5, hK5⟩
  have HB5 : Hid (Below w.heap.size w w5) := HB4.out.trans (hK5.below HB4.out.size HG.out)
  have HT5 := Hid.in hT5
  clear hT5 hK5 hC4 HB4 HT4 hL5
  have hC5 := return_any h b n5 [0, 0] false p c im2.si w5 HT5.out
  go_wp2_with (go_at_call 12; refine Hid.out ?_)
  refine Lib.hid ?_
  (with_reducible refine hC5.mono ?_)
  rintro e w6 ⟨rfl, hT6, hK6⟩
  have HB6 : Hid (Below w.heap.size w w6) := HB5.out.trans (hK6.below HB5.out.size HG.out)
  have HT6 := Hid.in hT6
  clear hT6 hK6 hC5 HB5 HT5
  have hC6 := call_sl h b n5 [0, 0] p c im2.si w6 false HT6.out 1 i64_1 true (by omega) ⟨[0, 1], true, true, 0⟩ (by kernel_rfl) [⟨1, 32, 41⟩] im2_of1
  go_wp2_with (go_at_call 11; refine Hid.out ?_)
  refine Lib.hid ?_
  (with_reducible refine hC6.mono ?_)
  rintro e w7 ⟨q7, cq7, n7, rfl, hL7, hT7, hn7, hK7⟩
  have HB7 : Hid (Below w.heap.size w w7) := HB6.out.trans (hK7.below HB6.out.size HG.out)
  have HT7 := Hid.in hT7
  obtain ⟨gl, el, HGl, cl7⟩ : ∃ gl, q7 = some ⟨gl, 0, none⟩ ∧ Hid (¬ G2 h b gl) ∧ w7.cell? ⟨gl, 0, none⟩ = some (.int .i64 1) := by
    obtain ⟨p', c', e', -, -, hs'⟩ := hL7.shape
    obtain ⟨g', e2, e3, -, hc'⟩ := hs' (by decide)
    injection e' with e1 _ _
    have hlt1 := HT6.out.blk.lt
    have hlt2 := HT6.out.map.lt
    refine ⟨g', e1.trans e2, fun hj => ?_, ?_⟩
    · rcases hj with rfl | rfl <;> omega
    · exact hc' 0 (by decide) 0 (by decide)
  subst el
  clear hT7 hK7 hC6 HB6 HT6 hL7
  have hC7 := call_sl h b n7 [0, 1] p c im2.si w7 true HT7.out 2 i64_2 false (by omega) ⟨[0, 1], true, false, 311⟩ (by kernel_rfl) [] rfl
  go_wp2_with (go_at_call 11; refine Hid.out ?_)
  refine Lib.hid ?_
  (with_reducible refine hC7.mono ?_)
  rintro e w8 ⟨q8, cq8, n8, rfl, hL8, hT8, hn8, hK8⟩
  have HB8 : Hid (Below w.heap.size w w8) := HB7.out.trans (hK8.below HB7.out.size HG.out)
  have HT8 := Hid.in hT8
  have cl8 : w8.cell? ⟨gl, 0, none⟩ = some (.int .i64 1) := (cell_keeps cl7 hK8 HGl.out)
  clear hT8 hK8 hC7 HB7 HT7 hL8 cl7
  have hC8 := call_sl h b n8 [0, 1] p c im2.si w8 true HT8.out 0 i64_0 false (by omega) ⟨[0, 1], true, false, 310⟩ (by kernel_rfl) [] rfl
  go_wp2_with (go_at_call 11; refine Hid.out ?_)
  refine Lib.hid ?_
  (with_reducible refine hC8.mono ?_)
  rintro e w9 ⟨q9, cq9, n9, rfl, hL9, hT9, hn9, hK9⟩
  have HB9 : Hid (Below w.heap.size w w9) := HB8.out.trans (hK9.below HB8.out.size HG.out)
  have HT9 := Hid.in hT9
  have cl9 : w9.cell? ⟨gl, 0, none⟩ = some (.int .i64 1) := (cell_keeps cl8 hK9 HGl.out)
  clear hT9 hK9 hC8 HB8 HT8 hL9 cl8
  have hC9 := on_any h b n9 [0, 1] true p c im2.si w9 HT9.out 1 i64_1
  have e9 : cntL [0, 1] 1 = (1, 0) := by decide
  rw [e9] at hC9
  go_wp2_with (go_at_call 13; refine Hid.out ?_)
  refine Lib.hid ?_
  (with_reducible refine hC9.mono ?_)
  rintro e w10 ⟨rfl, rfl⟩
  have HB10 := HB9
  have HT10 := HT9
  have cl10 := cl9
  clear hC9 HB9 HT9 cl9 e9
  have hC10 := on_any h b n9 [0, 1] true p c im2.si w10 HT10.out 2 i64_2
  have e10 : cntL [0, 1] 2 = (0, 311) := by decide
  rw [e10] at hC10
  go_wp2_with (go_at_call 13; refine Hid.out ?_)
  refine Lib.hid ?_
  (with_reducible refine hC10.mono ?_)
  rintro e w11 ⟨rfl, rfl⟩
  have HB11 := HB10
  have HT11 := HT10
  have cl11 := cl10
  clear hC10 HB10 HT10 cl10 e10
  have hC11 := count_any h b n9 [0, 1] true p c im2.si w11 HT11.out (-9223372036854775808) i64_l
  have e11 : cntL [0, 1] (-9223372036854775808) = (0, 311) := by decide
  rw [e11] at hC11
  go_wp2_with (go_at_call 14; refine Hid.out ?_)
  refine Lib.hid ?_
  (with_reducible refine hC11.mono ?_)
  rintro e w12 ⟨rfl, rfl⟩
  have HB12 := HB11
  have HT12 := HT11
  have cl12 := cl11
  clear hC11 HB11 HT11 cl11 e11
  have hW12 := two_any w12
  go_wp2_with (go_at_call 10; refine Hid.out ?_)
  refine Lib.hid ?_
  (with_reducible refine hW12.mono ?_)
  rintro e wa ⟨vB, vK, vS, vU, rfl, hI, hba⟩
  have HS12 : Hid (w.heap.size ≤ w12.heap.size) := HB12.out.size
  have HBa := Hid.in (below_step HB12.out hba)
  have cla : wa.cell? ⟨gl, 0, none⟩ = some (.int .i64 1) := (hba.cell (p := ⟨gl, 0, none⟩) (cell_lt cl12)).trans cl12
  obtain ⟨qb, qk, qs, qu, db, dk, ds, du, rfl, rfl, rfl, rfl, hIn, -⟩ := hI.inOk im2_ok (imM_byt _)
  obtain ⟨gs, es, hgs⟩ : ∃ gs, qs = some ⟨gs, 0, none⟩ ∧ wa.cell? ⟨gs, 1, none⟩ = some (.int .i64 8) := by
    obtain ⟨p', c', e', -, -, hs'⟩ := hI.s.shape
    obtain ⟨g', e2, e3, -, hc'⟩ := hs' (by rw [im2_si]; decide)
    injection e' with e1 _ _
    refine ⟨g', e1.trans e2, ?_⟩
    have := hc' 0 (by rw [im2_si]; decide) 1 (by decide)
    have e4 : (l3 ((im2.si.map siV)[0]'(by rw [im2_si]; decide)))[1]? = some (.int .i64 8) := by simp [im2_si, siV, l3]
    rw [e4] at this
    exact this
  subst es
  have hgl : gs < wa.heap.size := cell_lt hgs
  have HI := Hid.in hI
  have HLs : Hid (w12.heap.size ≤ gs) := by
    have h1 : wa.ownsRow w12.heap.size 41 3 _ _ _ := hI.s
    exact (World.ownsRow.lt h1 gs rfl).1
  have hglk : gl < w12.heap.size := cell_lt cl12
  clear hba hI hIn cl12 HB12 HT12 hW12
  have hl3 : im2.si.length = 3 := by rw [im2_si]; rfl
  rw [hl3] at HI ⊢
  -- the variable
  have HV0 := Hid.in (Blk.new wa 31 #[.slice qb im2.bs.length db, .slice qk im2.ks.length dk, .slice (some ⟨gs, 0, none⟩) 3 ds, .slice qu im2.un.length du])
  have HN0 := Hid.in (new_alloc wa (.cells #[.slice qb im2.bs.length db, .slice qk im2.ks.length dk, .slice (some ⟨gs, 0, none⟩) 3 ds, .slice qu im2.un.length du] 31))
  go_upto_region 15 with fail
  generalize hwb : wa.alloc (.cells #[.slice qb im2.bs.length db, .slice qk im2.ks.length dk, .slice (some ⟨gs, 0, none⟩) 3 ds, .slice qu im2.un.length du] 31) = wb at *
  clear hwb
  obtain ⟨z0, z1, z2, z3⟩ := HV0.out.cells4
  have clb : wb.cell? ⟨gl, 0, none⟩ = some (.int .i64 1) := (HN0.out.cell (p := ⟨gl, 0, none⟩) (cell_lt cla)).trans cla
  have gsb : wb.cell? ⟨gs, 1, none⟩ = some (.int .i64 8) := (HN0.out.cell (p := ⟨gs, 1, none⟩) hgl).trans hgs
  have HIb := Hid.in (HI.out.below HN0.out)
  have fsb : wb.frozen? ⟨gs, 1, none⟩ = false := HIb.out.s.freeAt 1
  have HIc := Hid.in HIb.out.bad
  have HKc : Hid (Keeps (fun j => j = gs) wb (wb.setCell ⟨gs, 1, none⟩ (.int .i64 1))) := keeps_set wb gs 1 _ rfl
  have HBb := Hid.in (below_step HBa.out HN0.out)
  have hgw : w12.heap.size ≤ gs := HLs.out
  have hww : Hid (w.heap.size ≤ w12.heap.size) := HS12.out
  clear cla hgs HI HBa HN0
  go_upto_region 16 with fail
  generalize wb.setCell ⟨gs, 1, none⟩ (.int .i64 1) = wc at *
  have HVc : Hid (Blk wc wa.heap.size 31 #[.slice qb im2.bs.length db, .slice qk im2.ks.length dk, .slice (some ⟨gs, 0, none⟩) 3 ds, .slice qu im2.un.length du]) := (HKc.out.block wa.heap.size HV0.out.lt (by omega)).trans HV0.out
  have clc : wc.cell? ⟨gl, 0, none⟩ = some (.int .i64 1) := cell_keeps clb HKc.out (by omega)
  have HBc : Hid (Below w.heap.size w wc) := HBb.out.trans (HKc.out.below HBb.out.size (fun j hj => by have := hww.out; omega))
  clear z0 z1 z2 z3 clb gsb fsb HIb HV0 HBb HKc
  obtain ⟨z0, z1, z2, z3⟩ := HVc.out.cells4
  obtain ⟨qb', qk', qs', qu', db', dk', ds', du', e1, e2, e3, e4, hIn⟩ := HIc.out.inn (imM_byt _) (by show im2.ks.length ≤ _; rw [im2_ks]; decide) (by decide) (by decide) im2_key (by intro u hu; have : u = 0 := List.mem_singleton.1 hu; subst this; exact i64_0)
  have hNo := tnew_no im2b qb' qk' qs' qu' _ db' _ dk' _ ds' _ du' wc hIn im2b_ok
  rw [show imA qb' qk' qs' qu' im2b.bs.length db' im2b.ks.length dk' im2b.si.length ds' im2b.un.length du' = #[.slice qb im2.bs.length db, .slice qk im2.ks.length dk, .slice (some ⟨gs, 0, none⟩) 3 ds, .slice qu im2.un.length du] from by unfold imA; rw [← e1, ← e2, ← e3, ← e4]] at hNo
  clear hIn e1 e2 e3 e4 HIc
  go_wp2_with (go_at_call 9; refine Hid.out ?_)
  refine Lib.hid ?_
  (with_reducible refine hNo.mono ?_)
  rintro e wd ⟨rfl, hbd⟩
  have HBd := Hid.in (below_step HBc.out hbd)
  have cld : wd.cell? ⟨gl, 0, none⟩ = some (.int .i64 1) := (hbd.cell (p := ⟨gl, 0, none⟩) (cell_lt clc)).trans clc
  clear hNo hbd clc HBc z0 z1 z2 z3 HVc
  have hEm := tnew_yes noIM none none none none 0 0 0 0 0 0 0 0 wd ⟨rfl, rfl, rfl, rfl, Nat.le_refl _, by decide, by decide, by decide, by decide, fun h0 => absurd h0 (by decide), fun h0 => absurd h0 (by decide), fun h0 => absurd h0 (by decide), fun h0 => absurd h0 (by decide), (by intro i; simp [noIM]), (fun k hk => by cases hk), (fun u hu => by cases hu)⟩ noIM_ok (fun _ => rfl)
  go_wp2_with (go_at_call 9; refine Hid.out ?_)
  refine Lib.hid ?_
  (with_reducible refine hEm.mono ?_)
  rintro e we ⟨h2, b2, p2, c2, rfl, hT2, hbe, hg1, hg2, -⟩
  have HBe := Hid.in (below_step HBd.out hbe)
  have cle : we.cell? ⟨gl, 0, none⟩ = some (.int .i64 1) := (hbe.cell (p := ⟨gl, 0, none⟩) (cell_lt cld)).trans cld
  have hC := call_sl h2 b2 0 [] p2 c2 [] we false hT2 0 i64_0 true (by decide) ⟨[], false, false, 311⟩ (by kernel_rfl) [] rfl
  have hgd : gl < wd.heap.size := cell_lt cld
  have hwd := HBd.out.size
  clear hEm hT2 hbe HBd cld
  go_wp2_with (go_at_call 11; refine Hid.out ?_)
  refine Lib.hid ?_
  (with_reducible refine hC.mono ?_)
  rintro e wf ⟨qf, cqf, nf, rfl, -, -, -, hKf⟩
  have HBf : Hid (Below w.heap.size w wf) := HBe.out.trans (hKf.below HBe.out.size (fun j hj => by rcases hj with rfl | rfl <;> omega))
  have clf : wf.cell? ⟨gl, 0, none⟩ = some (.int .i64 1) := cell_keeps cle hKf (fun hj => by rcases hj with e | e <;> omega)
  clear hC hKf cle HBe
  go_wp2_with (go_at_call 15; refine (awake_any _).mono ?_; rintro e wg ⟨rfl, hbg⟩; have HBg := Hid.in (below_step HBf.out hbg); clear hbg)
  go_ret
  exact ⟨rfl, HBg.out⟩
end Go.Proofs.Ytkpieeldoielgaa

namespace Go.Proofs.Ytkpieeldoielgaa
open Go.ChangeShapes Go.WideShapes Go.ChangeAt Go.RowKit
open Go.ChangeMaps (open_string shut_string)

set_option maxRecDepth 100000 in
theorem keysNumbers_lifted (os : Os) (started : os.Started) (H : Type) (enc : TypeId × Value → H) :
    ReturnsInHanded {} Try.checked os 3 .any (Rows.keysNumbersSpec.pre6 enc Try.prog Try.f3 Rows.keysNumbersRow.domain false) (Rows.keysNumbersSpec.post enc Try.prog Try.f3 false true false false) := by
  refine returnsInHanded_of_change_sized (C := Try.checked) Try.own started (by kernel_rfl) Try.func3
    (ChangeSpec.witness6 (enc := enc) (C := Try.checked) false ⟨#[], #[], []⟩ 8 (by kernel_rfl) (by kernel_rfl) (by kernel_rfl) (by kernel_rfl)) ?_
  intro W base args ds gs before _ hW hcnd _ _
  have hW' := hW
  obtain ⟨p, q, hA0, hV, rfl, hfz, hnd⟩ := hW
  have hA : DataW.TrodAll enc Try.prog W 0 (fun _ => true) true Try.f3.params.toList args.toList ds p := hA0
  rw [Try.params3] at hA
  obtain ⟨rfl, rfl, rfl⟩ := trodAll_none hA
  obtain ⟨rfl, rfl⟩ := trodVars_none hV
  refine (numbers_walk W).mono fun e W' ⟨he, bel⟩ => ?_
  subst he
  exact ⟨_, rfl, _, _, _, [], _, [], hW', trodAll_mk1 (shut_bool Try.underlying4 _), trodAll_mk0, rfl, bel.frame _, fun h => by cases h⟩

theorem keysNumbers_holds : Rows.KeysNumbersSaid :=
  OpenClaim.holds_of_wide 3 Try.f3 rfl rfl rfl rfl rfl rfl rfl ⟨rfl, rfl, rfl, rfl, rfl⟩ rfl rfl rfl rfl rfl (by kernel_rfl) Try.func3 (by kernel_rfl)
    (of_decide_eq_true (by kernel_rfl)) (by unfold Func.isWrapper; first | (rw [if_pos (by decide +kernel)]; kernel_rfl) | (rw [if_neg (by decide +kernel)]; exact ⟨rfl, rfl⟩))
    (fun os started H enc _ => keysNumbers_lifted os started H enc)
#print axioms keysNumbers_holds

end Go.Proofs.Ytkpieeldoielgaa
