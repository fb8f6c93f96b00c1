/- Texts put together: CpyI, SamI, PlkA, PlkS, PlkB, PlkD. -/
import Derived.Test.YtkpieeldoielgaaGc
import Derived.Deep.RegionHeld3
import Derived.Test.YtkpieeldoielgaaGg
import Derived.Test.YtkpieeldoielgaaGf

/- switchyardkit.CopyImage: an image in memory of its own. -/
namespace Go.Proofs.Ytkpieeldoielgaa
open Go.RowKit

theorem Try.results17 : Try.f17.results = #[.cell 2 31] := rfl
theorem res7 {tmps : Array Value} {W : World} {R : Nat} {v0 v1 v2 v3 : Value} (h : Blk W R 31 #[v0, v1, v2, v3]) (h2 : tmps.getD 2 undef = .pointer (some ⟨R, 0, none⟩)) :
    (results Try.f17 tmps).run Try.prog W = .ok (.agg #[v0, v1, v2, v3]) W := by
  have hld := load_im h
  simp only [Array.getD_eq_getD_getElem?] at h2
  simp [results, asAddr, hld, h2]

set_option maxRecDepth 20000 in
set_option maxHeartbeats 2000000 in
theorem copyImage_any (m : IM) (pb pk ps pu : Option Addr) (nb cb nk ck ns cs nu cu : Nat) (w : World) (h : ImIn w m pb pk ps pu nb cb nk ck ns cs nu cu) (h1 : nb ≤ 140737488355328) (h2 : nk * 16 ≤ 140737488355328) (h3 : ns ≤ 5864062014634) (h4 : nu * 8 ≤ 140737488355328) :
    Calls Try.prog 17 #[.agg (imA pb pk ps pu nb cb nk ck ns cs nu cu)] w fun E w' => ∃ vb vk vs vu, E = .returned (.agg #[vb, vk, vs, vu]) ∧ ImOwn w' w.heap.size m vb vk vs vu ∧ Below w.heap.size w w' := by
  have hB := fun W (k : ImIn W m pb pk ps pu nb cb nk ck ns cs nu cu) => copy_any pb nb cb m.bs W k.lb h1 k.rb
  have hK := fun W (k : ImIn W m pb pk ps pu nb cb nk ck ns cs nu cu) => copyTexts_any pk nk ck m.ks W k.lk h2 k.rk
  have hS := fun W (k : ImIn W m pb pk ps pu nb cb nk ck ns cs nu cu) => copySites_any ps ns cs m.si W k.ls h3 k.rs
  have hU := fun W (k : ImIn W m pb pk ps pu nb cb nk ck ns cs nu cu) => copyInts_any pu nu cu m.un W k.lu h4 k.ru
  have H := Hid.in h
  clear h
  go_enter Try.func17, Try.ntmps17
  go_upto_region 1 with fail
  have HA0 : Hid (Blk ((w.alloc (.cells (imA pb pk ps pu nb cb nk ck ns cs nu cu) 31)).alloc (.cells nil4 31)) w.heap.size 31 (imA pb pk ps pu nb cb nk ck ns cs nu cu)) := (Blk.new w 31 _).grow (new_alloc _ _)
  have HB0 : Hid (Blk ((w.alloc (.cells (imA pb pk ps pu nb cb nk ck ns cs nu cu) 31)).alloc (.cells nil4 31)) (w.heap.size + 1) 31 nil4) := by
    have := Blk.new (w.alloc (.cells (imA pb pk ps pu nb cb nk ck ns cs nu cu) 31)) 31 nil4
    rw [size_one] at this
    exact this
  have HW0 : Hid (Below w.heap.size w ((w.alloc (.cells (imA pb pk ps pu nb cb nk ck ns cs nu cu) 31)).alloc (.cells nil4 31))) := below_alloc (new_alloc w _) _
  have hs0 : ((w.alloc (.cells (imA pb pk ps pu nb cb nk ck ns cs nu cu) 31)).alloc (.cells nil4 31)).heap.size = w.heap.size + 2 := by rw [size_one, size_one]
  generalize (w.alloc (.cells (imA pb pk ps pu nb cb nk ck ns cs nu cu) 31)).alloc (.cells nil4 31) = w0 at *
  have a0 : w0.cell? ⟨w.heap.size, 0, none⟩ = some (.slice pb nb cb) := HA0.out.cell 0
  have a1 : w0.cell? ⟨w.heap.size, 1, none⟩ = some (.slice pk nk ck) := HA0.out.cell 1
  have a2 : w0.cell? ⟨w.heap.size, 2, none⟩ = some (.slice ps ns cs) := HA0.out.cell 2
  have a3 : w0.cell? ⟨w.heap.size, 3, none⟩ = some (.slice pu nu cu) := HA0.out.cell 3
  have HS0 := Hid.in (Nat.le_of_eq hs0.symm)
  clear hs0
  go_region_held3 (fun W => W.cell? ⟨w.heap.size, 0, none⟩ = some (.slice pb nb cb) ∧ W.cell? ⟨w.heap.size, 1, none⟩ = some (.slice pk nk ck) ∧ W.cell? ⟨w.heap.size, 2, none⟩ = some (.slice ps ns cs) ∧ W.cell? ⟨w.heap.size, 3, none⟩ = some (.slice pu nu cu)) (first | go_keep | exact hk1 | exact hk2 | exact hk3 | exact hk4)
    (first
      | (go_at_call 38; refine (hB _ (H.out.below (below_draws HW0.out 1))).mono ?_; rintro E w1 ⟨v1, rfl, ho1, hb1⟩; obtain ⟨p1, n1, c1, rfl, -⟩ := ho1.sl; have HW1 := Hid.in (below_step (below_draws HW0.out 1) hb1); have HC1 := Hid.in (below_step (below_draws (below_self w0) 1) hb1); have HA1 := Hid.in (HA0.out.grow HC1.out); have HB1 := Hid.in (HB0.out.grow HC1.out); have HO1 : Hid (OwnV w1 (w.heap.size + 2) (.slice p1 n1 c1) m.bs) := own_lower ho1 HS0.out; have HS1 := Hid.in (Nat.le_trans HS0.out HC1.out.size); have hk1 : w1.cell? ⟨w.heap.size, 0, none⟩ = some (.slice pb nb cb) ∧ w1.cell? ⟨w.heap.size, 1, none⟩ = some (.slice pk nk ck) ∧ w1.cell? ⟨w.heap.size, 2, none⟩ = some (.slice ps ns cs) ∧ w1.cell? ⟨w.heap.size, 3, none⟩ = some (.slice pu nu cu) := ⟨HA1.out.cell 0, HA1.out.cell 1, HA1.out.cell 2, HA1.out.cell 3⟩; clear ho1 hb1)
      | (go_at_call 39; refine (hK _ (H.out.below HW1.out)).mono ?_; rintro E w2 ⟨v2, rfl, ho2, hb2⟩; obtain ⟨p2, n2, c2, rfl, -⟩ := ho2.sl; have HW2 := Hid.in (below_step HW1.out hb2); have HA2 := Hid.in (HA1.out.grow hb2); have HB2 := Hid.in (HB1.out.grow hb2); have HO2 := Hid.in (HO1.out.below hb2); have HK2 : Hid (GOwnV 9 w2 (w.heap.size + 2) (.slice p2 n2 c2) (strV m.ks)) := own_lower ho2 HS1.out; have HS2 := Hid.in (Nat.le_trans HS1.out hb2.size); have hk2 : w2.cell? ⟨w.heap.size, 0, none⟩ = some (.slice pb nb cb) ∧ w2.cell? ⟨w.heap.size, 1, none⟩ = some (.slice pk nk ck) ∧ w2.cell? ⟨w.heap.size, 2, none⟩ = some (.slice ps ns cs) ∧ w2.cell? ⟨w.heap.size, 3, none⟩ = some (.slice pu nu cu) := ⟨HA2.out.cell 0, HA2.out.cell 1, HA2.out.cell 2, HA2.out.cell 3⟩; clear ho2 hb2)
      | (go_at_call 29; refine (hS _ (H.out.below HW2.out)).mono ?_; rintro E w3 ⟨v3, rfl, ho3, hb3⟩; obtain ⟨p3, n3, c3', rfl, -⟩ := ho3.sl; have HW3 := Hid.in (below_step HW2.out hb3); have HA3 := Hid.in (HA2.out.grow hb3); have HB3 := Hid.in (HB2.out.grow hb3); have HO3 := Hid.in (HO2.out.below hb3); have HK3 := Hid.in (HK2.out.below hb3); have HV3 : Hid (TOwn 41 w3 (w.heap.size + 2) (.slice p3 n3 c3') (m.si.map siV)) := own_lower ho3 HS2.out; have HS3 := Hid.in (Nat.le_trans HS2.out hb3.size); have hk3 : w3.cell? ⟨w.heap.size, 0, none⟩ = some (.slice pb nb cb) ∧ w3.cell? ⟨w.heap.size, 1, none⟩ = some (.slice pk nk ck) ∧ w3.cell? ⟨w.heap.size, 2, none⟩ = some (.slice ps ns cs) ∧ w3.cell? ⟨w.heap.size, 3, none⟩ = some (.slice pu nu cu) := ⟨HA3.out.cell 0, HA3.out.cell 1, HA3.out.cell 2, HA3.out.cell 3⟩; clear ho3 hb3)
      | (go_at_call 40; refine (hU _ (H.out.below HW3.out)).mono ?_; rintro E w4 ⟨v4, rfl, ho4, hb4⟩; obtain ⟨p4, n4', c4, rfl, -⟩ := ho4.sl; have HW4 := Hid.in (below_step HW3.out hb4); have HA4 := Hid.in (HA3.out.grow hb4); have HB4 := Hid.in (HB3.out.grow hb4); have HI4 : Hid (ImOwn w4 (w.heap.size + 2) m (.slice p1 n1 c1) (.slice p2 n2 c2) (.slice p3 n3 c3') (.slice p4 n4' c4)) := ⟨HO3.out.below hb4, HK3.out.below hb4, HV3.out.below hb4, own_lower ho4 HS3.out⟩; have hk4 : w4.cell? ⟨w.heap.size, 0, none⟩ = some (.slice pb nb cb) ∧ w4.cell? ⟨w.heap.size, 1, none⟩ = some (.slice pk nk ck) ∧ w4.cell? ⟨w.heap.size, 2, none⟩ = some (.slice ps ns cs) ∧ w4.cell? ⟨w.heap.size, 3, none⟩ = some (.slice pu nu cu) := ⟨HA4.out.cell 0, HA4.out.cell 1, HA4.out.cell 2, HA4.out.cell 3⟩; obtain ⟨e0, e1, e2, e3⟩ := HB4.out.cells4; have z0 := HB4.out.free 0; have z1 := HB4.out.free 1; have z2 := HB4.out.free 2; have z3 := HB4.out.free 3; clear ho4 hb4))
  have HBE := Hid.in (HB4.out.set4 rfl (.slice p1 n1 c1) (.slice p2 n2 c2) (.slice p3 n3 c3') (.slice p4 n4' c4) rfl)
  have HIE := Hid.in (HI4.out.set4 (R := w.heap.size + 1) (Nat.lt_succ_self _) (.slice p1 n1 c1) (.slice p2 n2 c2) (.slice p3 n3 c3') (.slice p4 n4' c4))
  have HLE := Hid.in (below4 (R := w.heap.size + 1) (Below.refl _ w4) (.slice p1 n1 c1) (.slice p2 n2 c2) (.slice p3 n3 c3') (.slice p4 n4' c4))
  generalize ((((w4.setCell ⟨w.heap.size + 1, 0, none⟩ (.slice p1 n1 c1)).setCell ⟨w.heap.size + 1, 1, none⟩ (.slice p2 n2 c2)).setCell ⟨w.heap.size + 1, 2, none⟩ (.slice p3 n3 c3')).setCell ⟨w.heap.size + 1, 3, none⟩ (.slice p4 n4' c4)) = w5 at *
  clear e0 e1 e2 e3 z0 z1 z2 z3 hk1 hk2 hk3 hk4 a0 a1 a2 a3 hB hK hS hU
  go_wp2_with fail
  exact bodyPost_ret (v := .agg #[.slice p1 n1 c1, .slice p2 n2 c2, .slice p3 n3 c3', .slice p4 n4' c4]) (res7 HBE.out rfl) rfl ⟨_, _, _, _, rfl, HIE.out.lower (by omega), HW4.out.trans (HLE.out.mono (Nat.le_succ _))⟩
end Go.Proofs.Ytkpieeldoielgaa

/- switchyardkit.SameImage at the same image twice. -/
namespace Go.Proofs.Ytkpieeldoielgaa
open Go.RowKit

set_option maxRecDepth 20000 in
set_option maxHeartbeats 2000000 in
theorem sameImage_yes (m : IM) (pb pk ps pu qb qk qs qu : Option Addr) (nb cb nk ck ns cs nu cu db dk ds du : Nat) (w : World) (h : ImIn w m pb pk ps pu nb cb nk ck ns cs nu cu) (h' : ImIn w m qb qk qs qu nb db nk dk ns ds nu du) :
    Calls Try.prog 18 #[.agg (imA pb pk ps pu nb cb nk ck ns cs nu cu), .agg (imA qb qk qs qu nb db nk dk ns ds nu du)] w fun E w' => E = .returned (.bool true) ∧ Below w.heap.size w w' := by
  have hB := fun W (hW : Below w.heap.size w W) => sameBytes_any pb qb nb cb nb db m.bs m.bs W h.lb h.lb (by have := h.kb; have := h.mb; omega) (h.below hW).rb (h'.below hW).rb
  have hK := fun W (hW : Below w.heap.size w W) => sameTexts_self pk qk nk ck dk m.ks W (by have := h.mc; omega) h.lk (h.below hW).rk (h'.below hW).rk
  have hS := fun W (hW : Below w.heap.size w W) => sameSites_any ps qs ns cs ns ds m.si m.si W h.ls h.ls (by have := h.ms; omega) (by have := h.ms; omega) (h.below hW).rs (h'.below hW).rs
  have hU := fun W (hW : Below w.heap.size w W) => sameInts_self pu qu nu cu du m.un W (by have := h.mu; omega) h.lu (h.below hW).ru (h'.below hW).ru
  simp only [sameB_self] at hB
  have HA0 : Hid (Blk ((w.alloc (.cells (imA pb pk ps pu nb cb nk ck ns cs nu cu) 31)).alloc (.cells (imA qb qk qs qu nb db nk dk ns ds nu du) 31)) w.heap.size 31 (imA pb pk ps pu nb cb nk ck ns cs nu cu)) := (Blk.new w 31 _).grow (new_alloc _ _)
  have HB0 : Hid (Blk ((w.alloc (.cells (imA pb pk ps pu nb cb nk ck ns cs nu cu) 31)).alloc (.cells (imA qb qk qs qu nb db nk dk ns ds nu du) 31)) (w.heap.size + 1) 31 (imA qb qk qs qu nb db nk dk ns ds nu du)) := by
    have := Blk.new (w.alloc (.cells (imA pb pk ps pu nb cb nk ck ns cs nu cu) 31)) 31 (imA qb qk qs qu nb db nk dk ns ds nu du)
    rw [size_one] at this
    exact this
  have HW0 : Hid (Below w.heap.size w ((w.alloc (.cells (imA pb pk ps pu nb cb nk ck ns cs nu cu) 31)).alloc (.cells (imA qb qk qs qu nb db nk dk ns ds nu du) 31))) := below_alloc (new_alloc w _) _
  obtain ⟨a0, a1, a2, a3⟩ := HA0.out.cells4
  obtain ⟨b0, b1, b2, b3⟩ := HB0.out.cells4
  clear h h'
  go_enter Try.func18, Try.ntmps18
  go_wp2_with (first
    | (go_at_call 41; refine (hB _ HW0.out).mono ?_; rintro e w1 ⟨rfl, z1, hz1⟩; have HW1 : Hid (Below w.heap.size w w1) := (by rw [hz1]; exact below_draws HW0.out z1); have HA1 : Hid (Blk w1 w.heap.size 31 (imA pb pk ps pu nb cb nk ck ns cs nu cu)) := (by rw [hz1]; exact HA0.out); have HB1 : Hid (Blk w1 (w.heap.size + 1) 31 (imA qb qk qs qu nb db nk dk ns ds nu du)) := (by rw [hz1]; exact HB0.out); obtain ⟨a0, a1, a2, a3⟩ := HA1.out.cells4; obtain ⟨b0, b1, b2, b3⟩ := HB1.out.cells4; clear hz1 hB)
    | (go_at_call 42; refine (hK _ HW1.out).mono ?_; rintro e w2 ⟨rfl, z1, hz1⟩; have HW2 : Hid (Below w.heap.size w w2) := (by rw [hz1]; exact below_draws HW1.out z1); have HA2 : Hid (Blk w2 w.heap.size 31 (imA pb pk ps pu nb cb nk ck ns cs nu cu)) := (by rw [hz1]; exact HA1.out); have HB2 : Hid (Blk w2 (w.heap.size + 1) 31 (imA qb qk qs qu nb db nk dk ns ds nu du)) := (by rw [hz1]; exact HB1.out); obtain ⟨a0, a1, a2, a3⟩ := HA2.out.cells4; obtain ⟨b0, b1, b2, b3⟩ := HB2.out.cells4; clear hz1 hK)
    | (go_at_call 22; refine (hS _ HW2.out).mono ?_; rintro e w3 ⟨⟨t, rfl, ht⟩, z1, hz1⟩; obtain rfl : t = true := ht.2 (by trivial); have HW3 : Hid (Below w.heap.size w w3) := (by rw [hz1]; exact below_draws HW2.out z1); have HA3 : Hid (Blk w3 w.heap.size 31 (imA pb pk ps pu nb cb nk ck ns cs nu cu)) := (by rw [hz1]; exact HA2.out); have HB3 : Hid (Blk w3 (w.heap.size + 1) 31 (imA qb qk qs qu nb db nk dk ns ds nu du)) := (by rw [hz1]; exact HB2.out); obtain ⟨a0, a1, a2, a3⟩ := HA3.out.cells4; obtain ⟨b0, b1, b2, b3⟩ := HB3.out.cells4; clear hz1 hS ht)
    | (go_at_call 43; refine (hU _ HW3.out).mono ?_; rintro e w4 ⟨rfl, z1, hz1⟩; have HW4 : Hid (Below w.heap.size w w4) := (by rw [hz1]; exact below_draws HW3.out z1); clear hz1 hU))
  go_ret
  exact ⟨rfl, HW4.out⟩
end Go.Proofs.Ytkpieeldoielgaa

/- Ours: KeysPlays' parts: the made image, copied, and beside its copy. -/
namespace Go.Proofs.Ytkpieeldoielgaa
open Go.RowKit

theorem copy_im (l : List Int) (h20 : l.length ≤ 20) (w : World) (B : Nat) (vB vK vS vU : Value) (h : ImOwn w B (imM l) vB vK vS vU) :
    Calls Try.prog 17 #[.agg #[vB, vK, vS, vU]] w fun e w' => ∃ vb vk vs vu, e = .returned (.agg #[vb, vk, vs, vu]) ∧ ImOwn w' w.heap.size (imM l) vb vk vs vu ∧ Below w.heap.size w w' := by
  have hB := okI_im (imM_ok l h20)
  have b1 : (imM l).bs.length ≤ 65536 := hB.bs
  have b2 : (imM l).ks.length ≤ 64 := by have := hB.ks; simpa [IM.im] using this
  have b3 : (imM l).si.length ≤ 256 := hB.si
  have b4 : (imM l).un.length ≤ 16 := hB.un
  obtain ⟨qb, qk, qs, qu, db, dk, ds, du, rfl, rfl, rfl, rfl, hI, -⟩ := h.inOk (imM_ok l h20) (imM_byt _)
  exact copyImage_any (imM l) qb qk qs qu _ _ _ _ _ _ _ _ w hI (by omega) (by omega) (by omega) (by omega)
theorem same_im (l : List Int) (h20 : l.length ≤ 20) (w : World) (B B' : Nat) (vB vK vS vU xB xK xS xU : Value) (h : ImOwn w B (imM l) vB vK vS vU) (h' : ImOwn w B' (imM l) xB xK xS xU) :
    Calls Try.prog 18 #[.agg #[vB, vK, vS, vU], .agg #[xB, xK, xS, xU]] w fun e w' => e = .returned (.bool true) ∧ Below w.heap.size w w' := by
  obtain ⟨qb, qk, qs, qu, db, dk, ds, du, rfl, rfl, rfl, rfl, hI, -⟩ := h.inOk (imM_ok l h20) (imM_byt _)
  obtain ⟨rb, rk, rs, ru, eb, ek, es, eu, rfl, rfl, rfl, rfl, hJ, -⟩ := h'.inOk (imM_ok l h20) (imM_byt _)
  exact sameImage_yes (imM l) qb qk qs qu rb rk rs ru _ _ _ _ _ _ _ _ _ _ _ _ w hI hJ
end Go.Proofs.Ytkpieeldoielgaa

/- Ours: where KeysPlays stands: two tables and the document's two, in the law's variables. -/
namespace Go.Proofs.Ytkpieeldoielgaa
open Go.RowKit

structure TD where
  h : Nat
  b : Nat
  n : Nat
  cs : List Int
  op : Bool
  p : Option Addr
  c : Nat
structure RD where
  q : Option Addr
  d : Nat
  cs : List Int
  op : Bool
def upd {α : Type} (f : Nat → α) (k : Nat) (x : α) : Nat → α := fun j => if j = k then x else f j
theorem upd_same {α : Type} (f : Nat → α) (k : Nat) (x : α) : upd f k x k = x := if_pos rfl
theorem upd_other {α : Type} (f : Nat → α) {k j : Nat} (x : α) (h : j ≠ k) : upd f k x j = f j := if_neg h
/-- what may be turned by the law's round -/
def GA (gt gw : Nat) (T : Nat → TD) (j : Nat) : Prop := j = gt ∨ j = gw ∨ ∃ k, k < 2 ∧ G2 (T k).h (T k).b j
abbrev ptrA (T : Nat → TD) : Array Value := #[.pointer (some ⟨(T 0).h, 0, none⟩), .pointer (some ⟨(T 1).h, 0, none⟩)]
abbrev refA (R : Nat → RD) : Array Value := #[.slice (R 0).q (R 0).cs.length (R 0).d, .bool (R 0).op, .slice (R 1).q (R 1).cs.length (R 1).d, .bool (R 1).op]
theorem GRow.off {G : Nat → Prop} {w w' : World} {p : Option Addr} {L : List Value} (h : GRow w p L) (hk : Keeps G w w') (hp : 0 < L.length → ∀ a, p = some a → ¬ G a.block) : GRow w' p L := fun h0 => by
  obtain ⟨b, o, e, hc⟩ := h h0
  refine ⟨b, o, e, fun i hi => ?_⟩
  have h1 := hc i hi
  have hlt : b < w.heap.size := by
    rw [List.getElem?_eq_getElem hi] at h1
    exact cell_lt h1
  rw [← h1]
  have := hk.block b hlt (hp h0 _ e)
  unfold World.cell?
  dsimp only
  rw [this]
theorem GRow.lt0 {w : World} {p : Option Addr} {L : List Value} (h : GRow w p L) (h0 : 0 < L.length) : ∀ a, p = some a → a.block < w.heap.size := fun a ea => by
  obtain ⟨b, o, e, hc⟩ := h h0
  rw [ea] at e
  injection e with e
  subst e
  have h1 := hc 0 h0
  rw [List.getElem?_eq_getElem h0] at h1
  exact cell_lt h1
structure KT (w0 w : World) (M gt gw kn : Nat) (T : Nat → TD) (R : Nat → RD) (si : List Si) (qs : Option Addr) (A : Array Value) : Prop where
  mb : Blk w M 31 A
  sr : Row3 w qs (si.map siV)
  sof : ∀ a, qs = some a → ¬ GA gt gw T a.block
  slt : ∀ a, qs = some a → a.block < w.heap.size
  tab : ∀ k, k < 2 → TabAt w (T k).h (T k).b (T k).n (T k).cs (T k).op (T k).p (T k).c si
  bt : Blk w gt 47 (ptrA T)
  bw : Blk w gw 51 (refA R)
  row : ∀ k, k < 2 → GRow w (R k).q (numZ (R k).cs)
  rof : ∀ k, k < 2 → 0 < (R k).cs.length → ∀ a, (R k).q = some a → ¬ GA gt gw T a.block
  pof : ∀ k, k < 2 → ∀ a, (T k).p = some a → ¬ GA gt gw T a.block
  hh : (T 0).h ≠ (T 1).h
  bb : (T 0).b ≠ (T 1).b
  bel : Below w0.heap.size w0 w
  lo : ∀ j, GA gt gw T j → w0.heap.size ≤ j
  lT : ∀ k, k < 2 → (T k).cs.length = kn
  lR : ∀ k, k < 2 → (R k).cs.length = kn
section
variable {w0 w w' : World} {M gt gw kn : Nat} {T : Nat → TD} {R : Nat → RD} {si : List Si} {qs : Option Addr} {A : Array Value}
theorem Blk.neT {w : World} {g h : Nat} {S U : TypeId} {c d : Array Value} (hg : Blk w g S c) (hh : Blk w h U d) (n : S ≠ U) : g ≠ h := fun e => by
  subst e
  have e1 : w.heap[g]? = _ := hg
  have e2 : w.heap[g]? = _ := hh
  rw [e1] at e2
  injection e2 with e2
  injection e2 with _ e2
  exact n e2
/-- a block of the law's own types is no table's -/
theorem KT.not2 (H : KT w0 w M gt gw kn T R si qs A) {g : Nat} {S : TypeId} {c : Array Value} (hg : Blk w g S c) (n : S ≠ 66) {k : Nat} (hk : k < 2) : ¬ G2 (T k).h (T k).b g := by
  rintro (e | e)
  · exact hg.neT (H.tab k hk).blk n e
  · exact (H.tab k hk).map.notBlk hg e
theorem KT.nM (H : KT w0 w M gt gw kn T R si qs A) : ¬ GA gt gw T M := by
  rintro (e | e | ⟨k, hk, e⟩)
  · exact H.mb.neT H.bt (by decide) e
  · exact H.mb.neT H.bw (by decide) e
  · exact H.not2 H.mb (by decide) hk e
theorem KT.ltG (H : KT w0 w M gt gw kn T R si qs A) {j : Nat} (hj : GA gt gw T j) : j < w.heap.size := by
  rcases hj with rfl | rfl | ⟨k, hk, rfl | rfl⟩
  · exact H.bt.lt
  · exact H.bw.lt
  · exact (H.tab k hk).blk.lt
  · exact (H.tab k hk).map.lt
theorem KT.below (H : KT w0 w M gt gw kn T R si qs A) (hb : Below w.heap.size w w') : KT w0 w' M gt gw kn T R si qs A :=
  { H with
    mb := H.mb.grow hb
    sr := H.sr.below hb
    slt := fun a e => Nat.lt_of_lt_of_le (H.slt a e) hb.size
    tab := fun k hk => (H.tab k hk).below hb
    bt := H.bt.grow hb
    bw := H.bw.grow hb
    row := fun k hk => (H.row k hk).below hb
    bel := below_step H.bel hb }
/-- a block that is none of these is written -/
theorem KT.write {g : Nat} (H : KT w0 w M gt gw kn T R si qs A) (hk : Keeps (fun j => j = g) w w') (h0 : w0.heap.size ≤ g) (hM : M ≠ g) (hG : ¬ GA gt gw T g) (hs : ∀ a, qs = some a → a.block ≠ g) (hp : ∀ k, k < 2 → ∀ a, (T k).p = some a → a.block ≠ g) (hr : ∀ k, k < 2 → 0 < (R k).cs.length → ∀ a, (R k).q = some a → a.block ≠ g) : KT w0 w' M gt gw kn T R si qs A :=
  { H with
    mb := (hk.block M H.mb.lt hM).trans H.mb
    sr := H.sr.keeps hk hs
    slt := fun a e => Nat.lt_of_lt_of_le (H.slt a e) hk.size
    tab := fun k h2 => (H.tab k h2).keeps hk (fun e => hG (.inr (.inr ⟨k, h2, .inl e.symm⟩))) (fun e => hG (.inr (.inr ⟨k, h2, .inr e.symm⟩))) (hp k h2)
    bt := (hk.block gt H.bt.lt (fun e => hG (.inl e.symm))).trans H.bt
    bw := (hk.block gw H.bw.lt (fun e => hG (.inr (.inl e.symm)))).trans H.bw
    row := fun k h2 => (H.row k h2).off hk (fun h0 => hr k h2 (by simpa [numZ] using h0))
    bel := H.bel.trans (hk.below H.bel.size (fun j e => e ▸ h0)) }
theorem upd_ga {k : Nat} {y : TD} (h1 : y.h = (T k).h) (h2 : y.b = (T k).b) (j : Nat) : GA gt gw (upd T k y) j ↔ GA gt gw T j := by
  have e : ∀ i, (upd T k y i).h = (T i).h ∧ (upd T k y i).b = (T i).b := fun i => by
    by_cases hi : i = k
    · subst hi; rw [upd_same]; exact ⟨h1, h2⟩
    · rw [upd_other _ _ hi]; exact ⟨rfl, rfl⟩
  unfold GA
  constructor
  · rintro (h | h | ⟨i, hi, h⟩)
    · exact .inl h
    · exact .inr (.inl h)
    · rw [(e i).1, (e i).2] at h; exact .inr (.inr ⟨i, hi, h⟩)
  · rintro (h | h | ⟨i, hi, h⟩)
    · exact .inl h
    · exact .inr (.inl h)
    · exact .inr (.inr ⟨i, hi, by rw [(e i).1, (e i).2]; exact h⟩)
/-- a table's call turns its own blocks alone -/
theorem KT.call {n' : Nat} {cs' : List Int} {op' : Bool} (H : KT w0 w M gt gw kn T R si qs A) {k : Nat} (hk2 : k < 2) (hk : Keeps (G2 (T k).h (T k).b) w w') (hT : TabAt w' (T k).h (T k).b n' cs' op' (T k).p (T k).c si) (hl : cs'.length = kn) : KT w0 w' M gt gw kn (upd T k ⟨(T k).h, (T k).b, n', cs', op', (T k).p, (T k).c⟩) R si qs A := by
  have hga := fun j => upd_ga (gt := gt) (gw := gw) (T := T) (k := k) (y := ⟨(T k).h, (T k).b, n', cs', op', (T k).p, (T k).c⟩) rfl rfl j
  have hG : ∀ j, G2 (T k).h (T k).b j → GA gt gw T j := fun j e => .inr (.inr ⟨k, hk2, e⟩)
  have hph : ∀ i, (upd T k ⟨(T k).h, (T k).b, n', cs', op', (T k).p, (T k).c⟩ i).h = (T i).h ∧ (upd T k ⟨(T k).h, (T k).b, n', cs', op', (T k).p, (T k).c⟩ i).b = (T i).b ∧ (upd T k ⟨(T k).h, (T k).b, n', cs', op', (T k).p, (T k).c⟩ i).p = (T i).p := fun i => by
    by_cases hi : i = k
    · subst hi; rw [upd_same]; exact ⟨rfl, rfl, rfl⟩
    · rw [upd_other _ _ hi]; exact ⟨rfl, rfl, rfl⟩
  refine ⟨(hk.block M H.mb.lt (fun e => H.nM (hG _ e))).trans H.mb, H.sr.keeps hk (fun a e h => H.sof a e (hG _ h)), fun a e h => H.sof a e ((hga _).1 h), fun a e => Nat.lt_of_lt_of_le (H.slt a e) hk.size, fun i hi => ?_, ?_, (hk.block gw H.bw.lt (H.not2 H.bw (by decide) hk2)).trans H.bw, fun i hi => (H.row i hi).off hk (fun h0 a e h => H.rof i hi (by simpa [numZ] using h0) a e (hG _ h)), fun i hi h0 a e h => H.rof i hi h0 a e ((hga _).1 h), fun i hi a e h => ?_, ?_, ?_, H.bel.trans (hk.below H.bel.size (fun j e => H.lo j (hG j e))), fun j h => H.lo j ((hga j).1 h), fun i hi => ?_, H.lR⟩
  · by_cases e : i = k
    · subst e; rw [upd_same]; exact hT
    · rw [upd_other _ _ e]
      refine (H.tab i hi).keeps hk ?_ ?_ (fun a ea h => H.pof i hi a ea (hG _ h))
      · rintro (e' | e')
        · rcases (by omega : (i = 0 ∧ k = 1) ∨ (i = 1 ∧ k = 0)) with ⟨rfl, rfl⟩ | ⟨rfl, rfl⟩
          · exact H.hh e'
          · exact H.hh e'.symm
        · exact (H.tab k hk2).map.notBlk (H.tab i hi).blk e'
      · rintro (e' | e')
        · exact (H.tab i hi).map.notBlk (H.tab k hk2).blk e'.symm
        · rcases (by omega : (i = 0 ∧ k = 1) ∨ (i = 1 ∧ k = 0)) with ⟨rfl, rfl⟩ | ⟨rfl, rfl⟩
          · exact H.bb e'
          · exact H.bb e'.symm
  · have e : ptrA (upd T k ⟨(T k).h, (T k).b, n', cs', op', (T k).p, (T k).c⟩) = ptrA T := by
      unfold ptrA
      rw [(hph 0).1, (hph 1).1]
    rw [e]
    exact (hk.block gt H.bt.lt (H.not2 H.bt (by decide) hk2)).trans H.bt
  · rw [(hph i).2.2] at e
    exact H.pof i hi a e ((hga _).1 h)
  · rw [(hph 0).1, (hph 1).1]; exact H.hh
  · rw [(hph 0).2.1, (hph 1).2.1]; exact H.bb
  · by_cases e : i = k
    · subst e; rw [upd_same]; exact hl
    · rw [upd_other _ _ e]; exact H.lT i hi
/-- 'w[k] = x' -/
theorem KT.setR (H : KT w0 w M gt gw kn T R si qs A) {k : Nat} (_hk2 : k < 2) (x : RD) (hB : Blk w' gw 51 (refA (upd R k x))) (hg : w.grownBy w' (some gw)) (hr : GRow w x.q (numZ x.cs)) (ho : 0 < x.cs.length → ∀ a, x.q = some a → ¬ GA gt gw T a.block) (hl : x.cs.length = kn) : KT w0 w' M gt gw kn T (upd R k x) si qs A := by
  have hk := keeps_grown hg
  have hG : ∀ j, j = gw → GA gt gw T j := fun j e => .inr (.inl e)
  have hne : ∀ i, i < 2 → (T i).h ≠ gw ∧ (T i).b ≠ gw := fun i hi => ⟨fun e => H.not2 H.bw (by decide) hi (.inl e.symm), fun e => H.not2 H.bw (by decide) hi (.inr e.symm)⟩
  refine ⟨(hk.block M H.mb.lt (fun e => H.nM (hG _ e))).trans H.mb, H.sr.keeps hk (fun a e h => H.sof a e (hG _ h)), H.sof, fun a e => Nat.lt_of_lt_of_le (H.slt a e) hk.size, fun i hi => (H.tab i hi).keeps hk (hne i hi).1 (hne i hi).2 (fun a e h => H.pof i hi a e (hG _ h)), (hk.block gt H.bt.lt (H.bt.neT H.bw (by decide))).trans H.bt, hB, fun i hi => ?_, fun i hi h0 a e => ?_, H.pof, H.hh, H.bb, H.bel.trans (hk.below H.bel.size (fun j e => H.lo j (hG j e))), H.lo, H.lT, fun i hi => ?_⟩
  · by_cases e : i = k
    · subst e; rw [upd_same]; exact hr.off hk (fun h0 a ea h => ho (by simpa [numZ] using h0) a ea (hG _ h))
    · rw [upd_other _ _ e]; exact (H.row i hi).off hk (fun h0 a ea h => H.rof i hi (by simpa [numZ] using h0) a ea (hG _ h))
  · by_cases ei : i = k
    · subst ei; rw [upd_same] at h0 e; exact ho h0 a e
    · rw [upd_other _ _ ei] at h0 e; exact H.rof i hi h0 a e
  · by_cases e : i = k
    · subst e; rw [upd_same]; exact hl
    · rw [upd_other _ _ e]; exact H.lR i hi
/-- 't[j] = a copy of t[k]' -/
theorem KT.setT (H : KT w0 w M gt gw kn T R si qs A) {w1 : World} (hb : Below w.heap.size w w1) {k j : Nat} (hk2 : k < 2) (hj : k + j = 1) {h' b' : Nat} (hT : TabAt w1 h' b' (T k).n (T k).cs (T k).op (T k).p (T k).c si) (h1 : w.heap.size ≤ h') (h2 : w.heap.size ≤ b') (hB : Blk w' gt 47 (ptrA (upd T j ⟨h', b', (T k).n, (T k).cs, (T k).op, (T k).p, (T k).c⟩))) (hg : w1.grownBy w' (some gt)) : KT w0 w' M gt gw kn (upd T j ⟨h', b', (T k).n, (T k).cs, (T k).op, (T k).p, (T k).c⟩) R si qs A := by
  have H1 := H.below hb
  have hk := keeps_grown hg
  have hsz := H.bel.size
  have hG : ∀ i, i = gt → GA gt gw T i := fun i e => .inl e
  have hne : ∀ i, i < 2 → (T i).h ≠ gt ∧ (T i).b ≠ gt := fun i hi => ⟨fun e => H.not2 H.bt (by decide) hi (.inl e.symm), fun e => H.not2 H.bt (by decide) hi (.inr e.symm)⟩
  have hgt := H.bt.lt
  have hga : ∀ i, GA gt gw (upd T j ⟨h', b', (T k).n, (T k).cs, (T k).op, (T k).p, (T k).c⟩) i → GA gt gw T i ∨ w.heap.size ≤ i := by
    rintro i (h | h | ⟨m, hm, h⟩)
    · exact .inl (.inl h)
    · exact .inl (.inr (.inl h))
    · by_cases e : m = j
      · subst e
        rw [upd_same] at h
        rcases h with rfl | rfl
        · exact .inr h1
        · exact .inr h2
      · rw [upd_other _ _ e] at h
        exact .inl (.inr (.inr ⟨m, hm, h⟩))
  have hjk : j ≠ k := by omega
  refine ⟨(hk.block M H1.mb.lt (fun e => H.nM (hG _ e))).trans H1.mb, H1.sr.keeps hk (fun a e h => H.sof a e (hG _ h)), fun a e h => ?_, fun a e => Nat.lt_of_lt_of_le (H1.slt a e) hk.size, fun i hi => ?_, hB, (hk.block gw H1.bw.lt (fun e => H1.bw.neT H1.bt (by decide) e)).trans H1.bw, fun i hi => (H1.row i hi).off hk (fun h0 a ea h => H.rof i hi (by simpa [numZ] using h0) a ea (hG _ h)), fun i hi h0 a e h => ?_, fun i hi a e h => ?_, ?_, ?_, H1.bel.trans (hk.below H1.bel.size (fun i e => H.lo i (hG i e))), fun i h => ?_, fun i hi => ?_, H.lR⟩
  · rcases hga _ h with h | h
    · exact H.sof a e h
    · have := H.slt a e; omega
  · by_cases e : i = j
    · subst e; rw [upd_same]
      refine hT.keeps hk ?_ ?_ (fun a ea h => H.pof k hk2 a ea (hG _ h))
      · show h' ≠ gt; omega
      · show b' ≠ gt; omega
    · rw [upd_other _ _ e]
      exact (H1.tab i hi).keeps hk (hne i hi).1 (hne i hi).2 (fun a ea h => H.pof i hi a ea (hG _ h))
  · rcases hga _ h with h | h
    · exact H.rof i hi h0 a e h
    · have := (H.row i hi).lt0 (by simpa [numZ] using h0) a e; omega
  · have hp : (T i).p = some a ∨ (T k).p = some a := by
      by_cases ei : i = j
      · subst ei; rw [upd_same] at e; exact .inr e
      · rw [upd_other _ _ ei] at e; exact .inl e
    rcases hga _ h with h | h
    · rcases hp with hp | hp
      · exact H.pof i hi a hp h
      · exact H.pof k hk2 a hp h
    · rcases hp with hp | hp
      · have := (H.tab i hi).pl a hp; omega
      · have := (H.tab k hk2).pl a hp; omega
  · have l0 := (H.tab k hk2).blk.lt
    rcases (by omega : (j = 0 ∧ k = 1) ∨ (j = 1 ∧ k = 0)) with ⟨rfl, rfl⟩ | ⟨rfl, rfl⟩
    · rw [upd_same, upd_other _ _ (by decide)]; show h' ≠ _; omega
    · rw [upd_same, upd_other _ _ (by decide)]; show _ ≠ h'; omega
  · have l0 := (H.tab k hk2).map.lt
    rcases (by omega : (j = 0 ∧ k = 1) ∨ (j = 1 ∧ k = 0)) with ⟨rfl, rfl⟩ | ⟨rfl, rfl⟩
    · rw [upd_same, upd_other _ _ (by decide)]; show b' ≠ _; omega
    · rw [upd_same, upd_other _ _ (by decide)]; show _ ≠ b'; omega
  · rcases hga _ h with h | h
    · exact H.lo i h
    · omega
  · by_cases e : i = j
    · subst e; rw [upd_same]; exact H.lT k hk2
    · rw [upd_other _ _ e]; exact H.lT i hi
/-- the cells of the variables, at any of the two -/
theorem KT.ptr (H : KT w0 w M gt gw kn T R si qs A) {k : Nat} (hk : k < 2) : w.cell? ⟨gt, k, none⟩ = some (.pointer (some ⟨(T k).h, 0, none⟩)) := by
  rcases (by omega : k = 0 ∨ k = 1) with rfl | rfl
  · exact H.bt.cell 0
  · exact H.bt.cell 1
theorem KT.ref (H : KT w0 w M gt gw kn T R si qs A) {k : Nat} (hk : k < 2) : w.cell? ⟨gw, k * 2, none⟩ = some (.slice (R k).q kn (R k).d) ∧ w.cell? ⟨gw, k * 2 + 1, none⟩ = some (.bool (R k).op) := by
  rw [← H.lR k hk]
  rcases (by omega : k = 0 ∨ k = 1) with rfl | rfl
  · exact ⟨H.bw.cell 0, H.bw.cell 1⟩
  · exact ⟨H.bw.cell 2, H.bw.cell 3⟩
/-- a struct is written into one of the two places -/
theorem ref_set {k : Nat} (hk : k < 2) {g : Nat} (h : Blk w g 51 (refA R)) (x : RD) : Blk ((w.setCell ⟨g, k * 2, none⟩ (.slice x.q x.cs.length x.d)).setCell ⟨g, k * 2 + 1, none⟩ (.bool x.op)) g 51 (refA (upd R k x)) := by
  rcases (by omega : k = 0 ∨ k = 1) with rfl | rfl
  · have := (h.set 0 (.slice x.q x.cs.length x.d)).set 1 (.bool x.op)
    simpa [refA, upd] using this
  · have := (h.set 2 (.slice x.q x.cs.length x.d)).set 3 (.bool x.op)
    simpa [refA, upd] using this
theorem ptr_set {j : Nat} (hj : j < 2) {g : Nat} (h : Blk w g 47 (ptrA T)) (y : TD) : Blk (w.setCell ⟨g, j, none⟩ (.pointer (some ⟨y.h, 0, none⟩))) g 47 (ptrA (upd T j y)) := by
  rcases (by omega : j = 0 ∨ j = 1) with rfl | rfl
  · have := h.set 0 (.pointer (some ⟨y.h, 0, none⟩))
    simpa [ptrA, upd] using this
  · have := h.set 1 (.pointer (some ⟨y.h, 0, none⟩))
    simpa [ptrA, upd] using this
end
end Go.Proofs.Ytkpieeldoielgaa

/- Ours: KeysPlays' beginning: two tables of one image, ahead of the law's variables. -/
namespace Go.Proofs.Ytkpieeldoielgaa
open Go.RowKit

/-- a block of cells of a type, so many at least -/
def Cel (w : World) (g : Nat) (T : TypeId) (n : Nat) : Prop := ∃ c, Blk w g T c ∧ n ≤ c.size
theorem Cel.keeps {G : Nat → Prop} {w w' : World} {g n : Nat} {T : TypeId} (h : Cel w g T n) (hk : Keeps G w w') (hg : ¬ G g) : Cel w' g T n := by
  obtain ⟨c, hb, hn⟩ := h
  exact ⟨c, (hk.block g hb.lt hg).trans hb, hn⟩
theorem Cel.below {w w' : World} {g n : Nat} {T : TypeId} (h : Cel w g T n) (hb : Below w.heap.size w w') : Cel w' g T n := h.keeps (G := fun _ => False) (Keeps.ofBelow hb) (fun e => e)
theorem Cel.lt {w : World} {g n : Nat} {T : TypeId} (h : Cel w g T n) : g < w.heap.size := by
  obtain ⟨c, hb, _⟩ := h
  exact hb.lt
theorem Cel.set {w : World} {g n : Nat} {T : TypeId} (h : Cel w g T n) (o : Nat) (vs : List Value) : Cel (w.setCells g o vs) g T n := by
  obtain ⟨c, hb, hn⟩ := h
  obtain ⟨c', h1, h2⟩ := Blk.some_after g T vs o w c hb
  exact ⟨c', h1, by omega⟩
theorem keeps_sets (w : World) (g o : Nat) (vs : List Value) : Keeps (fun j => j = g) w (w.setCells g o vs) := keeps_grown (grown_setCells g vs o w)
/-- a told list that is not empty lies in a block of its own -/
theorem TOwn.cel {T : TypeId} {w : World} {B n c : Nat} {q : Option Addr} {L : List V3} (h : TOwn T w B (.slice q n c) L) (h0 : 0 < L.length) : ∃ g, q = some ⟨g, 0, none⟩ ∧ B ≤ g ∧ Cel w g T (L.length * 3) := by
  rcases h.2 with ⟨e1, e2⟩ | ⟨g, cap, cur, e1, e2, e3, e4, e5, e6⟩
  · omega
  · injection e1 with e1 _ _
    refine ⟨g, e1, e2, cur, e3, ?_⟩
    have := e4
    first
      | omega
      | (simp_all; omega)
/-- an element of three cells is cleared -/
theorem step_clear {ops : Array Oper} {rest : List Oper} {o : Oper} {a : Act} {w : World} {Q : Exit → Act → World → Prop} {g n k : Nat} (hC : Cel w g 41 n) (hkn : k * 3 + 3 ≤ n) (hg : o.guard = none) (p x : Operand) (ho : o.op = .store 41 p x) (hd : o.dst = none)
    (hp : a.eval p = .pointer (some ⟨g, k * 3, none⟩)) (hx : a.eval x = .agg #[.int .i64 0, .int .i64 0, .int .i64 0])
    (h : ∀ w', Cel w' g 41 n → Keeps (fun j => j = g) w w' → wpList Try.prog ops Q rest a w') : wpList Try.prog ops Q (o :: rest) a w := by
  obtain ⟨c, hb, hn⟩ := hC
  refine wpList_store_mid hg 41 p x ho g (k * 3) #[.int .i64 0, .int .i64 0, .int .i64 0] hp hx (hb.there _ _ (by simp; omega)) (by kernel_rfl) (by kernel_rfl) ?_
  rw [hd]
  exact h _ (Cel.set ⟨c, hb, hn⟩ _ _) (keeps_sets _ _ _ _)
structure KP (w0 w : World) (M kn h0 b0 : Nat) (p0 : Option Addr) (c0 h1 b1 : Nat) (p1 : Option Addr) (c1 : Nat) (si : List Si) (qs : Option Addr) (A : Array Value) : Prop where
  mb : Blk w M 31 A
  sr : Row3 w qs (si.map siV)
  slt : ∀ a, qs = some a → a.block < w.heap.size ∧ a.block < h0 ∧ a.block < b0 ∧ a.block < h1 ∧ a.block < b1
  t0 : TabAt w h0 b0 kn (zerosC kn) false p0 c0 si
  t1 : TabAt w h1 b1 kn (zerosC kn) false p1 c1 si
  p0h : ∀ a, p0 = some a → a.block < h1 ∧ a.block < b1
  p1h : ∀ a, p1 = some a → a.block ≠ h0 ∧ a.block ≠ b0
  hh : h0 < h1
  bb : b0 < b1
  hb : h0 < b1
  bh : b0 < h1
  bel : Below w0.heap.size w0 w
  lo : w0.heap.size ≤ h0 ∧ w0.heap.size ≤ b0
section
variable {w0 w w' : World} {M kn h0 b0 h1 b1 c0 c1 : Nat} {p0 p1 : Option Addr} {si : List Si} {qs : Option Addr} {A : Array Value}
theorem KP.below (H : KP w0 w M kn h0 b0 p0 c0 h1 b1 p1 c1 si qs A) (hb : Below w.heap.size w w') : KP w0 w' M kn h0 b0 p0 c0 h1 b1 p1 c1 si qs A :=
  { H with mb := H.mb.grow hb, sr := H.sr.below hb, slt := fun a e => ⟨Nat.lt_of_lt_of_le (H.slt a e).1 hb.size, (H.slt a e).2⟩, t0 := H.t0.below hb, t1 := H.t1.below hb, bel := below_step H.bel hb }
/-- blocks of another list are written -/
theorem KP.keeps {G : Nat → Prop} (H : KP w0 w M kn h0 b0 p0 c0 h1 b1 p1 c1 si qs A) (hk : Keeps G w w') (hM : ¬ G M) (hG : ∀ j, G j → w0.heap.size ≤ j ∧ j ≠ h0 ∧ j ≠ b0 ∧ j ≠ h1 ∧ j ≠ b1) (hs : ∀ a, qs = some a → ¬ G a.block) (hp0 : ∀ a, p0 = some a → ¬ G a.block) (hp1 : ∀ a, p1 = some a → ¬ G a.block) : KP w0 w' M kn h0 b0 p0 c0 h1 b1 p1 c1 si qs A :=
  { H with
    mb := (hk.block M H.mb.lt hM).trans H.mb
    sr := H.sr.keeps hk hs
    slt := fun a e => ⟨Nat.lt_of_lt_of_le (H.slt a e).1 hk.size, (H.slt a e).2⟩
    t0 := H.t0.keeps hk (fun e => (hG _ e).2.1 rfl) (fun e => (hG _ e).2.2.1 rfl) hp0
    t1 := H.t1.keeps hk (fun e => (hG _ e).2.2.2.1 rfl) (fun e => (hG _ e).2.2.2.2 rfl) hp1
    bel := H.bel.trans (hk.below H.bel.size (fun j e => (hG j e).1)) }
def duo {α : Type} (x y : α) : Nat → α
  | 0 => x
  | _ + 1 => y
theorem duo_all {α : Type} {P : Nat → α → Prop} {x y : α} (a : P 0 x) (b : P 1 y) : ∀ k, k < 2 → P k (duo x y k) := fun k hk => by
  rcases (by omega : k = 0 ∨ k = 1) with rfl | rfl
  · exact a
  · exact b
theorem Blk.grow0 {w : World} {g : Nat} {T : TypeId} {L : List Value} (h : Blk w g T L.toArray) : GRow w (some ⟨g, 0, none⟩) L := fun _ => ⟨g, 0, rfl, fun i _ => by rw [Nat.zero_add, h.cell, List.getElem?_toArray]⟩
abbrev T0 (kn h0 b0 : Nat) (p0 : Option Addr) (c0 h1 b1 : Nat) (p1 : Option Addr) (c1 : Nat) : Nat → TD := duo ⟨h0, b0, kn, zerosC kn, false, p0, c0⟩ ⟨h1, b1, kn, zerosC kn, false, p1, c1⟩
abbrev R0 (kn : Nat) (g1 g2 : Nat) : Nat → RD := duo ⟨some ⟨g1, 0, none⟩, kn, zerosC kn, false⟩ ⟨some ⟨g2, 0, none⟩, kn, zerosC kn, false⟩
/-- the law's variables are there -/
theorem KP.ks (H : KP w0 w M kn h0 b0 p0 c0 h1 b1 p1 c1 si qs A) {gt gw g1 g2 : Nat} (hb : Below w.heap.size w w') (lt : w.heap.size ≤ gt) (lw : w.heap.size ≤ gw) (ht : Blk w' gt 47 #[.pointer (some ⟨h0, 0, none⟩), .pointer (some ⟨h1, 0, none⟩)]) (hw : Blk w' gw 51 #[.slice (some ⟨g1, 0, none⟩) kn kn, .bool false, .slice (some ⟨g2, 0, none⟩) kn kn, .bool false]) (hg1 : Blk w' g1 3 (numZ (zerosC kn)).toArray) (hg2 : Blk w' g2 3 (numZ (zerosC kn)).toArray) : KT w0 w' M gt gw kn (T0 kn h0 b0 p0 c0 h1 b1 p1 c1) (R0 kn g1 g2) si qs A := by
  have H1 := H.below hb
  have hsz := H.bel.size
  have b0l := H.t0.map.lt
  have h0l := H.t0.blk.lt
  have b1l := H.t1.map.lt
  have h1l := H.t1.blk.lt
  have hz : (zerosC kn).length = kn := zerosC_len kn
  have hcase : ∀ j, GA gt gw (T0 kn h0 b0 p0 c0 h1 b1 p1 c1) j → j = gt ∨ j = gw ∨ j = h0 ∨ j = b0 ∨ j = h1 ∨ j = b1 := by
    rintro j (h | h | ⟨k, hk, h⟩)
    · exact .inl h
    · exact .inr (.inl h)
    · rcases (by omega : k = 0 ∨ k = 1) with rfl | rfl
      · rcases h with h | h
        · exact .inr (.inr (.inl h))
        · exact .inr (.inr (.inr (.inl h)))
      · rcases h with h | h
        · exact .inr (.inr (.inr (.inr (.inl h))))
        · exact .inr (.inr (.inr (.inr (.inr h))))
  have hng : ∀ g, Blk w' g 3 (numZ (zerosC kn)).toArray → ¬ GA gt gw (T0 kn h0 b0 p0 c0 h1 b1 p1 c1) g := fun g hg h => by
    rcases hcase g h with e | e | e | e | e | e
    · exact hg.neT ht (by decide) e
    · exact hg.neT hw (by decide) e
    · exact hg.neT H1.t0.blk (by decide) e
    · exact H1.t0.map.notBlk hg e
    · exact hg.neT H1.t1.blk (by decide) e
    · exact H1.t1.map.notBlk hg e
  refine ⟨H1.mb, H1.sr, fun a e h => ?_, fun a e => (H1.slt a e).1, duo_all (P := fun _ (y : TD) => TabAt w' y.h y.b y.n y.cs y.op y.p y.c si) H1.t0 H1.t1, ht, ?_, duo_all (P := fun _ (y : RD) => GRow w' y.q (numZ y.cs)) hg1.grow0 hg2.grow0, ?_, ?_, by show h0 ≠ h1; have := H.hh; omega, by show b0 ≠ b1; have := H.bb; omega, H1.bel, fun j h => ?_, duo_all (P := fun _ (y : TD) => y.cs.length = kn) hz hz, duo_all (P := fun _ (y : RD) => y.cs.length = kn) hz hz⟩
  · have := H.slt a e
    rcases hcase _ h with e | e | e | e | e | e <;> omega
  · show Blk w' gw 51 #[.slice (some ⟨g1, 0, none⟩) (zerosC kn).length kn, .bool false, .slice (some ⟨g2, 0, none⟩) (zerosC kn).length kn, .bool false]
    rw [hz]; exact hw
  · refine duo_all (P := fun _ (y : RD) => 0 < y.cs.length → ∀ a, y.q = some a → ¬ GA gt gw (T0 kn h0 b0 p0 c0 h1 b1 p1 c1) a.block) ?_ ?_
    · rintro - a ea
      injection ea with ea
      subst ea
      exact hng g1 hg1
    · rintro - a ea
      injection ea with ea
      subst ea
      exact hng g2 hg2
  · refine duo_all (P := fun _ (y : TD) => ∀ a, y.p = some a → ¬ GA gt gw (T0 kn h0 b0 p0 c0 h1 b1 p1 c1) a.block) ?_ ?_
    · intro a ea h
      have a1 := H.t0.off a ea
      have a2 := H.t0.pl a ea
      have a3 := H.p0h a ea
      rcases hcase _ h with e | e | e | e | e | e <;> omega
    · intro a ea h
      have a1 := H.t1.off a ea
      have a2 := H.t1.pl a ea
      have a3 := H.p1h a ea
      rcases hcase _ h with e | e | e | e | e | e <;> omega
  · have l1 := H.lo
    have l2 := H.hh
    have l3 := H.bb
    rcases hcase _ h with e | e | e | e | e | e <;> omega
end
end Go.Proofs.Ytkpieeldoielgaa

/- Ours: KeysPlays' parts: calls as the law's round makes them. -/
namespace Go.Proofs.Ytkpieeldoielgaa
open Go.RowKit

theorem i64_and1 (n : Int) : bits .and .i64 n 1 = n % 2 := by
  have h1 : (BitVec.ofInt 64 1).toNat = 2 ^ 1 - 1 := by decide
  have key : (BitVec.ofInt 64 n &&& BitVec.ofInt 64 1).toNat = (n % ((2 ^ 64 : Nat) : Int)).toNat % 2 ^ 1 := by
    rw [BitVec.toNat_and, BitVec.toNat_ofInt, h1, Nat.and_two_pow_sub_one_eq_mod]
  show IntKind.i64.wrap ((BitVec.ofInt 64 n &&& BitVec.ofInt 64 1).toNat : Nat) = n % 2
  rw [key, IntKind.wrap_i64]
  omega
theorem cellFar {W : World} {g i b o : Nat} {x : Value} (h : W.cell? ⟨b, o, none⟩ = some x) (v : Value) (hn : g ≠ b ∨ i ≠ o) : (W.setCell ⟨g, i, none⟩ v).cell? ⟨b, o, none⟩ = some x :=
  have hne : (⟨g, i, none⟩ : Addr) ≠ ⟨b, o, none⟩ := fun e => by
    injection e with e1 e2
    rcases hn with h | h
    · exact h e1
    · exact h e2
  (World.cell?_setCell_other W _ _ v hne).trans h
theorem told_le (si : List Si) (z : Int) (r : CalR) : (toldR si z r).length ≤ si.length := by
  unfold toldR
  split
  · unfold ofK
    rw [List.length_take, List.length_drop]
    omega
  · exact Nat.zero_le _
/-- a list of numbers lies apart from a variable whose cells hold none -/
theorem GRow.offT {w w' : World} {g : Nat} {b : Bool} {s : Value} {q : Option Addr} {cs : List Int} (h : GRow w q (numZ cs)) (hb : Blk w g 49 #[s, .bool b]) (hg : w.grownBy w' (some g)) (hs : s = .slice none 0 0 := by rfl) : GRow w' q (numZ cs) :=
  h.off (keeps_grown hg) (fun h0 x ex e => by
    subst hs
    have e' : x.block = g := e
    obtain ⟨b', o, e1, hc⟩ := h.num (by simpa [numZ] using h0)
    rw [ex] at e1
    injection e1 with e1
    subst e1
    have c0 := hc 0 (by simpa [numZ] using h0)
    simp only at e'
    subst e'
    rw [hb.cell] at c0
    rcases (by omega : o + 0 = 0 ∨ o + 0 = 1 ∨ 2 ≤ o + 0) with e2 | e2 | e2
    · rw [e2] at c0; simp at c0
    · rw [e2] at c0; simp at c0
    · rw [Array.getElem?_eq_none (by simp; omega)] at c0; cases c0)
theorem fin12 {w8 w10 : World} {z g1 g2 : Nat} {X Y : Array Value} {u0 u1 u2 u3 : Value} (hz : Blk w10 z 51 #[u0, u1, u2, u3]) (h1 : Blk w10 g1 3 X) (h2 : Blk w10 g2 3 Y) (hb : Below w8.heap.size w8 w10) (hzl : w8.heap.size ≤ z) (v0 v1 v2 v3 : Value) :
    Blk ((((w10.setCell ⟨z, 0, none⟩ v0).setCell ⟨z, 1, none⟩ v1).setCell ⟨z, 2, none⟩ v2).setCell ⟨z, 3, none⟩ v3) z 51 #[v0, v1, v2, v3] ∧ Blk ((((w10.setCell ⟨z, 0, none⟩ v0).setCell ⟨z, 1, none⟩ v1).setCell ⟨z, 2, none⟩ v2).setCell ⟨z, 3, none⟩ v3) g1 3 X ∧ Blk ((((w10.setCell ⟨z, 0, none⟩ v0).setCell ⟨z, 1, none⟩ v1).setCell ⟨z, 2, none⟩ v2).setCell ⟨z, 3, none⟩ v3) g2 3 Y ∧ Below w8.heap.size w8 ((((w10.setCell ⟨z, 0, none⟩ v0).setCell ⟨z, 1, none⟩ v1).setCell ⟨z, 2, none⟩ v2).setCell ⟨z, 3, none⟩ v3) := by
  have n1 : g1 ≠ z := h1.neT hz (by decide)
  have n2 : g2 ≠ z := h2.neT hz (by decide)
  refine ⟨?_, (((h1.other n1 _ _).other n1 _ _).other n1 _ _).other n1 _ _, (((h2.other n2 _ _).other n2 _ _).other n2 _ _).other n2 _ _, (((hb.setCell hzl _).setCell hzl _).setCell hzl _).setCell hzl _⟩
  have := (((hz.set 0 v0).set 1 v1).set 2 v2).set 3 v3
  simpa using this
theorem calL_len (cs : List Int) (op : Bool) (z : Int) (up : Bool) : (calL cs op z up).cs.length = cs.length := by
  unfold calL
  split
  · rfl
  · split
    · rfl
    · split
      · split
        · rfl
        · exact List.length_set
      · split
        · rfl
        · exact List.length_set
theorem calL_no (cs : List Int) (op : Bool) (z : Int) (up : Bool) (h : cs.length = 0) : calL cs op z up = ⟨cs, op, false, 311⟩ := if_pos (by omega)
theorem rcall_kn (q : Option Addr) (d : Nat) (cs : List Int) (op : Bool) (z : Int) (up : Bool) (w : World) (kn : Nat) (hk : cs.length = kn) (hl : kn ≤ 64) (hr : GRow w q (numZ cs)) (hb : ∀ i, i < cs.length → 0 ≤ cs.getD i 0 ∧ cs.getD i 0 ≤ 2147483647) (r : CalR) (he : calL cs op z up = r) :
    Calls Try.prog 20 #[.agg #[.slice q kn d, .bool op], .int .i64 z, .bool up] w fun e w' => ∃ q2 d2, e = .returned (.tuple #[.agg #[.slice q2 kn d2, .bool r.op], .bool r.turns, .int .i64 r.e]) ∧ GRow w' q2 (numZ r.cs) ∧ (q2 = q ∨ ∀ a, q2 = some a → w.heap.size ≤ a.block) ∧ Below w.heap.size w w' := by
  subst hk he
  refine (rcall_any q d cs op z up w hl hr hb).mono ?_
  rintro e w' ⟨q2, d2, rfl, h1, h2, h3⟩
  refine ⟨q2, d2, ?_, h1, h2, h3⟩
  rw [calL_len]
theorem rret_kn (q : Option Addr) (kn c : Nat) (op : Bool) (w : World) :
    Calls Try.prog 23 #[.agg #[.slice q kn c, .bool op]] w fun e w' => e = .returned (.tuple #[.agg #[.slice q kn c, .bool false], .int .i64 (if op = true then 0 else 2)]) ∧ Below w.heap.size w w' := rret_any q kn c op w
theorem looks_kn (h b n : Nat) (cs : List Int) (op : Bool) (p : Option Addr) (c : Nat) (si : List Si) (q : Option Addr) (cq kn : Nat) (w : World) (hk : cs.length = kn) (H : TabAt w h b n cs op p c si) (hr : GRow w q (numZ cs)) :
    Calls Try.prog 25 #[.pointer (some ⟨h, 0, none⟩), .agg #[.slice q kn cq, .bool op]] w fun e w' => e = .returned (.bool true) ∧ Below w.heap.size w w' := by
  subst hk
  exact looks_any h b n cs op p c si q cq w H hr
/-- the law's state at the head of a round -/
def PK (w0 w : World) (M gt gw kn i : Nat) (si : List Si) (qs : Option Addr) (A : Array Value) : Prop := ∃ (T : Nat → TD) (R : Nat → RD), KT w0 w M gt gw kn T R si qs A ∧ ∀ k, k < 2 → (R k).cs = (T k).cs ∧ (R k).op = (T k).op ∧ (T k).n ≤ kn + i
section
variable {w0 w w' : World} {M gt gw kn : Nat} {T : Nat → TD} {R : Nat → RD} {si : List Si} {qs : Option Addr} {A : Array Value}
theorem KT.callY {h b n n' : Nat} {cs cs' : List Int} {op op' : Bool} {p : Option Addr} {c : Nat} (H : KT w0 w M gt gw kn T R si qs A) {k : Nat} (hk2 : k < 2) (hy : T k = ⟨h, b, n, cs, op, p, c⟩) (hk : Keeps (G2 h b) w w') (hT : TabAt w' h b n' cs' op' p c si) (hl : cs'.length = kn) : KT w0 w' M gt gw kn (upd T k ⟨h, b, n', cs', op', p, c⟩) R si qs A := by
  have := H.call hk2 (n' := n') (cs' := cs') (op' := op') (w' := w') (by rw [hy]; exact hk) (by rw [hy]; exact hT) hl
  rw [hy] at this
  exact this
theorem KT.notG {h b n : Nat} {cs : List Int} {op : Bool} {p : Option Addr} {c : Nat} (H : KT w0 w M gt gw kn T R si qs A) {g : Nat} {S : TypeId} {x : Array Value} (hg : Blk w g S x) (ne : S ≠ 66) {k : Nat} (hk : k < 2) (hy : T k = ⟨h, b, n, cs, op, p, c⟩) : ¬ G2 h b g := by
  have := H.not2 hg ne hk
  rw [hy] at this
  exact this
theorem pk_of {i : Nat} {k : Nat} {y : TD} {x : RD} (h : KT w0 w' M gt gw kn (upd T k y) (upd R k x) si qs A) (hs : ∀ k, k < 2 → (R k).cs = (T k).cs ∧ (R k).op = (T k).op ∧ (T k).n ≤ kn + i) (h1 : x.cs = y.cs) (h2 : x.op = y.op) (h3 : y.n ≤ kn + (i + 1)) : PK w0 w' M gt gw kn (i + 1) si qs A := by
  refine ⟨_, _, h, fun j hj => ?_⟩
  by_cases e : j = k
  · subst e; rw [upd_same, upd_same]; exact ⟨h1, h2, h3⟩
  · rw [upd_other _ _ e, upd_other _ _ e]
    have := hs j hj
    exact ⟨this.1, this.2.1, by omega⟩
/-- a block made later lies apart from all of these -/
theorem KT.apart (H : KT w0 w M gt gw kn T R si qs A) {ob : Nat} {S : TypeId} {x : Array Value} (ho : Blk w ob S x) {g : Nat} (hg : w.heap.size ≤ g) : M ≠ g ∧ ¬ GA gt gw T g ∧ (∀ a, qs = some a → a.block ≠ g) ∧ (∀ j, j < 2 → ∀ a, (T j).p = some a → a.block ≠ g) ∧ (∀ j, j < 2 → 0 < (R j).cs.length → ∀ a, (R j).q = some a → a.block ≠ g) ∧ w0.heap.size ≤ g ∧ ob < g := by
  have l1 := H.mb.lt
  have l2 := H.bel.size
  have l3 := ho.lt
  refine ⟨by omega, fun h => by have := H.ltG h; omega, fun a e => by have := H.slt a e; omega, fun j hj a e => by have := (H.tab j hj).pl a e; omega, fun j hj h0 a e => by have := (H.row j hj).lt0 (by simpa [numZ] using h0) a e; omega, by omega, by omega⟩
/-- a block apart from all that the law's state has -/
structure Apt (w0 : World) (M gt gw : Nat) (T : Nat → TD) (R : Nat → RD) (qs : Option Addr) (g : Nat) : Prop where
  l0 : w0.heap.size ≤ g
  hM : M ≠ g
  hG : ¬ GA gt gw T g
  hs : ∀ a, qs = some a → a.block ≠ g
  hp : ∀ k, k < 2 → ∀ a, (T k).p = some a → a.block ≠ g
  hr : ∀ k, k < 2 → 0 < (R k).cs.length → ∀ a, (R k).q = some a → a.block ≠ g
theorem KT.wr {g : Nat} (H : KT w0 w M gt gw kn T R si qs A) (hk : Keeps (fun j => j = g) w w') (h : Apt w0 M gt gw T R qs g) : KT w0 w' M gt gw kn T R si qs A := H.write hk h.l0 h.hM h.hG h.hs h.hp h.hr
theorem KT.apt {h b n n' : Nat} {cs rcs : List Int} {op rop : Bool} {p : Option Addr} {c d5 d2 : Nat} {q5 q2 : Option Addr} {w6 : World} (H : KT w0 w M gt gw kn T R si qs A) {k : Nat} (hk2 : k < 2) (hT : T k = ⟨h, b, n, cs, op, p, c⟩) (hR : R k = ⟨q5, d5, cs, op⟩) (hl : rcs.length = cs.length) (hq : q2 = q5 ∨ ∀ a, q2 = some a → w6.heap.size ≤ a.block) {g : Nat} (hg : w.heap.size ≤ g) (hg6 : g < w6.heap.size) : Apt w0 M gt gw (upd T k ⟨h, b, n', rcs, rop, p, c⟩) (upd R k ⟨q2, d2, rcs, rop⟩) qs g := by
  have l1 := H.mb.lt
  have l2 := H.bel.size
  refine ⟨by omega, by omega, fun h' => ?_, fun a e => by have := H.slt a e; omega, fun j hj a e => ?_, fun j hj h0 a e => ?_⟩
  · have := H.ltG ((upd_ga (gt := gt) (gw := gw) (T := T) (k := k) (y := ⟨h, b, n', rcs, rop, p, c⟩) (by rw [hT]) (by rw [hT]) g).1 h')
    omega
  · have e' : (T j).p = some a := by
      by_cases ej : j = k
      · subst ej; rw [upd_same] at e; rw [hT]; exact e
      · rw [upd_other _ _ ej] at e; exact e
    have := (H.tab j hj).pl a e'
    omega
  · by_cases ej : j = k
    · subst ej
      rw [upd_same] at e h0
      simp only at e h0
      rcases hq with hq | hq
      · have e' : (R j).q = some a := by rw [hR, ← hq]; exact e
        have := (H.row j hj).lt0 (by rw [hR]; simp [numZ]; omega) a e'
        omega
      · have := hq a e; omega
    · rw [upd_other _ _ ej] at e h0
      have := (H.row j hj).lt0 (by simpa [numZ] using h0) a e
      omega
/-- where a told list lies -/
theorem TOwn.ge {T : TypeId} {w : World} {B n c : Nat} {q : Option Addr} {L : List V3} (h : TOwn T w B (.slice q n c) L) : ∀ a, q = some a → B ≤ a.block ∧ a.block < w.heap.size := fun a ea => by
  rcases h.2 with ⟨e1, _⟩ | ⟨g, cap, cur, e1, e2, e3, _⟩
  · rw [ea] at e1
    exact absurd e1 (fun e => slice_no e)
  · rw [ea] at e1
    injection e1 with e1 _ _
    injection e1 with e1
    subst e1
    exact ⟨e2, (Array.getElem?_eq_some_iff.1 e3).1⟩
theorem TOwn.rowS {T : TypeId} {w : World} {B n c : Nat} {q : Option Addr} {L : List V3} (h : TOwn T w B (.slice q n c) L) : Row3 w q L := by
  obtain ⟨q', c', e, -, -, hr⟩ := h.row3
  injection e with e _ _
  subst e
  exact hr
/-- where the new counts of the document lie -/
theorem KT.newR (H : KT w0 w M gt gw kn T R si qs A) {k : Nat} (hk2 : k < 2) {q q2 : Option Addr} {cs cs2 : List Int} (hq : (R k).q = q) (hc : (R k).cs = cs) (hl : cs2.length = cs.length) (h : q2 = q ∨ ∀ a, q2 = some a → w.heap.size ≤ a.block) : 0 < cs2.length → ∀ a, q2 = some a → ¬ GA gt gw T a.block := fun h0 a ea hj => by
  rcases h with e | e
  · refine H.rof k hk2 (by rw [hc]; omega) a ?_ hj
    rw [hq, ← e]; exact ea
  · have l1 := H.ltG hj
    have l2 := e a ea
    omega
theorem KT.refY (H : KT w0 w M gt gw kn T R si qs A) {k : Nat} (hk : k < 2) {q : Option Addr} {d : Nat} {cs : List Int} {op : Bool} (hy : R k = ⟨q, d, cs, op⟩) : w.cell? ⟨gw, k * 2, none⟩ = some (.slice q kn d) ∧ w.cell? ⟨gw, k * 2 + 1, none⟩ = some (.bool op) := by
  have := H.ref hk
  rw [hy] at this
  exact this
theorem KT.ptrY (H : KT w0 w M gt gw kn T R si qs A) {k : Nat} (hk : k < 2) {h b n : Nat} {cs : List Int} {op : Bool} {p : Option Addr} {c : Nat} (hy : T k = ⟨h, b, n, cs, op, p, c⟩) : w.cell? ⟨gt, k, none⟩ = some (.pointer (some ⟨h, 0, none⟩)) := by
  have := H.ptr hk
  rw [hy] at this
  exact this
theorem KT.tabY (H : KT w0 w M gt gw kn T R si qs A) {k : Nat} (hk : k < 2) {h b n : Nat} {cs : List Int} {op : Bool} {p : Option Addr} {c : Nat} (hy : T k = ⟨h, b, n, cs, op, p, c⟩) : TabAt w h b n cs op p c si := by
  have := H.tab k hk
  rw [hy] at this
  exact this
theorem KT.rowY (H : KT w0 w M gt gw kn T R si qs A) {k : Nat} (hk : k < 2) {q : Option Addr} {d : Nat} {cs : List Int} {op : Bool} (hy : R k = ⟨q, d, cs, op⟩) : GRow w q (numZ cs) := by
  have := H.row k hk
  rw [hy] at this
  exact this
theorem ref_setK {k : Nat} (hk : k < 2) {g : Nat} (h : Blk w g 51 (refA R)) (q : Option Addr) (d : Nat) (cs : List Int) (op : Bool) (hl : cs.length = kn) : Blk ((w.setCell ⟨g, k * 2, none⟩ (.slice q kn d)).setCell ⟨g, k * 2 + 1, none⟩ (.bool op)) g 51 (refA (upd R k ⟨q, d, cs, op⟩)) := by
  subst hl
  exact ref_set hk h ⟨q, d, cs, op⟩
end
end Go.Proofs.Ytkpieeldoielgaa
