/- switchyardkit.CopyObject, of lists as great as an argument may be. -/
import Derived.Test.YtckpgpgmaccepaaGreatCpy3
import Derived.Test.YtckpgpgmaccepaaGreatCopy
import Derived.Test.YtckpgpgmaccepaaGreatRObj
import Derived.Test.YtckpgpgmaccepaaGreatTabW
import Derived.Test.YtckpgpgmaccepaaGreatRowsA
import Derived.Deep.RegionHeld3
namespace Go.Proofs.YtckpgpgmaccepaaGreat
open Go.RowKit

abbrev noObj : Array Value := #[.slice none 0 0, .slice none 0 0, .slice none 0 0, .slice none 0 0]
theorem Tryz.sz56 : (Tryz.prog.info? 56).map (·.size) = some noObj.size := by kernel_rfl
theorem Blk.load {w : World} {g : Nat} {T : TypeId} {c : Array Value} (hB : Blk w g T c) (t : TypeId) (d : TypeDesc) (hu : Tryz.prog.underlying t = some d) (hd : d.isRow = true) (hi : (Tryz.prog.info? t).map (·.size) = some c.size) :
    (loadVar t ⟨g, 0, none⟩).run Tryz.prog w = .ok (.agg c) w := by
  have := run_loadVar_mid (P := Tryz.prog) w g 0 t c.toList d hB.range hu hd (by rw [hi, Array.length_toList])
  simpa using this
theorem TOwn.far {T : TypeId} {w : World} {B g : Nat} {v : Value} {L : List V3} (h : TOwn T w B v L) (hg : g < B) : v = .slice none 0 0 ∨ v.ownBlock ≠ some g := by
  rcases h.2 with ⟨e1, _⟩ | ⟨g', cap, cur, e1, e2, _⟩
  · exact .inl e1
  · refine .inr ?_
    rw [e1]
    simp only [Value.ownBlock]
    intro ee
    injection ee with ee
    have : g' = g := ee
    omega
theorem TOwn.lower {T : TypeId} {w : World} {B B' : Nat} {v : Value} {L : List V3} (h : TOwn T w B v L) (hB : B' ≤ B) : TOwn T w B' v L := by
  obtain ⟨h0, h1⟩ := h
  refine ⟨h0, h1.imp id ?_⟩
  rintro ⟨g, cap, cur, e1, e2, e3⟩
  exact ⟨g, cap, cur, e1, Nat.le_trans hB e2, e3⟩
/-- an object that a call has made: its lists in blocks of its own -/
structure ObOwn (w : World) (B : Nat) (o : Ob) (vb vs vf vm : Value) : Prop where
  b : OwnV w B vb o.bs
  s : TOwn 67 w B vs (o.sy.map syV)
  f : TOwn 116 w B vf (o.fx.map fxV)
  m : TOwn 58 w B vm (o.mk_.map mkV)
theorem ObOwn.below {w w' : World} {B : Nat} {o : Ob} {vb vs vf vm : Value} (h : ObOwn w B o vb vs vf vm) (hb : Below w.heap.size w w') : ObOwn w' B o vb vs vf vm := ⟨h.b.below hb, h.s.below hb, h.f.below hb, h.m.below hb⟩
theorem OwnV.low {w : World} {B B' : Nat} {v : Value} {xs : List Int} (h : OwnV w B v xs) (hB : B' ≤ B) : OwnV w B' v xs := by
  rcases h.shape with ⟨rfl, rfl⟩ | ⟨g, cap, rfl, ho⟩
  · exact OwnV.nil _ _
  · exact ho.lower hB
theorem ObOwn.lower {w : World} {B B' : Nat} {o : Ob} {vb vs vf vm : Value} (h : ObOwn w B o vb vs vf vm) (hB : B' ≤ B) : ObOwn w B' o vb vs vf vm := ⟨h.b.low hB, h.s.lower hB, h.f.lower hB, h.m.lower hB⟩
theorem OwnV.slice2 {w : World} {B : Nat} {v : Value} {xs : List Int} (h : OwnV w B v xs) : ∃ p cap, v = .slice p xs.length cap ∧ Row w p xs ∧ xs.length ≤ cap ∧ cap ≤ maxLen := by
  rcases h.shape with ⟨rfl, rfl⟩ | ⟨g, cap, rfl, ho⟩
  · exact ⟨none, 0, rfl, fun h => absurd h (Nat.lt_irrefl 0), Nat.le_refl _, Nat.zero_le _⟩
  · obtain ⟨cur, _, _, h3, h4, _⟩ := ho.parts
    exact ⟨_, cap, rfl, ho.row, h3, h4⟩
/-- .. seen as one in memory -/
theorem ObOwn.inn {w : World} {B : Nat} {o : Ob} {vb vs vf vm : Value} (h : ObOwn w B o vb vs vf vm) (hf : ObF o) :
    ∃ pb ps pf pm cb cs cf cm, (vb = .slice pb o.bs.length cb ∧ vs = .slice ps o.sy.length cs ∧ vf = .slice pf o.fx.length cf ∧ vm = .slice pm o.mk_.length cm) ∧ ObIn w o pb ps pf pm o.bs.length cb o.sy.length cs o.fx.length cf o.mk_.length cm := by
  obtain ⟨pb, cb, e1, r1, k1, m1⟩ := h.b.slice2
  obtain ⟨ps, cs, e2, k2, m2, r2⟩ := h.s.row3
  obtain ⟨pf, cf, e3, k3, m3, r3⟩ := h.f.row3
  obtain ⟨pm, cm, e4, k4, m4, r4⟩ := h.m.row3
  rw [List.length_map] at e2 k2 e3 k3 e4 k4
  exact ⟨pb, ps, pf, pm, cb, cs, cf, cm, ⟨e1, e2, e3, e4⟩, ⟨rfl, rfl, rfl, rfl, k1, m1, Nat.le_trans k2 m2, Nat.le_trans k3 m3, Nat.le_trans k4 m4, r1, r2, r3, r4, hf⟩⟩

theorem OwnV.keptFar {w w' : World} {B g : Nat} {v : Value} {xs : List Int} (h : OwnV w B v xs) (hg : w.grownBy w' (some g)) (hB : g < B) : OwnV w' B v xs := by
  rcases h.shape with ⟨rfl, rfl⟩ | ⟨g', cap, rfl, ho⟩
  · exact OwnV.nil _ _
  · refine World.ownsRow.kept h hg (.inr (fun e => ?_))
    have e' : some g' = some g := e
    injection e' with e'
    have := ho.base
    omega

/-- 'append(l, x)', as far as memory goes -/
theorem tpushV {ops : Array Oper} {rest : List Oper} {o : Oper} {a : Act} {Q : Exit → Act → World → Prop} {t T : TypeId} {by_ : Nat} (he : Elem3 t T by_) (w : World) (hgd : o.guard = none) (s x : Operand)
    (ho : o.op = .call { callee := .builtin .append, args := #[s, x], argTypes := #[t, t] }) (B : Nat) (v : Value) (L : List V3) (hs : a.eval s = v) (hown : TOwn T w B v L)
    (ad : Addr) (c : Nat) (q : V3) (hq : one3 q) (hx : a.eval x = .slice (some ad) 1 c) (hnews : ∀ j u, (l3 q)[j]? = some u → w.cell? (ad.add j) = some u)
    (hlen : L.length ≤ 4398046511000) (hby : (L.length + 1) * by_ ≤ 140737488355328) (hB : B ≤ w.heap.size)
    (h : ∀ v' w', TOwn T w' B v' (L ++ [q]) → w.grownBy w' v.ownBlock → (∀ w0, Below B w0 w → Below B w0 w') → wpList Tryz.prog ops Q rest (a.put o.dst v') w') :
    wpList Tryz.prog ops Q (o :: rest) a w := by
  obtain ⟨hu, z, hzc, hinfo⟩ := he
  obtain ⟨i0, hi, hz0, hz1, hz2⟩ := info_parts hinfo
  refine wpList_append_own w hgd s x t ho B T i0 z 3 by_ hu hi hz0 hz1 hz2 hzc (by decide) v L.length (c3 L) hs hown ad 1 c (l3 q) hx rfl hnews (one3_mem hq) (by unfold maxLen; omega) hby hB ?_
  intro v' w' h2 h3 _
  refine h v' w' ?_ h3 (fun w0 hb => hb.grown h3 hB fun k hk => (World.ownsRow.lt hown k hk).1)
  unfold TOwn
  rw [List.length_append, c3_two]
  have e : c3 [q] = l3 q := by simp [c3]
  rw [e]
  exact h2

set_option maxRecDepth 20000 in
set_option maxHeartbeats 1000000 in
theorem copySymsV_any (p : Option Addr) (n c : Nat) (L : List Sy) (w : World) (hn : L.length = n) (hn6 : n ≤ 4398046510976) (h1 : Row3 w p (L.map syV)) :
    Calls Tryz.prog 58 #[.slice p n c] w fun E w' => ∃ v, E = .returned v ∧ TOwn 67 w' w.heap.size v (L.map syV) ∧ Below w.heap.size w w' := by
  have HL := Hid.in hn
  have H1 := Hid.in h1
  clear hn h1
  go_enter Tryz.func58, Tryz.ntmps58
  go_wp2_with fail
  go_loopw [3, 4] (fun v vi wr => ∃ k : Nat, vi = .int .i64 k ∧ k ≤ n ∧ TOwn 67 wr w.heap.size v ((L.take k).map syV) ∧ Below w.heap.size w wr) (fun _ vi _ => n - (intOf vi).toNat)
  case atStart => exact ⟨0, rfl, Nat.zero_le _, TOwn.nil _ _ _, below_self _⟩
  case round =>
    obtain ⟨k, rfl, hk, hT, hb⟩ := hrel
    have HT := Hid.in hT
    have HB := Hid.in hb
    have hlen : ((L.take k).map syV).length = k := by rw [List.length_map, List.length_take, HL.out]; omega
    obtain ⟨pv, cv, hv, -, -, -⟩ := hT.shape
    rw [hlen] at hv
    subst hv
    have HLEN := Hid.in hlen
    clear hT hb hlen
    by_cases hlt : k < n
    · have hk1 : k < L.length := by rw [HL.out]; exact hlt
      obtain ⟨b, o, rfl, hc⟩ := (H1.out.below HB.out) (by rw [List.length_map]; omega)
      obtain ⟨c0, c1, c2⟩ := cells3 hc k (by rw [List.length_map]; exact hk1)
      simp only [List.getElem_map, syV] at c0 c1 c2
      have HTK : Hid ((L.take (k + 1)).map syV = (L.take k).map syV ++ [syV L[k]]) := by
        rw [List.take_succ_eq_append_getElem hk1, List.map_append]; exact rfl
      clear hc
      generalize (L.take k).map syV = LQ at *
      generalize L[k] = x at *
      have hl1 : LQ.length ≤ 4398046511000 := by have := HLEN.out; omega
      have hl2 : (LQ.length + 1) * 32 ≤ 140737488355328 := by have := HLEN.out; omega
      go_wp2_with (refine tpushV Tryz.elemSym _ rfl _ _ rfl w.heap.size _ LQ rfl (HT.out.alloc _) ⟨wr.heap.size, 0, none⟩ 1 (.string x.name, .int .i64 x.at_, .bool x.g) ⟨rfl, rfl, rfl⟩ rfl (news3 _ _ _) hl1 hl2 (by have := HB.out.size; simp; omega) ?_; intro v5 w5 hT5 hg5 hb5; have HT5 := Hid.in hT5; have HB5 := Hid.in (hb5 w (below_alloc HB.out _)); clear hT5 hg5 hb5)
      go_roundw
      case rel => exact ⟨k + 1, by go_num, by omega, by rw [HTK.out]; exact HT5.out, HB5.out⟩
      case measure => simp [intOf]; omega
    · have hkn : k = n := by omega
      subst hkn
      have HR : Hid ((L.take k).map syV = L.map syV) := by
        rw [List.take_of_length_le (by rw [HL.out]; exact Nat.le_refl _)]; exact rfl
      rw [HR.out] at HT
      go_wp2_with fail
      go_ret
      exact ⟨_, rfl, HT.out, HB.out⟩

set_option maxRecDepth 20000 in
set_option maxHeartbeats 1000000 in
theorem copyFixesV_any (p : Option Addr) (n c : Nat) (L : List Fx) (w : World) (hn : L.length = n) (hn6 : n ≤ 4398046510976) (h1 : Row3 w p (L.map fxV)) :
    Calls Tryz.prog 59 #[.slice p n c] w fun E w' => ∃ v, E = .returned v ∧ TOwn 116 w' w.heap.size v (L.map fxV) ∧ Below w.heap.size w w' := by
  have HL := Hid.in hn
  have H1 := Hid.in h1
  clear hn h1
  go_enter Tryz.func59, Tryz.ntmps59
  go_wp2_with fail
  go_loopw [3, 4] (fun v vi wr => ∃ k : Nat, vi = .int .i64 k ∧ k ≤ n ∧ TOwn 116 wr w.heap.size v ((L.take k).map fxV) ∧ Below w.heap.size w wr) (fun _ vi _ => n - (intOf vi).toNat)
  case atStart => exact ⟨0, rfl, Nat.zero_le _, TOwn.nil _ _ _, below_self _⟩
  case round =>
    obtain ⟨k, rfl, hk, hT, hb⟩ := hrel
    have HT := Hid.in hT
    have HB := Hid.in hb
    have hlen : ((L.take k).map fxV).length = k := by rw [List.length_map, List.length_take, HL.out]; omega
    obtain ⟨pv, cv, hv, -, -, -⟩ := hT.shape
    rw [hlen] at hv
    subst hv
    have HLEN := Hid.in hlen
    clear hT hb hlen
    by_cases hlt : k < n
    · have hk1 : k < L.length := by rw [HL.out]; exact hlt
      obtain ⟨b, o, rfl, hc⟩ := (H1.out.below HB.out) (by rw [List.length_map]; omega)
      obtain ⟨c0, c1, c2⟩ := cells3 hc k (by rw [List.length_map]; exact hk1)
      simp only [List.getElem_map, fxV] at c0 c1 c2
      have HTK : Hid ((L.take (k + 1)).map fxV = (L.take k).map fxV ++ [fxV L[k]]) := by
        rw [List.take_succ_eq_append_getElem hk1, List.map_append]; exact rfl
      clear hc
      generalize (L.take k).map fxV = LQ at *
      generalize L[k] = x at *
      have hl1 : LQ.length ≤ 4398046511000 := by have := HLEN.out; omega
      have hl2 : (LQ.length + 1) * 32 ≤ 140737488355328 := by have := HLEN.out; omega
      go_wp2_with (refine tpushV Tryz.elemFix _ rfl _ _ rfl w.heap.size _ LQ rfl (HT.out.alloc _) ⟨wr.heap.size, 0, none⟩ 1 (.int .u8 x.k, .int .i64 x.at_, .string x.name) ⟨rfl, rfl, rfl⟩ rfl (news3 _ _ _) hl1 hl2 (by have := HB.out.size; simp; omega) ?_; intro v5 w5 hT5 hg5 hb5; have HT5 := Hid.in hT5; have HB5 := Hid.in (hb5 w (below_alloc HB.out _)); clear hT5 hg5 hb5)
      go_roundw
      case rel => exact ⟨k + 1, by go_num, by omega, by rw [HTK.out]; exact HT5.out, HB5.out⟩
      case measure => simp [intOf]; omega
    · have hkn : k = n := by omega
      subst hkn
      have HR : Hid ((L.take k).map fxV = L.map fxV) := by
        rw [List.take_of_length_le (by rw [HL.out]; exact Nat.le_refl _)]; exact rfl
      rw [HR.out] at HT
      go_wp2_with fail
      go_ret
      exact ⟨_, rfl, HT.out, HB.out⟩

set_option maxRecDepth 20000 in
set_option maxHeartbeats 1000000 in
theorem copyMarksV_any (p : Option Addr) (n c : Nat) (L : List Mk) (w : World) (hn : L.length = n) (hn6 : n ≤ 3518437208780) (h1 : Row3 w p (L.map mkV)) :
    Calls Tryz.prog 60 #[.slice p n c] w fun E w' => ∃ v, E = .returned v ∧ TOwn 58 w' w.heap.size v (L.map mkV) ∧ Below w.heap.size w w' := by
  have HL := Hid.in hn
  have H1 := Hid.in h1
  clear hn h1
  go_enter Tryz.func60, Tryz.ntmps60
  go_wp2_with fail
  go_loopw [3, 4] (fun v vi wr => ∃ k : Nat, vi = .int .i64 k ∧ k ≤ n ∧ TOwn 58 wr w.heap.size v ((L.take k).map mkV) ∧ Below w.heap.size w wr) (fun _ vi _ => n - (intOf vi).toNat)
  case atStart => exact ⟨0, rfl, Nat.zero_le _, TOwn.nil _ _ _, below_self _⟩
  case round =>
    obtain ⟨k, rfl, hk, hT, hb⟩ := hrel
    have HT := Hid.in hT
    have HB := Hid.in hb
    have hlen : ((L.take k).map mkV).length = k := by rw [List.length_map, List.length_take, HL.out]; omega
    obtain ⟨pv, cv, hv, -, -, -⟩ := hT.shape
    rw [hlen] at hv
    subst hv
    have HLEN := Hid.in hlen
    clear hT hb hlen
    by_cases hlt : k < n
    · have hk1 : k < L.length := by rw [HL.out]; exact hlt
      obtain ⟨b, o, rfl, hc⟩ := (H1.out.below HB.out) (by rw [List.length_map]; omega)
      obtain ⟨c0, c1, c2⟩ := cells3 hc k (by rw [List.length_map]; exact hk1)
      simp only [List.getElem_map, mkV] at c0 c1 c2
      have HTK : Hid ((L.take (k + 1)).map mkV = (L.take k).map mkV ++ [mkV L[k]]) := by
        rw [List.take_succ_eq_append_getElem hk1, List.map_append]; exact rfl
      clear hc
      generalize (L.take k).map mkV = LQ at *
      generalize L[k] = x at *
      have hl1 : LQ.length ≤ 4398046511000 := by have := HLEN.out; omega
      have hl2 : (LQ.length + 1) * 40 ≤ 140737488355328 := by have := HLEN.out; omega
      go_wp2_with (refine tpushV Tryz.elemMark _ rfl _ _ rfl w.heap.size _ LQ rfl (HT.out.alloc _) ⟨wr.heap.size, 0, none⟩ 1 (.int .i64 x.at_, .string x.key, .string x.to_) ⟨rfl, rfl, rfl⟩ rfl (news3 _ _ _) hl1 hl2 (by have := HB.out.size; simp; omega) ?_; intro v5 w5 hT5 hg5 hb5; have HT5 := Hid.in hT5; have HB5 := Hid.in (hb5 w (below_alloc HB.out _)); clear hT5 hg5 hb5)
      go_roundw
      case rel => exact ⟨k + 1, by go_num, by omega, by rw [HTK.out]; exact HT5.out, HB5.out⟩
      case measure => simp [intOf]; omega
    · have hkn : k = n := by omega
      subst hkn
      have HR : Hid ((L.take k).map mkV = L.map mkV) := by
        rw [List.take_of_length_le (by rw [HL.out]; exact Nat.le_refl _)]; exact rfl
      rw [HR.out] at HT
      go_wp2_with fail
      go_ret
      exact ⟨_, rfl, HT.out, HB.out⟩

set_option maxRecDepth 20000 in
set_option maxHeartbeats 2000000 in
theorem copyObjectV_any (o : Ob) (pb ps pf pm : Option Addr) (nb cb ns cs nf cf nm cm : Nat) (w : World) (h : ObIn w o pb ps pf pm nb cb ns cs nf cf nm cm) (h1 : nb ≤ 140737488351232) (h2 : ns ≤ 4398046510976) (h3 : nf ≤ 4398046510976) (h4 : nm ≤ 3518437208780) :
    Calls Tryz.prog 25 #[.agg (obA pb ps pf pm nb cb ns cs nf cf nm cm)] w fun E w' => (∃ vb vs vf vm, E = .returned (.agg #[vb, vs, vf, vm]) ∧ ObOwn w' w.heap.size o vb vs vf vm) ∧ Below w.heap.size w w' := by
  have hB := fun W (k : ObIn W o pb ps pf pm nb cb ns cs nf cf nm cm) => copy_any pb nb cb o.bs W k.lb (by omega) k.rb
  have hS := fun W (k : ObIn W o pb ps pf pm nb cb ns cs nf cf nm cm) => copySymsV_any ps ns cs o.sy W k.ls h2 k.rs
  have hF := fun W (k : ObIn W o pb ps pf pm nb cb ns cs nf cf nm cm) => copyFixesV_any pf nf cf o.fx W k.lf h3 k.rf
  have hM := fun W (k : ObIn W o pb ps pf pm nb cb ns cs nf cf nm cm) => copyMarksV_any pm nm cm o.mk_ W k.lm h4 k.rm
  have H := Hid.in h
  clear h
  go_enter Tryz.func25, Tryz.ntmps25
  go_upto_region 1 with fail
  have HA0 : Hid (Blk ((w.alloc (.cells (obA pb ps pf pm nb cb ns cs nf cf nm cm) 56)).alloc (.cells noObj 56)) w.heap.size 56 (obA pb ps pf pm nb cb ns cs nf cf nm cm)) := (Blk.new w 56 _).grow (new_alloc _ _)
  have HB0 : Hid (Blk ((w.alloc (.cells (obA pb ps pf pm nb cb ns cs nf cf nm cm) 56)).alloc (.cells noObj 56)) (w.heap.size + 1) 56 noObj) := by
    have := Blk.new (w.alloc (.cells (obA pb ps pf pm nb cb ns cs nf cf nm cm) 56)) 56 noObj
    rw [size_one] at this
    exact this
  have HW0 : Hid (Below w.heap.size w ((w.alloc (.cells (obA pb ps pf pm nb cb ns cs nf cf nm cm) 56)).alloc (.cells noObj 56))) := below_alloc (new_alloc w _) _
  generalize (w.alloc (.cells (obA pb ps pf pm nb cb ns cs nf cf nm cm) 56)).alloc (.cells noObj 56) = w0 at *
  have a0 : w0.cell? ⟨w.heap.size, 0, none⟩ = some (.slice pb nb cb) := HA0.out.cell 0
  have a1 : w0.cell? ⟨w.heap.size, 1, none⟩ = some (.slice ps ns cs) := HA0.out.cell 1
  have a2 : w0.cell? ⟨w.heap.size, 2, none⟩ = some (.slice pf nf cf) := HA0.out.cell 2
  have a3 : w0.cell? ⟨w.heap.size, 3, none⟩ = some (.slice pm nm cm) := HA0.out.cell 3
  go_region_held3 (fun W => W.cell? ⟨w.heap.size, 0, none⟩ = some (.slice pb nb cb) ∧ W.cell? ⟨w.heap.size, 1, none⟩ = some (.slice ps ns cs) ∧ W.cell? ⟨w.heap.size, 2, none⟩ = some (.slice pf nf cf) ∧ W.cell? ⟨w.heap.size, 3, none⟩ = some (.slice pm nm cm)) (first | go_keep | exact hk1 | exact hk2 | exact hk3 | exact hk4)
    (first
      | (go_at_call 57; refine (hB _ (H.out.below (below_draws HW0.out 1))).mono ?_; rintro E w1 ⟨v1, rfl, ho1, hb1⟩; obtain ⟨p1, c1, hv1, -, -, -⟩ := ho1.slice2; subst hv1; have HW1 := Hid.in (below_step (below_draws HW0.out 1) hb1); have HC1 := Hid.in (below_step (below_draws (below_self w0) 1) hb1); have HA1 := Hid.in (HA0.out.grow HC1.out); have HB1 := Hid.in (HB0.out.grow HC1.out); have HO1 := Hid.in ho1; have hk1 : w1.cell? ⟨w.heap.size, 0, none⟩ = some (.slice pb nb cb) ∧ w1.cell? ⟨w.heap.size, 1, none⟩ = some (.slice ps ns cs) ∧ w1.cell? ⟨w.heap.size, 2, none⟩ = some (.slice pf nf cf) ∧ w1.cell? ⟨w.heap.size, 3, none⟩ = some (.slice pm nm cm) := ⟨HA1.out.cell 0, HA1.out.cell 1, HA1.out.cell 2, HA1.out.cell 3⟩; clear ho1 hb1)
      | (go_at_call 58; refine (hS _ (H.out.below HW1.out)).mono ?_; rintro E w2 ⟨v2, rfl, ho2, hb2⟩; obtain ⟨p2, c2, hv2, -, -, -⟩ := ho2.shape; rw [List.length_map] at hv2; subst hv2; have HW2 := Hid.in (below_step HW1.out hb2); have HA2 := Hid.in (HA1.out.grow hb2); have HB2 := Hid.in (HB1.out.grow hb2); have HO2 := Hid.in (HO1.out.below hb2); have HS2 := Hid.in ho2; have hk2 : w2.cell? ⟨w.heap.size, 0, none⟩ = some (.slice pb nb cb) ∧ w2.cell? ⟨w.heap.size, 1, none⟩ = some (.slice ps ns cs) ∧ w2.cell? ⟨w.heap.size, 2, none⟩ = some (.slice pf nf cf) ∧ w2.cell? ⟨w.heap.size, 3, none⟩ = some (.slice pm nm cm) := ⟨HA2.out.cell 0, HA2.out.cell 1, HA2.out.cell 2, HA2.out.cell 3⟩; clear ho2 hb2)
      | (go_at_call 59; refine (hF _ (H.out.below HW2.out)).mono ?_; rintro E w3 ⟨v3, rfl, ho3, hb3⟩; obtain ⟨p3, c3', hv3, -, -, -⟩ := ho3.shape; rw [List.length_map] at hv3; subst hv3; have HW3 := Hid.in (below_step HW2.out hb3); have HA3 := Hid.in (HA2.out.grow hb3); have HB3 := Hid.in (HB2.out.grow hb3); have HO3 := Hid.in (HO2.out.below hb3); have HS3 := Hid.in (HS2.out.below hb3); have HF3 := Hid.in ho3; have hk3 : w3.cell? ⟨w.heap.size, 0, none⟩ = some (.slice pb nb cb) ∧ w3.cell? ⟨w.heap.size, 1, none⟩ = some (.slice ps ns cs) ∧ w3.cell? ⟨w.heap.size, 2, none⟩ = some (.slice pf nf cf) ∧ w3.cell? ⟨w.heap.size, 3, none⟩ = some (.slice pm nm cm) := ⟨HA3.out.cell 0, HA3.out.cell 1, HA3.out.cell 2, HA3.out.cell 3⟩; clear ho3 hb3)
      | (go_at_call 60; refine (hM _ (H.out.below HW3.out)).mono ?_; rintro E w4 ⟨v4, rfl, ho4, hb4⟩; obtain ⟨p4, c4, hv4, -, -, -⟩ := ho4.shape; rw [List.length_map] at hv4; subst hv4; have HW4 := Hid.in (below_step HW3.out hb4); have HA4 := Hid.in (HA3.out.grow hb4); have HB4 := Hid.in (HB3.out.grow hb4); have HO4 := Hid.in (HO3.out.below hb4); have HS4 := Hid.in (HS3.out.below hb4); have HF4 := Hid.in (HF3.out.below hb4); have HM4 := Hid.in ho4; have hk4 : w4.cell? ⟨w.heap.size, 0, none⟩ = some (.slice pb nb cb) ∧ w4.cell? ⟨w.heap.size, 1, none⟩ = some (.slice ps ns cs) ∧ w4.cell? ⟨w.heap.size, 2, none⟩ = some (.slice pf nf cf) ∧ w4.cell? ⟨w.heap.size, 3, none⟩ = some (.slice pm nm cm) := ⟨HA4.out.cell 0, HA4.out.cell 1, HA4.out.cell 2, HA4.out.cell 3⟩; have e0 : w4.cell? ⟨w.heap.size + 1, 0, none⟩ = some (.slice none 0 0) := HB4.out.cell 0; have z0 : w4.frozen? ⟨w.heap.size + 1, 0, none⟩ = false := HB4.out.free 0; have e1 : w4.cell? ⟨w.heap.size + 1, 1, none⟩ = some (.slice none 0 0) := HB4.out.cell 1; have z1 : w4.frozen? ⟨w.heap.size + 1, 1, none⟩ = false := HB4.out.free 1; have e2 : w4.cell? ⟨w.heap.size + 1, 2, none⟩ = some (.slice none 0 0) := HB4.out.cell 2; have z2 : w4.frozen? ⟨w.heap.size + 1, 2, none⟩ = false := HB4.out.free 2; have e3 : w4.cell? ⟨w.heap.size + 1, 3, none⟩ = some (.slice none 0 0) := HB4.out.cell 3; have z3 : w4.frozen? ⟨w.heap.size + 1, 3, none⟩ = false := HB4.out.free 3; clear ho4 hb4))
  have HB5 : Hid (Blk ((((w4.setCell ⟨w.heap.size + 1, 0, none⟩ (.slice p1 o.bs.length c1)).setCell ⟨w.heap.size + 1, 1, none⟩ (.slice p2 o.sy.length c2)).setCell ⟨w.heap.size + 1, 2, none⟩ (.slice p3 o.fx.length c3')).setCell ⟨w.heap.size + 1, 3, none⟩ (.slice p4 o.mk_.length c4)) (w.heap.size + 1) 56 #[.slice p1 o.bs.length c1, .slice p2 o.sy.length c2, .slice p3 o.fx.length c3', .slice p4 o.mk_.length c4]) := HB4.out.setAll #[.slice p1 o.bs.length c1, .slice p2 o.sy.length c2, .slice p3 o.fx.length c3', .slice p4 o.mk_.length c4] rfl
  have HG5 : Hid (w4.grownBy ((((w4.setCell ⟨w.heap.size + 1, 0, none⟩ (.slice p1 o.bs.length c1)).setCell ⟨w.heap.size + 1, 1, none⟩ (.slice p2 o.sy.length c2)).setCell ⟨w.heap.size + 1, 2, none⟩ (.slice p3 o.fx.length c3')).setCell ⟨w.heap.size + 1, 3, none⟩ (.slice p4 o.mk_.length c4)) (some (w.heap.size + 1))) := grown_setCells (w.heap.size + 1) [.slice p1 o.bs.length c1, .slice p2 o.sy.length c2, .slice p3 o.fx.length c3', .slice p4 o.mk_.length c4] 0 w4
  generalize ((((w4.setCell ⟨w.heap.size + 1, 0, none⟩ (.slice p1 o.bs.length c1)).setCell ⟨w.heap.size + 1, 1, none⟩ (.slice p2 o.sy.length c2)).setCell ⟨w.heap.size + 1, 2, none⟩ (.slice p3 o.fx.length c3')).setCell ⟨w.heap.size + 1, 3, none⟩ (.slice p4 o.mk_.length c4)) = w5 at *
  clear e0 e1 e2 e3 z0 z1 z2 z3 hk1 hk2 hk3 hk4 a0 a1 a2 a3 hB hS hF hM
  have l1 : w.heap.size + 1 < w1.heap.size := HB1.out.lt
  have l0 : w.heap.size + 1 < w0.heap.size := HB0.out.lt
  have l2 : w.heap.size + 1 < w2.heap.size := HB2.out.lt
  have l3 : w.heap.size + 1 < w3.heap.size := HB3.out.lt
  go_wp2_with fail
  have hld := HB5.out.load 56 _ Tryz.underlying56 rfl Tryz.sz56
  have hB7 := HW4.out.grown HG5.out HW4.out.size (fun k hk => by cases hk; exact Nat.le_succ _)
  exact bodyPost_ret (v := .agg #[.slice p1 o.bs.length c1, .slice p2 o.sy.length c2, .slice p3 o.fx.length c3', .slice p4 o.mk_.length c4]) (by simp [results, Tryz.results25, asAddr, hld]) rfl
    ⟨⟨_, _, _, _, rfl, ⟨(HO4.out.keptFar HG5.out l0).low (show w.heap.size ≤ w0.heap.size by omega), TOwn.lower (kept_row HS4.out HG5.out (HS4.out.far l1)) (by omega), TOwn.lower (kept_row HF4.out HG5.out (HF4.out.far l2)) (by omega), TOwn.lower (kept_row HM4.out HG5.out (HM4.out.far l3)) (by omega)⟩⟩, hB7⟩

end Go.Proofs.YtckpgpgmaccepaaGreat
