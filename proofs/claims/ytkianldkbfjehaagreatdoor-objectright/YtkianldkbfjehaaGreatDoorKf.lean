/- Texts put together: WFst, FldL. -/
import Derived.Test.YtkianldkbfjehaaGreatDoorKe
import Derived.RangeFuncBox
import Derived.Lib.OthersKept
import Derived.Deep.RegionLaw
import Derived.Deep.AppendLies
import Derived.Test.YtkianldkbfjehaaGreatDoorKa
import Derived.Test.YtkianldkbfjehaaGreatDoorKc
import Derived.Laws.RangeAny
import Derived.Lib.Strings

/- The variables of words.Fields in memory; what its inner function 'end' does to them. -/
namespace Go.Proofs.YtkianldkbfjehaaGreatDoor
open Go.RowKit

theorem GOwnV.block {T : TypeId} {w : World} {B : Nat} {v : Value} {vs : List Value} (h : GOwnV T w B v vs) : v = .slice none 0 0 ∨ ∃ g cur, v.ownBlock = some g ∧ B ≤ g ∧ w.heap[g]? = some (.cells cur T (0, 0)) := by
  rcases h.shape with ⟨rfl, rfl⟩ | ⟨g, cap, rfl, ho⟩
  · exact .inl rfl
  · obtain ⟨cur, h1, h2, _⟩ := ho.parts
    exact .inr ⟨g, cur, rfl, h1, h2⟩
/-- a block below the slice's own is no part of it -/
theorem GOwnV.not_low {T : TypeId} {w : World} {B k : Nat} {v : Value} {vs : List Value} (h : GOwnV T w B v vs) (hk : k < B) : some k ≠ v.ownBlock := by
  rcases h.block with rfl | ⟨g, cur, hg, hB, _⟩
  · simp [Value.ownBlock]
  · rw [hg]; intro e; injection e with e; omega
/-- a slice of other elements lies elsewhere -/
theorem GOwnV.apart {T T' : TypeId} {w : World} {B B' : Nat} {v v' : Value} {vs vs' : List Value} (hne : T ≠ T') (h : GOwnV T w B v vs) (h' : GOwnV T' w B' v' vs') : v = .slice none 0 0 ∨ v.ownBlock ≠ v'.ownBlock := by
  rcases h.block with rfl | ⟨g, cur, hg, hB, hc⟩
  · exact .inl rfl
  · refine .inr ?_
    rcases h'.block with rfl | ⟨g', cur', hg', hB', hc'⟩
    · rw [hg]; simp [Value.ownBlock]
    · rw [hg, hg']
      intro e; injection e with e; subst e
      rw [hc] at hc'
      simp at hc'
      exact hne hc'.2
theorem GOwnV.grownOther {T : TypeId} {w w' : World} {B : Nat} {v : Value} {vs : List Value} {row : Option Nat} (h : GOwnV T w B v vs) (hg : w.grownBy w' row) (hr : v = .slice none 0 0 ∨ v.ownBlock ≠ row) : GOwnV T w' B v vs := World.ownsRow.kept h hg (hr.imp (fun e => by rw [e]; rfl) id)
theorem GOwnV.setLow {T : TypeId} {w : World} {B k : Nat} {v : Value} {vs : List Value} (h : GOwnV T w B v vs) (hk : k < B) (x : Value) : GOwnV T (w.setCell ⟨k, 0, none⟩ x) B v vs :=
  h.grownOther (grownBy_setCell' w k x) (.inr (h.not_low hk).symm)

theorem GOwnV.not_low' {T : TypeId} {w : World} {B k : Nat} {v : Value} {vs : List Value} (h : GOwnV T w (B + 5) v vs) (hk : v.ownBlock = some k) : B ≤ k := by
  rcases h.block with rfl | ⟨g, cur, hg, hB, _⟩
  · simp [Value.ownBlock] at hk
  · rw [hg] at hk; injection hk with hk; omega
theorem ownsRow_succ' {T : TypeId} {w : World} {B : Nat} {v : Value} {vs : List Value} {u : Value} (h : GOwnV T w B v (vs ++ [u])) : ∃ g cap, v = .slice (some ⟨g, 0, none⟩) (vs.length + 1) cap := by
  unfold GOwnV at h
  rw [List.length_append, List.length_singleton] at h
  exact ownsRow_succ h

/-- the variables: the line at N, the fields at N + 1, the columns at N + 2, begin at N + 3, the walk over the text at N + 4 -/
structure FSt (w0 W : World) (N : Nat) (line : ByteArray) (vf vc : Value) (fs : List ByteArray) (cs : List Int) (bg : Int) (pos : Nat) : Prop where
  bl : Boxed W N 9 (.string line)
  bf : Boxed W (N + 1) 125 vf
  of : GOwnV 9 W (N + 5) vf (strs fs)
  bc : Boxed W (N + 2) 48 vc
  oc : GOwnV 3 W (N + 5) vc (nums cs)
  bb : Boxed W (N + 3) 3 (.int .i64 bg)
  it : W.heap[N + 4]? = some (.stringIter line pos)
  lo : Below N w0 W

theorem FSt.size {w0 W : World} {N : Nat} {line : ByteArray} {vf vc : Value} {fs : List ByteArray} {cs : List Int} {bg : Int} {pos : Nat} (h : FSt w0 W N line vf vc fs cs bg pos) : N + 5 ≤ W.heap.size := by
  have := (Array.getElem?_eq_some_iff.1 h.it).1
  omega
theorem boxed_below {W W' : World} {B : Nat} {t : TypeId} {v : Value} (h : Boxed W B t v) (hb : Below W.heap.size W W') : Boxed W' B t v := (hb.block B h.lt).trans h
theorem FSt.grow {w0 W W' : World} {N : Nat} {line : ByteArray} {vf vc : Value} {fs : List ByteArray} {cs : List Int} {bg : Int} {pos : Nat} (h : FSt w0 W N line vf vc fs cs bg pos) (hb : Below W.heap.size W W') : FSt w0 W' N line vf vc fs cs bg pos where
  bl := boxed_below h.bl hb
  bf := boxed_below h.bf hb
  of := h.of.below hb
  bc := boxed_below h.bc hb
  oc := h.oc.below hb
  bb := boxed_below h.bb hb
  it := (hb.block (N + 4) (by have := h.size; omega)).trans h.it
  lo := h.lo.trans (hb.mono (by have := h.size; omega))
theorem FSt.room {w0 W : World} {N : Nat} {line : ByteArray} {vf vc : Value} {fs : List ByteArray} {cs : List Int} {bg : Int} {pos : Nat} (h : FSt w0 W N line vf vc fs cs bg pos) (o : Obj) : N + 5 ≤ (W.alloc o).heap.size := by
  have := h.size; simp; omega
theorem FSt.low {w0 W : World} {N : Nat} {line : ByteArray} {vf vc : Value} {fs : List ByteArray} {cs : List Int} {bg : Int} {pos : Nat} (h : FSt w0 W N line vf vc fs cs bg pos) (o : Obj) : Below N w0 (W.alloc o) :=
  h.lo.alloc (by have := h.size; omega) o
theorem one_cell (x : ByteArray) : ∀ u ∈ [Value.string x], u.oneCell' = true := by simp [Value.oneCell']
theorem one_num (x : Int) : ∀ u ∈ [Value.int .i64 x], u.oneCell' = true := by simp [Value.oneCell']
theorem FSt.lowC {w0 W W' : World} {N : Nat} {line : ByteArray} {vf vc : Value} {fs : List ByteArray} {cs : List Int} {bg : Int} {pos : Nat} (h : FSt w0 W N line vf vc fs cs bg pos) (o : Obj) (hg : (W.alloc o).grownBy W' vc.ownBlock) : Below N w0 W' :=
  (h.low o).grown hg (by have := h.room o; omega) fun _ hk => h.oc.not_low' hk
theorem FSt.turn {w0 W W' : World} {N : Nat} {line : ByteArray} {vf vc : Value} {fs : List ByteArray} {cs : List Int} {bg : Int} {pos : Nat} (h : FSt w0 W N line vf vc fs cs bg pos) (tmp : Obj) {vf' : Value} {x : ByteArray}
    (hown : GOwnV 9 W' (N + 5) vf' (strs fs ++ [.string x])) (hg : (W.alloc tmp).grownBy W' vf.ownBlock) (hlo : Below N w0 W') :
    Boxed W' (N + 1) 125 vf ∧ FSt w0 (W'.setCell ⟨N + 1, 0, none⟩ vf') N line vf' vc (fs ++ [x]) cs bg pos := by
  have h1 := h.grow (new_alloc W tmp)
  have n0 := h1.of.not_low (k := N) (by omega)
  have n1 := h1.of.not_low (k := N + 1) (by omega)
  have n2 := h1.of.not_low (k := N + 2) (by omega)
  have n3 := h1.of.not_low (k := N + 3) (by omega)
  have n4 := h1.of.not_low (k := N + 4) (by omega)
  have hb1 : Boxed W' (N + 1) 125 vf := h1.bf.kept hg n1
  have hs := grownBy_setCell' W' (N + 1) vf'
  refine ⟨hb1, ⟨(h1.bl.kept hg n0).kept hs (by simp), hb1.set vf', ?_, (h1.bc.kept hg n2).kept hs (by simp), ?_, (h1.bb.kept hg n3).kept hs (by simp), ?_, ?_⟩⟩
  · have := hown.setLow (k := N + 1) (by omega) vf'
    simpa [strs] using this
  · exact (h1.oc.grownOther hg (GOwnV.apart (by decide) h1.oc h1.of)).setLow (by omega) vf'
  · have e1 := (hg.block (N + 4) (by have := h1.size; omega) n4).trans h1.it
    exact (hs.block (N + 4) (Array.getElem?_eq_some_iff.1 e1).1 (by simp)).trans e1
  · exact hlo.setCell (p := ⟨N + 1, 0, none⟩) (by show N ≤ N + 1; omega) vf'
theorem FSt.still {w0 W W' : World} {N : Nat} {line : ByteArray} {vf vc : Value} {fs : List ByteArray} {cs : List Int} {bg : Int} {pos : Nat} (h : FSt w0 W N line vf vc fs cs bg pos) (tmp : Obj) (hg : (W.alloc tmp).grownBy W' vf.ownBlock) :
    W'.cell? ⟨N + 1, 0, none⟩ = some vf ∧ W'.cell? ⟨N, 0, none⟩ = some (.string line) ∧ W'.cell? ⟨N + 3, 0, none⟩ = some (.int .i64 bg) := by
  have h1 := h.grow (new_alloc W tmp)
  exact ⟨(h1.bf.kept hg (h1.of.not_low (k := N + 1) (by omega))).cell, (h1.bl.kept hg (h1.of.not_low (k := N) (by omega))).cell, (h1.bb.kept hg (h1.of.not_low (k := N + 3) (by omega))).cell⟩
theorem FSt.turnC {w0 W W' : World} {N : Nat} {line : ByteArray} {vf vc : Value} {fs : List ByteArray} {cs : List Int} {bg : Int} {pos : Nat} (h : FSt w0 W N line vf vc fs cs bg pos) (tmp : Obj) {vc' : Value} {x : Int}
    (hown : GOwnV 3 W' (N + 5) vc' (nums cs ++ [.int .i64 x])) (hg : (W.alloc tmp).grownBy W' vc.ownBlock) (hlo : Below N w0 W') :
    Boxed W' (N + 2) 48 vc ∧ FSt w0 (W'.setCell ⟨N + 2, 0, none⟩ vc') N line vf vc' fs (cs ++ [x]) bg pos := by
  have h1 := h.grow (new_alloc W tmp)
  have n0 := h1.oc.not_low (k := N) (by omega)
  have n1 := h1.oc.not_low (k := N + 1) (by omega)
  have n2 := h1.oc.not_low (k := N + 2) (by omega)
  have n3 := h1.oc.not_low (k := N + 3) (by omega)
  have n4 := h1.oc.not_low (k := N + 4) (by omega)
  have hb1 : Boxed W' (N + 2) 48 vc := h1.bc.kept hg n2
  have hs := grownBy_setCell' W' (N + 2) vc'
  refine ⟨hb1, ⟨(h1.bl.kept hg n0).kept hs (by simp), (h1.bf.kept hg n1).kept hs (by simp), ?_, hb1.set vc', ?_, (h1.bb.kept hg n3).kept hs (by simp), ?_, ?_⟩⟩
  · exact (h1.of.grownOther hg (GOwnV.apart (by decide) h1.of h1.oc)).setLow (by omega) vc'
  · have := hown.setLow (k := N + 2) (by omega) vc'
    simpa [nums] using this
  · have e1 := (hg.block (N + 4) (by have := h1.size; omega) n4).trans h1.it
    exact (hs.block (N + 4) (Array.getElem?_eq_some_iff.1 e1).1 (by simp)).trans e1
  · exact hlo.setCell (p := ⟨N + 2, 0, none⟩) (by show N ≤ N + 2; omega) vc'
theorem FSt.setB {w0 W : World} {N : Nat} {line : ByteArray} {vf vc : Value} {fs : List ByteArray} {cs : List Int} {bg : Int} {pos : Nat} (h : FSt w0 W N line vf vc fs cs bg pos) (bg' : Int) :
    FSt w0 (W.setCell ⟨N + 3, 0, none⟩ (.int .i64 bg')) N line vf vc fs cs bg' pos := by
  have hs := grownBy_setCell' W (N + 3) (.int .i64 bg')
  refine ⟨h.bl.kept hs (by simp), h.bf.kept hs (by simp), h.of.setLow (by omega) _, h.bc.kept hs (by simp), h.oc.setLow (by omega) _, h.bb.set _, ?_, ?_⟩
  · exact (hs.block (N + 4) (by have := h.size; omega) (by simp)).trans h.it
  · exact h.lo.setCell (p := ⟨N + 3, 0, none⟩) (by show N ≤ N + 3; omega) _
theorem FSt.next {w0 W : World} {N : Nat} {line : ByteArray} {vf vc : Value} {fs : List ByteArray} {cs : List Int} {bg : Int} {pos : Nat} (h : FSt w0 W N line vf vc fs cs bg pos) (pos' : Nat) :
    FSt w0 (W.iterAt (N + 4) line pos') N line vf vc fs cs bg pos' := by
  refine ⟨(Lib.iterAt_other W (N + 4) N line pos' (by omega)).trans h.bl, (Lib.iterAt_other W (N + 4) (N + 1) line pos' (by omega)).trans h.bf, ownsRow_iterAt h.of (by omega) line pos', (Lib.iterAt_other W (N + 4) (N + 2) line pos' (by omega)).trans h.bc, ownsRow_iterAt h.oc (by omega) line pos', (Lib.iterAt_other W (N + 4) (N + 3) line pos' (by omega)).trans h.bb, Lib.iterAt_heap W (N + 4) line pos pos' h.it, Lib.below_iterAt h.lo (by omega) line pos'⟩
theorem FSt.drewN {w0 W : World} {N : Nat} {line : ByteArray} {vf vc : Value} {fs : List ByteArray} {cs : List Int} {bg : Int} {pos : Nat} (h : FSt w0 W N line vf vc fs cs bg pos) (n : Nat) : FSt w0 (W.drewN n) N line vf vc fs cs bg pos :=
  ⟨h.bl, h.bf, h.of, h.bc, h.oc, h.bb, h.it, below_drewN h.lo n⟩

/-- 'append(out, ..)' within a region that draws its order -/
theorem step_gpush {ops : Array Oper} {o : Oper} {a : Act} {K : Act → World → Prop} {Q : Exit → Act → World → Prop} {E : Prop} {t T : TypeId} {by_ : Nat} (he : Elem t T by_) (w : World) (hgd : o.guard = none) (s x : Operand)
    (ho : o.op = .call { callee := .builtin .append, args := #[s, x], argTypes := #[t, t] }) (B : Nat) (v : Value) (vs : List Value) (hs : a.eval s = v) (hown : GOwnV T w B v vs)
    (ad : Addr) (m c : Nat) (ns : List Value) (hx : a.eval x = .slice (some ad) m c) (hl : ns.length = m) (hm : 0 < m) (hnews : ∀ j u, ns[j]? = some u → w.cell? (ad.add j) = some u) (h1 : ∀ u ∈ ns, u.oneCell' = true)
    (hlen : vs.length + m ≤ 140737488355328) (hby : (vs.length + m) * by_ ≤ 140737488355328) (hB : B ≤ w.heap.size)
    (h : ∀ g cap w', GOwnV T w' B (.slice (some ⟨g, 0, none⟩) (vs.length + m) cap) (vs ++ ns) → w.grownBy w' v.ownBlock → (∀ w0 B', B' ≤ B → Below B' w0 w → Below B' w0 w') → K (a.put o.dst (.slice (some ⟨g, 0, none⟩) (vs.length + m) cap)) w') :
    if Region.wanted o (yielded ops a.tmps) = true then Oper.wp Tryz.prog o a w K Q else E := by
  obtain ⟨hu, z, hzc, hinfo⟩ := he
  obtain ⟨i0, hi, hz0, hz1, hz2⟩ := info_parts hinfo
  refine step_append_lies w hgd s x t ho B T i0 z 1 by_ hu hi hz0 hz1 hz2 hzc (by decide) v vs.length vs hs hown ad m c ns hx (by simp [hl]) hnews h1 hm (by unfold maxLen; omega) hby hB w.heap.size rfl ?_
  intro g cap w' h1 h2 _ _
  refine h g cap w' ?_ h2 (fun w0 B' hB' hb => hb.grown h2 (Nat.le_trans hB' hB) fun k hk => ?_)
  · unfold GOwnV
    rw [List.length_append, hl]
    exact h1
  · rcases hown.block with rfl | ⟨g, cur, hg, hBg, _⟩
    · simp [Value.ownBlock] at hk
    · rw [hg] at hk
      injection hk with hk
      omega

set_option maxHeartbeats 1000000 in
theorem end_none {w0 W : World} {N : Nat} {line : ByteArray} {vf vc : Value} {fs : List ByteArray} {cs : List Int} {pos : Nat} (h : FSt w0 W N line vf vc fs cs (-1) pos) (k : Int) :
    Calls Tryz.prog 108 #[.int .i64 k, .pointer (some ⟨N + 3, 0, none⟩), .pointer (some ⟨N + 1, 0, none⟩), .pointer (some ⟨N, 0, none⟩), .pointer (some ⟨N + 2, 0, none⟩)] W fun e W' => (∃ v, e = .returned v) ∧ W' = W := by
  have c3 := h.bb.cell
  clear h
  go_enter Tryz.func108, Tryz.ntmps108
  go_wp2_with fail
  refine bodyPost_ret (results_none rfl _ _ _) rfl ?_
  exact ⟨⟨_, rfl⟩, rfl⟩

set_option maxRecDepth 1000000 in
set_option maxHeartbeats 4000000 in
theorem end_some {w0 W : World} {N : Nat} {line : ByteArray} {vf vc : Value} {fs : List ByteArray} {cs : List Int} {b k pos : Nat} (h : FSt w0 W N line vf vc fs cs b pos) (hbk : b ≤ k) (hk : k ≤ line.size)
    (hs : line.size ≤ 281474976710656) (hf : (fs.length + 1) * 16 ≤ 140737488355328) (hc : (cs.length + 1) * 8 ≤ 140737488355328) :
    Calls Tryz.prog 108 #[.int .i64 k, .pointer (some ⟨N + 3, 0, none⟩), .pointer (some ⟨N + 1, 0, none⟩), .pointer (some ⟨N, 0, none⟩), .pointer (some ⟨N + 2, 0, none⟩)] W fun e W' => (∃ v, e = .returned v) ∧ ∃ vf' vc', FSt w0 W' N line vf' vc' (fs ++ [line.extract b k]) (cs ++ [(b : Int) + 1]) (-1) pos := by
  obtain ⟨p, cap, hvf, _, _, _⟩ := h.of.slice
  subst hvf
  generalize hlen : (strs fs).length = n1 at h
  have HF : Hid (FSt w0 W N line (.slice p n1 cap) vc fs cs b pos) := h
  have c0 := h.bl.cell
  have c1 := h.bf.cell
  have c3 := h.bb.cell
  have hb0 : ¬ ((b : Int) < 0) := by omega
  have hsl := h.size
  have hx : (line.extract b k).size ≤ 281474976710656 := by rw [ByteArray.size_extract]; omega
  have hcl := fun w => clone_any (line.extract b k) w hx
  have hl1 : (strs fs).length + 1 ≤ 140737488355328 := by simp; omega
  have hl2 : ((strs fs).length + 1) * 16 ≤ 140737488355328 := by simp; omega
  have hk1 : (k : Int) ≤ (line.size : Int) := by omega
  have hk2 : (b : Int) ≤ (k : Int) := by omega
  have hk3 : (0 : Int) ≤ (b : Int) := by omega
  clear h hx hlen
  go_enter Tryz.func108, Tryz.ntmps108
  go_upto_region 1 with fail
  go_cut [5] from 8 (fun _ wx => ∃ vf', FSt w0 wx N line vf' vc (fs ++ [line.extract b k]) cs b pos)
  case first =>
    go_region_law (first
        | (go_simp; go_at_call 62; refine (hcl _).mono ?_; rintro e w2 ⟨rfl, hb2⟩; have hF2 := FSt.grow (FSt.drewN HF.out 1) hb2; obtain ⟨k1, k2, k3⟩ := And.intro hF2.bf.cell (And.intro hF2.bl.cell hF2.bb.cell); have k4 := fun o => (hF2.grow (new_alloc w2 o)).bf.cell)
        | (refine step_gpush Tryz.elemS _ (by rfl) _ _ (by rfl) (N + 5) _ (strs fs) (by rfl) (hF2.of.alloc _) ⟨w2.heap.size, 0, none⟩ 1 1 [.string (line.extract b k)] (by rfl) rfl (by decide) (cell_one_new _ _ _) (one_cell _) hl1 hl2 (hF2.room _) ?_; intro g cap' w3 hown' hgrow hbel; obtain ⟨hbx, hF3⟩ := hF2.turn _ hown' hgrow (hbel _ _ (Nat.le_add_right N 5) (hF2.low _)); have hk9 := hbx.cell; have hfz := hbx.frozen))
    all_goals
      go_wp2_with fail
      go_meet
      case rel =>
        rw [show (strs fs).length = fs.length from List.length_map _] at hF3
        exact ⟨_, hF3⟩
  case rest =>
    obtain ⟨vf', hF⟩ := hcut
    obtain ⟨p2, cap2, hvc, _, _, _⟩ := hF.oc.slice
    subst hvc
    generalize hlen : (nums cs).length = n2 at hF
    have HL : Hid ((nums cs).length = n2) := hlen
    clear hlen
    have HG : Hid (FSt w0 wc N line vf' (.slice p2 n2 cap2) (fs ++ [line.extract b k]) cs b pos) := hF
    have d1 := hF.bc.cell
    have d2 := hF.bb.cell
    have hsz := hF.size
    have hn1 : (nums cs).length + 1 ≤ 140737488355328 := by simp; omega
    have hn2 : ((nums cs).length + 1) * 8 ≤ 140737488355328 := by simp; omega
    have hcap : (b : Int) + 1 ≤ 9223372036854775807 := by omega
    clear hF HF c0 c1 c3 hcl hsl
    go_upto_region 3 with (at_builtin; refine gpush Tryz.elemI _ rfl _ _ rfl (N + 5) _ (nums cs) rfl (HG.out.oc.alloc _) ⟨wc.heap.size, 0, none⟩ 1 1 [.int .i64 ((b : Int) + 1)] rfl rfl (cell_one_new _ _ _) (one_num _) hn1 hn2 (HG.out.room _) ?_; intro v' w1 hown' hgrow hbel hnil; clear hbel hnil; obtain ⟨hbx, hF3⟩ := HG.out.turnC _ hown' hgrow (HG.out.lowC _ hgrow); obtain ⟨g3, cap3, hv3⟩ := ownsRow_succ' hown'; subst hv3; have e1 := hbx.cell; have e2 := hbx.frozen; have HF4 : Hid _ := hF3; clear hown' hgrow hbx hF3 d1 d2 HG)
    have hF5 := HF4.out
    rw [show (nums cs).length = cs.length by simp] at hF5
    clear HF4 e1 e2
    generalize w1.setCell ⟨N + 2, 0, none⟩ (.slice (some ⟨g3, 0, none⟩) (cs.length + 1) cap3) = w5 at *
    have HF6 : Hid (FSt w0 (w5.setCell ⟨N + 3, 0, none⟩ (.int .i64 (-1))) N line vf' (.slice (some ⟨g3, 0, none⟩) (cs.length + 1) cap3) (fs ++ [line.extract b k]) (cs ++ [(b : Int) + 1]) (-1) pos) := hF5.setB (-1)
    have e3 := hF5.bb.cell
    have e4 := hF5.bb.frozen
    clear hF5
    go_wp2_with fail
    first | go_end0 | refine bodyPost_ret (results_none rfl _ _ _) rfl ?_
    exact ⟨⟨_, rfl⟩, _, _, HF6.out⟩

end Go.Proofs.YtkianldkbfjehaaGreatDoor

/- Plain facts on a line's fields. -/
namespace Go.Proofs.YtkianldkbfjehaaGreatDoor
open Go.RowKit

def isBlank (c : UInt8) : Bool := c == 32 || c == 9 || c == 13
theorem isBlank_int (c : UInt8) : blankB (c.toNat : Int) = isBlank c := by
  rw [Bool.eq_iff_iff]
  simp [blankB, isBlank, ← UInt8.toNat_inj]
  omega

/-- a field with a byte more -/
def one1 (p : Nat) (c : UInt8) : Option (Nat × List UInt8) → Nat × List UInt8
  | none => (p, [c])
  | some x => (x.1, x.2 ++ [c])
/-- the fields of what stands from the place p on, the field cur being under way -/
def fldL (p : Nat) (cur : Option (Nat × List UInt8)) : List UInt8 → List (Nat × List UInt8)
  | [] => cur.toList
  | c :: cs => if isBlank c then cur.toList ++ fldL (p + 1) none cs else fldL (p + 1) (some (one1 p c cur)) cs
/-- what stands ahead of the first # -/
def ahead (l : List UInt8) : List UInt8 := l.takeWhile (· != 35)
def fieldsL (l : List UInt8) : List (Nat × List UInt8) := fldL 0 none (ahead l)

theorem fldL_blank (p : Nat) (cur : Option (Nat × List UInt8)) (c : UInt8) (cs : List UInt8) (h : isBlank c = true) : fldL p cur (c :: cs) = cur.toList ++ fldL (p + 1) none cs := by
  rw [fldL, if_pos h]
theorem fldL_some (p : Nat) (x : Nat × List UInt8) (c : UInt8) (cs : List UInt8) (h : isBlank c = false) : fldL p (some x) (c :: cs) = fldL (p + 1) (some (x.1, x.2 ++ [c])) cs := by
  rw [fldL, if_neg (by simp [h]), one1]
theorem fldL_none (p : Nat) (c : UInt8) (cs : List UInt8) (h : isBlank c = false) : fldL p none (c :: cs) = fldL (p + 1) (some (p, [c])) cs := by
  rw [fldL, if_neg (by simp [h]), one1]
theorem fldL_run (w rest : List UInt8) : ∀ (p : Nat) (x : Nat × List UInt8), (∀ c ∈ w, isBlank c = false) → fldL p (some x) (w ++ rest) = fldL (p + w.length) (some (x.1, x.2 ++ w)) rest := by
  induction w with
  | nil => intro p x _; simp
  | cons c w ih =>
    intro p x h
    rw [List.cons_append, fldL_some _ _ _ _ (h c (by simp)), ih _ _ fun d hd => h d (by simp [hd])]
    simp only [List.length_cons, List.append_assoc, List.singleton_append]
    congr 1; omega
theorem fldL_open (w rest : List UInt8) (p : Nat) (hne : w ≠ []) (h : ∀ c ∈ w, isBlank c = false) : fldL p none (w ++ rest) = fldL (p + w.length) (some (p, w)) rest := by
  cases w with
  | nil => exact absurd rfl hne
  | cons c w =>
    rw [List.cons_append, fldL_none _ _ _ (h c (by simp)), fldL_run _ _ _ _ fun d hd => h d (by simp [hd])]
    simp only [List.length_cons, List.singleton_append]
    congr 1; omega
theorem fldL_length (l : List UInt8) : ∀ (p : Nat) (cur : Option (Nat × List UInt8)), (fldL p cur l).length ≤ l.length + 1 := by
  induction l with
  | nil => intro p cur; cases cur <;> simp [fldL]
  | cons c cs ih =>
    intro p cur
    rw [fldL]
    split
    · have := ih (p + 1) none
      cases cur
      · simp; omega
      · simp; omega
    · have := ih (p + 1) (some (one1 p c cur))
      simp; omega

theorem ahead_cut (a b : List UInt8) (h : ∀ x ∈ a, x ≠ 35) : ahead (a ++ 35 :: b) = a := by
  unfold ahead
  rw [List.takeWhile_append_of_pos (fun x hx => by simpa using h x hx)]
  simp
theorem ahead_cons (c : UInt8) (cs : List UInt8) (h : c ≠ 35) : ahead (c :: cs) = c :: ahead cs := by simp [ahead, h]
theorem ahead_no (l : List UInt8) (h : ∀ x ∈ l, x ≠ 35) : ahead l = l := by
  induction l with
  | nil => rfl
  | cons c cs ih => rw [ahead_cons c cs (h c (by simp)), ih fun x hx => h x (by simp [hx])]
theorem ahead_all (l : List UInt8) : ∀ x ∈ ahead l, x ≠ 35 := by
  induction l with
  | nil => intro x hx; simp [ahead] at hx
  | cons c cs ih =>
    intro x hx
    by_cases hc : c = 35
    · subst hc; simp [ahead] at hx
    · rw [ahead_cons c cs hc] at hx
      rcases List.mem_cons.1 hx with rfl | hx
      · exact hc
      · exact ih x hx
theorem ahead_split (l : List UInt8) : (ahead l = l) ∨ ∃ b, l = ahead l ++ 35 :: b := by
  induction l with
  | nil => exact .inl rfl
  | cons c cs ih =>
    by_cases hc : c = 35
    · subst hc
      exact .inr ⟨cs, by simp [ahead]⟩
    · have e : ahead (c :: cs) = c :: ahead cs := by simp [ahead, hc]
      rcases ih with ih | ⟨b, ih⟩
      · exact .inl (by rw [e, ih])
      · exact .inr ⟨b, by rw [e, List.cons_append, ← ih]⟩

/-- the texts of fields, their columns -/
def fTexts (fs : List (Nat × List UInt8)) : List ByteArray := fs.map fun x => bytesOf x.2
def fCols (fs : List (Nat × List UInt8)) : List Int := fs.map fun x => (x.1 : Int) + 1

/-- a rune's bytes: within the text, none of them a blank if the first is none -/
theorem rune_bytes (s : ByteArray) (pos : Nat) (h : pos < s.size) (ha : 128 ≤ (s[pos]'h).toNat) :
    pos + (Utf8.decode s pos).2 ≤ s.size ∧ ∀ j, pos ≤ j → j < pos + (Utf8.decode s pos).2 → 128 ≤ (s.get! j).toNat := by
  have hn : ¬ (s[pos]'h).toNat < 128 := by omega
  have h0 : 128 ≤ (s.get! pos).toNat := by
    have := get_at s pos h
    rw [Nat.add_zero] at this
    rw [this]; exact ha
  simp only [Utf8.decode, get_at s pos h, hn, if_false]
  repeat' split
  all_goals simp_all
  all_goals
    refine ⟨by omega, fun j h1 h2 => ?_⟩
    have hj : j = pos ∨ j = pos + 1 ∨ j = pos + 2 ∨ j = pos + 3 := by omega
    rcases hj with rfl | rfl | rfl | rfl
    all_goals first | exact h0 | omega

theorem high_blank (c : UInt8) (h : 128 ≤ c.toNat) : isBlank c = false := by
  simp [isBlank, ← UInt8.toNat_inj]; omega
theorem get_list (s : ByteArray) (j : Nat) (h : j < s.data.toList.length) : s.get! j = s.data.toList[j] := by
  have h' : j < s.size := by rw [Lib.size_eq]; exact h
  have := get_at s j h'
  rw [Nat.add_zero] at this
  rw [this]; simp [ByteArray.getElem_eq_getElem_data]
theorem list_byte (s : ByteArray) (k : Nat) (_h : k < s.size) (h' : k < s.data.toList.length) : s.data.toList[k] = s[k] := by simp [ByteArray.getElem_eq_getElem_data]

/-- one rune of a text, with its bytes -/
theorem rune_any (s : ByteArray) (pos : Nat) (h : pos < s.size) :
    1 ≤ (Utf8.decode s pos).2 ∧ pos + (Utf8.decode s pos).2 ≤ s.size ∧ blankB ((Utf8.decode s pos).1 : Int) = isBlank (s[pos]'h) ∧ (isBlank (s[pos]'h) = true → (Utf8.decode s pos).2 = 1) ∧
      (isBlank (s[pos]'h) = false → ∀ c ∈ piece s.data.toList pos (pos + (Utf8.decode s pos).2), isBlank c = false) := by
  have hl := Lib.size_eq s
  by_cases ha : (s[pos]'h).toNat < 128
  · rw [decode_ascii s pos h ha]
    refine ⟨Nat.le_refl _, h, isBlank_int _, fun _ => rfl, fun hb c hc => ?_⟩
    rw [piece_snoc _ pos pos (Nat.le_refl _) (by omega), piece_self, List.nil_append, List.mem_singleton] at hc
    rw [hc, list_byte s pos h (by omega)]
    exact hb
  · have hd := decode_high s pos h (by omega)
    have hr := rune_bytes s pos h (by omega)
    have hnb := high_blank (s[pos]'h) (by omega)
    refine ⟨hd.2, hr.1, ?_, (fun e => by rw [hnb] at e; cases e), fun _ c hc => ?_⟩
    · rw [hnb]; simp [blankB]; omega
    · unfold piece at hc
      obtain ⟨i, hi, rfl⟩ := List.getElem_of_mem hc
      rw [List.length_take, List.length_drop] at hi
      rw [List.getElem_take, List.getElem_drop, ← get_list s (pos + i) (by omega)]
      exact high_blank _ (hr.2 (pos + i) (by omega) (by omega))

end Go.Proofs.YtkianldkbfjehaaGreatDoor
