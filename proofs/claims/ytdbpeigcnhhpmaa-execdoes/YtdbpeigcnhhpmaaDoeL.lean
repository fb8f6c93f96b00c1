/- ExecDoes: how its variables lie in memory; append in a region that draws; the law's same. -/
import Derived.Test.YtdbpeigcnhhpmaaDoT
import Derived.Deep.AppendLies
namespace Go.Proofs.Ytdbpeigcnhhpmaa
open Go.RowKit

theorem step_pushP {ops : Array Oper} {o : Oper} {a : Act} {K : Act → World → Prop} {Q : Exit → Act → World → Prop} {E : Prop} (w : World) (hgd : o.guard = none) (s x : Operand)
    (ho : o.op = .call { callee := .builtin .append, args := #[s, x], argTypes := #[30, 30] }) (B : Nat) (v : Value) (xs : List Int) (k : Nat) (hk : xs.length = k) (hs : a.eval s = v) (hown : POwnV w B v xs)
    (ad : Addr) (m c : Nat) (ns : List Int) (hx : a.eval x = .slice (some ad) m c) (hl : ns.length = m) (hm : 0 < m) (hnews : ∀ j u, (wrds ns)[j]? = some u → w.cell? (ad.add j) = some u)
    (hlen : (k + m) * 4 ≤ 140737488355328) (hB : B ≤ w.heap.size)
    (h : ∀ g cap w', k + m ≤ cap → POwnV w' B (.slice (some ⟨g, 0, none⟩) (k + m) cap) (xs ++ ns) → w.grownBy w' v.ownBlock → K (a.put o.dst (.slice (some ⟨g, 0, none⟩) (k + m) cap)) w') :
    if Region.wanted o (yielded ops a.tmps) = true then Oper.wp Try.prog o a w K Q else E := by
  subst hk
  obtain ⟨i0, hi, hz0, hz1, hz2⟩ := info_parts Try.info25
  refine step_append_lies w hgd s x 30 ho B 25 i0 (.int .u32 0) 1 4 Try.underlying30 hi hz0 hz1 hz2 rfl (by decide) v xs.length (wrds xs) hs hown ad m c (wrds ns) hx (by simp [hl]) hnews (fun u hu => ?_) hm (by unfold maxLen; omega) (by omega) hB w.heap.size rfl ?_
  · simp only [wrds, List.mem_map] at hu
    obtain ⟨z, _, rfl⟩ := hu
    rfl
  · intro g cap w' h1 h2 _ _
    have h3 : POwnV w' B (.slice (some ⟨g, 0, none⟩) (xs.length + m) cap) (xs ++ ns) := by
      unfold POwnV
      rw [List.length_append, hl]
      simpa [wrds] using h1
    refine h g cap w' ?_ h3 h2
    rcases h3.shape with ⟨e, _⟩ | ⟨g', cap', e, ho'⟩
    · cases e
    · injection e with _ _ e
      subst e
      have := ho'.cap
      rw [List.length_append, hl] at this
      exact this

set_option maxHeartbeats 1000000 in
theorem sameEff_self (E : Eff) (w : World) : Calls Try.prog 12 #[.agg (effA E), .agg (effA E)] w fun e w' => e = .returned (.bool true) ∧ Below w.heap.size w w' := by
  obtain ⟨e0, e1, e2, e3, e4, e5, e6⟩ := E
  show Calls Try.prog 12 #[.agg #[.int .u32 e0, .bool e1, .int .i64 e2, .bool e3, .bool e4, .int .u32 e5, .int .u32 e6], .agg #[.int .u32 e0, .bool e1, .int .i64 e2, .bool e3, .bool e4, .int .u32 e5, .int .u32 e6]] w _
  go_enter Try.func12, Try.ntmps12
  go_wp2
  all_goals
    go_ret
    exact ⟨rfl, below_alloc (new_alloc _ _) _⟩

/-- the law's variables: the case, the registers, 'in' with its stack, 'data'; all of them below top -/
structure EIn (w : World) (q top : Nat) (cA rA : Array Value) (g5 : Nat) (iA : Array Value) (B : Nat) (vi : Value) (xi : List Int) (vd : Value) (D : List Int) (W : World) : Prop where
  bc : Blk W q 28 cA
  br : Blk W (q + 1) 32 rA
  bi : Blk W g5 32 iA
  oi : POwnV W B vi xi
  od : OwnV W B vd D
  bel : Below w.heap.size w W
  lt : q + 1 < top ∧ g5 < top ∧ w.heap.size ≤ top
  li : ∀ g, vi.ownBlock = some g → g < top
  ld : ∀ g, vd.ownBlock = some g → g < top
theorem POwnV.keepAt {w w' : World} {B C : Nat} {v : Value} {xs : List Int} (h : POwnV w B v xs) (hb : Below C w w') (hl : ∀ g, v.ownBlock = some g → g < C) : POwnV w' B v xs := by
  rcases h.shape with ⟨rfl, rfl⟩ | ⟨g, cap, rfl, ho⟩
  · exact POwnV.nil _ _
  · obtain ⟨cur, h1, h2, h3, h4, h5, h6⟩ := ho.parts
    exact (POwn.mk h1 (by rw [hb.block g (hl g rfl)]; exact h2) h3 h4 h5 h6).val
theorem OwnV.keepAt {w w' : World} {B C : Nat} {v : Value} {xs : List Int} (h : OwnV w B v xs) (hb : Below C w w') (hl : ∀ g, v.ownBlock = some g → g < C) : OwnV w' B v xs := by
  rcases h.shape with ⟨rfl, rfl⟩ | ⟨g, cap, rfl, ho⟩
  · exact OwnV.nil _ _
  · obtain ⟨cur, h1, h2, h3, h4, h5, h6⟩ := ho.parts
    exact (Own.mk h1 (by rw [hb.block g (hl g rfl)]; exact h2) h3 h4 h5 h6).val
theorem EIn.keep {w W W' : World} {q top g5 B C : Nat} {cA rA iA : Array Value} {vi vd : Value} {xi D : List Int} (h : EIn w q top cA rA g5 iA B vi xi vd D W) (hb : Below C W W') (hC : top ≤ C) : EIn w q top cA rA g5 iA B vi xi vd D W' :=
  ⟨h.bc.below hb (by have := h.lt; omega), h.br.below hb (by have := h.lt; omega), h.bi.below hb (by have := h.lt; omega), h.oi.keepAt hb (fun g hg => Nat.lt_of_lt_of_le (h.li g hg) hC), h.od.keepAt hb (fun g hg => Nat.lt_of_lt_of_le (h.ld g hg) hC),
    h.bel.trans (hb.mono (by have := h.lt; omega)), h.lt, h.li, h.ld⟩
/-- own blocks lie in memory -/
theorem POwnV.ltBlock {w : World} {B : Nat} {v : Value} {xs : List Int} (h : POwnV w B v xs) : ∀ g, v.ownBlock = some g → B ≤ g ∧ g < w.heap.size := fun g hg => World.ownsRow.lt h g hg
theorem OwnV.ltBlock {w : World} {B : Nat} {v : Value} {xs : List Int} (h : OwnV w B v xs) : ∀ g, v.ownBlock = some g → B ≤ g ∧ g < w.heap.size := fun g hg => World.ownsRow.lt h g hg

theorem OwnV.kept {w w' : World} {B g : Nat} {v : Value} {xs : List Int} (h : OwnV w B v xs) (hg : w.grownBy w' (some g)) (hne : v.ownBlock ≠ some g) : OwnV w' B v xs := by
  rcases h.shape with ⟨rfl, rfl⟩ | ⟨g', cap, rfl, ho⟩
  · exact OwnV.nil _ _
  · exact World.ownsRow.kept h hg (.inr hne)
/-- a list's own block is of its elements' type -/
theorem POwnV.notAt {w : World} {B g : Nat} {v : Value} {xs : List Int} {T : TypeId} {E : Array Value} (h : POwnV w B v xs) (hb : Blk w g T E) (hT : T ≠ 25) : v.ownBlock ≠ some g := by
  rcases h.shape with ⟨rfl, _⟩ | ⟨g', cap, rfl, ho⟩
  · intro e; cases e
  · intro e
    have e' : some g' = some g := e
    injection e' with e'
    obtain ⟨cur, _, h2, _⟩ := ho.parts
    rw [e', show w.heap[g]? = _ from hb] at h2
    injection h2 with h2
    injection h2 with _ h2
    exact hT h2
theorem OwnV.notAt {w : World} {B g : Nat} {v : Value} {xs : List Int} {T : TypeId} {E : Array Value} (h : OwnV w B v xs) (hb : Blk w g T E) (hT : T ≠ 5) : v.ownBlock ≠ some g := by
  rcases h.shape with ⟨rfl, _⟩ | ⟨g', cap, rfl, ho⟩
  · intro e; cases e
  · intro e
    have e' : some g' = some g := e
    injection e' with e'
    obtain ⟨cur, _, h2, _⟩ := ho.parts
    rw [e', show w.heap[g]? = _ from hb] at h2
    injection h2 with h2
    injection h2 with _ h2
    exact hT h2
/-- 'in' is made behind its lists -/
theorem ein_new {w w2 : World} {q B1 B2 : Nat} {cA rA : Array Value} {v1 v2 : Value} {S D : List Int} (iA : Array Value) (hq : q = w.heap.size) (hA : Blk w2 q 28 cA) (hB : Blk w2 (q + 1) 32 rA) (hO : POwnV w2 B1 v1 S) (hQ : OwnV w2 B2 v2 D) (hW : Below w.heap.size w w2) (h1 : q + 2 ≤ B1) (h2 : q + 2 ≤ B2) :
    q + 2 ≤ w2.heap.size ∧ w2.heap.size < (w2.alloc (.cells iA 32)).heap.size ∧ EIn w q (w2.alloc (.cells iA 32)).heap.size cA rA w2.heap.size iA (q + 2) v1 S v2 D (w2.alloc (.cells iA 32)) := by
  have l1 := hB.lt
  have hn := new_alloc w2 (.cells iA 32)
  have hs := size_one w2 (.cells iA 32)
  refine ⟨by omega, by omega, ⟨hA.grow hn, hB.grow hn, Blk.new _ _ _, (hO.below hn).low h1, (hQ.below hn).lowerV h2, below_step hW hn, ⟨by omega, by omega, by omega⟩, fun g hg => ?_, fun g hg => ?_⟩⟩
  · have := (hO.ltBlock g hg).2; omega
  · have := (hQ.ltBlock g hg).2; omega
/-- 'in' was made ahead of its lists, or between them -/
theorem ein_set {w w2 : World} {q B1 B2 g : Nat} {cA rA zA : Array Value} {v1 v2 : Value} {S D : List Int} (iA : Array Value) (hq : q = w.heap.size) (hA : Blk w2 q 28 cA) (hB : Blk w2 (q + 1) 32 rA) (hO : POwnV w2 B1 v1 S) (hQ : OwnV w2 B2 v2 D) (hW : Below w.heap.size w w2) (h1 : q + 2 ≤ B1) (h2 : q + 2 ≤ B2)
    (hZ : Blk w2 g 32 zA) (hs : iA.size = zA.size) (hg : q + 2 ≤ g) :
    q + 2 ≤ g ∧ g < (w2.setCells g 0 iA.toList).heap.size ∧ EIn w q (w2.setCells g 0 iA.toList).heap.size cA rA g iA (q + 2) v1 S v2 D (w2.setCells g 0 iA.toList) := by
  have l1 := hB.lt
  have l2 := hZ.lt
  have hn := grown_setCells g iA.toList 0 w2
  have hbi := hZ.setAll iA hs
  have hz := hn.size
  refine ⟨hg, by omega, ⟨hA.kept hn (by intro e; injection e with e; omega), hB.kept hn (by intro e; injection e with e; omega), hbi, (hO.kept hn (hO.notAt hZ (by decide))).low h1, (hQ.kept hn (hQ.notAt hZ (by decide))).lowerV h2, ?_, ⟨by omega, by omega, by omega⟩, fun k hk => ?_, fun k hk => ?_⟩⟩
  · exact hW.grown hn (by omega) (fun k hk => by cases hk; omega)
  · have := (hO.ltBlock k hk).2; omega
  · have := (hQ.ltBlock k hk).2; omega

theorem apartP {W : World} {B B' : Nat} {vd vi : Value} {D xi : List Int} (hd : OwnV W B vd D) (hi : POwnV W B' vi xi) (g : Nat) (h : vi.ownBlock = some g) : vd.ownBlock ≠ some g := by
  rcases hi.shape with ⟨rfl, _⟩ | ⟨g', cap, rfl, ho⟩
  · cases h
  · have e' : some g' = some g := h
    injection e' with e'
    subst e'
    obtain ⟨cur, _, h2, _⟩ := ho.parts
    exact hd.notAt (T := 25) (E := cur) h2 (by decide)
/-- in's stack grows -/
theorem EIn.pushed {w W W' : World} {q top g5 B : Nat} {cA rA iA : Array Value} {vi vi' vd : Value} {xi xi' D : List Int} (h : EIn w q top cA rA g5 iA B vi xi vd D W) (hq : q = w.heap.size) (hB : q ≤ B) (hg : W.grownBy W' vi.ownBlock) (ho : POwnV W' B vi' xi') :
    EIn w q W'.heap.size cA rA g5 iA B vi' xi' vd D W' := by
  have l1 := h.br.lt
  have l2 := h.bi.lt
  have hz := hg.size
  have hd : OwnV W' B vd D := by
    rcases h.oi.shape with ⟨hv, _⟩ | ⟨g, cap, hv, ho'⟩
    · subst hv
      exact h.od.keepAt (C := W.heap.size) ⟨hg.os, hg.tape, hg.output, hg.size, fun k hk => hg.block k hk (by intro e; cases e)⟩ (fun g hg' => (h.od.ltBlock g hg').2)
    · have hne := apartP h.od h.oi g (by rw [hv]; rfl)
      subst hv
      exact h.od.kept hg hne
  refine ⟨h.bc.kept hg (fun e => h.oi.notAt h.bc (by decide) e.symm), h.br.kept hg (fun e => h.oi.notAt h.br (by decide) e.symm), h.bi.kept hg (fun e => h.oi.notAt h.bi (by decide) e.symm), ho, hd, ?_, ⟨by omega, by omega, by omega⟩, fun g hg' => (ho.ltBlock g hg').2, fun g hg' => (hd.ltBlock g hg').2⟩
  exact h.bel.grown hg (by omega) (fun k hk => by have := (h.oi.ltBlock k hk).1; omega)
/-- in's header is stored -/
theorem EIn.head {w W : World} {q top g5 B : Nat} {cA rA iA : Array Value} {vi vd : Value} {xi D : List Int} (h : EIn w q top cA rA g5 iA B vi xi vd D W) (hq : q = w.heap.size) (h5 : q + 2 ≤ g5) (i : Nat) (v : Value) :
    EIn w q top cA rA g5 (iA.setIfInBounds i v) B vi xi vd D (W.setCell ⟨g5, i, none⟩ v) := by
  have hg := grown_setCell W g5 i v
  have l1 := h.br.lt
  exact ⟨h.bc.other (by omega) _ _, h.br.other (by omega) _ _, h.bi.set i v, h.oi.kept hg (h.oi.notAt h.bi (by decide)), h.od.kept hg (h.od.notAt h.bi (by decide)), h.bel.grown hg (by omega) (fun k hk => by cases hk; omega), h.lt, h.li, h.ld⟩
theorem EIn.drew {w W : World} {q top g5 B : Nat} {cA rA iA : Array Value} {vi vd : Value} {xi D : List Int} (h : EIn w q top cA rA g5 iA B vi xi vd D W) : EIn w q top cA rA g5 iA B vi xi vd D W.drew := h.keep (C := top) (Below.refl _ _).drew (Nat.le_refl _)
theorem EIn.grow {w W W' : World} {q top g5 B : Nat} {cA rA iA : Array Value} {vi vd : Value} {xi D : List Int} (h : EIn w q top cA rA g5 iA B vi xi vd D W) (ht : top ≤ W.heap.size) (hb : Below W.heap.size W W') : EIn w q top cA rA g5 iA B vi xi vd D W' := h.keep hb ht


theorem size_drew (w : World) : w.drew.heap.size = w.heap.size := rfl

theorem two_blkT (w : World) (A E : Array Value) (T : TypeId) : Blk ((w.alloc (.cells A 32)).alloc (.cells E T)) w.heap.size 32 A ∧ Blk ((w.alloc (.cells A 32)).alloc (.cells E T)) (w.heap.size + 1) T E ∧ Below w.heap.size w ((w.alloc (.cells A 32)).alloc (.cells E T)) := by
  refine ⟨(Blk.new w 32 A).grow (new_alloc _ _), ?_, below_alloc (new_alloc _ _) _⟩
  have := Blk.new (w.alloc (.cells A 32)) T E
  rw [size_one] at this
  exact this
/-- a part of a list at its beginning -/
theorem POwnV.prow {W : World} {B g n c : Nat} {S X : List Int} (h : POwnV W B (.slice (some ⟨g, 0, none⟩) n c) (S ++ X)) : PRow W (some ⟨g, 0, none⟩) S := by
  rcases h.shape with ⟨e, _⟩ | ⟨g', cap, e, ho⟩
  · cases e
  · injection e with e _ _; injection e with e; injection e with e _ _
    subst e
    refine fun _ => ⟨g, 0, rfl, fun i hi => ?_⟩
    rw [Nat.zero_add, ho.cell i (by rw [List.length_append]; omega)]
    simp [List.getD, List.getElem?_append_left hi]
theorem POwnV.nine {W : World} {B g n c s : Nat} {S : List Int} (h : POwnV W B (.slice (some ⟨g, 0, none⟩) n c) (S ++ [9, 9])) (hS : S.length = s) : W.cell? ⟨g, s, none⟩ = some (.int .u32 9) := by
  subst hS
  rcases h.shape with ⟨e, _⟩ | ⟨g', cap, e, ho⟩
  · cases e
  · injection e with e _ _; injection e with e; injection e with e _ _
    subst e
    rw [ho.cell S.length (by simp)]
    simp [List.getD]
theorem POwnV.keptO {w w' : World} {B : Nat} {row : Option Nat} {v : Value} {xs : List Int} (h : POwnV w B v xs) (hg : w.grownBy w' row) (hne : v.ownBlock ≠ row) : POwnV w' B v xs := World.ownsRow.kept h hg (.inr hne)
/-- the list that the loop writes over -/
theorem POwnV.at77 {w : World} {B k n c : Nat} {p : Option Addr} {zs : List Int} (h : POwnV w B (.slice p n c) zs) (hz : zs.length = n) (hk : k < n) (x : Int) :
    ∃ g y, p = some ⟨g, 0, none⟩ ∧ B ≤ g ∧ w.cell? ⟨g, k, none⟩ = some (.int .u32 y) ∧ w.frozen? ⟨g, k, none⟩ = false ∧ POwnV (w.setCell ⟨g, k, none⟩ (.int .u32 x)) B (.slice p n c) (zs.set k x) := by
  rcases h.shape with ⟨e, e'⟩ | ⟨g', cap, e, ho⟩
  · subst e'; simp at hz; omega
  · injection e with e e2 e3
    subst e e2 e3
    refine ⟨g', _, rfl, ho.base, ho.cell k hk, ho.free k, ?_⟩
    have := (ho.store k x).val
    rw [List.length_set] at this
    exact this

theorem OwnV.rowOf {W : World} {B n c : Nat} {p : Option Addr} {D : List Int} (h : OwnV W B (.slice p n c) D) : Row W p D := by
  obtain ⟨p', c', e, hr, _⟩ := h.slice
  injection e with e _ _
  rw [e]; exact hr
theorem POwnV.rowOf {W : World} {B n c : Nat} {p : Option Addr} {D : List Int} (h : POwnV W B (.slice p n c) D) : PRow W p D := by
  obtain ⟨p', c', e, hr, _⟩ := h.slice
  injection e with e _ _
  rw [e]; exact hr

end Go.Proofs.Ytdbpeigcnhhpmaa
