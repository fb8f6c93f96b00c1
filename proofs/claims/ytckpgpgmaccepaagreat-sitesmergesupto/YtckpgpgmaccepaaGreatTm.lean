/- Texts put together: NumS, OfW, AtW, PlcW, CmpW, KitS, SAtW, TblW, SrtL. -/
import Derived.Test.YtckpgpgmaccepaaGreatNamL
import Derived.Test.YtckpgpgmaccepaaGreatBlk
import Derived.Test.YtckpgpgmaccepaaGreatCln
import Derived.Test.YtckpgpgmaccepaaGreatTl
import Derived.Test.YtckpgpgmaccepaaGreatTexts
import Derived.Deep.AppendLies
import Derived.Deep.RegionHeld3
import Derived.Test.YtckpgpgmaccepaaGreatTa
import Derived.Test.YtckpgpgmaccepaaGreatKeyL
import Derived.Sort.Grow
import Derived.BigQuiet
import Derived.Deep.QuietTactic

/- A numbering of names: sites.newNumbering, number. -/
namespace Go.Proofs.YtckpgpgmaccepaaGreat
open Go.RowKit Go.Maps Go.WideMaps

/-- all old blocks but those of G are as they were -/
structure Keeps (G : Nat → Prop) (w w' : World) : Prop where
  os : w'.os = w.os
  tape : w'.tape = w.tape
  output : w'.output = w.output
  size : w.heap.size ≤ w'.heap.size
  block : ∀ j, j < w.heap.size → ¬ G j → w'.heap[j]? = w.heap[j]?

theorem Keeps.refl (G : Nat → Prop) (w : World) : Keeps G w w := ⟨rfl, rfl, rfl, Nat.le_refl _, fun _ _ _ => rfl⟩
theorem Keeps.drewN {G : Nat → Prop} {a w : World} (h : Keeps G a w) (n : Nat) : Keeps G a (w.drewN n) := ⟨h.os, h.tape, h.output, h.size, h.block⟩
theorem Keeps.drew {G : Nat → Prop} {a w : World} (h : Keeps G a w) : Keeps G a w.drew := ⟨h.os, h.tape, h.output, h.size, h.block⟩
theorem Keeps.grown {G : Nat → Prop} {a w w' : World} {row : Option Nat} (h : Keeps G a w) (hg : w.grownBy w' row) (hr : ∀ k, row = some k → G k ∨ a.heap.size ≤ k) : Keeps G a w' :=
  ⟨hg.os.trans h.os, hg.tape.trans h.tape, hg.output.trans h.output, Nat.le_trans h.size hg.size, fun j hj hn => by
    rw [hg.block j (Nat.lt_of_lt_of_le hj h.size) (fun e => by
      rcases hr j e.symm with h1 | h1
      · exact hn h1
      · omega), h.block j hj hn]⟩
theorem Keeps.alloc {G : Nat → Prop} {a w : World} (h : Keeps G a w) (o : Obj) : Keeps G a (w.alloc o) := h.grown (World.grownBy_alloc w o none) (fun _ e => by cases e)
theorem Keeps.setCell {G : Nat → Prop} {a w : World} (h : Keeps G a w) (b i : Nat) (v : Value) (hb : G b ∨ a.heap.size ≤ b) : Keeps G a (w.setCell ⟨b, i, none⟩ v) :=
  ⟨h.os, h.tape, h.output, by rw [World.size_setCell]; exact h.size, fun j hj hn => by
    rw [heap_setCell_other w ⟨b, i, none⟩ j v (fun e => by
      simp only at e
      subst e
      rcases hb with h1 | h1
      · exact hn h1
      · omega), h.block j hj hn]⟩
theorem Keeps.below {G : Nat → Prop} {B : Nat} {w w' : World} (h : Keeps G w w') (hB : B ≤ w.heap.size) (hG : ∀ j, G j → B ≤ j) : Below B w w' :=
  ⟨h.os, h.tape, h.output, h.size, fun k hk => h.block k (by omega) fun hg => by have := hG k hg; omega⟩

theorem Keeps.trans {G : Nat → Prop} {a b c : World} (h : Keeps G a b) (k : Keeps G b c) : Keeps G a c :=
  ⟨k.os.trans h.os, k.tape.trans h.tape, k.output.trans h.output, Nat.le_trans h.size k.size, fun j hj hn => (k.block j (Nat.lt_of_lt_of_le hj h.size) hn).trans (h.block j hj hn)⟩
theorem Keeps.ofBelow {G : Nat → Prop} {a b : World} (h : Below a.heap.size a b) : Keeps G a b := ⟨h.os, h.tape, h.output, h.size, fun j hj _ => h.block j hj⟩
theorem Keeps.mono {G H : Nat → Prop} {a b : World} (h : Keeps G a b) (hG : ∀ j, G j → H j) : Keeps H a b := ⟨h.os, h.tape, h.output, h.size, fun j hj hn => h.block j hj (fun hg => hn (hG j hg))⟩

theorem GOwnV.block {T : TypeId} {w : World} {B : Nat} {v : Value} {vs : List Value} (h : GOwnV T w B v vs) : v = .slice none 0 0 ∨ ∃ g cur, v.ownBlock = some g ∧ B ≤ g ∧ w.heap[g]? = some (.cells cur T (0, 0)) := by
  rcases h.shape with ⟨rfl, rfl⟩ | ⟨g, cap, rfl, ho⟩
  · exact .inl rfl
  · obtain ⟨cur, h1, h2, _⟩ := ho.parts
    exact .inr ⟨g, cur, rfl, h1, h2⟩
theorem step_gpush {ops : Array Oper} {o : Oper} {a : Act} {K : Act → World → Prop} {Q : Exit → Act → World → Prop} {E : Prop} {t T : TypeId} {by_ : Nat} (he : Elem t T by_) (w : World) (hgd : o.guard = none) (s x : Operand)
    (ho : o.op = .call { callee := .builtin .append, args := #[s, x], argTypes := #[t, t] }) (B : Nat) (v : Value) (vs : List Value) (hs : a.eval s = v) (hown : GOwnV T w B v vs)
    (ad : Addr) (m c : Nat) (ns : List Value) (hx : a.eval x = .slice (some ad) m c) (hl : ns.length = m) (hm : 0 < m) (hnews : ∀ j u, ns[j]? = some u → w.cell? (ad.add j) = some u) (h1 : ∀ u ∈ ns, u.oneCell' = true)
    (hlen : vs.length + m ≤ 140737488355328) (hby : (vs.length + m) * by_ ≤ 140737488355328) (hB : B ≤ w.heap.size)
    (h : ∀ g cap w', GOwnV T w' B (.slice (some ⟨g, 0, none⟩) (vs.length + m) cap) (vs ++ ns) → w.grownBy w' v.ownBlock → (∀ w0 B', B' ≤ B → Below B' w0 w → Below B' w0 w') → K (a.put o.dst (.slice (some ⟨g, 0, none⟩) (vs.length + m) cap)) w') :
    if Region.wanted o (yielded ops a.tmps) = true then Oper.wp Tryz.prog o a w K Q else E := by
  obtain ⟨hu, z, hzc, hinfo⟩ := he
  obtain ⟨i0, hi, hz0, hz1, hz2⟩ := info_parts hinfo
  refine step_append_lies w hgd s x t ho B T i0 z 1 by_ hu hi hz0 hz1 hz2 hzc (by decide) v vs.length vs hs hown ad m c ns hx (by simp [hl]) hnews h1 hm (by unfold maxLen; omega) hby hB w.heap.size rfl ?_
  intro g cap w' h1 h2 _ _
  refine h g cap w' ?_ h2 (fun w0 B' hB' hb => hb.grown h2 (Nat.le_trans hB' hB) fun k hk => ?_)
  · unfold GOwnV
    rw [List.length_append, hl]
    exact h1
  · rcases hown.block with rfl | ⟨g, cur, hg, hBg, _⟩
    · simp [Value.ownBlock] at hk
    · rw [hg] at hk
      injection hk with hk
      omega

/-- names and their numbers: in block k the names and the map; the map in block bm -/
structure NumAt (w : World) (B k bm : Nat) (v : Value) (ns : List ByteArray) : Prop where
  blk : Blk w k 79 #[v, .map (some bm)]
  map : NamAt w bm ns
  own : GOwnV 9 w B v (ns.map Value.string)
  hk : B ≤ k
  hbm : B ≤ bm

theorem NumAt.below {w w' : World} {B k bm : Nat} {v : Value} {ns : List ByteArray} (h : NumAt w B k bm v ns) (hb : Below w.heap.size w w') : NumAt w' B k bm v ns :=
  ⟨h.blk.grow hb, h.map.below hb, h.own.below hb, h.hk, h.hbm⟩

set_option maxHeartbeats 1000000 in
theorem newNumbering_any (w : World) : Calls Tryz.prog 39 #[] w fun e w' => ∃ k bm, e = .returned (.pointer (some ⟨k, 0, none⟩)) ∧ NumAt w' w.heap.size k bm (.slice none 0 0) [] ∧ Below w.heap.size w w' := by
  have hmm := @run_makeMap Tryz.prog
  go_enter Tryz.func39, Tryz.ntmps39
  go_wp2_with fail
  go_ret
  refine ⟨w.heap.size + 1, w.heap.size, rfl, ⟨?_, (NamAt.made w).below (new_alloc _ _), GOwnV.nil _ _ _, by omega, Nat.le_refl _⟩, below_alloc (new_alloc _ _) _⟩
  have := Blk.new (w.alloc (.map #[] 0)) 79 #[.slice none 0 0, .map (some w.heap.size)]
  rw [size_one] at this
  exact this

theorem idx_at {ns : List ByteArray} {s : ByteArray} (h : s ∈ ns) : ∃ hi : idxK ns s < ns.length, ns[idxK ns s] = s := by
  have hi : idxK ns s < ns.length := List.findIdx_lt_length_of_exists ⟨s, h, by simp⟩
  refine ⟨hi, ?_⟩
  have h2 : decide (ns[idxK ns s] = s) = true := List.findIdx_getElem (p := fun k => decide (k = s)) (w := hi)
  simpa using h2

set_option maxHeartbeats 1000000 in
theorem number_in (B k bm : Nat) (v : Value) (ns : List ByteArray) (s : ByteArray) (w : World) (h : NumAt w B k bm v ns) (hs : s.size ≤ maxLen) (hin : s ∈ ns) :
    Calls Tryz.prog 40 #[.pointer (some ⟨k, 0, none⟩), .string s] w fun e w' => e = .returned (.int .i64 (idxK ns s : Nat)) ∧ w' = w := by
  have c1 := h.blk.cell 1
  simp only [List.getElem?_toArray, List.getElem?_cons_zero, List.getElem?_cons_succ] at c1
  have HM := Hid.in h.map
  have hb : inB s ns = true := (inB_iff s ns).2 hin
  obtain ⟨hi, hx⟩ := idx_at hin
  have HI := Hid.in hi
  have HX : Hid (∀ c : Int, (∀ i (hi : i < ns.length), ns[i] = s → c = i) → c = (idxK ns s : Nat)) := fun c hc => hc _ hi hx
  clear h hi hx HI
  go_enter Tryz.func40, Tryz.ntmps40
  go_wp2_with (refine nam_look _ rfl _ _ rfl bm ns rfl HM.out s rfl hs ?_; intro cc hcc; rw [hb]; have hce := HX.out cc hcc; subst hce; clear hcc)
  go_ret
  exact ⟨rfl, rfl⟩

theorem Blk.not_own {T : TypeId} {w : World} {B g : Nat} {v : Value} {vs : List Value} {c : Array Value} (h : Blk w g T c) (ho : GOwnV 9 w B v vs) (hT : T ≠ 9) : v.ownBlock ≠ some g := by
  rcases ho.block with rfl | ⟨g', cur, hg, _, hc⟩
  · simp [Value.ownBlock]
  · rw [hg]
    intro e
    injection e with e
    subst e
    have h1 : w.heap[g']? = _ := h
    rw [h1] at hc
    injection hc with hc
    injection hc with _ hc _
    exact hT hc

set_option maxRecDepth 4000 in
set_option maxHeartbeats 2000000 in
theorem number_new (B k bm : Nat) (v : Value) (ns : List ByteArray) (s : ByteArray) (w : World) (h : NumAt w B k bm v ns) (hs : s.size ≤ 281474976710656) (hin : s ∉ ns) (hl : ns.length ≤ 1048576) (hB : B ≤ w.heap.size) :
    Calls Tryz.prog 40 #[.pointer (some ⟨k, 0, none⟩), .string s] w fun e w' => e = .returned (.int .i64 ns.length) ∧ (∃ v', NumAt w' B k bm v' (ns ++ [s])) ∧ Keeps (fun b => b = k ∨ b = bm ∨ v.ownBlock = some b) w w' := by
  obtain ⟨p0, d0, hv, -, -, -⟩ := h.own.slice
  rw [List.length_map] at hv
  subst hv
  have c0 := h.blk.cell 0
  have c1 := h.blk.cell 1
  simp only [List.getElem?_toArray, List.getElem?_cons_zero, List.getElem?_cons_succ] at c0 c1
  have HM := Hid.in h.map
  have HH := Hid.in h
  have HHK := Hid.in h.hk
  have HHB := Hid.in h.hbm
  have hb : inB s ns = false := by
    cases hi : inB s ns with
    | false => rfl
    | true => exact absurd ((inB_iff s ns).1 hi) hin
  have hkb : k ≠ bm := fun e => by
    obtain ⟨D, ⟨es, clock, e1, _⟩, _⟩ := h.map
    have e2 : w.heap[k]? = _ := h.blk
    rw [e, e1] at e2
    cases e2
  have HKB := Hid.in hkb
  clear h hkb
  go_enter Tryz.func40, Tryz.ntmps40
  go_wp2_with (first
    | (refine nam_look _ rfl _ _ rfl bm ns rfl HM.out s rfl (by unfold maxLen; omega) ?_; intro cc hcc; rw [hb]; clear hcc)
    | (refine nam_put _ rfl _ _ _ rfl bm ns rfl HM.out s rfl rfl (by unfold maxLen; omega) hin hl ?_; intro w1 hm1 hg1; have HM1 := Hid.in hm1; have HG1 := Hid.in hg1; clear hm1 hg1))
  have hgb : (Value.slice p0 ns.length d0).ownBlock ≠ some bm := by
    rcases HH.out.own.block with e | ⟨g', cur, hg, _, hc⟩
    · rw [e]; simp [Value.ownBlock]
    · rw [hg]
      intro e
      injection e with e
      subst e
      obtain ⟨D, ⟨es, clock, e1, _⟩, _⟩ := HM.out
      rw [e1] at hc
      cases hc
  have hgk := HH.out.blk.not_own HH.out.own (by decide)
  have ho1 : GOwnV 9 w1 B (.slice p0 ns.length d0) (ns.map Value.string) := by
    rcases HH.out.own.shape with ⟨e1, e2⟩ | ⟨g, cap, e1, ho⟩
    · rw [e1, e2]; exact GOwnV.nil _ _ _
    · rw [e1] at hgb ⊢
      exact (ho.grown HG1.out (fun e => hgb (by rw [e]; rfl))).val
  have hk1 : Blk w1 k 79 #[.slice p0 ns.length d0, .map (some bm)] := HH.out.blk.kept HG1.out (fun e => HKB.out (by injection e))
  have HK1 : Hid (Keeps (fun b => b = k ∨ b = bm ∨ (Value.slice p0 ns.length d0).ownBlock = some b) w w1) := (Keeps.refl _ _).grown HG1.out (fun j e => by injection e with e; subst e; exact .inl (.inr (.inl rfl)))
  have hsz1 := HG1.out.size
  have c0' := hk1.cell 0
  simp only [List.getElem?_toArray, List.getElem?_cons_zero] at c0'
  have f0' := hk1.free 0
  have HO1 := Hid.in ho1
  have HBK := Hid.in hk1
  have HGK := Hid.in hgk
  have HGB := Hid.in hgb
  clear c0 c1 HH HM ho1 hk1 hgk hgb
  have hcl := fun W => clone_any s W hs
  go_region_law (first
    | (go_simp; go_at_call 69; refine (hcl _).mono ?_; rintro e w2 ⟨rfl, hb2⟩; have HB2 := Hid.in (below_step (below_draws (below_self w1) 1) hb2); have c02 := ((HBK.out.grow HB2.out).cell 0); have f02 := ((HBK.out.grow HB2.out).free 0); have c02a := (((HBK.out.grow HB2.out).grow (new_alloc _ (.cells #[.string s] 9))).cell 0); have f02a := (((HBK.out.grow HB2.out).grow (new_alloc _ (.cells #[.string s] 9))).free 0); simp only [List.getElem?_toArray, List.getElem?_cons_zero] at c02 c02a; clear hb2)
    | (refine step_gpush Tryz.elemS _ (by rfl) _ _ (by rfl) B (.slice p0 ns.length d0) (ns.map Value.string) (by rfl) ((HO1.out.below HB2.out).alloc _) ⟨w2.heap.size, 0, none⟩ 1 1 [.string s] (by rfl) rfl (by decide) (cell_one_new _ _ _) (by simp [Value.oneCell']) (by rw [List.length_map]; omega) (by rw [List.length_map]; omega) (by simp; have := HB2.out.size; omega) ?_; intro g3 cap3 w3 hT3 hg3 hb3; have HT3 := Hid.in hT3; have HG3 := Hid.in hg3; have hk3 := ((HBK.out.grow HB2.out).grow (new_alloc _ (.cells #[.string s] 9))).kept hg3 (fun e => HGK.out e.symm); have c03 := hk3.cell 0; have f03 := hk3.free 0; simp only [List.getElem?_toArray, List.getElem?_cons_zero] at c03; have HK3 := Hid.in hk3; clear hT3 hg3 hb3 hk3))
  all_goals
    have hnk := HK3.out.not_own HT3.out (by decide)
    have HOW : Hid (GOwnV 9 (w3.setCell ⟨k, 0, none⟩ (.slice (some ⟨g3, 0, none⟩) (ns.length + 1) cap3)) B (.slice (some ⟨g3, 0, none⟩) (ns.length + 1) cap3) ((ns ++ [s]).map Value.string)) := by
      have ho3 := HT3.out
      rw [List.length_map] at ho3
      rcases ho3.shape with ⟨e1, _⟩ | ⟨g, cap, e1, ho⟩
      · cases e1
      · injection e1 with e1 e2 e3
        injection e1 with e1
        injection e1 with e1
        subst e1 e3
        have hgk : g3 ≠ k := fun e => hnk (by rw [e]; rfl)
        have hh := (ho.grown (grown_setCell w3 k 0 (.slice (some ⟨g3, 0, none⟩) (ns.length + 1) cap3)) hgk).val
        have e4 : (ns.map Value.string ++ [Value.string s]).length = ns.length + 1 := by simp
        rw [e4] at hh
        rw [List.map_append]
        exact hh
    have HMP : Hid (NamAt (w3.setCell ⟨k, 0, none⟩ (.slice (some ⟨g3, 0, none⟩) (ns.length + 1) cap3)) bm (ns ++ [s])) := (((HM1.out.below HB2.out).below (new_alloc _ _)).kept HG3.out (fun e => HGB.out e.symm)).kept (grown_setCell w3 k 0 _) (fun e => HKB.out (by injection e with e; exact e.symm))
    have HBL : Hid (Blk (w3.setCell ⟨k, 0, none⟩ (.slice (some ⟨g3, 0, none⟩) (ns.length + 1) cap3)) k 79 #[.slice (some ⟨g3, 0, none⟩) (ns.length + 1) cap3, .map (some bm)]) := HK3.out.set 0 _
    have HKE : Hid (Keeps (fun b => b = k ∨ b = bm ∨ (Value.slice p0 ns.length d0).ownBlock = some b) w (w3.setCell ⟨k, 0, none⟩ (.slice (some ⟨g3, 0, none⟩) (ns.length + 1) cap3))) := ((((HK1.out.trans (Keeps.ofBelow HB2.out)).alloc _).grown HG3.out (fun j e => .inl (.inr (.inr e)))).setCell k 0 _ (.inl (.inl rfl)))
    clear hnk HK3 HT3 HG3 HM1 HK1 HB2 c0' f0' c02 f02 c02a f02a c03 f03
    generalize w3.setCell ⟨k, 0, none⟩ (.slice (some ⟨g3, 0, none⟩) (ns.length + 1) cap3) = w4 at *
    go_wp2
    go_ret
    exact ⟨rfl, ⟨_, HBL.out, HMP.out, HOW.out, HHK.out, HHB.out⟩, HKE.out⟩

theorem idx_new {ns : List ByteArray} {s : ByteArray} (h : s ∉ ns) : idxK (ns ++ [s]) s = ns.length := by
  unfold idxK
  rw [List.findIdx_append]
  have h1 : ns.findIdx (fun k => decide (k = s)) = ns.length := by
    rw [List.findIdx_eq_length]
    intro x hx
    simp only [decide_eq_false_iff_not]
    exact fun e => h (e ▸ hx)
  rw [h1, if_neg (Nat.lt_irrefl _)]
  simp

/-- number: the name's number, and the names with it -/
theorem number_any (B k bm : Nat) (v : Value) (ns : List ByteArray) (s : ByteArray) (w : World) (h : NumAt w B k bm v ns) (hs : s.size ≤ 281474976710656) (hl : ns.length ≤ 1048576) (hB : B ≤ w.heap.size) :
    Calls Tryz.prog 40 #[.pointer (some ⟨k, 0, none⟩), .string s] w fun e w' => e = .returned (.int .i64 (idxK (addK ns s) s : Nat)) ∧ (∃ v', NumAt w' B k bm v' (addK ns s)) ∧ Keeps (fun b => b = k ∨ b = bm ∨ v.ownBlock = some b) w w' := by
  by_cases hin : s ∈ ns
  · have e : addK ns s = ns := if_pos ((inB_iff s ns).2 hin)
    rw [e]
    exact (number_in B k bm v ns s w h (by unfold maxLen; omega) hin).mono fun e w' ⟨he, hw⟩ => ⟨he, ⟨v, by rw [hw]; exact h⟩, by rw [hw]; exact Keeps.refl _ _⟩
  · have e : addK ns s = ns ++ [s] := if_neg (fun hi => hin ((inB_iff s ns).1 hi))
    rw [e, idx_new hin]
    exact number_new B k bm v ns s w h hs hin hl hB

theorem NumAt.from {w w' : World} {B k bm : Nat} {v : Value} {ns : List ByteArray} (h : NumAt w B k bm v ns) (hB : B ≤ w.heap.size) (hk : Keeps (fun b => b = k ∨ b = bm ∨ v.ownBlock = some b) w w') : Below B w w' :=
  hk.below hB (fun j hj => by
    rcases hj with rfl | rfl | hj
    · exact h.hk
    · exact h.hbm
    · rcases h.own.block with e | ⟨g, cur, hg, hBg, _⟩
      · rw [e] at hj; simp [Value.ownBlock] at hj
      · rw [hg] at hj; injection hj with hj; omega)

end Go.Proofs.YtckpgpgmaccepaaGreat

/- sites.Of: a key's range by halving. -/
namespace Go.Proofs.YtckpgpgmaccepaaGreat
open Go.RowKit

def siV (s : Si) : V3 := (.int .i64 s.key, .int .i64 s.at_, .int .i64 s.to_)

theorem Row3.at3 {w : World} {p : Option Addr} {T : List Si} (h : Row3 w p (T.map siV)) (h0 : 0 < T.length) : ∃ b o, p = some ⟨b, o, none⟩ ∧ ∀ i (hi : i < T.length), w.cell? ⟨b, o + i * 3, none⟩ = some (.int .i64 T[i].key) ∧ w.cell? ⟨b, o + i * 3 + 1, none⟩ = some (.int .i64 T[i].at_) ∧ w.cell? ⟨b, o + i * 3 + 2, none⟩ = some (.int .i64 T[i].to_) := by
  obtain ⟨b, o, e, hc⟩ := h (by simpa using h0)
  refine ⟨b, o, e, fun i hi => ?_⟩
  have h0 := hc i (by simpa using hi) 0 (by decide)
  have h1 := hc i (by simpa using hi) 1 (by decide)
  have h2 := hc i (by simpa using hi) 2 (by decide)
  rw [List.getElem_map] at h0 h1 h2
  exact ⟨h0, h1, h2⟩

set_option maxHeartbeats 1000000 in
theorem clos43 (b o n c gt gk i : Nat) (k x : Int) (w : World) (hi : i < n) (ht : w.cell? ⟨gt, 0, none⟩ = some (.slice (some ⟨b, o, none⟩) n c)) (hk : w.cell? ⟨gk, 0, none⟩ = some (.int .i64 k)) (hx : w.cell? ⟨b, o + i * 3, none⟩ = some (.int .i64 x)) :
    Calls Tryz.prog 43 #[.int .i64 i, .pointer (some ⟨gt, 0, none⟩), .pointer (some ⟨gk, 0, none⟩)] w fun e w' => e = .returned (.bool (decide (k ≤ x))) ∧ ∃ m, w' = w.drewN m := by
  go_enter Tryz.func43, Tryz.ntmps43
  go_wp2
  go_quiet (fail)
  go_wp2
  go_ret
  exact ⟨rfl, _, rfl⟩

set_option maxHeartbeats 1000000 in
theorem clos44 (b o n c gt gk i : Nat) (k x : Int) (w : World) (hi : i < n) (ht : w.cell? ⟨gt, 0, none⟩ = some (.slice (some ⟨b, o, none⟩) n c)) (hk : w.cell? ⟨gk, 0, none⟩ = some (.int .i64 k)) (hx : w.cell? ⟨b, o + i * 3, none⟩ = some (.int .i64 x)) :
    Calls Tryz.prog 44 #[.int .i64 i, .pointer (some ⟨gt, 0, none⟩), .pointer (some ⟨gk, 0, none⟩)] w fun e w' => e = .returned (.bool (decide (k < x))) ∧ ∃ m, w' = w.drewN m := by
  go_enter Tryz.func44, Tryz.ntmps44
  go_wp2
  go_quiet (fail)
  go_wp2
  go_ret
  exact ⟨rfl, _, rfl⟩

set_option maxRecDepth 4000 in
set_option maxHeartbeats 2000000 in
theorem search43 (q : Option Addr) (c gt gk : Nat) (k : Int) (T : List Si) (w : World) (hn : T.length ≤ 140737488355328) (hr : Row3 w q (T.map siV)) (ht : w.cell? ⟨gt, 0, none⟩ = some (.slice q T.length c)) (hk : w.cell? ⟨gk, 0, none⟩ = some (.int .i64 k)) :
    Calls Tryz.prog 42 #[.int .i64 T.length, .func (Fn.func 43) #[] #[.pointer (some ⟨gt, 0, none⟩), .pointer (some ⟨gk, 0, none⟩)]] w fun e w' => e = .returned (.int .i64 (cutK T (k) : Nat)) ∧ ∃ m, w' = w.drewN m := by
  have HP : Hid (∀ i (hi : i < T.length), gK T (k) i = decide (k ≤ T[i].key)) := fun i hi => gK_at hi
  have HCL : Hid (∀ (i : Nat) (hi : i < T.length) (m : Nat), Calls Tryz.prog 43 #[.int .i64 i, .pointer (some ⟨gt, 0, none⟩), .pointer (some ⟨gk, 0, none⟩)] (w.drewN m) fun e w' => e = .returned (.bool (gK T (k) i)) ∧ ∃ m', w' = w.drewN m') := by
    intro i hi m
    obtain ⟨b, o, rfl, hc⟩ := hr.at3 (by omega)
    rw [HP.out i hi]
    exact (clos43 b o T.length c gt gk i k T[i].key (w.drewN m) hi ht hk (hc i hi).1).mono fun e w' ⟨h1, m', h2⟩ => ⟨h1, m + m', by rw [h2]; exact World.drewN_drewN ..⟩
  obtain ⟨r, hrr⟩ : ∃ r, cutK T (k) = r := ⟨_, rfl⟩
  rw [hrr]
  have HRR := Hid.in hrr
  clear hrr hr ht hk
  obtain ⟨n, hnn⟩ : ∃ n, T.length = n := ⟨_, rfl⟩
  have HN := Hid.in hnn
  rw [hnn] at hn ⊢
  clear hnn
  go_enter Tryz.func42, Tryz.ntmps42
  go_wp2_with fail
  go_loopw [5, 6] (fun vi vj wr => ∃ a b m : Nat, vi = .int .i64 a ∧ vj = .int .i64 b ∧ a ≤ b ∧ b ≤ n ∧ bs (gK T (k)) a b = r ∧ wr = w.drewN m) (fun vi vj _ => (intOf vj).toNat - (intOf vi).toNat)
  case atStart => exact ⟨0, n, 0, rfl, rfl, Nat.zero_le _, Nat.le_refl _, by rw [← HRR.out, ← HN.out]; rfl, rfl⟩
  case round =>
    obtain ⟨a, b, m, rfl, rfl, hab, hbn, hbs, rfl⟩ := hrel
    have HBS := Hid.in hbs
    clear hbs
    by_cases hlt : a < b
    · have hcl : Calls Tryz.prog 43 #[.int .i64 (((a : Int) + b) / 2), .pointer (some ⟨gt, 0, none⟩), .pointer (some ⟨gk, 0, none⟩)] (w.drewN m) fun e w' => e = .returned (.bool (gK T (k) ((a + b) / 2))) ∧ ∃ m', w' = w.drewN m' := by
        have h := HCL.out ((a + b) / 2) (by rw [HN.out]; omega) m
        have e : (((a + b) / 2 : Nat) : Int) = ((a : Int) + b) / 2 := by omega
        rw [e] at h
        exact h
      have hst := HBS.out
      rw [bs, dif_pos hlt] at hst
      clear HBS
      cases hg : gK T (k) ((a + b) / 2) with
      | true =>
        rw [hg] at hcl
        rw [hg, if_pos rfl] at hst
        have HST := Hid.in hst
        clear hst hg
        go_wp2_with (go_at_call 43; refine hcl.mono ?_; rintro e w1 ⟨rfl, m', rfl⟩)
        go_roundw
        case rel => exact ⟨a, (a + b) / 2, m', rfl, by simp, by omega, by omega, HST.out, rfl⟩
        case measure => simp [intOf]; omega
      | false =>
        rw [hg] at hcl
        rw [hg, if_neg (by decide)] at hst
        have HST := Hid.in hst
        clear hst hg
        go_wp2_with (go_at_call 43; refine hcl.mono ?_; rintro e w1 ⟨rfl, m', rfl⟩)
        go_roundw
        case rel => exact ⟨(a + b) / 2 + 1, b, m', by simp, rfl, by omega, by omega, HST.out, rfl⟩
        case measure => simp [intOf]; omega
    · have hE : a = b := by omega
      subst hE
      go_wp2_with fail
      go_ret
      exact ⟨by rw [← HBS.out, bs]; simp, m, rfl⟩

set_option maxRecDepth 4000 in
set_option maxHeartbeats 2000000 in
theorem search44 (q : Option Addr) (c gt gk : Nat) (k : Int) (T : List Si) (w : World) (hn : T.length ≤ 140737488355328) (hr : Row3 w q (T.map siV)) (ht : w.cell? ⟨gt, 0, none⟩ = some (.slice q T.length c)) (hk : w.cell? ⟨gk, 0, none⟩ = some (.int .i64 k)) :
    Calls Tryz.prog 42 #[.int .i64 T.length, .func (Fn.func 44) #[] #[.pointer (some ⟨gt, 0, none⟩), .pointer (some ⟨gk, 0, none⟩)]] w fun e w' => e = .returned (.int .i64 (cutK T (k + 1) : Nat)) ∧ ∃ m, w' = w.drewN m := by
  have HP : Hid (∀ i (hi : i < T.length), gK T (k + 1) i = decide (k < T[i].key)) := fun i hi => (gK_at hi).trans (decide_eq_decide.2 (by omega))
  have HCL : Hid (∀ (i : Nat) (hi : i < T.length) (m : Nat), Calls Tryz.prog 44 #[.int .i64 i, .pointer (some ⟨gt, 0, none⟩), .pointer (some ⟨gk, 0, none⟩)] (w.drewN m) fun e w' => e = .returned (.bool (gK T (k + 1) i)) ∧ ∃ m', w' = w.drewN m') := by
    intro i hi m
    obtain ⟨b, o, rfl, hc⟩ := hr.at3 (by omega)
    rw [HP.out i hi]
    exact (clos44 b o T.length c gt gk i k T[i].key (w.drewN m) hi ht hk (hc i hi).1).mono fun e w' ⟨h1, m', h2⟩ => ⟨h1, m + m', by rw [h2]; exact World.drewN_drewN ..⟩
  obtain ⟨r, hrr⟩ : ∃ r, cutK T (k + 1) = r := ⟨_, rfl⟩
  rw [hrr]
  have HRR := Hid.in hrr
  clear hrr hr ht hk
  obtain ⟨n, hnn⟩ : ∃ n, T.length = n := ⟨_, rfl⟩
  have HN := Hid.in hnn
  rw [hnn] at hn ⊢
  clear hnn
  go_enter Tryz.func42, Tryz.ntmps42
  go_wp2_with fail
  go_loopw [5, 6] (fun vi vj wr => ∃ a b m : Nat, vi = .int .i64 a ∧ vj = .int .i64 b ∧ a ≤ b ∧ b ≤ n ∧ bs (gK T (k + 1)) a b = r ∧ wr = w.drewN m) (fun vi vj _ => (intOf vj).toNat - (intOf vi).toNat)
  case atStart => exact ⟨0, n, 0, rfl, rfl, Nat.zero_le _, Nat.le_refl _, by rw [← HRR.out, ← HN.out]; rfl, rfl⟩
  case round =>
    obtain ⟨a, b, m, rfl, rfl, hab, hbn, hbs, rfl⟩ := hrel
    have HBS := Hid.in hbs
    clear hbs
    by_cases hlt : a < b
    · have hcl : Calls Tryz.prog 44 #[.int .i64 (((a : Int) + b) / 2), .pointer (some ⟨gt, 0, none⟩), .pointer (some ⟨gk, 0, none⟩)] (w.drewN m) fun e w' => e = .returned (.bool (gK T (k + 1) ((a + b) / 2))) ∧ ∃ m', w' = w.drewN m' := by
        have h := HCL.out ((a + b) / 2) (by rw [HN.out]; omega) m
        have e : (((a + b) / 2 : Nat) : Int) = ((a : Int) + b) / 2 := by omega
        rw [e] at h
        exact h
      have hst := HBS.out
      rw [bs, dif_pos hlt] at hst
      clear HBS
      cases hg : gK T (k + 1) ((a + b) / 2) with
      | true =>
        rw [hg] at hcl
        rw [hg, if_pos rfl] at hst
        have HST := Hid.in hst
        clear hst hg
        go_wp2_with (go_at_call 44; refine hcl.mono ?_; rintro e w1 ⟨rfl, m', rfl⟩)
        go_roundw
        case rel => exact ⟨a, (a + b) / 2, m', rfl, by simp, by omega, by omega, HST.out, rfl⟩
        case measure => simp [intOf]; omega
      | false =>
        rw [hg] at hcl
        rw [hg, if_neg (by decide)] at hst
        have HST := Hid.in hst
        clear hst hg
        go_wp2_with (go_at_call 44; refine hcl.mono ?_; rintro e w1 ⟨rfl, m', rfl⟩)
        go_roundw
        case rel => exact ⟨(a + b) / 2 + 1, b, m', by simp, rfl, by omega, by omega, HST.out, rfl⟩
        case measure => simp [intOf]; omega
    · have hE : a = b := by omega
      subst hE
      go_wp2_with fail
      go_ret
      exact ⟨by rw [← HBS.out, bs]; simp, m, rfl⟩

end Go.Proofs.YtckpgpgmaccepaaGreat

/- sites.Of and At, and the reference's Of, At and Sorted. -/
namespace Go.Proofs.YtckpgpgmaccepaaGreat
open Go.RowKit

set_option maxHeartbeats 1000000 in
theorem of_any (p : Option Addr) (n c : Nat) (k : Int) (T : List Si) (w : World) (hl : T.length = n) (hn : n ≤ 140737488355328) (hr : Row3 w p (T.map siV)) :
    Calls Tryz.prog 16 #[.slice p n c, .int .i64 k] w fun e w' => e = .returned (.tuple #[.int .i64 (cutK T k : Nat), .int .i64 (cutK T (k + 1) : Nat)]) ∧ Below w.heap.size w w' := by
  subst hl
  have hb1 := new_alloc w (.cells #[.slice p T.length c] 24)
  have hb2 := below_alloc hb1 (.cells #[.int .i64 k] 3)
  have HB := Hid.in hb2
  have HT : Hid (((w.alloc (.cells #[.slice p T.length c] 24)).alloc (.cells #[.int .i64 k] 3)).cell? ⟨w.heap.size, 0, none⟩ = some (.slice p T.length c)) := by
    have := ((Blk.new w 24 #[.slice p T.length c]).grow (new_alloc _ (.cells #[.int .i64 k] 3))).cell 0
    exact this
  have HK : Hid (((w.alloc (.cells #[.slice p T.length c] 24)).alloc (.cells #[.int .i64 k] 3)).cell? ⟨w.heap.size + 1, 0, none⟩ = some (.int .i64 k)) := by
    have := (Blk.new (w.alloc (.cells #[.slice p T.length c] 24)) 3 #[.int .i64 k]).cell 0
    rw [size_one] at this
    exact this
  have HR := Hid.in (hr.below hb2)
  clear hb1 hb2 hr
  go_enter Tryz.func16, Tryz.ntmps16
  go_wp2_with (first
    | (go_at_call 42; first
      | ((with_reducible refine (search43 p c w.heap.size (w.heap.size + 1) k T _ hn HR.out HT.out HK.out).mono ?_); rintro e w1 ⟨rfl, m1, hw1⟩; have ht1 : w1.cell? ⟨w.heap.size, 0, none⟩ = some (.slice p T.length c) := (by rw [hw1]; exact HT.out); have hk1 : w1.cell? ⟨w.heap.size + 1, 0, none⟩ = some (.int .i64 k) := (by rw [hw1]; exact HK.out); have HR1 : Hid (Row3 w1 p (T.map siV)) := (by rw [hw1]; exact HR.out); have HB1 : Hid (Below w.heap.size w w1) := (by rw [hw1]; exact below_draws HB.out _); clear hw1)
      | ((with_reducible refine (search44 p c w.heap.size (w.heap.size + 1) k T w1 hn HR1.out ht1 hk1).mono ?_); rintro e w2 ⟨rfl, m2, hw2⟩; have HB2 : Hid (Below w.heap.size w w2) := (by rw [hw2]; exact below_draws HB1.out _); clear hw2)))
  go_ret2
  exact ⟨rfl, HB2.out⟩

set_option maxHeartbeats 1000000 in
theorem clos46 (x : Si) (a : Int) (g : Nat) (w : World) (hc : w.cell? ⟨g, 0, none⟩ = some (.int .i64 a)) : Calls Tryz.prog 46 #[.agg #[.int .i64 x.key, .int .i64 x.at_, .int .i64 x.to_], .pointer (some ⟨g, 0, none⟩)] w fun E w' => E = .returned (.bool (decide (x.at_ = a))) ∧ Below w.heap.size w w' := by
  have hc' : ∀ ob, (w.alloc ob).cell? ⟨g, 0, none⟩ = some (.int .i64 a) := fun ob => ((new_alloc w ob).cell (cell_lt hc)).trans hc
  obtain ⟨sk, sa, st⟩ := x
  show Calls Tryz.prog 46 #[.agg #[.int .i64 sk, .int .i64 sa, .int .i64 st], .pointer (some ⟨g, 0, none⟩)] w fun E w' => E = .returned (.bool (decide (sa = a))) ∧ Below w.heap.size w w'
  go_enter Tryz.func46, Tryz.ntmps46
  go_wp2_with fail
  go_ret
  exact ⟨ret_bool rfl, new_alloc _ _⟩

/-- the number of the first site at a place, or how many there are -/
def fstA (T : List Si) (a : Int) : Nat := T.findIdx fun s => decide (s.at_ = a)
theorem fstA_at {T : List Si} {a : Int} {k : Nat} (hk : k < T.length) (h : T[k].at_ = a) (hn : ∀ j (hj : j < T.length), j < k → T[j].at_ ≠ a) : atS T a = some k := by
  unfold atS
  rw [List.findIdx?_eq_some_iff_getElem]
  exact ⟨hk, by simpa using h, fun j hj => by simpa using hn j (by omega) hj⟩
theorem atS_none {T : List Si} {a : Int} (hn : ∀ j (hj : j < T.length), T[j].at_ ≠ a) : atS T a = none := by
  unfold atS
  rw [List.findIdx?_eq_none_iff]
  intro x hx
  obtain ⟨j, hj, rfl⟩ := List.getElem_of_mem hx
  simpa using hn j hj

def atI (r : Option Nat) : Int := match r with
  | none => -1
  | some k => k

set_option maxRecDepth 20000 in
set_option maxHeartbeats 2000000 in
theorem index46_any (p : Option Addr) (n c : Nat) (T : List Si) (a : Int) (g : Nat) (w : World) (hn : T.length = n) (hn6 : n ≤ 9223372036854775807) (hr : Row3 w p (T.map siV)) (hc : w.cell? ⟨g, 0, none⟩ = some (.int .i64 a)) :
    Calls Tryz.prog 45 #[.slice p n c, .func (Fn.func 46) #[] #[.pointer (some ⟨g, 0, none⟩)]] w fun E w' => E = .returned (.int .i64 (atI (atS T a))) ∧ Below w.heap.size w w' := by
  have hC := fun x W (h : W.cell? ⟨g, 0, none⟩ = some (.int .i64 a)) => clos46 x a g W h
  have HN := Hid.in hn
  have HR := Hid.in hr
  have HC := Hid.in hc
  clear hn hr hc
  obtain ⟨r, hrr⟩ : ∃ r, atI (atS T a) = r := ⟨_, rfl⟩
  rw [hrr]
  have HRR := Hid.in hrr
  clear hrr
  go_enter Tryz.func45, Tryz.ntmps45
  go_wp2_with fail
  go_loopw [8] (fun vi wr => ∃ k : Nat, vi = .int .i64 k ∧ k ≤ n ∧ (∀ j (hj : j < T.length), j < k → T[j].at_ ≠ a) ∧ Below w.heap.size w wr) (fun vi _ => n - (intOf vi).toNat)
  case atStart => exact ⟨0, rfl, Nat.zero_le _, fun j _ h => absurd h (Nat.not_lt_zero _), below_self w⟩
  case round =>
    obtain ⟨k, rfl, hk, hgo, hb⟩ := hrel
    have HGO := Hid.in hgo
    have HB := Hid.in hb
    clear hgo hb
    by_cases hlt : k < n
    · have hkT : k < T.length := by rw [HN.out]; exact hlt
      obtain ⟨b, o, rfl, hcc⟩ := (HR.out.below HB.out).at3 (by omega)
      have c0 := (hcc k hkT).1
      have c1 := (hcc k hkT).2.1
      have c2 := (hcc k hkT).2.2
      have hcl := hC T[k] wr ((HB.out.cell (cell_lt HC.out)).trans HC.out)
      clear hcc hC
      by_cases he : T[k].at_ = a
      · have HE : Hid (r = k) := by rw [← HRR.out, fstA_at hkT he HGO.out]; exact rfl
        rw [he] at c1
        rw [decide_eq_true he] at hcl
        rw [he] at hcl
        generalize T[k].key = x0 at *
        generalize T[k].to_ = x2 at *
        go_wp2_with (go_at_call 46; refine hcl.mono ?_; rintro e w1 ⟨rfl, hb1⟩; have HB1 := Hid.in (below_step HB.out hb1); clear hb1)
        go_ret
        exact ⟨by rw [HE.out]; rfl, HB1.out⟩
      · have HG2 : Hid (∀ j (hj : j < T.length), j < k + 1 → T[j].at_ ≠ a) := fun j hj hjk => by
          by_cases e : j = k
          · subst e; exact he
          · exact HGO.out j hj (by omega)
        rw [decide_eq_false he] at hcl
        generalize T[k].key = x0 at *
        generalize T[k].to_ = x2 at *
        generalize T[k].at_ = x1 at *
        go_wp2_with (go_at_call 46; refine hcl.mono ?_; rintro e w1 ⟨rfl, hb1⟩; have HB1 := Hid.in (below_step HB.out hb1); clear hb1)
        go_roundw
        case rel => exact ⟨k + 1, by go_num, by omega, HG2.out, HB1.out⟩
        case measure => simp [intOf]; omega
    · have HE : Hid (r = -1) := by rw [← HRR.out, atS_none (fun j hj => HGO.out j hj (by rw [HN.out] at hj; omega))]; exact rfl
      go_wp2_with fail
      go_ret
      exact ⟨by rw [HE.out]; rfl, HB.out⟩

def atR (r : Option Nat) : Value := match r with
  | none => .tuple #[.int .i64 0, .bool false]
  | some k => .tuple #[.int .i64 k, .bool true]

set_option maxHeartbeats 1000000 in
theorem at_any (p : Option Addr) (n c : Nat) (T : List Si) (a : Int) (w : World) (hn : T.length = n) (hn6 : n ≤ 9223372036854775807) (hr : Row3 w p (T.map siV)) :
    Calls Tryz.prog 18 #[.slice p n c, .int .i64 a] w fun E w' => E = .returned (atR (atS T a)) ∧ Below w.heap.size w w' := by
  have hI := index46_any p n c T a w.heap.size _ hn hn6 (hr.below (new_alloc w (.cells #[.int .i64 a] 3))) ((Blk.new w 3 #[.int .i64 a]).cell 0)
  clear hr
  cases hat : atS T a with
  | none =>
    rw [hat] at hI
    unfold atI at hI
    go_enter Tryz.func18, Tryz.ntmps18
    go_wp2_with (go_at_call 45; refine hI.mono ?_; rintro e w1 ⟨rfl, hb1⟩; have HB1 := Hid.in (below_step (new_alloc w _) hb1); clear hb1)
    go_ret2
    exact ⟨rfl, HB1.out⟩
  | some k =>
    rw [hat] at hI
    unfold atI at hI
    go_enter Tryz.func18, Tryz.ntmps18
    go_wp2_with (go_at_call 45; refine hI.mono ?_; rintro e w1 ⟨rfl, hb1⟩; have HB1 := Hid.in (below_step (new_alloc w _) hb1); clear hb1)
    go_ret2
    exact ⟨rfl, HB1.out⟩

set_option maxRecDepth 4000 in
set_option maxHeartbeats 1000000 in
theorem refAt_any (p : Option Addr) (n c : Nat) (T : List Si) (a : Int) (w : World) (hn : T.length = n) (hn6 : n ≤ 9223372036854775807) (hr : Row3 w p (T.map siV)) :
    Calls Tryz.prog 19 #[.slice p n c, .int .i64 a] w fun E w' => E = .returned (atR (atS T a)) ∧ w' = w := by
  have HN := Hid.in hn
  have HR := Hid.in hr
  clear hn hr
  obtain ⟨r, hrr⟩ : ∃ r, atR (atS T a) = r := ⟨_, rfl⟩
  rw [hrr]
  have HRR := Hid.in hrr
  clear hrr
  go_enter Tryz.func19, Tryz.ntmps19
  go_wp2_with fail
  go_loopw [6] (fun vi wr => ∃ k : Nat, vi = .int .i64 k ∧ k ≤ n ∧ (∀ j (hj : j < T.length), j < k → T[j].at_ ≠ a) ∧ wr = w) (fun vi _ => n - (intOf vi).toNat)
  case atStart => exact ⟨0, rfl, Nat.zero_le _, fun j _ h => absurd h (Nat.not_lt_zero _), rfl⟩
  case round =>
    obtain ⟨k, rfl, hk, hgo, rfl⟩ := hrel
    have HGO := Hid.in hgo
    clear hgo
    by_cases hlt : k < n
    · have hkT : k < T.length := by rw [HN.out]; exact hlt
      obtain ⟨b, o, rfl, hcc⟩ := HR.out.at3 (by omega)
      have c1 := (hcc k hkT).2.1
      clear hcc
      by_cases he : T[k].at_ = a
      · have HE : Hid (r = atR (some k)) := by rw [← HRR.out, fstA_at hkT he HGO.out]; exact rfl
        rw [he] at c1
        go_wp2_with fail
        go_ret2
        exact ⟨by rw [HE.out]; rfl, rfl⟩
      · have HG2 : Hid (∀ j (hj : j < T.length), j < k + 1 → T[j].at_ ≠ a) := fun j hj hjk => by
          by_cases e : j = k
          · subst e; exact he
          · exact HGO.out j hj (by omega)
        generalize T[k].at_ = x1 at *
        go_wp2_with fail
        go_roundw
        case rel => exact ⟨k + 1, by go_num, by omega, HG2.out, trivial⟩
        case measure => simp [intOf]; omega
    · have HE : Hid (r = atR none) := by rw [← HRR.out, atS_none (fun j hj => HGO.out j hj (by rw [HN.out] at hj; omega))]; exact rfl
      go_wp2_with fail
      go_ret2
      exact ⟨by rw [HE.out]; rfl, rfl⟩

end Go.Proofs.YtckpgpgmaccepaaGreat

/- A map from names to places: sites.placesOf, resolver. -/
namespace Go.Proofs.YtckpgpgmaccepaaGreat
open Go.RowKit Go.Maps Go.WideMaps

/-- what a map of places says of a name -/
def PlcD (D : DataW Unit) (f : ByteArray → Option Int) : Prop := ∀ s, has D (key s) = (f s).isSome ∧ ∀ c, f s = some c → D.atKey (key s) (.lit (.int .i64 0)) = .lit (.int .i64 c)
def PlcAt (w : World) (b n : Nat) (f : ByteArray → Option Int) : Prop := ∃ D : DataW Unit, w.ownsMap Tryz.prog 9 (plainElem Tryz.prog 3) b n D ∧ PlcD D f
def putF (f : ByteArray → Option Int) (s : ByteArray) (c : Int) : ByteArray → Option Int := fun t => if t = s then some c else f t
theorem PlcAt.made (w : World) : PlcAt (w.alloc (.map #[] 0)) w.heap.size 0 (fun _ => none) := ⟨_, World.ownsMap_made _ _ _ _, fun s => ⟨by simp [has_eq], fun c h => by cases h⟩⟩
theorem PlcD.add {D : DataW Unit} {f : ByteArray → Option Int} (h : PlcD D f) (hD : IsMap D) (s : ByteArray) (c : Int) : PlcD (D.put (key s) (.lit (.int .i64 c))) (putF f s c) := fun t => by
  unfold putF
  by_cases e : t = s
  · subst e
    rw [has_put_same hD (key_is _), atKey_put_same hD (key_is _), if_pos rfl]
    exact ⟨rfl, fun c' h => by injection h with h; rw [h]⟩
  · have hne : key t ≠ key s := fun e' => e (key_inj e')
    rw [has_put_other hne, atKey_put_other hne, if_neg e]
    exact h t
theorem PlcAt.below {w w' : World} {b n : Nat} {f : ByteArray → Option Int} (h : PlcAt w b n f) (hb : Below w.heap.size w w') : PlcAt w' b n f := by
  obtain ⟨D, h1, h2⟩ := h
  obtain ⟨es, clock, e1, e2⟩ := h1
  exact ⟨D, ⟨es, clock, (hb.block b (Array.getElem?_eq_some_iff.1 e1).1).trans e1, e2⟩, h2⟩
theorem PlcAt.keeps {w w' : World} {b n : Nat} {f : ByteArray → Option Int} {G : Nat → Prop} (h : PlcAt w b n f) (hk : Keeps G w w') (hG : ¬ G b) : PlcAt w' b n f := by
  obtain ⟨D, h1, h2⟩ := h
  obtain ⟨es, clock, e1, e2⟩ := h1
  exact ⟨D, ⟨es, clock, (hk.block b (Array.getElem?_eq_some_iff.1 e1).1 hG).trans e1, e2⟩, h2⟩
theorem PlcAt.lt {w : World} {b n : Nat} {f : ByteArray → Option Int} (h : PlcAt w b n f) : b < w.heap.size := by
  obtain ⟨D, h1, _⟩ := h
  exact h1.lt
/-- 'c, ok := m[s]' -/
theorem plc_look {ops : Array Oper} {rest : List Oper} {o : Oper} {a : Act} {Q : Exit → Act → World → Prop} (w : World) (hg : o.guard = none) (m x : Operand) (hop : o.op = Op.lookup 64 m x true) (b n : Nat) (f : ByteArray → Option Int)
    (hm : a.eval m = .map (some b)) (hown : PlcAt w b n f) (s : ByteArray) (hx : a.eval x = .string s) (hs : s.size ≤ maxLen)
    (h : ∀ c : Int, (∀ d, f s = some d → c = d) → wpList Tryz.prog ops Q rest (a.put o.dst (.tuple #[.int .i64 c, .bool (f s).isSome])) w) :
    wpList Tryz.prog ops Q (o :: rest) a w := by
  obtain ⟨D, h1, h2⟩ := hown
  refine wpList_lookup_own_ok_int w hg m x 64 hop 9 3 .i64 law9 Tryz.underlying64 Tryz.underlying3 (zero3 w) b n D hm h1 (.string s) (key s) hx (keyOf_string_mk Tryz.underlying9 hs) fun c hat _ => ?_
  have := h c fun d hd => by
    have e := (h2 s).2 d hd
    rw [hat] at e
    injection e with e
    injection e
  rw [← (h2 s).1] at this
  exact this
/-- 'm[s] = c' -/
theorem plc_put {ops : Array Oper} {rest : List Oper} {o : Oper} {a : Act} {Q : Exit → Act → World → Prop} (w : World) (hg : o.guard = none) (m x v : Operand) (hop : o.op = Op.mapUpdate 64 m x v) (b n : Nat) (f : ByteArray → Option Int)
    (hm : a.eval m = .map (some b)) (hown : PlcAt w b n f) (s : ByteArray) (c : Int) (hx : a.eval x = .string s) (hv : a.eval v = .int .i64 c) (hs : s.size ≤ maxLen) (hl : n ≤ 1048576) (hc : -9223372036854775808 ≤ c ∧ c ≤ 9223372036854775807)
    (h : ∀ w', PlcAt w' b (n + 1) (putF f s c) → w.grownBy w' (some b) → wpList Tryz.prog ops Q rest (a.put o.dst undef) w') :
    wpList Tryz.prog ops Q (o :: rest) a w := by
  obtain ⟨D, h1, h2⟩ := hown
  refine wpList_mapUpdate_own w hg m x v 64 hop 9 3 law9 Tryz.underlying64 _ b n D hm h1 (by unfold maxLen; omega) _ _ (key s) hx hv (keyOf_string_mk Tryz.underlying9 hs) (.lit (.int .i64 c)) [] (plainElem_int Tryz.underlying3 (WalkArith.wf_i64 (by omega))) fun w' h3 h4 => h w' ⟨_, h3, h2.add h1.isMap s c⟩ h4

set_option maxHeartbeats 1000000 in
theorem clos28 (x : Sy) (w : World) : Calls Tryz.prog 28 #[.agg #[.string x.name, .int .i64 x.at_, .bool x.g]] w fun E w' => E = .returned (.bool x.g) ∧ Below w.heap.size w w' := by
  obtain ⟨sn, sa, sg⟩ := x
  show Calls Tryz.prog 28 #[.agg #[.string sn, .int .i64 sa, .bool sg]] w fun E w' => E = .returned (.bool sg) ∧ Below w.heap.size w w'
  go_enter Tryz.func28, Tryz.ntmps28
  go_wp2_with fail
  go_ret
  exact ⟨rfl, new_alloc _ _⟩
set_option maxHeartbeats 1000000 in
theorem clos29 (x : Sy) (w : World) : Calls Tryz.prog 29 #[.agg #[.string x.name, .int .i64 x.at_, .bool x.g]] w fun E w' => E = .returned (.bool true) ∧ Below w.heap.size w w' := by
  obtain ⟨sn, sa, sg⟩ := x
  show Calls Tryz.prog 29 #[.agg #[.string sn, .int .i64 sa, .bool sg]] w fun E w' => E = .returned (.bool true) ∧ Below w.heap.size w w'
  go_enter Tryz.func29, Tryz.ntmps29
  go_wp2_with fail
  go_ret
  exact ⟨rfl, new_alloc _ _⟩

/-- the places of the labels that are meant -/
def plcF (g : Sy → Bool) (L : List Sy) : ByteArray → Option Int := L.foldl (fun f x => if g x = true then putF f x.name x.at_ else f) (fun _ => none)
theorem plcF_snoc (g : Sy → Bool) (L : List Sy) (x : Sy) : plcF g (L ++ [x]) = if g x = true then putF (plcF g L) x.name x.at_ else plcF g L := by simp [plcF]

set_option maxRecDepth 20000 in
set_option maxHeartbeats 4000000 in
theorem places28_any (q : Option Addr) (n c : Nat) (L : List Sy) (w : World) (hn : L.length = n) (hn4 : n ≤ 1048576) (hr : Row3 w q (L.map syV)) (hf : ∀ s ∈ L, s.name.size ≤ maxLen ∧ -9223372036854775808 ≤ s.at_ ∧ s.at_ ≤ 9223372036854775807) :
    Calls Tryz.prog 27 #[.slice q n c, .func (Fn.func 28) #[] #[]] w fun E w' => ∃ b k, E = .returned (.map (some b)) ∧ w.heap.size ≤ b ∧ k ≤ n ∧ PlcAt w' b k (plcF (Sy.g) L) ∧ Below w.heap.size w w' := by
  have hC := fun x W => clos28 x W
  have HN := Hid.in hn
  have HR := Hid.in hr
  have HF := Hid.in hf
  clear hn hr hf
  have hmm := @run_makeMap Tryz.prog
  go_enter Tryz.func27, Tryz.ntmps27
  go_wp2_with fail
  clear hmm
  have HM0 := Hid.in (PlcAt.made w)
  have HB0 := Hid.in (new_alloc w (.map #[] 0))
  generalize w.alloc (.map #[] 0) = w0 at *
  go_loopw [11] (fun vi wr => ∃ i k : Nat, vi = .int .i64 i ∧ i ≤ n ∧ k ≤ i ∧ PlcAt wr w.heap.size k (plcF (Sy.g) (L.take i)) ∧ Below w.heap.size w wr) (fun vi _ => n - (intOf vi).toNat)
  case atStart => exact ⟨0, 0, rfl, Nat.zero_le _, Nat.le_refl _, HM0.out, HB0.out⟩
  case round =>
    obtain ⟨i, k, rfl, hi, hki, hK, hb⟩ := hrel
    have HKr := Hid.in hK
    have HB := Hid.in hb
    clear hK hb HM0 HB0
    by_cases hlt : i < n
    · have hiL : i < L.length := by rw [HN.out]; exact hlt
      obtain ⟨bq, oq, rfl, hc⟩ := (HR.out.below HB.out) (by rw [List.length_map]; omega)
      obtain ⟨c0, c1, c2⟩ := cells3 hc i (by rw [List.length_map]; exact hiL)
      simp only [List.getElem_map, syV] at c0 c1 c2
      obtain ⟨hsf, hsa⟩ := HF.out L[i] (List.getElem_mem hiL)
      have HT : Hid (plcF (Sy.g) (L.take (i + 1)) = if (Sy.g) L[i] = true then putF (plcF (Sy.g) (L.take i)) L[i].name L[i].at_ else plcF (Sy.g) (L.take i)) := by
        have h : plcF (Sy.g) (L.take (i + 1)) = if (Sy.g) L[i] = true then putF (plcF (Sy.g) (L.take i)) L[i].name L[i].at_ else plcF (Sy.g) (L.take i) := by
          rw [List.take_succ_eq_append_getElem hiL, plcF_snoc]
        exact h
      have hcl := hC L[i]
      clear hc hC
      generalize L[i] = x at *
      obtain ⟨sn, sa, sg⟩ := x
      simp only at c0 c1 c2 hsf hsa
      have HW1 := Hid.in (new_alloc wr (.cells #[.string sn, .int .i64 sa, .bool sg] 67))
      have HK1 := Hid.in (HKr.out.below HW1.out)
      have HS1 := Hid.in (Blk.new wr 67 #[.string sn, .int .i64 sa, .bool sg])
      have HB1 := Hid.in (below_alloc HB.out (.cells #[.string sn, .int .i64 sa, .bool sg] 67))
      have hsz := HB.out.size
      go_upto_region 5 with fail
      generalize wr.alloc (.cells #[.string sn, .int .i64 sa, .bool sg] 67) = w1 at *
      have hlw := HS1.out.lt
      generalize wr.heap.size = gs1 at *
      clear c0 c1 c2 HKr HB HW1
      have s0 : w1.cell? ⟨gs1, 0, none⟩ = some (.string sn) := HS1.out.cell 0
      have s1 : w1.cell? ⟨gs1, 1, none⟩ = some (.int .i64 sa) := HS1.out.cell 1
      have s2 : w1.cell? ⟨gs1, 2, none⟩ = some (.bool sg) := HS1.out.cell 2
      have hcl1 := hcl w1
      simp only at hcl1
      clear hcl
      cases sg with
      | true =>
        go_wp2_with (first
          | (go_at_call 28; refine hcl1.mono ?_; rintro e w2 ⟨rfl, hb2⟩; have HK2 := Hid.in (HK1.out.below hb2); have HB2 := Hid.in (below_step HB1.out hb2); have HS2 := HS1.out.grow hb2; have t0 : w2.cell? ⟨gs1, 0, none⟩ = some (.string sn) := HS2.cell 0; have t1 : w2.cell? ⟨gs1, 1, none⟩ = some (.int .i64 sa) := HS2.cell 1; clear hb2 hcl1 HS2)
          | (refine plc_put _ rfl _ _ _ rfl w.heap.size k _ rfl HK2.out sn sa rfl rfl hsf (by omega) hsa ?_; intro w3 hK3 hg3; have HK3 := Hid.in hK3; have HB3 := Hid.in (HB2.out.grown hg3 HB2.out.size (fun j e => by injection e with e; omega)); clear hK3 hg3))
        go_roundw
        case rel => exact ⟨i + 1, k + 1, by go_num, by omega, by omega, by rw [HT.out]; exact HK3.out, HB3.out⟩
        case measure => simp [intOf]; omega
      | false =>
        go_wp2_with (go_at_call 28; refine hcl1.mono ?_; rintro e w2 ⟨rfl, hb2⟩; have HK2 := Hid.in (HK1.out.below hb2); have HB2 := Hid.in (below_step HB1.out hb2); clear hb2 hcl1)
        go_roundw
        case rel => exact ⟨i + 1, k, by go_num, by omega, by omega, by rw [HT.out]; exact HK2.out, HB2.out⟩
        case measure => simp [intOf]; omega
    · have hkn : L.take i = L := List.take_of_length_le (by rw [HN.out]; omega)
      rw [hkn] at HKr
      go_wp2_with fail
      go_ret
      exact ⟨_, k, rfl, Nat.le_refl _, by omega, HKr.out, HB.out⟩

set_option maxRecDepth 20000 in
set_option maxHeartbeats 4000000 in
theorem places29_any (q : Option Addr) (n c : Nat) (L : List Sy) (w : World) (hn : L.length = n) (hn4 : n ≤ 1048576) (hr : Row3 w q (L.map syV)) (hf : ∀ s ∈ L, s.name.size ≤ maxLen ∧ -9223372036854775808 ≤ s.at_ ∧ s.at_ ≤ 9223372036854775807) :
    Calls Tryz.prog 27 #[.slice q n c, .func (Fn.func 29) #[] #[]] w fun E w' => ∃ b k, E = .returned (.map (some b)) ∧ w.heap.size ≤ b ∧ k ≤ n ∧ PlcAt w' b k (plcF (fun _ => true) L) ∧ Below w.heap.size w w' := by
  have hC := fun x W => clos29 x W
  have HN := Hid.in hn
  have HR := Hid.in hr
  have HF := Hid.in hf
  clear hn hr hf
  have hmm := @run_makeMap Tryz.prog
  go_enter Tryz.func27, Tryz.ntmps27
  go_wp2_with fail
  clear hmm
  have HM0 := Hid.in (PlcAt.made w)
  have HB0 := Hid.in (new_alloc w (.map #[] 0))
  generalize w.alloc (.map #[] 0) = w0 at *
  go_loopw [11] (fun vi wr => ∃ i k : Nat, vi = .int .i64 i ∧ i ≤ n ∧ k ≤ i ∧ PlcAt wr w.heap.size k (plcF (fun _ => true) (L.take i)) ∧ Below w.heap.size w wr) (fun vi _ => n - (intOf vi).toNat)
  case atStart => exact ⟨0, 0, rfl, Nat.zero_le _, Nat.le_refl _, HM0.out, HB0.out⟩
  case round =>
    obtain ⟨i, k, rfl, hi, hki, hK, hb⟩ := hrel
    have HKr := Hid.in hK
    have HB := Hid.in hb
    clear hK hb HM0 HB0
    by_cases hlt : i < n
    · have hiL : i < L.length := by rw [HN.out]; exact hlt
      obtain ⟨bq, oq, rfl, hc⟩ := (HR.out.below HB.out) (by rw [List.length_map]; omega)
      obtain ⟨c0, c1, c2⟩ := cells3 hc i (by rw [List.length_map]; exact hiL)
      simp only [List.getElem_map, syV] at c0 c1 c2
      obtain ⟨hsf, hsa⟩ := HF.out L[i] (List.getElem_mem hiL)
      have HT : Hid (plcF (fun _ => true) (L.take (i + 1)) = if (fun _ => true) L[i] = true then putF (plcF (fun _ => true) (L.take i)) L[i].name L[i].at_ else plcF (fun _ => true) (L.take i)) := by
        have h : plcF (fun _ => true) (L.take (i + 1)) = if (fun _ => true) L[i] = true then putF (plcF (fun _ => true) (L.take i)) L[i].name L[i].at_ else plcF (fun _ => true) (L.take i) := by
          rw [List.take_succ_eq_append_getElem hiL, plcF_snoc]
        exact h
      have hcl := hC L[i]
      clear hc hC
      generalize L[i] = x at *
      obtain ⟨sn, sa, sg⟩ := x
      simp only at c0 c1 c2 hsf hsa
      have HW1 := Hid.in (new_alloc wr (.cells #[.string sn, .int .i64 sa, .bool sg] 67))
      have HK1 := Hid.in (HKr.out.below HW1.out)
      have HS1 := Hid.in (Blk.new wr 67 #[.string sn, .int .i64 sa, .bool sg])
      have HB1 := Hid.in (below_alloc HB.out (.cells #[.string sn, .int .i64 sa, .bool sg] 67))
      have hsz := HB.out.size
      go_upto_region 5 with fail
      generalize wr.alloc (.cells #[.string sn, .int .i64 sa, .bool sg] 67) = w1 at *
      have hlw := HS1.out.lt
      generalize wr.heap.size = gs1 at *
      clear c0 c1 c2 HKr HB HW1
      have s0 : w1.cell? ⟨gs1, 0, none⟩ = some (.string sn) := HS1.out.cell 0
      have s1 : w1.cell? ⟨gs1, 1, none⟩ = some (.int .i64 sa) := HS1.out.cell 1
      have s2 : w1.cell? ⟨gs1, 2, none⟩ = some (.bool sg) := HS1.out.cell 2
      have hcl1 := hcl w1
      simp only at hcl1
      clear hcl
      go_wp2_with (first
        | (go_at_call 29; refine hcl1.mono ?_; rintro e w2 ⟨rfl, hb2⟩; have HK2 := Hid.in (HK1.out.below hb2); have HB2 := Hid.in (below_step HB1.out hb2); have HS2 := HS1.out.grow hb2; have t0 : w2.cell? ⟨gs1, 0, none⟩ = some (.string sn) := HS2.cell 0; have t1 : w2.cell? ⟨gs1, 1, none⟩ = some (.int .i64 sa) := HS2.cell 1; clear hb2 hcl1 HS2)
        | (refine plc_put _ rfl _ _ _ rfl w.heap.size k _ rfl HK2.out sn sa rfl rfl hsf (by omega) hsa ?_; intro w3 hK3 hg3; have HK3 := Hid.in hK3; have HB3 := Hid.in (HB2.out.grown hg3 HB2.out.size (fun j e => by injection e with e; omega)); clear hK3 hg3))
      go_roundw
      case rel => exact ⟨i + 1, k + 1, by go_num, by omega, by omega, by rw [HT.out]; exact HK3.out, HB3.out⟩
      case measure => simp [intOf]; omega
    · have hkn : L.take i = L := List.take_of_length_le (by rw [HN.out]; omega)
      rw [hkn] at HKr
      go_wp2_with fail
      go_ret
      exact ⟨_, k, rfl, Nat.le_refl _, by omega, HKr.out, HB.out⟩

/-- a resolver's answer -/
def resF (f g : ByteArray → Option Int) (s : ByteArray) : Option Int := match f s with
  | some a => some a
  | none => g s
set_option maxHeartbeats 1000000 in
theorem resolver_any (bo bg : Nat) (w : World) : Calls Tryz.prog 30 #[.map (some bo), .map (some bg)] w fun E w' => E = .returned (.func (Fn.func 61) #[] #[.pointer (some ⟨w.heap.size, 0, none⟩), .pointer (some ⟨w.heap.size + 1, 0, none⟩)]) ∧ Blk w' w.heap.size 64 #[.map (some bo)] ∧ Blk w' (w.heap.size + 1) 64 #[.map (some bg)] ∧ Below w.heap.size w w' := by
  have H1 := Hid.in ((Blk.new w 64 #[.map (some bo)]).grow (new_alloc _ (.cells #[.map (some bg)] 64)))
  have H2 := Hid.in (Blk.new (w.alloc (.cells #[.map (some bo)] 64)) 64 #[.map (some bg)])
  rw [size_one] at H2
  go_enter Tryz.func30, Tryz.ntmps30
  go_wp2_with fail
  go_ret
  exact ⟨rfl, H1.out, H2.out, below_alloc (new_alloc _ _) _⟩
set_option maxHeartbeats 1000000 in
theorem clos61 (b1 b2 bo bg n m : Nat) (f g : ByteArray → Option Int) (s : ByteArray) (w : World) (hs : s.size ≤ maxLen) (h1 : Blk w b1 64 #[.map (some bo)]) (h2 : Blk w b2 64 #[.map (some bg)]) (hf : PlcAt w bo n f) (hg : PlcAt w bg m g) :
    Calls Tryz.prog 61 #[.string s, .pointer (some ⟨b1, 0, none⟩), .pointer (some ⟨b2, 0, none⟩)] w fun E w' => ∃ c, E = .returned (.tuple #[.int .i64 c, .bool (resF f g s).isSome]) ∧ (∀ d, resF f g s = some d → c = d) ∧ w' = w := by
  have c1 : w.cell? ⟨b1, 0, none⟩ = some (.map (some bo)) := h1.cell 0
  have c2 : w.cell? ⟨b2, 0, none⟩ = some (.map (some bg)) := h2.cell 0
  have HF := Hid.in hf
  have HG := Hid.in hg
  clear h1 h2 hf hg
  cases hfs : f s with
  | some a =>
    have HE : Hid (resF f g s = some a) := by
      have h : resF f g s = some a := by unfold resF; rw [hfs]
      exact h
    go_enter Tryz.func61, Tryz.ntmps61
    go_wp2_with (refine plc_look _ rfl _ _ rfl bo n f rfl HF.out s rfl hs ?_; intro cc hcc; rw [hfs]; have hce := hcc a hfs; subst hce; clear hcc)
    go_ret2
    rw [HE.out]
    exact ⟨_, rfl, fun d hd => by injection hd, rfl⟩
  | none =>
    have HE : Hid (resF f g s = g s) := by
      have h : resF f g s = g s := by unfold resF; rw [hfs]
      exact h
    go_enter Tryz.func61, Tryz.ntmps61
    go_wp2_with (first
      | (with_reducible refine plc_look _ rfl _ _ rfl bg m g rfl HG.out s rfl hs ?_; intro dd hdd; have HD := Hid.in hdd; clear hdd)
      | (refine plc_look _ rfl _ _ rfl bo n f rfl HF.out s rfl hs ?_; intro cc hcc; rw [hfs]; clear hcc))
    go_ret2
    rw [HE.out]
    exact ⟨_, rfl, HD.out, rfl⟩

end Go.Proofs.YtckpgpgmaccepaaGreat

/- Small tests on sites: in reach, right, ahead; their order. -/
namespace Go.Proofs.YtckpgpgmaccepaaGreat
open Go.RowKit

abbrev sV (s : Si) : Value := .agg #[.int .i64 s.key, .int .i64 s.at_, .int .i64 s.to_]

/-- a site whose numbers are not great -/
def Near (s : Si) : Prop := -1000000 ≤ s.at_ ∧ s.at_ ≤ 1000000 ∧ -1000000 ≤ s.to_ ∧ s.to_ ≤ 1000000

set_option maxHeartbeats 1000000 in
theorem inReach_any (s : Si) (w : World) (h : Near s) : Calls Tryz.prog 74 #[sV s] w fun e w' => e = .returned (.bool (!farS s)) ∧ Below w.heap.size w w' := by
  obtain ⟨sk, sa, st⟩ := s
  obtain ⟨h1, h2, h3, h4⟩ := h
  dsimp only at h1 h2 h3 h4
  have e1 : IntKind.i64.wrap (sa + 5) = sa + 5 := by rw [IntKind.wrap_i64]; omega
  have e2 : IntKind.i64.wrap (st - (sa + 5)) = st - (sa + 5) := by rw [IntKind.wrap_i64]; omega
  by_cases hf : st - (sa + 5) < -4096
  · have HF : Hid ((!farS ⟨sk, sa, st⟩) = false) := by simp [Hid, farS]; omega
    rw [HF.out]
    go_enter Tryz.func74, Tryz.ntmps74
    go_wp2_with fail
    go_ret
    exact ⟨rfl, new_alloc _ _⟩
  · by_cases hg : 4096 < st - (sa + 5)
    · have HF : Hid ((!farS ⟨sk, sa, st⟩) = false) := by simp [Hid, farS]; omega
      rw [HF.out]
      go_enter Tryz.func74, Tryz.ntmps74
      go_wp2_with fail
      go_ret
      exact ⟨ret_bool (by simp; omega), new_alloc _ _⟩
    · have HF : Hid ((!farS ⟨sk, sa, st⟩) = true) := by simp [Hid, farS]; omega
      rw [HF.out]
      go_enter Tryz.func74, Tryz.ntmps74
      go_wp2_with fail
      go_ret
      exact ⟨ret_bool (by simp), new_alloc _ _⟩

set_option maxHeartbeats 1000000 in
theorem far_any (s : Si) (w : World) (h : Near s) : Calls Tryz.prog 37 #[sV s] w fun e w' => e = .returned (.bool (farS s)) ∧ Below w.heap.size w w' := by
  obtain ⟨sk, sa, st⟩ := s
  obtain ⟨h1, h2, h3, h4⟩ := h
  dsimp only at h1 h2 h3 h4
  have e1 : IntKind.i64.wrap (sa + 5) = sa + 5 := by rw [IntKind.wrap_i64]; omega
  have e2 : IntKind.i64.wrap (st - (sa + 5)) = st - (sa + 5) := by rw [IntKind.wrap_i64]; omega
  by_cases hf : 4096 < st - (sa + 5)
  · have HF : Hid (farS ⟨sk, sa, st⟩ = true) := by simp [Hid, farS]; omega
    rw [HF.out]
    go_enter Tryz.func37, Tryz.ntmps37
    go_wp2_with fail
    go_ret
    exact ⟨ret_bool (by simp), new_alloc _ _⟩
  · have HF : Hid (farS ⟨sk, sa, st⟩ = decide (st - (sa + 5) < -4096)) := by
      have : farS ⟨sk, sa, st⟩ = decide (st - (sa + 5) < -4096) := decide_eq_decide.2 (by dsimp only; omega)
      exact this
    rw [HF.out]
    go_enter Tryz.func37, Tryz.ntmps37
    go_wp2_with fail
    go_ret
    exact ⟨ret_bool (by simp), new_alloc _ _⟩

set_option maxHeartbeats 1000000 in
theorem ahead_any (s t : Si) (w : World) : Calls Tryz.prog 38 #[sV s, sV t] w fun e w' => e = .returned (.bool (ltS s t)) ∧ Below w.heap.size w w' := by
  obtain ⟨sk, sa, st⟩ := s
  obtain ⟨tk, ta, tt⟩ := t
  by_cases h1 : sk < tk
  · have HF : Hid (ltS ⟨sk, sa, st⟩ ⟨tk, ta, tt⟩ = true) := by simp [Hid, ltS]; omega
    rw [HF.out]
    go_enter Tryz.func38, Tryz.ntmps38
    go_wp2_with fail
    go_ret
    exact ⟨ret_bool (by simp), below_alloc (new_alloc _ _) _⟩
  · by_cases h2 : sk = tk
    · subst h2
      have HF : Hid (ltS ⟨sk, sa, st⟩ ⟨sk, ta, tt⟩ = decide (sa < ta)) := by
        have : ltS ⟨sk, sa, st⟩ ⟨sk, ta, tt⟩ = decide (sa < ta) := decide_eq_decide.2 (by simp)
        exact this
      rw [HF.out]
      go_enter Tryz.func38, Tryz.ntmps38
      go_wp2_with fail
      go_ret
      exact ⟨ret_bool (by simp), below_alloc (new_alloc _ _) _⟩
    · have HF : Hid (ltS ⟨sk, sa, st⟩ ⟨tk, ta, tt⟩ = false) := by simp [Hid, ltS]; omega
      rw [HF.out]
      go_enter Tryz.func38, Tryz.ntmps38
      go_wp2_with fail
      go_ret
      exact ⟨ret_bool (by simp), below_alloc (new_alloc _ _) _⟩

def orI (x y : Int) : Int := if x ≠ 0 then x else y

set_option maxHeartbeats 1000000 in
theorem or_any (g : Nat) (x y : Int) (w : World) (c0 : w.cell? ⟨g, 0, none⟩ = some (.int .i64 x)) (c1 : w.cell? ⟨g, 1, none⟩ = some (.int .i64 y)) : Calls Tryz.prog 65 #[.slice (some ⟨g, 0, none⟩) 2 2] w fun e w' => e = .returned (.int .i64 (orI x y)) ∧ w' = w := by
  unfold orI
  by_cases h1 : x = 0
  · rw [if_neg (by simpa using h1)]
    subst h1
    by_cases h2 : y = 0
    · subst h2
      go_enter Tryz.func65, Tryz.ntmps65
      go_wp2
      refine wp_loop_rounds 3 ?_
      rw [rounds_succ]; go_wp2
      rw [rounds_succ]; go_wp2
      rw [rounds_succ]; go_wp2
      go_ret
      exact ⟨rfl, rfl⟩
    · go_enter Tryz.func65, Tryz.ntmps65
      go_wp2
      refine wp_loop_rounds 2 ?_
      rw [rounds_succ]; go_wp2
      rw [rounds_succ]; go_wp2
      go_ret
      exact ⟨rfl, rfl⟩
  · rw [if_pos h1]
    go_enter Tryz.func65, Tryz.ntmps65
    go_wp2
    refine wp_loop_rounds 1 ?_
    rw [rounds_succ]; go_wp2
    go_ret
    exact ⟨rfl, rfl⟩

/-- byKeyThenPlace's answer -/
def cmpS (s t : Si) : Int := orI (cmpI s.key t.key) (cmpI s.at_ t.at_)
theorem cmpS_lt (s t : Si) : decide (cmpS s t < 0) = ltS s t := by
  unfold cmpS ltS
  refine decide_eq_decide.2 ?_
  unfold orI cmpI
  by_cases h1 : s.key < t.key
  · rw [if_pos h1]; simp; omega
  · rw [if_neg h1]
    by_cases h2 : t.key < s.key
    · rw [if_pos h2]; simp; omega
    · rw [if_neg h2]
      by_cases h3 : s.at_ < t.at_
      · rw [if_pos h3]; simp; omega
      · rw [if_neg h3]
        by_cases h4 : t.at_ < s.at_
        · rw [if_pos h4]; simp; omega
        · rw [if_neg h4]; simp; omega

set_option maxRecDepth 4000 in
set_option maxHeartbeats 2000000 in
theorem byKey_any (s t : Si) (w : World) : Calls Tryz.prog 33 #[sV s, sV t] w fun e w' => e = .returned (.int .i64 (cmpS s t)) ∧ ∃ q os, w' = Go.Sort.grow (w.drewN q) os := by
  obtain ⟨sk, sa, st⟩ := s
  obtain ⟨tk, ta, tt⟩ := t
  have hc1 := fun W => compare_any sk tk W
  have hc2 := fun W => compare_any sa ta W
  have HC : Hid (cmpS ⟨sk, sa, st⟩ ⟨tk, ta, tt⟩ = orI (cmpI sk tk) (cmpI sa ta)) := rfl
  rw [HC.out]
  generalize cmpI sk tk = x at *
  generalize cmpI sa ta = y at *
  clear HC
  have hor := fun g W c0 c1 => or_any g x y W c0 c1
  generalize orI x y = r at *
  have HZ0 : Hid (∀ A B : Obj, ((((w.alloc A).alloc B).alloc (.cells #[.int .i64 x, .int .i64 y] 3)).drew).cell? ⟨w.heap.size + 1 + 1, 0, none⟩ = some (.int .i64 x)) := fun A B => by
    have h := (Blk.new ((w.alloc A).alloc B) 3 #[.int .i64 x, .int .i64 y]).cell 0
    rw [size_one, size_one] at h
    exact h
  have HZ1 : Hid (∀ A B : Obj, ((((w.alloc A).alloc B).alloc (.cells #[.int .i64 x, .int .i64 y] 3)).drew).cell? ⟨w.heap.size + 1 + 1, 1, none⟩ = some (.int .i64 y)) := fun A B => by
    have h := (Blk.new ((w.alloc A).alloc B) 3 #[.int .i64 x, .int .i64 y]).cell 1
    rw [size_one, size_one] at h
    exact h
  go_enter Tryz.func33, Tryz.ntmps33
  go_wp2_with fail
  go_region_law (first
    | (go_simp; go_at_call 66; first
      | ((with_reducible refine (hc1 _).mono ?_); rintro e w1 ⟨rfl, rfl⟩)
      | ((with_reducible refine (hc2 _).mono ?_); rintro e w1 ⟨rfl, rfl⟩))
    | (go_simp; go_at_call 65; (with_reducible refine (hor _ _ (HZ0.out _ _) (HZ1.out _ _)).mono ?_); rintro e w1 ⟨rfl, rfl⟩))
  all_goals
    go_wp2
    go_ret
    exact ⟨rfl, 1, _, by rw [Go.Sort.alloc_eq_grow, Go.Sort.alloc_eq_grow, Go.Sort.alloc_eq_grow, Go.Sort.grow_grow, Go.Sort.grow_grow]; rfl⟩

theorem grow_below (w : World) (q : Nat) (os : Array Obj) : Below w.heap.size w (Go.Sort.grow (w.drewN q) os) :=
  ⟨rfl, rfl, rfl, by simp [Go.Sort.grow, World.drewN], fun k hk => by simp [Go.Sort.grow, World.drewN, Array.getElem?_append_left hk]⟩

end Go.Proofs.YtckpgpgmaccepaaGreat

/- switchyardkit.SameSites and CopySites. -/
namespace Go.Proofs.YtckpgpgmaccepaaGreat
open Go.RowKit

theorem Tryz.elemSite : Elem3 24 34 24 := ⟨Tryz.underlying24, .agg #[.int .i64 0, .int .i64 0, .int .i64 0], rfl, by kernel_rfl⟩

set_option maxRecDepth 20000 in
set_option maxHeartbeats 1000000 in
theorem sameSites_any (p q : Option Addr) (n c m d : Nat) (L M : List Si) (w : World) (hn : L.length = n) (hm : M.length = m) (hn6 : n ≤ 9223372036854775807) (_hm6 : m ≤ 9223372036854775807) (h1 : Row3 w p (L.map siV)) (h2 : Row3 w q (M.map siV)) :
    Calls Tryz.prog 10 #[.slice p n c, .slice q m d] w fun E w' => (∃ b, E = .returned (.bool b) ∧ (b = true ↔ L = M)) ∧ ∃ z, w' = w.drewN z := by
  by_cases hl : n = m
  · subst hl
    have HL := Hid.in hn
    have HM := Hid.in hm
    have H1 := Hid.in h1
    have H2 := Hid.in h2
    clear hn hm h1 h2
    go_enter Tryz.func10, Tryz.ntmps10
    go_wp2_with fail
    go_loopw [5] (fun vi wr => ∃ k z : Nat, vi = .int .i64 k ∧ k ≤ n ∧ L.take k = M.take k ∧ wr = w.drewN z) (fun vi _ => n - (intOf vi).toNat)
    case atStart => exact ⟨0, 0, rfl, Nat.zero_le _, rfl, rfl⟩
    case round =>
      obtain ⟨k, z, rfl, hk, ht, rfl⟩ := hrel
      have HT := Hid.in ht
      clear ht
      by_cases hlt : k < n
      · have hk1 : k < L.length := by rw [HL.out]; exact hlt
        have hk2 : k < M.length := by rw [HM.out]; exact hlt
        obtain ⟨b, o, rfl, hc⟩ := H1.out (by rw [List.length_map]; omega)
        obtain ⟨c0, c1, c2⟩ := cells3 hc k (by rw [List.length_map]; exact hk1)
        obtain ⟨b', o', rfl, hc'⟩ := H2.out (by rw [List.length_map]; omega)
        obtain ⟨e0, e1, e2⟩ := cells3 hc' k (by rw [List.length_map]; exact hk2)
        simp only [List.getElem_map, siV] at c0 c1 c2 e0 e1 e2
        have HE : Hid (L[k] = M[k] → L.take (k + 1) = M.take (k + 1)) := fun e => take_step HT.out hk1 hk2 e
        have HNE : Hid (L[k] ≠ M[k] → L ≠ M) := fun e e' => e (by subst e'; rfl)
        clear hc hc' H1 H2
        generalize L[k] = x at *
        generalize M[k] = y at *
        obtain ⟨x0, x1, x2⟩ := x
        obtain ⟨y0, y1, y2⟩ := y
        simp only at c0 c1 c2 e0 e1 e2
        by_cases h0 : x0 = y0
        · subst h0
          by_cases h1 : x1 = y1
          · subst h1
            by_cases h2 : x2 = y2
            · subst h2
              go_upto_region 6 with fail
              go_quiet (fail)
              go_wp2_with fail
              go_roundw
              case rel => exact ⟨k + 1, z + nq, by go_num, by omega, HE.out rfl, by simp⟩
              case measure => simp [intOf]; omega
            · skip
              go_upto_region 6 with fail
              go_quiet (fail)
              go_wp2_with fail
              go_ret
              exact ⟨⟨false, rfl, by simp [HNE.out (fun e => h2 (by injection e))]⟩, z + nq, drewN_two _ _ _⟩
          · skip
            go_upto_region 6 with fail
            go_quiet (fail)
            go_wp2_with fail
            go_ret
            exact ⟨⟨false, rfl, by simp [HNE.out (fun e => h1 (by injection e))]⟩, z + nq, drewN_two _ _ _⟩
        · skip
          go_upto_region 6 with fail
          go_quiet (fail)
          go_wp2_with fail
          go_ret
          exact ⟨⟨false, rfl, by simp [HNE.out (fun e => h0 (by injection e))]⟩, z + nq, drewN_two _ _ _⟩
      · have hkn : k = n := by omega
        subst hkn
        have HR : Hid (L = M) := take_all HT.out (by rw [HL.out]; exact Nat.le_refl _) (by rw [HM.out]; exact Nat.le_refl _)
        go_wp2_with fail
        go_ret
        exact ⟨⟨true, rfl, by simp [HR.out]⟩, z, rfl⟩
  · have HR : Hid (L ≠ M) := fun e => hl (by rw [← hn, ← hm, e])
    clear hn hm h1 h2
    go_enter Tryz.func10, Tryz.ntmps10
    go_wp2_with fail
    go_ret
    exact ⟨⟨false, rfl, by simp [HR.out]⟩, 0, rfl⟩

theorem tpushW {ops : Array Oper} {rest : List Oper} {o : Oper} {a : Act} {Q : Exit → Act → World → Prop} {t T : TypeId} {by_ : Nat} (he : Elem3 t T by_) (w : World) (hgd : o.guard = none) (s x : Operand)
    (ho : o.op = .call { callee := .builtin .append, args := #[s, x], argTypes := #[t, t] }) (B : Nat) (v : Value) (L : List V3) (hs : a.eval s = v) (hown : TOwn T w B v L)
    (ad : Addr) (c : Nat) (q : V3) (hq : one3 q) (hx : a.eval x = .slice (some ad) 1 c) (hnews : ∀ j u, (l3 q)[j]? = some u → w.cell? (ad.add j) = some u)
    (hlen : L.length ≤ 5864062014640) (hby : (L.length + 1) * by_ ≤ 140737488355328) (hB : B ≤ w.heap.size)
    (h : ∀ v' w', TOwn T w' B v' (L ++ [q]) → w.grownBy w' v.ownBlock → (∀ w0, Below B w0 w → Below B w0 w') → wpList Tryz.prog ops Q rest (a.put o.dst v') w') :
    wpList Tryz.prog ops Q (o :: rest) a w := by
  obtain ⟨hu, z, hzc, hinfo⟩ := he
  obtain ⟨i0, hi, hz0, hz1, hz2⟩ := info_parts hinfo
  refine wpList_append_own w hgd s x t ho B T i0 z 3 by_ hu hi hz0 hz1 hz2 hzc (by decide) v L.length (c3 L) hs hown ad 1 c (l3 q) hx rfl hnews (one3_mem hq) (by unfold maxLen; omega) hby hB ?_
  intro v' w' h2 h3 _
  refine h v' w' ?_ h3 (fun w0 hb => hb.grown h3 hB fun k hk => (World.ownsRow.lt hown k hk).1)
  unfold TOwn
  rw [List.length_append, c3_two]
  have e : c3 [q] = l3 q := by simp [c3]
  rw [e]
  exact h2

set_option maxRecDepth 20000 in
set_option maxHeartbeats 1000000 in
theorem copySites_any (p : Option Addr) (n c : Nat) (L : List Si) (w : World) (hn : L.length = n) (hn6 : n ≤ 5864062014634) (h1 : Row3 w p (L.map siV)) :
    Calls Tryz.prog 15 #[.slice p n c] w fun E w' => ∃ v, E = .returned v ∧ TOwn 34 w' w.heap.size v (L.map siV) ∧ Below w.heap.size w w' := by
  have HL := Hid.in hn
  have H1 := Hid.in h1
  clear hn h1
  go_enter Tryz.func15, Tryz.ntmps15
  go_wp2_with fail
  go_loopw [3, 4] (fun v vi wr => ∃ k : Nat, vi = .int .i64 k ∧ k ≤ n ∧ TOwn 34 wr w.heap.size v ((L.take k).map siV) ∧ Below w.heap.size w wr) (fun _ vi _ => n - (intOf vi).toNat)
  case atStart => exact ⟨0, rfl, Nat.zero_le _, TOwn.nil _ _ _, below_self _⟩
  case round =>
    obtain ⟨k, rfl, hk, hT, hb⟩ := hrel
    have HT := Hid.in hT
    have HB := Hid.in hb
    have hlen : ((L.take k).map siV).length = k := by rw [List.length_map, List.length_take, HL.out]; omega
    obtain ⟨pv, cv, hv, -, -, -⟩ := hT.shape
    rw [hlen] at hv
    subst hv
    have HLEN := Hid.in hlen
    clear hT hb hlen
    by_cases hlt : k < n
    · have hk1 : k < L.length := by rw [HL.out]; exact hlt
      obtain ⟨b, o, rfl, hc⟩ := (H1.out.below HB.out) (by rw [List.length_map]; omega)
      obtain ⟨c0, c1, c2⟩ := cells3 hc k (by rw [List.length_map]; exact hk1)
      simp only [List.getElem_map, siV] at c0 c1 c2
      have HTK : Hid ((L.take (k + 1)).map siV = (L.take k).map siV ++ [siV L[k]]) := by
        rw [List.take_succ_eq_append_getElem hk1, List.map_append]; exact rfl
      clear hc
      generalize (L.take k).map siV = LQ at *
      generalize L[k] = x at *
      have hl1 : LQ.length ≤ 5864062014640 := by have := HLEN.out; omega
      have hl2 : (LQ.length + 1) * 24 ≤ 140737488355328 := by have := HLEN.out; omega
      go_wp2_with (refine tpushW Tryz.elemSite _ rfl _ _ rfl w.heap.size _ LQ rfl (HT.out.alloc _) ⟨wr.heap.size, 0, none⟩ 1 (.int .i64 x.key, .int .i64 x.at_, .int .i64 x.to_) ⟨rfl, rfl, rfl⟩ rfl (news3 _ _ _) hl1 hl2 (by have := HB.out.size; simp; omega) ?_; intro v5 w5 hT5 hg5 hb5; have HT5 := Hid.in hT5; have HB5 := Hid.in (hb5 w (below_alloc HB.out _)); clear hT5 hg5 hb5)
      go_roundw
      case rel => exact ⟨k + 1, by go_num, by omega, by rw [HTK.out]; exact HT5.out, HB5.out⟩
      case measure => simp [intOf]; omega
    · have hkn : k = n := by omega
      subst hkn
      have HR : Hid ((L.take k).map siV = L.map siV) := by
        rw [List.take_of_length_le (by rw [HL.out]; exact Nat.le_refl _)]; exact rfl
      rw [HR.out] at HT
      go_wp2_with fail
      go_ret
      exact ⟨_, rfl, HT.out, HB.out⟩


end Go.Proofs.YtckpgpgmaccepaaGreat

/- A map from places to sites, as sites.table holds one; the table. -/
namespace Go.Proofs.YtckpgpgmaccepaaGreat
open Go.RowKit Go.Maps Go.WideMaps

def siD (s : Si) : DataW Unit := .agg [.lit (.int .i64 s.key), .lit (.int .i64 s.at_), .lit (.int .i64 s.to_)]
def siElem (v : Value) : Option (DataW Unit × List MemPlace) := match v with
  | .agg cs => match cs.toList with
    | [.int .i64 a, .int .i64 b, .int .i64 c] => some (siD ⟨a, b, c⟩, [])
    | _ => none
  | _ => none
theorem siElem_mk (s : Si) : siElem (sV s) = some (siD s, []) := rfl
theorem siElem_inv {v : Value} {z : DataW Unit × List MemPlace} (h : siElem v = some z) : ∃ s : Si, v = sV s ∧ z = (siD s, []) := by
  unfold siElem at h
  split at h
  · rename_i cs
    split at h
    · rename_i a b c hc
      injection h with h
      have e : cs = #[.int .i64 a, .int .i64 b, .int .i64 c] := by
        have : cs = cs.toList.toArray := by simp
        rw [this, hc]
      exact ⟨⟨a, b, c⟩, by rw [e], h.symm⟩
    · cases h
  · cases h
theorem siD_inj {s t : Si} (h : siD s = siD t) : s = t := by
  obtain ⟨a, b, c⟩ := s
  obtain ⟨a', b', c'⟩ := t
  unfold siD at h
  injection h with h
  injection h with h1 h
  injection h with h2 h
  injection h with h3 h
  injection h1 with h1
  injection h1 with _ h1
  injection h2 with h2
  injection h2 with _ h2
  injection h3 with h3
  injection h3 with _ h3
  subst h1 h2 h3
  rfl

def ik (a : Int) : Lit := .int .i64 a
theorem ik_inj {a b : Int} (h : ik a = ik b) : a = b := by unfold ik at h; injection h
theorem ik_is (a : Int) : WideAt.IsKeyLit (ik a) := by simp [ik, WideAt.IsKeyLit]
theorem law3 : Keyed Tryz.prog 3 := int_keyed Tryz.underlying3
theorem zero34 (w : World) : (zeroValue 34).run Tryz.prog w = .ok (sV ⟨0, 0, 0⟩) w := by kernel_rfl
def i64W (a : Int) : Prop := -9223372036854775808 ≤ a ∧ a ≤ 9223372036854775807

def atF (T : List Si) (a : Int) : Option Si := T.find? fun t => decide (t.at_ = a)
def SitD (D : DataW Unit) (T : List Si) : Prop := ∀ a, has D (ik a) = (atF T a).isSome ∧ ∀ t, atF T a = some t → D.atKey (ik a) (siD ⟨0, 0, 0⟩) = siD t
/-- a map's block holds the sites of T by their places -/
def SitAt (w : World) (b : Nat) (T : List Si) : Prop := ∃ D : DataW Unit, w.ownsMap Tryz.prog 3 siElem b T.length D ∧ SitD D T
theorem SitAt.made (w : World) : SitAt (w.alloc (.map #[] 0)) w.heap.size [] := ⟨_, World.ownsMap_made _ _ _ _, fun s => ⟨by simp [has_eq, atF], fun c h => by cases h⟩⟩
theorem SitD.add {D : DataW Unit} {T : List Si} (h : SitD D T) (hD : IsMap D) (s : Si) (hs : atF T s.at_ = none) : SitD (D.put (ik s.at_) (siD s)) (T ++ [s]) := fun a => by
  by_cases e : a = s.at_
  · subst e
    have e1 : atF (T ++ [s]) s.at_ = some s := by
      unfold atF at *
      rw [List.find?_append, hs]
      simp
    rw [has_put_same hD (ik_is _), atKey_put_same hD (ik_is _), e1]
    exact ⟨rfl, fun c' h => by injection h with h; rw [h]⟩
  · have hne : ik a ≠ ik s.at_ := fun e' => e (ik_inj e')
    have e1 : atF (T ++ [s]) a = atF T a := by
      unfold atF
      rw [List.find?_append]
      have : ([s].find? fun t => decide (t.at_ = a)) = none := by simp [Ne.symm e]
      rw [this, Option.or_none]
    rw [has_put_other hne, atKey_put_other hne, e1]
    exact h a
theorem SitAt.below {w w' : World} {b : Nat} {T : List Si} (h : SitAt w b T) (hb : Below w.heap.size w w') : SitAt w' b T := by
  obtain ⟨D, h1, h2⟩ := h
  obtain ⟨es, clock, e1, e2⟩ := h1
  exact ⟨D, ⟨es, clock, (hb.block b (Array.getElem?_eq_some_iff.1 e1).1).trans e1, e2⟩, h2⟩
theorem SitAt.keeps {w w' : World} {b : Nat} {T : List Si} {G : Nat → Prop} (h : SitAt w b T) (hk : Keeps G w w') (hG : ¬ G b) : SitAt w' b T := by
  obtain ⟨D, h1, h2⟩ := h
  obtain ⟨es, clock, e1, e2⟩ := h1
  exact ⟨D, ⟨es, clock, (hk.block b (Array.getElem?_eq_some_iff.1 e1).1 hG).trans e1, e2⟩, h2⟩
theorem SitAt.kept {w w' : World} {row : Option Nat} {b : Nat} {T : List Si} (h : SitAt w b T) (hg : w.grownBy w' row) (hne : some b ≠ row) : SitAt w' b T := by
  obtain ⟨D, h1, h2⟩ := h
  exact ⟨D, h1.kept hg hne, h2⟩
theorem SitAt.lt {w : World} {b : Nat} {T : List Si} (h : SitAt w b T) : b < w.heap.size := by
  obtain ⟨D, h1, _⟩ := h
  exact h1.lt
theorem sit_look {ops : Array Oper} {rest : List Oper} {o : Oper} {a : Act} {Q : Exit → Act → World → Prop} (w : World) (hg : o.guard = none) (m x : Operand) (hop : o.op = Op.lookup 74 m x true) (b : Nat) (T : List Si)
    (hm : a.eval m = .map (some b)) (hown : SitAt w b T) (i : Int) (hx : a.eval x = .int .i64 i) (hs : i64W i)
    (h : ∀ t : Si, (∀ d, atF T i = some d → t = d) → wpList Tryz.prog ops Q rest (a.put o.dst (.tuple #[.agg #[.int .i64 t.key, .int .i64 t.at_, .int .i64 t.to_], .bool (atF T i).isSome])) w) :
    wpList Tryz.prog ops Q (o :: rest) a w := by
  obtain ⟨D, h1, h2⟩ := hown
  refine wpList_lookup_own_ok w hg m x 74 hop 3 34 law3 Tryz.underlying74 siElem (zero34 w) (siD ⟨0, 0, 0⟩) [] (siElem_mk _) b T.length D hm h1 (.int .i64 i) (ik i) hx (keyOf_int_mk Tryz.underlying3 (WalkArith.wf_i64 (by unfold i64W at hs; omega))) fun v ps hv => ?_
  obtain ⟨t, rfl, hz⟩ := siElem_inv hv
  have := h t fun d hd => by
    have e := (h2 i).2 d hd
    injection hz with hz
    rw [e] at hz
    exact (siD_inj hz).symm
  rw [← (h2 i).1] at this
  exact this
theorem sit_put {ops : Array Oper} {rest : List Oper} {o : Oper} {a : Act} {Q : Exit → Act → World → Prop} (w : World) (hg : o.guard = none) (m x v : Operand) (hop : o.op = Op.mapUpdate 74 m x v) (b : Nat) (T : List Si)
    (hm : a.eval m = .map (some b)) (hown : SitAt w b T) (sk sa st : Int) (hx : a.eval x = .int .i64 sa) (hv : a.eval v = .agg #[.int .i64 sk, .int .i64 sa, .int .i64 st]) (hs : i64W sa) (hn : atF T sa = none) (hl : T.length ≤ 1048576)
    (h : ∀ w', SitAt w' b (T ++ [⟨sk, sa, st⟩]) → w.grownBy w' (some b) → wpList Tryz.prog ops Q rest (a.put o.dst undef) w') :
    wpList Tryz.prog ops Q (o :: rest) a w := by
  obtain ⟨D, h1, h2⟩ := hown
  refine wpList_mapUpdate_own w hg m x v 74 hop 3 34 law3 Tryz.underlying74 _ b T.length D hm h1 (by unfold maxLen; omega) _ _ (ik sa) hx hv (keyOf_int_mk Tryz.underlying3 (WalkArith.wf_i64 (by unfold i64W at hs; omega))) (siD ⟨sk, sa, st⟩) [] (siElem_mk ⟨sk, sa, st⟩) fun w' h3 h4 => h w' ⟨_, ?_, h2.add h1.isMap ⟨sk, sa, st⟩ hn⟩ h4
  rw [List.length_append]
  exact h3

end Go.Proofs.YtckpgpgmaccepaaGreat

/- sites.table: newTable, put. -/
namespace Go.Proofs.YtckpgpgmaccepaaGreat
open Go.RowKit Go.Maps Go.WideMaps

theorem TOwn.block {T : TypeId} {w : World} {B : Nat} {v : Value} {L : List V3} (h : TOwn T w B v L) : v = .slice none 0 0 ∨ ∃ g cur, v.ownBlock = some g ∧ B ≤ g ∧ w.heap[g]? = some (.cells cur T (0, 0)) := by
  rcases h.2 with ⟨e1, e2⟩ | ⟨g, cap, cur, e1, e2, e3, _⟩
  · rw [e2] at *; exact .inl e1
  · exact .inr ⟨g, cur, by rw [e1]; rfl, e2, e3⟩
theorem TOwn.keeps {T : TypeId} {w w' : World} {B : Nat} {v : Value} {L : List V3} {G : Nat → Prop} (h : TOwn T w B v L) (hk : Keeps G w w') (hG : ∀ g, v.ownBlock = some g → ¬ G g) : TOwn T w' B v L := by
  obtain ⟨h0, h1⟩ := h
  refine ⟨h0, h1.imp id ?_⟩
  rintro ⟨g, cap, cur, e1, e2, e3, e4⟩
  exact ⟨g, cap, cur, e1, e2, (hk.block g (Array.getElem?_eq_some_iff.1 e3).1 (hG g (by rw [e1]; rfl))).trans e3, e4⟩
theorem Blk.keeps {w w' : World} {g : Nat} {T : TypeId} {c : Array Value} {G : Nat → Prop} (h : Blk w g T c) (hk : Keeps G w w') (hG : ¬ G g) : Blk w' g T c := (hk.block g h.lt hG).trans h
theorem NamAt.keeps {w w' : World} {b : Nat} {ns : List ByteArray} {G : Nat → Prop} (h : NamAt w b ns) (hk : Keeps G w w') (hG : ¬ G b) : NamAt w' b ns := by
  obtain ⟨D, h1, h2⟩ := h
  obtain ⟨es, clock, e1, e2⟩ := h1
  exact ⟨D, ⟨es, clock, (hk.block b (Array.getElem?_eq_some_iff.1 e1).1 hG).trans e1, e2⟩, h2⟩
theorem GOwnV.keeps {T : TypeId} {w w' : World} {B : Nat} {v : Value} {vs : List Value} {G : Nat → Prop} (h : GOwnV T w B v vs) (hk : Keeps G w w') (hG : ∀ g, v.ownBlock = some g → ¬ G g) : GOwnV T w' B v vs := by
  obtain ⟨h0, h1⟩ := h
  refine ⟨h0, h1.imp id ?_⟩
  rintro ⟨g, cap, cur, e1, e2, e3, e4⟩
  exact ⟨g, cap, cur, e1, e2, (hk.block g (Array.getElem?_eq_some_iff.1 e3).1 (hG g (by rw [e1]; rfl))).trans e3, e4⟩
theorem NumAt.keeps {w w' : World} {B k bm : Nat} {v : Value} {ns : List ByteArray} {G : Nat → Prop} (h : NumAt w B k bm v ns) (hk : Keeps G w w') (h1 : ¬ G k) (h2 : ¬ G bm) (h3 : ∀ g, v.ownBlock = some g → ¬ G g) : NumAt w' B k bm v ns :=
  ⟨h.blk.keeps hk h1, h.map.keeps hk h2, h.own.keeps hk h3, h.hk, h.hbm⟩

/-- what the marks have made: the table in block t; its numbering in kb, with the map nb; its map of sites in mb -/
structure TblAt (w : World) (B t kb nb mb : Nat) (vn vs : Value) (ks : List ByteArray) (T : List Si) : Prop where
  blk : Blk w t 76 #[.pointer (some ⟨kb, 0, none⟩), vs, .map (some mb)]
  num : NumAt w B kb nb vn ks
  own : TOwn 34 w B vs (T.map siV)
  map : SitAt w mb T
  ht : B ≤ t
  hmb : B ≤ mb
  hne : mb ≠ nb

theorem TblAt.below {w w' : World} {B t kb nb mb : Nat} {vn vs : Value} {ks : List ByteArray} {T : List Si} (h : TblAt w B t kb nb mb vn vs ks T) (hb : Below w.heap.size w w') : TblAt w' B t kb nb mb vn vs ks T :=
  ⟨h.blk.grow hb, h.num.below hb, h.own.below hb, h.map.below hb, h.ht, h.hmb, h.hne⟩
/-- the table's own blocks -/
def GT (t kb nb mb : Nat) (vn vs : Value) (j : Nat) : Prop := j = t ∨ j = kb ∨ j = nb ∨ j = mb ∨ vn.ownBlock = some j ∨ vs.ownBlock = some j
theorem SitAt.isMap {w : World} {b : Nat} {T : List Si} (h : SitAt w b T) : ∃ es c, w.heap[b]? = some (.map es c) := by
  obtain ⟨D, ⟨es, clock, e1, _⟩, _⟩ := h
  exact ⟨es, clock, e1⟩
theorem NamAt.isMap {w : World} {b : Nat} {ns : List ByteArray} (h : NamAt w b ns) : ∃ es c, w.heap[b]? = some (.map es c) := by
  obtain ⟨D, ⟨es, clock, e1, _⟩, _⟩ := h
  exact ⟨es, clock, e1⟩
theorem PlcAt.isMap {w : World} {b n : Nat} {f : ByteArray → Option Int} (h : PlcAt w b n f) : ∃ es c, w.heap[b]? = some (.map es c) := by
  obtain ⟨D, ⟨es, clock, e1, _⟩, _⟩ := h
  exact ⟨es, clock, e1⟩
theorem TblAt.kinds {w : World} {B t kb nb mb : Nat} {vn vs : Value} {ks : List ByteArray} {T : List Si} (h : TblAt w B t kb nb mb vn vs ks T) {j : Nat} (hj : GT t kb nb mb vn vs j) :
    B ≤ j ∧ ((∃ cur e, w.heap[j]? = some (.cells cur e (0, 0)) ∧ (e = 76 ∨ e = 79 ∨ e = 9 ∨ e = 34)) ∨ ((∃ es c, w.heap[j]? = some (.map es c)) ∧ (j = nb ∨ j = mb))) := by
  rcases hj with rfl | rfl | rfl | rfl | hj | hj
  · exact ⟨h.ht, .inl ⟨_, _, h.blk, .inl rfl⟩⟩
  · exact ⟨h.num.hk, .inl ⟨_, _, h.num.blk, .inr (.inl rfl)⟩⟩
  · exact ⟨h.num.hbm, .inr ⟨h.num.map.isMap, .inl rfl⟩⟩
  · exact ⟨h.hmb, .inr ⟨h.map.isMap, .inr rfl⟩⟩
  · rcases h.num.own.block with e | ⟨g, cur, e1, e2, e3⟩
    · rw [e] at hj; cases hj
    · rw [e1] at hj; injection hj with hj; subst hj
      exact ⟨e2, .inl ⟨_, _, e3, .inr (.inr (.inl rfl))⟩⟩
  · rcases h.own.block with e | ⟨g, cur, e1, e2, e3⟩
    · rw [e] at hj; cases hj
    · rw [e1] at hj; injection hj with hj; subst hj
      exact ⟨e2, .inl ⟨_, _, e3, .inr (.inr (.inr rfl))⟩⟩
/-- cells of other types are none of them -/
theorem TblAt.notCells {w : World} {B t kb nb mb : Nat} {vn vs : Value} {ks : List ByteArray} {T : List Si} (h : TblAt w B t kb nb mb vn vs ks T) {j : Nat} {cur : Array Value} {e : TypeId} {fr : Nat × Nat} (hj : w.heap[j]? = some (.cells cur e fr)) (he : e ≠ 76 ∧ e ≠ 79 ∧ e ≠ 9 ∧ e ≠ 34) : ¬ GT t kb nb mb vn vs j := fun hg => by
  rcases (h.kinds hg).2 with ⟨cur', e', h1, h2⟩ | ⟨⟨es, c, h1⟩, _⟩
  · rw [hj] at h1
    injection h1 with h1
    injection h1 with _ h1 _
    subst h1
    rcases h2 with h2 | h2 | h2 | h2
    · exact he.1 h2
    · exact he.2.1 h2
    · exact he.2.2.1 h2
    · exact he.2.2.2 h2
  · rw [hj] at h1
    cases h1
/-- nor other maps -/
theorem TblAt.notMap {w : World} {B t kb nb mb : Nat} {vn vs : Value} {ks : List ByteArray} {T : List Si} (h : TblAt w B t kb nb mb vn vs ks T) {j : Nat} {es : Array MapEntry} {c : Nat} (hj : w.heap[j]? = some (.map es c)) (h1 : j ≠ nb) (h2 : j ≠ mb) : ¬ GT t kb nb mb vn vs j := fun hg => by
  rcases (h.kinds hg).2 with ⟨cur', e', h3, _⟩ | ⟨_, h3⟩
  · rw [hj] at h3
    cases h3
  · rcases h3 with h3 | h3
    · exact h1 h3
    · exact h2 h3
theorem TblAt.notOld {w : World} {B t kb nb mb : Nat} {vn vs : Value} {ks : List ByteArray} {T : List Si} (h : TblAt w B t kb nb mb vn vs ks T) {j : Nat} (hj : j < B) : ¬ GT t kb nb mb vn vs j := fun hg => by
  have := (h.kinds hg).1
  omega

set_option maxHeartbeats 1000000 in
theorem newTable_any (w : World) : Calls Tryz.prog 26 #[] w fun e w' => ∃ t kb nb mb, e = .returned (.pointer (some ⟨t, 0, none⟩)) ∧ TblAt w' w.heap.size t kb nb mb (.slice none 0 0) (.slice none 0 0) [] [] ∧ Below w.heap.size w w' := by
  have hmm := @run_makeMap Tryz.prog
  go_enter Tryz.func26, Tryz.ntmps26
  go_wp2_with (go_at_call 39; refine (newNumbering_any w).mono ?_; rintro e w1 ⟨k, bm, rfl, hN, hb⟩; have HNU := Hid.in hN; have HB1 := Hid.in hb; clear hN hb)
  go_ret
  have h1 := new_alloc w1 (.map #[] 0)
  have h2 := new_alloc (w1.alloc (.map #[] 0)) (.cells #[.pointer (some ⟨k, 0, none⟩), .slice none 0 0, .map (some w1.heap.size)] 76)
  have h3 := HB1.out.size
  have h4 := HNU.out.map.lt
  have h5 := Blk.new (w1.alloc (.map #[] 0)) 76 #[.pointer (some ⟨k, 0, none⟩), .slice none 0 0, .map (some w1.heap.size)]
  rw [size_one] at h5
  exact ⟨_, k, bm, w1.heap.size, rfl, ⟨h5, (HNU.out.below h1).below h2, TOwn.nil _ _ _, (SitAt.made w1).below h2, by omega, h3, by omega⟩, below_alloc (below_alloc HB1.out _) _⟩

end Go.Proofs.YtckpgpgmaccepaaGreat

/- Sorted, and apart: what sites.Right asks for, in the words of the code. -/
namespace Go.Proofs.YtckpgpgmaccepaaGreat
open Go.RowKit

def nsB (T : List Si) : Bool := decide (∀ i, i < T.length - 1 → ltS (T.getD (i + 1) ⟨0, 0, 0⟩) (T.getD i ⟨0, 0, 0⟩) = false)
theorem getD_si {T : List Si} {i : Nat} (h : i < T.length) : T.getD i ⟨0, 0, 0⟩ = T[i] := by simp [List.getD, h]

/-- no two places share a byte -/
def apP (L : List Int) : Prop := L.Pairwise fun a b => ¬ (b - a < 5 ∧ a - b < 5)
instance (L : List Int) : Decidable (apP L) := inferInstanceAs (Decidable (L.Pairwise _))

theorem lt_asym {a b : Si} (h : ltS a b = true) : ltS b a = false := by
  unfold ltS at *
  simp only [decide_eq_true_eq] at h
  exact decide_eq_false (by omega)
theorem lt_of_not {a b : Si} (h : ltS b a = false) (hd : a.at_ ≠ b.at_) : ltS a b = true := by
  unfold ltS at *
  simp only [decide_eq_false_iff_not] at h
  exact decide_eq_true (by omega)

theorem ns_pair {T : List Si} (ha : apP (T.map (·.at_))) : nsB T = true ↔ T.Pairwise fun a b => ltS a b = true := by
  have hd : ∀ i j (hi : i < T.length) (hj : j < T.length), i < j → T[i].at_ ≠ T[j].at_ := by
    intro i j hi hj hij e
    have := List.pairwise_iff_getElem.1 ha i j (by simpa using hi) (by simpa using hj) hij
    simp only [List.getElem_map] at this
    omega
  unfold nsB
  rw [decide_eq_true_eq]
  constructor
  · intro h
    have hc : ∀ i (hi : i + 1 < T.length), ltS T[i] T[i + 1] = true := by
      intro i hi
      have := h i (by omega)
      rw [getD_si hi, getD_si (by omega)] at this
      exact lt_of_not this (hd i (i + 1) (by omega) hi (by omega))
    have hg : ∀ d i (hi : i + (d + 1) < T.length), ltS T[i] T[i + (d + 1)] = true := by
      intro d
      induction d with
      | zero => exact fun i hi => hc i hi
      | succ d ih => exact fun i hi => ltS_trans (ih i (by omega)) (hc (i + (d + 1)) hi)
    refine List.pairwise_iff_getElem.2 fun i j hi hj hij => ?_
    obtain ⟨d, rfl⟩ : ∃ d, j = i + (d + 1) := ⟨j - i - 1, by omega⟩
    exact hg d i hj
  · intro h i hi'
    have hi : i + 1 < T.length := by omega
    rw [getD_si hi, getD_si (by omega)]
    exact lt_asym (List.pairwise_iff_getElem.1 h i (i + 1) (by omega) hi (by omega))

theorem right_eq (T : List Si) (n : Int) : rightS T n = (decide (0 ≤ n ∧ n ≤ 64 ∧ T.length ≤ 256) && T.all (siteB n) && (nsB T && decide (apP (T.map (·.at_))))) := by
  have hap : (T.Pairwise fun a b => ¬ (b.at_ - a.at_ < 5 ∧ a.at_ - b.at_ < 5)) ↔ apP (T.map (·.at_)) := by unfold apP; rw [List.pairwise_map]
  unfold rightS
  rw [show decide (T.Pairwise fun a b => ¬ (b.at_ - a.at_ < 5 ∧ a.at_ - b.at_ < 5)) = decide (apP (T.map (·.at_))) from decide_eq_decide.2 hap]
  by_cases h : apP (T.map (·.at_))
  · rw [decide_eq_true h, Bool.and_true, Bool.and_true]
    congr 1
    have := ns_pair h
    cases hn : nsB T with
    | true => exact decide_eq_true (this.1 hn)
    | false => exact decide_eq_false fun hp => by rw [this.2 hp] at hn; cases hn
  · rw [decide_eq_false h, Bool.and_false, Bool.and_false, Bool.and_false]

/-- of a sorted list of places: neighbours tell all -/
def adjB (P : List Int) : Bool := decide (∀ i, i < P.length - 1 → ¬ P.getD (i + 1) 0 - P.getD i 0 < 5)
theorem adj_ap {P : List Int} (hs : P.Pairwise fun a b => a ≤ b) : adjB P = decide (apP P) := by
  unfold adjB
  refine decide_eq_decide.2 ⟨fun h => ?_, fun h i hi' => ?_⟩
  · have hc : ∀ i (hi : i + 1 < P.length), P[i] + 5 ≤ P[i + 1] := by
      intro i hi
      have := h i (by omega)
      simp only [List.getD, List.getElem?_eq_getElem hi, List.getElem?_eq_getElem (show i < P.length by omega), Option.getD_some] at this
      omega
    refine List.pairwise_iff_getElem.2 fun i j hi hj hij => ?_
    obtain ⟨d, rfl⟩ : ∃ d, j = i + (d + 1) := ⟨j - i - 1, by omega⟩
    have h1 := hc i (by omega)
    have h2 : P[i + 1] ≤ P[i + (d + 1)] := by
      by_cases e : d = 0
      · subst e; exact Int.le_refl _
      · exact List.pairwise_iff_getElem.1 hs (i + 1) (i + (d + 1)) (by omega) hj (by omega)
    omega
  · have hi : i + 1 < P.length := by omega
    have h1 := List.pairwise_iff_getElem.1 h i (i + 1) (by omega) hi (by omega)
    have h2 := List.pairwise_iff_getElem.1 hs i (i + 1) (by omega) hi (by omega)
    simp only [List.getD, List.getElem?_eq_getElem hi, List.getElem?_eq_getElem (show i < P.length by omega), Option.getD_some]
    omega
theorem ap_perm {L P : List Int} (h : L.Perm P) : apP L ↔ apP P :=
  h.pairwise_iff (fun {a b} hab => by omega)

end Go.Proofs.YtckpgpgmaccepaaGreat
