/- Texts put together: TabA, Cl3, TabB, TabC, TabD, TabE, TabF. -/
import Derived.Test.YtkpieeldoielgaaGq
import Derived.Test.YtkpieeldoielgaaGb
import Derived.Test.YtkpieeldoielgaaNamL
import Derived.Test.YtkpieeldoielgaaHidd
import Derived.Test.YtkpieeldoielgaaRightL
import Derived.Shelf.SlMaps.Clone
import Derived.Test.YtkpieeldoielgaaGc
import Derived.BigQuiet
import Derived.Deep.QuietTactic
import Derived.Test.YtkpieeldoielgaaShelfC
import Derived.Deep.RegionHeld3

/- Ours: keys.Table in memory: its counts in a map. -/
namespace Go.Proofs.Ytkpieeldoielgaa
open Go.RowKit Go.Maps Go.WideMaps Go.Shelf Go.ChangeMaps

def ik (a : Int) : Lit := .int .i64 a
theorem ik_inj {a b : Int} (h : ik a = ik b) : a = b := by unfold ik at h; injection h
theorem ik_is (a : Int) : WideAt.IsKeyLit (ik a) := by simp [ik, WideAt.IsKeyLit]
theorem law3 : Keyed Try.prog 3 := int_keyed Try.underlying3
theorem Try.und64 : Try.prog.underlying 64 = some (.map 3 3) := by kernel_rfl
/-- whether a number is a key's -/
def inK (n : Nat) (z : Int) : Bool := decide (0 ≤ z ∧ z < n)
/-- a map of counts, by the keys' numbers -/
def CntD (D : DataW Unit) (cs : List Int) : Prop := ∀ z : Int, has D (ik z) = inK cs.length z ∧ ∀ i, i < cs.length → z = i → D.atKey (ik z) (.lit (.int .i64 0)) = .lit (.int .i64 (cs.getD i 0))
def CntAt (w : World) (b n : Nat) (cs : List Int) : Prop := ∃ D : DataW Unit, w.ownsMap Try.prog 3 (plainElem Try.prog 3) b n D ∧ CntD D cs
theorem CntAt.made (w : World) : CntAt (w.alloc (.map #[] 0)) w.heap.size 0 [] := ⟨_, World.ownsMap_made _ _ _ _, fun z => ⟨by simp only [has_eq, inK, List.length_nil]; simp, fun i h => absurd h (by simp)⟩⟩
theorem CntAt.below {w w' : World} {b n : Nat} {cs : List Int} (h : CntAt w b n cs) (hb : Below w.heap.size w w') : CntAt w' b n cs := by
  obtain ⟨D, h1, h2⟩ := h
  obtain ⟨es, clock, e1, e2⟩ := h1
  exact ⟨D, ⟨es, clock, (hb.block b (Array.getElem?_eq_some_iff.1 e1).1).trans e1, e2⟩, h2⟩
theorem CntAt.keeps {G : Nat → Prop} {w w' : World} {b n : Nat} {cs : List Int} (h : CntAt w b n cs) (hk : Keeps G w w') (hb : ¬ G b) : CntAt w' b n cs := by
  obtain ⟨D, h1, h2⟩ := h
  have hl := h1.lt
  obtain ⟨es, clock, e1, e2⟩ := h1
  exact ⟨D, ⟨es, clock, (hk.block b hl hb).trans e1, e2⟩, h2⟩
theorem CntAt.kept {w w' : World} {row : Option Nat} {b n : Nat} {cs : List Int} (h : CntAt w b n cs) (hg : w.grownBy w' row) (hne : some b ≠ row) : CntAt w' b n cs := by
  obtain ⟨D, h1, h2⟩ := h
  exact ⟨D, h1.kept hg hne, h2⟩
theorem CntAt.lt {w : World} {b n : Nat} {cs : List Int} (h : CntAt w b n cs) : b < w.heap.size := by
  obtain ⟨D, h1, _⟩ := h
  exact h1.lt
theorem CntAt.isMap {w : World} {b n : Nat} {cs : List Int} (h : CntAt w b n cs) : ∃ es c, w.heap[b]? = some (.map es c) := by
  obtain ⟨D, h1, _⟩ := h
  obtain ⟨es, c, e, _⟩ := h1
  exact ⟨es, c, e⟩
theorem CntAt.notBlk {w : World} {b n h : Nat} {cs : List Int} {T : TypeId} {c : Array Value} (hc : CntAt w b n cs) (hb : Blk w h T c) : h ≠ b := fun e => by
  obtain ⟨es, c', e1⟩ := hc.isMap
  have e2 : w.heap[h]? = _ := hb
  rw [e, e1] at e2
  cases e2
theorem CntAt.same {w W : World} {b n : Nat} {cs : List Int} (h : CntAt w b n cs) (hW : W.heap[b]? = w.heap[b]?) : CntAt W b n cs := by
  obtain ⟨D, h1, h2⟩ := h
  obtain ⟨es, clock, e1, e2⟩ := h1
  exact ⟨D, ⟨es, clock, hW.trans e1, e2⟩, h2⟩
theorem ik_key {z : Int} (hz : i64P z) : keyOf Try.prog 3 (.int .i64 z) = some (ik z) := keyOf_int_mk Try.underlying3 (WalkArith.wf_i64 (by unfold i64P at hz; omega))
/-- 'n, ok := t.counts[key]' -/
theorem lit_inj {c d : Int} (h : (DataW.lit (.int .i64 c) : DataW Unit) = .lit (.int .i64 d)) : c = d := by
  injection h with h
  injection h
theorem CntAt.look {w : World} {b n : Nat} {cs : List Int} (h : CntAt w b n cs) (z : Int) (hz : i64P z) :
    ∃ c : Int, (∀ i, i < cs.length → z = i → c = cs.getD i 0) ∧ ∀ W : World, W.heap[b]? = w.heap[b]? → (Instr.lookup 64 (.map (some b)) (.int .i64 z) true).run Try.prog W = .ok (.tuple #[.int .i64 c, .bool (inK cs.length z)]) W ∧ (Instr.lookup 64 (.map (some b)) (.int .i64 z) false).run Try.prog W = .ok (.int .i64 c) W := by
  have hall : ∀ W : World, W.heap[b]? = w.heap[b]? → ∀ D : DataW Unit, w.ownsMap Try.prog 3 (plainElem Try.prog 3) b n D → CntD D cs → ∃ c : Int, D.atKey (ik z) (.lit (.int .i64 0)) = .lit (.int .i64 c) ∧ (Instr.lookup 64 (.map (some b)) (.int .i64 z) true).run Try.prog W = .ok (.tuple #[.int .i64 c, .bool (inK cs.length z)]) W ∧ (Instr.lookup 64 (.map (some b)) (.int .i64 z) false).run Try.prog W = .ok (.int .i64 c) W := fun W hW D h1 h2 => by
    obtain ⟨es, clock, e1, e2⟩ := h1
    have h1' : W.ownsMap Try.prog 3 (plainElem Try.prog 3) b n D := ⟨es, clock, hW.trans e1, e2⟩
    obtain ⟨v, ps, hrun, hv⟩ := h1'.look_ok law3 Try.und64 (zero3 W) (plainElem_int Try.underlying3 (by decide)) (ik_key hz)
    obtain ⟨c, rfl, hc, hwc⟩ := plainElem_int_inv Try.underlying3 hv
    obtain ⟨c', hrun', hat', hwc'⟩ := h1'.lookup_int law3 Try.und64 Try.underlying3 (zero3 W) (ik_key hz)
    have hc1 := congrArg Prod.fst hc
    dsimp only at hc1
    have e : c' = c := lit_inj (hat'.symm.trans hc1)
    subst e
    rw [(h2 z).1] at hrun
    exact ⟨c', hc1, hrun, hrun'⟩
  obtain ⟨D, h1, h2⟩ := h
  obtain ⟨c, hc, _⟩ := hall w rfl D h1 h2
  refine ⟨c, fun i hi e => lit_inj (hc.symm.trans ((h2 z).2 i hi e)), fun W hW => ?_⟩
  obtain ⟨c', hc', hr⟩ := hall W hW D h1 h2
  have e : c' = c := lit_inj (hc'.symm.trans hc)
  rw [← e]; exact hr
/-- 't.counts[key] = u' -/
theorem CntAt.put {w : World} {b n : Nat} {cs : List Int} (h : CntAt w b n cs) (i : Nat) (hi : i < cs.length) (u : Int) (hu : i64P u) (hl : cs.length ≤ 1048576) (hn : n ≤ 1048576) :
    ∃ w', (Instr.mapUpdate 64 (.map (some b)) (.int .i64 i) (.int .i64 u)).run Try.prog w = .ok () w' ∧ CntAt w' b (n + 1) (cs.set i u) ∧ w.grownBy w' (some b) := by
  obtain ⟨D, h1, h2⟩ := h
  obtain ⟨w', hr, ho, hg⟩ := h1.update law3 Try.und64 (by unfold maxLen; omega) (ik_key (z := (i : Int)) (by unfold i64P; omega)) (plainElem_int Try.underlying3 (WalkArith.wf_i64 (by unfold i64P at hu; omega)) (a := u))
  refine ⟨w', hr, ⟨_, ho, fun z => ?_⟩, hg⟩
  have hls : (cs.set i u).length = cs.length := List.length_set
  rw [hls]
  by_cases e : z = i
  · subst e
    refine ⟨?_, fun j hj ej => ?_⟩
    · rw [has_put_same h1.isMap (ik_is _)]
      unfold inK
      exact (decide_eq_true ⟨by omega, by omega⟩).symm
    · rw [atKey_put_same h1.isMap (ik_is _)]
      have : i = j := by omega
      subst this
      simp [List.getD, hi]
  · have hne : ik z ≠ ik i := fun e' => e (ik_inj e')
    refine ⟨by rw [has_put_other hne]; exact (h2 z).1, fun j hj ej => ?_⟩
    rw [atKey_put_other hne, List.getD, List.getElem?_set_ne (by omega)]
    exact (h2 z).2 j hj ej
/-- a key more -/
theorem CntAt.add {w : World} {b n : Nat} {cs : List Int} (h : CntAt w b n cs) (u : Int) (hu : i64P u) (hl : cs.length ≤ 1048576) (hn : n ≤ 1048576) :
    ∃ w', (Instr.mapUpdate 64 (.map (some b)) (.int .i64 cs.length) (.int .i64 u)).run Try.prog w = .ok () w' ∧ CntAt w' b (n + 1) (cs ++ [u]) ∧ w.grownBy w' (some b) := by
  obtain ⟨D, h1, h2⟩ := h
  obtain ⟨w', hr, ho, hg⟩ := h1.update law3 Try.und64 (by unfold maxLen; omega) (ik_key (z := (cs.length : Int)) (by unfold i64P; omega)) (plainElem_int Try.underlying3 (WalkArith.wf_i64 (by unfold i64P at hu; omega)) (a := u))
  refine ⟨w', hr, ⟨_, ho, fun z => ?_⟩, hg⟩
  have hls : (cs ++ [u]).length = cs.length + 1 := by simp
  rw [hls]
  by_cases e : z = cs.length
  · subst e
    refine ⟨?_, fun j hj ej => ?_⟩
    · rw [has_put_same h1.isMap (ik_is _)]
      unfold inK
      exact (decide_eq_true ⟨by omega, by omega⟩).symm
    · rw [atKey_put_same h1.isMap (ik_is _)]
      have : j = cs.length := by omega
      subst this
      simp [List.getD]
  · have hne : ik z ≠ ik cs.length := fun e' => e (ik_inj e')
    refine ⟨?_, fun j hj ej => ?_⟩
    · rw [has_put_other hne, (h2 z).1]
      unfold inK
      by_cases h0 : 0 ≤ z ∧ z < cs.length
      · rw [decide_eq_true h0, decide_eq_true (by omega)]
      · rw [decide_eq_false h0, decide_eq_false (by omega)]
    · have hj' : j < cs.length := by omega
      rw [atKey_put_other hne, List.getD, List.getElem?_append_left hj']
      exact (h2 z).2 j hj' ej
/-- a table in block h, its map in block b -/
structure TabAt (w : World) (h b n : Nat) (cs : List Int) (op : Bool) (p : Option Addr) (c : Nat) (si : List Si) : Prop where
  blk : Blk w h 66 #[.map (some b), .slice p si.length c, .bool op]
  map : CntAt w b n cs
  row : Row3 w p (si.map siV)
  cap : si.length ≤ c
  off : ∀ a, p = some a → a.block ≠ h ∧ a.block ≠ b
  pl : ∀ a, p = some a → a.block < w.heap.size
  hn : n ≤ 524288
  hl : cs.length ≤ 64
  hs : si.length ≤ 256
  hc : ∀ i, i < cs.length → 0 ≤ cs.getD i 0 ∧ cs.getD i 0 ≤ 2147483647
/-- what may be turned by a table's calls -/
def G2 (h b : Nat) (j : Nat) : Prop := j = h ∨ j = b
theorem Row3.keeps {G : Nat → Prop} {w w' : World} {p : Option Addr} {L : List V3} (h : Row3 w p L) (hk : Keeps G w w') (hp : ∀ a, p = some a → ¬ G a.block) : Row3 w' p L := fun h0 => by
  obtain ⟨b, o, e, hc⟩ := h h0
  refine ⟨b, o, e, fun i hi j hj => ?_⟩
  have h1 := hc i hi j hj
  have hlt : b < w.heap.size := by
    have hl3 : j < (l3 L[i]).length := hj
    rw [List.getElem?_eq_getElem hl3] at h1
    exact cell_lt h1
  rw [← h1]
  have := hk.block b hlt (hp _ e)
  unfold World.cell?
  dsimp only
  rw [this]
theorem TabAt.ne {w : World} {h b n : Nat} {cs : List Int} {op : Bool} {p : Option Addr} {c : Nat} {si : List Si} (H : TabAt w h b n cs op p c si) : h ≠ b := H.map.notBlk H.blk
theorem TabAt.below {w w' : World} {h b n : Nat} {cs : List Int} {op : Bool} {p : Option Addr} {c : Nat} {si : List Si} (H : TabAt w h b n cs op p c si) (hb : Below w.heap.size w w') : TabAt w' h b n cs op p c si :=
  { H with blk := H.blk.grow hb, map := H.map.below hb, row := H.row.below hb, pl := fun a e => Nat.lt_of_lt_of_le (H.pl a e) hb.size }
theorem TabAt.keeps {G : Nat → Prop} {w w' : World} {h b n : Nat} {cs : List Int} {op : Bool} {p : Option Addr} {c : Nat} {si : List Si} (H : TabAt w h b n cs op p c si) (hk : Keeps G w w') (h1 : ¬ G h) (h2 : ¬ G b) (h3 : ∀ a, p = some a → ¬ G a.block) : TabAt w' h b n cs op p c si :=
  { H with blk := (hk.block h H.blk.lt h1).trans H.blk, map := H.map.keeps hk h2, row := H.row.keeps hk h3, pl := fun a e => Nat.lt_of_lt_of_le (H.pl a e) hk.size }
theorem TabAt.drewN {w : World} {h b n : Nat} {cs : List Int} {op : Bool} {p : Option Addr} {c : Nat} {si : List Si} (H : TabAt w h b n cs op p c si) (m : Nat) : TabAt (w.drewN m) h b n cs op p c si := H.below (below_draws (below_self w) m)
/-- 't.open = v' -/
theorem TabAt.setOpen {w : World} {h b n : Nat} {cs : List Int} {op : Bool} {p : Option Addr} {c : Nat} {si : List Si} (H : TabAt w h b n cs op p c si) (v : Bool) : TabAt (w.setCell ⟨h, 2, none⟩ (.bool v)) h b n cs v p c si :=
  { H with
    blk := H.blk.set 2 (.bool v)
    map := H.map.keeps (keeps_set (G := fun j => j = h) w h 2 _ rfl) (fun e => H.ne e.symm)
    row := H.row.keeps (keeps_set (G := fun j => j = h) w h 2 _ rfl) (fun a e => (H.off a e).1)
    pl := fun a e => by rw [World.size_setCell]; exact H.pl a e }
/-- a count is turned -/
theorem TabAt.turned {w w' : World} {h b n : Nat} {cs : List Int} {op : Bool} {p : Option Addr} {c : Nat} {si : List Si} {i : Nat} {u : Int} (H : TabAt w h b n cs op p c si) (hg : w.grownBy w' (some b)) (hm : CntAt w' b (n + 1) (cs.set i u)) (hu : 0 ≤ u ∧ u ≤ 2147483647) (hn : n < 524288) : TabAt w' h b (n + 1) (cs.set i u) op p c si :=
  { H with
    blk := H.blk.kept hg (fun e => H.ne (by injection e))
    map := hm
    row := H.row.keeps (keeps_grown hg) (fun a e => (H.off a e).2)
    pl := fun a e => Nat.lt_of_lt_of_le (H.pl a e) hg.size
    hn := by omega
    hl := by rw [List.length_set]; exact H.hl
    hc := fun j hj => by
      rw [List.length_set] at hj
      by_cases e : i = j
      · subst e; simp only [List.getD, List.getElem?_set_self hj, Option.getD_some]; exact hu
      · rw [List.getD, List.getElem?_set_ne e]; exact H.hc j hj }
end Go.Proofs.Ytkpieeldoielgaa

/- slices.Clone of sites. -/
namespace Go.Proofs.Ytkpieeldoielgaa
open Go.RowKit

theorem one_c3 (L : List Si) : ∀ u ∈ c3 (L.map siV), u.oneCell' = true := by
  intro u hu
  simp only [c3, List.mem_flatMap, List.mem_map] at hu
  obtain ⟨q, ⟨s, _, rfl⟩, hq⟩ := hu
  simp only [l3, siV, List.mem_cons, List.not_mem_nil, or_false] at hq
  rcases hq with rfl | rfl | rfl <;> rfl
theorem row3_news {w : World} {p : Option Addr} {L : List Si} (h : Row3 w p (L.map siV)) {ad : Addr} (hp : p = some ad) : ∀ j u, (c3 (L.map siV))[j]? = some u → w.cell? (ad.add j) = some u := by
  intro j u hj
  have hl : j < (c3 (L.map siV)).length := (List.getElem?_eq_some_iff.1 hj).1
  rw [c3_len] at hl
  obtain ⟨b, o, e, hc⟩ := h (by omega)
  rw [hp] at e
  injection e with e
  subst e
  rw [Go.WideShapes.add_plain]
  have h1 := hc (j / 3) (by omega) (j % 3) (Nat.mod_lt _ (by decide))
  have h2 := c3_at (L.map siV) (j / 3) (by omega) (j % 3) (Nat.mod_lt _ (by decide))
  rw [show j / 3 * 3 + j % 3 = j by omega, hj] at h2
  show w.cell? ⟨b, o + j, none⟩ = _
  rw [show o + j = o + j / 3 * 3 + j % 3 by omega, h1, h2]
/-- append of a whole list of sites to an empty one -/
theorem push_all {ops : Array Oper} {rest : List Oper} {o : Oper} {a : Act} {Q : Exit → Act → World → Prop} (w : World) (hgd : o.guard = none) (s x : Operand)
    (ho : o.op = .call { callee := .builtin .append, args := #[s, x], argTypes := #[28, 28] }) (B : Nat) (v : Value) (hs : a.eval s = v) (hown : TOwn 41 w B v [])
    (ad : Addr) (c : Nat) (L : List Si) (hx : a.eval x = .slice (some ad) L.length c) (hr : Row3 w (some ad) (L.map siV)) (hby : L.length * 24 ≤ 140737488355328) (hB : B ≤ w.heap.size)
    (h : ∀ v' w', TOwn 41 w' B v' (L.map siV) → (∀ w0, Below B w0 w → Below B w0 w') → wpList Try.prog ops Q rest (a.put o.dst v') w') :
    wpList Try.prog ops Q (o :: rest) a w := by
  obtain ⟨hu, z, hzc, hinfo⟩ := Try.elemSite
  obtain ⟨i0, hi, hz0, hz1, hz2⟩ := info_parts hinfo
  refine wpList_append_own w hgd s x 28 ho B 41 i0 z 3 24 hu hi hz0 hz1 hz2 hzc (by decide) v 0 (c3 []) hs hown ad L.length c (c3 (L.map siV)) hx (by rw [c3_len, List.length_map]) (row3_news hr rfl) (one_c3 L) (by unfold maxLen; omega) (by omega) hB ?_
  intro v' w' h2 h3 _
  refine h v' w' ?_ (fun w0 hb => hb.grown h3 hB fun k hk => (World.ownsRow.lt hown k hk).1)
  unfold TOwn
  rw [List.length_map]
  simpa [c3] using h2
theorem snil_yes (c : Nat) (W : World) : (binOp .eql 28 (.slice none 0 c) (.slice none 0 0)).run Try.prog W = .ok (.bool true) W := by kernel_rfl
theorem snil_no (ad : Addr) (n c : Nat) (W : World) : (binOp .eql 28 (.slice (some ad) n c) (.slice none 0 0)).run Try.prog W = .ok (.bool false) W := by kernel_rfl
set_option maxRecDepth 20000 in
set_option maxHeartbeats 1000000 in
theorem sclone_any (p : Option Addr) (c : Nat) (L : List Si) (w : World) (hn : L.length * 24 ≤ 140737488355328) (hp : p = none → L = []) (hr : Row3 w p (L.map siV)) :
    Calls Try.prog 31 #[.slice p L.length c] w fun E w' => ∃ v, E = .returned v ∧ TOwn 41 w' w.heap.size v (L.map siV) ∧ Below w.heap.size w w' := by
  cases p with
  | none =>
    obtain rfl := hp rfl
    clear hn hr hp
    have hnl := fun W => snil_yes c W
    go_enter Try.func31, Try.ntmps31
    go_wp2_with fail
    go_ret
    exact ⟨_, rfl, TOwn.nil _ _ _, below_self _⟩
  | some ad =>
    have H1 := Hid.in hr
    clear hp hr
    have HO : Hid (TOwn 41 (w.alloc (.cells #[] 41)) w.heap.size (.slice (some ⟨w.heap.size, 0, none⟩) 0 0) []) :=
      ⟨rfl, .inr ⟨w.heap.size, 0, #[], rfl, Nat.le_refl _, Blk.new w 41 #[], Nat.le_refl _, Nat.zero_le _, rfl, rfl⟩⟩
    have H2 := Hid.in (H1.out.below (new_alloc w (.cells #[] 41)))
    have hnl := fun W => snil_no ad L.length c W
    go_enter Try.func31, Try.ntmps31
    go_wp2_with (refine push_all _ rfl _ _ rfl w.heap.size _ rfl HO.out ad c L rfl H2.out hn (by simp) ?_; intro v5 w5 hT5 hb5; have HT5 := Hid.in hT5; have HB5 := Hid.in (hb5 w (new_alloc w _)); clear hT5 hb5)
    go_ret
    exact ⟨_, rfl, HT5.out, HB5.out⟩
end Go.Proofs.Ytkpieeldoielgaa

/- Ours: keys.Table: none, Count, On, Busy, Return; what a call does to a count. -/
namespace Go.Proofs.Ytkpieeldoielgaa
open Go.RowKit Go.Maps Go.WideMaps Go.Shelf Go.ChangeMaps

set_option maxHeartbeats 400000 in
theorem tnone_no (q b : Nat) (w : World) (hc : w.cell? ⟨q, 0, none⟩ = some (.map (some b))) :
    Calls Try.prog 34 #[.pointer (some ⟨q, 0, none⟩)] w fun e w' => e = .returned (.bool false) ∧ w' = w := by
  have hq := fun w => run_eql_map_nil_sl (P := Try.prog) w 64 _ _ (some b) Try.und64
  go_enter Try.func34, Try.ntmps34
  go_wp2
  go_ret
  exact ⟨rfl, rfl⟩
set_option maxHeartbeats 400000 in
theorem tnone_zero (q : Nat) (w : World) (hc : w.cell? ⟨q, 0, none⟩ = some (.map none)) :
    Calls Try.prog 34 #[.pointer (some ⟨q, 0, none⟩)] w fun e w' => e = .returned (.bool true) ∧ w' = w := by
  have hq := fun w => run_eql_map_nil_sl (P := Try.prog) w 64 _ _ none Try.und64
  go_enter Try.func34, Try.ntmps34
  go_wp2
  go_ret
  exact ⟨rfl, rfl⟩
set_option maxHeartbeats 400000 in
theorem tnone_nil (w : World) : Calls Try.prog 34 #[.pointer none] w fun e w' => e = .returned (.bool true) ∧ w' = w := by
  go_enter Try.func34, Try.ntmps34
  go_wp2
  go_ret
  exact ⟨rfl, rfl⟩
section
variable (h b n : Nat) (cs : List Int) (op : Bool) (p : Option Addr) (c : Nat) (si : List Si) (w : World)
/-- what Count answers -/
def cntL (cs : List Int) (z : Int) : Int × Int := if 0 ≤ z ∧ z < cs.length then (cs.getD z.toNat 0, 0) else (0, 311)
set_option maxHeartbeats 800000 in
theorem count_any (H : TabAt w h b n cs op p c si) (z : Int) (hz : i64P z) :
    Calls Try.prog 14 #[.pointer (some ⟨h, 0, none⟩), .int .i64 z] w fun e w' => e = .returned (.tuple #[.int .i64 (cntL cs z).1, .int .i64 (cntL cs z).2]) ∧ w' = w := by
  have hN := tnone_no h b w (H.blk.cell 0)
  have c0 : w.cell? ⟨h, 0, none⟩ = some (.map (some b)) := H.blk.cell 0
  obtain ⟨x, hx, hr⟩ := H.map.look z hz
  have hlk := (hr w rfl).1
  clear hr
  by_cases hk : 0 ≤ z ∧ z < cs.length
  · have e1 : inK cs.length z = true := decide_eq_true hk
    have e2 : cntL cs z = (x, 0) := by
      unfold cntL
      rw [if_pos hk, hx z.toNat (by omega) (by omega)]
    rw [e1] at hlk
    rw [e2]
    clear H e1 e2 hx
    go_enter Try.func14, Try.ntmps14
    go_wp2_with (go_at_call 34; refine hN.mono ?_; rintro e w1 ⟨rfl, rfl⟩)
    go_ret2
    exact ⟨rfl, rfl⟩
  · have e1 : inK cs.length z = false := decide_eq_false hk
    have e2 : cntL cs z = (0, 311) := if_neg hk
    rw [e1] at hlk
    rw [e2]
    clear H e1 e2 hx
    go_enter Try.func14, Try.ntmps14
    go_wp2_with (go_at_call 34; refine hN.mono ?_; rintro e w1 ⟨rfl, rfl⟩)
    go_ret2
    exact ⟨rfl, rfl⟩
set_option maxHeartbeats 800000 in
theorem on_any (H : TabAt w h b n cs op p c si) (z : Int) (hz : i64P z) :
    Calls Try.prog 13 #[.pointer (some ⟨h, 0, none⟩), .int .i64 z] w fun e w' => e = .returned (.tuple #[.bool (decide (0 < (cntL cs z).1)), .int .i64 (cntL cs z).2]) ∧ w' = w := by
  have hN := count_any h b n cs op p c si w H z hz
  clear H
  generalize cntL cs z = q at *
  go_enter Try.func13, Try.ntmps13
  go_wp2_with (go_at_call 14; refine hN.mono ?_; rintro e w1 ⟨rfl, rfl⟩)
  go_ret2
  exact ⟨rfl, rfl⟩
set_option maxHeartbeats 800000 in
theorem busy_any (H : TabAt w h b n cs op p c si) :
    Calls Try.prog 27 #[.pointer (some ⟨h, 0, none⟩)] w fun e w' => e = .returned (.bool op) ∧ w' = w := by
  have hN := tnone_no h b w (H.blk.cell 0)
  have c0 : w.cell? ⟨h, 2, none⟩ = some (.bool op) := H.blk.cell 2
  clear H
  go_enter Try.func27, Try.ntmps27
  go_wp2_with (go_at_call 34; refine hN.mono ?_; rintro e w1 ⟨rfl, rfl⟩)
  go_ret
  exact ⟨rfl, rfl⟩
set_option maxHeartbeats 800000 in
theorem return_any (H : TabAt w h b n cs op p c si) :
    Calls Try.prog 12 #[.pointer (some ⟨h, 0, none⟩)] w fun e w' => e = .returned (.int .i64 (if op = true then 0 else 2)) ∧ TabAt w' h b n cs false p c si ∧ Keeps (G2 h b) w w' := by
  have hN := tnone_no h b w (H.blk.cell 0)
  have c0 : w.cell? ⟨h, 2, none⟩ = some (.bool op) := H.blk.cell 2
  have f0 : w.frozen? ⟨h, 2, none⟩ = false := H.blk.free 2
  have HT := Hid.in H
  have HS := Hid.in (H.setOpen false)
  have HK := Hid.in (keeps_set (G := G2 h b) w h 2 (.bool false) (.inl rfl))
  clear H
  cases op
  · go_enter Try.func12, Try.ntmps12
    go_wp2_with (go_at_call 34; refine hN.mono ?_; rintro e w1 ⟨rfl, rfl⟩)
    go_ret
    exact ⟨rfl, HT.out, Keeps.refl _ _⟩
  · go_enter Try.func12, Try.ntmps12
    go_wp2_with (go_at_call 34; refine hN.mono ?_; rintro e w1 ⟨rfl, rfl⟩)
    go_ret
    exact ⟨rfl, HS.out, HK.out⟩
end
end Go.Proofs.Ytkpieeldoielgaa

/- Ours: keys.Table: what a call does to a count. -/
namespace Go.Proofs.Ytkpieeldoielgaa
open Go.RowKit Go.Maps Go.WideMaps Go.Shelf Go.ChangeMaps

section
variable (h b n : Nat) (cs : List Int) (op : Bool) (p : Option Addr) (c : Nat) (si : List Si) (w : World) (gt gk : Nat)
set_option maxHeartbeats 1600000 in
theorem up_full (H : TabAt w h b n cs op p c si) (i : Nat) (hi : i < cs.length) (ht : w.cell? ⟨gt, 0, none⟩ = some (.pointer (some ⟨h, 0, none⟩))) (hk : w.cell? ⟨gk, 0, none⟩ = some (.int .i64 i)) (hx : cs.getD i 0 = 2147483647) :
    Calls Try.prog 50 #[.pointer (some ⟨gt, 0, none⟩), .pointer (some ⟨gk, 0, none⟩)] w fun e w' => e = .returned (.tuple #[.bool false, .int .i64 3]) ∧ ∃ m, w' = w.drewN m := by
  have c0 : w.cell? ⟨h, 0, none⟩ = some (.map (some b)) := H.blk.cell 0
  obtain ⟨x, hx1, hr⟩ := H.map.look i (by have := H.hl; unfold i64P; omega)
  have ex := hx1 i hi rfl
  rw [hx] at ex
  subst ex
  have hlk := fun m => (hr (w.drewN m) rfl).2
  have hlk0 := (hr w rfl).2
  clear hr hx1 H
  go_enter Try.func50, Try.ntmps50
  go_wp2
  go_quiet (fail)
  go_wp2
  go_ret2
  exact ⟨rfl, _, rfl⟩
set_option maxHeartbeats 1600000 in
theorem down_none (H : TabAt w h b n cs op p c si) (i : Nat) (hi : i < cs.length) (ht : w.cell? ⟨gt, 0, none⟩ = some (.pointer (some ⟨h, 0, none⟩))) (hk : w.cell? ⟨gk, 0, none⟩ = some (.int .i64 i)) (hx : cs.getD i 0 = 0) :
    Calls Try.prog 51 #[.pointer (some ⟨gt, 0, none⟩), .pointer (some ⟨gk, 0, none⟩)] w fun e w' => e = .returned (.tuple #[.bool false, .int .i64 312]) ∧ ∃ m, w' = w.drewN m := by
  have c0 : w.cell? ⟨h, 0, none⟩ = some (.map (some b)) := H.blk.cell 0
  obtain ⟨x, hx1, hr⟩ := H.map.look i (by have := H.hl; unfold i64P; omega)
  have ex := hx1 i hi rfl
  rw [hx] at ex
  subst ex
  have hlk := fun m => (hr (w.drewN m) rfl).2
  have hlk0 := (hr w rfl).2
  clear hr hx1 H
  go_enter Try.func51, Try.ntmps51
  go_wp2
  go_quiet (fail)
  go_wp2
  go_ret2
  exact ⟨rfl, _, rfl⟩
/-- what the closures read -/
theorem cell_kept {w w' : World} {b g i : Nat} {v : Value} (h : w.cell? ⟨g, i, none⟩ = some v) (hg : w.grownBy w' (some b)) (hne : g ≠ b) : w'.cell? ⟨g, i, none⟩ = some v := by
  have := hg.block g (cell_lt h) (fun e => hne (by injection e))
  rw [← h]
  unfold World.cell?
  dsimp only
  rw [this]
theorem regrown_block {w : World} {b : Nat} (hb : b < w.heap.size) (d : Nat) (os : Array Obj) : (Go.Sort.grow (redrawn w d) os).heap[b]? = w.heap[b]? := (below_regrown w d os).block b hb
set_option maxHeartbeats 3200000 in
theorem up_any (H : TabAt w h b n cs op p c si) (i : Nat) (hi : i < cs.length) (ht : w.cell? ⟨gt, 0, none⟩ = some (.pointer (some ⟨h, 0, none⟩))) (hk : w.cell? ⟨gk, 0, none⟩ = some (.int .i64 i)) (hx : cs.getD i 0 ≠ 2147483647) (hn : n < 524288) (hgt : gt ≠ b) (hgk : gk ≠ b) :
    Calls Try.prog 50 #[.pointer (some ⟨gt, 0, none⟩), .pointer (some ⟨gk, 0, none⟩)] w fun e w' => e = .returned (.tuple #[.bool (decide (cs.getD i 0 + 1 = 1)), .int .i64 0]) ∧ TabAt w' h b (n + 1) (cs.set i (cs.getD i 0 + 1)) op p c si ∧ Keeps (fun j => j = b) w w' := by
  have c0 : w.cell? ⟨h, 0, none⟩ = some (.map (some b)) := H.blk.cell 0
  have hi64 : i64P i := by have := H.hl; unfold i64P; omega
  obtain ⟨x, hx1, hr⟩ := H.map.look i hi64
  have ex := hx1 i hi rfl
  have hb := H.hc i hi
  rw [← ex] at hx hb ⊢
  have hlk := fun m => (hr (w.drewN m) rfl).2
  have hlk0 := (hr w rfl).2
  have hxb : (x == (2147483647 : Int)) = false := by simpa using hx
  have HR := Hid.in hr
  have HT := Hid.in H
  have HLT := Hid.in H.map.lt
  clear hr hx1 H ex
  go_enter Try.func50, Try.ntmps50
  go_wp2
  go_quiet (fail)
  go_upto_region 3 with fail
  have HT1 := Hid.in (HT.out.drewN nq)
  have t1 : (w.drewN nq).cell? ⟨gt, 0, none⟩ = some (.pointer (some ⟨h, 0, none⟩)) := ht
  have k1 : (w.drewN nq).cell? ⟨gk, 0, none⟩ = some (.int .i64 i) := hk
  have c1 : (w.drewN nq).cell? ⟨h, 0, none⟩ = some (.map (some b)) := c0
  have HK1 : Hid (Keeps (fun j => j = b) w (w.drewN nq)) := Keeps.ofBelow (below_draws (below_self w) nq)
  have HR1 : Hid (∀ W, W.heap[b]? = (w.drewN nq).heap[b]? → (Instr.lookup 64 (.map (some b)) (.int .i64 i) false).run Try.prog W = .ok (.int .i64 x) W) := fun W hW => (HR.out W hW).2
  clear HT HR hlk hlk0 ht hk c0
  generalize w.drewN nq = w1 at *
  have t1r := fun d os => cell_regrown t1 d os
  have k1r := fun d os => cell_regrown k1 d os
  have c1r := fun d os => cell_regrown c1 d os
  have l1r := fun d os => HR1.out _ (regrown_block HT1.out.map.lt d os)
  have hwr : IntKind.i64.wrap (x + 1) = x + 1 := by rw [IntKind.wrap_i64]; omega
  refine wp_region_noPanic ?_
  refine wp_region_sink 7 [7] 1 (by kernel_rfl) (by kernel_rfl) (by kernel_rfl) (by kernel_rfl) (by kernel_rfl) (fun _ _ _ _ _ h => h) ?_
  simp only [List.take_succ_cons, List.take_zero]
  iterate 7 (go_big_quiet_step (fail))
  refine wpQuiet_nil ?_
  rintro _ ⟨⟨dq, osq⟩, rfl⟩
  have hbq : Below w1.heap.size w1 (Go.Sort.grow (redrawn w1 dq) osq) := below_regrown w1 dq osq
  have t2 := t1r dq osq
  have k2 := k1r dq osq
  generalize Go.Sort.grow (redrawn w1 dq) osq = w2 at hbq t2 k2 ⊢
  have HT2 := Hid.in (HT1.out.below hbq)
  have HK2 := Hid.in (HK1.out.thenB hbq)
  clear t1r k1r c1r l1r t1 k1 c1 hbq HT1 HK1 HR1
  obtain ⟨w3, hput, hC3, hG3⟩ := HT2.out.map.put i hi (x + 1) (by unfold i64P; omega) (by have := HT2.out.hl; omega) (by omega)
  have t3 : w3.cell? ⟨gt, 0, none⟩ = some (.pointer (some ⟨h, 0, none⟩)) := cell_kept t2 hG3 hgt
  have k3 : w3.cell? ⟨gk, 0, none⟩ = some (.int .i64 i) := cell_kept k2 hG3 hgk
  have HT3 := Hid.in (HT2.out.turned hG3 hC3 (by omega) hn)
  have HK3 : Hid (Keeps (fun j => j = b) w w3) := HK2.out.trans' (keeps_grown hG3)
  clear hC3 hG3 HT2 HK2 t2 k2
  refine wpAnyG_last (i := 7) (by kernel_rfl) rfl rfl (fun K hK => ?_)
  go_simp
  refine hK.out _ _ ?_
  clear hK K
  refine wpAnyG_done (by kernel_rfl) ?_ _
  refine NoPanic.normal ?_
  clear hput
  have c3 : w3.cell? ⟨h, 0, none⟩ = some (.map (some b)) := HT3.out.blk.cell 0
  obtain ⟨y, hy1, hr3⟩ := HT3.out.map.look i hi64
  have ey := hy1 i (by rw [List.length_set]; exact hi) rfl
  have e2 : (cs.set i (x + 1)).getD i 0 = x + 1 := by simp [List.getD, hi]
  rw [e2] at ey
  subst ey
  have l3 := fun m => (hr3 (w3.drewN m) rfl).2
  have l30 := (hr3 w3 rfl).2
  clear hr3 hy1 e2
  go_simp
  go_wp2
  go_quiet (fail)
  go_wp2
  go_ret2
  refine ⟨?_, HT3.out.drewN _, HK3.out.drewN _⟩
  by_cases h1 : x + 1 = 1
  · have e1 : (x + 1 == (1 : Int)) = true := by simp; omega
    simp [h1]
  · have e1 : (x + 1 == (1 : Int)) = false := by simp; omega
    simp [h1, e1]
set_option maxHeartbeats 3200000 in
theorem down_any (H : TabAt w h b n cs op p c si) (i : Nat) (hi : i < cs.length) (ht : w.cell? ⟨gt, 0, none⟩ = some (.pointer (some ⟨h, 0, none⟩))) (hk : w.cell? ⟨gk, 0, none⟩ = some (.int .i64 i)) (hx : cs.getD i 0 ≠ 0) (hn : n < 524288) (hgt : gt ≠ b) (hgk : gk ≠ b) :
    Calls Try.prog 51 #[.pointer (some ⟨gt, 0, none⟩), .pointer (some ⟨gk, 0, none⟩)] w fun e w' => e = .returned (.tuple #[.bool (decide (cs.getD i 0 - 1 = 0)), .int .i64 0]) ∧ TabAt w' h b (n + 1) (cs.set i (cs.getD i 0 - 1)) op p c si ∧ Keeps (fun j => j = b) w w' := by
  have c0 : w.cell? ⟨h, 0, none⟩ = some (.map (some b)) := H.blk.cell 0
  have hi64 : i64P i := by have := H.hl; unfold i64P; omega
  obtain ⟨x, hx1, hr⟩ := H.map.look i hi64
  have ex := hx1 i hi rfl
  have hb := H.hc i hi
  rw [← ex] at hx hb ⊢
  have hlk := fun m => (hr (w.drewN m) rfl).2
  have hlk0 := (hr w rfl).2
  have hxb : (x == (0 : Int)) = false := by simpa using hx
  have HR := Hid.in hr
  have HT := Hid.in H
  have HLT := Hid.in H.map.lt
  clear hr hx1 H ex
  go_enter Try.func51, Try.ntmps51
  go_wp2
  go_quiet (fail)
  go_upto_region 3 with fail
  have HT1 := Hid.in (HT.out.drewN nq)
  have t1 : (w.drewN nq).cell? ⟨gt, 0, none⟩ = some (.pointer (some ⟨h, 0, none⟩)) := ht
  have k1 : (w.drewN nq).cell? ⟨gk, 0, none⟩ = some (.int .i64 i) := hk
  have c1 : (w.drewN nq).cell? ⟨h, 0, none⟩ = some (.map (some b)) := c0
  have HK1 : Hid (Keeps (fun j => j = b) w (w.drewN nq)) := Keeps.ofBelow (below_draws (below_self w) nq)
  have HR1 : Hid (∀ W, W.heap[b]? = (w.drewN nq).heap[b]? → (Instr.lookup 64 (.map (some b)) (.int .i64 i) false).run Try.prog W = .ok (.int .i64 x) W) := fun W hW => (HR.out W hW).2
  clear HT HR hlk hlk0 ht hk c0
  generalize w.drewN nq = w1 at *
  have t1r := fun d os => cell_regrown t1 d os
  have k1r := fun d os => cell_regrown k1 d os
  have c1r := fun d os => cell_regrown c1 d os
  have l1r := fun d os => HR1.out _ (regrown_block HT1.out.map.lt d os)
  have hwr : IntKind.i64.wrap (x - 1) = x - 1 := by rw [IntKind.wrap_i64]; omega
  refine wp_region_noPanic ?_
  refine wp_region_sink 7 [7] 1 (by kernel_rfl) (by kernel_rfl) (by kernel_rfl) (by kernel_rfl) (by kernel_rfl) (fun _ _ _ _ _ h => h) ?_
  simp only [List.take_succ_cons, List.take_zero]
  iterate 7 (go_big_quiet_step (fail))
  refine wpQuiet_nil ?_
  rintro _ ⟨⟨dq, osq⟩, rfl⟩
  have hbq : Below w1.heap.size w1 (Go.Sort.grow (redrawn w1 dq) osq) := below_regrown w1 dq osq
  have t2 := t1r dq osq
  have k2 := k1r dq osq
  generalize Go.Sort.grow (redrawn w1 dq) osq = w2 at hbq t2 k2 ⊢
  have HT2 := Hid.in (HT1.out.below hbq)
  have HK2 := Hid.in (HK1.out.thenB hbq)
  clear t1r k1r c1r l1r t1 k1 c1 hbq HT1 HK1 HR1
  obtain ⟨w3, hput, hC3, hG3⟩ := HT2.out.map.put i hi (x - 1) (by unfold i64P; omega) (by have := HT2.out.hl; omega) (by omega)
  have t3 : w3.cell? ⟨gt, 0, none⟩ = some (.pointer (some ⟨h, 0, none⟩)) := cell_kept t2 hG3 hgt
  have k3 : w3.cell? ⟨gk, 0, none⟩ = some (.int .i64 i) := cell_kept k2 hG3 hgk
  have HT3 := Hid.in (HT2.out.turned hG3 hC3 (by omega) hn)
  have HK3 : Hid (Keeps (fun j => j = b) w w3) := HK2.out.trans' (keeps_grown hG3)
  clear hC3 hG3 HT2 HK2 t2 k2
  refine wpAnyG_last (i := 7) (by kernel_rfl) rfl rfl (fun K hK => ?_)
  go_simp
  refine hK.out _ _ ?_
  clear hK K
  refine wpAnyG_done (by kernel_rfl) ?_ _
  refine NoPanic.normal ?_
  clear hput
  have c3 : w3.cell? ⟨h, 0, none⟩ = some (.map (some b)) := HT3.out.blk.cell 0
  obtain ⟨y, hy1, hr3⟩ := HT3.out.map.look i hi64
  have ey := hy1 i (by rw [List.length_set]; exact hi) rfl
  have e2 : (cs.set i (x - 1)).getD i 0 = x - 1 := by simp [List.getD, hi]
  rw [e2] at ey
  subst ey
  have l3 := fun m => (hr3 (w3.drewN m) rfl).2
  have l30 := (hr3 w3 rfl).2
  clear hr3 hy1 e2
  go_simp
  go_wp2
  go_quiet (fail)
  go_wp2
  go_ret2
  refine ⟨?_, HT3.out.drewN _, HK3.out.drewN _⟩
  by_cases h1 : x - 1 = 0
  · have e1 : (x - 1 == (0 : Int)) = true := by simp; omega
    simp [h1]
  · have e1 : (x - 1 == (0 : Int)) = false := by simp; omega
    simp [h1, e1]
end
end Go.Proofs.Ytkpieeldoielgaa

/- Ours: keys.Table: which sites a call tells; Call. -/
namespace Go.Proofs.Ytkpieeldoielgaa
open Go.RowKit Go.Maps Go.WideMaps Go.Shelf Go.ChangeMaps

theorem sslice_lo (q : Option Addr) (n d lo hi : Nat) (W : World) (h : lo ≤ hi) (h1 : hi ≤ n) (h2 : n ≤ d) : (Instr.sliceAt 28 (.slice q n d) (some (.int .i64 lo)) (some (.int .i64 hi)) none).run Try.prog W = .ok (.slice (if d = lo then q else q.map (·.add (lo * 3))) (hi - lo) (d - lo)) W := by
  have e0 : (0 : Int) ≤ (lo : Int) := by omega
  have e2 : (hi : Int) ≤ (d : Int) := by omega
  have e3 : (0 : Int) ≤ (hi : Int) := by omega
  simp [Instr.sliceAt, Instr.slice, Instr.sliceBounds, go_sem, e0, e2, e3]
  exact fun hx => absurd hx (by omega)
theorem sslice_lo' (q : Option Addr) (n d lo hi : Nat) (W : World) (h : lo ≤ hi) (h1 : hi ≤ n) (h2 : n ≤ d) : (Instr.slice 28 (.slice q n d) (some (.int .i64 lo)) (some (.int .i64 hi)) none).run Try.prog W = .ok (.slice (if d = lo then q else q.map (·.add (lo * 3))) (hi - lo) (d - lo)) W := by
  rw [← sslice_lo q n d lo hi W h h1 h2]
  simp [Instr.sliceAt, go_sem]
/-- t[lo:hi] -/
theorem sslice_any {w : World} {p : Option Addr} {c lo hi : Nat} {si : List Si} (h : Row3 w p (si.map siV)) (hc : si.length ≤ c) (hlo : lo ≤ hi) (hhi : hi ≤ si.length) :
    ∃ p', (∀ W, (Instr.sliceAt 28 (.slice p si.length c) (some (.int .i64 lo)) (some (.int .i64 hi)) none).run Try.prog W = .ok (.slice p' (hi - lo) (c - lo)) W) ∧ (∀ W, (Instr.slice 28 (.slice p si.length c) (some (.int .i64 lo)) (some (.int .i64 hi)) none).run Try.prog W = .ok (.slice p' (hi - lo) (c - lo)) W) ∧ Row3 w p' (((si.drop lo).take (hi - lo)).map siV) ∧ (p' = none → (si.drop lo).take (hi - lo) = []) := by
  refine ⟨_, fun W => sslice_lo p si.length c lo hi W hlo hhi hc, fun W => sslice_lo' p si.length c lo hi W hlo hhi hc, ?_, ?_⟩
  · intro h0
    rw [List.length_map, List.length_take, List.length_drop] at h0
    rw [if_neg (by omega)]
    obtain ⟨b, o, rfl, hc'⟩ := h (by rw [List.length_map]; omega)
    refine ⟨b, o + lo * 3, by rw [Option.map_some]; exact congrArg some (Go.WideShapes.add_plain _ _ _), fun i hi' j hj => ?_⟩
    rw [List.length_map, List.length_take, List.length_drop] at hi'
    have := hc' (lo + i) (by rw [List.length_map]; omega) j hj
    rw [show o + lo * 3 + i * 3 + j = o + (lo + i) * 3 + j by omega, this]
    simp only [List.getElem_map, List.getElem_take, List.getElem_drop]
  · intro e
    by_cases h0 : 0 < si.length
    · obtain ⟨b, o, rfl, -⟩ := h (by rw [List.length_map]; exact h0)
      split at e <;> simp at e
    · have : si = [] := List.eq_nil_of_length_eq_zero (by omega)
      rw [this]; simp
/-- the sites of a key -/
def ofK (si : List Si) (z : Int) : List Si := (si.drop (cutK si z)).take (cutK si (z + 1) - cutK si z)
section
variable (h b n : Nat) (cs : List Int) (op : Bool) (p : Option Addr) (c : Nat) (si : List Si) (w : World)
set_option maxHeartbeats 1600000 in
theorem sitesOf_any (H : TabAt w h b n cs op p c si) (z : Int) :
    Calls Try.prog 33 #[.pointer (some ⟨h, 0, none⟩), .int .i64 z] w fun e w' => ∃ v, e = .returned v ∧ TOwn 41 w' w.heap.size v ((ofK si z).map siV) ∧ Below w.heap.size w w' := by
  have hO := of_any p si.length c z si w rfl (by have := H.hs; omega) H.row
  have c0 : w.cell? ⟨h, 1, none⟩ = some (.slice p si.length c) := H.blk.cell 1
  have hle := cutK_le si (z + 1)
  have hmo := cutK_mono si (show z ≤ z + 1 by omega)
  obtain ⟨p', hs1, hs2, hr, hp⟩ := sslice_any H.row H.cap hmo hle
  have HT := Hid.in H
  have hLn : ((si.drop (cutK si z)).take (cutK si (z + 1) - cutK si z)).length = cutK si (z + 1) - cutK si z := by rw [List.length_take, List.length_drop]; omega
  have hC := fun W (hW : Below w.heap.size w W) => sclone_any p' (c - cutK si z) ((si.drop (cutK si z)).take (cutK si (z + 1) - cutK si z)) W (by rw [hLn]; have := H.hs; omega) hp (hr.below hW)
  rw [hLn] at hC
  have HF : Hid (ofK si z = (si.drop (cutK si z)).take (cutK si (z + 1) - cutK si z)) := rfl
  have h64 := H.hs
  clear hr hp hLn H
  generalize ofK si z = R at *
  rw [← HF.out] at hC
  clear HF
  generalize cutK si z = lo at *
  generalize cutK si (z + 1) = hi at *
  go_enter Try.func33, Try.ntmps33
  go_wp2_with (go_at_call 52; refine Hid.out ?_)
  refine Lib.hid ?_
  (with_reducible refine hO.mono ?_)
  rintro e w1 ⟨rfl, hb1⟩
  have c1 : w1.cell? ⟨h, 1, none⟩ = some (.slice p si.length c) := (HT.out.below hb1).blk.cell 1
  have hC1 := hC w1 hb1
  have HB1 := Hid.in hb1
  clear hC hb1 c0
  go_wp2_with (go_at_call 31; refine Hid.out ?_)
  refine Lib.hid ?_
  (with_reducible refine hC1.mono ?_)
  rintro e w2 ⟨v, rfl, hT, hb2⟩
  have HV := Hid.in hT
  have HB2 := Hid.in hb2
  clear hT hb2 hC1
  go_wp2_with fail
  go_ret
  exact ⟨_, rfl, HV.out.lower HB1.out.size, below_step HB1.out HB2.out⟩
/-- what a call leaves and tells -/
structure CalR where
  cs : List Int
  op : Bool
  turns : Bool
  e : Int
def calL (cs : List Int) (op : Bool) (z : Int) (up : Bool) : CalR :=
  if ¬ (0 ≤ z ∧ z < cs.length) then ⟨cs, op, false, 311⟩
  else if op = true then ⟨cs, op, false, 310⟩
  else if up = true then (if cs.getD z.toNat 0 = 2147483647 then ⟨cs, op, false, 3⟩ else ⟨cs.set z.toNat (cs.getD z.toNat 0 + 1), decide (cs.getD z.toNat 0 + 1 = 1), decide (cs.getD z.toNat 0 + 1 = 1), 0⟩)
  else (if cs.getD z.toNat 0 = 0 then ⟨cs, op, false, 312⟩ else ⟨cs.set z.toNat (cs.getD z.toNat 0 - 1), decide (cs.getD z.toNat 0 - 1 = 0), decide (cs.getD z.toNat 0 - 1 = 0), 0⟩)
def CalIs (w : World) (h b n : Nat) (p : Option Addr) (c : Nat) (si : List Si) (z : Int) (r : CalR) : Ending → World → Prop := fun e w' =>
  ∃ v n', e = .returned (.tuple #[v, .bool r.turns, .int .i64 r.e]) ∧ TOwn 41 w' w.heap.size v ((if r.turns = true then ofK si z else []).map siV) ∧ TabAt w' h b n' r.cs r.op p c si ∧ n' ≤ n + 1 ∧ Keeps (G2 h b) w w'
theorem CalIs.refused {w : World} {h b n : Nat} {p : Option Addr} {c : Nat} {si : List Si} {z : Int} {cs : List Int} {op : Bool} {e : Int} {w' : World} (H : TabAt w h b n cs op p c si) (hb : Below w.heap.size w w') :
    CalIs w h b n p c si z ⟨cs, op, false, e⟩ (.returned (.tuple #[.slice none 0 0, .bool false, .int .i64 e])) w' :=
  ⟨_, n, rfl, TOwn.nil _ _ _, H.below hb, Nat.le_succ _, Keeps.ofBelow hb⟩
set_option maxHeartbeats 3200000 in
theorem call_bad (H : TabAt w h b n cs op p c si) (z : Int) (hz : i64P z) (up : Bool) (hk : ¬ (0 ≤ z ∧ z < cs.length)) :
    Calls Try.prog 11 #[.pointer (some ⟨h, 0, none⟩), .int .i64 z, .bool up] w (CalIs w h b n p c si z (calL cs op z up)) := by
  have hN := count_any h b n cs op p c si w H z hz
  have e1 : calL cs op z up = ⟨cs, op, false, 311⟩ := by unfold calL; rw [if_pos hk]
  have e2 : cntL cs z = (0, 311) := if_neg hk
  rw [e2] at hN
  rw [e1]
  have HF := Hid.in (CalIs.refused (z := z) (e := 311) H (below_self w))
  clear H e1 e2
  generalize CalIs w h b n p c si z ⟨cs, op, false, 311⟩ = R at *
  go_enter Try.func11, Try.ntmps11
  go_wp2_with (go_at_call 14; refine hN.mono ?_; rintro e w1 ⟨rfl, rfl⟩)
  exact bodyPost_ret (v := .tuple #[.slice none 0 0, .bool false, .int .i64 311]) (by simp [results]) rfl HF.out
set_option maxHeartbeats 3200000 in
theorem call_busy (H : TabAt w h b n cs true p c si) (z : Int) (hz : i64P z) (up : Bool) (hk : 0 ≤ z ∧ z < cs.length) :
    Calls Try.prog 11 #[.pointer (some ⟨h, 0, none⟩), .int .i64 z, .bool up] w (CalIs w h b n p c si z (calL cs true z up)) := by
  have hN := count_any h b n cs true p c si w H z hz
  have e1 : calL cs true z up = ⟨cs, true, false, 310⟩ := by unfold calL; rw [if_neg (fun hh => hh hk), if_pos rfl]
  have e2 : cntL cs z = (cs.getD z.toNat 0, 0) := if_pos hk
  have c2 : w.cell? ⟨h, 2, none⟩ = some (.bool true) := H.blk.cell 2
  rw [e2] at hN
  rw [e1]
  have HF := Hid.in (CalIs.refused (z := z) (e := 310) H (below_self w))
  clear H e1 e2
  generalize CalIs w h b n p c si z ⟨cs, true, false, 310⟩ = R at *
  generalize cs.getD z.toNat 0 = x at *
  go_enter Try.func11, Try.ntmps11
  go_wp2_with (go_at_call 14; refine hN.mono ?_; rintro e w1 ⟨rfl, rfl⟩)
  exact bodyPost_ret (v := .tuple #[.slice none 0 0, .bool false, .int .i64 310]) (by simp [results]) rfl HF.out
set_option maxHeartbeats 1600000 in
theorem change_up (z : Int) : Calls Try.prog 32 #[.pointer (some ⟨h, 0, none⟩), .int .i64 z, .bool true] w fun e w' => ∃ gt gk, e = .returned (.func (.func 50) #[] #[.pointer (some ⟨gt, 0, none⟩), .pointer (some ⟨gk, 0, none⟩)]) ∧ Below w.heap.size w w' ∧ w'.cell? ⟨gt, 0, none⟩ = some (.pointer (some ⟨h, 0, none⟩)) ∧ w'.cell? ⟨gk, 0, none⟩ = some (.int .i64 z) ∧ w.heap.size ≤ gt ∧ w.heap.size ≤ gk := by
  have b1 := (Blk.new w 22 #[.pointer (some ⟨h, 0, none⟩)]).grow (new_alloc _ (.cells #[.int .i64 z] 3))
  have b2 := Blk.new (w.alloc (.cells #[.pointer (some ⟨h, 0, none⟩)] 22)) 3 #[.int .i64 z]
  rw [size_one] at b2
  have H1 : Hid (((w.alloc (.cells #[.pointer (some ⟨h, 0, none⟩)] 22)).alloc (.cells #[.int .i64 z] 3)).cell? ⟨w.heap.size, 0, none⟩ = some (.pointer (some ⟨h, 0, none⟩))) := b1.cell 0
  have H2 : Hid (((w.alloc (.cells #[.pointer (some ⟨h, 0, none⟩)] 22)).alloc (.cells #[.int .i64 z] 3)).cell? ⟨w.heap.size + 1, 0, none⟩ = some (.int .i64 z)) := b2.cell 0
  clear b1 b2
  go_enter Try.func32, Try.ntmps32
  go_wp2
  go_ret
  exact ⟨_, _, rfl, below_alloc (new_alloc _ _) _, H1.out, H2.out, Nat.le_refl _, Nat.le_succ _⟩
set_option maxHeartbeats 1600000 in
theorem change_down (z : Int) : Calls Try.prog 32 #[.pointer (some ⟨h, 0, none⟩), .int .i64 z, .bool false] w fun e w' => ∃ gt gk, e = .returned (.func (.func 51) #[] #[.pointer (some ⟨gt, 0, none⟩), .pointer (some ⟨gk, 0, none⟩)]) ∧ Below w.heap.size w w' ∧ w'.cell? ⟨gt, 0, none⟩ = some (.pointer (some ⟨h, 0, none⟩)) ∧ w'.cell? ⟨gk, 0, none⟩ = some (.int .i64 z) ∧ w.heap.size ≤ gt ∧ w.heap.size ≤ gk := by
  have b1 := (Blk.new w 22 #[.pointer (some ⟨h, 0, none⟩)]).grow (new_alloc _ (.cells #[.int .i64 z] 3))
  have b2 := Blk.new (w.alloc (.cells #[.pointer (some ⟨h, 0, none⟩)] 22)) 3 #[.int .i64 z]
  rw [size_one] at b2
  have H1 : Hid (((w.alloc (.cells #[.pointer (some ⟨h, 0, none⟩)] 22)).alloc (.cells #[.int .i64 z] 3)).cell? ⟨w.heap.size, 0, none⟩ = some (.pointer (some ⟨h, 0, none⟩))) := b1.cell 0
  have H2 : Hid (((w.alloc (.cells #[.pointer (some ⟨h, 0, none⟩)] 22)).alloc (.cells #[.int .i64 z] 3)).cell? ⟨w.heap.size + 1, 0, none⟩ = some (.int .i64 z)) := b2.cell 0
  clear b1 b2
  go_enter Try.func32, Try.ntmps32
  go_wp2
  go_ret
  exact ⟨_, _, rfl, below_alloc (new_alloc _ _) _, H1.out, H2.out, Nat.le_refl _, Nat.le_succ _⟩
end
end Go.Proofs.Ytkpieeldoielgaa

/- Ours: keys.Table: Call, for every table, key and direction. -/
namespace Go.Proofs.Ytkpieeldoielgaa
open Go.RowKit Go.Maps Go.WideMaps Go.Shelf Go.ChangeMaps

section
variable (h b n : Nat) (cs : List Int) (p : Option Addr) (c : Nat) (si : List Si) (w : World)
set_option maxHeartbeats 3200000 in
theorem call_up_no (H : TabAt w h b n cs false p c si) (z : Int) (hz : i64P z) (hk : 0 ≤ z ∧ z < cs.length) (hx : cs.getD z.toNat 0 = 2147483647) :
    Calls Try.prog 11 #[.pointer (some ⟨h, 0, none⟩), .int .i64 z, .bool true] w (CalIs w h b n p c si z (calL cs false z true)) := by
  have hN := count_any h b n cs false p c si w H z hz
  have e2 : cntL cs z = (cs.getD z.toNat 0, 0) := if_pos hk
  have c2 : w.cell? ⟨h, 2, none⟩ = some (.bool false) := H.blk.cell 2
  have hi : z.toNat < cs.length := by omega
  have ez : ((z.toNat : Nat) : Int) = z := by omega
  rw [e2] at hN
  have hCh := change_up h w z
  have e1 : calL cs false z true = ⟨cs, false, false, 3⟩ := by unfold calL; simp only [hk, not_true_eq_false, if_false, and_self, hx]; rfl
  rw [e1]
  have HF : Hid (∀ w', Below w.heap.size w w' → CalIs w h b n p c si z ⟨cs, false, false, 3⟩ (.returned (.tuple #[.slice none 0 0, .bool false, .int .i64 3])) w') := fun w' hb => CalIs.refused (z := z) (e := 3) H hb
  have hE := fun (W : World) (hW : Below w.heap.size w W) gt gk ht hk' => up_full h b n cs false p c si W gt gk (H.below hW) z.toNat hi ht hk' hx
  clear H e1 e2
  rw [ez] at hE
  generalize CalIs w h b n p c si z ⟨cs, false, false, 3⟩ = R at *
  generalize cs.getD z.toNat 0 = x at *
  go_enter Try.func11, Try.ntmps11
  go_wp2_with (first
    | (go_at_call 14; refine hN.mono ?_; rintro e w1 ⟨rfl, rfl⟩)
    | (go_at_call 32; refine Hid.out ?_))
  refine Lib.hid ?_
  (with_reducible refine hCh.mono ?_)
  rintro e w2 ⟨gt, gk, rfl, hb2, ht2, hk2, -, -⟩
  have hE2 := hE w2 hb2 gt gk ht2 hk2
  have HB2 := Hid.in hb2
  clear hE hb2 ht2 hk2 hCh
  go_wp2_with (go_at_call 50; refine Hid.out ?_)
  refine Lib.hid ?_
  (with_reducible refine hE2.mono ?_)
  rintro e w3 ⟨rfl, m3, hw3⟩
  have HB3 : Hid (Below w1.heap.size w1 w3) := by rw [hw3]; exact below_draws HB2.out m3
  clear hw3 hE2
  go_wp2_with fail
  exact bodyPost_ret (v := .tuple #[.slice none 0 0, .bool false, .int .i64 3]) (by simp [results]) rfl (HF.out _ HB3.out)
set_option maxHeartbeats 6400000 in
theorem call_up_yes (H : TabAt w h b n cs false p c si) (z : Int) (hz : i64P z) (hk : 0 ≤ z ∧ z < cs.length) (hn : n < 524288) (hx : cs.getD z.toNat 0 ≠ 2147483647) :
    Calls Try.prog 11 #[.pointer (some ⟨h, 0, none⟩), .int .i64 z, .bool true] w (CalIs w h b n p c si z (calL cs false z true)) := by
  have hN := count_any h b n cs false p c si w H z hz
  have e2 : cntL cs z = (cs.getD z.toNat 0, 0) := if_pos hk
  have c2 : w.cell? ⟨h, 2, none⟩ = some (.bool false) := H.blk.cell 2
  have hi : z.toNat < cs.length := by omega
  have ez : ((z.toNat : Nat) : Int) = z := by omega
  rw [e2] at hN
  have hCh := change_up h w z
  have e1 : calL cs false z true = ⟨cs.set z.toNat (cs.getD z.toNat 0 + 1), decide (cs.getD z.toNat 0 + 1 = 1), decide (cs.getD z.toNat 0 + 1 = 1), 0⟩ := by unfold calL; simp only [hk, not_true_eq_false, if_false, and_self, hx]; rfl
  rw [e1]
  have hE := fun (W : World) (hW : Below w.heap.size w W) gt gk ht hk' h1 h2 => up_any h b n cs false p c si W gt gk (H.below hW) z.toNat hi ht hk' hx hn h1 h2
  have HLB : Hid (b < w.heap.size) := H.map.lt
  clear H e1 e2
  rw [ez] at hE
  generalize cs.set z.toNat (cs.getD z.toNat 0 + 1) = cs2 at *
  generalize cs.getD z.toNat 0 = x at *
  go_enter Try.func11, Try.ntmps11
  go_wp2_with (first
    | (go_at_call 14; refine hN.mono ?_; rintro e w1 ⟨rfl, rfl⟩)
    | (go_at_call 32; refine Hid.out ?_))
  refine Lib.hid ?_
  (with_reducible refine hCh.mono ?_)
  rintro e w2 ⟨gt, gk, rfl, hb2, ht2, hk2, hg1, hg2⟩
  have hE2 := hE w2 hb2 gt gk ht2 hk2 (by have := HLB.out; omega) (by have := HLB.out; omega)
  have HB2 := Hid.in hb2
  clear hE hb2 ht2 hk2 hCh
  go_wp2_with (go_at_call 50; refine Hid.out ?_)
  refine Lib.hid ?_
  (with_reducible refine hE2.mono ?_)
  rintro e w3 ⟨rfl, hT3, hK3⟩
  have HT3 := Hid.in hT3
  have HK3 : Hid (Keeps (G2 h b) w1 w3) := (Keeps.ofBelow HB2.out).trans' (hK3.wider (fun j e => .inr e))
  clear hE2 hT3 hK3
  by_cases hx1 : x + 1 = 1
  · have d1 : decide (x + 1 = 1) = true := decide_eq_true hx1
    rw [d1]
    have c3 : w3.cell? ⟨h, 2, none⟩ = some (.bool false) := HT3.out.blk.cell 2
    have f3 : w3.frozen? ⟨h, 2, none⟩ = false := HT3.out.blk.free 2
    have HT4 := Hid.in (HT3.out.setOpen true)
    have HK4 : Hid (Keeps (G2 h b) w1 (w3.setCell ⟨h, 2, none⟩ (.bool true))) := HK3.out.setCell h 2 _ (.inl (.inl rfl))
    have hS := sitesOf_any h b (n + 1) cs2 true p c si _ HT4.out z
    have HF : Hid (∀ v w', TOwn 41 w' w1.heap.size v ((ofK si z).map siV) → TabAt w' h b (n + 1) cs2 true p c si → Keeps (G2 h b) w1 w' → CalIs w1 h b n p c si z ⟨cs2, decide (x + 1 = 1), decide (x + 1 = 1), 0⟩ (.returned (.tuple #[v, .bool true, .int .i64 0])) w') := fun v w' h1 h2 h3 => by rw [d1]; exact ⟨v, n + 1, rfl, h1, h2, Nat.le_refl _, h3⟩
    go_wp2_with (go_at_call 33; refine Hid.out ?_)
    refine Lib.hid ?_
    generalize w3.setCell ⟨h, 2, none⟩ (.bool true) = w4 at *
    (with_reducible refine hS.mono ?_)
    rintro e w5 ⟨v, rfl, hV, hb5⟩
    have HV := Hid.in hV
    have HB5 := Hid.in hb5
    clear hV hb5 hS c3 f3
    go_wp2_with fail
    exact bodyPost_ret (v := .tuple #[v, .bool true, .int .i64 0]) (by simp [results]) rfl (HF.out v _ (HV.out.lower HK4.out.size) (HT4.out.below HB5.out) (HK4.out.thenB HB5.out))
  · have d1 : decide (x + 1 = 1) = false := decide_eq_false hx1
    rw [d1]
    have HF : Hid (CalIs w1 h b n p c si z ⟨cs2, decide (x + 1 = 1), decide (x + 1 = 1), 0⟩ (.returned (.tuple #[.slice none 0 0, .bool false, .int .i64 0])) w3) := by show CalIs _ _ _ _ _ _ _ _ _ _ _; rw [d1]; exact ⟨_, n + 1, rfl, TOwn.nil _ _ _, HT3.out, Nat.le_refl _, HK3.out⟩
    go_wp2_with fail
    exact bodyPost_ret (v := .tuple #[.slice none 0 0, .bool false, .int .i64 0]) (by simp [results]) rfl HF.out
set_option maxHeartbeats 3200000 in
theorem call_down_no (H : TabAt w h b n cs false p c si) (z : Int) (hz : i64P z) (hk : 0 ≤ z ∧ z < cs.length) (hx : cs.getD z.toNat 0 = 0) :
    Calls Try.prog 11 #[.pointer (some ⟨h, 0, none⟩), .int .i64 z, .bool false] w (CalIs w h b n p c si z (calL cs false z false)) := by
  have hN := count_any h b n cs false p c si w H z hz
  have e2 : cntL cs z = (cs.getD z.toNat 0, 0) := if_pos hk
  have c2 : w.cell? ⟨h, 2, none⟩ = some (.bool false) := H.blk.cell 2
  have hi : z.toNat < cs.length := by omega
  have ez : ((z.toNat : Nat) : Int) = z := by omega
  rw [e2] at hN
  have hCh := change_down h w z
  have e1 : calL cs false z false = ⟨cs, false, false, 312⟩ := by unfold calL; simp only [hk, not_true_eq_false, if_false, and_self, hx]; rfl
  rw [e1]
  have HF : Hid (∀ w', Below w.heap.size w w' → CalIs w h b n p c si z ⟨cs, false, false, 312⟩ (.returned (.tuple #[.slice none 0 0, .bool false, .int .i64 312])) w') := fun w' hb => CalIs.refused (z := z) (e := 312) H hb
  have hE := fun (W : World) (hW : Below w.heap.size w W) gt gk ht hk' => down_none h b n cs false p c si W gt gk (H.below hW) z.toNat hi ht hk' hx
  clear H e1 e2
  rw [ez] at hE
  generalize CalIs w h b n p c si z ⟨cs, false, false, 312⟩ = R at *
  generalize cs.getD z.toNat 0 = x at *
  go_enter Try.func11, Try.ntmps11
  go_wp2_with (first
    | (go_at_call 14; refine hN.mono ?_; rintro e w1 ⟨rfl, rfl⟩)
    | (go_at_call 32; refine Hid.out ?_))
  refine Lib.hid ?_
  (with_reducible refine hCh.mono ?_)
  rintro e w2 ⟨gt, gk, rfl, hb2, ht2, hk2, -, -⟩
  have hE2 := hE w2 hb2 gt gk ht2 hk2
  have HB2 := Hid.in hb2
  clear hE hb2 ht2 hk2 hCh
  go_wp2_with (go_at_call 51; refine Hid.out ?_)
  refine Lib.hid ?_
  (with_reducible refine hE2.mono ?_)
  rintro e w3 ⟨rfl, m3, hw3⟩
  have HB3 : Hid (Below w1.heap.size w1 w3) := by rw [hw3]; exact below_draws HB2.out m3
  clear hw3 hE2
  go_wp2_with fail
  exact bodyPost_ret (v := .tuple #[.slice none 0 0, .bool false, .int .i64 312]) (by simp [results]) rfl (HF.out _ HB3.out)
set_option maxHeartbeats 6400000 in
theorem call_down_yes (H : TabAt w h b n cs false p c si) (z : Int) (hz : i64P z) (hk : 0 ≤ z ∧ z < cs.length) (hn : n < 524288) (hx : cs.getD z.toNat 0 ≠ 0) :
    Calls Try.prog 11 #[.pointer (some ⟨h, 0, none⟩), .int .i64 z, .bool false] w (CalIs w h b n p c si z (calL cs false z false)) := by
  have hN := count_any h b n cs false p c si w H z hz
  have e2 : cntL cs z = (cs.getD z.toNat 0, 0) := if_pos hk
  have c2 : w.cell? ⟨h, 2, none⟩ = some (.bool false) := H.blk.cell 2
  have hi : z.toNat < cs.length := by omega
  have ez : ((z.toNat : Nat) : Int) = z := by omega
  rw [e2] at hN
  have hCh := change_down h w z
  have e1 : calL cs false z false = ⟨cs.set z.toNat (cs.getD z.toNat 0 - 1), decide (cs.getD z.toNat 0 - 1 = 0), decide (cs.getD z.toNat 0 - 1 = 0), 0⟩ := by unfold calL; simp only [hk, not_true_eq_false, if_false, and_self, hx]; rfl
  rw [e1]
  have hE := fun (W : World) (hW : Below w.heap.size w W) gt gk ht hk' h1 h2 => down_any h b n cs false p c si W gt gk (H.below hW) z.toNat hi ht hk' hx hn h1 h2
  have HLB : Hid (b < w.heap.size) := H.map.lt
  clear H e1 e2
  rw [ez] at hE
  generalize cs.set z.toNat (cs.getD z.toNat 0 - 1) = cs2 at *
  generalize cs.getD z.toNat 0 = x at *
  go_enter Try.func11, Try.ntmps11
  go_wp2_with (first
    | (go_at_call 14; refine hN.mono ?_; rintro e w1 ⟨rfl, rfl⟩)
    | (go_at_call 32; refine Hid.out ?_))
  refine Lib.hid ?_
  (with_reducible refine hCh.mono ?_)
  rintro e w2 ⟨gt, gk, rfl, hb2, ht2, hk2, hg1, hg2⟩
  have hE2 := hE w2 hb2 gt gk ht2 hk2 (by have := HLB.out; omega) (by have := HLB.out; omega)
  have HB2 := Hid.in hb2
  clear hE hb2 ht2 hk2 hCh
  go_wp2_with (go_at_call 51; refine Hid.out ?_)
  refine Lib.hid ?_
  (with_reducible refine hE2.mono ?_)
  rintro e w3 ⟨rfl, hT3, hK3⟩
  have HT3 := Hid.in hT3
  have HK3 : Hid (Keeps (G2 h b) w1 w3) := (Keeps.ofBelow HB2.out).trans' (hK3.wider (fun j e => .inr e))
  clear hE2 hT3 hK3
  by_cases hx1 : x - 1 = 0
  · have d1 : decide (x - 1 = 0) = true := decide_eq_true hx1
    rw [d1]
    have c3 : w3.cell? ⟨h, 2, none⟩ = some (.bool false) := HT3.out.blk.cell 2
    have f3 : w3.frozen? ⟨h, 2, none⟩ = false := HT3.out.blk.free 2
    have HT4 := Hid.in (HT3.out.setOpen true)
    have HK4 : Hid (Keeps (G2 h b) w1 (w3.setCell ⟨h, 2, none⟩ (.bool true))) := HK3.out.setCell h 2 _ (.inl (.inl rfl))
    have hS := sitesOf_any h b (n + 1) cs2 true p c si _ HT4.out z
    have HF : Hid (∀ v w', TOwn 41 w' w1.heap.size v ((ofK si z).map siV) → TabAt w' h b (n + 1) cs2 true p c si → Keeps (G2 h b) w1 w' → CalIs w1 h b n p c si z ⟨cs2, decide (x - 1 = 0), decide (x - 1 = 0), 0⟩ (.returned (.tuple #[v, .bool true, .int .i64 0])) w') := fun v w' h1 h2 h3 => by rw [d1]; exact ⟨v, n + 1, rfl, h1, h2, Nat.le_refl _, h3⟩
    go_wp2_with (go_at_call 33; refine Hid.out ?_)
    refine Lib.hid ?_
    generalize w3.setCell ⟨h, 2, none⟩ (.bool true) = w4 at *
    (with_reducible refine hS.mono ?_)
    rintro e w5 ⟨v, rfl, hV, hb5⟩
    have HV := Hid.in hV
    have HB5 := Hid.in hb5
    clear hV hb5 hS c3 f3
    go_wp2_with fail
    exact bodyPost_ret (v := .tuple #[v, .bool true, .int .i64 0]) (by simp [results]) rfl (HF.out v _ (HV.out.lower HK4.out.size) (HT4.out.below HB5.out) (HK4.out.thenB HB5.out))
  · have d1 : decide (x - 1 = 0) = false := decide_eq_false hx1
    rw [d1]
    have HF : Hid (CalIs w1 h b n p c si z ⟨cs2, decide (x - 1 = 0), decide (x - 1 = 0), 0⟩ (.returned (.tuple #[.slice none 0 0, .bool false, .int .i64 0])) w3) := by show CalIs _ _ _ _ _ _ _ _ _ _ _; rw [d1]; exact ⟨_, n + 1, rfl, TOwn.nil _ _ _, HT3.out, Nat.le_refl _, HK3.out⟩
    go_wp2_with fail
    exact bodyPost_ret (v := .tuple #[.slice none 0 0, .bool false, .int .i64 0]) (by simp [results]) rfl HF.out
/-- Call answers calL -/
theorem call_any (op : Bool) (H : TabAt w h b n cs op p c si) (z : Int) (hz : i64P z) (up : Bool) (hn : n < 524288) :
    Calls Try.prog 11 #[.pointer (some ⟨h, 0, none⟩), .int .i64 z, .bool up] w (CalIs w h b n p c si z (calL cs op z up)) := by
  by_cases hk : 0 ≤ z ∧ z < cs.length
  · cases op
    · cases up
      · by_cases hx : cs.getD z.toNat 0 = 0
        · exact call_down_no h b n cs p c si w H z hz hk hx
        · exact call_down_yes h b n cs p c si w H z hz hk hn hx
      · by_cases hx : cs.getD z.toNat 0 = 2147483647
        · exact call_up_no h b n cs p c si w H z hz hk hx
        · exact call_up_yes h b n cs p c si w H z hz hk hn hx
    · exact call_busy h b n cs p c si w H z hz up hk
  · exact call_bad h b n cs op p c si w H z hz up hk
end
end Go.Proofs.Ytkpieeldoielgaa

/- Ours: keys.Table: New, Copy. -/
namespace Go.Proofs.Ytkpieeldoielgaa
open Go.RowKit Go.Maps Go.WideMaps Go.Shelf Go.ChangeMaps

theorem slice_no {a : Addr} {n c m d : Nat} (h : Value.slice (some a) n c = .slice none m d) : False := by
  injection h with h
  cases h
theorem clone_cnt (w : World) (b n : Nat) (cs : List Int) (h : CntAt w b n cs) :
    Calls Try.prog 44 #[.map (some b)] w fun e w' => e = .returned (.map (some w.heap.size)) ∧ CntAt w' w.heap.size n cs ∧ Below w.heap.size w w' := by
  obtain ⟨D, h1, h2⟩ := h
  have hcon := AnyW.maps_Clone_owns Try.cloneL 3 (plainElem Try.prog 3) b n D w h1
  change Calls Try.prog 44 _ _ _ at hcon
  refine hcon.mono ?_
  rintro e w' ⟨rfl, h3, -, hB⟩
  exact ⟨rfl, ⟨D, h3, h2⟩, hB⟩
section
variable (h b n : Nat) (cs : List Int) (op : Bool) (p : Option Addr) (c : Nat) (si : List Si) (w : World)
set_option maxHeartbeats 1600000 in
theorem tcopy_any (H : TabAt w h b n cs op p c si) :
    Calls Try.prog 24 #[.pointer (some ⟨h, 0, none⟩)] w fun e w' => ∃ h' b', e = .returned (.pointer (some ⟨h', 0, none⟩)) ∧ TabAt w' h' b' n cs op p c si ∧ Below w.heap.size w w' ∧ w.heap.size ≤ h' ∧ w.heap.size ≤ b' := by
  have hN := tnone_no h b w (H.blk.cell 0)
  have c0 : w.cell? ⟨h, 0, none⟩ = some (.map (some b)) := H.blk.cell 0
  have c1 : w.cell? ⟨h, 1, none⟩ = some (.slice p si.length c) := H.blk.cell 1
  have c2 : w.cell? ⟨h, 2, none⟩ = some (.bool op) := H.blk.cell 2
  have HT := Hid.in H
  clear H
  go_enter Try.func24, Try.ntmps24
  go_wp2_with (go_at_call 34; refine hN.mono ?_; rintro e w1 ⟨rfl, rfl⟩)
  go_region_held3 (fun W => W.cell? ⟨h, 0, none⟩ = some (.map (some b)) ∧ W.cell? ⟨h, 1, none⟩ = some (.slice p si.length c) ∧ W.cell? ⟨h, 2, none⟩ = some (.bool op)) (first | go_keep | exact hk1)
    (first | (go_at_call 44; refine (clone_cnt _ b n cs (HT.out.drewN 1).map).mono ?_; rintro E w2 ⟨rfl, hC, hB⟩; have HT2 := Hid.in ((HT.out.drewN 1).below hB); have HC2 := Hid.in hC; have HB2 := Hid.in (below_step (below_draws (below_self w1) 1) hB); have hk1 : w2.cell? ⟨h, 0, none⟩ = some (.map (some b)) ∧ w2.cell? ⟨h, 1, none⟩ = some (.slice p si.length c) ∧ w2.cell? ⟨h, 2, none⟩ = some (.bool op) := ⟨HT2.out.blk.cell 0, HT2.out.blk.cell 1, HT2.out.blk.cell 2⟩; clear hC hB))
  go_wp2
  clear hk1
  go_ret
  have hb := new_alloc w2 (.cells #[.map (some w1.heap.size), .slice p si.length c, .bool op] 66)
  have HC3 : CntAt w2 w1.heap.size n cs := HC2.out
  refine ⟨_, w1.heap.size, rfl, ⟨Blk.new _ 66 _, HC3.below hb, HT2.out.row.below hb, HT.out.cap, fun a e => ?_, fun a e => Nat.lt_of_lt_of_le (HT2.out.pl a e) hb.size, HT.out.hn, HT.out.hl, HT.out.hs, HT.out.hc⟩, below_step HB2.out hb, HB2.out.size, Nat.le_refl _⟩
  have h1 := HT.out.pl a e
  have h2 := HB2.out.size
  exact ⟨by omega, by omega⟩
end
/-- 't.counts[key] = 0' in New's loop -/
def zerosC (k : Nat) : List Int := List.replicate k 0
theorem zerosC_succ (k : Nat) : zerosC (k + 1) = zerosC k ++ [0] := List.replicate_succ'
theorem zerosC_len (k : Nat) : (zerosC k).length = k := List.length_replicate
set_option maxRecDepth 20000 in
set_option maxHeartbeats 3200000 in
theorem tnew_no (m : IM) (pb pk ps pu : Option Addr) (nb cb nk ck ns cs nu cu : Nat) (w : World) (H : ImIn w m pb pk ps pu nb cb nk ck ns cs nu cu) (hok : okI m = false) :
    Calls Try.prog 9 #[.agg (imA pb pk ps pu nb cb nk ck ns cs nu cu)] w fun e w' => e = .returned (.tuple #[.pointer none, .int .i64 2]) ∧ Below w.heap.size w w' := by
  have HA0 : Hid (Blk (w.alloc (.cells (imA pb pk ps pu nb cb nk ck ns cs nu cu) 31)) w.heap.size 31 (imA pb pk ps pu nb cb nk ck ns cs nu cu)) := Blk.new w 31 _
  have HW0 : Hid (Below w.heap.size w (w.alloc (.cells (imA pb pk ps pu nb cb nk ck ns cs nu cu) 31))) := new_alloc w _
  obtain ⟨a0, a1, a2, a3⟩ := HA0.out.cells4
  have hR := iright_any m pb pk ps pu nb cb nk ck ns cs nu cu _ (H.below HW0.out)
  rw [hok] at hR
  clear H
  go_enter Try.func9, Try.ntmps9
  go_wp2_with (go_at_call 26; refine Hid.out ?_)
  refine Lib.hid ?_
  generalize w.alloc (.cells (imA pb pk ps pu nb cb nk ck ns cs nu cu) 31) = w0 at *
  (with_reducible refine hR.mono ?_)
  rintro e w1 ⟨rfl, hb1⟩
  have HB1 := Hid.in (below_step HW0.out hb1)
  clear hb1 hR
  go_wp2_with fail
  go_ret2
  exact ⟨rfl, HB1.out⟩
set_option maxRecDepth 20000 in
set_option maxHeartbeats 3200000 in
theorem tnew_yes (m : IM) (pb pk ps pu : Option Addr) (nb cb nk ck ns cs nu cu : Nat) (w : World) (H : ImIn w m pb pk ps pu nb cb nk ck ns cs nu cu) (hok : okI m = true) (hps : ps = none → ns = 0) :
    Calls Try.prog 9 #[.agg (imA pb pk ps pu nb cb nk ck ns cs nu cu)] w fun e w' => ∃ h b p c, e = .returned (.tuple #[.pointer (some ⟨h, 0, none⟩), .int .i64 0]) ∧ TabAt w' h b nk (zerosC nk) false p c m.si ∧ Below w.heap.size w w' ∧ w.heap.size ≤ h ∧ w.heap.size ≤ b ∧ ∀ a, p = some a → w.heap.size ≤ a.block := by
  have HA0 : Hid (Blk (w.alloc (.cells (imA pb pk ps pu nb cb nk ck ns cs nu cu) 31)) w.heap.size 31 (imA pb pk ps pu nb cb nk ck ns cs nu cu)) := Blk.new w 31 _
  have HW0 : Hid (Below w.heap.size w (w.alloc (.cells (imA pb pk ps pu nb cb nk ck ns cs nu cu) 31))) := new_alloc w _
  obtain ⟨a0, a1, a2, a3⟩ := HA0.out.cells4
  have hR := iright_any m pb pk ps pu nb cb nk ck ns cs nu cu _ (H.below HW0.out)
  rw [hok] at hR
  have hB := okI_im hok
  have b2 : nk ≤ 64 := by have := hB.ks; rw [← H.lk]; simpa [IM.im] using this
  have b3 : m.si.length ≤ 256 := hB.si
  have HI := Hid.in H
  have HL := Hid.in H.ls
  have hmm := @run_makeMap Try.prog
  clear H hB
  go_enter Try.func9, Try.ntmps9
  go_wp2_with (go_at_call 26; refine Hid.out ?_)
  refine Lib.hid ?_
  have HSz : Hid (w.heap.size + 1 = (w.alloc (.cells (imA pb pk ps pu nb cb nk ck ns cs nu cu) 31)).heap.size) := (size_one _ _).symm
  generalize w.alloc (.cells (imA pb pk ps pu nb cb nk ck ns cs nu cu) 31) = w0 at *
  (with_reducible refine hR.mono ?_)
  rintro e w1 ⟨rfl, hb1⟩
  have HB1 := Hid.in (below_step HW0.out hb1)
  have HA1 := Hid.in (HA0.out.grow hb1)
  have HS1 : Hid (w0.heap.size ≤ w1.heap.size) := hb1.size
  clear hb1 hR a0 a1 a2 a3 HA0 HW0
  have HM1 := Hid.in (CntAt.made w1)
  have HN1 := Hid.in (new_alloc w1 (.map #[] 0))
  have HA2 := Hid.in (HA1.out.grow HN1.out)
  obtain ⟨a0, a1, a2, a3⟩ := HA2.out.cells4
  go_upto_region 4 with fail
  generalize hw2 : w1.alloc (.map #[] 0) = w2 at *
  clear hw2
  have HLT : Hid (w1.heap.size < w2.heap.size) := HM1.out.lt
  go_wp2_with fail
  go_loopw [5, 13] (fun _ vi wr => ∃ i : Nat, i ≤ nk ∧ vi = .int .i64 i ∧ CntAt wr w1.heap.size i (zerosC i) ∧ Keeps (fun j => j = w1.heap.size) w2 wr) (fun _ vi _ => nk - (intOf vi).toNat)
  case atStart => exact ⟨0, Nat.zero_le _, rfl, HM1.out, Keeps.refl _ _⟩
  case round =>
    obtain ⟨i, hi, rfl, hC, hK⟩ := hrel
    have HC := Hid.in hC
    have HK := Hid.in hK
    clear hC hK HM1
    by_cases hlt : i < nk
    · obtain ⟨w3, hput, hC3, hG3⟩ := HC.out.add 0 (by unfold i64P; omega) (by rw [zerosC_len]; omega) (by omega)
      rw [zerosC_len] at hput
      rw [← zerosC_succ] at hC3
      have HC3 := Hid.in hC3
      have HK3 : Hid (Keeps (fun j => j = w1.heap.size) w2 w3) := HK.out.trans' (keeps_grown hG3)
      clear hC3 hG3 HC HK
      go_wp2_with fail
      go_roundw
      case rel => exact ⟨i + 1, by omega, by go_num, HC3.out, HK3.out⟩
      case measure => simp [intOf]; omega
    · obtain rfl : i = nk := by omega
      have hlA := HA2.out.lt
      have hsz := HSz.out
      have hs1 := HS1.out
      have HA3 : Hid (Blk wr w.heap.size 31 (imA pb pk ps pu nb cb i ck ns cs nu cu)) := (HK.out.block w.heap.size hlA (by omega)).trans HA2.out
      obtain ⟨d0, d1, d2, d3⟩ := HA3.out.cells4
      have HBr : Hid (Below w.heap.size w wr) := (below_step HB1.out HN1.out).trans (HK.out.below (Nat.le_of_lt hlA) (fun j hj => by omega))
      have hrow : Row3 wr ps (m.si.map siV) := HI.out.rs.below HBr.out
      have hCl := sclone_any ps cs m.si wr (by omega) (fun e => List.eq_nil_of_length_eq_zero (by rw [HL.out]; exact hps e)) hrow
      rw [HL.out] at hCl
      clear hrow a0 a1 a2 a3
      go_wp2_with (go_at_call 31; refine Hid.out ?_)
      refine Lib.hid ?_
      (with_reducible refine hCl.mono ?_)
      rintro e w4 ⟨v, rfl, hT, hb4⟩
      obtain ⟨q, cq, hv, hcap, -, hrow4⟩ := hT.row3
      have hq : ∀ a, q = some a → wr.heap.size ≤ a.block ∧ a.block < w4.heap.size := fun a e => by
        rcases hT.2 with ⟨e1, _⟩ | ⟨g, cap, cur, e1, e2, e3, _⟩
        · rw [hv, e] at e1
          exact absurd e1 (fun e => slice_no e)
        · rw [hv, e] at e1
          injection e1 with e1 _ _
          injection e1 with e1
          subst e1
          exact ⟨e2, (Array.getElem?_eq_some_iff.1 e3).1⟩
      rw [List.length_map] at hv hcap
      subst hv
      have HR4 := Hid.in hrow4
      have HQ := Hid.in hq
      have HB4 := Hid.in hb4
      have HCp := Hid.in hcap
      have HC4 := Hid.in (HC.out.below hb4)
      clear hT hb4 hCl hrow4 hq hcap HC
      go_wp2_with fail
      go_ret2
      have hb := new_alloc w4 (.cells #[.map (some w1.heap.size), .slice q m.si.length cq, .bool false] 66)
      have hr4 := HB4.out.size
      have hwr := HK.out.size
      have hw2 : w1.heap.size < w2.heap.size := HLT.out
      refine ⟨_, w1.heap.size, q, cq, rfl, ⟨Blk.new _ 66 _, HC4.out.below hb, HR4.out.below hb, HCp.out, fun a e => ?_, fun a e => Nat.lt_of_lt_of_le (HQ.out a e).2 hb.size, by omega, by rw [zerosC_len]; exact b2, b3, fun j hj => ?_⟩, below_step (below_step HBr.out HB4.out) hb, by have := HBr.out.size; omega, by omega, fun a e => ?_⟩
      · have h1 := HQ.out a e
        exact ⟨by omega, by omega⟩
      · rw [zerosC_len] at hj
        simp [zerosC, List.getD, hj]
      · have h1 := HQ.out a e
        have := HBr.out.size
        omega
end Go.Proofs.Ytkpieeldoielgaa
