/- switchyardkit.CopyObject, of lists as great as an argument may be. -/
import Derived.Test.YtkpieeldoielgaaCpy3
import Derived.Test.YtkpieeldoielgaaCopy
import Derived.Test.YtkpieeldoielgaaRObj
import Derived.Test.YtkpieeldoielgaaTabW
import Derived.Test.YtkpieeldoielgaaRowsA
import Derived.Deep.RegionHeld3
namespace Go.Proofs.Ytkpieeldoielgaa
open Go.RowKit

abbrev noObj : Array Value := #[.slice none 0 0, .slice none 0 0, .slice none 0 0, .slice none 0 0]
theorem Try.sz105 : (Try.prog.info? 105).map (·.size) = some noObj.size := by kernel_rfl
theorem Blk.load {w : World} {g : Nat} {T : TypeId} {c : Array Value} (hB : Blk w g T c) (t : TypeId) (d : TypeDesc) (hu : Try.prog.underlying t = some d) (hd : d.isRow = true) (hi : (Try.prog.info? t).map (·.size) = some c.size) :
    (loadVar t ⟨g, 0, none⟩).run Try.prog w = .ok (.agg c) w := by
  have := run_loadVar_mid (P := Try.prog) w g 0 t c.toList d hB.range hu hd (by rw [hi, Array.length_toList])
  simpa using this
theorem TOwn.far {T : TypeId} {w : World} {B g : Nat} {v : Value} {L : List V3} (h : TOwn T w B v L) (hg : g < B) : v = .slice none 0 0 ∨ v.ownBlock ≠ some g := by
  rcases h.2 with ⟨e1, _⟩ | ⟨g', cap, cur, e1, e2, _⟩
  · exact .inl e1
  · refine .inr ?_
    rw [e1]
    simp only [Value.ownBlock]
    intro ee
    injection ee with ee
    have : g' = g := ee
    omega
theorem TOwn.lower {T : TypeId} {w : World} {B B' : Nat} {v : Value} {L : List V3} (h : TOwn T w B v L) (hB : B' ≤ B) : TOwn T w B' v L := by
  obtain ⟨h0, h1⟩ := h
  refine ⟨h0, h1.imp id ?_⟩
  rintro ⟨g, cap, cur, e1, e2, e3⟩
  exact ⟨g, cap, cur, e1, Nat.le_trans hB e2, e3⟩
/-- an object that a call has made: its lists in blocks of its own -/
structure ObOwn (w : World) (B : Nat) (o : Ob) (vb vs vf vm : Value) : Prop where
  b : OwnV w B vb o.bs
  s : TOwn 100 w B vs (o.sy.map syV)
  f : TOwn 123 w B vf (o.fx.map fxV)
  m : TOwn 126 w B vm (o.mk_.map mkV)
theorem ObOwn.below {w w' : World} {B : Nat} {o : Ob} {vb vs vf vm : Value} (h : ObOwn w B o vb vs vf vm) (hb : Below w.heap.size w w') : ObOwn w' B o vb vs vf vm := ⟨h.b.below hb, h.s.below hb, h.f.below hb, h.m.below hb⟩
theorem OwnV.low {w : World} {B B' : Nat} {v : Value} {xs : List Int} (h : OwnV w B v xs) (hB : B' ≤ B) : OwnV w B' v xs := by
  rcases h.shape with ⟨rfl, rfl⟩ | ⟨g, cap, rfl, ho⟩
  · exact OwnV.nil _ _
  · exact ho.lower hB
theorem ObOwn.lower {w : World} {B B' : Nat} {o : Ob} {vb vs vf vm : Value} (h : ObOwn w B o vb vs vf vm) (hB : B' ≤ B) : ObOwn w B' o vb vs vf vm := ⟨h.b.low hB, h.s.lower hB, h.f.lower hB, h.m.lower hB⟩
theorem OwnV.slice2 {w : World} {B : Nat} {v : Value} {xs : List Int} (h : OwnV w B v xs) : ∃ p cap, v = .slice p xs.length cap ∧ Row w p xs ∧ xs.length ≤ cap ∧ cap ≤ maxLen := by
  rcases h.shape with ⟨rfl, rfl⟩ | ⟨g, cap, rfl, ho⟩
  · exact ⟨none, 0, rfl, fun h => absurd h (Nat.lt_irrefl 0), Nat.le_refl _, Nat.zero_le _⟩
  · obtain ⟨cur, _, _, h3, h4, _⟩ := ho.parts
    exact ⟨_, cap, rfl, ho.row, h3, h4⟩
/-- .. seen as one in memory -/
theorem ObOwn.inn {w : World} {B : Nat} {o : Ob} {vb vs vf vm : Value} (h : ObOwn w B o vb vs vf vm) (hf : ObF o) :
    ∃ pb ps pf pm cb cs cf cm, (vb = .slice pb o.bs.length cb ∧ vs = .slice ps o.sy.length cs ∧ vf = .slice pf o.fx.length cf ∧ vm = .slice pm o.mk_.length cm) ∧ ObIn w o pb ps pf pm o.bs.length cb o.sy.length cs o.fx.length cf o.mk_.length cm := by
  obtain ⟨pb, cb, e1, r1, k1, m1⟩ := h.b.slice2
  obtain ⟨ps, cs, e2, k2, m2, r2⟩ := h.s.row3
  obtain ⟨pf, cf, e3, k3, m3, r3⟩ := h.f.row3
  obtain ⟨pm, cm, e4, k4, m4, r4⟩ := h.m.row3
  rw [List.length_map] at e2 k2 e3 k3 e4 k4
  exact ⟨pb, ps, pf, pm, cb, cs, cf, cm, ⟨e1, e2, e3, e4⟩, ⟨rfl, rfl, rfl, rfl, k1, m1, Nat.le_trans k2 m2, Nat.le_trans k3 m3, Nat.le_trans k4 m4, r1, r2, r3, r4, hf⟩⟩

theorem OwnV.keptFar {w w' : World} {B g : Nat} {v : Value} {xs : List Int} (h : OwnV w B v xs) (hg : w.grownBy w' (some g)) (hB : g < B) : OwnV w' B v xs := by
  rcases h.shape with ⟨rfl, rfl⟩ | ⟨g', cap, rfl, ho⟩
  · exact OwnV.nil _ _
  · refine World.ownsRow.kept h hg (.inr (fun e => ?_))
    have e' : some g' = some g := e
    injection e' with e'
    have := ho.base
    omega

/-- 'append(l, x)', as far as memory goes -/
theorem tpushV {ops : Array Oper} {rest : List Oper} {o : Oper} {a : Act} {Q : Exit → Act → World → Prop} {t T : TypeId} {by_ : Nat} (he : Elem3 t T by_) (w : World) (hgd : o.guard = none) (s x : Operand)
    (ho : o.op = .call { callee := .builtin .append, args := #[s, x], argTypes := #[t, t] }) (B : Nat) (v : Value) (L : List V3) (hs : a.eval s = v) (hown : TOwn T w B v L)
    (ad : Addr) (c : Nat) (q : V3) (hq : one3 q) (hx : a.eval x = .slice (some ad) 1 c) (hnews : ∀ j u, (l3 q)[j]? = some u → w.cell? (ad.add j) = some u)
    (hlen : L.length ≤ 4398046511000) (hby : (L.length + 1) * by_ ≤ 140737488355328) (hB : B ≤ w.heap.size)
    (h : ∀ v' w', TOwn T w' B v' (L ++ [q]) → w.grownBy w' v.ownBlock → (∀ w0, Below B w0 w → Below B w0 w') → wpList Try.prog ops Q rest (a.put o.dst v') w') :
    wpList Try.prog ops Q (o :: rest) a w := by
  obtain ⟨hu, z, hzc, hinfo⟩ := he
  obtain ⟨i0, hi, hz0, hz1, hz2⟩ := info_parts hinfo
  refine wpList_append_own w hgd s x t ho B T i0 z 3 by_ hu hi hz0 hz1 hz2 hzc (by decide) v L.length (c3 L) hs hown ad 1 c (l3 q) hx rfl hnews (one3_mem hq) (by unfold maxLen; omega) hby hB ?_
  intro v' w' h2 h3 _
  refine h v' w' ?_ h3 (fun w0 hb => hb.grown h3 hB fun k hk => (World.ownsRow.lt hown k hk).1)
  unfold TOwn
  rw [List.length_append, c3_two]
  have e : c3 [q] = l3 q := by simp [c3]
  rw [e]
  exact h2

end Go.Proofs.Ytkpieeldoielgaa
