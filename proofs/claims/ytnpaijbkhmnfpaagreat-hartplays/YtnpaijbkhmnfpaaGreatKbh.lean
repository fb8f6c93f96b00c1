/- Texts put together: PlyQ, PlyR, PlyS. -/
import Derived.Test.YtnpaijbkhmnfpaaGreatKav
import Derived.Test.YtnpaijbkhmnfpaaGreatKar
import Derived.Test.YtnpaijbkhmnfpaaGreatKat
import Derived.Test.YtnpaijbkhmnfpaaGreatKax
import Derived.Test.YtnpaijbkhmnfpaaGreatKab

/- Ours: what lies behind the reference's step, as the law stores it. -/
namespace Go.Proofs.YtnpaijbkhmnfpaaGreat
open Go.RowKit Go.Maps
theorem HvN.less {w : World} {G G' : Nat → Prop} {H : Hs} {V : Value} (v : HvN G w H V) (hG : ∀ j, G' j → G j) : HvN G' w H V := by
  obtain ⟨pS, cS, pH, cH, pL, cL, rfl, s1, s2, s3, s4, s5, s6⟩ := v
  exact ⟨pS, cS, pH, cH, pL, cL, rfl, s1, s2, s3, s4, s5.less hG, s6.less hG⟩

structure R17 (G : Nat → Prop) (w8 wx : World) (gb : Nat) (s : St) (S8 : Array Value) (p8 pe : Option Addr) (ce : Nat) : Prop where
  blk : Blk wx gb 50 S8
  z : S8.size = 13
  hv : HvN G wx s.h (.agg S8)
  row : Row wx p8 s.xs
  off : Off G p8 s.xs.length
  ev : EOwn 41 wx w8.heap.size (.slice pe s.ev.length ce) s.ev
  bel : Below w8.heap.size w8 wx
theorem fin17a {G : Nat → Prop} {w8 w10 w11 wA : World} {s : St} {S8 : Array Value} {p8 pe : Option Addr} {ce : Nat} (k : HvN G w10 s.h (.agg S8) ∧ Row w10 p8 s.xs ∧ Off G p8 s.xs.length ∧ EOwn 41 w10 w8.heap.size (.slice pe s.ev.length ce) s.ev) (hN : Below w10.heap.size w10 w11) (hQ : Below w8.heap.size w8 w10) (hbA : Blk wA w10.heap.size 50 S8) (hgA : w11.grownBy wA (some w10.heap.size)) : R17 G w8 wA w10.heap.size s S8 p8 pe ce := by
  obtain ⟨hv, hr, ho, he⟩ := k
  have hb : Below w10.heap.size w10 wA := hN.grown hgA hN.size (fun k hk => by injection hk with hk; omega)
  exact ⟨hbA, hv.size.1, hv.below hb, hr.below hb, ho, he.below hb, below_step hQ hb⟩
theorem fin17b {G : Nat → Prop} {w8 w10 wA : World} {gb : Nat} {s : St} {S8 : Array Value} {p8 pe : Option Addr} {ce : Nat} (k : HvN (fun j => G j ∨ j = gb ∨ j = gb) w10 s.h (.agg S8) ∧ Row w10 p8 s.xs ∧ Off (fun j => G j ∨ j = gb ∨ j = gb) p8 s.xs.length ∧ EOwn 41 w10 w8.heap.size (.slice pe s.ev.length ce) s.ev) (hA : Blk w10 gb 50 #[.int .u8 0, .int .u32 0, .int .u32 0, .int .u32 0, .int .u32 0, .int .u32 0, .int .u32 0, .int .u32 0, .int .u32 0, .int .u32 0, .slice none 0 0, .slice none 0 0, .slice none 0 0]) (hg : w8.heap.size ≤ gb) (hQ : Below w8.heap.size w8 w10) (hbA : Blk wA gb 50 S8) (hgA : w10.grownBy wA (some gb)) : R17 G w8 wA gb s S8 p8 pe ce := by
  obtain ⟨hv, hr, ho, he⟩ := k
  have hk := keeps_grown hgA
  exact ⟨hbA, hv.size.1, (hv.at_ (.inr (.inl rfl)) hA (no64 _ _ _ _ _ _ _ _ _ _ _ _ _ _ _ _ _ _ _) hk).less (fun j h => .inl h), hr.off (ho.less (fun j e => .inr (.inl e))) hk, ho.less (fun j h => .inl h), rowOther he hgA hA (by decide), hQ.grown hgA hQ.size (fun k hk => by injection hk with hk; omega)⟩
/-- a struct is stored, in a region that draws -/
theorem oper_store_any {ops : Array Oper} {o : Oper} {a : Act} {w : World} {K : Act → World → Prop} {Q : Exit → Act → World → Prop} {E : Prop} {g : Nat} {T : TypeId} {c : Array Value} (hB : Blk w g T c) (hg : o.guard = none) (t : TypeId) (p x : Operand) (ho : o.op = .store t p x) (hd : o.dst = none)
    (hp : a.eval p = .pointer (some ⟨g, 0, none⟩)) (c' : List Value) (hx : a.eval x = .agg c'.toArray) (hi : (Tryz.prog.info? t).map (·.size) = some c'.length) (hcs : c'.length = c.size) (h1 : (c'.all (·.oneCell')) = true)
    (h : ∀ w', Blk w' g T c'.toArray → w.grownBy w' (some g) → K a w') : if Region.wanted o (yielded ops a.tmps) = true then Oper.wp Tryz.prog o a w K Q else E := by
  rw [if_pos (by unfold Region.wanted; rw [hg])]
  refine wp_store_mid t p x ho g 0 c'.toArray hp hx (hB.there 0 _ (by simp; omega)) (by simpa using hi) (by rw [List.all_toArray]; exact h1) ?_
  rw [hd]
  exact h _ (hB.setAll c'.toArray (by simpa using hcs)) (grown_setCells g _ _ _)
end Go.Proofs.YtnpaijbkhmnfpaaGreat

/- Ours: a copy goes on in a hart's place; the elder one goes on with a copied memory. -/
namespace Go.Proofs.YtnpaijbkhmnfpaaGreat
open Go.RowKit Go.Maps

theorem TH.wide {w0 w w' : World} {G : Nat → Prop} {q mg h l b h2 l2 b2 x y : Nat} {id id2 : Int} {H H2 : Hs} {xs : List Int} (k : TH w0 w G q mg h l b id H h2 l2 b2 id2 H2 xs) (hb : Below w.heap.size w w') (g1 : w.heap.size ≤ x) (g2 : w.heap.size ≤ y) (g3 : x < w'.heap.size) (g4 : y < w'.heap.size) : TH w0 w' (fun j => G j ∨ j = x ∨ j = y) q mg h l b id H h2 l2 b2 id2 H2 xs :=
  ⟨k.k1.wide hb g1 g2 g3 g4, k.k2.wide hb g1 g2 g3 g4, k.n1, k.n2⟩
section
variable {w0 w w' w1 w2 : World} {G : Nat → Prop} {q mg h l b h' l' b' h2 l2 b2 q' g' x y z : Nat} {id id2 id3 : Int} {H H2 H3 H3' : Hs} {xs ys : List Int}
theorem HM.keep3 (k : HM w0 w G q mg h l b id H xs) (hk : Keeps (G3 x y z) w w') (hG : ∀ j, G3 x y z j → G j) (hl : ∀ j, G3 x y z j → w0.heap.size ≤ j) (nh : ¬ G3 x y z h) (nb : ¬ G3 x y z b) (nm : ¬ G3 x y z mg) : HM w0 w' G q mg h l b id H xs :=
  ⟨k.hat.keeps hk hG nh nb, k.mem.keeps hk (fun e => k.gq (hG _ e)) nm, k.bel.trans (hk.below k.bel.size hl), k.gm, k.gq, fun j hj => Nat.lt_of_lt_of_le (k.lt j hj) hk.size⟩
theorem TH.copy2 (k : TH w0 w G q mg h l b id H h2 l2 b2 id2 H2 xs) (hok : HsOk 1000000 H) : Calls Tryz.prog 18 #[.pointer (some ⟨h, 0, none⟩)] w fun e w' => ∃ h' l' b', e = .returned (.pointer (some ⟨h', 0, none⟩)) ∧ TH w0 w' (fun j => G j ∨ j = h' ∨ j = b') q mg h' l' b' id H h2 l2 b2 id2 H2 xs ∧ HM w0 w' (fun j => G j ∨ j = h' ∨ j = b') q mg h l b id H xs ∧ h ≠ h' ∧ b ≠ b' ∧ w.heap.size ≤ h' ∧ w.heap.size ≤ b' ∧ Below w.heap.size w w' := by
  refine (k.k1.copyG hok).mono ?_
  rintro e w' ⟨h', l', b', rfl, hh, g3, g4, g2, hb⟩
  have g1 := hh.bh
  have m1 := k.k1.wide hb g1 g2 g3 g4
  have m2 := k.k2.wide hb g1 g2 g3 g4
  have a1 := k.k1.lt _ k.k1.hat.gh
  have a2 := k.k1.lt _ k.k1.hat.gb
  have a3 := k.k2.lt _ k.k2.hat.gh
  have a4 := k.k2.lt _ k.k2.hat.gb
  have hz := k.k1.bel.size
  exact ⟨h', l', b', rfl, ⟨⟨⟨hh.blk, ⟨hh.lin.blk, hh.lin.map, hh.lin.ris, Nat.le_trans hz hh.lin.hq, Nat.le_trans hz hh.lin.hb⟩, hh.gh, hh.gb, hh.gl, Nat.le_trans hz hh.bh⟩, m1.mem, m1.bel, m1.gm, m1.gq, m1.lt⟩, m2, by omega, by omega⟩, m1, by omega, by omega, g1, g2, hb⟩
theorem TH.sync3 (N : TH w0 w G q mg h' l' b' id H h2 l2 b2 id2 H2 xs) (O : HM w0 w G q mg h l b id3 H3 xs) (a1 : h ≠ h') (a2 : b ≠ b') (c1 : h ≠ h2) (c2 : b ≠ b2) (O' : HM w0 w' G q mg h l b id3 H3' xs) (hk : Keeps (G3 h b mg) w w') : TH w0 w' G q mg h' l' b' id H h2 l2 b2 id2 H2 xs :=
  ⟨(TH.other ⟨O, N.k1, a1, a2⟩ O' hk).k2, (TH.other ⟨O, N.k2, c1, c2⟩ O' hk).k2, N.n1, N.n2⟩
theorem HM.memNew (O : HM w0 w G q mg h l b id H xs) (hb : Below w.heap.size w w') (hm : Mem w' w.heap.size q' g' ys) : HM w0 w' (fun j => G j ∨ j = g' ∨ j = g') q' g' h l b id H ys := by
  have g1 := hm.own.base
  have g3 := hm.own.lt
  have k1 := O.wide hb g1 g1 g3 g3
  have hq := hm.base
  have hn := hm.ne
  refine ⟨k1.hat, hm.lower O.bel.size, k1.bel, .inr (.inl rfl), ?_, k1.lt⟩
  rintro (e | e | e)
  · have := O.lt _ e
    omega
  · omega
  · omega
theorem TH.step3 (N : TH w0 w G q mg h' l' b' id H h2 l2 b2 id2 H2 xs) (O : HM w0 w G q mg h l b id3 H3 xs) (a1 : h ≠ h') (a2 : b ≠ b') (c1 : h ≠ h2) (c2 : b ≠ b2) (hb : Below w.heap.size w w1) (hm : Mem w1 w.heap.size q' g' ys) (hk : Keeps (G3 h b g') w1 w2) : TH w0 w2 (fun j => G j ∨ j = g' ∨ j = g') q mg h' l' b' id H h2 l2 b2 id2 H2 xs := by
  have hg := hm.own.base
  have N1 := N.wide hb hg hg hm.own.lt hm.own.lt
  have x1 := O.cross N.k1
  have x2 := N.k1.cross O
  have x3 := O.cross N.k2
  have x4 := N.k2.cross O
  have y1 := N.k1.lt _ N.k1.hat.gh
  have y2 := N.k1.lt _ N.k1.hat.gb
  have y3 := N.k2.lt _ N.k2.hat.gh
  have y4 := N.k2.lt _ N.k2.hat.gb
  have y5 := N.k1.lt _ N.k1.gm
  have hz := N.k1.bel.size
  obtain ⟨-, -, n3, n4, -⟩ := O.apart3
  have hG : ∀ j, G3 h b g' j → (G j ∨ j = g' ∨ j = g') := by
    rintro j (e | e | e)
    · exact .inl (e ▸ O.hat.gh)
    · exact .inl (e ▸ O.hat.gb)
    · exact .inr (.inl e)
  have hl : ∀ j, G3 h b g' j → w0.heap.size ≤ j := by
    rintro j (e | e | e)
    · exact (O.lt3 j (.inl e)).1
    · exact (O.lt3 j (.inr (.inl e))).1
    · omega
  refine ⟨N1.k1.keep3 hk hG hl ?_ ?_ ?_, N1.k2.keep3 hk hG hl ?_ ?_ ?_, N.n1, N.n2⟩ <;> rintro (e | e | e) <;> omega
end
end Go.Proofs.YtnpaijbkhmnfpaaGreat

/- Ours: events in a list of their own, as a row. -/
namespace Go.Proofs.YtnpaijbkhmnfpaaGreat
open Go.RowKit Go.Maps

theorem EOwn.erow {T : TypeId} {w : World} {B n c : Nat} {p : Option Addr} {L : List Ev} (h : EOwn T w B (.slice p n c) L) : ERow w p L := by
  obtain ⟨p', cap, e, -, -, hr⟩ := h.row7
  injection e with e1
  rw [e1]
  exact hr
theorem EOwn.short {T : TypeId} {w : World} {B : Nat} {v : Value} {L : List Ev} (h : EOwn T w B v L) : L.length ≤ 9223372036854775807 := by
  obtain ⟨p', cap, e, h1, h2, hr⟩ := h.row7
  exact Nat.le_trans h1 (Nat.le_trans h2 (by decide))
end Go.Proofs.YtnpaijbkhmnfpaaGreat
