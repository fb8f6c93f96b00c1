/- Texts put together: RHr. -/
import Derived.Test.YtnpaijbkhmnfpaaGreatKax
import Derived.Test.YtnpaijbkhmnfpaaGreatKas
import Derived.Deep.DeepCutAuto

/- Ours: the reference's Step (switchyardref15): an instruction is done. -/
namespace Go.Proofs.YtnpaijbkhmnfpaaGreat
open Go.RowKit Go.Maps

/-- three operations may come up -/
theorem wpAnyG_three {P : Program} {md : Region.Mode} {ops : Array Oper} {Q : Exit → Act → World → Prop} {S : World → Prop} {ex : List Nat} {i j k : Nat} {oi oj ok : Oper} {fuel : Nat} {listed : Array Bool} {a : Act} {w : World} (hr : Region.ready md ops listed = [i, j, k]) (hi : ops[i]? = some oi) (hj : ops[j]? = some oj) (hk : ops[k]? = some ok)
    (h1 : ∀ K' : Act → World → Prop, Shut (∀ a w, S w → (S w → wpAnyG P md ops Q S ex fuel (listed.setIfInBounds i true) a w) → K' a w) → if Region.wanted oi (yielded ops a.tmps) = true then Oper.wp P oi a w K' Q else K' (a.put oi.dst undef) w)
    (h2 : ∀ K' : Act → World → Prop, Shut (∀ a w, S w → (S w → wpAnyG P md ops Q S ex fuel (listed.setIfInBounds j true) a w) → K' a w) → if Region.wanted oj (yielded ops a.tmps) = true then Oper.wp P oj a w K' Q else K' (a.put oj.dst undef) w)
    (h3 : ∀ K' : Act → World → Prop, Shut (∀ a w, S w → (S w → wpAnyG P md ops Q S ex fuel (listed.setIfInBounds k true) a w) → K' a w) → if Region.wanted ok (yielded ops a.tmps) = true then Oper.wp P ok a w K' Q else K' (a.put ok.dst undef) w) :
    wpAnyG P md ops Q S ex (fuel + 1) listed a w := by
  refine ⟨fun h0 => absurd (hr ▸ h0) (by simp), fun m hm => ?_⟩
  rw [hr] at hm
  simp only [List.mem_cons, List.not_mem_nil, or_false] at hm
  rcases hm with rfl | rfl | rfl
  · exact wpOp_step hi (fun K' hK => h1 K' (fun a w hS hW => hK a w ⟨fun _ _ => hS, hW hS⟩))
  · exact wpOp_step hj (fun K' hK => h2 K' (fun a w hS hW => hK a w ⟨fun _ _ => hS, hW hS⟩))
  · exact wpOp_step hk (fun K' hK => h3 K' (fun a w hS hW => hK a w ⟨fun _ _ => hS, hW hS⟩))
/-- a struct is stored, in a region that draws -/
theorem oper_store {ops : Array Oper} {o : Oper} {a : Act} {w : World} {K : Act → World → Prop} {Q : Exit → Act → World → Prop} {E : Prop} {g : Nat} {T : TypeId} {c : Array Value} (hB : Blk w g T c) (hg : o.guard = none) (t : TypeId) (p x : Operand) (ho : o.op = .store t p x) (hd : o.dst = none)
    (hp : a.eval p = .pointer (some ⟨g, 0, none⟩)) (c' : List Value) (hx : a.eval x = .agg c'.toArray) (hi : (Tryz.prog.info? t).map (·.size) = some c'.length) (hcs : c'.length = c.size) (h1 : (c'.all (·.oneCell')) = true)
    (h : ∀ w', Blk w' g T c'.toArray → w.grownBy w' (some g) → K a w') : if Region.wanted o (yielded ops a.tmps) = true then Oper.wp Tryz.prog o a w K Q else E := by
  rw [if_pos (by unfold Region.wanted; rw [hg])]
  refine wp_store_mid t p x ho g 0 c'.toArray hp hx (hB.there 0 _ (by simp; omega)) (by simpa using hi) (by rw [List.all_toArray]; exact h1) ?_
  rw [hd]
  exact h _ (hB.setAll c'.toArray (by simpa using hcs)) (grown_setCells g _ _ _)
theorem blk_ne {w : World} {g g' : Nat} {T T' : TypeId} {c c' : Array Value} (h : Blk w g T c) (h' : Blk w g' T' c') (hT : T ≠ T') : g ≠ g' := fun e => by
  subst e
  have e1 : w.heap[g]? = _ := h
  rw [show w.heap[g]? = _ from h'] at e1
  injection e1 with e1
  injection e1 with _ e1 _
  exact hT e1.symm
theorem fin121 {w3 W wA wB : World} {gA gB B : Nat} {zA zB F FE : Array Value} {v : Value} {S9 : List Int} (hA : Blk W gA 47 zA) (hB : Blk W gB 121 zB) (ho : POwnV W B v S9) (hw : Below w3.heap.size w3 W) (ha : w3.heap.size ≤ gA) (hb : w3.heap.size ≤ gB) (hbA : Blk wA gA 47 F) (g1 : W.grownBy wA (some gA)) (hbB : Blk wB gB 121 FE) (g2 : wA.grownBy wB (some gB)) :
    Blk wB gA 47 F ∧ Blk wB gB 121 FE ∧ POwnV wB B v S9 ∧ Below w3.heap.size w3 wB ∧ w3.heap.size ≤ gA ∧ w3.heap.size ≤ gB := by
  have hne := blk_ne hA hB (by decide)
  have b2 := hB.kept g1 (by intro e; injection e with e; exact hne e.symm)
  have o1 := ho.kept g1 (ho.ne hA (by decide))
  have l1 := hw.grown g1 hw.size (fun k hk => by cases hk; exact ha)
  exact ⟨hbA.kept g2 (by intro e; injection e with e; exact hne e), hbB, o1.kept g2 (o1.ne b2 (by decide)), l1.grown g2 l1.size (fun k hk => by cases hk; exact hb), ha, hb⟩

theorem set10 (v0 v1 v2 v3 v4 v5 v6 v7 v8 v9 v10 v11 v12 x1 x2 x3 x4 x5 x6 x7 x8 x9 x10 : Value) : ((((((((((#[v0, v1, v2, v3, v4, v5, v6, v7, v8, v9, v10, v11, v12].setIfInBounds 2 x2).setIfInBounds 3 x3).setIfInBounds 4 x4).setIfInBounds 5 x5).setIfInBounds 6 x6).setIfInBounds 7 x7).setIfInBounds 8 x8).setIfInBounds 9 x9).setIfInBounds 10 x10).setIfInBounds 1 x1) = #[v0, x1, x2, x3, x4, x5, x6, x7, x8, x9, x10, v11, v12] := by simp
theorem blk_as {w : World} {g : Nat} {T : TypeId} {c c' : Array Value} (h : Blk w g T c) (e : c = c') : Blk w g T c' := e ▸ h
theorem rsIs_eq {G : Nat → Prop} {w w' : World} {s t : St} {e : Ending} (h : s = t) (k : RsIs G w t e w') : RsIs G w s e w' := h ▸ k
/-- a list of other things stays as events are appended -/
theorem rowEv {w w' : World} {B B' : Nat} {T : TypeId} {z : Nat} {v ve : Value} {n : Nat} {xs : List Value} {L : List Ev} (h : w.ownsRow B T z v n xs) (he : EOwn 41 w B' ve L) (hg : w.grownBy w' ve.ownBlock) (hT : T ≠ 41) : w'.ownsRow B T z v n xs := by
  rcases he.2 with ⟨e1, -⟩ | ⟨g', cap, cur, e1, -, e3, -⟩
  · rw [e1] at hg
    refine ⟨h.1, h.2.imp id ?_⟩
    rintro ⟨k, cap, cur, e1, e2, e3, e4⟩
    exact ⟨k, cap, cur, e1, e2, (hg.block k (Array.getElem?_eq_some_iff.1 e3).1 (fun e => by cases e)).trans e3, e4⟩
  · rw [e1] at hg
    exact rowOther h (g := g') hg (c := cur) e3 hT
/-- behind an instruction: the hart, its answer, the registers, the effect, the events, memory -/
structure RX (G : Nat → Prop) (w : World) (gr gx : Nat) (A FR FE : Array Value) (pR : Option Addr) (cR : Nat) (S9 : List Int) (v : Value) (L : List Ev) (p2 : Option Addr) (zs : List Int) (wx : World) : Prop where
  bel : Below w.heap.size w wx
  ba : Blk wx w.heap.size 50 A
  bz : Blk wx (w.heap.size + 1) 50 #[.int .u8 0, .int .u32 0, .int .u32 0, .int .u32 0, .int .u32 0, .int .u32 0, .int .u32 0, .int .u32 0, .int .u32 0, .int .u32 0, .slice none 0 0, .slice none 0 0, .slice none 0 0]
  br : Blk wx gr 47 FR
  bx : Blk wx gx 121 FE
  ev : EOwn 41 wx w.heap.size v L
  st : POwnV wx w.heap.size (.slice pR S9.length cR) S9
  row : (Row w p2 zs ∧ Off G p2 zs.length) ∨ ∃ c, OwnV wx w.heap.size (.slice p2 zs.length c) zs
section
variable {G : Nat → Prop} {w wx wy : World} {gr gx : Nat} {A FR FE : Array Value} {pR : Option Addr} {cR : Nat} {S9 : List Int} {v : Value} {L : List Ev} {p2 : Option Addr} {zs : List Int}
theorem RX.below (k : RX G w gr gx A FR FE pR cR S9 v L p2 zs wx) (hb : Below wx.heap.size wx wy) : RX G w gr gx A FR FE pR cR S9 v L p2 zs wy :=
  ⟨below_step k.bel hb, k.ba.grow hb, k.bz.grow hb, k.br.grow hb, k.bx.grow hb, k.ev.below hb, k.st.below hb, k.row.imp id (fun ⟨c, h⟩ => ⟨c, h.below hb⟩)⟩
theorem RX.pushed {v' : Value} {q : Ev} {ob : Obj} (k : RX G w gr gx A FR FE pR cR S9 v L p2 zs wx) (ho : EOwn 41 wy w.heap.size v' (L ++ [q])) (hg : (wx.alloc ob).grownBy wy v.ownBlock) (hb : Below w.heap.size w wy) : RX G w gr gx A FR FE pR cR S9 v' (L ++ [q]) p2 zs wy := by
  have k1 := k.below (new_alloc wx ob)
  exact ⟨hb, k1.ba.kept hg (k1.ev.ownNe k1.ba (by decide)), k1.bz.kept hg (k1.ev.ownNe k1.bz (by decide)), k1.br.kept hg (k1.ev.ownNe k1.br (by decide)), k1.bx.kept hg (k1.ev.ownNe k1.bx (by decide)), ho, rowEv k1.st k1.ev hg (by decide), k1.row.imp id (fun ⟨c, h⟩ => ⟨c, rowEv h k1.ev hg (by decide)⟩)⟩
theorem RX.setA {A' : Array Value} (k : RX G w gr gx A FR FE pR cR S9 v L p2 zs wx) (hB : Blk wy w.heap.size 50 A') (hg : wx.grownBy wy (some w.heap.size)) : RX G w gr gx A' FR FE pR cR S9 v L p2 zs wy :=
  ⟨k.bel.grown hg k.bel.size (fun j hj => by injection hj with hj; omega), hB, k.bz.kept hg (by intro e; injection e with e; omega), k.br.kept hg (by intro e; injection e with e; exact blk_ne k.br k.ba (by decide) e), k.bx.kept hg (by intro e; injection e with e; exact blk_ne k.bx k.ba (by decide) e), rowOther k.ev hg k.ba (by decide), rowOther k.st hg k.ba (by decide), k.row.imp id (fun ⟨c, h⟩ => ⟨c, rowOther h hg k.ba (by decide)⟩)⟩
theorem RX.first (q : Ev) (k : RX G w gr gx A FR FE pR cR S9 v L p2 zs wx) : RX G w gr gx A FR FE pR cR S9 (.slice (some ⟨wx.heap.size, 0, none⟩) 1 1) [q] p2 zs (wx.alloc (.cells (evA q) 41)) := by
  have k1 := k.below (new_alloc wx (.cells (evA q) 41))
  exact ⟨k1.bel, k1.ba, k1.bz, k1.br, k1.bx, (EOwn.one wx q).lower k.bel.size, k1.st, k1.row⟩
theorem RX.wrote {vq : Value} {q2 : Option Addr} {c2 : Nat} {ys : List Int} (k : RX G w gr gx A FR FE pR cR S9 v L p2 zs wx) (hb : Below wx.heap.size wx wy) (hv : vq = .slice q2 ys.length c2) (ho : OwnV wy wx.heap.size vq ys) : RX G w gr gx A FR FE pR cR S9 v L q2 ys wy := by
  subst hv
  have k1 := k.below hb
  exact ⟨k1.bel, k1.ba, k1.bz, k1.br, k1.bx, k1.ev, k1.st, .inr ⟨c2, ho.lowerV k.bel.size⟩⟩
/-- memory's bytes, at last -/
theorem RX.bytes (k : RX G w gr gx A FR FE pR cR S9 v L p2 zs wx) : Row wx p2 zs := by
  rcases k.row with h | ⟨c, h⟩
  · exact h.1.below k.bel
  · obtain ⟨p, c', e, hr, -⟩ := h.slice
    injection e with e1
    rw [e1]; exact hr
theorem RX.offS (k : RX G w gr gx A FR FE pR cR S9 v L p2 zs wx) (hG : ∀ j, G j → j < w.heap.size) : Off G pR S9.length := by
  rcases k.st.2 with ⟨-, e⟩ | ⟨g, cap, cur, e, hg, -⟩
  · rw [e]; exact Off.zero _ _
  · injection e with e1
    rw [e1]; exact Off.own hG hg
theorem RX.offP (k : RX G w gr gx A FR FE pR cR S9 v L p2 zs wx) (hG : ∀ j, G j → j < w.heap.size) : Off G p2 zs.length := by
  rcases k.row with h | ⟨c, h⟩
  · exact h.2
  · rcases h.2 with ⟨-, e⟩ | ⟨g, cap, cur, e, hg, -⟩
    · rw [e]; exact Off.zero _ _
    · injection e with e1
      rw [e1]; exact Off.own hG hg
theorem RX.stack (k : RX G w gr gx A FR FE pR cR S9 v L p2 zs wx) : PRow wx pR S9 := by
  obtain ⟨p, c', e, hr, -⟩ := k.st.slice
  injection e with e1
  rw [e1]; exact hr
end

theorem evLen1 {a : Ev} : ([a] : List Ev).length ≤ 1048576 := by simp
theorem evLen2 {a : Ev} {b : Bool} {x : Ev} : (([a] : List Ev) ++ if b = true then [x] else []).length ≤ 1048576 := by split <;> simp
theorem evLen3 {a : Ev} {b c : Bool} {x y : Ev} : ((([a] : List Ev) ++ if b = true then [x] else []) ++ if c = true then [y] else []).length ≤ 1048576 := by
  have h1 : ∀ (b : Bool) (x : Ev), (if b = true then [x] else []).length ≤ 1 := fun b x => by split <;> simp
  have := h1 b x
  have := h1 c y
  simp only [List.length_append, List.length_cons, List.length_nil]
  omega
/-- the code of a walk from a region on, taken out of the program's text -/
def hdReg (n : Nat) : Code → Bool
  | .region k _ _ => k == n
  | .seq a _ => hdReg n a
  | _ => false
def atReg (n : Nat) : Code → Option Code
  | .seq a b => if hdReg n a then some (.seq a b) else match atReg n a with
    | some c => some c
    | none => atReg n b
  | .block _ c => atReg n c
  | .scope c => atReg n c
  | _ => none
noncomputable def restH : Code := ((Tryz.f23.body.bind (atReg 25)).getD .skip)
set_option maxHeartbeats 16000000 in
set_option maxRecDepth 20000 in
theorem rstepH_rest (id : Int) (p8 : Option Addr) (d : Nat) (xs : List Int) (w : World) (G : Nat → Prop) (hxl : xs.length ≤ 65536) (pc : Nat) (S : List Int) (L : List Ln) (hpc : pc ≤ 4294967295) (pS : Option Addr) (cS : Nat) (pL : Option Addr) (cL : Nat) (r0 r1 r2 r3 r4 r5 r6 r7 : Int) (pH : Option Addr) (cH : Nat) (hv : List Int) (HS : Hid (PRow w pS S ∧ Row w pH hv ∧ LRow w pL L ∧ (pH = none → cH = 0))) (HX : Hid (Row w p8 xs)) (HXO : Hid (Off G p8 xs.length)) (HO5 : Hid (Off G pS S.length ∧ Off G pH hv.length)) (HGG : Hid (∀ (j : Nat), G j → j < w.heap.size)) (n le : Int) (on an bn : Nat) (S9 : List Int) (nx : Int) (hal : Bool) (fl : Int) (ou stt : Bool) (at_ va : Int) (HST : Hid (fl = 0 → stt = true → ∃ k : Nat, at_ = k ∧ k + 4 ≤ xs.length)) (u1 : U32 nx) (u2 : U32 at_) (u3 : U32 va) (u4 : U32 fl) (s0 s1 s2 s3 s4 s5 s6 s7 : Int) (w4 : World) (HA4 : Hid (Blk w4 w.heap.size 50 #[.int .u8 0, .int .u32 pc, .int .u32 r0, .int .u32 r1, .int .u32 r2, .int .u32 r3, .int .u32 r4, .int .u32 r5, .int .u32 r6, .int .u32 r7, .slice pS S.length cS, .slice none 0 0, .slice pL L.length cL])) (HZ4 : Hid (Blk w4 (w.heap.size + 1) 50 #[.int .u8 0, .int .u32 0, .int .u32 0, .int .u32 0, .int .u32 0, .int .u32 0, .int .u32 0, .int .u32 0, .int .u32 0, .int .u32 0, .slice none 0 0, .slice none 0 0, .slice none 0 0])) (HN4 : Hid (Below w.heap.size w w4)) (gi : Nat) (HI4 : Hid (Blk w4 gi 117 #[.int .u8 on, .int .u8 an, .int .u8 bn, .int .i32 n])) (wc : World) (gr gx : Nat) (pR : Option Addr) (cR : Nat) (hgr : Blk wc gr 47 #[.int .u32 s0, .int .u32 s1, .int .u32 s2, .int .u32 s3, .int .u32 s4, .int .u32 s5, .int .u32 s6, .int .u32 s7, .slice pR S9.length cR]) (hgx : Blk wc gx 121 #[.int .u32 nx, .bool hal, .int .i64 fl, .bool ou, .bool stt, .int .u32 at_, .int .u32 va]) (hown : POwnV wc w.heap.size (.slice pR S9.length cR) S9) (hbel : Below w4.heap.size w4 wc) (y0 y3 y4 y6 y7 y8 y9 y13 y14 y15 y16 y17 y18 y19 y20 y21 y25 y26 y27 y30 y31 y32 y33 y34 y35 y36 y37 y38 y39 y40 y41 y42 y43 y44 y45 y46 y47 y48 y49 y50 y51 y52 y53 y54 y55 y56 y57 y58 y59 y60 y61 y62 y63 y64 y65 y66 y67 y68 y69 y70 y71 y72 y73 y74 y75 y76 y77 y78 y79 y80 y81 y82 y83 y84 y85 y86 y87 y88 y89 y90 y91 y92 y93 y94 y95 y96 y97 y98 y99 y100 y101 y102 y103 y104 y105 y106 y107 y108 y109 y110 y111 y112 y113 y114 y115 y116 y117 y118 y119 y120 y121 y122 y123 y124 y125 y126 y127 y128 y129 y130 y131 y132 y133 y134 y135 y136 y137 y138 y139 y140 y141 y142 y143 y144 y145 y146 y147 y148 y149 y150 y151 y152 y153 y154 y155 y156 y157 y158 y159 y160 y161 y162 y163 y164 y165 y166 y167 y168 y169 y170 y171 y172 y173 y174 y175 y176 y177 y178 y179 y180 y181 y182 y183 y184 y185 y186 y187 y188 y189 y190 y191 y192 y193 y194 y195 y196 y197 y198 y199 y200 y201 y202 y203 y204 y205 y206 y207 y208 y209 y210 y211 y212 y213 y214 y215 y216 y217 y218 y219 : Value) :
    Code.wp Tryz.prog restH (bodyPost Tryz.prog Tryz.f23 fun e w' => RsIs G w (exeH id ⟨0, pc, [r0, r1, r2, r3, r4, r5, r6, r7], S, [], L⟩ xs on ([s0, s1, s2, s3, s4, s5, s6, s7], S9, ⟨nx, hal, fl, ou, stt, at_, va⟩)) e w') ⟨#[y0, .int .i64 id, .slice p8 xs.length d, y3, y4, .pointer (some ⟨w.heap.size, 0, none⟩), y6, y7, y8, y9, .pointer (some ⟨w.heap.size + 1, 0, none⟩), .slice none 0 0, .slice none 0 0, y13, y14, y15, y16, y17, y18, y19, y20, y21, .pointer (some ⟨gi, 0, none⟩), .int .i64 le, .int .i64 0, y25, y26, y27, .pointer (some ⟨gr, 0, none⟩), .pointer (some ⟨gx, 0, none⟩), y30, y31, y32, y33, y34, y35, y36, y37, y38, y39, y40, y41, y42, y43, y44, y45, y46, y47, y48, y49, y50, y51, y52, y53, y54, y55, y56, y57, y58, y59, y60, y61, y62, y63, y64, y65, y66, y67, y68, y69, y70, y71, y72, y73, y74, y75, y76, y77, y78, y79, y80, y81, y82, y83, y84, y85, y86, y87, y88, y89, y90, y91, y92, y93, y94, y95, y96, y97, y98, y99, y100, y101, y102, y103, y104, y105, y106, y107, y108, y109, y110, y111, y112, y113, y114, y115, y116, y117, y118, y119, y120, y121, y122, y123, y124, y125, y126, y127, y128, y129, y130, y131, y132, y133, y134, y135, y136, y137, y138, y139, y140, y141, y142, y143, y144, y145, y146, y147, y148, y149, y150, y151, y152, y153, y154, y155, y156, y157, y158, y159, y160, y161, y162, y163, y164, y165, y166, y167, y168, y169, y170, y171, y172, y173, y174, y175, y176, y177, y178, y179, y180, y181, y182, y183, y184, y185, y186, y187, y188, y189, y190, y191, y192, y193, y194, y195, y196, y197, y198, y199, y200, y201, y202, y203, y204, y205, y206, y207, y208, y209, y210, y211, y212, y213, y214, y215, y216, y217, y218, y219], []⟩ wc := by
  conv => arg 2; whnf
  obtain ⟨nx, rfl⟩ : ∃ k : Nat, nx = k := ⟨nx.toNat, by have := u1.1; omega⟩
  obtain ⟨at_, rfl⟩ : ∃ k : Nat, at_ = k := ⟨at_.toNat, by have := u2.1; omega⟩
  obtain ⟨va, rfl⟩ : ∃ k : Nat, va = k := ⟨va.toNat, by have := u3.1; omega⟩
  have HX0 : Hid (RX G w gr gx #[.int .u8 0, .int .u32 pc, .int .u32 r0, .int .u32 r1, .int .u32 r2, .int .u32 r3, .int .u32 r4, .int .u32 r5, .int .u32 r6, .int .u32 r7, .slice pS S.length cS, .slice none 0 0, .slice pL L.length cL] #[.int .u32 s0, .int .u32 s1, .int .u32 s2, .int .u32 s3, .int .u32 s4, .int .u32 s5, .int .u32 s6, .int .u32 s7, .slice pR S9.length cR] #[.int .u32 nx, .bool hal, .int .i64 fl, .bool ou, .bool stt, .int .u32 at_, .int .u32 va] pR cR S9 (.slice none 0 0) [] p8 xs wc) := ⟨below_step HN4.out hbel, HA4.out.grow hbel, HZ4.out.grow hbel, hgr, hgx, EOwn.nil _ _ _, hown, .inl ⟨HX.out, HXO.out⟩⟩
  have HIc := Hid.in (HI4.out.grow hbel)
  have l1 : nx ≤ 4294967295 := by have := u1.2; omega
  have l2 : at_ ≤ 4294967295 := by have := u2.2; omega
  have l3 : va ≤ 4294967295 := by have := u3.2; omega
  clear hgr hgx hown hbel u1 u2 u3 HA4 HZ4 HI4 HN4
  have x2 : wc.cell? ⟨gx, 2, none⟩ = some (.int .i64 fl) := HX0.out.bx.cell 2
  by_cases hfl : fl = 0
  ·   skip
      have HST2 := Hid.in (HST.out hfl)
      subst hfl
      have x0 : wc.cell? ⟨gx, 0, none⟩ = some (.int .u32 nx) := HX0.out.bx.cell 0
      have c1 : wc.cell? ⟨w.heap.size, 1, none⟩ = some (.int .u32 pc) := HX0.out.ba.cell 1
      have i0 : wc.cell? ⟨gi, 0, none⟩ = some (.int .u8 on) := HIc.out.cell 0
      have HE1 := Hid.in (HX0.out.first ⟨2, id, pc, on, nx⟩)
      simp only [evA] at HE1
      clear HX0
      go_upto_region 29 with fail
      generalize wc.heap.size = g3 at *
      generalize wc.alloc (.cells #[.int .u8 2, .int .i64 0, .int .i64 id, .int .i64 pc, .int .u8 on, .int .i64 0, .int .i64 nx] 41) = w6 at *
      clear x0 x2 c1 i0 HIc
      have q3 : w6.cell? ⟨gx, 3, none⟩ = some (.bool ou) := HE1.out.bx.cell 3
      have q6 : w6.cell? ⟨gx, 6, none⟩ = some (.int .u32 va) := HE1.out.bx.cell 6
      go_upto_if 168 with fail
      go_cut [32] (fun v32 wx => RX G w gr gx #[.int .u8 0, .int .u32 pc, .int .u32 r0, .int .u32 r1, .int .u32 r2, .int .u32 r3, .int .u32 r4, .int .u32 r5, .int .u32 r6, .int .u32 r7, .slice pS S.length cS, .slice none 0 0, .slice pL L.length cL] #[.int .u32 s0, .int .u32 s1, .int .u32 s2, .int .u32 s3, .int .u32 s4, .int .u32 s5, .int .u32 s6, .int .u32 s7, .slice pR S9.length cR] #[.int .u32 nx, .bool hal, .int .i64 0, .bool ou, .bool stt, .int .u32 at_, .int .u32 va] pR cR S9 v32 ([⟨2, id, pc, on, nx⟩] ++ if ou = true then [⟨5, id, 0, 0, va⟩] else []) p8 xs wx)
      case first =>
          skip
          cases ou
          ·   skip
              go_wp2_with fail
              go_meet
              case rel => first | exact HE1.out | (rw [ifF]; exact HE1.out)
          ·   skip
              have HLN : Hid ((([⟨2, id, pc, on, nx⟩]) : List Ev).length ≤ 1048576) := evLen1
              have hnews := news7 w6 ⟨5, id, 0, 0, va⟩ 41
              have hsz := HE1.out.bel.size
              simp only [evA] at hnews
              go_wp2_with (at_builtin; refine epush Tryz.elemEv _ rfl _ _ rfl w.heap.size _ ([⟨2, id, pc, on, nx⟩]) rfl (HE1.out.ev.alloc _) ⟨w6.heap.size, 0, none⟩ 1 ⟨5, id, 0, 0, va⟩ rfl hnews HLN.out (by decide) (by rw [size_one]; omega) ?_; intro v7 w7 hT_ hg_ hb_; have HE7 := Hid.in (HE1.out.pushed hT_ hg_ (hb_ w (below_alloc HE1.out.bel _))); clear hT_ hg_ hb_)
              go_meet
              case rel => exact HE7.out
      case rest =>
          skip
          have HE2 := Hid.in hcut
          clear hcut HE1 q3 q6
          have q4 : wc.cell? ⟨gx, 4, none⟩ = some (.bool stt) := HE2.out.bx.cell 4
          have q5 : wc.cell? ⟨gx, 5, none⟩ = some (.int .u32 at_) := HE2.out.bx.cell 5
          have q6 : wc.cell? ⟨gx, 6, none⟩ = some (.int .u32 va) := HE2.out.bx.cell 6
          go_upto_if 178 with fail
          go_cut [2, 32] (fun v2 v32 wx => ∃ p2 c2, v2 = .slice p2 xs.length c2 ∧ RX G w gr gx #[.int .u8 0, .int .u32 pc, .int .u32 r0, .int .u32 r1, .int .u32 r2, .int .u32 r3, .int .u32 r4, .int .u32 r5, .int .u32 r6, .int .u32 r7, .slice pS S.length cS, .slice none 0 0, .slice pL L.length cL] #[.int .u32 s0, .int .u32 s1, .int .u32 s2, .int .u32 s3, .int .u32 s4, .int .u32 s5, .int .u32 s6, .int .u32 s7, .slice pR S9.length cR] #[.int .u32 nx, .bool hal, .int .i64 0, .bool ou, .bool stt, .int .u32 at_, .int .u32 va] pR cR S9 v32 (([⟨2, id, pc, on, nx⟩] ++ if ou = true then [⟨5, id, 0, 0, va⟩] else []) ++ if stt = true then [⟨6, id, at_, 0, va⟩] else []) p2 (if stt = true then putA xs at_ (le4 va) else xs) wx)
          case first =>
              skip
              cases stt
              ·   skip
                  go_wp2_with fail
                  go_meet
                  case rel => exact ⟨p8, d, rfl, by rw [ifF]; exact HE2.out⟩
              ·   skip
                  obtain ⟨k_, hk1, hk2⟩ := HST2.out rfl
                  obtain rfl : at_ = k_ := by omega
                  have hFo := rfour_any va wc ⟨by omega, by omega⟩
                  have hWr := fun (W : World) (g : Nat) (h1 : Below wc.heap.size wc W) (h2 : Own W wc.heap.size g 4 (le4 va)) => refWrite_ok p8 (some ⟨g, 0, none⟩) d 4 at_ xs (le4 va) W (HX.out.below (below_step HE2.out.bel h1)) h2.row hxl hk2
                  have hFo : ∀ W, Below wc.heap.size wc W → Calls Tryz.prog 60 #[.int .u32 va] W fun e w' => ∃ g, e = .returned (.slice (some ⟨g, 0, none⟩) 4 4) ∧ Own w' wc.heap.size g 4 (le4 va) ∧ Below wc.heap.size wc w' := fun W hb => (rfour_any va W ⟨by omega, by omega⟩).mono (by rintro e w' ⟨g, e1, h1, h2⟩; exact ⟨g, e1, h1.lower hb.size, below_step hb h2⟩)
                  have kr5 := fun d os => cell_regrown q5 d os
                  have kr6 := fun d os => cell_regrown q6 d os
                  go_upto_region 32 with fail
                  refine wp_region_noPanic ?_
                  refine wp_region_sink 6 [11] 6 (by kernel_rfl) (by kernel_rfl) (by kernel_rfl) (by kernel_rfl) (by kernel_rfl) (fun _ _ _ _ _ h => h) ?_
                  simp only [List.take_succ_cons, List.take_zero]
                  iterate 6 (go_big_quiet_step (fail))
                  refine wpQuiet_nil ?_
                  rintro _ ⟨⟨dq, osq⟩, rfl⟩
                  have HQ := Hid.in (below_regrown wc dq osq)
                  generalize Go.Sort.grow (redrawn wc dq) osq = w5 at HQ ⊢
                  clear kr5 kr6
                  refine wpAnyG_one (i := 6) (by kernel_rfl) rfl (fun K hK => ?_)
                  go_simp
                  go_at_call 60
                  refine (hFo _ HQ.out).mono ?_
                  rintro e_ w6 ⟨g6, rfl, hO6, hb6⟩
                  refine hK.out _ _ (regrown_of_below hb6) (fun _ => ?_)
                  clear hK K HQ
                  have hW6 := hWr _ _ hb6 hO6
                  have HB6 := Hid.in hb6
                  clear hO6 hb6 hFo hWr
                  refine wpAnyG_one (i := 7) (by kernel_rfl) rfl (fun K hK => ?_)
                  go_simp
                  go_at_call 27
                  refine hW6.mono ?_
                  rintro e_ w7 ⟨v7, rfl, hO7, hb7⟩
                  obtain ⟨p7, c7, hv7, -, -⟩ := hO7.slice
                  have HE7 := Hid.in ((HE2.out.below HB6.out).wrote hb7 hv7 hO7)
                  have HB7 := Hid.in (below_step HB6.out hb7)
                  subst hv7
                  refine hK.out _ _ (regrown_of_below (below_step HB6.out hb7)) (fun _ => ?_)
                  clear hK K hO7 hb7 hW6
                  rw [putA_len hk2] at *
                  refine wpAnyG_takeW (i := 8) (v := .tuple #[.slice p7 xs.length c7, .int .i64 0]) rfl (by kernel_rfl) (by kernel_rfl) (by kernel_rfl) (fun _ _ _ h => h) (((Closed.picked (ex := [11]) (List.range 6) _ (by kernel_rfl) (Closed.start _)).step (j := 6) (by kernel_rfl)).step (j := 7) (by kernel_rfl)) (by kernel_rfl) (fun W => by go_simp) ?_
                  refine wpAnyG_takeW (i := 9) (v := .slice p7 xs.length c7) rfl (by kernel_rfl) (by kernel_rfl) (by kernel_rfl) (fun _ _ _ h => h) ((((Closed.picked (ex := [11]) (List.range 6) _ (by kernel_rfl) (Closed.start _)).step (j := 6) (by kernel_rfl)).step (j := 7) (by kernel_rfl)).step (j := 8) (by kernel_rfl)) (by kernel_rfl) (fun W => by go_simp) ?_
                  refine wpAnyG_takeW (i := 10) (v := .int .i64 0) rfl (by kernel_rfl) (by kernel_rfl) (by kernel_rfl) (fun _ _ _ h => h) (((((Closed.picked (ex := [11]) (List.range 6) _ (by kernel_rfl) (Closed.start _)).step (j := 6) (by kernel_rfl)).step (j := 7) (by kernel_rfl)).step (j := 8) (by kernel_rfl)).step (j := 9) (by kernel_rfl)) (by kernel_rfl) (fun W => by go_simp) ?_
                  refine wpAnyG_last (i := 11) (by kernel_rfl) rfl rfl (fun K hK => ?_)
                  go_simp
                  refine hK.out _ _ ?_
                  clear hK K
                  refine wpAnyG_done (by kernel_rfl) ?_ _
                  refine NoPanic.normal ?_
                  have y5 : w7.cell? ⟨gx, 5, none⟩ = some (.int .u32 at_) := HE7.out.bx.cell 5
                  have y6 : w7.cell? ⟨gx, 6, none⟩ = some (.int .u32 va) := HE7.out.bx.cell 6
                  clear q5 q6
                  have HLN : Hid ((([⟨2, id, pc, on, nx⟩] ++ if ou = true then [⟨5, id, 0, 0, va⟩] else []) : List Ev).length ≤ 1048576) := evLen2
                  have hnews := news7 w7 ⟨6, id, at_, 0, va⟩ 41
                  have hsz := HE7.out.bel.size
                  simp only [evA] at hnews
                  go_wp2_with (at_builtin; refine epush Tryz.elemEv _ rfl _ _ rfl w.heap.size _ ([⟨2, id, pc, on, nx⟩] ++ if ou = true then [⟨5, id, 0, 0, va⟩] else []) rfl (HE7.out.ev.alloc _) ⟨w7.heap.size, 0, none⟩ 1 ⟨6, id, at_, 0, va⟩ rfl hnews HLN.out (by decide) (by rw [size_one]; omega) ?_; intro v9 w9 hT_ hg_ hb_; have HE9 := Hid.in (HE7.out.pushed hT_ hg_ (hb_ w (below_alloc HE7.out.bel _))); clear hT_ hg_ hb_)
                  go_meet
                  case rel => exact ⟨p7, c7, rfl, HE9.out⟩
          case rest =>
              skip
              obtain ⟨p2, c2, rfl, hE3⟩ := hcut
              have HE3 := Hid.in hE3
              clear hE3 HE2 q4 q5 q6
              have q1 : wc.cell? ⟨gx, 1, none⟩ = some (.bool hal) := HE3.out.bx.cell 1
              have a0 : wc.cell? ⟨w.heap.size, 0, none⟩ = some (.int .u8 0) := HE3.out.ba.cell 0
              have f0 : wc.frozen? ⟨w.heap.size, 0, none⟩ = false := HE3.out.ba.free 0
              generalize hzs : (if stt = true then putA xs at_ (le4 va) else xs) = zs at HE3
              go_upto_if 202 with fail
              go_cut [32] (fun v32 wx => RX G w gr gx #[.int .u8 (if hal = true then 1 else 0), .int .u32 pc, .int .u32 r0, .int .u32 r1, .int .u32 r2, .int .u32 r3, .int .u32 r4, .int .u32 r5, .int .u32 r6, .int .u32 r7, .slice pS S.length cS, .slice none 0 0, .slice pL L.length cL] #[.int .u32 s0, .int .u32 s1, .int .u32 s2, .int .u32 s3, .int .u32 s4, .int .u32 s5, .int .u32 s6, .int .u32 s7, .slice pR S9.length cR] #[.int .u32 nx, .bool hal, .int .i64 0, .bool ou, .bool stt, .int .u32 at_, .int .u32 va] pR cR S9 v32 ((([⟨2, id, pc, on, nx⟩] ++ if ou = true then [⟨5, id, 0, 0, va⟩] else []) ++ if stt = true then [⟨6, id, at_, 0, va⟩] else []) ++ if hal = true then [⟨12, id, pc, 0, 0⟩] else []) p2 zs wx)
              case first =>
                  skip
                  cases hal
                  ·   skip
                      go_wp2_with fail
                      go_meet
                      case rel => first | exact HE3.out | (rw [ifF]; exact HE3.out)
                  ·   skip
                      have HE4 := Hid.in (HE3.out.setA (HE3.out.ba.set 0 (.int .u8 1)) (grown_setCell wc w.heap.size 0 (.int .u8 1)))
                      go_upto_region 36 with fail
                      generalize wc.setCell ⟨w.heap.size, 0, none⟩ (.int .u8 1) = w8 at *
                      have a1 : w8.cell? ⟨w.heap.size, 1, none⟩ = some (.int .u32 pc) := HE4.out.ba.cell 1
                      clear q1 a0 f0
                      have HLN : Hid (((([⟨2, id, pc, on, nx⟩] ++ if ou = true then [⟨5, id, 0, 0, va⟩] else []) ++ if stt = true then [⟨6, id, at_, 0, va⟩] else []) : List Ev).length ≤ 1048576) := evLen3
                      have hnews := news7 w8 ⟨12, id, pc, 0, 0⟩ 41
                      have hsz := HE4.out.bel.size
                      simp only [evA] at hnews
                      go_wp2_with (at_builtin; refine epush Tryz.elemEv _ rfl _ _ rfl w.heap.size _ (([⟨2, id, pc, on, nx⟩] ++ if ou = true then [⟨5, id, 0, 0, va⟩] else []) ++ if stt = true then [⟨6, id, at_, 0, va⟩] else []) rfl (HE4.out.ev.alloc _) ⟨w8.heap.size, 0, none⟩ 1 ⟨12, id, pc, 0, 0⟩ rfl hnews HLN.out (by decide) (by rw [size_one]; omega) ?_; intro v9 w9 hT_ hg_ hb_; have HE9 := Hid.in (HE4.out.pushed hT_ hg_ (hb_ w (below_alloc HE4.out.bel _))); clear hT_ hg_ hb_)
                      go_meet
                      case rel => exact HE9.out
              case rest =>
                  skip
                  have HE5 := Hid.in hcut
                  clear hcut HE3 q1 a0 f0
                  generalize hst9 : (if hal = true then (1 : Int) else 0) = st9 at HE5
                  have d0 : wc.cell? ⟨gr, 0, none⟩ = some (.int .u32 s0) := HE5.out.br.cell 0
                  have d1 : wc.cell? ⟨gr, 1, none⟩ = some (.int .u32 s1) := HE5.out.br.cell 1
                  have d2 : wc.cell? ⟨gr, 2, none⟩ = some (.int .u32 s2) := HE5.out.br.cell 2
                  have d3 : wc.cell? ⟨gr, 3, none⟩ = some (.int .u32 s3) := HE5.out.br.cell 3
                  have d4 : wc.cell? ⟨gr, 4, none⟩ = some (.int .u32 s4) := HE5.out.br.cell 4
                  have d5 : wc.cell? ⟨gr, 5, none⟩ = some (.int .u32 s5) := HE5.out.br.cell 5
                  have d6 : wc.cell? ⟨gr, 6, none⟩ = some (.int .u32 s6) := HE5.out.br.cell 6
                  have d7 : wc.cell? ⟨gr, 7, none⟩ = some (.int .u32 s7) := HE5.out.br.cell 7
                  have d8 : wc.cell? ⟨gr, 8, none⟩ = some (.slice pR S9.length cR) := HE5.out.br.cell 8
                  have d9 : wc.cell? ⟨gx, 0, none⟩ = some (.int .u32 nx) := HE5.out.bx.cell 0
                  have c1 : wc.cell? ⟨w.heap.size, 1, none⟩ = some (.int .u32 pc) := HE5.out.ba.cell 1
                  have c2_ : wc.cell? ⟨w.heap.size, 2, none⟩ = some (.int .u32 r0) := HE5.out.ba.cell 2
                  have c3 : wc.cell? ⟨w.heap.size, 3, none⟩ = some (.int .u32 r1) := HE5.out.ba.cell 3
                  have c4 : wc.cell? ⟨w.heap.size, 4, none⟩ = some (.int .u32 r2) := HE5.out.ba.cell 4
                  have c5 : wc.cell? ⟨w.heap.size, 5, none⟩ = some (.int .u32 r3) := HE5.out.ba.cell 5
                  have c6 : wc.cell? ⟨w.heap.size, 6, none⟩ = some (.int .u32 r4) := HE5.out.ba.cell 6
                  have c7 : wc.cell? ⟨w.heap.size, 7, none⟩ = some (.int .u32 r5) := HE5.out.ba.cell 7
                  have c8 : wc.cell? ⟨w.heap.size, 8, none⟩ = some (.int .u32 r6) := HE5.out.ba.cell 8
                  have c9 : wc.cell? ⟨w.heap.size, 9, none⟩ = some (.int .u32 r7) := HE5.out.ba.cell 9
                  have c10 : wc.cell? ⟨w.heap.size, 10, none⟩ = some (.slice pS S.length cS) := HE5.out.ba.cell 10
                  have fz : ∀ i, wc.frozen? ⟨w.heap.size, i, none⟩ = false := fun i => HE5.out.ba.free i
                  have n1 : ¬ w.heap.size = gr := fun e => blk_ne HE5.out.ba HE5.out.br (by decide) e
                  have n2 : ¬ gr = w.heap.size := fun e => n1 e.symm
                  have n3 : ¬ w.heap.size = gx := fun e => blk_ne HE5.out.ba HE5.out.bx (by decide) e
                  have n4 : ¬ gx = w.heap.size := fun e => n3 e.symm
                  go_upto_region 39 with fail
                  have HB9 : Hid (Blk ((((((((((wc.setCell ⟨w.heap.size, 2, none⟩ (.int .u32 s0)).setCell ⟨w.heap.size, 3, none⟩ (.int .u32 s1)).setCell ⟨w.heap.size, 4, none⟩ (.int .u32 s2)).setCell ⟨w.heap.size, 5, none⟩ (.int .u32 s3)).setCell ⟨w.heap.size, 6, none⟩ (.int .u32 s4)).setCell ⟨w.heap.size, 7, none⟩ (.int .u32 s5)).setCell ⟨w.heap.size, 8, none⟩ (.int .u32 s6)).setCell ⟨w.heap.size, 9, none⟩ (.int .u32 s7)).setCell ⟨w.heap.size, 10, none⟩ (.slice pR S9.length cR)).setCell ⟨w.heap.size, 1, none⟩ (.int .u32 nx)) w.heap.size 50 #[.int .u8 st9, .int .u32 nx, .int .u32 s0, .int .u32 s1, .int .u32 s2, .int .u32 s3, .int .u32 s4, .int .u32 s5, .int .u32 s6, .int .u32 s7, .slice pR S9.length cR, .slice none 0 0, .slice pL L.length cL]) := blk_as ((((((((((HE5.out.ba.set 2 (.int .u32 s0)).set 3 (.int .u32 s1)).set 4 (.int .u32 s2)).set 5 (.int .u32 s3)).set 6 (.int .u32 s4)).set 7 (.int .u32 s5)).set 8 (.int .u32 s6)).set 9 (.int .u32 s7)).set 10 (.slice pR S9.length cR)).set 1 (.int .u32 nx)) (set10 _ _ _ _ _ _ _ _ _ _ _ _ _ _ _ _ _ _ _ _ _ _ _)
                  have HG9 : Hid (wc.grownBy ((((((((((wc.setCell ⟨w.heap.size, 2, none⟩ (.int .u32 s0)).setCell ⟨w.heap.size, 3, none⟩ (.int .u32 s1)).setCell ⟨w.heap.size, 4, none⟩ (.int .u32 s2)).setCell ⟨w.heap.size, 5, none⟩ (.int .u32 s3)).setCell ⟨w.heap.size, 6, none⟩ (.int .u32 s4)).setCell ⟨w.heap.size, 7, none⟩ (.int .u32 s5)).setCell ⟨w.heap.size, 8, none⟩ (.int .u32 s6)).setCell ⟨w.heap.size, 9, none⟩ (.int .u32 s7)).setCell ⟨w.heap.size, 10, none⟩ (.slice pR S9.length cR)).setCell ⟨w.heap.size, 1, none⟩ (.int .u32 nx)) (some w.heap.size)) := (((((((((grown_setCell _ _ _ _).trans (grown_setCell _ _ _ _)).trans (grown_setCell _ _ _ _)).trans (grown_setCell _ _ _ _)).trans (grown_setCell _ _ _ _)).trans (grown_setCell _ _ _ _)).trans (grown_setCell _ _ _ _)).trans (grown_setCell _ _ _ _)).trans (grown_setCell _ _ _ _)).trans (grown_setCell _ _ _ _)
                  have HE9 := Hid.in (HE5.out.setA HB9.out HG9.out)
                  clear HB9 HG9 HE5 d0 d1 d2 d3 d4 d5 d6 d7 d8 d9 c1 c2_ c3 c4 c5 c6 c7 c8 c9 c10 fz n1 n2 n3 n4
                  generalize (((((((((wc.setCell ⟨w.heap.size, 2, none⟩ (.int .u32 s0)).setCell ⟨w.heap.size, 3, none⟩ (.int .u32 s1)).setCell ⟨w.heap.size, 4, none⟩ (.int .u32 s2)).setCell ⟨w.heap.size, 5, none⟩ (.int .u32 s3)).setCell ⟨w.heap.size, 6, none⟩ (.int .u32 s4)).setCell ⟨w.heap.size, 7, none⟩ (.int .u32 s5)).setCell ⟨w.heap.size, 8, none⟩ (.int .u32 s6)).setCell ⟨w.heap.size, 9, none⟩ (.int .u32 s7)).setCell ⟨w.heap.size, 10, none⟩ (.slice pR S9.length cR)).setCell ⟨w.heap.size, 1, none⟩ (.int .u32 nx) = w9 at *
                  have hown := HE9.out.ev
                  go_wp2_with (first
                    | (refine load13 HE9.out.ba rfl rfl _ rfl rfl ?_)
                    | (refine store13 HE9.out.bz rfl rfl _ _ rfl rfl rfl rfl rfl ?_; intro w7 hb7 hg7; have HB := Hid.in hb7; have HG := Hid.in hg7; clear hb7 hg7))
                  have hld := HB.out.load 50 _ Tryz.underlying50 rfl Tryz.sz50
                  have hbb := HE9.out.bel.grown HG.out HE9.out.bel.size (fun k hk => by injection hk with hk; omega)
                  have hev : EOwn 41 w7 w.heap.size u32 _ := rowOther HE9.out.ev HG.out HE9.out.bz (by decide)
                  have hst : POwnV w7 w.heap.size (.slice pR S9.length cR) S9 := rowOther HE9.out.st HG.out HE9.out.bz (by decide)
                  have hrow : Row w7 p2 zs := by
                    rcases HE9.out.row with h | ⟨c, h⟩
                    ·   skip
                        exact h.1.below hbb
                    ·   skip
                        obtain ⟨p, c', e, hr, -⟩ := OwnV.slice (w := w7) (rowOther h HG.out HE9.out.bz (by decide))
                        injection e with e1
                        rw [e1]; exact hr
                  have hps : PRow w7 pR S9 := by
                    obtain ⟨p, c', e, hr, -⟩ := hst.slice
                    injection e with e1
                    rw [e1]; exact hr
                  have hzl : zs.length = xs.length := by
                    rw [← hzs]
                    cases stt
                    ·   skip
                        rfl
                    ·   skip
                        obtain ⟨k_, hk1, hk2⟩ := HST2.out rfl
                        obtain rfl : at_ = k_ := by omega
                        exact putA_len hk2
                  have HFX : exeH id ⟨0, pc, [r0, r1, r2, r3, r4, r5, r6, r7], S, [], L⟩ xs on ([s0, s1, s2, s3, s4, s5, s6, s7], S9, ⟨nx, hal, 0, ou, stt, at_, va⟩) = ⟨⟨st9, nx, [s0, s1, s2, s3, s4, s5, s6, s7], S9, [], L⟩, zs, evX id pc on ⟨nx, hal, 0, ou, stt, at_, va⟩⟩ := by rw [← hst9, ← hzs]; exact if_pos rfl
                  rw [← hzl]
                  exact bodyPost_ret (v := .tuple #[.agg #[.int .u8 st9, .int .u32 nx, .int .u32 s0, .int .u32 s1, .int .u32 s2, .int .u32 s3, .int .u32 s4, .int .u32 s5, .int .u32 s6, .int .u32 s7, .slice pR S9.length cR, .slice none 0 0, .slice pL L.length cL], .slice p2 zs.length c2, u32]) (by simp [results, Tryz.results23, asAddr, hld]) rfl (rsIs_eq HFX ⟨_, p2, c2, _, rfl, ⟨pR, cR, none, 0, pL, cL, rfl, hps, (fun h => absurd h (Nat.lt_irrefl 0)), HS.out.2.2.1.below hbb, (fun _ => rfl), HE9.out.offS HGG.out, Off.zero _ _⟩, hrow, HE9.out.offP HGG.out, hev, hbb⟩)
  ·   skip
      have g2 : (fl != 0) = true := by simpa using hfl
      have HFX : Hid (exeH id ⟨0, pc, [r0, r1, r2, r3, r4, r5, r6, r7], S, [], L⟩ xs on ([s0, s1, s2, s3, s4, s5, s6, s7], S9, ⟨nx, hal, fl, ou, stt, at_, va⟩) = fltH id ⟨0, pc, [r0, r1, r2, r3, r4, r5, r6, r7], S, [], L⟩ xs fl) := if_neg hfl
      have hF := rfault_at id fl 0 pc r0 r1 r2 r3 r4 r5 r6 r7 pS none pL S.length cS 0 0 L.length cL wc hpc
      go_wp2_with (first
        | (refine load13 HX0.out.ba rfl rfl _ rfl rfl ?_)
        | (go_at_call 56; refine Hid.out ?_))
      refine Lib.hid ?_
      (with_reducible refine hF.mono ?_)
      rintro e w5 ⟨v', rfl, hE', hb5⟩
      obtain ⟨g', c', rfl, -⟩ := hE'.one7
      have HE := Hid.in hE'
      have HZ5 := Hid.in (HX0.out.bz.grow hb5)
      have HN5 := Hid.in (below_step HX0.out.bel hb5)
      clear hF hE' hb5
      go_upto_region 27 with fail
      have HA6 := Hid.in (Blk.new w5 50 #[.int .u8 2, .int .u32 pc, .int .u32 r0, .int .u32 r1, .int .u32 r2, .int .u32 r3, .int .u32 r4, .int .u32 r5, .int .u32 r6, .int .u32 r7, .slice pS S.length cS, .slice none 0 0, .slice pL L.length cL])
      have HZ6 := Hid.in (HZ5.out.grow (new_alloc w5 (.cells #[.int .u8 2, .int .u32 pc, .int .u32 r0, .int .u32 r1, .int .u32 r2, .int .u32 r3, .int .u32 r4, .int .u32 r5, .int .u32 r6, .int .u32 r7, .slice pS S.length cS, .slice none 0 0, .slice pL L.length cL] 50)))
      have HN6 := Hid.in (below_alloc HN5.out (.cells #[.int .u8 2, .int .u32 pc, .int .u32 r0, .int .u32 r1, .int .u32 r2, .int .u32 r3, .int .u32 r4, .int .u32 r5, .int .u32 r6, .int .u32 r7, .slice pS S.length cS, .slice none 0 0, .slice pL L.length cL] 50))
      have HE6 := Hid.in (HE.out.alloc (.cells #[.int .u8 2, .int .u32 pc, .int .u32 r0, .int .u32 r1, .int .u32 r2, .int .u32 r3, .int .u32 r4, .int .u32 r5, .int .u32 r6, .int .u32 r7, .slice pS S.length cS, .slice none 0 0, .slice pL L.length cL] 50))
      generalize w5.alloc (.cells #[.int .u8 2, .int .u32 pc, .int .u32 r0, .int .u32 r1, .int .u32 r2, .int .u32 r3, .int .u32 r4, .int .u32 r5, .int .u32 r6, .int .u32 r7, .slice pS S.length cS, .slice none 0 0, .slice pL L.length cL] 50) = w6 at *
      go_wp2_with (first
        | (refine load13 HA6.out rfl rfl _ rfl rfl ?_)
        | (refine store13 HZ6.out rfl rfl _ _ rfl rfl rfl rfl rfl ?_; intro w7 hb7 hg7; have HB := Hid.in hb7; have HG := Hid.in hg7; clear hb7 hg7))
      have hld := HB.out.load 50 _ Tryz.underlying50 rfl Tryz.sz50
      have hbb := HN6.out.grown HG.out HN6.out.size (fun k hk => by injection hk with hk; omega)
      have hE7 : EOwn 41 w7 wc.heap.size (.slice (some ⟨g', 0, none⟩) 1 c') _ := rowOther HE6.out HG.out HZ6.out (by decide)
      exact bodyPost_ret (v := .tuple #[.agg #[.int .u8 2, .int .u32 pc, .int .u32 r0, .int .u32 r1, .int .u32 r2, .int .u32 r3, .int .u32 r4, .int .u32 r5, .int .u32 r6, .int .u32 r7, .slice pS S.length cS, .slice none 0 0, .slice pL L.length cL], .slice p8 xs.length d, .slice (some ⟨g', 0, none⟩) 1 c']) (by simp [results, Tryz.results23, asAddr, hld]) rfl (rsIs_eq HFX.out ⟨_, p8, d, _, rfl, ⟨pS, cS, none, 0, pL, cL, rfl, HS.out.1.below hbb, (fun h => absurd h (Nat.lt_irrefl 0)), HS.out.2.2.1.below hbb, (fun _ => rfl), HO5.out.1, Off.zero _ _⟩, HX.out.below hbb, HXO.out, hE7.lower HX0.out.bel.size, hbb⟩)
end Go.Proofs.YtnpaijbkhmnfpaaGreat
