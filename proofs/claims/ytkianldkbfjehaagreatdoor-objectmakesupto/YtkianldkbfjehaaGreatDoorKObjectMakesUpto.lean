/-
  Proved here: the law ObjectMakes (switchyardlaw06) answers true wherever its arguments hold together at most 1048576 values and letters, and each argument reads afterwards as it read before; the card: what the row lists of the library's variables is tied to the program's text. 
-/
import Derived.Test.YtkianldkbfjehaaGreatDoorKzzf
import Derived.Deep.AppendLies
import Derived.Test.YtkianldkbfjehaaGreatDoorMo
import Derived.Test.YtkianldkbfjehaaGreatDoorKzza
import Derived.Test.YtkianldkbfjehaaGreatDoorMz
import Derived.Test.YtkianldkbfjehaaGreatDoorKzzc
import Derived.Test.YtkianldkbfjehaaGreatDoorKze
import Derived.Test.YtkianldkbfjehaaGreatDoorKzj
import Derived.Test.YtkianldkbfjehaaGreatDoorCards
import Derived.Test.YtkianldkbfjehaaGreatDoorTie
import Derived.SevenTiedAt

/- switchyardlaw06.ObjectMakes: what is written to one object leaves those that were made behind it. -/
namespace Go.Proofs.YtkianldkbfjehaaGreatDoor
open Go.RowKit

/-- what lies from A on is as it was -/
structure Keep (A : Nat) (w w' : World) : Prop where
  size : w.heap.size ≤ w'.heap.size
  same : ∀ g, A ≤ g → g < w.heap.size → w'.heap[g]? = w.heap[g]?
theorem Keep.refl (A : Nat) (w : World) : Keep A w w := ⟨Nat.le_refl _, fun _ _ _ => rfl⟩
theorem Keep.grown {A : Nat} {w W W' : World} {row : Option Nat} (h : Keep A w W) (hg : W.grownBy W' row) (hr : ∀ g, row = some g → g < A ∨ w.heap.size ≤ g) : Keep A w W' :=
  ⟨Nat.le_trans h.size hg.size, fun g h1 h2 => (hg.block g (Nat.lt_of_lt_of_le h2 h.size) (fun e => by rcases hr g e.symm with h' | h' <;> omega)).trans (h.same g h1 h2)⟩
theorem Keep.below {A : Nat} {w W W' : World} (h : Keep A w W) (hb : Below W.heap.size W W') : Keep A w W' :=
  ⟨Nat.le_trans h.size hb.size, fun g h1 h2 => (hb.block g (Nat.lt_of_lt_of_le h2 h.size)).trans (h.same g h1 h2)⟩
theorem Keep.row {A : Nat} {w W : World} {B : Nat} {T : TypeId} {z : Nat} {v : Value} {n : Nat} {xs : List Value} (h : Keep A w W) (hr : w.ownsRow B T z v n xs) (hB : A ≤ B) : W.ownsRow B T z v n xs := by
  obtain ⟨h0, h1⟩ := hr
  refine ⟨h0, h1.imp id ?_⟩
  rintro ⟨g, cap, cur, e1, e2, e3, e4⟩
  exact ⟨g, cap, cur, e1, e2, (h.same g (Nat.le_trans hB e2) (Array.getElem?_eq_some_iff.1 e3).1).trans e3, e4⟩
theorem ObOwn.keep {A : Nat} {w W : World} {B : Nat} {o : Ob} {vb vs vf vm : Value} (h : ObOwn w B o vb vs vf vm) (hk : Keep A w W) (hB : A ≤ B) : ObOwn W B o vb vs vf vm :=
  ⟨hk.row h.b hB, hk.row h.s hB, hk.row h.f hB, hk.row h.m hB⟩
theorem Blk.keep {A : Nat} {w W : World} {g : Nat} {T : TypeId} {c : Array Value} (h : Blk w g T c) (hk : Keep A w W) (hA : A ≤ g) : Blk W g T c := (hk.same g hA h.lt).trans h

def Far (A B : Nat) (v : Value) : Prop := ∀ g, v.ownBlock = some g → g < A ∨ B ≤ g
theorem far_own {w : World} {B A C : Nat} {T : TypeId} {z : Nat} {v : Value} {n : Nat} {xs : List Value} (h : w.ownsRow B T z v n xs) (hA : w.heap.size ≤ A) : Far A C v := fun g e => .inl (Nat.lt_of_lt_of_le (World.ownsRow.lt h g e).2 hA)
theorem far_new {A C g n c H : Nat} {v : Value} (hf : Far A C v) (hg : v.ownBlock = some g ∨ g = H) (hH : C ≤ H) : Far A C (.slice (some ⟨g, 0, none⟩) n c) := fun g' e => by
  have e' : g = g' := by simpa [Value.ownBlock] using e
  subst e'
  rcases hg with h | h
  · exact hf g h
  · exact .inr (by omega)

/-- 'append(l, x)', and where the row lies then -/
theorem tpushL {ops : Array Oper} {rest : List Oper} {o : Oper} {a : Act} {Q : Exit → Act → World → Prop} {t T : TypeId} {by_ : Nat} (he : Elem3 t T by_) (w : World) (hgd : o.guard = none) (s x : Operand)
    (ho : o.op = .call { callee := .builtin .append, args := #[s, x], argTypes := #[t, t] }) (B : Nat) (v : Value) (L : List V3) (hs : a.eval s = v) (hown : TOwn T w B v L)
    (ad : Addr) (c : Nat) (q : V3) (hq : one3 q) (hx : a.eval x = .slice (some ad) 1 c) (hnews : ∀ j u, (l3 q)[j]? = some u → w.cell? (ad.add j) = some u)
    (hlen : L.length ≤ 1048576) (hby : by_ ≤ 100) (hB : B ≤ w.heap.size)
    (h : ∀ g cap w', TOwn T w' B (.slice (some ⟨g, 0, none⟩) (L.length + 1) cap) (L ++ [q]) → w.grownBy w' v.ownBlock → (v.ownBlock = some g ∨ g = w.heap.size) → (∀ w0, Below B w0 w → Below B w0 w') → wpList Tryz.prog ops Q rest (a.put o.dst (.slice (some ⟨g, 0, none⟩) (L.length + 1) cap)) w') :
    wpList Tryz.prog ops Q (o :: rest) a w := by
  obtain ⟨hu, z, hzc, hinfo⟩ := he
  obtain ⟨i0, hi, hz0, hz1, hz2⟩ := info_parts hinfo
  refine wpList_append_lies w hgd s x t ho B T i0 z 3 by_ hu hi hz0 hz1 hz2 hzc (by decide) v L.length (c3 L) hs hown ad 1 c (l3 q) hx rfl hnews (one3_mem hq) (by decide) (by unfold maxLen; omega) (Nat.le_trans (Nat.mul_le_mul (show L.length + 1 ≤ 1048577 by omega) hby) (by decide)) hB w.heap.size rfl ?_
  intro g cap w' h2 h3 h4 _
  refine h g cap w' ?_ h3 h4 (fun w0 hb => hb.grown h3 hB fun k hk => (World.ownsRow.lt hown k hk).1)
  unfold TOwn
  rw [List.length_append, c3_two]
  have e : c3 [q] = l3 q := by simp [c3]
  rw [e]
  exact h2

theorem c3_set1 : ∀ (L : List V3) (i : Nat) (h : i < L.length) (u : Value), (c3 L).set (i * 3 + 1) u = c3 (L.set i (L[i].1, u, L[i].2.2))
  | [], _, h, _ => absurd h (by simp)
  | (a, b, c) :: L, 0, _, u => by simp [c3, l3]
  | (a, b, c) :: L, i + 1, h, u => by
    have ih := c3_set1 L i (by simpa using h) u
    unfold c3 at *
    rw [List.set_cons_succ, List.flatMap_cons, List.flatMap_cons, show (i + 1) * 3 + 1 = (i * 3 + 1) + 1 + 1 + 1 by omega]
    simp only [l3, List.cons_append, List.nil_append, List.set_cons_succ, List.getElem_cons_succ]
    rw [ih]
theorem TOwn.setSecond {T : TypeId} {w : World} {B g cap : Nat} {L : List V3} (h : TOwn T w B (.slice (some ⟨g, 0, none⟩) L.length cap) L) (i : Nat) (hi : i < L.length) (u : Value) :
    TOwn T (w.setCell ⟨g, i * 3 + 1, none⟩ u) B (.slice (some ⟨g, 0, none⟩) L.length cap) (L.set i (L[i].1, u, L[i].2.2)) ∧ w.grownBy (w.setCell ⟨g, i * 3 + 1, none⟩ u) (some g) := by
  obtain ⟨h1, h2⟩ := World.ownsRow.stored h (i * 3 + 1) u
  refine ⟨?_, h2⟩
  unfold TOwn
  rw [List.length_set, ← c3_set1]
  exact h1

theorem WantAt.inB {w w' : World} {B g : Nat} {o : Ob} {vb vs vf vm : Value} {xs : List Int} (h : WantAt w B g o vb vs vf vm) (ht : OwnV w' B vb xs) (hg : w.grownBy w' vb.ownBlock) : WantAt w' B g ⟨xs, o.sy, o.fx, o.mk_⟩ vb vs vf vm := by
  obtain ⟨h1, h2, h3⟩ := h
  exact ⟨h1.kept hg (blk_not_row h2.b h1 (by decide)), ⟨ht, kept_row h2.s hg (rows_apart h2.s h2.b (by decide)), kept_row h2.f hg (rows_apart h2.f h2.b (by decide)), kept_row h2.m hg (rows_apart h2.m h2.b (by decide))⟩, h3⟩
theorem WantAt.inS {w w' : World} {B g : Nat} {o : Ob} {vb vs vf vm : Value} {L : List Sy} (h : WantAt w B g o vb vs vf vm) (ht : TOwn 36 w' B vs (L.map syV)) (hg : w.grownBy w' vs.ownBlock) : WantAt w' B g ⟨o.bs, L, o.fx, o.mk_⟩ vb vs vf vm := by
  obtain ⟨h1, h2, h3⟩ := h
  exact ⟨h1.kept hg (blk_not_row h2.s h1 (by decide)), ⟨kept_row h2.b hg (rows_apart h2.b h2.s (by decide)), ht, kept_row h2.f hg (rows_apart h2.f h2.s (by decide)), kept_row h2.m hg (rows_apart h2.m h2.s (by decide))⟩, h3⟩

/-- the object that is written to -/
structure Hurt (w0 : World) (A : Nat) (wB : World) (g4 : Nat) (o : Ob) (vb vs vf vm : Value) (W : World) : Prop where
  want : WantAt W w0.heap.size g4 o vb vs vf vm
  fb : Far A wB.heap.size vb
  fs : Far A wB.heap.size vs
  ff : Far A wB.heap.size vf
  fm : Far A wB.heap.size vm
  low : g4 < A
  keep : Keep A wB W
  bel : Below w0.heap.size w0 W
theorem Hurt.byte {w0 : World} {A : Nat} {wB : World} {g4 : Nat} {o : Ob} {g n cap : Nat} {vs vf vm : Value} {W : World} (h : Hurt w0 A wB g4 o (.slice (some ⟨g, 0, none⟩) n cap) vs vf vm W) (hn : o.bs.length = n) (i : Nat) (x : Int) :
    Hurt w0 A wB g4 ⟨o.bs.set i x, o.sy, o.fx, o.mk_⟩ (.slice (some ⟨g, 0, none⟩) n cap) vs vf vm (W.setCell ⟨g, i, none⟩ (.int .u8 x)) := by
  subst hn
  have hO : Own W w0.heap.size g cap o.bs := h.want.own.b
  have hg := grown_setCell W g i (.int .u8 x)
  have e : (Value.slice (some ⟨g, 0, none⟩) o.bs.length cap).ownBlock = some g := rfl
  have hS : OwnV (W.setCell ⟨g, i, none⟩ (.int .u8 x)) w0.heap.size (.slice (some ⟨g, 0, none⟩) o.bs.length cap) (o.bs.set i x) := by
    have := hO.store i x
    unfold Own at this
    rw [List.length_set] at this
    unfold OwnV
    rw [List.length_set]
    exact this
  exact ⟨h.want.inB hS (by rw [e]; exact hg), h.fb, h.fs, h.ff, h.fm, h.low, h.keep.grown hg (fun g' e' => h.fb g' (by rw [e]; exact e')), h.bel.grown hg h.bel.size (fun k hk => by cases hk; exact hO.base)⟩
theorem Hurt.sym {w0 : World} {A : Nat} {wB : World} {g4 : Nat} {o : Ob} {g n cap : Nat} {vb vf vm : Value} {W : World} (h : Hurt w0 A wB g4 o vb (.slice (some ⟨g, 0, none⟩) n cap) vf vm W) (hn : o.sy.length = n) (i : Nat) (hi : i < o.sy.length) (x : Int) :
    Hurt w0 A wB g4 ⟨o.bs, o.sy.set i ⟨o.sy[i].name, x, o.sy[i].g⟩, o.fx, o.mk_⟩ vb (.slice (some ⟨g, 0, none⟩) n cap) vf vm (W.setCell ⟨g, i * 3 + 1, none⟩ (.int .i64 x)) := by
  subst hn
  have e : (Value.slice (some ⟨g, 0, none⟩) o.sy.length cap).ownBlock = some g := rfl
  have hT : TOwn 36 W w0.heap.size (.slice (some ⟨g, 0, none⟩) (o.sy.map syV).length cap) (o.sy.map syV) := by rw [List.length_map]; exact h.want.own.s
  obtain ⟨h1, h2⟩ := hT.setSecond i (by rw [List.length_map]; exact hi) (.int .i64 x)
  have h3 : TOwn 36 (W.setCell ⟨g, i * 3 + 1, none⟩ (.int .i64 x)) w0.heap.size (.slice (some ⟨g, 0, none⟩) o.sy.length cap) ((o.sy.set i ⟨o.sy[i].name, x, o.sy[i].g⟩).map syV) := by
    rw [List.map_set]
    simp only [List.length_map, List.getElem_map] at h1
    exact h1
  have hb : w0.heap.size ≤ g := (World.ownsRow.lt hT g rfl).1
  exact ⟨h.want.inS h3 (by rw [e]; exact h2), h.fb, h.fs, h.ff, h.fm, h.low, h.keep.grown h2 (fun g' e' => h.fs g' (by rw [e]; exact e')), h.bel.grown h2 h.bel.size (fun k hk => by cases hk; exact hb)⟩
/-- a list grows, and is stored back -/
theorem Hurt.pushS {w0 : World} {A : Nat} {wB : World} {g4 : Nat} {o : Ob} {vb vs vf vm : Value} {W W' : World} {g n c : Nat} {L : List Sy} (h : Hurt w0 A wB g4 o vb vs vf vm W) (ht : TOwn 36 W' w0.heap.size (.slice (some ⟨g, 0, none⟩) n c) (L.map syV)) (hg : W.grownBy W' vs.ownBlock) (hl : vs.ownBlock = some g ∨ g = W.heap.size) (hb : Below w0.heap.size w0 W') :
    Hurt w0 A wB g4 ⟨o.bs, L, o.fx, o.mk_⟩ vb (.slice (some ⟨g, 0, none⟩) n c) vf vm (W'.setCell ⟨g4, 1, none⟩ (.slice (some ⟨g, 0, none⟩) n c)) := by
  have hs := grown_setCell W' g4 1 (.slice (some ⟨g, 0, none⟩) n c)
  exact ⟨h.want.setS ht hg, h.fb, far_new h.fs hl h.keep.size, h.ff, h.fm, h.low, (h.keep.grown hg h.fs).grown hs (fun g' e => by cases e; exact .inl h.low), hb.grown hs hb.size (fun k hk => by cases hk; exact h.want.low)⟩
theorem Hurt.pushF {w0 : World} {A : Nat} {wB : World} {g4 : Nat} {o : Ob} {vb vs vf vm : Value} {W W' : World} {g n c : Nat} {L : List Fx} (h : Hurt w0 A wB g4 o vb vs vf vm W) (ht : TOwn 39 W' w0.heap.size (.slice (some ⟨g, 0, none⟩) n c) (L.map fxV)) (hg : W.grownBy W' vf.ownBlock) (hl : vf.ownBlock = some g ∨ g = W.heap.size) (hb : Below w0.heap.size w0 W') :
    Hurt w0 A wB g4 ⟨o.bs, o.sy, L, o.mk_⟩ vb vs (.slice (some ⟨g, 0, none⟩) n c) vm (W'.setCell ⟨g4, 2, none⟩ (.slice (some ⟨g, 0, none⟩) n c)) := by
  have hs := grown_setCell W' g4 2 (.slice (some ⟨g, 0, none⟩) n c)
  exact ⟨h.want.setF ht hg, h.fb, h.fs, far_new h.ff hl h.keep.size, h.fm, h.low, (h.keep.grown hg h.ff).grown hs (fun g' e => by cases e; exact .inl h.low), hb.grown hs hb.size (fun k hk => by cases hk; exact h.want.low)⟩
theorem Hurt.pushM {w0 : World} {A : Nat} {wB : World} {g4 : Nat} {o : Ob} {vb vs vf vm : Value} {W W' : World} {g n c : Nat} {L : List Mk} (h : Hurt w0 A wB g4 o vb vs vf vm W) (ht : TOwn 41 W' w0.heap.size (.slice (some ⟨g, 0, none⟩) n c) (L.map mkV)) (hg : W.grownBy W' vm.ownBlock) (hl : vm.ownBlock = some g ∨ g = W.heap.size) (hb : Below w0.heap.size w0 W') :
    Hurt w0 A wB g4 ⟨o.bs, o.sy, o.fx, L⟩ vb vs vf (.slice (some ⟨g, 0, none⟩) n c) (W'.setCell ⟨g4, 3, none⟩ (.slice (some ⟨g, 0, none⟩) n c)) := by
  have hs := grown_setCell W' g4 3 (.slice (some ⟨g, 0, none⟩) n c)
  exact ⟨h.want.setM ht hg, h.fb, h.fs, h.ff, far_new h.fm hl h.keep.size, h.low, (h.keep.grown hg h.fm).grown hs (fun g' e => by cases e; exact .inl h.low), hb.grown hs hb.size (fun k hk => by cases hk; exact h.want.low)⟩
theorem Hurt.alloc {w0 : World} {A : Nat} {wB : World} {g4 : Nat} {o : Ob} {vb vs vf vm : Value} {W : World} (h : Hurt w0 A wB g4 o vb vs vf vm W) (ob : Obj) : Hurt w0 A wB g4 o vb vs vf vm (W.alloc ob) :=
  ⟨h.want.grow (new_alloc W ob), h.fb, h.fs, h.ff, h.fm, h.low, h.keep.below (new_alloc W ob), below_alloc h.bel ob⟩

end Go.Proofs.YtkianldkbfjehaaGreatDoor

/- switchyardlaw06.ObjectMakes answers true. -/
namespace Go.Proofs.YtkianldkbfjehaaGreatDoor
open Go.RowKit

theorem made_len (xs : List Src) : (makeO xs).sy.length ≤ xs.length ∧ (makeO xs).fx.length ≤ xs.length ∧ (makeO xs).mk_.length ≤ xs.length := by
  unfold makeO
  split
  · rw [← mid_end]; exact mid_len xs xs.length
  · exact ⟨Nat.zero_le _, Nat.zero_le _, Nat.zero_le _⟩
theorem items_data {xs : List Src} (h : ∀ x ∈ xs, Fit x) : ∀ x ∈ xs, x.d.length ≤ 9223372036854775807 := fun x hx => by
  have := (h x hx).dz
  omega

set_option maxRecDepth 20000 in
set_option maxHeartbeats 40000000 in
theorem makes_walk (p : Option Addr) (n c : Nat) (xs : List Src) (w : World) (he : Env w) (hn : xs.length = n) (hnm : n ≤ 1048576) (hx : Items w p xs) :
    Calls Tryz.prog 3 #[.slice p n c] w fun E w' => E = .returned (.bool true) ∧ Below w.heap.size w w' := by
  have hC := copyList p n c xs w hn hnm hx
  have hM := fun p' c' W hW h1 h2 hX => make_any p' n c' xs W hW hn h1 h2 hX
  have hR := fun W hX => refMake_any p n c xs W hn hnm hX
  have hI := fun p' c' W h1 h2 => sameItems_yes p' p n c' c xs W hn (by omega) (items_data (items_fit hx)) h1 h2
  have HF := Hid.in (make_fit (items_fit hx))
  obtain ⟨l1, l2, l3⟩ := made_len xs
  rw [hn] at l1 l2 l3
  have HX := Hid.in hx
  have HE := Hid.in he
  have hA := awake_any
  unfold MakeIs at hM hR
  clear hx he hn
  generalize makeO xs = mo at *
  generalize (makeE xs).1 = e1 at *
  generalize (makeE xs).2 = e2 at *
  go_enter Tryz.func3, Tryz.ntmps3
  go_upto_region 2 with (go_at_call 7; refine hC.mono ?_; rintro E w1 ⟨pi, ci, rfl, hi1, hi2, hI1, hb1⟩; have HI1 := Hid.in hI1; have HB1 := Hid.in hb1; clear hI1 hb1)
  clear hC
  have hM1 := hM pi ci w1 (HE.out.below HB1.out) hi1 hi2 HI1.out
  go_upto_region 3 with (first
    | (go_at_call 8; refine hM1.mono ?_; rintro E w2 ⟨⟨vb, vs, vf, vm, rfl, hO2⟩, hb2⟩; obtain ⟨pb, ps, pf, pm, cb, cs, cf, cm, ⟨rfl, rfl, rfl, rfl⟩, -⟩ := hO2.inn HF.out; have HO2 := Hid.in hO2; have HC2 := Hid.in hb2; clear hO2 hb2)
    | (refine step_store_new rfl 29 (.tmp 4) (.tmp 20) rfl rfl rfl #[.slice pb mo.bs.length cb, .slice ps mo.sy.length cs, .slice pf mo.fx.length cf, .slice pm mo.mk_.length cm] rfl Tryz.sz29 rfl (obj_one rfl rfl rfl rfl) ?_))
  clear hM1
  have HB2 := Hid.in (below_step HB1.out HC2.out)
  have HW3 : Hid (WantAt (w2.alloc (.cells #[.slice pb mo.bs.length cb, .slice ps mo.sy.length cs, .slice pf mo.fx.length cf, .slice pm mo.mk_.length cm] 29)) w.heap.size w2.heap.size mo (.slice pb mo.bs.length cb) (.slice ps mo.sy.length cs) (.slice pf mo.fx.length cf) (.slice pm mo.mk_.length cm)) :=
    ⟨Blk.new w2 29 _, (HO2.out.below (new_alloc w2 _)).lower HB1.out.size, HB2.out.size⟩
  have HB3 : Hid (Below w.heap.size w (w2.alloc (.cells #[.slice pb mo.bs.length cb, .slice ps mo.sy.length cs, .slice pf mo.fx.length cf, .slice pm mo.mk_.length cm] 29))) := below_alloc HB2.out _
  have HI3 : Hid (Items (w2.alloc (.cells #[.slice pb mo.bs.length cb, .slice ps mo.sy.length cs, .slice pf mo.fx.length cf, .slice pm mo.mk_.length cm] 29)) pi xs) := HI1.out.below (below_alloc HC2.out _)
  generalize w2.alloc (.cells #[.slice pb mo.bs.length cb, .slice ps mo.sy.length cs, .slice pf mo.fx.length cf, .slice pm mo.mk_.length cm] 29) = w3 at *
  generalize w2.heap.size = g4 at *
  clear HO2 HC2 HB2 HI1 HB1
  have hM3 := hM pi ci w3 (HE.out.below HB3.out) hi1 hi2 HI3.out
  go_upto_region 4 with (first
    | (go_at_call 8; refine hM3.mono ?_; rintro E w4 ⟨⟨vb, vs, vf, vm, rfl, hO4⟩, hb4⟩; obtain ⟨qb, qs, qf, qm, db, ds, df, dm, ⟨rfl, rfl, rfl, rfl⟩, -⟩ := hO4.inn HF.out; have HO4 := Hid.in hO4; have HC4 := Hid.in hb4; clear hO4 hb4)
    | (refine step_store_new rfl 29 (.tmp 7) (.tmp 26) rfl rfl rfl #[.slice qb mo.bs.length db, .slice qs mo.sy.length ds, .slice qf mo.fx.length df, .slice qm mo.mk_.length dm] rfl Tryz.sz29 rfl (obj_one rfl rfl rfl rfl) ?_))
  clear hM3 hM
  have HK5 : Hid (Blk (w4.alloc (.cells #[.slice qb mo.bs.length db, .slice qs mo.sy.length ds, .slice qf mo.fx.length df, .slice qm mo.mk_.length dm] 29)) w4.heap.size 29 #[.slice qb mo.bs.length db, .slice qs mo.sy.length ds, .slice qf mo.fx.length df, .slice qm mo.mk_.length dm]) := Blk.new w4 29 _
  have HP5 : Hid (ObOwn (w4.alloc (.cells #[.slice qb mo.bs.length db, .slice qs mo.sy.length ds, .slice qf mo.fx.length df, .slice qm mo.mk_.length dm] 29)) w3.heap.size mo (.slice qb mo.bs.length db) (.slice qs mo.sy.length ds) (.slice qf mo.fx.length df) (.slice qm mo.mk_.length dm)) := HO4.out.below (new_alloc w4 _)
  have HC5 : Hid (Below w3.heap.size w3 (w4.alloc (.cells #[.slice qb mo.bs.length db, .slice qs mo.sy.length ds, .slice qf mo.fx.length df, .slice qm mo.mk_.length dm] 29))) := below_alloc HC4.out _
  have HG7 : Hid (w3.heap.size ≤ w4.heap.size) := HC4.out.size
  generalize w4.alloc (.cells #[.slice qb mo.bs.length db, .slice qs mo.sy.length ds, .slice qf mo.fx.length df, .slice qm mo.mk_.length dm] 29) = w5 at *
  generalize w4.heap.size = g7 at *
  clear HO4 HC4
  have HB5 := Hid.in (below_step HB3.out HC5.out)
  have hR5 := hR w5 (HX.out.below HB5.out)
  go_upto_region 5 with (first
    | (go_at_call 9; refine hR5.mono ?_; rintro E w6 ⟨⟨vb, vs, vf, vm, rfl, hO6⟩, hb6⟩; obtain ⟨rb, rs, rf, rm, kb, ks, kf, km, ⟨rfl, rfl, rfl, rfl⟩, -⟩ := hO6.inn HF.out; have HO6 := Hid.in hO6; have HC6 := Hid.in hb6; clear hO6 hb6)
    | (refine step_store_new rfl 29 (.tmp 10) (.tmp 32) rfl rfl rfl #[.slice rb mo.bs.length kb, .slice rs mo.sy.length ks, .slice rf mo.fx.length kf, .slice rm mo.mk_.length km] rfl Tryz.sz29 rfl (obj_one rfl rfl rfl rfl) ?_))
  clear hR5 hR
  have HK7 : Hid (Blk (w6.alloc (.cells #[.slice rb mo.bs.length kb, .slice rs mo.sy.length ks, .slice rf mo.fx.length kf, .slice rm mo.mk_.length km] 29)) w6.heap.size 29 #[.slice rb mo.bs.length kb, .slice rs mo.sy.length ks, .slice rf mo.fx.length kf, .slice rm mo.mk_.length km]) := Blk.new w6 29 _
  have HQ7 : Hid (ObOwn (w6.alloc (.cells #[.slice rb mo.bs.length kb, .slice rs mo.sy.length ks, .slice rf mo.fx.length kf, .slice rm mo.mk_.length km] 29)) w5.heap.size mo (.slice rb mo.bs.length kb) (.slice rs mo.sy.length ks) (.slice rf mo.fx.length kf) (.slice rm mo.mk_.length km)) := HO6.out.below (new_alloc w6 _)
  have HC7 : Hid (Below w5.heap.size w5 (w6.alloc (.cells #[.slice rb mo.bs.length kb, .slice rs mo.sy.length ks, .slice rf mo.fx.length kf, .slice rm mo.mk_.length km] 29))) := below_alloc HC6.out _
  have HG10 : Hid (w5.heap.size ≤ w6.heap.size) := HC6.out.size
  generalize w6.alloc (.cells #[.slice rb mo.bs.length kb, .slice rs mo.sy.length ks, .slice rf mo.fx.length kf, .slice rm mo.mk_.length km] 29) = w7 at *
  generalize w6.heap.size = g10 at *
  clear HO6 HC6
  have HB7 := Hid.in (below_step HB5.out HC7.out)
  have HW7 := Hid.in (HW3.out.grow (below_step HC5.out HC7.out))
  have HA5 : Hid (w3.heap.size ≤ w5.heap.size) := HC5.out.size
  have HP7 := Hid.in (HP5.out.below HC7.out)
  have HKP7 := Hid.in (HK5.out.grow HC7.out)
  have a0 : w7.cell? ⟨g4, 0, none⟩ = some (.slice pb mo.bs.length cb) := HW7.out.box.cell 0
  have a1 : w7.cell? ⟨g4, 1, none⟩ = some (.slice ps mo.sy.length cs) := HW7.out.box.cell 1
  have a2 : w7.cell? ⟨g4, 2, none⟩ = some (.slice pf mo.fx.length cf) := HW7.out.box.cell 2
  have a3 : w7.cell? ⟨g4, 3, none⟩ = some (.slice pm mo.mk_.length cm) := HW7.out.box.cell 3
  have b0 : w7.cell? ⟨g10, 0, none⟩ = some (.slice rb mo.bs.length kb) := HK7.out.cell 0
  have b1 : w7.cell? ⟨g10, 1, none⟩ = some (.slice rs mo.sy.length ks) := HK7.out.cell 1
  have b2 : w7.cell? ⟨g10, 2, none⟩ = some (.slice rf mo.fx.length kf) := HK7.out.cell 2
  have b3 : w7.cell? ⟨g10, 3, none⟩ = some (.slice rm mo.mk_.length km) := HK7.out.cell 3
  have ht : eqB True = true := (eqB_iff _).2 trivial
  have hS7 := sameObject_any mo mo pb ps pf pm _ cb _ cs _ cf _ cm rb rs rf rm _ kb _ ks _ kf _ km w7 (HW7.out.own.innAt HF.out) (HQ7.out.innAt HF.out)
  simp only [eq_self, ht] at hS7
  have hI7 := fun W hb => hI pi ci W ((HI3.out.below (below_step HC5.out HC7.out)).below (w' := W) hb) ((HX.out.below HB7.out).below hb)
  go_upto_region 7 with (first
    | (go_at_call 10; refine hS7.mono ?_; rintro E w8 ⟨rfl, hb8⟩; have HC8 := Hid.in hb8; clear hb8)
    | (go_at_call 11; refine (hI7 _ HC8.out).mono ?_; rintro E w9 ⟨rfl, hb9⟩; have HC9 := Hid.in (below_step HC8.out hb9); clear hb9))
  clear hS7 hI7 hI a0 a1 a2 a3 b0 b1 b2 b3 HI3 HC8 HC5
  have HB9 := Hid.in (below_step HB7.out HC9.out)
  have HP9 := Hid.in (HP7.out.below HC9.out)
  have HKP9 := Hid.in (HKP7.out.grow HC9.out)
  have HQ9 := Hid.in (HQ7.out.below HC9.out)
  have HKQ9 := Hid.in (HK7.out.grow HC9.out)
  have HU9 : Hid (Hurt w w3.heap.size w9 g4 mo (.slice pb mo.bs.length cb) (.slice ps mo.sy.length cs) (.slice pf mo.fx.length cf) (.slice pm mo.mk_.length cm) w9) :=
    ⟨HW7.out.grow HC9.out, far_own HW3.out.own.b (Nat.le_refl _), far_own HW3.out.own.s (Nat.le_refl _), far_own HW3.out.own.f (Nat.le_refl _), far_own HW3.out.own.m (Nat.le_refl _), HW3.out.box.lt, Keep.refl _ _, HB9.out⟩
  clear HW3 HB3 HK5 HP5 HB5 HK7 HQ7 HC7 HB7 HW7 HP7 HKP7 HC9
  generalize w3.heap.size = A at *
  generalize w5.heap.size = A5 at *
  go_wp2_with fail
  go_loopw [13] (fun vi wr => ∃ (i : Nat) (bs : List Int), vi = .int .i64 i ∧ i ≤ mo.bs.length ∧ bs.length = mo.bs.length ∧ Hurt w A w9 g4 ⟨bs, mo.sy, mo.fx, mo.mk_⟩ (.slice pb mo.bs.length cb) (.slice ps mo.sy.length cs) (.slice pf mo.fx.length cf) (.slice pm mo.mk_.length cm) wr) (fun vi _ => mo.bs.length - (intOf vi).toNat)
  case atStart => exact ⟨0, mo.bs, rfl, Nat.zero_le _, rfl, HU9.out⟩
  case round =>
    clear HU9
    obtain ⟨i, bs, rfl, hi, hbl, hU⟩ := hrel
    have HU := Hid.in hU
    have HBL := Hid.in hbl
    clear hU hbl
    have a0 : wr.cell? ⟨g4, 0, none⟩ = some (.slice pb mo.bs.length cb) := HU.out.want.box.cell 0
    by_cases hlt : i < mo.bs.length
    · as_aux_lemma =>
        rcases HU.out.want.own.b.shape with ⟨_, e⟩ | ⟨g, cap, e, ho⟩
        · exfalso
          have h1 : bs = [] := e
          have h2 := HBL.out
          rw [h1] at h2
          simp at h2
          omega
        · injection e with e1' e2' e3'
          subst e1' e3'
          have hcap := ho.cap
          have hmx : cb ≤ 9223372036854775807 := by
            obtain ⟨_, _, _, _, hm, _⟩ := ho.parts
            unfold maxLen at hm
            omega
          have c0 : wr.cell? ⟨g, i, none⟩ = some (.int .u8 (bs.getD i 0)) := ho.cell i (by have := HBL.out; show i < bs.length; omega)
          have f0 := ho.free i
          have HU' := Hid.in (HU.out.byte HBL.out i 9)
          go_wp2_with fail
          go_roundw
          case rel => exact ⟨i + 1, bs.set i 9, by go_num, by omega, by rw [List.length_set]; exact HBL.out, HU'.out⟩
          case measure => simp [intOf]; omega
    · go_upto_region 11 with fail
      clear hlt hi a0
      have aF : wr.cell? ⟨g4, 1, none⟩ = some (.slice ps mo.sy.length cs) := HU.out.want.box.cell 1
      go_upto_region 12 with (at_builtin; refine tpushL Tryz.elemSym _ rfl _ _ rfl w.heap.size (.slice ps mo.sy.length cs) (mo.sy.map syV) rfl (HU.out.want.own.s.alloc _) ⟨wr.heap.size, 0, none⟩ 1 (.string ⟨#[109, 111, 114, 101]⟩, .int .i64 0, .bool false) ⟨rfl, rfl, rfl⟩ rfl (news3 wr (.string ⟨#[109, 111, 114, 101]⟩, .int .i64 0, .bool false) 36) (by rw [List.length_map]; omega) (by decide) (by have := HU.out.bel.size; simp; omega) ?_; intro ga ca wa ho hg hl hb; have HUa := Hid.in (HU.out.alloc (.cells #[.string ⟨#[109, 111, 114, 101]⟩, .int .i64 0, .bool false] 36)); have HKa := Hid.in (HUa.out.want.box.kept hg (blk_not_row HUa.out.want.own.s HUa.out.want.box (by decide))); have xF : wa.cell? ⟨g4, 1, none⟩ = some (.slice ps mo.sy.length cs) := HKa.out.cell 1; have zF := HKa.out.free 1; have ho' : TOwn 36 wa w.heap.size (.slice (some ⟨ga, 0, none⟩) (mo.sy.length + 1) ca) ((mo.sy ++ [(⟨⟨#[109, 111, 114, 101]⟩, 0, false⟩ : Sy)]).map syV) := (by rw [List.map_append]; have ho2 := ho; rw [List.length_map] at ho2; exact ho2); have HUb := Hid.in (HUa.out.pushS ho' hg hl (hb w HUa.out.bel)); clear ho ho' hg hl hb HUa HKa)
      generalize wa.setCell ⟨g4, 1, none⟩ (.slice (some ⟨ga, 0, none⟩) (mo.sy.length + 1) ca) = wb at *
      clear aF xF zF HU
      have aF : wb.cell? ⟨g4, 2, none⟩ = some (.slice pf mo.fx.length cf) := HUb.out.want.box.cell 2
      go_upto_region 13 with (at_builtin; refine tpushL Tryz.elemFix _ rfl _ _ rfl w.heap.size (.slice pf mo.fx.length cf) (mo.fx.map fxV) rfl (HUb.out.want.own.f.alloc _) ⟨wb.heap.size, 0, none⟩ 1 (.int .u8 0, .int .i64 1, .string ⟨#[]⟩) ⟨rfl, rfl, rfl⟩ rfl (news3 wb (.int .u8 0, .int .i64 1, .string ⟨#[]⟩) 39) (by rw [List.length_map]; omega) (by decide) (by have := HUb.out.bel.size; simp; omega) ?_; intro gc cc wc ho hg hl hb; have HUa := Hid.in (HUb.out.alloc (.cells #[.int .u8 0, .int .i64 1, .string ⟨#[]⟩] 39)); have HKa := Hid.in (HUa.out.want.box.kept hg (blk_not_row HUa.out.want.own.f HUa.out.want.box (by decide))); have xF : wc.cell? ⟨g4, 2, none⟩ = some (.slice pf mo.fx.length cf) := HKa.out.cell 2; have zF := HKa.out.free 2; have ho' : TOwn 39 wc w.heap.size (.slice (some ⟨gc, 0, none⟩) (mo.fx.length + 1) cc) ((mo.fx ++ [(⟨0, 1, ⟨#[]⟩⟩ : Fx)]).map fxV) := (by rw [List.map_append]; have ho2 := ho; rw [List.length_map] at ho2; exact ho2); have HUd := Hid.in (HUa.out.pushF ho' hg hl (hb w HUa.out.bel)); clear ho ho' hg hl hb HUa HKa)
      generalize wc.setCell ⟨g4, 2, none⟩ (.slice (some ⟨gc, 0, none⟩) (mo.fx.length + 1) cc) = wd at *
      clear aF xF zF HUb
      have aF : wd.cell? ⟨g4, 3, none⟩ = some (.slice pm mo.mk_.length cm) := HUd.out.want.box.cell 3
      go_upto_region 14 with (at_builtin; refine tpushL Tryz.elemMark _ rfl _ _ rfl w.heap.size (.slice pm mo.mk_.length cm) (mo.mk_.map mkV) rfl (HUd.out.want.own.m.alloc _) ⟨wd.heap.size, 0, none⟩ 1 (.int .i64 1, .string ⟨#[]⟩, .string ⟨#[]⟩) ⟨rfl, rfl, rfl⟩ rfl (news3 wd (.int .i64 1, .string ⟨#[]⟩, .string ⟨#[]⟩) 41) (by rw [List.length_map]; omega) (by decide) (by have := HUd.out.bel.size; simp; omega) ?_; intro ge ce we ho hg hl hb; have HUa := Hid.in (HUd.out.alloc (.cells #[.int .i64 1, .string ⟨#[]⟩, .string ⟨#[]⟩] 41)); have HKa := Hid.in (HUa.out.want.box.kept hg (blk_not_row HUa.out.want.own.m HUa.out.want.box (by decide))); have xF : we.cell? ⟨g4, 3, none⟩ = some (.slice pm mo.mk_.length cm) := HKa.out.cell 3; have zF := HKa.out.free 3; have ho' : TOwn 41 we w.heap.size (.slice (some ⟨ge, 0, none⟩) (mo.mk_.length + 1) ce) ((mo.mk_ ++ [(⟨1, ⟨#[]⟩, ⟨#[]⟩⟩ : Mk)]).map mkV) := (by rw [List.map_append]; have ho2 := ho; rw [List.length_map] at ho2; exact ho2); have HUf := Hid.in (HUa.out.pushM ho' hg hl (hb w HUa.out.bel)); clear ho ho' hg hl hb HUa HKa)
      generalize we.setCell ⟨g4, 3, none⟩ (.slice (some ⟨ge, 0, none⟩) (mo.mk_.length + 1) ce) = wf at *
      clear aF xF zF HUd
      have HSL : Hid ((mo.sy ++ [(⟨⟨#[109, 111, 114, 101]⟩, 0, false⟩ : Sy)]).length = mo.sy.length + 1) := by
        show (mo.sy ++ [(⟨⟨#[109, 111, 114, 101]⟩, 0, false⟩ : Sy)]).length = mo.sy.length + 1
        simp
      go_wp2_with fail
      go_loopw [14] (fun vi wr => ∃ (i : Nat) (L : List Sy), vi = .int .i64 i ∧ i ≤ mo.sy.length + 1 ∧ L.length = mo.sy.length + 1 ∧ Hurt w A w9 g4 ⟨bs, L, mo.fx ++ [(⟨0, 1, ⟨#[]⟩⟩ : Fx)], mo.mk_ ++ [(⟨1, ⟨#[]⟩, ⟨#[]⟩⟩ : Mk)]⟩ (.slice pb mo.bs.length cb) (.slice (some ⟨ga, 0, none⟩) (mo.sy.length + 1) ca) (.slice (some ⟨gc, 0, none⟩) (mo.fx.length + 1) cc) (.slice (some ⟨ge, 0, none⟩) (mo.mk_.length + 1) ce) wr) (fun vi _ => mo.sy.length + 1 - (intOf vi).toNat)
      case atStart => exact ⟨0, _, rfl, Nat.zero_le _, HSL.out, HUf.out⟩
      case round =>
        clear HUf HSL
        obtain ⟨i, L, rfl, hi, hll, hU⟩ := hrel
        have HU := Hid.in hU
        have HLL := Hid.in hll
        clear hU hll
        have a1 : wr.cell? ⟨g4, 1, none⟩ = some (.slice (some ⟨ga, 0, none⟩) (mo.sy.length + 1) ca) := HU.out.want.box.cell 1
        by_cases hlt : i < mo.sy.length + 1
        · as_aux_lemma =>
            have hiL : i < L.length := by have := HLL.out; omega
            obtain ⟨p', cap', e, _, hm, hcells⟩ := HU.out.want.own.s.shape
            obtain ⟨g', e2, _, _, hc⟩ := hcells (by rw [List.length_map]; exact Nat.lt_of_le_of_lt (Nat.zero_le _) hiL)
            injection e with e3 e4 e5
            rw [← e3] at e2
            injection e2 with e6
            injection e6 with e7
            subst e7
            have c1 : wr.cell? ⟨ga, i * 3 + 1, none⟩ = some (.int .i64 L[i].at_) := by
              have h := hc i (by rw [List.length_map]; exact hiL) 1 (by decide)
              rw [List.getElem_map] at h
              exact h
            have hT : TOwn 36 wr w.heap.size (.slice (some ⟨ga, 0, none⟩) (L.map syV).length ca) (L.map syV) := by
              have h := HU.out.want.own.s
              rw [List.length_map, HLL.out]
              exact h
            have f1 := World.ownsRow.frozenAt hT (i * 3 + 1)
            clear hT
            have HU' := Hid.in (HU.out.sym HLL.out i hiL (-1))
            clear hc hcells e3 e4 e5
            generalize L[i].at_ = xat at *
            go_wp2_with fail
            go_roundw
            case rel => exact ⟨i + 1, _, by go_num, by omega, by rw [List.length_set]; exact HLL.out, HU'.out⟩
            case measure => simp [intOf]; omega
        · have hk := HU.out.keep
          have hg7 := HG7.out
          have hg10 := HG10.out
          have ha5 := HA5.out
          have HKP := Hid.in (HKP9.out.keep hk hg7)
          have HKQ := Hid.in (HKQ9.out.keep hk (Nat.le_trans ha5 hg10))
          have hS := sameObject_any mo mo qb qs qf qm _ db _ ds _ df _ dm rb rs rf rm _ kb _ ks _ kf _ km wr ((HP9.out.keep hk (Nat.le_refl A)).innAt HF.out) ((HQ9.out.keep hk ha5).innAt HF.out)
          simp only [eq_self, ht] at hS
          have b0 : wr.cell? ⟨g7, 0, none⟩ = some (.slice qb mo.bs.length db) := HKP.out.cell 0
          have b1 : wr.cell? ⟨g7, 1, none⟩ = some (.slice qs mo.sy.length ds) := HKP.out.cell 1
          have b2 : wr.cell? ⟨g7, 2, none⟩ = some (.slice qf mo.fx.length df) := HKP.out.cell 2
          have b3 : wr.cell? ⟨g7, 3, none⟩ = some (.slice qm mo.mk_.length dm) := HKP.out.cell 3
          have d0 : wr.cell? ⟨g10, 0, none⟩ = some (.slice rb mo.bs.length kb) := HKQ.out.cell 0
          have d1 : wr.cell? ⟨g10, 1, none⟩ = some (.slice rs mo.sy.length ks) := HKQ.out.cell 1
          have d2 : wr.cell? ⟨g10, 2, none⟩ = some (.slice rf mo.fx.length kf) := HKQ.out.cell 2
          have d3 : wr.cell? ⟨g10, 3, none⟩ = some (.slice rm mo.mk_.length km) := HKQ.out.cell 3
          clear hk
          go_wp2_with (first
            | (go_at_call 10; refine hS.mono ?_; rintro E wx ⟨rfl, hbx⟩; have HBx := Hid.in (below_step HU.out.bel hbx); clear hbx)
            | (go_at_call 12; refine (hA _ (HE.out.below HBx.out)).mono ?_; rintro E wy ⟨rfl, hby⟩; have HBy := Hid.in (below_step HBx.out hby); clear hby))
          go_ret
          exact ⟨rfl, HBy.out⟩

end Go.Proofs.YtkianldkbfjehaaGreatDoor

/-
  Proved here: the law ObjectMakes (switchyardlaw06) answers true wherever its arguments hold together at most 1048576 values and letters, and each argument reads afterwards as it read before; the card: what the row lists of the library's variables is tied to the program's text. 
-/
namespace Go.Proofs.YtkianldkbfjehaaGreatDoor
open Go.ChangeShapes Go.WideShapes Go.ChangeAt Go.RowKit
open Go.ChangeMaps (open_string shut_string)

theorem objectMakesUpto_reads (os : Os) {H : Type} (enc : TypeId × Value → H) : ∃ places, DataW.whole enc Tryz.prog ((laidWorld os).forCall (fun _ _ => 0) ⟨#[], #[.slice none 0 0], []⟩).memory Tryz.f3.params.toList (Rows.OpenSpec.upto Rows.objectMakesSpec).vars false (#[.slice none 0 0] : Array Value).toList 8 = some ([.nil], [], places) :=
  ⟨[], by kernel_rfl⟩

set_option maxRecDepth 100000 in
theorem objectMakesUpto_lifted (os : Os) (started : os.Started) (H : Type) (enc : TypeId × Value → H) (F : Stop.Interp) :
    ReturnsInHanded {} Tryz.checked os 3 .any ((Rows.OpenSpec.upto Rows.objectMakesSpec).preRow enc Tryz.prog Tryz.f3 Rows.objectMakesUptoRow.domain false Rows.objectMakesUptoRow.laid) (((Rows.OpenSpec.upto Rows.objectMakesSpec).at F).post enc Tryz.prog Tryz.f3 false true false false) := by
  obtain ⟨places, hx⟩ := objectMakesUpto_reads os enc
  refine returnsInHanded_of_row (C := Tryz.checked) (s := (Rows.OpenSpec.upto Rows.objectMakesSpec)) Tryz.own started (by kernel_rfl) Tryz.func3
    (witness_row_atRef (enc := enc) (C := Tryz.checked) false (laidWorld os) #[.slice none 0 0] rfl (by kernel_rfl) (by kernel_rfl) (by kernel_rfl)
      (OpenSpec.preRow_of_cond 8 hx (by kernel_rfl) (fun k hk => by cases hk; kernel_rfl) (by kernel_rfl) (laid_met os _))) ?_
  intro W base args ds gs before hval0 hW _ hcond hsz0 hL _ _
  have hV := env_of hL
  have hk := hcond _ rfl
  have hW' := hW
  obtain ⟨p, q, hA0, hVv, rfl, hfz, hnd⟩ := hW
  have hA : DataW.TrodAll enc Tryz.prog W 0 (fun _ => true) true Tryz.f3.params.toList args.toList ds p := hA0
  have hval : ∀ (j : Nat) t v, Tryz.f3.params[j]? = some t → args[j]? = some v → Value.okWide Tryz.prog W .any base t v := hval0
  rw [Tryz.params3] at hA hval
  obtain ⟨v0, vs0, d0, ds0, p0, q0, hargs, rfl, rfl, h0, r0⟩ := trodAll_cons hA
  obtain ⟨rfl, rfl, rfl⟩ := trodAll_nil r0
  obtain rfl : args = #[v0] := by cases args; simp_all
  obtain ⟨rfl, rfl⟩ := trodVars_none hVv
  obtain ⟨a0, n0, c0, rfl⟩ := okWide_slice Tryz.underlying22 (hval 0 22 v0 rfl rfl)
  have k0 := h0
  have lt0 : ∀ x ∈ p0, x.block < W.heap.size := by obtain ⟨m, hm⟩ := k0; exact DataW.trod_lt m _ _ _ hm
  obtain ⟨x0, hx0, hl0, hc0, hr0⟩ := opened_items h0 (bulk_one (d := d0) hk (by simp))
  refine (makes_walk a0 n0 c0 x0 W hV hx0 (by omega) hr0).mono fun e W' ⟨he, bel⟩ => ?_
  subst he
  exact ⟨_, rfl, _, _, _, [], _, [], hW', trodAll_mk1 (shut_bool Tryz.underlying4 _), (trodAll_cons_mk (Below.trod Tryz.laidOut (by kernel_rfl) (of_decide_eq_true (by kernel_rfl)) k0 bel lt0) trodAll_mk0), rfl, bel.frame _, fun h => by cases h⟩

theorem objectMakesUpto_said : Rows.ObjectMakesUptoSaid :=
  OpenClaim.holds_of_cond 3 Tryz.f3 rfl rfl rfl rfl rfl rfl rfl ⟨rfl, rfl, rfl, rfl, rfl⟩ rfl rfl rfl rfl rfl (by kernel_rfl) Tryz.func3 (by kernel_rfl)
    (of_decide_eq_true (by kernel_rfl)) (by unfold Func.isWrapper; first | (rw [if_pos (by decide +kernel)]; kernel_rfl) | (rw [if_neg (by decide +kernel)]; exact ⟨rfl, rfl⟩))
    (fun os started H enc _ F => by rw [OpenClaim.pre_eq_preRow]; exact objectMakesUpto_lifted os started H enc F)

theorem objectMakesUpto_plain (f : FuncId) (fn : Func) (hf : Tryz.pinned.checked.prog.funcNamed "switchyard/switchyardlaw06.ObjectMakes" = some f) (hfn : Tryz.pinned.checked.prog.funcs[f]? = some fn) :
    true = Tryz.pinned.checked.prog.looks [] ∧ ∀ (j : Nat) t, fn.params[j]? = some t → Tryz.pinned.checked.prog.wantsStandIn t = false := by
  obtain rfl : f = 3 := Option.some.inj ((show Tryz.prog.funcNamed "switchyard/switchyardlaw06.ObjectMakes" = some 3 by kernel_rfl).symm.trans hf) |>.symm
  obtain rfl : fn = Tryz.f3 := (Option.some.inj (Tryz.func3.symm.trans hfn)).symm
  refine ⟨by kernel_rfl, fun j t ht => ?_⟩
  rw [Tryz.params3] at ht
  rcases j with _ | j
  · obtain rfl : t = 22 := by simpa using ht.symm
    exact (show Tryz.prog.wantsStandIn 22 = false by kernel_rfl)
  · simp at ht

theorem objectMakesUpto_holds : Rows.ObjectMakesUptoCardSaid :=
  Claim7.holds_tied_plain_at .later [] _ _ _ _ objectMakesUpto_said (fun _ h => by cases h) (by kernel_rfl) (fun _ h => by cases h) objectMakesUpto_row_tie rfl ⟨rfl, rfl⟩ (by kernel_rfl) rfl objectMakesUpto_plain (by kernel_rfl)
#print axioms objectMakesUpto_holds

end Go.Proofs.YtkianldkbfjehaaGreatDoor
