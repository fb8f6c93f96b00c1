/- Texts put together: VisC, AtW, CmpW, ShelfV. -/
import Derived.Test.YtgblohjdiheemaaGreatKac
import Derived.Test.YtgblohjdiheemaaGreatKad
import Derived.Test.YtgblohjdiheemaaGreatKai
import Derived.Shelf.SlIterI.Collect
import Derived.Test.YtgblohjdiheemaaGreatKah
import Derived.Sort.Grow
import Derived.Shelf.SlSortCmp.NoneTotal
import Derived.Shelf.SlSortCmp.WholeK
import Derived.Ground.SlsfProg
import Derived.Test.YtgblohjdiheemaaGreatProg

/- Ours: maps.Keys, slices.Collect of visits: after the guide's texts on keys of an int's kind. -/
namespace Go.Proofs.YtgblohjdiheemaaGreat
open Go.RowKit Go.Maps Go.Sort Go.Shelf Go.WideMaps

set_option maxRecDepth 20000 in
theorem vi_inv {v : Value} {l : Lit} (h : keyOf Tryz.prog 80 v = some l) : ∃ x, v = viV x ∧ viOk x ∧ l = viL x := by
  obtain ⟨xs, L, rfl, h1, e⟩ := keyOf_top Tryz.wide80 h
  have hwf := keyLits_wf h1
  obtain ⟨d, hd⟩ := Tryz.typesN
  rw [hd] at h1
  unfold Program.keyLits at h1
  rw [Tryz.underlying80] at h1
  dsimp only at h1
  rw [Tryz.cells80] at h1
  split at h1
  · rename_i hl
    obtain ⟨hl, -⟩ := hl
    obtain ⟨a, b, hab⟩ : ∃ a b, xs.toList = [a, b] := by
      generalize xs.toList = ys at hl
      match ys, hl with
      | [a, b], _ => exact ⟨a, b, rfl⟩
    rw [hab] at h1
    simp only [List.mapM_cons, List.mapM_nil, Tryz.cells3, List.drop, List.take] at h1
    cases ha : Tryz.prog.keyLits (d + 1) 3 [a] with
    | none => rw [ha] at h1; cases h1
    | some la =>
      cases hb : Tryz.prog.keyLits (d + 1) 3 [b] with
      | none => rw [ha, hb] at h1; cases h1
      | some lb =>
        rw [ha, hb] at h1
        obtain ⟨x, ex, rfl⟩ := keyLits_int' Tryz.underlying3 ha
        obtain ⟨y, ey, rfl⟩ := keyLits_int' Tryz.underlying3 hb
        injection ex with ex
        injection ey with ey
        subst ex ey
        injection h1 with h1
        subst h1
        have hx : xs = #[.int .i64 x, .int .i64 y] := by
          have : xs = xs.toList.toArray := by simp
          rw [this, hab]
        subst hx
        have w1 : (Lit.int .i64 x).wf = true := hwf (.int .i64 x) (by simp)
        have w2 : (Lit.int .i64 y).wf = true := hwf (.int .i64 y) (by simp)
        exact ⟨⟨x, y⟩, rfl, ⟨wf_i64 w1, wf_i64 w2⟩, e⟩
  · cases h1
/-- what of a map's keys has come -/
def CollV {H : Type} (D0 : DataW H) (left : Lit → Bool) (ss : List Vi) : Prop := ss.Nodup ∧ (∀ x ∈ ss, viOk x) ∧ ∀ x, viOk x → (x ∈ ss ↔ (has D0 (viL x) = true ∧ left (viL x) = false))
/-- all of them -/
def AllV {H : Type} (D0 : DataW H) (ss : List Vi) : Prop := ss.Nodup ∧ (∀ x ∈ ss, viOk x) ∧ (∀ x, viOk x → (x ∈ ss ↔ has D0 (viL x) = true)) ∧ ss.length ≤ Maps.size D0
theorem viL_inj {x y : Vi} (hx : viOk x) (hy : viOk y) (h : viL x = viL y) : x = y := mV.inj hx hy h
section
variable {H : Type} {D0 : DataW H} {left : Lit → Bool} {ss : List Vi}
theorem CollV.start (D0 : DataW H) : CollV D0 (has D0) [] := by
  refine ⟨List.nodup_nil, ?_, ?_⟩
  · intro x hx
    cases hx
  · intro x _
    cases has D0 (viL x) <;> simp
theorem CollV.step (h : CollV D0 left ss) {x : Vi} (hx : viOk x) {y : DataW H} (hlk : left (viL x) = true) (hat : ∀ zd, D0.atKey (viL x) zd = y) : CollV D0 (fun z => left z && !z.sameKey (viL x)) (ss ++ [x]) := by
  have hhas : has D0 (viL x) = true := has_true_of_atKey hat
  have hnew : x ∉ ss := fun hm => by have := ((h.2.2 x hx).1 hm).2; rw [hlk] at this; cases this
  have hk : ∀ z, WideAt.IsKeyLit (viL z) := fun z => by unfold viL; trivial
  refine ⟨List.nodup_append.2 ⟨h.1, by simp, fun a ha b hb => by simp at hb; subst hb; exact fun e => hnew (e ▸ ha)⟩, fun y hy => ?_, fun y hy => ?_⟩
  · rcases List.mem_append.1 hy with hy | hy
    · exact h.2.1 y hy
    · simp at hy; subst hy; exact hx
  · by_cases hyx : y = x
    · subst hyx
      simp [hhas, WideAt.sameKey_self (hk y)]
    · have hs : (viL y).sameKey (viL x) = false := by
        cases e : (viL y).sameKey (viL x)
        · rfl
        · exact absurd (viL_inj hy hx (WideAt.sameKey_eq e)) hyx
      simp [h.2.2 y hy, hyx, hs]
theorem CollV.all (h : CollV D0 left ss) (hl : ∀ kl, left kl = false) (hn : ss.length ≤ Maps.size D0) : AllV D0 ss := ⟨h.1, h.2.1, fun x hx => by rw [h.2.2 x hx, hl]; simp, hn⟩
end

set_option maxRecDepth 100000 in
set_option maxHeartbeats 2000000 in
/-- the iterator of maps.Keys: each key once, in some order -/
theorem vkeys1 {H : Type} (F : Fence) (n : Nat) (h75 : F.fn 75) (hro : F.round = none) (hn : 1 ≤ n) (l Bm b nn : Nat) (D0 : DataW H) {R : Value → Option (DataW H × List MemPlace)} (J : List Vi → World → Prop)
    (hY : ∀ pre x W, J pre W → viOk x → pre.length < Maps.size D0 → YieldAt F (n - 1) Tryz.prog l #[viV x] W fun e W' => e = .returned (.bool true) ∧ J (pre ++ [x]) W' ∧ KeepsWalks W W')
    (W : World) (hJ : AbidesFrom W.heap.size J) (hm : W.cell? ⟨Bm, 0, none⟩ = some (.map (some b))) (hown : W.ownsMap Tryz.prog 80 R b nn D0) (h0 : J [] W) :
    CallsIn F n Tryz.prog 75 #[.func (.yield l) #[] #[], .pointer (some ⟨Bm, 0, none⟩)] W fun e W' => (∃ v, e = .returned v) ∧ ∃ ss : List Vi, AllV D0 ss ∧ J ss W' := by
  refine callsIn_of_wp Tryz.func75 rfl h75 ?_ hro
  simp only [Tryz.ntmps75, List.size_toArray, List.length_cons, List.length_nil, Nat.reduceAdd, Nat.reduceSub, Array.replicate_succ, Array.replicate_zero, List.push_toArray, List.append_toArray, List.nil_append, List.cons_append]
  gi_wp2_with (first
    | (gi_at_range; refine wpListIn_range_own _ rfl _ 75 rfl 80 39 law80 Tryz.und75 _ b nn _ rfl hown ?_; intro w0 hrg0 hg0 hs0)
    | gi_in)
  go_frame
  gi_loopw [3] (fun _ wr => ∃ (left : Lit → Bool) (cnt : Nat) (ss : List Vi), wr.ranges Tryz.prog 80 R b W.heap.size nn D0 left cnt ∧ ss.length + cnt ≤ Maps.size D0 ∧ CollV D0 left ss ∧ J ss wr)
    (fun _ wr => wr.rangeLeft b W.heap.size)
  case atStart =>
    exact ⟨_, _, [], hrg0, by simp, CollV.start D0, hJ [] W w0 none h0 hg0 (fun r e => by cases e)⟩
  case round =>
    obtain ⟨left, cnt, ss, hrg, hcs, hC, hJs⟩ := hrel
    gi_wp2_with (first
      | (gi_at_next; refine wpListIn_next_ranges _ rfl _ rfl 80 law80 R viV id (fun key kl hk => by obtain ⟨x, hx, _⟩ := vi_inv hk; exact ⟨x, hx⟩) (fun v _ _ => ⟨v, rfl⟩) b W.heap.size nn _ _ _ rfl hrg ?_ ?_)
      | gi_in)
    · intro hc0 hl0
      gi_wp2
      go_end0
      exact ⟨⟨_, rfl⟩, ss, hC.all hl0 (by omega), hJs⟩
    · intro x c kl yd yp w2 cnt2 hkey hlk hv hat hrg2 hlt hg2 hs2 hen
      obtain ⟨x', ex, hok, rfl⟩ := vi_inv hkey
      obtain rfl : x = x' := viV_inj ex
      have hJ2 : J ss w2 := hJ ss wr w2 (some W.heap.size) hJs hg2 (fun r e => by cases e; exact ⟨Nat.le_refl _, hrg.iter_walk⟩)
      obtain ⟨w3, hw3⟩ : ∃ w3, w2.alloc (.cells #[.int .i64 x.h, .int .i64 x.s] 80) = w3 := ⟨_, rfl⟩
      have hJ3 : J ss w3 := hJ ss w2 w3 none hJ2 (by rw [← hw3]; exact World.grownBy_alloc w2 _ none) (fun r e => by cases e)
      have hk3 : KeepsWalks w2 w3 := by rw [← hw3]; exact KeepsWalks.alloc _ _
      have hrg3 := hrg2.of_walks hk3
      obtain ⟨fn, tmps, assign, body, hy, hR⟩ := hY ss x w3 hJ3 hok (by omega)
      clear hs2
      have hen' : (Instr.entry (.pointer (some ⟨W.heap.size, 0, none⟩))).run Tryz.prog w2 = .ok (.tuple #[.agg #[.int .i64 x.h, .int .i64 x.s], c]) w2 := hen
      clear hen
      have hy' : (Instr.yield l #[.agg #[.int .i64 x.h, .int .i64 x.s]]).run Tryz.prog w3 = .ok (.round l fn tmps assign body) w3 := hy
      clear hy
      have b0 : w3.cell? ⟨w2.heap.size, 0, none⟩ = some (.int .i64 x.h) := by rw [← hw3]; exact (Blk.new w2 80 #[.int .i64 x.h, .int .i64 x.s]).cell 0
      have b1 : w3.cell? ⟨w2.heap.size, 1, none⟩ = some (.int .i64 x.s) := by rw [← hw3]; exact (Blk.new w2 80 #[.int .i64 x.h, .int .i64 x.s]).cell 1
      gi_wp2_with fail
      refine hR.mono ?_
      rintro e W3 ⟨rfl, hJ4, hk4⟩
      gi_wp2
      have hrg4 := hrg3.of_walks hk4
      go_roundw
      case rel => exact ⟨_, cnt2, ss ++ [x], hrg4, by simp; omega, hC.step hok hlk hat, hJ4⟩
      case measure => rw [hrg4.left_eq, hrg.left_eq]; exact hlt

/-- an iterator over visits, told to a fence -/
def GivesV (F : Fence) (n : Nat) (g : Nat) (lb : Array Value) (S : List Vi → Prop) (N : Nat) (w : World) : Prop :=
  ∀ (l : Nat) (J : List Vi → World → Prop) (W : World), Below w.heap.size w W → AbidesFrom W.heap.size J →
    (∀ pre x W1, J pre W1 → viOk x → pre.length < N → YieldAt F (n - 1) Tryz.prog l #[viV x] W1 fun e W' => e = .returned (.bool true) ∧ J (pre ++ [x]) W' ∧ KeepsWalks W1 W') →
    J [] W →
    CallsIn F n Tryz.prog g (#[.func (.yield l) #[] #[]] ++ lb) W fun e W' => (∃ v, e = .returned v) ∧ ∃ xs, S xs ∧ J xs W'
theorem vkeys_gives {H : Type} (F : Fence) (n : Nat) (h75 : F.fn 75) (hro : F.round = none) (hn : 1 ≤ n) (Bm b nn : Nat) (D0 : DataW H) {R : Value → Option (DataW H × List MemPlace)} (w : World) (hBm : Bm < w.heap.size)
    (hm : w.cell? ⟨Bm, 0, none⟩ = some (.map (some b))) (hown : w.ownsMap Tryz.prog 80 R b nn D0) :
    GivesV F n 75 #[.pointer (some ⟨Bm, 0, none⟩)] (AllV D0) (Maps.size D0) w := fun l J W hW hJ hY h0 => by
  have hown' : W.ownsMap Tryz.prog 80 R b nn D0 := by
    have hbl := hown.lt
    obtain ⟨es, clock, hb, Ft, hs, hD⟩ := hown
    exact ⟨es, clock, (hW.block b hbl).trans hb, Ft, hs, hD⟩
  exact vkeys1 F n h75 hro hn l Bm b nn D0 J hY W hJ ((hW.cell (p := ⟨Bm, 0, none⟩) hBm).trans hm) hown' h0

def rfFind : Code → Code × Code
  | .rangeFunc _ _ a b => (a, b)
  | .seq (.region ..) y => rfFind y
  | .seq x _ => rfFind x
  | .block _ x => rfFind x
  | x => (x, x)
def apAssign : Code := (Code.region 2 #[{ dst := some 5, op := Op.alloc 80, type := 0, pos := "iter.go:51", after := #[], guard := none }, { dst := none, op := Op.store 80 (Operand.tmp 5) (Operand.tmp 7), type := 0, pos := "iter.go:51", after := #[{ on := 0, ground := Ground.data }, { on := 0, ground := Ground.phase }], guard := none }] false)
def apBody : Code := (Code.block 1 (Code.region 3 #[{ dst := some 8, op := Op.load 101 (Operand.tmp 2), type := 101, pos := "iter.go:52", after := #[], guard := none }, { dst := some 9, op := Op.load 80 (Operand.tmp 5), type := 80, pos := "iter.go:52", after := #[], guard := none }, { dst := some 10, op := Op.buildSlice 101 1 #[(0, Operand.tmp 9)], type := 101, pos := "iter.go:52", after := #[{ on := 1, ground := Ground.data }], guard := none }, { dst := some 11, op := Op.call { callee := Callee.builtin Builtin.append, args := #[Operand.tmp 8, Operand.tmp 10], argTypes := #[101, 101] }, type := 101, pos := "iter.go:52", after := #[{ on := 0, ground := Ground.data }, { on := 2, ground := Ground.data }], guard := none }, { dst := none, op := Op.store 101 (Operand.tmp 2) (Operand.tmp 11), type := 0, pos := "iter.go:52", after := #[{ on := 3, ground := Ground.data }, { on := 3, ground := Ground.chain }, { on := 0, ground := Ground.phase }, { on := 1, ground := Ground.phase }, { on := 2, ground := Ground.phase }, { on := 3, ground := Ground.phase }], guard := none }] false))
def apRec (fn : FuncId) (sv : Value) (Bs D : Nat) (st : LoopState) (pend : Option Code) : Loop :=
  { state := st, pending := pend, fn, tmps := #[.slice none 0 0, sv, .pointer (some ⟨Bs, 0, none⟩), undef, .slice none 0 0, undef, sv, undef, undef, undef, undef, undef, undef], params := #[7], assign := apAssign, body := apBody, defers := D }
/-- how visits are told as cells -/
def fV : Fm Vi where
  k := 2
  f := fun x => [.int .i64 x.h, .int .i64 x.s]
  pos := by decide
  len := fun _ => rfl
  one := fun x u hu => by
    simp only [List.mem_cons, List.not_mem_nil, or_false] at hu
    rcases hu with rfl | rfl <;> rfl
theorem elemV : ElemK fV 101 80 16 := ⟨Tryz.underlying101, .agg #[.int .i64 0, .int .i64 0], rfl, by kernel_rfl⟩
structure ApAt (w0 : World) (fn : FuncId) (sv : Value) (Bs l D : Nat) (ss : List Vi) (W : World) : Prop where
  box : ∃ v, W.heap[Bs]? = some (.cells #[v] 101 (0, 0)) ∧ KOwn fV 80 W w0.heap.size v ss
  L : W.heap[l]? = some (.loop (apRec fn sv Bs D .ready none))
  K : W.heap[D]? = some (.deferred (some []))
  below : Below w0.heap.size w0 W
theorem ownsRow_abides_k {T : TypeId} {size : Nat} {B : Nat} {v : Value} {n : Nat} {xs : List Value} {W W' : World} {row : Option Nat} (hr : W.ownsRow B T size v n xs) (hg : W.grownBy W' row) (hrow : ∀ r, row = some r → ∃ o : Obj, W.heap[r]? = some o ∧ o.isWalk = true) : W'.ownsRow B T size v n xs := by
  refine hr.kept hg ?_
  rcases hr.2 with ⟨e1, _⟩ | ⟨g, cap, cur, e1, _, e3, _⟩
  · left; rw [e1]; rfl
  · right
    rw [e1]
    intro e
    obtain ⟨o, h1, h2⟩ := hrow g e.symm
    rw [e3] at h1
    injection h1 with h1
    subst h1
    cases h2
theorem ap_abides (w0 : World) (fn : FuncId) (sv : Value) (Bs l D B : Nat) (hB : w0.heap.size ≤ B) : AbidesFrom B (ApAt w0 fn sv Bs l D) := fun s W W' row h hg hrow => by
  have hrow' : ∀ r, row = some r → ∃ o : Obj, W.heap[r]? = some o ∧ o.isWalk = true := fun r e => (hrow r e).2
  obtain ⟨v, hv, hr⟩ := h.box
  exact ⟨⟨v, (grownBy_keeps hg hrow' hv rfl).trans hv, ownsRow_abides_k hr hg hrow'⟩, (grownBy_keeps hg hrow' h.L rfl).trans h.L, (grownBy_keeps hg hrow' h.K rfl).trans h.K,
    h.below.grown hg h.below.size (fun k e => Nat.le_trans hB (hrow k e).1)⟩
set_option maxRecDepth 100000 in
set_option maxHeartbeats 4000000 in
theorem apYield (F : Fence) (m : Nat) (w0 : World) (fn : FuncId) (hfn : F.fn fn) (sv : Value) (Bs l D : Nat) (hBl : Bs ≠ l) (hDl : D ≠ l) (hDB : D ≠ Bs) (h0B : w0.heap.size ≤ Bs) (h0l : w0.heap.size ≤ l)
    (N : Nat) (hN : N ≤ 1048576) (ss : List Vi) (x : Vi) (W : World) (h : ApAt w0 fn sv Bs l D ss W) (hlen : ss.length < N) :
    YieldAt F m Tryz.prog l #[viV x] W fun e W' => e = .returned (.bool true) ∧ ApAt w0 fn sv Bs l D (ss ++ [x]) W' ∧ KeepsWalks W W' := by
  have hne : (101 : TypeId) ≠ 80 := by decide
  obtain ⟨hu, z, hzc, hinfo⟩ := elemV
  obtain ⟨i0, hi, hz0, hz1, hz2⟩ := info_parts hinfo
  obtain ⟨v, hv, hrow⟩ := h.box
  refine ⟨fn, #[.slice none 0 0, sv, .pointer (some ⟨Bs, 0, none⟩), undef, .slice none 0 0, undef, sv, viV x, undef, undef, undef, undef, undef], apAssign, apBody, by simpa [apRec] using run_yield (P := Tryz.prog) (args := #[viV x]) h.L rfl, roundIn_of_wpIn hfn ?_⟩
  have hba := new_alloc W (.cells #[.int .i64 x.h, .int .i64 x.s] 80)
  have a0 : (W.alloc (.cells #[.int .i64 x.h, .int .i64 x.s] 80)).cell? ⟨W.heap.size, 0, none⟩ = some (.int .i64 x.h) := (Blk.new W 80 #[.int .i64 x.h, .int .i64 x.s]).cell 0
  have a1 : (W.alloc (.cells #[.int .i64 x.h, .int .i64 x.s] 80)).cell? ⟨W.heap.size, 1, none⟩ = some (.int .i64 x.s) := (Blk.new W 80 #[.int .i64 x.h, .int .i64 x.s]).cell 1
  have hsa : (W.alloc (.cells #[.int .i64 x.h, .int .i64 x.s] 80)).heap.size = W.heap.size + 1 := World.size_alloc _ _
  obtain ⟨Wa, hWa⟩ : ∃ Wa, W.alloc (.cells #[.int .i64 x.h, .int .i64 x.s] 80) = Wa := ⟨_, rfl⟩
  have hka : KeepsWalks W Wa := by rw [← hWa]; exact KeepsWalks.alloc _ _
  rw [hWa] at hba a0 a1 hsa
  have hva : Wa.heap[Bs]? = some (.cells #[v] 101 (0, 0)) := (hba.block Bs (Array.getElem?_eq_some_iff.1 hv).1).trans hv
  have hKa : Wa.heap[D]? = some (.deferred (some [])) := (hba.block D (Array.getElem?_eq_some_iff.1 h.K).1).trans h.K
  have hLa : Wa.heap[l]? = some (.loop (apRec fn sv Bs D .ready none)) := (hba.block l (Array.getElem?_eq_some_iff.1 h.L).1).trans h.L
  have hrowa : Wa.ownsRow w0.heap.size 80 2 v ss.length (fV.cs ss) := KOwn.below (F := fV) hrow hba
  have hbwa : Below w0.heap.size w0 Wa := h.below.trans (hba.mono h.below.size)
  have hl : l < Wa.heap.size := (Array.getElem?_eq_some_iff.1 hLa).1
  have hbr := run_beginRound (P := Tryz.prog) hLa rfl
  obtain ⟨W2, hW2⟩ : ∃ W2, Wa.putObj l (.loop { apRec fn sv Bs D .ready none with state := .busy }) = W2 := ⟨_, rfl⟩
  rw [hW2] at hbr
  have hg2 : Wa.grownBy W2 (some l) := by rw [← hW2]; exact grownBy_putObj_a _ _ _
  have hk2 : KeepsWalks W W2 := hka.trans (by rw [← hW2]; exact KeepsWalks.putObj _ hLa rfl)
  have hv2 : W2.heap[Bs]? = some (.cells #[v] 101 (0, 0)) := by rw [← hW2]; exact (World.putObj_heap_other hBl).trans hva
  have hK2 : W2.heap[D]? = some (.deferred (some [])) := by rw [← hW2]; exact (World.putObj_heap_other hDl).trans hKa
  have hL2 : W2.heap[l]? = some (.loop { apRec fn sv Bs D .ready none with state := .busy }) := by rw [← hW2]; exact World.putObj_heap_same hl
  have hrow2 : W2.ownsRow w0.heap.size 80 2 v ss.length (fV.cs ss) := World.ownsRow.kept hrowa hg2 (ownsRow_ne_a hrowa hLa (fun cur e => by cases e))
  have hb2 : Below w0.heap.size w0 W2 := hbwa.grown hg2 hbwa.size (fun k e => by cases e; exact h0l)
  have hlW : l < W.heap.size := (Array.getElem?_eq_some_iff.1 h.L).1
  have hblk : W2.heap[W.heap.size]? = Wa.heap[W.heap.size]? := hg2.block W.heap.size (by omega) (fun e => by cases e; omega)
  have c0 : W2.cell? ⟨W.heap.size, 0, none⟩ = some (.int .i64 x.h) := by rw [← a0]; unfold World.cell?; dsimp only; rw [hblk]
  have c1 : W2.cell? ⟨W.heap.size, 1, none⟩ = some (.int .i64 x.s) := by rw [← a1]; unfold World.cell?; dsimp only; rw [hblk]
  obtain ⟨hc2, hf2⟩ := cell_of_box_a hv2
  have hBlt : Bs < W2.heap.size := (Array.getElem?_eq_some_iff.1 hv2).1
  have hl2 : l < W2.heap.size := (Array.getElem?_eq_some_iff.1 hL2).1
  have hDlt : D < W2.heap.size := (Array.getElem?_eq_some_iff.1 hK2).1
  have ne_of : ∀ {j : Nat} {o : Obj}, W2.heap[j]? = some o → (∀ cur, o ≠ .cells cur 80 (0, 0)) → some j ≠ v.ownBlock := fun hj hno => by
    rcases ownsRow_ne_a hrow2 hj hno with e | e
    · rw [e]; simp
    · exact fun e' => e e'.symm
  clear hW2 a0 a1
  unfold apAssign viV
  gi_wp2_with gi_round_op_a
  unfold apBody
  gi_wp2_with (first
    | (gi_at_builtin; refine wpListIn_append_own _ rfl _ _ 101 rfl w0.heap.size 80 i0 z 2 16 hu hi hz0 hz1 hz2 hzc (by decide) _ _ _ rfl (hrow2.alloc _) ⟨W2.heap.size, 0, none⟩ 1 1 (fV.f x) rfl rfl (fV.news W2 x 80 #[.int .i64 x.h, .int .i64 x.s] rfl) (fV.one x) (by unfold maxLen; omega) (by omega) (by have := hb2.size; simp; omega) ?_; intro v' w3 hown' hg3 hnil3
       have hv3 : w3.heap[Bs]? = some (.cells #[v] 101 (0, 0)) := (hg3.block Bs (by simp; omega) (ne_of hv2 (fun cur e => by first | cases e | exact hne (Obj.cells.inj e).2.1))).trans ((Below.heap_alloc _ _ Bs hBlt).trans hv2)
       obtain ⟨hc3, hf3⟩ := cell_of_box_a hv3
       obtain ⟨g', cap', cur', rfl, hbase', hgb', hr1, hr2, hr3, hr4⟩ : ∃ g' cap' cur', v' = .slice (some ⟨g', 0, none⟩) (ss.length + 1) cap' ∧ w0.heap.size ≤ g' ∧ w3.heap[g']? = some (.cells cur' 80 (0, 0)) ∧ ss.length + 1 ≤ cap' ∧ cap' ≤ maxLen ∧ cur'.size = cap' * 2 ∧ cur'.toList.take ((ss.length + 1) * 2) = fV.cs ss ++ fV.f x := by
         rcases hown'.2 with ⟨_, h0⟩ | h'
         · exact absurd h0 (by omega)
         · exact h'
       go_frame)
    | gi_round_op_a)
  have hg3' : (W2.alloc (.cells #[.int .i64 x.h, .int .i64 x.s] 80)).grownBy w3 v.ownBlock := hg3
  have hL3 : w3.heap[l]? = some (.loop { apRec fn sv Bs D .ready none with state := .busy }) := (hg3'.block l (by simp; omega) (ne_of hL2 (fun cur e => by cases e))).trans ((Below.heap_alloc _ _ l hl2).trans hL2)
  have hK3 : w3.heap[D]? = some (.deferred (some [])) := (hg3'.block D (by simp; omega) (ne_of hK2 (fun cur e => by cases e))).trans ((Below.heap_alloc _ _ D hDlt).trans hK2)
  obtain ⟨w4, hw4⟩ : ∃ w4, w3.setCell ⟨Bs, 0, none⟩ (.slice (some ⟨g', 0, none⟩) (ss.length + 1) cap') = w4 := ⟨_, rfl⟩
  rw [hw4]
  have hg4 : w3.grownBy w4 (some Bs) := by rw [← hw4]; exact grownBy_setCell0_a _ _ _
  have hv4 : w4.heap[Bs]? = some (.cells #[.slice (some ⟨g', 0, none⟩) (ss.length + 1) cap'] 101 (0, 0)) := by rw [← hw4]; exact heap_setCell_box_a _ hv3
  have hL4 : w4.heap[l]? = some (.loop { apRec fn sv Bs D .ready none with state := .busy }) := (hg4.block l (Array.getElem?_eq_some_iff.1 hL3).1 (fun e => hBl (by cases e; rfl))).trans hL3
  have hK4 : w4.heap[D]? = some (.deferred (some [])) := (hg4.block D (Array.getElem?_eq_some_iff.1 hK3).1 (fun e => hDB (by cases e; rfl))).trans hK3
  have hrow4 := hown'.kept hg4 (ownsRow_ne_a hown' hv3 (fun cur e => by first | cases e | exact hne (Obj.cells.inj e).2.1))
  have hl4 : l < w4.heap.size := (Array.getElem?_eq_some_iff.1 hL4).1
  have hb3 : Below w0.heap.size w0 w3 := (hb2.alloc hb2.size _).grown hg3' (by have := hb2.size; simp; omega) (fun k e => (hrow2.lt k e).1)
  have hb4 : Below w0.heap.size w0 w4 := hb3.grown hg4 hb3.size (fun k e => by cases e; exact h0B)
  have hk4 : KeepsWalks W w4 := ((hk2.trans (KeepsWalks.alloc _ _)).trans (KeepsWalks.of_grownBy hg3' (ownsRow_not_walk_a (hrow2.alloc _)))).trans (by rw [← hw4]; exact KeepsWalks.setCell _ _ _)
  clear hw4
  refine ⟨_, _, run_endRound none hL4, rfl, ⟨⟨_, (World.putObj_heap_other hBl).trans hv4, ?_⟩, World.putObj_heap_same hl4, (World.putObj_heap_other hDl).trans hK4, hb4.grown (grownBy_putObj_a _ _ _) hb4.size (fun k e => by cases e; exact h0l)⟩, hk4.trans (KeepsWalks.putObj _ hL4 rfl)⟩
  have := hrow4.kept (grownBy_putObj_a w4 l (.loop { { apRec fn sv Bs D .ready none with state := .busy } with state := if (none : Option Code).isNone then .ready else .done, pending := none })) (ownsRow_ne_a hrow4 hL4 (fun cur e => by cases e))
  unfold KOwn
  rw [fV.cs_two, fV.cs_one, List.length_append]
  exact this
set_option maxRecDepth 100000 in
set_option maxHeartbeats 4000000 in
/-- slices.AppendSeq(nil, seq) -/
theorem vappendSeq (F : Fence) (n : Nat) (h86 : F.fn 86) (hro : F.round = none) (hn : 2 ≤ n) (g : Nat) (lb : Array Value) (hFg : F.fn g) (eg : ∀ args w, (callFunc g args).run Tryz.prog w = .ok (.enter g args) w)
    (S : List Vi → Prop) (N : Nat) (hN : N ≤ 1048576) (w : World) (hseq : GivesV F (n - 1) g lb S N w) :
    CallsIn F n Tryz.prog 86 #[.slice none 0 0, .func (.func g) #[] lb] w fun e w' => ∃ (v : Value) (ss : List Vi), e = .returned v ∧ S ss ∧ KOwn fV 80 w' w.heap.size v ss ∧ Below w.heap.size w w' := by
  have h1 : 1 ≤ n := by omega
  refine callsIn_of_wp_marks Tryz.func86 rfl h86 ?_ hro
  simp only [Tryz.ntmps86, List.size_toArray, List.length_cons, List.length_nil, Nat.reduceAdd, Nat.reduceSub, Array.replicate_succ, Array.replicate_zero, List.push_toArray, List.append_toArray, List.nil_append, List.cons_append]
  gi_wp2
  refine wpIn_rangeFunc ?_
  intro fn hfn
  rw [hro]
  obtain ⟨W0, hW0⟩ : ∃ W0, w.alloc (.cells #[.slice none 0 0] 101) = W0 := ⟨_, rfl⟩
  have hs0 : W0.heap.size = w.heap.size + 1 := by rw [← hW0]; simp
  have hv0 : W0.heap[w.heap.size]? = some (.cells #[.slice none 0 0] 101 (0, 0)) := by rw [← hW0]; exact World.alloc_heap_new w _
  have hb0 : Below w.heap.size w W0 := by rw [← hW0]; exact (Below.refl _ w).alloc (Nat.le_refl _) _
  rw [hW0]
  obtain ⟨W1, hW1⟩ : ∃ W1, (W0.alloc (.deferred (some []))).alloc (.loop (apRec fn (.func (.func g) #[] lb) w.heap.size W0.heap.size .ready none)) = W1 := ⟨_, rfl⟩
  have hold : ∀ k, k < W0.heap.size → W1.heap[k]? = W0.heap[k]? := fun k hk => by
    rw [← hW1]; exact (Below.heap_alloc _ _ k (by simp; omega)).trans (Below.heap_alloc _ _ k hk)
  have hb1 : Below w.heap.size w W1 := by rw [← hW1]; exact (hb0.alloc hb0.size _).alloc (by have := hb0.size; simp; omega) _
  have hs1 : W1.heap.size = W0.heap.size + 2 := by rw [← hW1]; simp
  have hM : ApAt w fn (.func (.func g) #[] lb) w.heap.size (W0.heap.size + 1) W0.heap.size [] W1 :=
    ⟨⟨_, (hold w.heap.size (by omega)).trans hv0, KOwn.nil _ _ _ _⟩,
     by rw [← hW1]; have := World.alloc_heap_new (W0.alloc (.deferred (some []))) (.loop (apRec fn (.func (.func g) #[] lb) w.heap.size W0.heap.size .ready none)); rwa [World.size_alloc] at this,
     by rw [← hW1]; exact (Below.heap_alloc _ _ _ (by simp)).trans (World.alloc_heap_new W0 _), hb1⟩
  refine ⟨W0.heap.size + 1, [{ target := .collected W0.heap.size, args := #[] }], W1, { target := .fn (.func g) lb, args := #[.func (.yield (W0.heap.size + 1)) #[] #[]] }, W1, g,
    #[.func (.yield (W0.heap.size + 1)) #[] #[]] ++ lb, W1, ?_, ?_, ?_, ?_, fun _ => h1, ?_⟩
  · rw [← hW1]; exact run_enterLoop_outer _ _ _ _ _
  · simp [resolve, go_sem]
  · intro f' hf'; simp [Target.leads] at hf'; subst hf'; exact hFg
  · simp [invoke, go_sem, eg]
  · refine (hseq (W0.heap.size + 1) (ApAt w fn (.func (.func g) #[] lb) w.heap.size (W0.heap.size + 1) W0.heap.size) W1 hb1 (ap_abides _ _ _ _ _ _ _ hb1.size)
      (fun pre x W hJ _ hl => apYield F (n - 1 - 1) w fn hfn _ w.heap.size (W0.heap.size + 1) W0.heap.size (by omega) (by omega) (by omega) (Nat.le_refl _) (by omega) N hN pre x W hJ hl) hM).mono ?_
    rintro e W2 ⟨⟨v0, rfl⟩, ss, hS, h2⟩
    obtain ⟨v, hv, hrow⟩ := h2.box
    have hend := run_endLoop (P := Tryz.prog) h2.L (by simp [apRec])
    obtain ⟨W3, hW3⟩ : ∃ W3, W2.putObj (W0.heap.size + 1) (.loop { apRec fn (.func (.func g) #[] lb) w.heap.size W0.heap.size .ready none with state := .exhausted }) = W3 := ⟨_, rfl⟩
    rw [hW3] at hend
    have hg3 : W2.grownBy W3 (some (W0.heap.size + 1)) := by rw [← hW3]; exact grownBy_putObj_a _ _ _
    have hv3 : W3.heap[w.heap.size]? = some (.cells #[v] 101 (0, 0)) := by rw [← hW3]; exact (World.putObj_heap_other (by omega)).trans hv
    have hK3 : W3.heap[W0.heap.size]? = some (.deferred (some [])) := by rw [← hW3]; exact (World.putObj_heap_other (by omega)).trans h2.K
    have hrow3 : W3.ownsRow w.heap.size 80 2 v ss.length (fV.cs ss) := World.ownsRow.kept hrow hg3 (ownsRow_ne_a hrow h2.L (fun cur e => by cases e))
    have hb3 : Below w.heap.size w W3 := h2.below.grown hg3 h2.below.size (fun k e => by cases e; omega)
    obtain ⟨hc3, hf3⟩ := cell_of_box_a hv3
    clear hW3
    refine ⟨none, W3, hend, ?_⟩
    gi_wp2
    rw [← hs0]
    refine ⟨by simp, .inl ⟨_, _, rfl, run_takeDeferred hK3, ?_⟩⟩
    exact ⟨_, results_tmp rfl _ _ _, v, ss, rfl, hS, World.ownsRow.kept hrow3 (grownBy_putObj_a _ _ _) (ownsRow_ne_a hrow3 hK3 (fun cur e => by cases e)), hb3.grown (grownBy_putObj_a _ _ _) hb3.size (fun k e => by cases e; omega)⟩
/-- slices.Collect(maps.Keys(m)'s value) -/
theorem vcollect (Bm b nn : Nat) {R : Value → Option (DataW Unit × List MemPlace)} (D0 : DataW Unit) (w : World) (hBm : Bm < w.heap.size) (hm : w.cell? ⟨Bm, 0, none⟩ = some (.map (some b))) (hown : w.ownsMap Tryz.prog 80 R b nn D0) (hN : Maps.size D0 ≤ 1048576) :
    Calls Tryz.prog 73 #[.func (.func 75) #[] #[.pointer (some ⟨Bm, 0, none⟩)]] w fun e w' => ∃ (v : Value) (ss : List Vi), e = .returned v ∧ AllV D0 ss ∧ KOwn fV 80 w' w.heap.size v ss ∧ Below w.heap.size w w' := by
  refine (callsIn_wide (n := 6)).1 ?_
  have e75 : ∀ args w, (callFunc 75 args).run Tryz.prog w = .ok (.enter 75 args) w := enters_of Tryz.func75 (by kernel_rfl) rfl
  refine callsIn_of_wp Tryz.func73 rfl trivial ?_ rfl
  simp only [Tryz.ntmps73, List.size_toArray, List.length_cons, List.length_nil, Nat.reduceAdd, Nat.reduceSub, Array.replicate_succ, Array.replicate_zero, List.push_toArray, List.append_toArray, List.nil_append, List.cons_append]
  have hf86 : Fence.wide.fn 86 := trivial
  gi_wp2_with (gi_at_call 86; refine (vappendSeq Fence.wide 5 trivial rfl (by omega) 75 _ trivial e75 _ _ hN _ (vkeys_gives Fence.wide 4 trivial rfl (by omega) Bm b nn D0 _ hBm hm hown)).mono ?_; rintro e w' ⟨v, ss, rfl, hS, hrow, hb⟩)
  go_ret
  exact ⟨v, ss, rfl, hS, hrow, hb⟩
/-- maps.Keys(m) -/
theorem vkeys_any (mb : Option Nat) (w : World) : Calls Tryz.prog 58 #[.map mb] w fun e w' => e = .returned (.func (.func 75) #[] #[.pointer (some ⟨w.heap.size, 0, none⟩)]) ∧ w' = w.alloc (.cells #[.map mb] 75) := by
  go_enter Tryz.func58, Tryz.ntmps58
  go_wp2_with fail
  go_ret
  exact ⟨rfl, rfl⟩
end Go.Proofs.YtgblohjdiheemaaGreat

/- sites.Of and At, and the reference's Of, At and Sorted. -/
namespace Go.Proofs.YtgblohjdiheemaaGreat
open Go.RowKit

/-- the number of the first site at a place, or how many there are -/
def fstA (T : List Si) (a : Int) : Nat := T.findIdx fun s => decide (s.at_ = a)
theorem fstA_at {T : List Si} {a : Int} {k : Nat} (hk : k < T.length) (h : T[k].at_ = a) (hn : ∀ j (hj : j < T.length), j < k → T[j].at_ ≠ a) : atS T a = some k := by
  unfold atS
  rw [List.findIdx?_eq_some_iff_getElem]
  exact ⟨hk, by simpa using h, fun j hj => by simpa using hn j (by omega) hj⟩
theorem atS_none {T : List Si} {a : Int} (hn : ∀ j (hj : j < T.length), T[j].at_ ≠ a) : atS T a = none := by
  unfold atS
  rw [List.findIdx?_eq_none_iff]
  intro x hx
  obtain ⟨j, hj, rfl⟩ := List.getElem_of_mem hx
  simpa using hn j hj

def atI (r : Option Nat) : Int := match r with
  | none => -1
  | some k => k

def atR (r : Option Nat) : Value := match r with
  | none => .tuple #[.int .i64 0, .bool false]
  | some k => .tuple #[.int .i64 k, .bool true]

end Go.Proofs.YtgblohjdiheemaaGreat

/- Small tests on sites: in reach, right, ahead; their order. -/
namespace Go.Proofs.YtgblohjdiheemaaGreat
open Go.RowKit

abbrev sV (s : Si) : Value := .agg #[.int .i64 s.key, .int .i64 s.at_, .int .i64 s.to_]

/-- a site whose numbers are not great -/
def Near (s : Si) : Prop := -1000000 ≤ s.at_ ∧ s.at_ ≤ 1000000 ∧ -1000000 ≤ s.to_ ∧ s.to_ ≤ 1000000

set_option maxHeartbeats 1000000 in
theorem inReach_any (s : Si) (w : World) (h : Near s) : Calls Tryz.prog 79 #[sV s] w fun e w' => e = .returned (.bool (!farS s)) ∧ Below w.heap.size w w' := by
  obtain ⟨sk, sa, st⟩ := s
  obtain ⟨h1, h2, h3, h4⟩ := h
  dsimp only at h1 h2 h3 h4
  have e1 : IntKind.i64.wrap (sa + 5) = sa + 5 := by rw [IntKind.wrap_i64]; omega
  have e2 : IntKind.i64.wrap (st - (sa + 5)) = st - (sa + 5) := by rw [IntKind.wrap_i64]; omega
  by_cases hf : st - (sa + 5) < -4096
  · have HF : Hid ((!farS ⟨sk, sa, st⟩) = false) := by simp [Hid, farS]; omega
    rw [HF.out]
    go_enter Tryz.func79, Tryz.ntmps79
    go_wp2_with fail
    go_ret
    exact ⟨rfl, new_alloc _ _⟩
  · by_cases hg : 4096 < st - (sa + 5)
    · have HF : Hid ((!farS ⟨sk, sa, st⟩) = false) := by simp [Hid, farS]; omega
      rw [HF.out]
      go_enter Tryz.func79, Tryz.ntmps79
      go_wp2_with fail
      go_ret
      exact ⟨ret_bool (by simp; omega), new_alloc _ _⟩
    · have HF : Hid ((!farS ⟨sk, sa, st⟩) = true) := by simp [Hid, farS]; omega
      rw [HF.out]
      go_enter Tryz.func79, Tryz.ntmps79
      go_wp2_with fail
      go_ret
      exact ⟨ret_bool (by simp), new_alloc _ _⟩

def orI (x y : Int) : Int := if x ≠ 0 then x else y

set_option maxHeartbeats 1000000 in
theorem or_any (g : Nat) (x y : Int) (w : World) (c0 : w.cell? ⟨g, 0, none⟩ = some (.int .i64 x)) (c1 : w.cell? ⟨g, 1, none⟩ = some (.int .i64 y)) : Calls Tryz.prog 60 #[.slice (some ⟨g, 0, none⟩) 2 2] w fun e w' => e = .returned (.int .i64 (orI x y)) ∧ w' = w := by
  unfold orI
  by_cases h1 : x = 0
  · rw [if_neg (by simpa using h1)]
    subst h1
    by_cases h2 : y = 0
    · subst h2
      go_enter Tryz.func60, Tryz.ntmps60
      go_wp2
      refine wp_loop_rounds 3 ?_
      rw [rounds_succ]; go_wp2
      rw [rounds_succ]; go_wp2
      rw [rounds_succ]; go_wp2
      go_ret
      exact ⟨rfl, rfl⟩
    · go_enter Tryz.func60, Tryz.ntmps60
      go_wp2
      refine wp_loop_rounds 2 ?_
      rw [rounds_succ]; go_wp2
      rw [rounds_succ]; go_wp2
      go_ret
      exact ⟨rfl, rfl⟩
  · rw [if_pos h1]
    go_enter Tryz.func60, Tryz.ntmps60
    go_wp2
    refine wp_loop_rounds 1 ?_
    rw [rounds_succ]; go_wp2
    go_ret
    exact ⟨rfl, rfl⟩

/-- byKeyThenPlace's answer -/
def cmpS (s t : Si) : Int := orI (cmpI s.key t.key) (cmpI s.at_ t.at_)
theorem cmpS_lt (s t : Si) : decide (cmpS s t < 0) = ltS s t := by
  unfold cmpS ltS
  refine decide_eq_decide.2 ?_
  unfold orI cmpI
  by_cases h1 : s.key < t.key
  · rw [if_pos h1]; simp; omega
  · rw [if_neg h1]
    by_cases h2 : t.key < s.key
    · rw [if_pos h2]; simp; omega
    · rw [if_neg h2]
      by_cases h3 : s.at_ < t.at_
      · rw [if_pos h3]; simp; omega
      · rw [if_neg h3]
        by_cases h4 : t.at_ < s.at_
        · rw [if_pos h4]; simp; omega
        · rw [if_neg h4]; simp; omega

set_option maxRecDepth 4000 in
set_option maxHeartbeats 2000000 in
theorem byKey_any (s t : Si) (w : World) : Calls Tryz.prog 68 #[sV s, sV t] w fun e w' => e = .returned (.int .i64 (cmpS s t)) ∧ ∃ q os, w' = Go.Sort.grow (w.drewN q) os := by
  obtain ⟨sk, sa, st⟩ := s
  obtain ⟨tk, ta, tt⟩ := t
  have hc1 := fun W => compare_any sk tk W
  have hc2 := fun W => compare_any sa ta W
  have HC : Hid (cmpS ⟨sk, sa, st⟩ ⟨tk, ta, tt⟩ = orI (cmpI sk tk) (cmpI sa ta)) := rfl
  rw [HC.out]
  generalize cmpI sk tk = x at *
  generalize cmpI sa ta = y at *
  clear HC
  have hor := fun g W c0 c1 => or_any g x y W c0 c1
  generalize orI x y = r at *
  have HZ0 : Hid (∀ A B : Obj, ((((w.alloc A).alloc B).alloc (.cells #[.int .i64 x, .int .i64 y] 3)).drew).cell? ⟨w.heap.size + 1 + 1, 0, none⟩ = some (.int .i64 x)) := fun A B => by
    have h := (Blk.new ((w.alloc A).alloc B) 3 #[.int .i64 x, .int .i64 y]).cell 0
    rw [size_one, size_one] at h
    exact h
  have HZ1 : Hid (∀ A B : Obj, ((((w.alloc A).alloc B).alloc (.cells #[.int .i64 x, .int .i64 y] 3)).drew).cell? ⟨w.heap.size + 1 + 1, 1, none⟩ = some (.int .i64 y)) := fun A B => by
    have h := (Blk.new ((w.alloc A).alloc B) 3 #[.int .i64 x, .int .i64 y]).cell 1
    rw [size_one, size_one] at h
    exact h
  go_enter Tryz.func68, Tryz.ntmps68
  go_wp2_with fail
  go_region_law (first
    | (go_simp; go_at_call 61; first
      | ((with_reducible refine (hc1 _).mono ?_); rintro e w1 ⟨rfl, rfl⟩)
      | ((with_reducible refine (hc2 _).mono ?_); rintro e w1 ⟨rfl, rfl⟩))
    | (go_simp; go_at_call 60; (with_reducible refine (hor _ _ (HZ0.out _ _) (HZ1.out _ _)).mono ?_); rintro e w1 ⟨rfl, rfl⟩))
  all_goals
    go_wp2
    go_ret
    exact ⟨rfl, 1, _, by rw [Go.Sort.alloc_eq_grow, Go.Sort.alloc_eq_grow, Go.Sort.alloc_eq_grow, Go.Sort.grow_grow, Go.Sort.grow_grow]; rfl⟩

theorem grow_below (w : World) (q : Nat) (os : Array Obj) : Below w.heap.size w (Go.Sort.grow (w.drewN q) os) :=
  ⟨rfl, rfl, rfl, by simp [Go.Sort.grow, World.drewN], fun k hk => by simp [Go.Sort.grow, World.drewN, Array.getElem?_append_left hk]⟩

end Go.Proofs.YtgblohjdiheemaaGreat

/-
  DERIVED: THE SHELF's CONTRACTS AT THIS DUMP, IN PLAIN WORDS (tools/lay-plain.mjs out of 'TryzShelfVTmp.lean', which tools/lay-shelf.mjs wrote): THE SAME DECLARATIONS UNDER THE SAME NAMES: 'import', 'namespace', 'open', 'def', 'theorem' AND NOTHING ELSE: no command of the shelf's: FOR A HAND-IN. Each laying: the table of numbers ('.._ren') and one theorem, a field a fact of the dump's own or the kernel's comparison; each contract: ONE APPLICATION.
-/
namespace Go.Proofs
open Go.Shelf
def Tryz.laysSortVisit_ren : Go.Shelf.Ren := ⟨fun | 6 => 74 | 15 => 88 | 14 => 87 | 28 => 105 | 29 => 106 | 20 => 97 | 21 => 98 | 22 => 99 | 23 => 100 | 24 => 101 | 25 => 102 | 26 => 103 | 27 => 104 | 46 => 124 | 47 => 125 | 48 => 126 | 49 => 127 | 50 => 128 | 57 => 132 | n => n, fun | 22 => 101 | 24 => 80 | 25 => 107 | 3 => 3 | 39 => 137 | 0 => 0 | 53 => 87 | 55 => 165 | 4 => 4 | 46 => 158 | 45 => 157 | 50 => 78 | 5 => 5 | 9 => 9 | 66 => 178 | 70 => 182 | 76 => 186 | 77 => 41 | n => n, fun | n => n⟩
theorem Tryz.laysSortVisit : Go.Proofs.SlLaysF0.n6 Tryz.prog Tryz.laysSortVisit_ren := {
  mixed := by kernel_rfl
  f6 := ⟨Tryz.f74.name, by decide, Tryz.func74.trans (congrArg some (by kernel_rfl))⟩
  f14 := ⟨Tryz.f87.name, by decide, Tryz.func87.trans (congrArg some (by kernel_rfl))⟩
  f15 := Tryz.func88.trans (congrArg some (by kernel_rfl))
  f20 := ⟨Tryz.f97.name, by decide, Tryz.func97.trans (congrArg some (by kernel_rfl))⟩
  f21 := ⟨Tryz.f98.name, by decide, Tryz.func98.trans (congrArg some (by kernel_rfl))⟩
  f22 := ⟨Tryz.f99.name, by decide, Tryz.func99.trans (congrArg some (by kernel_rfl))⟩
  f23 := ⟨Tryz.f100.name, by decide, Tryz.func100.trans (congrArg some (by kernel_rfl))⟩
  f24 := ⟨Tryz.f101.name, by decide, Tryz.func101.trans (congrArg some (by kernel_rfl))⟩
  f25 := ⟨Tryz.f102.name, by decide, Tryz.func102.trans (congrArg some (by kernel_rfl))⟩
  f26 := ⟨Tryz.f103.name, by decide, Tryz.func103.trans (congrArg some (by kernel_rfl))⟩
  f27 := ⟨Tryz.f104.name, by decide, Tryz.func104.trans (congrArg some (by kernel_rfl))⟩
  f28 := Tryz.func105.trans (congrArg some (by kernel_rfl))
  f29 := Tryz.func106.trans (congrArg some (by kernel_rfl))
  f46 := ⟨Tryz.f124.name, by decide, Tryz.func124.trans (congrArg some (by kernel_rfl))⟩
  f47 := Tryz.func125.trans (congrArg some (by kernel_rfl))
  f48 := Tryz.func126.trans (congrArg some (by kernel_rfl))
  f49 := ⟨Tryz.f127.name, by decide, Tryz.func127.trans (congrArg some (by kernel_rfl))⟩
  f50 := ⟨Tryz.f128.name, by decide, Tryz.func128.trans (congrArg some (by kernel_rfl))⟩
  f57 := ⟨Tryz.f132.name, by decide, Tryz.func132.trans (congrArg some (by kernel_rfl))⟩
  t0 := Tryz.underlying0
  a0 := Tryz.isAgg0
  z0 := Tryz.sizeOf0
  v0 := Tryz.zeroValue0
  t3 := Tryz.underlying3
  a3 := Tryz.isAgg3
  z3 := Tryz.sizeOf3
  v3 := Tryz.zeroValue3
  t4 := Tryz.underlying4
  a4 := Tryz.isAgg4
  z4 := Tryz.sizeOf4
  v4 := Tryz.zeroValue4
  t5 := Tryz.underlying5
  a5 := Tryz.isAgg5
  z5 := Tryz.sizeOf5
  v5 := Tryz.zeroValue5
  t9 := Tryz.underlying9
  a9 := Tryz.isAgg9
  z9 := Tryz.sizeOf9
  v9 := Tryz.zeroValue9
  t22 := Tryz.underlying101
  a22 := Tryz.isAgg101
  z22 := Tryz.sizeOf101
  v22 := Tryz.zeroValue101
  t25 := Tryz.underlying107
  a25 := Tryz.isAgg107
  z25 := Tryz.sizeOf107
  v25 := Tryz.zeroValue107
  t39 := Tryz.underlying137
  a39 := Tryz.isAgg137
  z39 := Tryz.sizeOf137
  v39 := Tryz.zeroValue137
  t45 := Tryz.underlying157
  a45 := Tryz.isAgg157
  z45 := Tryz.sizeOf157
  v45 := Tryz.zeroValue157
  t46 := Tryz.underlying158
  a46 := Tryz.isAgg158
  z46 := Tryz.sizeOf158
  v46 := Tryz.zeroValue158
  t50 := Tryz.underlying78
  a50 := Tryz.isAgg78
  z50 := Tryz.sizeOf78
  v50 := Tryz.zeroValue78
  t53 := Tryz.underlying87
  a53 := Tryz.isAgg87
  z53 := Tryz.sizeOf87
  v53 := Tryz.zeroValue87
  t55 := Tryz.underlying165
  a55 := Tryz.isAgg165
  z55 := Tryz.sizeOf165
  v55 := Tryz.zeroValue165
  t66 := Tryz.underlying178
  a66 := Tryz.isAgg178
  z66 := Tryz.sizeOf178
  v66 := Tryz.zeroValue178
  t70 := Tryz.underlying182
  a70 := Tryz.isAgg182
  z70 := Tryz.sizeOf182
  v70 := Tryz.zeroValue182
  t76 := Tryz.underlying186
  a76 := Tryz.isAgg186
  z76 := Tryz.sizeOf186
  v76 := Tryz.zeroValue186
  t77 := Tryz.underlying41
  a77 := Tryz.isAgg41
  z77 := Tryz.sizeOf41
  v77 := Tryz.zeroValue41 }
end Go.Proofs
