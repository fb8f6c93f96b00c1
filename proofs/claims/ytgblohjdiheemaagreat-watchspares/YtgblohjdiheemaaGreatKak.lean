/- Texts put together: VisS, WatE, KitW. -/
import Derived.Test.YtgblohjdiheemaaGreatKaj
import Derived.Test.YtgblohjdiheemaaGreatKai
import Derived.BigQuiet
import Derived.Deep.QuietTactic

/- Ours: slices.SortFunc, slices.SortedFunc of visits; watch.inOrder's order. -/
namespace Go.Proofs.YtgblohjdiheemaaGreat
open Go.RowKit Go.Sort Go.Shelf

instance : Inhabited Vi := ⟨⟨0, 0⟩⟩
def ltV (a b : Vi) : Bool := decide (a.h < b.h ∨ (a.h = b.h ∧ a.s < b.s))
theorem ltV_irrefl (a : Vi) : ltV a a = false := by unfold ltV; simp
theorem ltV_trans {a b c : Vi} (h1 : ltV a b = true) (h2 : ltV b c = true) : ltV a c = true := by
  unfold ltV at *
  simp only [decide_eq_true_eq] at *
  omega
def cmpV (s t : Vi) : Int := orI (cmpI s.h t.h) (cmpI s.s t.s)
theorem cmpV_lt (s t : Vi) : decide (cmpV s t < 0) = ltV s t := by
  have := cmpS_lt ⟨s.h, s.s, 0⟩ ⟨t.h, t.s, 0⟩
  exact this
theorem ltOf_cmpV (s t : Vi) : ltOf cmpV s t = ltV s t := cmpV_lt s t
theorem swoV : SWO (ltOf cmpV) where
  irrefl x := by rw [ltOf_cmpV]; exact ltV_irrefl x
  trans x y z h1 h2 := by rw [ltOf_cmpV] at *; exact ltV_trans h1 h2
  ntrans x y z h1 h2 := by
    rw [ltOf_cmpV] at *
    unfold ltV at *
    simp only [decide_eq_false_iff_not] at *
    omega
set_option maxRecDepth 4000 in
set_option maxHeartbeats 2000000 in
theorem byVisit_any (s t : Vi) (w : World) : Calls Tryz.prog 59 #[.agg #[.int .i64 s.h, .int .i64 s.s], .agg #[.int .i64 t.h, .int .i64 t.s]] w fun e w' => e = .returned (.int .i64 (cmpV s t)) ∧ ∃ q os, w' = Go.Sort.grow (w.drewN q) os := by
  obtain ⟨sk, sa⟩ := s
  obtain ⟨tk, ta⟩ := t
  have hc1 := fun W => compare_any sk tk W
  have hc2 := fun W => compare_any sa ta W
  have HC : Hid (cmpV ⟨sk, sa⟩ ⟨tk, ta⟩ = orI (cmpI sk tk) (cmpI sa ta)) := rfl
  rw [HC.out]
  generalize cmpI sk tk = x at *
  generalize cmpI sa ta = y at *
  clear HC
  have hor := fun g W c0 c1 => or_any g x y W c0 c1
  generalize orI x y = r at *
  have HZ0 : Hid (∀ A B : Obj, ((((w.alloc A).alloc B).alloc (.cells #[.int .i64 x, .int .i64 y] 3)).drew).cell? ⟨w.heap.size + 1 + 1, 0, none⟩ = some (.int .i64 x)) := fun A B => by
    have h := (Blk.new ((w.alloc A).alloc B) 3 #[.int .i64 x, .int .i64 y]).cell 0
    rw [size_one, size_one] at h
    exact h
  have HZ1 : Hid (∀ A B : Obj, ((((w.alloc A).alloc B).alloc (.cells #[.int .i64 x, .int .i64 y] 3)).drew).cell? ⟨w.heap.size + 1 + 1, 1, none⟩ = some (.int .i64 y)) := fun A B => by
    have h := (Blk.new ((w.alloc A).alloc B) 3 #[.int .i64 x, .int .i64 y]).cell 1
    rw [size_one, size_one] at h
    exact h
  go_enter Tryz.func59, Tryz.ntmps59
  go_wp2_with fail
  go_region_law (first
    | (go_simp; go_at_call 61; first
      | ((with_reducible refine (hc1 _).mono ?_); rintro e w1 ⟨rfl, rfl⟩)
      | ((with_reducible refine (hc2 _).mono ?_); rintro e w1 ⟨rfl, rfl⟩))
    | (go_simp; go_at_call 60; (with_reducible refine (hor _ _ (HZ0.out _ _) (HZ1.out _ _)).mono ?_); rintro e w1 ⟨rfl, rfl⟩))
  all_goals
    go_wp2
    go_ret
    exact ⟨rfl, 1, _, by rw [Go.Sort.alloc_eq_grow, Go.Sort.alloc_eq_grow, Go.Sort.alloc_eq_grow, Go.Sort.grow_grow, Go.Sort.grow_grow]; rfl⟩
theorem cmpLaysV (blk off size : Nat) (w : World) : CmpLays Tryz.prog 59 #[] fV.f 2 cmpV blk off size w := fun _ _ _ _ x y => byVisit_any x y _

theorem block_sorted {w : World} {g n : Nat} {T : TypeId} {fr : Nat × Nat} {cur F : Array Value} {os : Array Obj} (hb : w.heap[g]? = some (.cells cur T fr)) :
    (grow (putRow id (Sort.ahead w n) g 0 F) os).heap[g]? = some (.cells (putCells id 0 F cur) T fr) := by
  have h1 : (putRow id (Sort.ahead w n) g 0 F).heap[g]? = some (.cells (putCells id 0 F cur) T fr) := by
    unfold putRow mapBlock
    simp [Array.getElem?_modify, Sort.ahead, hb, onCells]
  exact (heap_grow_old _ os (Array.getElem?_eq_some_iff.1 h1).1).trans h1

theorem vsort_own (B g cap : Nat) (T : List Vi) (w : World) (ho : KOwn fV 80 w B (.slice (some ⟨g, 0, none⟩) T.length cap) T) (hl : T.length ≤ 140737488355328) :
    Calls Tryz.prog 74 #[.slice (some ⟨g, 0, none⟩) T.length cap, .func (Fn.func 59) #[] #[]] w fun e w' => e = .returned (.tuple #[]) ∧ ∃ T' : List Vi, T'.Perm T ∧ T'.Pairwise (fun a b => ltV b a = false) ∧ KOwn fV 80 w' B (.slice (some ⟨g, 0, none⟩) T.length cap) T' ∧ Keeps (fun j => j = g) w w' := by
  rcases ho.2 with ⟨e1, _⟩ | ⟨g', cap', cur, e1, e2, e3, e4, e5, e6, e7⟩
  · cases e1
  injection e1 with e1 _ e1'
  injection e1 with e1
  injection e1 with e1
  subst e1 e1'
  have e7 : cur.toList.take (T.length * 2) = fV.cs T := e7
  have hlt := (Array.getElem?_eq_some_iff.1 e3).1
  have hcell : ∀ j, j < T.length * 2 → w.cell? ⟨g, j, none⟩ = (fV.cs T)[j]? := fun j hj => by
    have h1 : w.cell? ⟨g, j, none⟩ = cur[j]? := by simp [World.cell?, e3]
    rw [h1, ← e7, List.getElem?_take_of_lt hj, Array.getElem?_toList]
  have hH : HoldsK fV.f 2 w g 0 T.toArray := by
    intro j hj
    have hj' : j < T.length * 2 := by simpa using hj
    rw [Nat.zero_add, hcell j hj']
    refine ⟨?_, by simp [World.frozen?, e3]⟩
    have hdm := Nat.div_add_mod j 2
    have hm := Nat.mod_lt j (show 0 < 2 by decide)
    have hd : j / 2 < T.length := by omega
    have h3 := fV.cs_at T (j / 2) hd (j % 2) hm
    rw [show j / 2 * fV.k + j % 2 = j by show j / 2 * 2 + j % 2 = j; omega] at h3
    rw [h3, id, get_flatK _ _ _ _ (by simpa using hj')]
    rw [getElem!_pos T.toArray (j / 2) (by simpa using hd)]
    simp only [List.getElem_toArray]
    have hle : (fV.f T[j / 2]).length = 2 := rfl
    rw [getElem!_pos _ _ (by rw [hle]; exact hm)]
    exact (List.getElem?_eq_getElem (by rw [hle]; exact hm) : (fV.f T[j / 2])[j % 2]? = _)
  have eg : ∀ args w, (callFunc 59 args).run Tryz.prog w = .ok (.enter 59 args) w := enters_of Tryz.func59 (by kernel_rfl) rfl
  have hcon := AnyQ.slices_SortFunc Tryz.laysSortVisit 2 Tryz.isAgg80 Tryz.sizeOf80 fV.f (fun _ => rfl) (fun x v hv => fV.one x v hv) cmpV swoV 59 #[] g 0 cap T.toArray w eg (cmpLaysV g 0 _ w) hH hlt (by simp; omega)
  change Calls Tryz.prog 74 _ _ _ at hcon
  simp only [List.size_toArray] at hcon
  refine hcon.mono ?_
  rintro e w' ⟨rfl, d', n, os, hp, hs, hw⟩
  have hsz : d'.size = T.length := by simpa using hp.1
  have hH2 : HoldsK fV.f 2 w' g 0 d' := by rw [hw]; exact holdsK_sortWorldK_c fV.f 2 w g 0 T.toArray d' n os hH hlt (by simpa using hsz)
  have hb2 : w'.heap[g]? = some (.cells (putCells id 0 (flatK fV.f 2 d') cur) 80 (0, 0)) := by rw [hw]; exact block_sorted e3
  refine ⟨rfl, d'.toList, ?_, ?_, ⟨by rw [fV.cs_len], .inr ⟨g, cap, _, by simp [hsz], e2, hb2, by simpa [hsz] using e4, e5, by simpa [putCells] using e6, ?_⟩⟩, ?_⟩
  · have := hp.2.2
    simp at this
    rwa [List.take_of_length_le (by simp [hsz])] at this
  · rw [List.pairwise_iff_getElem]
    intro i j hi hj hij
    simp at hi hj
    have h := hs i j (Nat.zero_le _) hij (by omega)
    rw [ltOf_cmpV, getElem!_pos d' j hj, getElem!_pos d' i hi] at h
    simpa using h
  · apply List.ext_getElem?
    intro j
    by_cases hj : j < d'.size * 2
    · rw [Array.length_toList]
      show (List.take (d'.size * 2) _)[j]? = _
      rw [List.getElem?_take_of_lt hj, Array.getElem?_toList]
      have h1 : w'.cell? ⟨g, j, none⟩ = (putCells id 0 (flatK fV.f 2 d') cur)[j]? := by simp [World.cell?, hb2]
      rw [← h1]
      have h2 := (hH2 j (by simpa using hj)).1
      rw [Nat.zero_add] at h2
      rw [h2, id, get_flatK _ _ _ _ hj]
      have hdm := Nat.div_add_mod j 2
      have hm := Nat.mod_lt j (show 0 < 2 by decide)
      have hd : j / 2 < d'.size := by omega
      have h3 := fV.cs_at d'.toList (j / 2) (by simpa using hd) (j % 2) hm
      rw [show j / 2 * fV.k + j % 2 = j by show j / 2 * 2 + j % 2 = j; omega] at h3
      rw [h3, getElem!_pos d' (j / 2) hd]
      simp only [Array.getElem_toList]
      have hle : (fV.f d'[j / 2]).length = 2 := rfl
      rw [getElem!_pos _ _ (by rw [hle]; exact hm), ← List.getElem?_eq_getElem (by rw [hle]; exact hm)]
    · have h2 : d'.toList.length * fV.k ≤ j := by show d'.toList.length * 2 ≤ j; rw [Array.length_toList]; omega
      rw [List.getElem?_eq_none (by rw [List.length_take]; exact Nat.le_trans (Nat.min_le_left _ _) h2), List.getElem?_eq_none (by rw [fV.cs_len]; exact h2)]
  · rw [hw]
    refine ⟨rfl, rfl, rfl, size_sortWorldK_c fV.f 2 w g 0 n d' os, fun j hj hn => ?_⟩
    unfold sortWorldK putRowK
    refine (heap_grow_old _ os (by simpa [putRow, mapBlock, Sort.ahead] using hj)).trans ?_
    simp [putRow, mapBlock, Array.getElem?_modify, Sort.ahead, Ne.symm hn]
theorem vsort_any (B : Nat) (v : Value) (T : List Vi) (w : World) (ho : KOwn fV 80 w B v T) (hl : T.length ≤ 140737488355328) :
    Calls Tryz.prog 74 #[v, .func (Fn.func 59) #[] #[]] w fun e w' => e = .returned (.tuple #[]) ∧ ∃ T' : List Vi, T'.Perm T ∧ T'.Pairwise (fun a b => ltV b a = false) ∧ KOwn fV 80 w' B v T' ∧ Keeps (fun j => v.ownBlock = some j) w w' := by
  rcases ho.2 with ⟨e1, e2⟩ | ⟨g, cap, cur, e1, e2, e3, e4, e5, e6, e7⟩
  · have hz : T = [] := by simpa using e2
    subst hz e1
    have hcon := AnyF.slices_SortFunc_none Tryz.laysSortVisit none 0 (.func (Fn.func 59) #[] #[]) w
    change Calls Tryz.prog 74 _ _ _ at hcon
    refine hcon.mono ?_
    rintro e w' ⟨rfl, rfl⟩
    exact ⟨rfl, [], .refl _, .nil, ho, Keeps.refl _ _⟩
  · subst e1
    refine (vsort_own B g cap T w ho hl).mono ?_
    rintro e w' ⟨rfl, T', h1, h2, h3, h4⟩
    exact ⟨rfl, T', h1, h2, h3, h4.wider (fun j hj => by rw [hj]; rfl)⟩
/-- slices.SortedFunc(maps.Keys(m)'s value, by hart and site) -/
theorem vsorted_any (Bm b nn : Nat) {R : Value → Option (DataW Unit × List MemPlace)} (D0 : DataW Unit) (w : World) (hBm : Bm < w.heap.size) (hm : w.cell? ⟨Bm, 0, none⟩ = some (.map (some b))) (hown : w.ownsMap Tryz.prog 80 R b nn D0) (hN : Maps.size D0 ≤ 1048576) :
    Calls Tryz.prog 57 #[.func (.func 75) #[] #[.pointer (some ⟨Bm, 0, none⟩)], .func (Fn.func 59) #[] #[]] w fun e w' => ∃ (v : Value) (ss : List Vi), e = .returned v ∧ AllV D0 ss ∧ ss.Pairwise (fun a b => ltV b a = false) ∧ KOwn fV 80 w' w.heap.size v ss ∧ Below w.heap.size w w' := by
  have hc := vcollect Bm b nn D0 w hBm hm hown hN
  go_enter Tryz.func57, Tryz.ntmps57
  go_wp2_with (go_at_call 73; refine Hid.out ?_)
  refine Lib.hid ?_
  (with_reducible refine hc.mono ?_)
  rintro e w1 ⟨v, ss, rfl, hS, hrow, hb⟩
  have hlen : ss.length ≤ 140737488355328 := by have := hS.2.2.2; omega
  have HS := Hid.in hS
  have HB := Hid.in hb
  have hs := vsort_any w.heap.size v ss w1 hrow hlen
  obtain ⟨pv, cv, ev, -, -, -⟩ := hrow.shape
  subst ev
  clear hS hb hc hlen
  go_wp2_with (go_at_call 74; refine Hid.out ?_)
  refine Lib.hid ?_
  (with_reducible refine hs.mono ?_)
  rintro e w2 ⟨rfl, T', h1, h2, h3, h4⟩
  have H3 := Hid.in h3
  have H1 := Hid.in h1
  have H4 := Hid.in h4
  have H2 := Hid.in h2
  clear h1 h2 h3 h4 hs
  go_wp2_with fail
  go_ret
  have hl : T'.length = ss.length := H1.out.length_eq
  refine ⟨_, T', rfl, ⟨(H1.out.nodup_iff).2 HS.out.1, fun x hx => HS.out.2.1 x (H1.out.mem_iff.1 hx), fun x hx => by rw [H1.out.mem_iff]; exact HS.out.2.2.1 x hx, by rw [hl]; exact HS.out.2.2.2⟩, H2.out, H3.out, ?_⟩
  refine HB.out.trans (H4.out.below HB.out.size (fun j e => ?_))
  exact (hrow.ownB e).1
end Go.Proofs.YtgblohjdiheemaaGreat

/- Ours: watch.inOrder. -/
namespace Go.Proofs.YtgblohjdiheemaaGreat
open Go.RowKit Go.Maps

/-- how a view is told as cells -/
def fW : Fm Vw where
  k := 5
  f := fun x => [.int .i64 x.h, .int .i64 x.s, .int .i64 x.o, .int .i64 x.n, .bool x.m]
  pos := by decide
  len := fun _ => rfl
  one := fun x u hu => by
    simp only [List.mem_cons, List.not_mem_nil, or_false] at hu
    rcases hu with rfl | rfl | rfl | rfl | rfl <;> rfl
theorem elemW : ElemK fW 36 39 40 := ⟨Tryz.underlying36, .agg #[.int .i64 0, .int .i64 0, .int .i64 0, .int .i64 0, .bool false], rfl, by kernel_rfl⟩
/-- whose a view is -/
def whoV (f : Vi → Option Vw) (k : Vi) : Vw := { (f k).getD ⟨0, 0, 0, 0, false⟩ with h := k.h, s := k.s }
theorem AllV.mem {D : DataW Unit} {f : Vi → Option Vw} {ss : List Vi} (h : AllV D ss) (hD : MapD mV D f) (x : Vi) : x ∈ ss ↔ viOk x ∧ (f x).isSome = true := by
  constructor
  · intro hx
    have ok := h.2.1 x hx
    refine ⟨ok, ?_⟩
    rw [← (hD x ok).1]
    exact (h.2.2.1 x ok).1 hx
  · rintro ⟨ok, hf⟩
    refine (h.2.2.1 x ok).2 ?_
    have := (hD x ok).1
    rw [hf] at this
    exact this
theorem sorted_strict {ss : List Vi} (h : ss.Nodup) (hs : ss.Pairwise fun a b => ltV b a = false) : ss.Pairwise fun a b => ltV a b = true := by
  refine (h.and hs).imp fun {a b} hh => ?_
  obtain ⟨hne, h2⟩ := hh
  unfold ltV at *
  simp only [decide_eq_false_iff_not] at h2
  simp only [decide_eq_true_eq]
  have : ¬ (a.h = b.h ∧ a.s = b.s) := fun ⟨e1, e2⟩ => hne (by cases a; cases b; simp_all)
  omega
set_option maxRecDepth 8000 in
set_option maxHeartbeats 4000000 in
theorem inOrder_any (b n : Nat) (f : Vi → Option Vw) (w : World) (hm : MapK mV w b n f) (hn : n ≤ 1048000) :
    Calls Tryz.prog 37 #[.map (some b)] w fun e w' => ∃ (v : Value) (ss : List Vi), e = .returned v ∧ ss.Pairwise (fun a b => ltV a b = true) ∧ (∀ x, x ∈ ss ↔ viOk x ∧ (f x).isSome = true) ∧ KOwn fW 39 w' w.heap.size v (ss.map (whoV f)) ∧ Below w.heap.size w w' := by
  obtain ⟨D, hD1, hD2⟩ := hm
  have HM : Hid (MapK mV w b n f) := ⟨D, hD1, hD2⟩
  have hk := vkeys_any (some b) w
  have HB0 := Hid.in (new_alloc w (.cells #[.map (some b)] 75))
  have hbox : (w.alloc (.cells #[.map (some b)] 75)).cell? ⟨w.heap.size, 0, none⟩ = some (.map (some b)) := (Blk.new w 75 #[.map (some b)]).cell 0
  have hsz : w.heap.size < (w.alloc (.cells #[.map (some b)] 75)).heap.size := by rw [size_one]; omega
  have hown : (w.alloc (.cells #[.map (some b)] 75)).ownsMap Tryz.prog 80 vwR b n D := hD1.alloc _
  have hs := vsorted_any w.heap.size b n D (w.alloc (.cells #[.map (some b)] 75)) hsz hbox hown (Nat.le_trans hD1.size_le (by omega))
  clear hbox hsz hown
  generalize w.alloc (.cells #[.map (some b)] 75) = w0 at *
  go_enter Tryz.func37, Tryz.ntmps37
  go_wp2_with (go_at_call 58; refine Hid.out ?_)
  refine Lib.hid ?_
  (with_reducible refine hk.mono ?_)
  rintro e w1 ⟨rfl, rfl⟩
  clear hk
  go_wp2_with (go_at_call 57; refine Hid.out ?_)
  refine Lib.hid ?_
  (with_reducible refine hs.mono ?_)
  rintro e w2 ⟨v, ss, rfl, hA, hp, ho, hb⟩
  have HS := Hid.in (sorted_strict hA.1 hp)
  have HMem := Hid.in (fun x => hA.mem hD2 x)
  have HLen : Hid (ss.length ≤ 1048000) := Nat.le_trans hA.2.2.2 (Nat.le_trans hD1.size_le hn)
  have HOk := Hid.in hA.2.1
  have HB2 := Hid.in (below_step HB0.out hb)
  obtain ⟨p, c, ev, -, -, hr⟩ := ho.row
  subst ev
  have HR := Hid.in hr
  have HM2 := Hid.in (HM.out.below HB2.out)
  have HZ2 := Hid.in HB2.out.size
  clear hA hp ho hb hs hr hD1 hD2 HB0
  go_wp2_with fail
  go_loopw [4, 13] (fun v vi wr => ∃ j : Nat, vi = .int .i64 j ∧ j ≤ ss.length ∧ KOwn fW 39 wr w2.heap.size v ((ss.take j).map (whoV f)) ∧ Below w2.heap.size w2 wr) (fun _ vi _ => ss.length - (intOf vi).toNat)
  case atStart => exact ⟨0, rfl, Nat.zero_le _, KOwn.nil _ _ _ _, Below.refl _ _⟩
  case round =>
    obtain ⟨j, rfl, hj, hO, hB⟩ := hrel
    have HO := Hid.in hO
    have HB := Hid.in hB
    clear hO hB
    by_cases hlt : j < ss.length
    · have HRr : Hid (KRow fV wr p ss) := HR.out.below HB.out
      obtain ⟨gb, go, rfl, hc⟩ := HRr.out (by omega)
      have c0 : wr.cell? ⟨gb, go + j * 2, none⟩ = some (.int .i64 ss[j].h) := hc j hlt 0 (by decide)
      have c1 : wr.cell? ⟨gb, go + j * 2 + 1, none⟩ = some (.int .i64 ss[j].s) := hc j hlt 1 (by decide)
      have hok := HOk.out _ (List.getElem_mem hlt)
      have HT : Hid ((ss.take (j + 1)).map (whoV f) = (ss.take j).map (whoV f) ++ [whoV f ss[j]]) := by show _ = _; rw [List.take_succ_eq_append_getElem hlt, List.map_append]; rfl
      have HL : Hid (((ss.take j).map (whoV f)).length ≤ 1048576) := by show _ ≤ _; rw [List.length_map, List.length_take]; have := HLen.out; omega
      generalize (ss.take j).map (whoV f) = A at *
      generalize ss[j] = x at *
      have hlook := fun W hW => ((HM2.out.below HB.out).look x hok W hW).2
      have g1 : decide ((j : Int) < (ss.length : Int)) = true := decide_eq_true (by omega)
      have w3 : IntKind.i64.wrap ((j : Int) + 1) = (j : Int) + 1 := by rw [IntKind.wrap_i64]; have := HLen.out; omega
      have HWho : Hid (whoV f x = { (f x).getD ⟨0, 0, 0, 0, false⟩ with h := x.h, s := x.s }) := rfl
      have hZ : mV.zero = ⟨0, 0, 0, 0, false⟩ := rfl
      rw [hZ] at hlook
      generalize (f x).getD ⟨0, 0, 0, 0, false⟩ = u at *
      obtain ⟨xh, xs⟩ := x
      obtain ⟨uh, us, uo, un, um⟩ := u
      dsimp only at *
      have hb1 := new_alloc wr (.cells #[.int .i64 xh, .int .i64 xs] 80)
      have hlk : (Instr.lookup 75 (.map (some b)) (.agg #[.int .i64 xh, .int .i64 xs]) false).run Tryz.prog (wr.alloc (.cells #[.int .i64 xh, .int .i64 xs] 80)) = .ok (.agg #[.int .i64 uh, .int .i64 us, .int .i64 uo, .int .i64 un, .bool um]) (wr.alloc (.cells #[.int .i64 xh, .int .i64 xs] 80)) := hlook _ (hb1.block b (HM2.out.below HB.out).lt)
      have HB1 := Hid.in (below_step HB.out hb1)
      have HO1 := Hid.in (HO.out.below hb1)
      have HV1 := Hid.in (Blk.new wr 80 #[.int .i64 xh, .int .i64 xs])
      obtain ⟨pv, cv, ev, -⟩ := HO.out.shape
      subst ev
      have HOlt : Hid (∀ k, (Value.slice pv A.length cv).ownBlock = some k → k < wr.heap.size) := fun k e => (World.ownsRow.lt HO.out k e).2
      clear hc HRr hlook hZ hok hb1
      go_upto_region 6 with fail
      have hZ1 : (wr.alloc (.cells #[.int .i64 xh, .int .i64 xs] 80)).heap.size = wr.heap.size + 1 := size_one _ _
      generalize wr.alloc (.cells #[.int .i64 xh, .int .i64 xs] 80) = wa at *
      have e0 : wa.cell? ⟨wr.heap.size, 0, none⟩ = some (.int .i64 xh) := HV1.out.cell 0
      have e1 : wa.cell? ⟨wr.heap.size, 1, none⟩ = some (.int .i64 xs) := HV1.out.cell 1
      have HB2' := Hid.in (below_alloc HB1.out (.cells #[.int .i64 uh, .int .i64 us, .int .i64 uo, .int .i64 un, .bool um] 39))
      have HO2 := Hid.in (HO1.out.alloc (.cells #[.int .i64 uh, .int .i64 us, .int .i64 uo, .int .i64 un, .bool um] 39))
      have HV2 := Hid.in (HV1.out.grow (new_alloc wa (.cells #[.int .i64 uh, .int .i64 us, .int .i64 uo, .int .i64 un, .bool um] 39)))
      have HU2 := Hid.in (Blk.new wa 39 #[.int .i64 uh, .int .i64 us, .int .i64 uo, .int .i64 un, .bool um])
      go_upto_region 7 with fail
      clear hlk e0 e1
      have hZ2 : (wa.alloc (.cells #[.int .i64 uh, .int .i64 us, .int .i64 uo, .int .i64 un, .bool um] 39)).heap.size = wr.heap.size + 2 := by rw [size_one, hZ1]
      generalize wa.alloc (.cells #[.int .i64 uh, .int .i64 us, .int .i64 uo, .int .i64 un, .bool um] 39) = wb at *
      rw [hZ1] at HU2
      clear hZ1 HV1 HO1 HB1
      have e0 : wb.cell? ⟨wr.heap.size, 0, none⟩ = some (.int .i64 xh) := HV2.out.cell 0
      have e1 : wb.cell? ⟨wr.heap.size, 1, none⟩ = some (.int .i64 xs) := HV2.out.cell 1
      have f0 : wb.frozen? ⟨wr.heap.size + 1, 0, none⟩ = false := HU2.out.free 0
      have f1 : wb.frozen? ⟨wr.heap.size + 1, 1, none⟩ = false := HU2.out.free 1
      have g0 : wb.cell? ⟨wr.heap.size + 1, 0, none⟩ = some (.int .i64 uh) := HU2.out.cell 0
      have g2 : wb.cell? ⟨wr.heap.size + 1, 1, none⟩ = some (.int .i64 us) := HU2.out.cell 1
      have HSt : Hid (∀ (W : World) (i : Nat) (v : Value), (W.cell? ⟨wr.heap.size, 0, none⟩ = some (.int .i64 xh) ∧ W.cell? ⟨wr.heap.size, 1, none⟩ = some (.int .i64 xs) ∧ W.frozen? ⟨wr.heap.size + 1, 0, none⟩ = false ∧ W.frozen? ⟨wr.heap.size + 1, 1, none⟩ = false) → ((W.setCell ⟨wr.heap.size + 1, i, none⟩ v).cell? ⟨wr.heap.size, 0, none⟩ = some (.int .i64 xh) ∧ (W.setCell ⟨wr.heap.size + 1, i, none⟩ v).cell? ⟨wr.heap.size, 1, none⟩ = some (.int .i64 xs) ∧ (W.setCell ⟨wr.heap.size + 1, i, none⟩ v).frozen? ⟨wr.heap.size + 1, 0, none⟩ = false ∧ (W.setCell ⟨wr.heap.size + 1, i, none⟩ v).frozen? ⟨wr.heap.size + 1, 1, none⟩ = false)) := by
        intro W i v ⟨a0, a1, a2, a3⟩
        have hb : (W.setCell ⟨wr.heap.size + 1, i, none⟩ v).heap[wr.heap.size]? = W.heap[wr.heap.size]? := heap_setCell_other W ⟨wr.heap.size + 1, i, none⟩ wr.heap.size v (by show wr.heap.size ≠ wr.heap.size + 1; omega)
        refine ⟨?_, ?_, ?_, ?_⟩
        · rw [← a0]; unfold World.cell?; dsimp only; rw [hb]
        · rw [← a1]; unfold World.cell?; dsimp only; rw [hb]
        · rw [World.frozen?_setCell]; exact a2
        · rw [World.frozen?_setCell]; exact a3
      go_region_held3 (fun W => W.cell? ⟨wr.heap.size, 0, none⟩ = some (.int .i64 xh) ∧ W.cell? ⟨wr.heap.size, 1, none⟩ = some (.int .i64 xs) ∧ W.frozen? ⟨wr.heap.size + 1, 0, none⟩ = false ∧ W.frozen? ⟨wr.heap.size + 1, 1, none⟩ = false) (first | (refine HSt.out _ _ _ ?_; assumption) | go_keep) (fail)
      have HU3 : Hid (Blk ((wb.setCell ⟨wr.heap.size + 1, 0, none⟩ (.int .i64 xh)).setCell ⟨wr.heap.size + 1, 1, none⟩ (.int .i64 xs)).drew (wr.heap.size + 1) 39 #[.int .i64 xh, .int .i64 xs, .int .i64 uo, .int .i64 un, .bool um]) := (HU2.out.set 0 (.int .i64 xh)).set 1 (.int .i64 xs)
      have HB3 : Hid (Below w2.heap.size w2 ((wb.setCell ⟨wr.heap.size + 1, 0, none⟩ (.int .i64 xh)).setCell ⟨wr.heap.size + 1, 1, none⟩ (.int .i64 xs)).drew) := by
        have hle : w2.heap.size ≤ wr.heap.size + 1 := Nat.le_trans HB.out.size (Nat.le_succ _)
        exact below_draws ((HB2'.out.setCell (p := ⟨wr.heap.size + 1, 0, none⟩) hle _).setCell (p := ⟨wr.heap.size + 1, 1, none⟩) hle _) 1
      have HO3 : Hid (KOwn fW 39 ((wb.setCell ⟨wr.heap.size + 1, 0, none⟩ (.int .i64 xh)).setCell ⟨wr.heap.size + 1, 1, none⟩ (.int .i64 xs)).drew w2.heap.size (.slice pv A.length cv) A) := by
        have hne : ∀ W : World, KOwn fW 39 W w2.heap.size (.slice pv A.length cv) A → ∀ (i : Nat) (v : Value), KOwn fW 39 (W.setCell ⟨wr.heap.size + 1, i, none⟩ v) w2.heap.size (.slice pv A.length cv) A := fun W hW i v => by
          refine hW.kept (row := some (wr.heap.size + 1)) (grown_setCell W _ _ _) ?_
          right
          intro e
          have := HOlt.out _ e
          omega
        exact (hne _ (hne _ HO2.out 0 _) 1 _).drewN 1
      generalize ((wb.setCell ⟨wr.heap.size + 1, 0, none⟩ (.int .i64 xh)).setCell ⟨wr.heap.size + 1, 1, none⟩ (.int .i64 xs)).drew = wc at *
      have q0 : wc.cell? ⟨wr.heap.size + 1, 0, none⟩ = some (.int .i64 xh) := HU3.out.cell 0
      have q1 : wc.cell? ⟨wr.heap.size + 1, 1, none⟩ = some (.int .i64 xs) := HU3.out.cell 1
      have q2 : wc.cell? ⟨wr.heap.size + 1, 2, none⟩ = some (.int .i64 uo) := HU3.out.cell 2
      have q3 : wc.cell? ⟨wr.heap.size + 1, 3, none⟩ = some (.int .i64 un) := HU3.out.cell 3
      have q4 : wc.cell? ⟨wr.heap.size + 1, 4, none⟩ = some (.bool um) := HU3.out.cell 4
      clear e0 e1 f0 f1 g0 g2 hZ2
      go_wp2_with (at_builtin; refine Hid.out ?_)
      refine Lib.hid ?_
      refine kpush elemW _ rfl _ _ rfl w2.heap.size _ A rfl (HO3.out.alloc _) ⟨wc.heap.size, 0, none⟩ 1 ⟨xh, xs, uo, un, um⟩ rfl (fW.news wc ⟨xh, xs, uo, un, um⟩ 39 #[.int .i64 xh, .int .i64 xs, .int .i64 uo, .int .i64 un, .bool um] rfl) HL.out (by decide) (Nat.le_trans HB3.out.size (new_alloc _ _).size) ?_
      intro v' w5 ho5 hg5 hb5
      have HO5 := Hid.in ho5
      have HB5 := Hid.in (hb5 w2 (below_alloc HB3.out _))
      clear ho5 hg5 hb5 q0 q1 q2 q3 q4 c0 c1
      go_wp2_with fail
      go_roundw
      case rel =>
        refine ⟨j + 1, by go_num, by omega, ?_, HB5.out⟩
        rw [HT.out, HWho.out]
        exact HO5.out
      case measure => simp [intOf]; omega
    · obtain rfl : j = ss.length := by omega
      have HL : Hid ((ss.take ss.length).map (whoV f) = ss.map (whoV f)) := by show _ = _; rw [List.take_length]
      have g1 : decide ((ss.length : Int) < (ss.length : Int)) = false := decide_eq_false (by omega)
      go_wp2_with fail
      go_ret
      refine ⟨_, ss, rfl, HS.out, HMem.out, ?_, HB2.out.trans (HB.out.mono HZ2.out)⟩
      rw [← HL.out]
      exact HO.out.lower HZ2.out
end Go.Proofs.YtgblohjdiheemaaGreat

/- Ours: switchyardkit's SameViews, SameCounts, SamePlaces, SameEvents where both lists are the same. -/
namespace Go.Proofs.YtgblohjdiheemaaGreat
open Go.RowKit Go.Maps

set_option maxRecDepth 8000 in
set_option maxHeartbeats 2000000 in
theorem sameViews_self (p q : Option Addr) (n c d : Nat) (L : List Vw) (w : World) (hn : L.length = n) (hn6 : n ≤ 9223372036854775807) (h1 : KRow fW w p L) (h2 : KRow fW w q L) :
    Calls Tryz.prog 8 #[.slice p n c, .slice q n d] w fun e w' => e = .returned (.bool true) ∧ ∃ m, w' = w.drewN m := by
  have HN := Hid.in hn
  have HR := Hid.in h1
  have HQ := Hid.in h2
  clear hn h1 h2
  have g0 : (n != n) = false := by simp
  go_enter Tryz.func8, Tryz.ntmps8
  go_wp2_with fail
  go_loopw [5] (fun vi wr => ∃ j m : Nat, vi = .int .i64 j ∧ j ≤ n ∧ wr = w.drewN m) (fun vi _ => n - (intOf vi).toNat)
  case atStart => exact ⟨0, 0, rfl, Nat.zero_le _, rfl⟩
  case round =>
    obtain ⟨j, m, rfl, hj, rfl⟩ := hrel
    by_cases hlt : j < n
    · have hjL : j < L.length := by rw [HN.out]; exact hlt
      obtain ⟨b, o, rfl, hcc⟩ := HR.out (by omega)
      obtain ⟨b', o', rfl, hcd⟩ := HQ.out (by omega)
      have c0 : w.cell? ⟨b, o + j * 5, none⟩ = some (.int .i64 L[j].h) := hcc j hjL 0 (by decide)
      have c1 : w.cell? ⟨b, o + j * 5 + 1, none⟩ = some (.int .i64 L[j].s) := hcc j hjL 1 (by decide)
      have c2 : w.cell? ⟨b, o + j * 5 + 2, none⟩ = some (.int .i64 L[j].o) := hcc j hjL 2 (by decide)
      have c3 : w.cell? ⟨b, o + j * 5 + 3, none⟩ = some (.int .i64 L[j].n) := hcc j hjL 3 (by decide)
      have c4 : w.cell? ⟨b, o + j * 5 + 4, none⟩ = some (.bool L[j].m) := hcc j hjL 4 (by decide)
      have d0 : w.cell? ⟨b', o' + j * 5, none⟩ = some (.int .i64 L[j].h) := hcd j hjL 0 (by decide)
      have d1 : w.cell? ⟨b', o' + j * 5 + 1, none⟩ = some (.int .i64 L[j].s) := hcd j hjL 1 (by decide)
      have d2 : w.cell? ⟨b', o' + j * 5 + 2, none⟩ = some (.int .i64 L[j].o) := hcd j hjL 2 (by decide)
      have d3 : w.cell? ⟨b', o' + j * 5 + 3, none⟩ = some (.int .i64 L[j].n) := hcd j hjL 3 (by decide)
      have d4 : w.cell? ⟨b', o' + j * 5 + 4, none⟩ = some (.bool L[j].m) := hcd j hjL 4 (by decide)
      clear hcc hcd
      generalize L[j] = x at *
      obtain ⟨xh, xs, xo, xn, xm⟩ := x
      dsimp only at *
      have g1 : (xh == xh) = true := by simp
      have g2 : (xs == xs) = true := by simp
      have g3 : (xo == xo) = true := by simp
      have g4 : (xn == xn) = true := by simp
      have g5 : (xm == xm) = true := by simp
      go_wp2_with fail
      go_quiet (fail)
      go_wp2_with fail
      go_roundw
      case rel => exact ⟨j + 1, _, by go_num, by omega, rfl⟩
      case measure => simp [intOf]; omega
    · go_wp2_with fail
      go_ret
      exact ⟨rfl, _, rfl⟩

set_option maxRecDepth 8000 in
set_option maxHeartbeats 2000000 in
theorem sameCounts_self (p q : Option Addr) (n c d : Nat) (L : List Cn) (w : World) (hn : L.length = n) (hn6 : n ≤ 9223372036854775807) (h1 : KRow fC w p L) (h2 : KRow fC w q L) :
    Calls Tryz.prog 13 #[.slice p n c, .slice q n d] w fun e w' => e = .returned (.bool true) ∧ ∃ m, w' = w.drewN m := by
  have HN := Hid.in hn
  have HR := Hid.in h1
  have HQ := Hid.in h2
  clear hn h1 h2
  have g0 : (n != n) = false := by simp
  go_enter Tryz.func13, Tryz.ntmps13
  go_wp2_with fail
  go_loopw [5] (fun vi wr => ∃ j m : Nat, vi = .int .i64 j ∧ j ≤ n ∧ wr = w.drewN m) (fun vi _ => n - (intOf vi).toNat)
  case atStart => exact ⟨0, 0, rfl, Nat.zero_le _, rfl⟩
  case round =>
    obtain ⟨j, m, rfl, hj, rfl⟩ := hrel
    by_cases hlt : j < n
    · have hjL : j < L.length := by rw [HN.out]; exact hlt
      obtain ⟨b, o, rfl, hcc⟩ := HR.out (by omega)
      obtain ⟨b', o', rfl, hcd⟩ := HQ.out (by omega)
      have c0 : w.cell? ⟨b, o + j * 5, none⟩ = some (.int .i64 (L[j].s : Int)) := hcc j hjL 0 (by decide)
      have c1 : w.cell? ⟨b, o + j * 5 + 1, none⟩ = some (.int .i64 (L[j].w : Int)) := hcc j hjL 1 (by decide)
      have c2 : w.cell? ⟨b, o + j * 5 + 2, none⟩ = some (.int .i64 (L[j].r : Int)) := hcc j hjL 2 (by decide)
      have c3 : w.cell? ⟨b, o + j * 5 + 3, none⟩ = some (.int .i64 0) := hcc j hjL 3 (by decide)
      have c4 : w.cell? ⟨b, o + j * 5 + 4, none⟩ = some (.int .i64 0) := hcc j hjL 4 (by decide)
      have d0 : w.cell? ⟨b', o' + j * 5, none⟩ = some (.int .i64 (L[j].s : Int)) := hcd j hjL 0 (by decide)
      have d1 : w.cell? ⟨b', o' + j * 5 + 1, none⟩ = some (.int .i64 (L[j].w : Int)) := hcd j hjL 1 (by decide)
      have d2 : w.cell? ⟨b', o' + j * 5 + 2, none⟩ = some (.int .i64 (L[j].r : Int)) := hcd j hjL 2 (by decide)
      have d3 : w.cell? ⟨b', o' + j * 5 + 3, none⟩ = some (.int .i64 0) := hcd j hjL 3 (by decide)
      have d4 : w.cell? ⟨b', o' + j * 5 + 4, none⟩ = some (.int .i64 0) := hcd j hjL 4 (by decide)
      clear hcc hcd
      generalize L[j] = x at *
      obtain ⟨xs, xw, xr⟩ := x
      dsimp only at *
      have g1 : ((xs : Int) == (xs : Int)) = true := by simp
      have g2 : ((xw : Int) == (xw : Int)) = true := by simp
      have g3 : ((xr : Int) == (xr : Int)) = true := by simp
      go_wp2_with fail
      go_quiet (fail)
      go_wp2_with fail
      go_roundw
      case rel => exact ⟨j + 1, _, by go_num, by omega, rfl⟩
      case measure => simp [intOf]; omega
    · go_wp2_with fail
      go_ret
      exact ⟨rfl, _, rfl⟩

set_option maxRecDepth 8000 in
set_option maxHeartbeats 2000000 in
theorem samePlaces_self (p q : Option Addr) (n c d : Nat) (L : List Int) (w : World) (hn : L.length = n) (hn6 : n ≤ 9223372036854775807) (h1 : KRow fU w p L) (h2 : KRow fU w q L) :
    Calls Tryz.prog 19 #[.slice p n c, .slice q n d] w fun e w' => e = .returned (.bool true) ∧ ∃ m, w' = w.drewN m := by
  have HN := Hid.in hn
  have HR := Hid.in h1
  have HQ := Hid.in h2
  clear hn h1 h2
  have g0 : (n != n) = false := by simp
  go_enter Tryz.func19, Tryz.ntmps19
  go_wp2_with fail
  go_loopw [5] (fun vi wr => ∃ j m : Nat, vi = .int .i64 j ∧ j ≤ n ∧ wr = w.drewN m) (fun vi _ => n - (intOf vi).toNat)
  case atStart => exact ⟨0, 0, rfl, Nat.zero_le _, rfl⟩
  case round =>
    obtain ⟨j, m, rfl, hj, rfl⟩ := hrel
    by_cases hlt : j < n
    · have hjL : j < L.length := by rw [HN.out]; exact hlt
      obtain ⟨b, o, rfl, hcc⟩ := HR.out (by omega)
      obtain ⟨b', o', rfl, hcd⟩ := HQ.out (by omega)
      have c0 : w.cell? ⟨b, o + j, none⟩ = some (.int .u32 L[j]) := by have h := hcc j hjL 0 (by decide); rw [show fU.k = 1 from rfl, Nat.mul_one] at h; exact h
      have d0 : w.cell? ⟨b', o' + j, none⟩ = some (.int .u32 L[j]) := by have h := hcd j hjL 0 (by decide); rw [show fU.k = 1 from rfl, Nat.mul_one] at h; exact h
      clear hcc hcd
      generalize L[j] = x at *
      have g1 : (x == x) = true := by simp
      have g2 : (x != x) = false := by simp
      go_wp2_with fail
      go_quiet (fail)
      go_wp2_with fail
      go_roundw
      case rel => exact ⟨j + 1, _, by go_num, by omega, rfl⟩
      case measure => simp [intOf]; omega
    · go_wp2_with fail
      go_ret
      exact ⟨rfl, _, rfl⟩

set_option maxRecDepth 8000 in
set_option maxHeartbeats 2000000 in
theorem sameEvents_self (p q : Option Addr) (n c d : Nat) (L : List Fv) (w : World) (hn : L.length = n) (hn6 : n ≤ 9223372036854775807) (h1 : KRow fE w p L) (h2 : KRow fE w q L) :
    Calls Tryz.prog 23 #[.slice p n c, .slice q n d] w fun e w' => e = .returned (.bool true) ∧ ∃ m, w' = w.drewN m := by
  have HN := Hid.in hn
  have HR := Hid.in h1
  have HQ := Hid.in h2
  clear hn h1 h2
  have g0 : (n != n) = false := by simp
  go_enter Tryz.func23, Tryz.ntmps23
  go_wp2_with fail
  go_loopw [5] (fun vi wr => ∃ j m : Nat, vi = .int .i64 j ∧ j ≤ n ∧ wr = w.drewN m) (fun vi _ => n - (intOf vi).toNat)
  case atStart => exact ⟨0, 0, rfl, Nat.zero_le _, rfl⟩
  case round =>
    obtain ⟨j, m, rfl, hj, rfl⟩ := hrel
    by_cases hlt : j < n
    · have hjL : j < L.length := by rw [HN.out]; exact hlt
      obtain ⟨b, o, rfl, hcc⟩ := HR.out (by omega)
      obtain ⟨b', o', rfl, hcd⟩ := HQ.out (by omega)
      have c0 : w.cell? ⟨b, o + j * 7, none⟩ = some (.int .u8 L[j].k) := hcc j hjL 0 (by decide)
      have c1 : w.cell? ⟨b, o + j * 7 + 1, none⟩ = some (.int .i64 L[j].st) := hcc j hjL 1 (by decide)
      have c2 : w.cell? ⟨b, o + j * 7 + 2, none⟩ = some (.int .i64 L[j].h) := hcc j hjL 2 (by decide)
      have c3 : w.cell? ⟨b, o + j * 7 + 3, none⟩ = some (.int .i64 L[j].p) := hcc j hjL 3 (by decide)
      have c4 : w.cell? ⟨b, o + j * 7 + 4, none⟩ = some (.int .u8 L[j].o) := hcc j hjL 4 (by decide)
      have c5 : w.cell? ⟨b, o + j * 7 + 5, none⟩ = some (.int .i64 L[j].ky) := hcc j hjL 5 (by decide)
      have c6 : w.cell? ⟨b, o + j * 7 + 6, none⟩ = some (.int .i64 L[j].n) := hcc j hjL 6 (by decide)
      have d0 : w.cell? ⟨b', o' + j * 7, none⟩ = some (.int .u8 L[j].k) := hcd j hjL 0 (by decide)
      have d1 : w.cell? ⟨b', o' + j * 7 + 1, none⟩ = some (.int .i64 L[j].st) := hcd j hjL 1 (by decide)
      have d2 : w.cell? ⟨b', o' + j * 7 + 2, none⟩ = some (.int .i64 L[j].h) := hcd j hjL 2 (by decide)
      have d3 : w.cell? ⟨b', o' + j * 7 + 3, none⟩ = some (.int .i64 L[j].p) := hcd j hjL 3 (by decide)
      have d4 : w.cell? ⟨b', o' + j * 7 + 4, none⟩ = some (.int .u8 L[j].o) := hcd j hjL 4 (by decide)
      have d5 : w.cell? ⟨b', o' + j * 7 + 5, none⟩ = some (.int .i64 L[j].ky) := hcd j hjL 5 (by decide)
      have d6 : w.cell? ⟨b', o' + j * 7 + 6, none⟩ = some (.int .i64 L[j].n) := hcd j hjL 6 (by decide)
      clear hcc hcd
      generalize L[j] = x at *
      obtain ⟨xk, xst, xh, xp, xo, xky, xn⟩ := x
      dsimp only at *
      have g1 : (xk == xk) = true := by simp
      have g2 : (xst == xst) = true := by simp
      have g3 : (xh == xh) = true := by simp
      have g4 : (xp == xp) = true := by simp
      have g5 : (xo == xo) = true := by simp
      have g6 : (xky == xky) = true := by simp
      have g7 : (xn == xn) = true := by simp
      go_wp2_with fail
      go_quiet (fail)
      go_wp2_with fail
      go_roundw
      case rel => exact ⟨j + 1, _, by go_num, by omega, rfl⟩
      case measure => simp [intOf]; omega
    · go_wp2_with fail
      go_ret
      exact ⟨rfl, _, rfl⟩
end Go.Proofs.YtgblohjdiheemaaGreat
