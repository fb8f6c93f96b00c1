/- Texts put together: KeyW, SrtW, SrfW, MrgV, SlcW, MrgA, MrgB, MrgW. -/
import Derived.Test.YtckpgpgmaccepaaGreatTm
import Derived.Test.YtckpgpgmaccepaaGreatTabW
import Derived.Test.YtckpgpgmaccepaaGreatTn
import Derived.Test.YtckpgpgmaccepaaGreatShelfC
import Derived.Deep.DeepCutAuto
import Derived.BigQuiet
import Derived.Test.YtckpgpgmaccepaaGreatTa

/- sites.Keys: the names of all marks' keys, as they first stand. -/
namespace Go.Proofs.YtckpgpgmaccepaaGreat
open Go.RowKit Go.Maps Go.WideMaps

/-- how many marks there are -/
def cntM (xs : List Ob) : Nat := (xs.map fun o => o.mk_.length).sum
theorem addK_le (ks : List ByteArray) (s : ByteArray) : (addK ks s).length ≤ ks.length + 1 := by
  unfold addK; split <;> simp
theorem keysM_len : ∀ (M : List Mk) (ks : List ByteArray), (keysM ks M).length ≤ ks.length + M.length
  | [], ks => by simp [keysM]
  | m :: M, ks => by
    have h1 := keysM_len M (addK ks m.key)
    have h2 := addK_le ks m.key
    have e : keysM ks (m :: M) = keysM (addK ks m.key) M := rfl
    rw [e, List.length_cons]
    omega
theorem keysM_snoc (ks : List ByteArray) (M : List Mk) (m : Mk) : keysM ks (M ++ [m]) = addK (keysM ks M) m.key := by simp [keysM]
theorem keysL_snoc (xs : List Ob) (o : Ob) : keysL (xs ++ [o]) = keysM (keysL xs) o.mk_ := by simp [keysL]
theorem cntM_snoc (xs : List Ob) (o : Ob) : cntM (xs ++ [o]) = cntM xs + o.mk_.length := by simp [cntM]
theorem cntM_take {xs : List Ob} (i : Nat) : cntM (xs.take i) ≤ cntM xs := by
  have h : cntM xs = cntM (xs.take i) + cntM (xs.drop i) := by
    unfold cntM
    rw [← List.sum_append, ← List.map_append, List.take_append_drop]
  omega
theorem keysL_len : ∀ (i : Nat) (xs : List Ob), i ≤ xs.length → (keysL (xs.take i)).length ≤ cntM (xs.take i)
  | 0, xs, _ => by simp [keysL, cntM]
  | i + 1, xs, h => by
    have hi : i < xs.length := by omega
    rw [List.take_succ_eq_append_getElem hi, keysL_snoc, cntM_snoc]
    have h1 := keysL_len i xs (by omega)
    have h2 := keysM_len xs[i].mk_ (keysL (xs.take i))
    omega

set_option maxRecDepth 20000 in
set_option maxHeartbeats 4000000 in
theorem keys_any (p : Option Addr) (n c : Nat) (xs : List Ob) (w : World) (hn : xs.length = n) (hn6 : n ≤ 1048576) (hx : Units w p xs) (hc : cntM xs ≤ 1000000) (hK : ∀ x ∈ xs, ∀ m ∈ x.mk_, m.key.size ≤ 281474976710656) :
    Calls Tryz.prog 9 #[.slice p n c] w fun e w' => ∃ v, e = .returned v ∧ GOwnV 9 w' w.heap.size v ((keysL xs).map Value.string) ∧ Below w.heap.size w w' := by
  have HN := Hid.in hn
  have HX := Hid.in hx
  have HC := Hid.in hc
  have HKS := Hid.in hK
  clear hn hx hc hK
  go_enter Tryz.func9, Tryz.ntmps9
  go_wp2_with (go_at_call 39; refine (newNumbering_any w).mono ?_; rintro e w1 ⟨k, bm, rfl, hN, hb⟩; have HNU := Hid.in hN; have HB1 := Hid.in hb; clear hN hb)
  go_loopw [11] (fun vi wr => ∃ (i : Nat) (v : Value), vi = .int .i64 i ∧ i ≤ n ∧ NumAt wr w.heap.size k bm v (keysL (xs.take i)) ∧ Below w.heap.size w wr) (fun vi _ => n - (intOf vi).toNat)
  case atStart => exact ⟨0, _, rfl, Nat.zero_le _, HNU.out, HB1.out⟩
  case round =>
    obtain ⟨i, v, rfl, hi, hN, hb⟩ := hrel
    have HNU2 := Hid.in hN
    have HB := Hid.in hb
    clear hN hb HNU
    by_cases hlt : i < n
    · have hiT : i < xs.length := by rw [HN.out]; exact hlt
      obtain ⟨b, o, rfl, hcc⟩ := HX.out (by omega)
      obtain ⟨pb, ps, pf, pm, cb, cs, cf, cm, ⟨k0, k1, k2, k3⟩, hI⟩ := hcc i hiT
      have c0 := (HB.out.cell (cell_lt k0)).trans k0
      have c1 := (HB.out.cell (cell_lt k1)).trans k1
      have c2 := (HB.out.cell (cell_lt k2)).trans k2
      have c3 := (HB.out.cell (cell_lt k3)).trans k3
      have HIW : Hid (∀ W, Below w.heap.size w W → Row3 W pm (xs[i].mk_.map mkV)) := fun W hW => hI.rm.below hW
      have hmn := hI.km
      have HBW := Hid.in (below_alloc HB.out (.cells #[.slice pb xs[i].bs.length cb, .slice ps xs[i].sy.length cs, .slice pf xs[i].fx.length cf, .slice pm xs[i].mk_.length cm] 56))
      have HCW := Hid.in (new_alloc wr (.cells #[.slice pb xs[i].bs.length cb, .slice ps xs[i].sy.length cs, .slice pf xs[i].fx.length cf, .slice pm xs[i].mk_.length cm] 56))
      have HNW := Hid.in (HNU2.out.below HCW.out)
      unfold maxLen at hmn
      clear hcc hI k0 k1 k2 k3
      have HTK : Hid (keysL (xs.take (i + 1)) = keysM (keysL (xs.take i)) xs[i].mk_) := by
        have h : keysL (xs.take (i + 1)) = keysM (keysL (xs.take i)) xs[i].mk_ := by rw [List.take_succ_eq_append_getElem hiT, keysL_snoc]
        exact h
      have HLEN : Hid (∀ j, (keysM (keysL (xs.take i)) (xs[i].mk_.take j)).length ≤ 1000000) := fun j => by
        have h1 := keysM_len (xs[i].mk_.take j) (keysL (xs.take i))
        have h2 := keysL_len i xs (by omega)
        have h3 := cntM_take (xs := xs) (i + 1)
        rw [List.take_succ_eq_append_getElem hiT, cntM_snoc] at h3
        have h4 : (xs[i].mk_.take j).length ≤ xs[i].mk_.length := by rw [List.length_take]; omega
        have h5 := HC.out
        omega
      have HKI : Hid (∀ m ∈ xs[i].mk_, m.key.size ≤ 281474976710656) := HKS.out _ (List.getElem_mem hiT)
      generalize xs[i] = ob at *
      obtain ⟨base, hbase⟩ : ∃ bse, keysL (xs.take i) = bse := ⟨_, rfl⟩
      rw [hbase] at HTK HLEN HNW
      clear hbase HNU2
      go_wp2_with fail
      generalize wr.alloc (.cells #[.slice pb ob.bs.length cb, .slice ps ob.sy.length cs, .slice pf ob.fx.length cf, .slice pm ob.mk_.length cm] 56) = w2 at *
      go_loopw [18] (fun vi ws => ∃ (j : Nat) (v' : Value), vi = .int .i64 j ∧ j ≤ ob.mk_.length ∧ NumAt ws w.heap.size k bm v' (keysM base (ob.mk_.take j)) ∧ Below w.heap.size w ws) (fun vi _ => ob.mk_.length - (intOf vi).toNat)
      case atStart => exact ⟨0, v, rfl, Nat.zero_le _, HNW.out, HBW.out⟩
      case round =>
        obtain ⟨j, v', rfl, hj, hN3, hb3⟩ := hrel
        have HN3 := Hid.in hN3
        have HB3 := Hid.in hb3
        clear hN3 hb3
        by_cases hlj : j < ob.mk_.length
        · obtain ⟨b3, o3, rfl, hc3⟩ := (HIW.out _ HB3.out) (by rw [List.length_map]; omega)
          obtain ⟨d0, d1, d2⟩ := cells3 hc3 j (by rw [List.length_map]; exact hlj)
          simp only [List.getElem_map, mkV] at d0 d1 d2
          have HKJ := Hid.in (HKI.out _ (List.getElem_mem hlj))
          have HSN : Hid (keysM base (ob.mk_.take (j + 1)) = addK (keysM base (ob.mk_.take j)) ob.mk_[j].key) := by
            have h : keysM base (ob.mk_.take (j + 1)) = addK (keysM base (ob.mk_.take j)) ob.mk_[j].key := by rw [List.take_succ_eq_append_getElem hlj, keysM_snoc]
            exact h
          have hl4 := HLEN.out j
          clear hc3
          generalize ob.mk_[j].at_ = m0 at *
          generalize ob.mk_[j].key = m1 at *
          generalize ob.mk_[j].to_ = m2 at *
          generalize keysM base (ob.mk_.take j) = ks at *
          have hnum := number_any w.heap.size k bm v' ks m1 _ (HN3.out.below (new_alloc _ (.cells #[.int .i64 m0, .string m1, .string m2] 58))) HKJ.out (by omega) (by have := HB3.out.size; rw [size_one]; omega)
          have HFR := Hid.in (fun W hk => (HN3.out.below (new_alloc _ (.cells #[.int .i64 m0, .string m1, .string m2] 58))).from (w' := W) (by have := HB3.out.size; rw [size_one]; omega) hk)
          go_wp2_with (go_at_call 40; refine hnum.mono ?_; rintro e w5 ⟨rfl, ⟨v5, hN5⟩, hk5⟩; have HN5 := Hid.in hN5; have HB5 := Hid.in ((below_alloc HB3.out _).trans (HFR.out _ hk5)); clear hN5 hk5 hnum)
          go_roundw
          case rel => exact ⟨j + 1, v5, by go_num, by omega, by rw [HSN.out]; exact HN5.out, HB5.out⟩
          case measure => simp [intOf]; omega
        · have HE : Hid (ob.mk_.take j = ob.mk_) := List.take_of_length_le (by omega)
          rw [HE.out, ← HTK.out] at HN3
          go_wp2_with fail
          go_roundw
          case rel => exact ⟨i + 1, v', by go_num, by omega, HN3.out, HB3.out⟩
          case measure => simp [intOf]; omega
    · have HE : Hid (keysL (xs.take i) = keysL xs) := by
        have h : keysL (xs.take i) = keysL xs := by rw [List.take_of_length_le (by rw [HN.out]; omega)]
        exact h
      rw [HE.out] at HNU2
      have c0 := HNU2.out.blk.cell 0
      simp only [List.getElem?_toArray, List.getElem?_cons_zero] at c0
      have HOW := Hid.in HNU2.out.own
      go_wp2_with fail
      go_ret
      exact ⟨_, rfl, HOW.out, HB.out⟩

end Go.Proofs.YtckpgpgmaccepaaGreat

/- rightSite, slices.IsSortedFunc, the reference's Of and Sorted. -/
namespace Go.Proofs.YtckpgpgmaccepaaGreat
open Go.RowKit

set_option maxHeartbeats 1000000 in
theorem rightSite_any (s : Si) (n : Int) (w : World) : Calls Tryz.prog 47 #[sV s, .int .i64 n] w fun e w' => e = .returned (.bool (siteB n s)) ∧ Below w.heap.size w w' := by
  by_cases hall : 0 ≤ s.key ∧ s.key < n ∧ 0 ≤ s.at_ ∧ s.at_ ≤ 65531 ∧ 0 ≤ s.to_ ∧ s.to_ ≤ 65536
  · have hR := fun W => inReach_any s W ⟨by omega, by omega, by omega, by omega⟩
    have HF : Hid (siteB n s = !farS s) := by
      have : siteB n s = !farS s := by unfold siteB; rw [decide_eq_true hall, Bool.true_and]
      exact this
    rw [HF.out]
    generalize farS s = f at *
    clear HF
    obtain ⟨sk, sa, st⟩ := s
    obtain ⟨h1, h2, h3, h4, h5, h6⟩ := hall
    dsimp only at h1 h2 h3 h4 h5 h6
    go_enter Tryz.func47, Tryz.ntmps47
    go_wp2_with (go_at_call 74; refine (hR _).mono ?_; rintro e w1 ⟨rfl, hb⟩; have HB := Hid.in (below_step (new_alloc w _) hb); clear hb)
    go_ret
    exact ⟨rfl, HB.out⟩
  · have HF : Hid (siteB n s = false) := by
      have : siteB n s = false := by unfold siteB; rw [decide_eq_false hall, Bool.false_and]
      exact this
    rw [HF.out]
    clear HF
    obtain ⟨sk, sa, st⟩ := s
    dsimp only at hall
    rcases (by omega : sk < 0 ∨ (0 ≤ sk ∧ n ≤ sk) ∨ (0 ≤ sk ∧ sk < n ∧ sa < 0) ∨ (0 ≤ sk ∧ sk < n ∧ 0 ≤ sa ∧ 65531 < sa) ∨ (0 ≤ sk ∧ sk < n ∧ 0 ≤ sa ∧ sa ≤ 65531 ∧ st < 0) ∨ (0 ≤ sk ∧ sk < n ∧ 0 ≤ sa ∧ sa ≤ 65531 ∧ 0 ≤ st ∧ 65536 < st)) with h1 | ⟨h1, h2⟩ | ⟨h1, h2, h3⟩ | ⟨h1, h2, h3, h4⟩ | ⟨h1, h2, h3, h4, h5⟩ | ⟨h1, h2, h3, h4, h5, h6⟩
    all_goals
      clear hall
      go_enter Tryz.func47, Tryz.ntmps47
      go_wp2_with fail
      go_ret
      exact ⟨ret_bool (by simp), new_alloc _ _⟩

theorem cmpS_neg {s t : Si} (h : ltS s t = true) : cmpS s t < 0 := by
  have := cmpS_lt s t
  rw [h] at this
  simpa using this
theorem cmpS_nneg {s t : Si} (h : ltS s t = false) : ¬ cmpS s t < 0 := by
  have := cmpS_lt s t
  rw [h] at this
  simpa using this

set_option maxRecDepth 4000 in
set_option maxHeartbeats 2000000 in
theorem isSorted_any (p : Option Addr) (n c : Nat) (T : List Si) (w : World) (hn : T.length = n) (hn6 : n ≤ 140737488355328) (hr : Row3 w p (T.map siV)) :
    Calls Tryz.prog 48 #[.slice p n c, .func (Fn.func 33) #[] #[]] w fun E w' => E = .returned (.bool (nsB T)) ∧ Below w.heap.size w w' := by
  have hC := fun s t W => byKey_any s t W
  have HN := Hid.in hn
  have HR := Hid.in hr
  clear hn hr
  obtain ⟨r, hrr⟩ : ∃ r, nsB T = r := ⟨_, rfl⟩
  rw [hrr]
  have HRR := Hid.in hrr
  clear hrr
  have hwn : IntKind.i64.wrap ((n : Int) - 1) = (n : Int) - 1 := by rw [IntKind.wrap_i64]; omega
  go_enter Tryz.func48, Tryz.ntmps48
  go_wp2_with fail
  go_loopw [5] (fun vi wr => ∃ k : Int, vi = .int .i64 k ∧ -1 ≤ k ∧ k ≤ (n : Int) - 1 ∧ (∀ j : Nat, j + 1 < T.length → k < (j : Int) + 1 → ltS (T.getD (j + 1) ⟨0, 0, 0⟩) (T.getD j ⟨0, 0, 0⟩) = false) ∧ Below w.heap.size w wr) (fun vi _ => (intOf vi).toNat)
  case atStart => exact ⟨(n : Int) - 1, rfl, by omega, by omega, fun j h1 h2 => by rw [HN.out] at h1; omega, below_self w⟩
  case round =>
    obtain ⟨k, rfl, hk0, hk1, hgo, hb⟩ := hrel
    have HGO := Hid.in hgo
    have HB := Hid.in hb
    clear hgo hb
    by_cases hlt : 0 < k
    · obtain ⟨m, rfl⟩ : ∃ m : Nat, k = (m : Int) + 1 := ⟨(k - 1).toNat, by omega⟩
      have hm1 : m + 1 < T.length := by rw [HN.out]; omega
      have hm0 : m < T.length := by omega
      obtain ⟨b, o, rfl, hcc⟩ := (HR.out.below HB.out).at3 (by omega)
      have c0 := (hcc (m + 1) hm1).1
      have c1 := (hcc (m + 1) hm1).2.1
      have c2 := (hcc (m + 1) hm1).2.2
      have d0 := (hcc m hm0).1
      have d1 := (hcc m hm0).2.1
      have d2 := (hcc m hm0).2.2
      have hcl := hC T[m + 1] T[m] wr.drew
      dsimp only [sV] at hcl
      have hw1 : IntKind.i64.wrap ((m : Int) + 1 - 1) = (m : Int) := by rw [IntKind.wrap_i64]; omega
      have hw2 : ((m : Int) + 1).toNat = m + 1 := by omega
      have hw3 : IntKind.i64.wrap (m : Int) = (m : Int) := by rw [IntKind.wrap_i64]; omega
      have hb0 : (0 : Int) ≤ (m : Int) + 1 := by omega
      have hb1 : (m : Int) + 1 < (n : Int) := by omega
      have hb2 : m < n := by omega
      clear hcc hC
      cases hl : ltS T[m + 1] T[m] with
      | true =>
        have hneg := cmpS_neg hl
        have HE : Hid (r = false) := by
          have : nsB T = false := by
            unfold nsB
            refine decide_eq_false fun h => ?_
            have := h m (by omega)
            rw [getD_si hm1, getD_si hm0, hl] at this
            cases this
          rw [← HRR.out, this]; exact rfl
        generalize cmpS T[m + 1] T[m] = cc at *
        generalize T[m + 1].key = x0 at *
        generalize T[m + 1].at_ = x1 at *
        generalize T[m + 1].to_ = x2 at *
        generalize T[m].key = y0 at *
        generalize T[m].at_ = y1 at *
        generalize T[m].to_ = y2 at *
        clear hl
        go_wp2_with fail
        go_region_law (go_simp; go_at_call 33; (with_reducible refine hcl.mono ?_); rintro e w1 ⟨rfl, q, os, hw⟩; have HB1 : Hid (Below w.heap.size w w1) := (by rw [hw]; exact below_step HB.out (below_step (below_draws (below_self wr) 1) (grow_below _ _ _))); clear hw)
        all_goals
          go_wp2
          go_ret
          exact ⟨by rw [HE.out]; rfl, HB1.out⟩
      | false =>
        have hneg := cmpS_nneg hl
        have HG2 : Hid (∀ j : Nat, j + 1 < T.length → (m : Int) < (j : Int) + 1 → ltS (T.getD (j + 1) ⟨0, 0, 0⟩) (T.getD j ⟨0, 0, 0⟩) = false) := fun j h1 h2 => by
          by_cases e : j = m
          · subst e; rw [getD_si hm1, getD_si hm0]; exact hl
          · exact HGO.out j h1 (by omega)
        generalize cmpS T[m + 1] T[m] = cc at *
        generalize T[m + 1].key = x0 at *
        generalize T[m + 1].at_ = x1 at *
        generalize T[m + 1].to_ = x2 at *
        generalize T[m].key = y0 at *
        generalize T[m].at_ = y1 at *
        generalize T[m].to_ = y2 at *
        clear hl
        go_wp2_with fail
        go_region_law (go_simp; go_at_call 33; (with_reducible refine hcl.mono ?_); rintro e w1 ⟨rfl, q, os, hw⟩; have HB1 : Hid (Below w.heap.size w w1) := (by rw [hw]; exact below_step HB.out (below_step (below_draws (below_self wr) 1) (grow_below _ _ _))); clear hw)
        all_goals
          go_wp2
          go_roundw
          case rel => exact ⟨m, by first | rfl | go_num, by omega, by omega, HG2.out, HB1.out⟩
          case measure => simp [intOf]
    · have HE : Hid (r = true) := by
        have : nsB T = true := by
          unfold nsB
          exact decide_eq_true fun j h1 => HGO.out j (by omega) (by omega)
        rw [← HRR.out, this]; exact rfl
      go_wp2_with fail
      go_ret
      exact ⟨by rw [HE.out]; rfl, HB.out⟩

end Go.Proofs.YtckpgpgmaccepaaGreat

/- slices.SortFunc of sites by key and place. -/
namespace Go.Proofs.YtckpgpgmaccepaaGreat
open Go.RowKit Go.Sort Go.Shelf

instance : Inhabited Si := ⟨⟨0, 0, 0⟩⟩

def encS (s : Si) : List Value := [.int .i64 s.key, .int .i64 s.at_, .int .i64 s.to_]
theorem ltOf_cmp (s t : Si) : ltOf cmpS s t = ltS s t := cmpS_lt s t
theorem swoS : SWO (ltOf cmpS) where
  irrefl x := by rw [ltOf_cmp]; exact ltS_irrefl x
  trans x y z h1 h2 := by rw [ltOf_cmp] at *; exact ltS_trans h1 h2
  ntrans x y z h1 h2 := by
    rw [ltOf_cmp] at *
    unfold ltS at *
    simp only [decide_eq_false_iff_not] at *
    omega
theorem cmpLaysS (blk off size : Nat) (w : World) : CmpLays Tryz.prog 33 #[] encS 3 cmpS blk off size w := fun _ _ _ _ x y => byKey_any x y _

theorem block_sorted {w : World} {g n : Nat} {T : TypeId} {fr : Nat × Nat} {cur F : Array Value} {os : Array Obj} (hb : w.heap[g]? = some (.cells cur T fr)) :
    (grow (putRow id (Sort.ahead w n) g 0 F) os).heap[g]? = some (.cells (putCells id 0 F cur) T fr) := by
  have hlt := (Array.getElem?_eq_some_iff.1 hb).1
  have h1 : (putRow id (Sort.ahead w n) g 0 F).heap[g]? = some (.cells (putCells id 0 F cur) T fr) := by
    unfold putRow mapBlock
    simp [Array.getElem?_modify, Sort.ahead, hb, onCells]
  exact (heap_grow_old _ os (Array.getElem?_eq_some_iff.1 h1).1).trans h1

theorem sortS_own (B g cap : Nat) (T : List Si) (w : World) (ho : TOwn 34 w B (.slice (some ⟨g, 0, none⟩) T.length cap) (T.map siV)) (hl : T.length ≤ 140737488355328) :
    Calls Tryz.prog 32 #[.slice (some ⟨g, 0, none⟩) T.length cap, .func (Fn.func 33) #[] #[]] w fun e w' => e = .returned (.tuple #[]) ∧ ∃ T' : List Si, T'.Perm T ∧ T'.Pairwise (fun a b => ltS b a = false) ∧ TOwn 34 w' B (.slice (some ⟨g, 0, none⟩) T.length cap) (T'.map siV) ∧ Keeps (fun j => j = g) w w' := by
  rcases ho.2 with ⟨e1, _⟩ | ⟨g', cap', cur, e1, e2, e3, e4, e5, e6, e7⟩
  · cases e1
  injection e1 with e1 _ e1'
  injection e1 with e1
  injection e1 with e1
  subst e1 e1'
  rw [List.length_map] at e4 e7
  have hlt := (Array.getElem?_eq_some_iff.1 e3).1
  have hcell : ∀ j, j < T.length * 3 → w.cell? ⟨g, j, none⟩ = (c3 (T.map siV))[j]? := fun j hj => by
    have h1 : w.cell? ⟨g, j, none⟩ = cur[j]? := by simp [World.cell?, e3]
    rw [h1, ← e7, List.getElem?_take_of_lt hj, Array.getElem?_toList]
  have hH : HoldsK encS 3 w g 0 T.toArray := by
    intro j hj
    have hj' : j < T.length * 3 := by simpa using hj
    rw [Nat.zero_add, hcell j hj']
    refine ⟨?_, by simp [World.frozen?, e3]⟩
    have hdm := Nat.div_add_mod j 3
    have hm := Nat.mod_lt j (show 0 < 3 by decide)
    have hd : j / 3 < T.length := by omega
    have h3 := c3_at (T.map siV) (j / 3) (by rw [List.length_map]; exact hd) (j % 3) hm
    rw [show j / 3 * 3 + j % 3 = j by omega] at h3
    rw [h3, id, get_flatK _ _ _ _ (by simpa using hj')]
    rw [getElem!_pos T.toArray (j / 3) (by simpa using hd)]
    simp only [List.getElem_map, List.getElem_toArray]
    have hle : (encS T[j / 3]).length = 3 := rfl
    rw [getElem!_pos _ _ (by rw [hle]; exact hm)]
    · exact (List.getElem?_eq_getElem (by rw [hle]; exact hm) : (encS T[j / 3])[j % 3]? = _)
    · rw [List.length_map]
  have eg : ∀ args w, (callFunc 33 args).run Tryz.prog w = .ok (.enter 33 args) w := enters_of Tryz.func33 (by kernel_rfl) rfl
  have hcon := AnyQ.slices_SortFunc Tryz.laysSortSites 3 Tryz.isAgg34 Tryz.sizeOf34 encS (fun _ => rfl) (fun x v hv => by simp [encS] at hv; rcases hv with rfl | rfl | rfl <;> rfl) cmpS swoS 33 #[] g 0 cap T.toArray w eg (cmpLaysS g 0 _ w) hH hlt (by simp; omega)
  change Calls Tryz.prog 32 _ _ _ at hcon
  simp only [List.size_toArray] at hcon
  refine hcon.mono ?_
  rintro e w' ⟨rfl, d', n, os, hp, hs, hw⟩
  have hsz : d'.size = T.length := by simpa using hp.1
  have hH2 : HoldsK encS 3 w' g 0 d' := by rw [hw]; exact holdsK_sortWorldK_c encS 3 w g 0 T.toArray d' n os hH hlt (by simpa using hsz)
  have hb2 : w'.heap[g]? = some (.cells (putCells id 0 (flatK encS 3 d') cur) 34 (0, 0)) := by rw [hw]; exact block_sorted e3
  refine ⟨rfl, d'.toList, ?_, ?_, ⟨by simp [c3_len, hsz], .inr ⟨g, cap, _, by simp [hsz], e2, hb2, by simpa [hsz] using e4, e5, by simp [putCells, e6], ?_⟩⟩, ?_⟩
  · have := hp.2.2
    simp at this
    rwa [List.take_of_length_le (by simp [hsz])] at this
  · rw [List.pairwise_iff_getElem]
    intro i j hi hj hij
    simp at hi hj
    have h := hs i j (Nat.zero_le _) hij (by omega)
    rw [ltOf_cmp, getElem!_pos d' j hj, getElem!_pos d' i hi] at h
    simpa using h
  · apply List.ext_getElem?
    intro j
    by_cases hj : j < d'.size * 3
    · rw [List.length_map, Array.length_toList, List.getElem?_take_of_lt hj, Array.getElem?_toList]
      have h1 : w'.cell? ⟨g, j, none⟩ = (putCells id 0 (flatK encS 3 d') cur)[j]? := by simp [World.cell?, hb2]
      rw [← h1]
      have h2 := (hH2 j (by simpa using hj)).1
      rw [Nat.zero_add] at h2
      rw [h2, id, get_flatK _ _ _ _ hj]
      have hdm := Nat.div_add_mod j 3
      have hm := Nat.mod_lt j (show 0 < 3 by decide)
      have hd : j / 3 < d'.size := by omega
      have h3 := c3_at (d'.toList.map siV) (j / 3) (by simpa using hd) (j % 3) hm
      rw [show j / 3 * 3 + j % 3 = j by omega] at h3
      rw [h3, getElem!_pos d' (j / 3) hd]
      simp only [List.getElem_map, Array.getElem_toList]
      have hle : (encS d'[j / 3]).length = 3 := rfl
      rw [getElem!_pos _ _ (by rw [hle]; exact hm), ← List.getElem?_eq_getElem (by rw [hle]; exact hm)]
      rfl
    · rw [List.getElem?_eq_none (by simp; omega), List.getElem?_eq_none (by rw [c3_len]; simp; omega)]
  · rw [hw]
    refine ⟨rfl, rfl, rfl, size_sortWorldK_c encS 3 w g 0 n d' os, fun j hj hn => ?_⟩
    unfold sortWorldK putRowK
    refine (heap_grow_old _ os (by simpa [putRow, mapBlock, Sort.ahead] using hj)).trans ?_
    simp [putRow, mapBlock, Array.getElem?_modify, Sort.ahead, Ne.symm hn]

theorem sorted_sortS {T T' : List Si} (h1 : T'.Perm T) (h2 : T'.Pairwise fun a b => ltS b a = false) (hd : T.Pairwise fun a b => ltS a b = true ∨ ltS b a = true) : T'.Pairwise fun a b => ltS a b = true := by
  have hd' : T'.Pairwise fun a b => ltS a b = true ∨ ltS b a = true := (h1.pairwise_iff (fun h => h.symm)).2 hd
  exact (hd'.and h2).imp fun ⟨h3, h4⟩ => by
    rcases h3 with h3 | h3
    · exact h3
    · rw [h3] at h4; cases h4

theorem sortS_any (B : Nat) (v : Value) (T : List Si) (w : World) (ho : TOwn 34 w B v (T.map siV)) (hl : T.length ≤ 140737488355328) :
    Calls Tryz.prog 32 #[v, .func (Fn.func 33) #[] #[]] w fun e w' => e = .returned (.tuple #[]) ∧ ∃ T' : List Si, T'.Perm T ∧ T'.Pairwise (fun a b => ltS b a = false) ∧ TOwn 34 w' B v (T'.map siV) ∧ Keeps (fun j => v.ownBlock = some j) w w' := by
  rcases ho.2 with ⟨e1, e2⟩ | ⟨g, cap, cur, e1, e2, e3, e4, e5, e6, e7⟩
  · have hz : T = [] := by simpa using e2
    subst hz e1
    have hcon := AnyF.slices_SortFunc_none Tryz.laysSortSites none 0 (.func (Fn.func 33) #[] #[]) w
    change Calls Tryz.prog 32 _ _ _ at hcon
    refine hcon.mono ?_
    rintro e w' ⟨rfl, rfl⟩
    exact ⟨rfl, [], .refl _, .nil, ho, Keeps.refl _ _⟩
  · rw [List.length_map] at e1
    subst e1
    refine (sortS_own B g cap T w ho hl).mono ?_
    rintro e w' ⟨rfl, T', h1, h2, h3, h4⟩
    exact ⟨rfl, T', h1, h2, h3, h4.mono (fun j hj => by rw [hj]; rfl)⟩

end Go.Proofs.YtckpgpgmaccepaaGreat

/- sites.Merge. -/
namespace Go.Proofs.YtckpgpgmaccepaaGreat
open Go.RowKit Go.Maps Go.WideMaps

/-- where a slice of elements of three cells begins, k elements on -/
def slK (p : Option Addr) (k : Nat) : Option Addr := match p with
  | none => none
  | some a => some ⟨a.block, a.off + k * 3, none⟩
theorem TOwn.sl {T : TypeId} {w : World} {B : Nat} {v : Value} {L : List V3} (h : TOwn T w B v L) : ∃ p c, v = .slice p L.length c ∧ L.length ≤ c ∧ c ≤ maxLen ∧ ((p = none ∧ c = 0) ∨ ∃ g, p = some ⟨g, 0, none⟩) := by
  rcases h.2 with ⟨e1, e2⟩ | ⟨g, cap, cur, e1, e2, e3, e4, e5, _⟩
  · exact ⟨none, 0, by rw [e1, e2], by omega, Nat.zero_le _, .inl ⟨rfl, rfl⟩⟩
  · exact ⟨_, cap, e1, e4, e5, .inr ⟨g, rfl⟩⟩
theorem TOwn.rowAt {T : TypeId} {w : World} {B : Nat} {p : Option Addr} {n c : Nat} {L : List V3} (h : TOwn T w B (.slice p n c) L) (k m : Nat) (hk : k + m ≤ L.length) : Row3 w (slK p k) ((L.drop k).take m) := fun h0 => by
  rw [List.length_take, List.length_drop] at h0
  obtain ⟨p', c', e1, -, -, hc⟩ := h.shape
  injection e1 with e1 e2 e3
  subst e1
  obtain ⟨g, rfl, -, -, hc⟩ := hc (by omega)
  refine ⟨g, 0 + k * 3, rfl, fun i hi j hj => ?_⟩
  rw [List.length_take, List.length_drop] at hi
  have h1 := hc (k + i) (by omega) j hj
  rw [show 0 + k * 3 + i * 3 + j = (k + i) * 3 + j by omega, h1]
  simp

/-- what Merge answers -/
def MrgIs (xs : List Ob) (w : World) (E : Ending) (w' : World) : Prop :=
  ∃ v1 v2, E = .returned (.tuple #[v1, v2, .int .i64 (mergeL xs).e, .int .i64 ((mergeL xs).u : Nat)]) ∧ TOwn 34 w' w.heap.size v1 ((mergeL xs).si.map siV) ∧ GOwnV 9 w' w.heap.size v2 ((mergeL xs).ks.map Value.string) ∧ Below w.heap.size w w'
theorem mrgIs_err {xs : List Ob} {w w' : World} {e : Int} {u : Nat} (h : mergeL xs = ⟨[], [], e, u⟩) (hb : Below w.heap.size w w') : MrgIs xs w (.returned (.tuple #[.slice none 0 0, .slice none 0 0, .int .i64 e, .int .i64 (u : Nat)])) w' := by
  refine ⟨_, _, by rw [h], ?_, ?_, hb⟩
  · rw [h]; exact TOwn.nil _ _ _
  · rw [h]; exact GOwnV.nil _ _ _

set_option maxRecDepth 20000 in
set_option maxHeartbeats 4000000 in
theorem merge_refused (p : Option Addr) (n c : Nat) (xs : List Ob) (w : World) (hn : xs.length = n) (hn63 : n ≤ 9223372036854775807) (hx : Units w p xs) (he : (tabL xs).e ≠ 0) : Calls Tryz.prog 7 #[.slice p n c] w (MrgIs xs w) := by
  have hT := table_any p n c xs w hn hn63 hx
  have HM : Hid (mergeL xs = ⟨[], [], (tabL xs).e, (tabL xs).u⟩) := if_pos he
  clear hx hn
  unfold TabIs at hT
  generalize (tabL xs).e = te at *
  generalize (tabL xs).u = tu at *
  have hd : decide (te = 0) = false := decide_eq_false he
  go_enter Tryz.func7, Tryz.ntmps7
  go_wp2_with (go_at_call 23; refine hT.mono ?_; rintro e w1 ⟨v2, v3, rfl, -, -, hb1⟩; have HB1 := Hid.in hb1; clear hb1 hT)
  exact bodyPost_ret (v := .tuple #[.slice none 0 0, .slice none 0 0, .int .i64 te, .int .i64 (tu : Nat)]) (by simp [results, Tryz.results7, go_sem]) rfl (mrgIs_err HM.out HB1.out)

theorem slK_zero {p : Option Addr} {c : Nat} (h : (p = none ∧ c = 0) ∨ ∃ g, p = some ⟨g, 0, none⟩) : slK p 0 = p := by
  rcases h with ⟨rfl, _⟩ | ⟨g, rfl⟩ <;> rfl

/-- Merge, some units on -/
structure MrgAt (xs : List Ob) (w0 w : World) (B t kb nb mb bg kg : Nat) (v2 : Value) (p3 : Option Addr) (d3 : Nat) (vn vs : Value) (ks : List ByteArray) (T : List Si) : Prop where
  tbl : TblAt w B t kb nb mb vn vs ks T
  glo : PlcAt w bg kg (plcF Sy.g (labs 0 xs))
  st : GOwnV 3 w w0.heap.size v2 (startsV (begs 0 xs))
  lab : TOwn 67 w w0.heap.size (.slice p3 (labs 0 xs).length d3) ((labs 0 xs).map syV)
  bel : Below w0.heap.size w0 w
  good : GoodS T ks
  hB : B ≤ w.heap.size
  hw : w0.heap.size ≤ B
  h1 : bg ≠ nb
  h2 : bg ≠ mb
theorem MrgAt.below {xs : List Ob} {w0 w w' : World} {B t kb nb mb bg kg : Nat} {v2 : Value} {p3 : Option Addr} {d3 : Nat} {vn vs : Value} {ks : List ByteArray} {T : List Si} (h : MrgAt xs w0 w B t kb nb mb bg kg v2 p3 d3 vn vs ks T) (hb : Below w.heap.size w w') : MrgAt xs w0 w' B t kb nb mb bg kg v2 p3 d3 vn vs ks T :=
  ⟨h.tbl.below hb, h.glo.below hb, h.st.below hb, h.lab.below hb, below_step h.bel hb, h.good, Nat.le_trans h.hB hb.size, h.hw, h.h1, h.h2⟩

end Go.Proofs.YtckpgpgmaccepaaGreat

/- 'labels[:k]', 'labels[k:]' as equations. -/
namespace Go.Proofs.YtckpgpgmaccepaaGreat
open Go.RowKit

theorem slice_hi (q : Option Addr) (n5 d5 m : Nat) (W : World) (h : m ≤ d5) : (Instr.sliceAt 48 (.slice q n5 d5) none (some (.int .i64 m)) none).run Tryz.prog W = .ok (.slice (if d5 = 0 then q else q.map (·.add (0 * 3))) (m - 0) (d5 - 0)) W := by
  have h0 : (0 : Int) ≤ (m : Int) := by omega
  have h1 : (m : Int) ≤ (d5 : Int) := by omega
  simp [Instr.sliceAt, Instr.slice, Instr.sliceBounds, go_sem, Tryz.sizeOf67, h0, h1]
theorem slice_lo (q : Option Addr) (n5 d5 m : Nat) (W : World) (h : m ≤ n5) : (Instr.sliceAt 48 (.slice q n5 d5) (some (.int .i64 m)) none none).run Tryz.prog W = .ok (.slice (if d5 = m then q else q.map (·.add (m * 3))) (n5 - m) (d5 - m)) W := by
  have h0 : (0 : Int) ≤ (m : Int) := by omega
  have h1 : (m : Int) ≤ (n5 : Int) := by omega
  simp [Instr.sliceAt, Instr.slice, Instr.sliceBounds, go_sem, Tryz.sizeOf67, h0, h1]

/-- the same behind 'sliceAt' -/
theorem slice_hi' (q : Option Addr) (n5 d5 m : Nat) (W : World) (h : m ≤ d5) : (Instr.slice 48 (.slice q n5 d5) none (some (.int .i64 m)) none).run Tryz.prog W = .ok (.slice (if d5 = 0 then q else q.map (·.add (0 * 3))) (m - 0) (d5 - 0)) W := by
  rw [← slice_hi q n5 d5 m W h]
  simp [Instr.sliceAt, go_sem]
theorem slice_lo' (q : Option Addr) (n5 d5 m : Nat) (W : World) (h : m ≤ n5) : (Instr.slice 48 (.slice q n5 d5) (some (.int .i64 m)) none none).run Tryz.prog W = .ok (.slice (if d5 = m then q else q.map (·.add (m * 3))) (n5 - m) (d5 - m)) W := by
  rw [← slice_lo q n5 d5 m W h]
  simp [Instr.sliceAt, go_sem]
theorem slK_add (p : Option Addr) (k m : Nat) : (slK p k).map (·.add (m * 3)) = slK p (k + m) := by
  cases p with
  | none => rfl
  | some a =>
    show some ((⟨a.block, a.off + k * 3, none⟩ : Addr).add (m * 3)) = some ⟨a.block, a.off + (k + m) * 3, none⟩
    rw [Go.WideShapes.add_plain, show a.off + k * 3 + m * 3 = a.off + (k + m) * 3 by omega]

end Go.Proofs.YtckpgpgmaccepaaGreat

/- Merge's state behind a mark that was added. -/
namespace Go.Proofs.YtckpgpgmaccepaaGreat
open Go.RowKit Go.Maps Go.WideMaps

theorem MrgAt.added {xs : List Ob} {w0 w w' : World} {B t kb nb mb bg kg : Nat} {v2 : Value} {p3 : Option Addr} {d3 : Nat} {vn vs vn' vs' : Value} {ks ks' : List ByteArray} {T T' : List Si} (h : MrgAt xs w0 w B t kb nb mb bg kg v2 p3 d3 vn vs ks T) (hk : KeepsT B nb mb w w') (ht : TblAt w' B t kb nb mb vn' vs' ks' T') (hg : GoodS T' ks') : MrgAt xs w0 w' B t kb nb mb bg kg v2 p3 d3 vn' vs' ks' T' := by
  have hno : ∀ j cur e fr, w.heap[j]? = some (.cells cur e fr) → (e ≠ 76 ∧ e ≠ 79 ∧ e ≠ 9 ∧ e ≠ 34) → ¬ GB B nb mb w j := fun j cur e fr hj he => KeepsT.notCells hj he (map_ne hj h.tbl.num.map.isMap) (map_ne hj h.tbl.map.isMap)
  have hb := KeepsT.below hk h.hB
  refine ⟨ht, h.glo.keeps hk (KeepsT.notMap h.glo.isMap h.h1 h.h2), h.st.keeps hk (fun g hg => ?_), h.lab.keeps hk (fun g hg => ?_), ?_, hg, Nat.le_trans h.hB hk.size, h.hw, h.h1, h.h2⟩
  · rcases h.st.block with e | ⟨g', cur, e1, _, e3⟩
    · rw [e] at hg; cases hg
    · rw [e1] at hg; injection hg with hg; subst hg
      exact hno _ _ _ _ e3 (by decide)
  · rcases h.lab.block with e | ⟨g', cur, e1, _, e3⟩
    · rw [e] at hg; cases hg
    · rw [e1] at hg; injection hg with hg; subst hg
      exact hno _ _ _ _ e3 (by decide)
  · exact ⟨hb.os.trans h.bel.os, hb.tape.trans h.bel.tape, hb.output.trans h.bel.output, Nat.le_trans h.bel.size hb.size, fun j hj => (hb.block j (by have := h.hw; omega)).trans (h.bel.block j hj)⟩

end Go.Proofs.YtckpgpgmaccepaaGreat

/- Merge's state behind a mark that is refused, and behind the sorting. -/
namespace Go.Proofs.YtckpgpgmaccepaaGreat
open Go.RowKit Go.Maps Go.WideMaps

theorem MrgAt.belK {xs : List Ob} {w0 w w' : World} {B t kb nb mb bg kg : Nat} {v2 : Value} {p3 : Option Addr} {d3 : Nat} {vn vs : Value} {ks : List ByteArray} {T : List Si} (h : MrgAt xs w0 w B t kb nb mb bg kg v2 p3 d3 vn vs ks T) (hk : KeepsT B nb mb w w') : Below w0.heap.size w0 w' := by
  have hb := KeepsT.below hk h.hB
  exact ⟨hb.os.trans h.bel.os, hb.tape.trans h.bel.tape, hb.output.trans h.bel.output, Nat.le_trans h.bel.size hb.size, fun j hj => (hb.block j (by have := h.hw; omega)).trans (h.bel.block j hj)⟩
theorem MrgAt.res {xs : List Ob} {w0 w w' : World} {B t kb nb mb bg kg : Nat} {v2 : Value} {p3 : Option Addr} {d3 : Nat} {vn vs : Value} {ks : List ByteArray} {T : List Si} (h : MrgAt xs w0 w B t kb nb mb bg kg v2 p3 d3 vn vs ks T) (hk : KeepsT B nb mb w w') {b1 b2 bo ko : Nat} {F G : ByteArray → Option Int} (hR : ResAt w b1 b2 bo bg ko kg F G) (hbo : bo ≠ nb ∧ bo ≠ mb) : ResAt w' b1 b2 bo bg ko kg F G :=
  hR.keepsT hk h.tbl.num.map.isMap h.tbl.map.isMap hbo ⟨h.h1, h.h2⟩
theorem MrgAt.sorted {xs : List Ob} {w0 w w' : World} {B t kb nb mb bg kg : Nat} {v2 : Value} {p3 : Option Addr} {d3 : Nat} {vn vs : Value} {ks : List ByteArray} {T : List Si} (h : MrgAt xs w0 w B t kb nb mb bg kg v2 p3 d3 vn vs ks T) (hk : Keeps (fun j => vs.ownBlock = some j) w w') :
    Blk w' t 76 #[.pointer (some ⟨kb, 0, none⟩), vs, .map (some mb)] ∧ Blk w' kb 79 #[vn, .map (some nb)] ∧ GOwnV 9 w' B vn (ks.map Value.string) ∧ Below w0.heap.size w0 w' := by
  have hno : ∀ j cur e fr, w.heap[j]? = some (.cells cur e fr) → e ≠ 34 → ¬ vs.ownBlock = some j := fun j cur e fr hj he hh => by
    rcases h.tbl.own.block with e0 | ⟨g, cur', e1, _, e3⟩
    · rw [e0] at hh; cases hh
    · rw [e1] at hh; injection hh with hh
      exact cells_ne hj e3 he hh.symm
  refine ⟨(hk.block _ h.tbl.blk.lt (hno _ _ _ _ h.tbl.blk (by decide))).trans h.tbl.blk, (hk.block _ h.tbl.num.blk.lt (hno _ _ _ _ h.tbl.num.blk (by decide))).trans h.tbl.num.blk, h.tbl.num.own.keeps hk (fun g hg => ?_), ?_⟩
  · rcases h.tbl.num.own.block with e | ⟨g', cur, e1, _, e3⟩
    · rw [e] at hg; cases hg
    · rw [e1] at hg; injection hg with hg; subst hg
      exact hno _ _ _ _ e3 (by decide)
  · have hw := h.hw
    have hs := h.bel.size
    have hk' := hk.below (B := w0.heap.size) hs (fun j hj => by
      rcases h.tbl.own.block with e0 | ⟨g, cur', e1, e2, _⟩
      · rw [e0] at hj; cases hj
      · rw [e1] at hj; injection hj with hj; omega)
    exact ⟨hk'.os.trans h.bel.os, hk'.tape.trans h.bel.tape, hk'.output.trans h.bel.output, Nat.le_trans hs hk'.size, fun j hj => (hk'.block j hj).trans (h.bel.block j hj)⟩

/-- the marks' errors are Merge's -/
theorem merge_err {xs : List Ob} {i : Nat} {T : List Si} {ks : List ByteArray} {r : Mrg} (h0 : mergeL xs = if (unitsS xs 0 [] [] xs).e ≠ 0 then unitsS xs 0 [] [] xs else ⟨sortS (unitsS xs 0 [] [] xs).si, (unitsS xs 0 [] [] xs).ks, 0, 0⟩)
    {O : List Ob} {M : Mrg} (hU : unitsS xs 0 [] [] xs = if M.e ≠ 0 then ⟨[], [], M.e, i⟩ else unitsS xs (i + 1) T ks O) (hM : M = r) (hr : r.e ≠ 0) : mergeL xs = ⟨[], [], r.e, i⟩ := by
  subst hM
  rw [if_pos hr] at hU
  rw [hU] at h0
  rw [h0]
  exact if_pos hr
theorem merge_end {xs : List Ob} {T : List Si} {ks : List ByteArray} (h0 : mergeL xs = if (unitsS xs 0 [] [] xs).e ≠ 0 then unitsS xs 0 [] [] xs else ⟨sortS (unitsS xs 0 [] [] xs).si, (unitsS xs 0 [] [] xs).ks, 0, 0⟩) (hU : unitsS xs 0 [] [] xs = ⟨T, ks, 0, 0⟩) : mergeL xs = ⟨sortS T, ks, 0, 0⟩ := by
  rw [hU] at h0
  exact h0

end Go.Proofs.YtckpgpgmaccepaaGreat

/- sites.Merge, of a table that is not refused. -/
namespace Go.Proofs.YtckpgpgmaccepaaGreat
open Go.RowKit Go.Maps Go.WideMaps

set_option maxRecDepth 20000 in
set_option maxHeartbeats 4000000 in
theorem merge_good (p : Option Addr) (n c : Nat) (xs : List Ob) (w : World) (hn : xs.length = n) (hn63 : n ≤ 9223372036854775807) (hx : Units w p xs) (he : (tabL xs).e = 0) : Calls Tryz.prog 7 #[.slice p n c] w (MrgIs xs w) := by
  have hT := table_any p n c xs w hn hn63 hx
  obtain ⟨h16, ht, hok, hend, hgn⟩ := tab_good he
  have HN := Hid.in hn
  have HX := Hid.in hx
  have HE := Hid.in he
  have HLF := Hid.in (labs_fit he)
  have hfew := labs_few he
  have HU0 : Hid (mergeL xs = if (unitsS xs 0 [] [] xs).e ≠ 0 then unitsS xs 0 [] [] xs else ⟨sortS (unitsS xs 0 [] [] xs).si, (unitsS xs 0 [] [] xs).ks, 0, 0⟩) := if_neg (by simpa using he)
  have h16n : n ≤ 16 := by omega
  unfold TabIs at hT
  rw [ht] at hT
  dsimp only at hT
  have HOK := Hid.in hok
  clear hx hn hok hend hgn ht he hn63
  go_enter Tryz.func7, Tryz.ntmps7
  go_wp2_with (first
    | (go_at_call 23; refine hT.mono ?_; rintro e w1 ⟨v2, v3, rfl, ho2, ho3, hb1⟩; have HB1 := Hid.in hb1; obtain ⟨p2, d2, hv2, -, -, -⟩ := ho2.slice; have hl2 : (startsV (begs 0 xs)).length = n := (by unfold startsV; rw [List.length_map, begs_len]; exact HN.out); rw [hl2] at hv2; subst hv2; have HO2 := Hid.in ho2; obtain ⟨p3, d3, hv3, hl3, hm3, hp3⟩ := ho3.sl; rw [List.length_map] at hv3 hl3; subst hv3; have HO3 := Hid.in ho3; have HP3 := Hid.in hp3; clear hb1 hT ho2 ho3 hp3 hl2)
    | (go_at_call 26; refine (newTable_any w1).mono ?_; rintro e w2 ⟨t, kb, nb, mb, rfl, ht2, hb2⟩; have HT2 := Hid.in ht2; have HB2 := Hid.in hb2; have hr3 := (HO3.out.below hb2).rowAt 0 (labs 0 xs).length (by simp); clear ht2 hb2)
    | (go_at_call 27; refine (places28_any p3 (labs 0 xs).length d3 (labs 0 xs) w2 rfl (by omega) (by rw [List.drop_zero, List.take_of_length_le (by simp), slK_zero HP3.out] at hr3; exact hr3) HLF.out).mono ?_; rintro e w3 ⟨bg, kg, rfl, hbg, hkg, hG3, hb3⟩; have HG3 := Hid.in hG3; have HB3 := Hid.in hb3; clear hG3 hb3 hr3))
  have HMA : Hid (MrgAt xs w w3 w1.heap.size t kb nb mb bg kg (.slice p2 n d2) p3 d3 (.slice none 0 0) (.slice none 0 0) [] []) := by
    have hb23 := HB3.out
    have h1 := HT2.out.num.map.lt
    have h2 := HT2.out.map.lt
    exact ⟨HT2.out.below hb23, HG3.out, (HO2.out.below HB2.out).below hb23, (HO3.out.below HB2.out).below hb23, below_step (below_step HB1.out HB2.out) hb23, GoodS.nil, Nat.le_trans HB2.out.size hb23.size, HB1.out.size, by omega, by omega⟩
  clear HO2 HO3 HB1 HB2 HB3 HT2 HG3
  go_loopw [7, 35] (fun v7 vi wr => ∃ (i : Nat) (T : List Si) (ks : List ByteArray) (vn vs : Value), vi = .int .i64 i ∧ i ≤ n ∧ (∃ q, v7 = .slice q ((labs 0 xs).length - cntAt xs i) (d3 - cntAt xs i) ∧ (cntAt xs i < d3 → q = slK p3 (cntAt xs i))) ∧ MrgAt xs w wr w1.heap.size t kb nb mb bg kg (.slice p2 n d2) p3 d3 vn vs ks T ∧ unitsS xs 0 [] [] xs = unitsS xs i T ks (xs.drop i)) (fun _ vi _ => n - (intOf vi).toNat)
  case atStart => exact ⟨0, [], [], _, _, rfl, Nat.zero_le _, ⟨p3, by rw [cntAt_zero]; rfl, fun _ => by rw [cntAt_zero, slK_zero HP3.out]⟩, HMA.out, by rw [List.drop_zero]⟩
  case round =>
    obtain ⟨i, T, ks, vn, vs, rfl, hi, ⟨q, hV, hq⟩, hM, hU⟩ := hrel
    have HV := Hid.in hV
    have HQ := Hid.in hq
    clear hV hq
    have HM := Hid.in hM
    have HU := Hid.in hU
    clear hM hU HMA
    by_cases hlt : i < n
    · have hiX : i < xs.length := by rw [HN.out]; exact hlt
      obtain ⟨b, o, rfl, hcc⟩ := (HX.out) (by omega)
      obtain ⟨pb, ps, pf, pm, cb, cs, cf, cm, ⟨k0, k1, k2, k3⟩, hI⟩ := hcc i hiX
      have c0 := (HM.out.bel.cell (cell_lt k0)).trans k0
      have c1 := (HM.out.bel.cell (cell_lt k1)).trans k1
      have c2 := (HM.out.bel.cell (cell_lt k2)).trans k2
      have c3 := (HM.out.bel.cell (cell_lt k3)).trans k3
      have HIW : Hid (∀ W, Below w.heap.size w W → Row3 W pm (xs[i].mk_.map mkV)) := fun W hW => hI.rm.below hW
      have hmn := hI.km
      have hsn := hI.ks
      unfold maxLen at hmn hsn
      clear hcc hI k0 k1 k2 k3
      have HW4 := Hid.in (new_alloc wr (.cells #[.slice pb xs[i].bs.length cb, .slice ps xs[i].sy.length cs, .slice pf xs[i].fx.length cf, .slice pm xs[i].mk_.length cm] 56))
      have HM4 := Hid.in (HM.out.below HW4.out)
      have HO4 := Hid.in (Blk.new wr 56 #[.slice pb xs[i].bs.length cb, .slice ps xs[i].sy.length cs, .slice pf xs[i].fx.length cf, .slice pm xs[i].mk_.length cm])
      have hcn : cntAt xs i + xs[i].sy.length ≤ (labs 0 xs).length := by
        rw [labs_len, ← cntAt_succ xs i hiX]
        exact cntAt_le xs (i + 1) hiX
      have HC1 := Hid.in (cntAt_succ xs i hiX)
      have hokx := HOK.out _ (List.getElem_mem hiX)
      have HLD := Hid.in (labs_drop xs 0 i hiX)
      go_upto_region 9 with fail
      generalize wr.alloc (.cells #[.slice pb xs[i].bs.length cb, .slice ps xs[i].sy.length cs, .slice pf xs[i].fx.length cf, .slice pm xs[i].mk_.length cm] 56) = w4 at *
      generalize wr.heap.size = g4 at *
      clear c0 c1 c2 c3 HW4 HM
      have q1 : w4.cell? ⟨g4, 1, none⟩ = some (.slice ps xs[i].sy.length cs) := HO4.out.cell 1
      have hrow : Row3 w4 (slK p3 (cntAt xs i)) ((xs[i].sy.map (movS (nextS (endAt 0 xs i)))).map syV) := by
        have h1 := HM4.out.lab.rowAt (cntAt xs i) xs[i].sy.length (by rw [List.length_map]; exact hcn)
        rw [← List.map_drop, ← List.map_take, HLD.out] at h1
        rw [show xs[i].sy.length = (xs[i].sy.map (movS (nextS (endAt 0 xs i)))).length by simp, List.take_left] at h1
        exact h1
      obtain ⟨m, hm⟩ : ∃ m, xs[i].sy.length = m := ⟨_, rfl⟩
      obtain ⟨cn, hcnn⟩ : ∃ cn, cntAt xs i = cn := ⟨_, rfl⟩
      obtain ⟨n5, hn5⟩ : ∃ n5, (labs 0 xs).length - cn = n5 := ⟨_, rfl⟩
      obtain ⟨d5, hd5⟩ : ∃ d5, d3 - cn = d5 := ⟨_, rfl⟩
      rw [hm] at hcn q1 HC1
      rw [hcnn] at hcn HC1 HV HQ hrow
      rw [hn5, hd5] at HV
      have h5 : m ≤ n5 ∧ n5 ≤ d5 := by omega
      obtain ⟨q9, hq9⟩ : ∃ q9, (if d5 = 0 then q else q.map (·.add (0 * 3))) = q9 := ⟨_, rfl⟩
      obtain ⟨q10, hq10⟩ : ∃ q10, (if d5 = m then q else q.map (·.add (m * 3))) = q10 := ⟨_, rfl⟩
      have hs1 : ∀ W, Sem.run Tryz.prog (Instr.sliceAt 48 u7 none (some (.int .i64 m)) none) W = .ok (.slice q9 m d5) W := fun W => by rw [HV.out, ← hq9]; exact slice_hi q n5 d5 m W (by omega)
      have hs2 : ∀ W, Sem.run Tryz.prog (Instr.slice 48 u7 none (some (.int .i64 m)) none) W = .ok (.slice q9 m d5) W := fun W => by rw [HV.out, ← hq9]; exact slice_hi' q n5 d5 m W (by omega)
      have hs3 : ∀ W, Sem.run Tryz.prog (Instr.sliceAt 48 u7 (some (.int .i64 m)) none none) W = .ok (.slice q10 (n5 - m) (d5 - m)) W := fun W => by rw [HV.out, ← hq10]; exact slice_lo q n5 d5 m W (by omega)
      have hs4 : ∀ W, Sem.run Tryz.prog (Instr.slice 48 u7 (some (.int .i64 m)) none none) W = .ok (.slice q10 (n5 - m) (d5 - m)) W := fun W => by rw [HV.out, ← hq10]; exact slice_lo' q n5 d5 m W (by omega)
      have hrow9 : Row3 w4 q9 ((xs[i].sy.map (movS (nextS (endAt 0 xs i)))).map syV) := fun h0 => by
        have hm0 : 0 < m := by simp [hm] at h0; omega
        have e9 : q9 = slK p3 cn := by
          rw [← hq9, if_neg (by omega), HQ.out (by omega), slK_add, Nat.add_zero]
        rw [e9]
        exact hrow h0
      have HQ10 : Hid (cn + m < d3 → q10 = slK p3 (cn + m)) := fun h => by
        rw [← hq10, if_neg (by omega), HQ.out (by omega), slK_add]
      have hpl := places29_any q9 m d5 (xs[i].sy.map (movS (nextS (endAt 0 xs i)))) w4 (by simp [hm]) (by have := (ok_parts hokx).2.1; omega) hrow9 (fun s hs => HLF.out s (by
        obtain ⟨x, hx, rfl⟩ := List.mem_map.1 hs
        exact labs_mem hiX hx))
      clear hrow HLD hrow9 hq9 hq10 HV
      have hwm : m ≤ 4096 := by have := (ok_parts hokx).2.1; omega
      have HMR : Hid (xs[i].mk_.length ≤ 4096) := ok_few hokx
      go_wp2_with (first
        | (go_at_call 27; refine hpl.mono ?_; rintro e w5 ⟨bo, ko, rfl, hbo, -, h3, h4⟩; have HP5 := Hid.in h3; have HB5 := Hid.in h4; have HM5 := Hid.in (HM4.out.below h4); have HO5 := Hid.in (HO4.out.grow h4); have q5 : w5.cell? ⟨g4, 1, none⟩ = some (.slice ps m cs) := (by have := HO5.out.cell 1; simp only [hm] at this; exact this); clear h3 h4 hpl)
        | (go_at_call 30; refine (resolver_any bo bg w5).mono ?_; rintro e w6 ⟨rfl, h3, h4, h6⟩; have HR6 : Hid (ResAt w6 w5.heap.size (w5.heap.size + 1) bo bg ko kg (plcF (fun _ => true) (xs[i].sy.map (movS (nextS (endAt 0 xs i))))) (plcF Sy.g (labs 0 xs))) := ⟨h3, h4, HP5.out.below h6, HM5.out.glo.below h6⟩; have HM6 := Hid.in (HM5.out.below h6); have q6 : w6.cell? ⟨g4, 3, none⟩ = some (.slice pm xs[i].mk_.length cm) := (HO5.out.grow h6).cell 3; clear h3 h4 h6))
      generalize w5.heap.size = b1 at *
      have HSS : Hid ((tabL xs).ss.getD i 0 = nextS (endAt 0 xs i)) := ss_at HE.out hiX
      have HBS : Hid (nextS (endAt 0 xs i) ≤ 65536) := by
        have h1 := (tab_good HE.out).2.2.2.1 (i + 1) hiX
        rw [endAt_succ xs 0 i hiX] at h1
        have h2 : nextS (endAt 0 xs i) ≤ 65536 := by omega
        exact h2
      have HRM : Hid (resP (plcF (fun _ => true) (xs[i].sy.map (movS (nextS (endAt 0 xs i))))) (plcF Sy.g (labs 0 xs)) = resL xs i) := funext (res_maps HE.out hiX)
      have HRI : Hid (∀ s d, resF (plcF (fun _ => true) (xs[i].sy.map (movS (nextS (endAt 0 xs i))))) (plcF Sy.g (labs 0 xs)) s = some d → 0 ≤ d ∧ d ≤ 200000) := fun s d => resF_in HE.out hiX
      have HMK : Hid (∀ x ∈ xs[i].mk_, x.key.size ≤ 16 ∧ x.to_.size ≤ 16 ∧ 0 ≤ x.at_ ∧ x.at_ ≤ 65536) := fun x hx => ok_mk hokx hx
      have HST : Hid (∃ b2 o2, p2 = some ⟨b2, o2, none⟩ ∧ ∀ W vn vs ks T, MrgAt xs w W w1.heap.size t kb nb mb bg kg (.slice p2 n d2) p3 d3 vn vs ks T → W.cell? ⟨b2, o2 + i, none⟩ = some (.int .i64 (nextS (endAt 0 xs i) : Nat))) := by
        have hlen : (startsV (begs 0 xs)).length = n := by unfold startsV; rw [List.length_map, begs_len]; exact HN.out
        have hval : (startsV (begs 0 xs))[i]? = some (.int .i64 (nextS (endAt 0 xs i) : Nat)) := by
          unfold startsV
          rw [List.getElem?_map, List.getElem?_eq_getElem (by rw [begs_len]; exact hiX), begs_at xs 0 i hiX]
          rfl
        obtain ⟨pz, cz, e1, hr, -, -⟩ := HM6.out.st.slice
        injection e1 with e1 _ _
        subst e1
        obtain ⟨b2, o2, rfl, -⟩ := hr (by omega)
        refine ⟨b2, o2, rfl, fun W vn vs ks T hW => ?_⟩
        obtain ⟨pz, cz, e1, hr, -, -⟩ := hW.st.slice
        injection e1 with e1 _ _
        subst e1
        obtain ⟨b2', o2', e2, hc⟩ := hr (by omega)
        injection e2 with e2
        injection e2 with e2 e3 _
        subst e2 e3
        rw [hc i (by omega)]
        exact hval
      have HUS := Hid.in (HU.out.trans (unitsS_step (T := T) (ks := ks) hiX))
      generalize plcF (fun _ => true) (xs[i].sy.map (movS (nextS (endAt 0 xs i)))) = F at *
      generalize plcF Sy.g (labs 0 xs) = G at *
      have hbob : bo ≠ nb ∧ bo ≠ mb := by
        have h1 := HM4.out.tbl.num.map.lt
        have h2 := HM4.out.tbl.map.lt
        omega
      obtain ⟨b2, o2, rfl, hst⟩ := HST.out
      have HS2 := Hid.in hst
      clear hst HST HM4 HM5 HO4 HO5 HP5 HB5 q1 q5 q6 hs1 hs2 hs3 hs4
      go_loopw [57] (fun vj ws => ∃ (j : Nat) (T' : List Si) (ks' : List ByteArray) (vn' vs' : Value), vj = .int .i64 j ∧ j ≤ xs[i].mk_.length ∧ MrgAt xs w ws w1.heap.size t kb nb mb bg kg (.slice (some ⟨b2, o2, none⟩) n d2) p3 d3 vn' vs' ks' T' ∧ ResAt ws b1 (b1 + 1) bo bg ko kg F G ∧ marksS (resL xs i) (nextS (endAt 0 xs i)) T ks xs[i].mk_ = marksS (resL xs i) (nextS (endAt 0 xs i)) T' ks' (xs[i].mk_.drop j)) (fun vj _ => xs[i].mk_.length - (intOf vj).toNat)
      case atStart => exact ⟨0, T, ks, vn, vs, rfl, Nat.zero_le _, HM6.out, HR6.out, by rw [List.drop_zero]⟩
      case round =>
        obtain ⟨j, T', ks', vn', vs', rfl, hj, hM7, hR7, hE7⟩ := hrel
        have HM7 := Hid.in hM7
        have HR7 := Hid.in hR7
        have HE7 := Hid.in hE7
        clear hM7 hR7 hE7 HM6 HR6
        by_cases hlj : j < xs[i].mk_.length
        · obtain ⟨b3, o3, rfl, hc3⟩ := (HIW.out _ HM7.out.bel) (by rw [List.length_map]; omega)
          obtain ⟨e0, e1, e2⟩ := cells3 hc3 j (by rw [List.length_map]; exact hlj)
          simp only [List.getElem_map, mkV] at e0 e1 e2
          clear hc3
          obtain ⟨hk1, hk2, hk3⟩ := HMK.out _ (List.getElem_mem hlj)
          have HSTP := Hid.in (HE7.out.trans (marksS_step (res := resL xs i) (b := nextS (endAt 0 xs i)) (T := T') (ks := ks') hlj))
          obtain ⟨m0, m1, m2, hx⟩ : ∃ m0 m1 m2, xs[i].mk_[j] = ⟨m0, m1, m2⟩ := ⟨_, _, _, rfl⟩
          rw [hx] at e0 e1 e2 hk1 hk2 hk3 HSTP
          clear hx
          dsimp only at e0 e1 e2 hk1 hk2 hk3
          have HW8 := Hid.in (new_alloc wr (.cells #[.int .i64 m0, .string m1, .string m2] 58))
          have HM8 := Hid.in (HM7.out.below HW8.out)
          have HR8 := Hid.in (HR7.out.below HW8.out)
          have HX8 := Hid.in (Blk.new wr 58 #[.int .i64 m0, .string m1, .string m2])
          have hgd := HM7.out.good
          have HGS : Hid ((stepM (resL xs i) (nextS (endAt 0 xs i)) T' ks' ⟨m0, m1, m2⟩).e = 0 → GoodS (stepM (resL xs i) (nextS (endAt 0 xs i)) T' ks' ⟨m0, m1, m2⟩).si (stepM (resL xs i) (nextS (endAt 0 xs i)) T' ks' ⟨m0, m1, m2⟩).ks) := fun e => by
            obtain ⟨h1, h2, -⟩ := stepM_good hgd e
            rw [h1]; exact h2
          go_upto_region 15 with fail
          generalize wr.alloc (.cells #[.int .i64 m0, .string m1, .string m2] 58) = w8 at *
          generalize wr.heap.size = g8 at *
          have hbd := below_draws (below_self w8) 1
          have hadd := add_any w1.heap.size t kb nb mb b1 (b1 + 1) bo bg ko kg F G vn' vs' ks' T' ⟨m0, m1, m2⟩ (nextS (endAt 0 xs i)) w8.drew (HM8.out.tbl.below hbd) (HR8.out.below hbd) hbob ⟨HM8.out.h1, HM8.out.h2⟩ HBS.out hk3 (show m1.size ≤ _ by omega) (show m2.size ≤ _ by unfold maxLen; omega) (HRI.out _) (by have := hgd.few; omega) (by have := hgd.kl; omega) HM8.out.hB
          rw [HRM.out] at hadd
          clear e0 e1 e2 HM7 HR7 HE7 HW8
          have x0 : w8.cell? ⟨g8, 0, none⟩ = some (.int .i64 m0) := HX8.out.cell 0
          have x1 : w8.cell? ⟨g8, 1, none⟩ = some (.string m1) := HX8.out.cell 1
          have x2 : w8.cell? ⟨g8, 2, none⟩ = some (.string m2) := HX8.out.cell 2
          have y0 := HS2.out w8 _ _ _ _ HM8.out
          have HKD := Hid.in (KeepsT.ofBelow (B := w1.heap.size) (nb := nb) (mb := mb) hbd)
          clear hbd
          by_cases he8 : (stepM (resL xs i) (nextS (endAt 0 xs i)) T' ks' ⟨m0, m1, m2⟩).e = 0
          · rw [he8] at hadd
            go_region_with (go_at_call 31; refine hadd.mono ?_; rintro e w9 ⟨rfl, ht9, hk9⟩; have HT9 := Hid.in (ht9 rfl); have HK9 := Hid.in (KeepsT.trans HKD.out hk9); clear ht9 hk9 hadd)
            all_goals
              obtain ⟨vn9, vs9, ht9⟩ := HT9.out
              have HM9 := Hid.in (HM8.out.added HK9.out ht9 (HGS.out he8))
              have HR9 := Hid.in (HM8.out.res HK9.out HR8.out hbob)
              have HE9 := Hid.in (HSTP.out.trans (if_neg (fun h => h he8)))
              clear HT9 ht9 HK9 HM8 HR8 HSTP HGS
              go_wp2_with fail
              go_roundw
              case rel => exact ⟨j + 1, _, _, vn9, vs9, by go_num, by omega, HM9.out, HR9.out, HE9.out⟩
              case measure => simp [intOf]; omega
          · have HUZ := HUS.out
            rw [HSS.out] at HUZ
            have HER := Hid.in (fun w' hb => mrgIs_err (xs := xs) (w := w) (w' := w') (merge_err HU0.out HUZ (HSTP.out.trans (if_pos he8)) he8) hb)
            clear HUZ
            generalize (stepM (resL xs i) (nextS (endAt 0 xs i)) T' ks' ⟨m0, m1, m2⟩).e = ee at *
            have hd8 : decide (ee = 0) = false := decide_eq_false he8
            go_region_with (go_at_call 31; refine hadd.mono ?_; rintro e w9 ⟨rfl, -, hk9⟩; have HB9 := Hid.in (HM8.out.belK (KeepsT.trans HKD.out hk9)); clear hk9 hadd)
            all_goals
              go_wp2_with fail
              exact bodyPost_ret (v := .tuple #[.slice none 0 0, .slice none 0 0, .int .i64 ee, .int .i64 (i : Nat)]) (by simp [results, Tryz.results7, go_sem]) rfl (HER.out _ HB9.out)
        · have HEI : Hid (marksS (resL xs i) (nextS (endAt 0 xs i)) T ks xs[i].mk_ = ⟨T', ks', 0⟩) := by
            have h := HE7.out
            rw [List.drop_eq_nil_of_le (by omega)] at h
            exact h
          have HUI : Hid (unitsS xs 0 [] [] xs = unitsS xs (i + 1) T' ks' (xs.drop (i + 1))) := by
            have h := HUS.out
            rw [HSS.out, HEI.out] at h
            exact h.trans (if_neg (fun h => h rfl))
          have HVI : Hid (.slice q10 (n5 - m) (d5 - m) = Value.slice q10 ((labs 0 xs).length - cntAt xs (i + 1)) (d3 - cntAt xs (i + 1)) ∧ (cntAt xs (i + 1) < d3 → q10 = slK p3 (cntAt xs (i + 1)))) := by
            have e := HC1.out
            rw [e]
            exact ⟨by rw [← hn5, ← hd5, Nat.sub_sub, Nat.sub_sub], HQ10.out⟩
          clear HEI HE7 HR7 HUS
          go_wp2_with fail
          go_roundw
          case rel => exact ⟨i + 1, T', ks', vn', vs', by go_num, by omega, ⟨q10, HVI.out.1, HVI.out.2⟩, HM7.out, HUI.out⟩
          case measure => simp [intOf]; omega
    · have HME : Hid (mergeL xs = ⟨sortS T, ks, 0, 0⟩) := by
        have h := HU.out
        rw [List.drop_eq_nil_of_le (by rw [HN.out]; omega)] at h
        exact merge_end HU0.out h
      obtain ⟨ps, es, hvs, -, -, -⟩ := HM.out.tbl.own.shape
      rw [List.length_map] at hvs
      subst hvs
      have c1 : wr.cell? ⟨t, 1, none⟩ = some (.slice ps T.length es) := HM.out.tbl.blk.cell 1
      have hso := sortS_any _ _ T wr HM.out.tbl.own (by have := HM.out.good.few; omega)
      have HDS := Hid.in HM.out.good.dis
      have HWB := Hid.in HM.out.hw
      clear HV HQ
      go_wp2_with (go_at_call 32; refine hso.mono ?_; rintro e wz ⟨rfl, TT, hp1, hp2, ho, hk⟩; obtain ⟨z1, z2, z3, z4⟩ := HM.out.sorted hk; have hTT := sort_same HDS.out hp1 hp2; rw [hTT] at ho; have HO := Hid.in ho; have HZ3 := Hid.in z3; have HZ4 := Hid.in z4; have k0 : wz.cell? ⟨t, 0, none⟩ = some (.pointer (some ⟨kb, 0, none⟩)) := z1.cell 0; have k1 : wz.cell? ⟨t, 1, none⟩ = some (.slice ps T.length es) := z1.cell 1; have k2 : wz.cell? ⟨kb, 0, none⟩ = some vn := z2.cell 0; clear hso hp1 hp2 ho hk hTT z1 z2 z3 z4)
      go_quiet (fail)
      go_wp2_with fail
      refine bodyPost_ret (v := .tuple #[.slice ps T.length es, vn, .int .i64 0, .int .i64 0]) (by simp [results, Tryz.results7, go_sem]) rfl ⟨.slice ps T.length es, vn, by rw [HME.out]; rfl, ?_, ?_, ?_⟩
      · rw [HME.out]
        exact (HO.out.lower HWB.out).drewN _
      · rw [HME.out]
        exact (HZ3.out.lowerV HWB.out).drewN _
      · exact below_draws HZ4.out _

theorem merge_any (p : Option Addr) (n c : Nat) (xs : List Ob) (w : World) (hn : xs.length = n) (hn63 : n ≤ 9223372036854775807) (hx : Units w p xs) : Calls Tryz.prog 7 #[.slice p n c] w (MrgIs xs w) := by
  by_cases he : (tabL xs).e = 0
  · exact merge_good p n c xs w hn hn63 hx he
  · exact merge_refused p n c xs w hn hn63 hx he

end Go.Proofs.YtckpgpgmaccepaaGreat
