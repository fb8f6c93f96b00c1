/- Texts put together: SymL, SymS, SymW. -/
import Derived.Test.YtkianldkbfjehaaGreatDoorKzq
import Derived.Test.YtkianldkbfjehaaGreatDoorKs
import Derived.Laws.OwnMore
import Derived.Test.YtkianldkbfjehaaGreatDoorKe
import Derived.Deep.RegionLaw

/- The labels of items, as lists: which are twice, which globals lack one, the symbols. -/
namespace Go.Proofs.YtkianldkbfjehaaGreatDoor
open Go.RowKit

def labN : List Src → List ByteArray
  | [] => []
  | x :: xs => if x.k = 1 then x.name :: labN xs else labN xs
def gloN : List Src → List ByteArray
  | [] => []
  | x :: xs => if x.k = 7 then x.name :: gloN xs else gloN xs
def labP : List Src → List Nat → List (ByteArray × Nat)
  | x :: xs, a :: bs => if x.k = 1 then (x.name, a) :: labP xs bs else labP xs bs
  | _, _ => []
/-- the first label whose name one ahead has -/
def dupAt (i : Nat) (seen : List ByteArray) : List Src → Option Nat
  | [] => none
  | x :: xs => if x.k = 1 then (if inB x.name seen = true then some i else dupAt (i + 1) (seen ++ [x.name]) xs) else dupAt (i + 1) seen xs
/-- the first global that no label has -/
def undAt (i : Nat) (ns : List ByteArray) : List Src → Option Nat
  | [] => none
  | x :: xs => if x.k = 7 ∧ inB x.name ns = false then some i else undAt (i + 1) ns xs
def symV (gs : List ByteArray) (q : ByteArray × Nat) : V3 := (.string q.1, .int .i64 q.2, .bool (inB q.1 gs))
def symsL (xs : List Src) (ps : List Nat) : List V3 := (labP xs ps).map (symV (gloN xs))
theorem labN_app : ∀ xs ys : List Src, labN (xs ++ ys) = labN xs ++ labN ys
  | [], _ => rfl
  | x :: xs, ys => by
    simp only [List.cons_append, labN, labN_app xs ys]
    split <;> rfl
theorem gloN_app : ∀ xs ys : List Src, gloN (xs ++ ys) = gloN xs ++ gloN ys
  | [], _ => rfl
  | x :: xs, ys => by
    simp only [List.cons_append, gloN, gloN_app xs ys]
    split <;> rfl
theorem labN_take (xs : List Src) (k : Nat) (h : k < xs.length) : labN (xs.take (k + 1)) = labN (xs.take k) ++ if xs[k].k = 1 then [xs[k].name] else [] := by
  rw [List.take_succ_eq_append_getElem h, labN_app]; rfl
theorem gloN_take (xs : List Src) (k : Nat) (h : k < xs.length) : gloN (xs.take (k + 1)) = gloN (xs.take k) ++ if xs[k].k = 7 then [xs[k].name] else [] := by
  rw [List.take_succ_eq_append_getElem h, gloN_app]; rfl
theorem labP_take : ∀ (xs : List Src) (ps : List Nat) (k : Nat) (h : k < xs.length) (h' : k < ps.length), labP (xs.take (k + 1)) (ps.take (k + 1)) = labP (xs.take k) (ps.take k) ++ if xs[k].k = 1 then [(xs[k].name, ps[k])] else []
  | x :: xs, a :: bs, 0, _, _ => by simp [labP]
  | x :: xs, a :: bs, k + 1, h, h' => by
    have ih := labP_take xs bs k (by simpa using h) (by simpa using h')
    simp only [List.take_succ_cons, labP, List.getElem_cons_succ]
    rw [ih]
    by_cases hx : x.k = 1
    · rw [if_pos hx, if_pos hx]; rfl
    · rw [if_neg hx, if_neg hx]
theorem labP_fst : ∀ (xs : List Src) (ps : List Nat), xs.length = ps.length → (labP xs ps).map Prod.fst = labN xs
  | [], [], _ => rfl
  | x :: xs, a :: bs, h => by
    have ih := labP_fst xs bs (by simpa using h)
    unfold labP labN
    split
    · rw [List.map_cons, ih]
    · exact ih
theorem labN_len : ∀ xs : List Src, (labN xs).length ≤ xs.length
  | [] => Nat.le_refl _
  | x :: xs => by
    have := labN_len xs
    unfold labN
    split <;> (simp; omega)
theorem dup_step (xs : List Src) (k : Nat) (seen : List ByteArray) (h : k < xs.length) : dupAt k seen (xs.drop k) = if xs[k].k = 1 then (if inB xs[k].name seen = true then some k else dupAt (k + 1) (seen ++ [xs[k].name]) (xs.drop (k + 1))) else dupAt (k + 1) seen (xs.drop (k + 1)) := by
  rw [List.drop_eq_getElem_cons h]; rfl
theorem und_step (xs : List Src) (k : Nat) (ns : List ByteArray) (h : k < xs.length) : undAt k ns (xs.drop k) = if xs[k].k = 7 ∧ inB xs[k].name ns = false then some k else undAt (k + 1) ns (xs.drop (k + 1)) := by
  rw [List.drop_eq_getElem_cons h]; rfl
theorem inB_no {s : ByteArray} {ns : List ByteArray} (h : ¬ inB s ns = true) : s ∉ ns := fun hm => h ((inB_iff s ns).2 hm)
/-- labels of which none is twice -/
theorem dup_none : ∀ (xs : List Src) (i : Nat) (seen : List ByteArray), dupAt i seen xs = none → seen.Nodup → (seen ++ labN xs).Nodup
  | [], _, seen, _, hs => by rw [labN, List.append_nil]; exact hs
  | x :: xs, i, seen, h, hs => by
    unfold dupAt at h
    unfold labN
    split at h
    · rename_i hk
      split at h
      · cases h
      · rename_i hn
        rw [if_pos hk]
        have := dup_none xs (i + 1) (seen ++ [x.name]) h (by
          rw [List.nodup_append]
          exact ⟨hs, by simp, fun a ha b hb e => by
            rw [List.mem_singleton] at hb
            subst hb; subst e
            exact inB_no hn ha⟩)
        rw [List.append_assoc] at this
        exact this
    · rename_i hk
      rw [if_neg hk]
      exact dup_none xs (i + 1) seen h hs

end Go.Proofs.YtkianldkbfjehaaGreatDoor

/- A global's store into the symbols: one cell of a row of three-cell elements. -/
namespace Go.Proofs.YtkianldkbfjehaaGreatDoor
open Go.RowKit

theorem c3_set : ∀ (L : List V3) (i : Nat) (h : i < L.length) (u : Value), (c3 L).set (i * 3 + 2) u = c3 (L.set i (L[i].1, L[i].2.1, u))
  | [], _, h, _ => absurd h (by simp)
  | (a, b, c) :: L, 0, _, u => by simp [c3, l3]
  | (a, b, c) :: L, i + 1, h, u => by
    have ih := c3_set L i (by simpa using h) u
    unfold c3 at *
    rw [List.set_cons_succ, List.flatMap_cons, List.flatMap_cons, show (i + 1) * 3 + 2 = (i * 3 + 2) + 1 + 1 + 1 by omega]
    simp only [l3, List.cons_append, List.nil_append, List.set_cons_succ, List.getElem_cons_succ]
    rw [ih]
theorem TOwn.setThird {T : TypeId} {w : World} {B g cap : Nat} {L : List V3} (h : TOwn T w B (.slice (some ⟨g, 0, none⟩) L.length cap) L) (i : Nat) (hi : i < L.length) (u : Value) :
    TOwn T (w.setCell ⟨g, i * 3 + 2, none⟩ u) B (.slice (some ⟨g, 0, none⟩) L.length cap) (L.set i (L[i].1, L[i].2.1, u)) ∧ w.grownBy (w.setCell ⟨g, i * 3 + 2, none⟩ u) (some g) := by
  obtain ⟨h1, h2⟩ := World.ownsRow.stored h (i * 3 + 2) u
  refine ⟨?_, h2⟩
  unfold TOwn
  rw [List.length_set, ← c3_set]
  exact h1
theorem inB_snoc (t s : ByteArray) (gs : List ByteArray) : inB t (gs ++ [s]) = (inB t gs || decide (t = s)) := by
  rw [Bool.eq_iff_iff, inB_iff, Bool.or_eq_true, inB_iff, decide_eq_true_eq]; simp
theorem syms_set (LP : List (ByteArray × Nat)) (gs : List ByteArray) (s : ByteArray) (i : Nat) (hi : i < LP.length) (hs : LP[i].1 = s) (hnd : (LP.map Prod.fst).Nodup) :
    (LP.map (symV gs)).set i (.string s, .int .i64 LP[i].2, .bool true) = LP.map (symV (gs ++ [s])) := by
  refine List.ext_getElem (by simp) fun j h1 h2 => ?_
  have hj : j < LP.length := by simpa using h2
  rw [List.getElem_set, List.getElem_map, List.getElem_map]
  by_cases e : i = j
  · subst e
    rw [if_pos rfl]
    unfold symV
    rw [inB_snoc, hs]
    simp
  · rw [if_neg e]
    unfold symV
    have hne : LP[j].1 ≠ s := fun e' => e (by
      have := (List.getElem_inj (h₀ := by simpa using hi) (h₁ := by simpa using hj) hnd).1 (by rw [List.getElem_map, List.getElem_map, hs, e'])
      exact this)
    rw [inB_snoc, decide_eq_false hne, Bool.or_false]
/-- a name that is no label's leaves them -/
theorem inB_at {s : ByteArray} {ns : List ByteArray} (h : inB s ns = true) : ∃ i, ∃ hi : i < ns.length, ns[i] = s := List.getElem_of_mem ((inB_iff s ns).1 h)

end Go.Proofs.YtkianldkbfjehaaGreatDoor

/- object.symbolsOf, for every list of items with their places. -/
namespace Go.Proofs.YtkianldkbfjehaaGreatDoor
open Go.RowKit Go.Maps

/-- a map's block is no row's -/
theorem tn_ne {T : TypeId} {w : World} {B b : Nat} {v : Value} {L : List V3} {ns : List ByteArray} (h : TOwn T w B v L) (hm : NamAt w b ns) : v = .slice none 0 0 ∨ v.ownBlock ≠ some b := by
  obtain ⟨D, ⟨es, clock, e, _⟩, _⟩ := hm
  rcases h.2 with ⟨e1, _⟩ | ⟨g, cap, cur, e1, _, e3, _⟩
  · exact .inl e1
  · refine .inr ?_
    rw [e1]
    simp only [Value.ownBlock]
    intro ee
    injection ee with ee
    subst ee
    rw [e3] at e
    injection e with e
    cases e
theorem tn_ne2 {T : TypeId} {w : World} {B b : Nat} {v : Value} {L : List V3} {ns : List ByteArray} (h : TOwn T w B v L) (hm : NamAt w b ns) : some b ≠ v.ownBlock := by
  rcases tn_ne h hm with e | e
  · rw [e]; simp [Value.ownBlock]
  · exact fun e' => e e'.symm
theorem TOwn.kept {T : TypeId} {w w' : World} {B : Nat} {row : Option Nat} {v : Value} {L : List V3} (h : TOwn T w B v L) (hg : w.grownBy w' row) (hne : v = .slice none 0 0 ∨ v.ownBlock ≠ row) : TOwn T w' B v L :=
  World.ownsRow.kept h hg (hne.imp (fun e => by rw [e]; rfl) id)
/-- a label's store of 'Global' -/
theorem sym_store {w : World} {B g cap : Nat} (LP : List (ByteArray × Nat)) (gs : List ByteArray) (s : ByteArray) (i : Nat) (hi : i < LP.length) (hs : LP[i].1 = s) (hnd : (LP.map Prod.fst).Nodup)
    (h : TOwn 36 w B (.slice (some ⟨g, 0, none⟩) LP.length cap) (LP.map (symV gs))) :
    TOwn 36 (w.setCell ⟨g, i * 3 + 2, none⟩ (.bool true)) B (.slice (some ⟨g, 0, none⟩) LP.length cap) (LP.map (symV (gs ++ [s]))) ∧ w.grownBy (w.setCell ⟨g, i * 3 + 2, none⟩ (.bool true)) (some g) ∧ w.frozen? ⟨g, i * 3 + 2, none⟩ = false := by
  have e : LP.length = (LP.map (symV gs)).length := (List.length_map ..).symm
  have hi2 : i < (LP.map (symV gs)).length := by rw [← e]; exact hi
  rw [e] at h ⊢
  obtain ⟨h1, h2⟩ := TOwn.setThird h i hi2 (.bool true)
  refine ⟨?_, h2, World.ownsRow.frozenAt (n := (LP.map (symV gs)).length) h (i * 3 + 2)⟩
  have e2 : ((LP.map (symV gs))[i].1, (LP.map (symV gs))[i].2.1, Value.bool true) = (.string s, .int .i64 LP[i].2, .bool true) := by
    rw [List.getElem_map, ← hs]; rfl
  rw [e2, syms_set LP gs s i hi hs hnd] at h1
  exact h1
def SymIs (xs : List Src) (ps : List Nat) (w : World) (E : Ending) (w' : World) : Prop :=
  Below w.heap.size w w' ∧ match dupAt 0 [] xs with
  | some i => E = .returned (.tuple #[.slice none 0 0, .int .i64 170, .int .i64 (i : Nat)])
  | none => match undAt 0 (labN xs) xs with
    | some i => E = .returned (.tuple #[.slice none 0 0, .int .i64 171, .int .i64 (i : Nat)])
    | none => ∃ v, E = .returned (.tuple #[v, .int .i64 0, .int .i64 0]) ∧ TOwn 36 w' w.heap.size v (symsL xs ps)

set_option maxRecDepth 20000 in
set_option maxHeartbeats 2000000 in
theorem symbolsOf_any (p q : Option Addr) (n c d : Nat) (xs : List Src) (ps : List Nat) (w : World) (hn : xs.length = n) (hps : ps.length = n) (hn4 : n ≤ 4096) (hx : Items w p xs) (hq : GRow w q (nums (ints ps))) :
    Calls Tryz.prog 24 #[.slice p n c, .slice q n d] w (SymIs xs ps w) := by
  have HX := Hid.in hx
  have HQ := Hid.in hq
  have HN := Hid.in hn
  have HP := Hid.in hps
  clear hx hq hn hps
  have hmm := @run_makeMap Tryz.prog
  go_enter Tryz.func24, Tryz.ntmps24
  go_wp2_with fail
  have HB0 : Hid (Below w.heap.size w (w.alloc (.map #[] 0))) := new_alloc w _
  have HN0 := Hid.in (NamAt.made w)
  generalize w.alloc (.map #[] 0) = w1 at *
  generalize hbm : w.heap.size = bm at *
  have HBM := Hid.in hbm
  clear hbm hmm
  go_loopw [7, 18] (fun v i wr => ∃ k : Nat, k ≤ n ∧ i = .int .i64 k ∧ dupAt 0 [] xs = dupAt k (labN (xs.take k)) (xs.drop k) ∧ NamAt wr bm (labN (xs.take k)) ∧ TOwn 36 wr bm v ((labP (xs.take k) (ps.take k)).map (symV [])) ∧ Below bm w wr) (fun _ i _ => n - (intOf i).toNat)
  case atStart => exact ⟨0, Nat.zero_le _, rfl, rfl, HN0.out, by simp only [List.take_zero, labP, List.map_nil]; exact TOwn.nil _ _ _, HB0.out⟩
  case round =>
    obtain ⟨k, hk, rfl, hdu, hna, hV, hb⟩ := hrel
    have HDU := Hid.in hdu
    have HNA := Hid.in hna
    have HV := Hid.in hV
    have HB : Hid (Below w.heap.size w wr) := HBM.out ▸ hb
    have HLL : Hid (((labP (xs.take k) (ps.take k)).map (symV [])).length = (labN (xs.take k)).length) := by
      rw [List.length_map, ← labP_fst (xs.take k) (ps.take k) (by rw [List.length_take, List.length_take, HN.out, HP.out]), List.length_map]; exact rfl
    obtain ⟨pv, cv, hv, -, -, -⟩ := hV.shape
    subst hv
    have hnl := labN_len (xs.take k)
    rw [List.length_take] at hnl
    clear hdu hna hV hb
    by_cases hlt : k < n
    · have hkx : k < xs.length := by rw [HN.out]; exact hlt
      have hkp : k < ps.length := by rw [HP.out]; exact hlt
      obtain ⟨b, o, hp, hc⟩ := HX.out (by omega)
      subst hp
      obtain ⟨bq, oq, hqq, hcq⟩ := HQ.out (by simp [nums, ints]; omega)
      subst hqq
      obtain ⟨qd, cq, hR, -, hfit⟩ := hc k hkx
      have HDS := Hid.in (dup_step xs k (labN (xs.take k)) hkx)
      have HNS := Hid.in (labN_take xs k hkx)
      have HPS := Hid.in (labP_take xs ps k hkx hkp)
      have hcp : w.cell? ⟨bq, oq + k, none⟩ = some (.int .i64 ps[k]) := (hcq k (by simp [nums, ints]; omega)).trans (by simp [nums, ints, hkp])
      generalize (labP (xs.take k) (ps.take k)) = LP at *
      generalize hLQ : LP.map (symV []) = LQ at *
      generalize labN (xs.take k) = ns at *
      generalize ps[k] = a0 at *
      generalize xs[k] = x at *
      have HR := Hid.in hR
      have HCP := Hid.in hcp
      have HF := Hid.in hfit
      have i0 : wr.cell? ⟨b, o + k * 9, none⟩ = some (.int .u8 x.k) := range_below HR.out HB.out 0 _ rfl
      have i1 : wr.cell? ⟨b, o + k * 9 + 1, none⟩ = some (.string x.name) := range_below HR.out HB.out 1 _ rfl
      have hz1 : x.name.size ≤ maxLen := Nat.le_trans HF.out.nz (by unfold maxLen; decide)
      have hz2 : x.name.size ≤ 281474976710656 := Nat.le_trans HF.out.nz (by decide)
      clear hR hcp hc hcq hfit
      by_cases hk1 : x.k = 1
      · cases hin : inB x.name ns with
        | true =>
          have HRES : Hid (dupAt 0 [] xs = some k) := by
            rw [HDU.out, HDS.out, if_pos hk1, if_pos hin]; exact rfl
          go_wp2_with (at_lookup; refine nam_look _ rfl _ _ rfl bm ns rfl HNA.out x.name rfl hz1 ?_; intro cc hcc; rw [hin])
          go_ret3
          unfold SymIs
          rw [HRES.out]
          exact ⟨HB.out, rfl⟩
        | false =>
          have hni : x.name ∉ ns := inB_no (by rw [hin]; simp)
          have HDU2 : Hid (dupAt 0 [] xs = dupAt (k + 1) (ns ++ [x.name]) (xs.drop (k + 1))) := by
            rw [HDU.out, HDS.out, if_pos hk1, if_neg (by rw [hin]; simp)]; exact rfl
          have HNS2 : Hid (labN (xs.take (k + 1)) = ns ++ [x.name]) := by
            have := HNS.out
            rw [if_pos hk1] at this
            exact this
          have HPS2 : Hid ((labP (xs.take (k + 1)) (ps.take (k + 1))).map (symV []) = LQ ++ [(.string x.name, .int .i64 a0, .bool false)]) := by
            have := HPS.out
            rw [if_pos hk1] at this
            rw [this, List.map_append, hLQ]; exact rfl
          have hl1 : ns.length ≤ 1048576 := by omega
          have hl2 : LQ.length ≤ 1048576 := by have := HLL.out; omega
          have ip : wr.cell? ⟨bq, oq + k, none⟩ = some (.int .i64 a0) := (HB.out.cell (p := ⟨bq, oq + k, none⟩) (cell_lt HCP.out)).trans HCP.out
          clear HDU HDS HNS HPS HX HQ HN HP
          go_wp2_with (first
            | (at_lookup; refine nam_look _ rfl _ _ rfl bm ns rfl HNA.out x.name rfl hz1 ?_; intro cc hcc; rw [hin])
            | (at_mapUpdate; refine nam_put _ rfl _ _ _ rfl bm ns rfl HNA.out x.name rfl (congrArg (fun j : Nat => Value.int .i64 (j : Int)) HLL.out) hz1 hni hl1 ?_; intro w5 hn5 hg5; have HN5 := Hid.in hn5; have HV5 := Hid.in (HV.out.kept hg5 (tn_ne HV.out HNA.out)); have HB5 := Hid.in (HB.out.grown hg5 HB.out.size (fun j hj => by cases hj; exact Nat.le_of_eq HBM.out)); have i51 : w5.cell? ⟨b, o + k * 9 + 1, none⟩ = some (.string x.name) := range_below HR.out HB5.out 1 _ rfl; have i5p : w5.cell? ⟨bq, oq + k, none⟩ = some (.int .i64 a0) := (HB5.out.cell (p := ⟨bq, oq + k, none⟩) (cell_lt HCP.out)).trans HCP.out; clear hn5 hg5))
          go_region_law (first
            | (go_simp; go_at_call 62; refine (clone_any _ _ hz2).mono ?_; rintro E w6 ⟨rfl, hb6⟩; have HB6 := Hid.in (below_step (below_draws (below_self w5) 1) hb6); have i6p : w6.cell? ⟨bq, oq + k, none⟩ = some (.int .i64 a0) := (HB6.out.cell (p := ⟨bq, oq + k, none⟩) (cell_lt i5p)).trans i5p; clear hb6)
            | (refine step_tpush Tryz.elemSym _ (by rfl) _ _ (by rfl) bm _ LQ (by rfl) ((HV5.out.below HB6.out).alloc _) ⟨w6.heap.size, 0, none⟩ 1 (.string x.name, .int .i64 a0, .bool false) ⟨rfl, rfl, rfl⟩ (by rfl) (news3 _ _ _) hl2 (by decide) (by have := HB5.out.size; have := HB6.out.size; have := HBM.out; simp; omega) ?_; intro g7 c7 w7 hT7 hg7 hb7; have HT7 := Hid.in hT7; have HN7 := Hid.in (((HN5.out.below HB6.out).below (new_alloc w6 _)).kept hg7 (tn_ne2 HV5.out HN5.out)); have HB7 := Hid.in (hb7 w (by rw [← HBM.out]; exact below_alloc (below_step HB5.out HB6.out) _)); clear hT7 hg7 hb7))
          all_goals
            go_wp2_with fail
            go_roundw
            case rel => exact ⟨k + 1, by omega, by go_num, by rw [HNS2.out]; exact HDU2.out, by rw [HNS2.out]; exact HN7.out, by rw [HPS2.out]; exact HT7.out, HB7.out⟩
            case measure => simp [intOf]; omega
      · have HDU2 : Hid (dupAt 0 [] xs = dupAt (k + 1) ns (xs.drop (k + 1))) := by
          rw [HDU.out, HDS.out, if_neg hk1]; exact rfl
        have HNS2 : Hid (labN (xs.take (k + 1)) = ns) := by
          have := HNS.out
          rw [if_neg hk1, List.append_nil] at this
          exact this
        have HPS2 : Hid ((labP (xs.take (k + 1)) (ps.take (k + 1))).map (symV []) = LQ) := by
          have := HPS.out
          rw [if_neg hk1, List.append_nil] at this
          rw [this]; exact hLQ
        go_wp2_with fail
        go_roundw
        case rel => exact ⟨k + 1, by omega, by go_num, by rw [HNS2.out]; exact HDU2.out, by rw [HNS2.out]; exact HNA.out, by rw [HPS2.out]; exact HV.out, by rw [← HBM.out]; exact HB.out⟩
        case measure => simp [intOf]; omega
    · have hkn : k = n := by omega
      subst hkn
      have hxs : xs.take k = xs := List.take_of_length_le (by rw [HN.out]; exact Nat.le_refl _)
      have hpt : ps.take k = ps := List.take_of_length_le (by rw [HP.out]; exact Nat.le_refl _)
      have HD0 : Hid (dupAt 0 [] xs = none) := by
        rw [HDU.out, List.drop_eq_nil_of_le (by rw [HN.out]; exact Nat.le_refl _)]; exact rfl
      have HND : Hid ((labP xs ps).map Prod.fst).Nodup := by
        rw [labP_fst xs ps (by rw [HN.out, HP.out])]
        have := dup_none xs 0 [] HD0.out List.nodup_nil
        exact this
      have HFS : Hid ((labP xs ps).map Prod.fst = labN xs) := labP_fst xs ps (by rw [HN.out, HP.out])
      rw [hxs, hpt] at HV HLL ⊢
      rw [hxs] at HNA
      have HLM : Hid (((labP xs ps).map (symV [])).length = (labP xs ps).length) := List.length_map ..
      rw [HLM.out] at HV HLL ⊢
      clear HDU hxs hpt hnl hlt hk
      go_wp2_with fail
      go_loopw [64] (fun i wr2 => ∃ j : Nat, j ≤ k ∧ i = .int .i64 j ∧ undAt 0 (labN xs) xs = undAt j (labN xs) (xs.drop j) ∧ NamAt wr2 bm (labN xs) ∧ TOwn 36 wr2 bm (.slice pv (labP xs ps).length cv) ((labP xs ps).map (symV (gloN (xs.take j)))) ∧ Below bm w wr2) (fun i _ => k - (intOf i).toNat)
      case atStart => exact ⟨0, Nat.zero_le _, rfl, rfl, HNA.out, HV.out, by rw [← HBM.out]; exact HB.out⟩
      case round =>
        obtain ⟨j, hj, rfl, hun, hna2, hV2, hb2⟩ := hrel
        clear HNA HV HB HB0 HN0
        have HUN := Hid.in hun
        have HNA := Hid.in hna2
        have HV := Hid.in hV2
        have HB : Hid (Below w.heap.size w wr) := HBM.out ▸ hb2
        clear hun hna2 hV2 hb2
        by_cases hlt : j < k
        · have hkx : j < xs.length := by rw [HN.out]; exact hlt
          obtain ⟨b, o, hp, hc⟩ := HX.out (by omega)
          subst hp
          obtain ⟨qd, cq, hR, -, hfit⟩ := hc j hkx
          have HUS := Hid.in (und_step xs j (labN xs) hkx)
          have HGS := Hid.in (gloN_take xs j hkx)
          generalize gloN (xs.take j) = gs at *
          generalize xs[j] = x at *
          have HR := Hid.in hR
          have i0 : wr.cell? ⟨b, o + j * 9, none⟩ = some (.int .u8 x.k) := range_below HR.out HB.out 0 _ rfl
          have i1 : wr.cell? ⟨b, o + j * 9 + 1, none⟩ = some (.string x.name) := range_below HR.out HB.out 1 _ rfl
          have hz1 : x.name.size ≤ maxLen := Nat.le_trans hfit.nz (by unfold maxLen; decide)
          clear hR hc hfit
          by_cases hk1 : x.k = 7
          · cases hin : inB x.name (labN xs) with
            | false =>
              have HRES : Hid (undAt 0 (labN xs) xs = some j) := by
                rw [HUN.out, HUS.out, if_pos ⟨hk1, hin⟩]; exact rfl
              go_wp2_with (at_lookup; refine nam_look _ rfl _ _ rfl bm (labN xs) rfl HNA.out x.name rfl hz1 ?_; intro cc hcc; rw [hin])
              go_ret3
              unfold SymIs
              rw [HD0.out]
              show _ ∧ (match undAt 0 (labN xs) xs with | some i => _ | none => _)
              rw [HRES.out]
              exact ⟨HB.out, rfl⟩
            | true =>
              have HUN2 : Hid (undAt 0 (labN xs) xs = undAt (j + 1) (labN xs) (xs.drop (j + 1))) := by
                rw [HUN.out, HUS.out, if_neg (by rw [hin]; simp)]; exact rfl
              have HGS2 : Hid (gloN (xs.take (j + 1)) = gs ++ [x.name]) := by
                have := HGS.out
                rw [if_pos hk1] at this
                exact this
              obtain ⟨i9, hi9, he9⟩ := inB_at hin
              have HE9 := Hid.in he9
              have hi : i9 < (labP xs ps).length := by rw [HLL.out]; exact hi9
              have HS9 : Hid ((labP xs ps)[i9].1 = x.name) := by
                have e : ((labP xs ps).map Prod.fst)[i9]'(by rw [List.length_map]; exact hi) = (labN xs)[i9] := by simp only [HFS.out]
                rw [List.getElem_map] at e
                exact e.trans he9
              obtain ⟨pv', cv', hv', -, hcm, hsh⟩ := HV.out.shape
              rw [List.length_map] at hv'
              obtain ⟨g, rfl', hBg, hgl, hcells⟩ := hsh (by rw [List.length_map]; omega)
              obtain ⟨rfl, rfl⟩ : pv = pv' ∧ cv = cv' := by
                injection hv' with a1 a2 a3
                exact ⟨a1, a3⟩
              subst rfl'
              have hlL : (labP xs ps).length ≤ 4096 := by
                have := labN_len xs
                have := HLL.out
                have := HN.out
                omega
              have HC9 : wr.cell? ⟨g, i9 * 3 + 2, none⟩ = some (.bool (inB (labP xs ps)[i9].1 gs)) := by
                rw [hcells i9 (by rw [List.length_map]; exact hi) 2 (by decide), List.getElem_map]; rfl
              obtain ⟨hT9, hg9, hf9⟩ := sym_store (labP xs ps) gs x.name i9 hi HS9.out HND.out HV.out
              have HT9 := Hid.in hT9
              have HN9 := Hid.in (HNA.out.kept hg9 (tn_ne2 HV.out HNA.out))
              have HB9 := Hid.in (HB.out.grown hg9 HB.out.size (fun i hi => by cases hi; rw [HBM.out]; exact hBg))
              clear hT9 hg9 hcells hsh hv' he9 HUN HUS HGS
              generalize (labP xs ps)[i9].1 = s9 at *
              generalize hm9 : (labP xs ps).length = m at *
              go_wp2_with (at_lookup; refine nam_look _ rfl _ _ rfl bm (labN xs) rfl HNA.out x.name rfl hz1 ?_; intro cc hcc; rw [hin]; have hc9 := hcc i9 hi9 HE9.out; subst hc9; clear hcc)
              go_roundw
              case rel => exact ⟨j + 1, by omega, by go_num, HUN2.out, HN9.out, by rw [HGS2.out]; exact HT9.out, by rw [← HBM.out]; exact HB9.out⟩
              case measure => simp [intOf]; omega
          · have HUN2 : Hid (undAt 0 (labN xs) xs = undAt (j + 1) (labN xs) (xs.drop (j + 1))) := by
              rw [HUN.out, HUS.out, if_neg (fun e => hk1 e.1)]; exact rfl
            have HGS2 : Hid (gloN (xs.take (j + 1)) = gs) := by
              have := HGS.out
              rw [if_neg hk1, List.append_nil] at this
              exact this
            go_wp2_with fail
            go_roundw
            case rel => exact ⟨j + 1, by omega, by go_num, HUN2.out, HNA.out, by rw [HGS2.out]; exact HV.out, by rw [← HBM.out]; exact HB.out⟩
            case measure => simp [intOf]; omega
        · have hjk : j = k := by omega
          subst hjk
          have HU0 : Hid (undAt 0 (labN xs) xs = none) := by
            rw [HUN.out, List.drop_eq_nil_of_le (by rw [HN.out]; exact Nat.le_refl _)]; exact rfl
          have hxs : xs.take j = xs := List.take_of_length_le (by rw [HN.out]; exact Nat.le_refl _)
          rw [hxs] at HV
          clear hxs HUN
          go_wp2_with fail
          go_ret3
          unfold SymIs
          rw [HD0.out]
          show _ ∧ (match undAt 0 (labN xs) xs with | some i => _ | none => _)
          rw [HU0.out]
          exact ⟨HB.out, _, rfl, HBM.out ▸ HV.out⟩

end Go.Proofs.YtkianldkbfjehaaGreatDoor
