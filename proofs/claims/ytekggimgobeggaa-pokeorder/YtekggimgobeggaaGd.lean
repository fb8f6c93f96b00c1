/- Texts put together: Pick, OvrL, MkB, RefR, RefS, MadW. -/
import Derived.Test.YtekggimgobeggaaOwn
import Derived.Test.YtekggimgobeggaaRnm
import Derived.BigQuiet
import Derived.Test.YtekggimgobeggaaAwk
import Derived.Test.YtekggimgobeggaaGc
import Derived.Test.YtekggimgobeggaaCopy

/- switchyardkit.Pick: a number below n. -/
namespace Go.Proofs.Ytekggimgobeggaa
open Go.RowKit

set_option maxRecDepth 20000 in
theorem pick_any (a : Int) (n : Nat) (h0 : 0 < n) (hn : n ≤ 9223372036854775807) (w : World) : Calls Try.prog 36 #[.int .i64 a, .int .i64 n] w fun E w' => (∃ k : Nat, k < n ∧ E = .returned (.int .i64 k)) ∧ w' = w := by
  have h1 := Int.lt_tmod_of_pos a (show (0 : Int) < (n : Int) by omega)
  have h2 := Int.tmod_lt_of_pos a (show (0 : Int) < (n : Int) by omega)
  have hm1 : ¬ (n : Int) = 0 := by omega
  have hw : IntKind.i64.wrap (a.tmod n) = a.tmod n := by rw [IntKind.wrap_i64]; omega
  go_enter Try.func36, Try.ntmps36
  by_cases hneg : a.tmod n < 0
  · have hw2 : IntKind.i64.wrap (a.tmod n + (n : Int)) = a.tmod n + (n : Int) := by rw [IntKind.wrap_i64]; omega
    go_wp2_with fail
    go_ret
    refine ⟨⟨(a.tmod n + n).toNat, by omega, ?_⟩, rfl⟩
    rw [Int.toNat_of_nonneg (by omega)]; rfl
  · go_wp2_with fail
    go_ret
    refine ⟨⟨(a.tmod n).toNat, by omega, ?_⟩, rfl⟩
    rw [Int.toNat_of_nonneg (by omega)]; rfl

/-- the number itself -/
def pkN (a : Int) (n : Nat) : Nat := (if a.tmod n < 0 then a.tmod n + n else a.tmod n).toNat
theorem pkN_lt (a : Int) (n : Nat) (h0 : 0 < n) : pkN a n < n := by
  have h1 := Int.lt_tmod_of_pos a (show (0 : Int) < (n : Int) by omega)
  have h2 := Int.tmod_lt_of_pos a (show (0 : Int) < (n : Int) by omega)
  unfold pkN
  split <;> omega
set_option maxRecDepth 20000 in
theorem pick_is (a : Int) (n : Nat) (h0 : 0 < n) (hn : n ≤ 9223372036854775807) (w : World) : Calls Try.prog 36 #[.int .i64 a, .int .i64 n] w fun E w' => E = .returned (.int .i64 (pkN a n)) ∧ w' = w := by
  have h1 := Int.lt_tmod_of_pos a (show (0 : Int) < (n : Int) by omega)
  have h2 := Int.tmod_lt_of_pos a (show (0 : Int) < (n : Int) by omega)
  have hm1 : ¬ (n : Int) = 0 := by omega
  have hw : IntKind.i64.wrap (a.tmod n) = a.tmod n := by rw [IntKind.wrap_i64]; omega
  by_cases hneg : a.tmod n < 0
  · have HK : Hid ((pkN a n : Int) = a.tmod n + n) := by show (pkN a n : Int) = _; unfold pkN; rw [if_pos hneg]; omega
    obtain ⟨kk, hkk⟩ : ∃ kk, kk = pkN a n := ⟨_, rfl⟩
    rw [← hkk] at HK ⊢
    clear hkk
    have hw2 : IntKind.i64.wrap (a.tmod n + (n : Int)) = a.tmod n + (n : Int) := by rw [IntKind.wrap_i64]; omega
    go_enter Try.func36, Try.ntmps36
    go_wp2_with fail
    go_ret
    exact ⟨by rw [HK.out]; rfl, rfl⟩
  · have HK : Hid ((pkN a n : Int) = a.tmod n) := by show (pkN a n : Int) = _; unfold pkN; rw [if_neg hneg]; omega
    obtain ⟨kk, hkk⟩ : ∃ kk, kk = pkN a n := ⟨_, rfl⟩
    rw [← hkk] at HK ⊢
    clear hkk
    go_enter Try.func36, Try.ntmps36
    go_wp2_with fail
    go_ret
    exact ⟨by rw [HK.out]; rfl, rfl⟩

end Go.Proofs.Ytekggimgobeggaa

/- SyncsOver, as lists: how many have one pending. -/
namespace Go.Proofs.Ytekggimgobeggaa
open Go.RowKit

/-- how many have one pending -/
theorem pnd_at (fs : List Bool) (k : Nat) : pnd fs k = fs.getD k false := by unfold pnd; simp
def cnt (fs : List Bool) : Nat := fs.count true
theorem cnt_le (fs : List Bool) : cnt fs ≤ fs.length := List.count_le_length
theorem ovr_cnt (fs : List Bool) : ovr fs = decide (cnt fs = 0) := by
  rw [Bool.eq_iff_iff]
  simp only [ovr, cnt, List.all_eq_true, decide_eq_true_eq, List.count_eq_zero]
  constructor
  · intro h hm
    have := h true hm
    simp at this
  · intro h x hx
    cases x
    · rfl
    · exact absurd hx h
theorem cnt_step (fs : List Bool) (i : Nat) (h : i < fs.length) : cnt (fs.take (i + 1)) = cnt (fs.take i) + if fs.getD i false = true then 1 else 0 := by
  unfold cnt
  rw [List.take_succ_eq_append_getElem h, List.count_append]
  simp only [List.getD, List.getElem?_eq_getElem h, Option.getD_some]
  cases fs[i] <;> simp
theorem pnd_in {fs : List Bool} {z : Int} (h : pnd fs z = true) : ∃ k : Nat, z = k ∧ k < fs.length ∧ fs[k]? = some true := by
  have h0 : 0 ≤ z := by
    by_cases h0 : 0 ≤ z
    · exact h0
    · simp [pnd, h0] at h
  obtain ⟨k, rfl⟩ := Int.eq_ofNat_of_zero_le h0
  rw [pnd_at] at h
  have hk : k < fs.length := by
    by_cases hk : k < fs.length
    · exact hk
    · simp [List.getD, show fs.length ≤ k by omega] at h
  refine ⟨k, rfl, hk, ?_⟩
  rw [List.getElem?_eq_getElem hk]
  simp [List.getD, hk] at h
  rw [h]
theorem cnt_drp {fs : List Bool} {z : Int} (h : pnd fs z = true) : cnt (drp fs z) + 1 = cnt fs := by
  obtain ⟨k, rfl, hk, he⟩ := pnd_in h
  have e : drp fs (k : Int) = fs.set k false := by unfold drp; rw [if_pos (by omega)]; simp
  have h1 : fs[k] = true := by rw [List.getElem?_eq_getElem hk] at he; injection he
  have h2 : 0 < fs.count true := by rw [List.count_pos_iff]; rw [← h1]; exact List.getElem_mem hk
  rw [e]
  unfold cnt
  rw [List.count_set hk, h1]
  simp
  omega
theorem pnd_gone (fs : List Bool) (z : Int) : pnd (drp fs z) z = false := by
  by_cases h0 : 0 ≤ z
  · obtain ⟨k, rfl⟩ := Int.eq_ofNat_of_zero_le h0
    rw [pnd_at]
    unfold drp
    rw [if_pos (by omega)]
    simp only [Int.toNat_natCast, List.getD, List.getElem?_set]
    by_cases hk : k < fs.length
    · simp [hk]
    · simp [hk]
  · unfold pnd; simp [h0]
/-- the first i have none -/
def Off8 (fs : List Bool) (i : Nat) : Prop := ∀ j < i, fs.getD j false = false
theorem off_step {fs : List Bool} {i : Nat} (h : Off8 fs i) : Off8 (drp fs i) (i + 1) := by
  intro j hj
  by_cases e : j = i
  · subst e
    have := pnd_gone fs (j : Int)
    rw [pnd_at] at this
    exact this
  · have := h j (by omega)
    unfold drp
    rw [if_pos (by omega)]
    simp only [Int.toNat_natCast, List.getD, List.getElem?_set] at this ⊢
    rw [if_neg (fun x => e x.symm)]
    exact this
theorem off_all {fs : List Bool} (h : Off8 fs fs.length) : ovr fs = true := by
  unfold ovr
  rw [List.all_eq_true]
  intro x hx
  obtain ⟨i, hi, rfl⟩ := List.getElem_of_mem hx
  have := h i hi
  simp [List.getD, hi] at this
  simp [this]

end Go.Proofs.Ytekggimgobeggaa

/- make of flags. -/
namespace Go.Proofs.Ytekggimgobeggaa
open Go.RowKit

theorem made_flags (n : Nat) : (madeCells (Value.bool false).cells (n * 1)).toList = flgs (List.replicate n false) := by
  rw [show (Value.bool false).cells = #[Value.bool false] from rfl, toList_madeCells_one]; simp [flgs]
theorem wp_makeB {ops : Array Oper} {rest : List Oper} {o : Oper} {a : Act} {w : World} {Q : Exit → Act → World → Prop} (hg : o.guard = none) (s1 s2 : Operand) (ho : o.op = .makeSlice 39 s1 s2) (n : Nat) (x y : Int) (h1 : a.eval s1 = .int .i64 x) (h2 : a.eval s2 = .int .i64 y) (hx : x = n) (hy : y = n) (hn : n ≤ 1048576)
    (h : ∀ w1, Hid (GOwn 4 w1 w.heap.size w.heap.size n (flgs (List.replicate n false))) → Hid (Below w.heap.size w w1) → wpList Try.prog ops Q rest (a.put o.dst (.slice (some ⟨w.heap.size, 0, none⟩) n n)) w1) : wpList Try.prog ops Q (o :: rest) a w := by
  obtain ⟨i0, hi, hz0, hz1, hz2⟩ := info_parts Try.info4
  refine wpList_make_full _ hg s1 s2 39 ho _ 4 i0 (.bool false) 1 Try.underlying39' hi hz0 hz1 _ _ _ _ n h1 h2 hx hy (by rw [hz2]; omega) (by unfold maxLen; omega) (Nat.le_refl _) ?_
  intro w1 hown hgrow
  refine h w1 ?_ ((Below.refl w.heap.size w).grown hgrow (Nat.le_refl _) (by simp))
  rw [made_flags] at hown
  show w1.ownsRow _ _ _ _ _ _
  have e : (flgs (List.replicate n false)).length = n := by simp
  rw [e]
  exact hown
theorem GOwn.browB {w : World} {B g c : Nat} {hs : List Bool} (h : GOwn 4 w B g c (flgs hs)) : BRow w (some ⟨g, 0, none⟩) hs := fun _ =>
  ⟨g, 0, rfl, fun i hi => by rw [Nat.zero_add, h.cell i (by simpa using hi), getD_flgs _ _ hi]⟩

end Go.Proofs.Ytekggimgobeggaa

/- The document's rounds (switchyardref17), and the kit's CopyFlags, SameFlags. -/
namespace Go.Proofs.Ytekggimgobeggaa
open Go.RowKit

/-- 'append(out, l...)', l whatever list of flags -/
theorem wp_push_flags {ops : Array Oper} {rest : List Oper} {o : Oper} {a : Act} {Q : Exit → Act → World → Prop} (w : World) (hgd : o.guard = none) (s x : Operand)
    (ho : o.op = .call { callee := .builtin .append, args := #[s, x], argTypes := #[39, 39] }) (B : Nat) (v : Value) (xs : List Bool) (hs : a.eval s = v) (hown : GOwnV 4 w B v (flgs xs))
    (q : Option Addr) (m d : Nat) (ys : List Bool) (hx : a.eval x = .slice q m d) (hl : ys.length = m) (hrow : BRow w q ys) (hq : q = none → m = 0 ∧ d = 0)
    (hlen : xs.length + m ≤ 140737488355328) (hB : B ≤ w.heap.size)
    (h : ∀ v' w', Hid (GOwnV 4 w' B v' (flgs (xs ++ ys))) → Hid (w.grownBy w' v.ownBlock) → Hid (∀ w0, Below B w0 w → Below B w0 w') → wpList Try.prog ops Q rest (a.put o.dst v') w') :
    wpList Try.prog ops Q (o :: rest) a w := by
  cases q with
  | none =>
    obtain ⟨rfl, rfl⟩ := hq rfl
    obtain rfl : ys = [] := List.eq_nil_of_length_eq_zero hl
    obtain ⟨i0, hi, hz0, hz1, hz2⟩ := info_parts Try.info4
    exact wpList_append_own_none hgd s x 39 ho B 4 i0 1 Try.underlying39' hi v (flgs xs).length (flgs xs) hs hown hx (h v w (by rw [List.append_nil]; exact hown) (World.grownBy.refl w _) fun _ hb => hb)
  | some ad =>
    refine gpush Try.elem29 w hgd s x ho B v (flgs xs) hs hown ad m d (flgs ys) hx (by simpa using hl) (fun j u hj => ?_) (one_flgs ys) (by simpa using hlen) (by simpa using hlen) hB fun v' w' h1 h2 h3 _ => h v' w' (show GOwnV _ _ _ _ _ by rw [flgs, List.map_append]; exact h1) h2 h3
    have hjl : j < ys.length := by
      rcases Nat.lt_or_ge j ys.length with h | h
      · exact h
      · rw [List.getElem?_eq_none (by simpa using h)] at hj; cases hj
    obtain ⟨b, off, e, hc⟩ := hrow (by omega)
    cases e
    rw [getD_flgs ys j hjl] at hj
    rw [← hj, ← hc j hjl, Go.WideShapes.add_plain]

set_option maxHeartbeats 400000 in
theorem rpending_any (p : Option Addr) (c : Nat) (fs : List Bool) (n z : Int) (w : World) (hl : fs.length ≤ 8) (hr : BRow w p fs) :
    Calls Try.prog 69 #[.agg #[.int .i64 n, .slice p fs.length c], .int .i64 z] w fun e w' => e = .returned (.bool (pnd fs z)) ∧ Below w.heap.size w w' := by
  by_cases h0 : 0 ≤ z
  · obtain ⟨k, rfl⟩ := Int.eq_ofNat_of_zero_le h0
    have g0 : decide ((0 : Int) ≤ (k : Int)) = true := decide_eq_true h0
    by_cases hk : k < fs.length
    · have g1 : decide ((k : Int) < (fs.length : Int)) = true := decide_eq_true (by omega)
      obtain ⟨b, o, rfl, hc⟩ := hr.below (new_alloc w (.cells #[.int .i64 n, .slice p fs.length c] 64)) (by omega)
      have ck := hc k hk
      rw [pnd_at]
      clear hc hr
      generalize fs.getD k false = t at *
      generalize fs.length = m at *
      go_enter Try.func69, Try.ntmps69
      go_wp2_with fail
      go_ret
      exact ⟨rfl, new_alloc _ _⟩
    · have g1 : decide ((k : Int) < (fs.length : Int)) = false := decide_eq_false (by omega)
      have hv : pnd fs (k : Int) = false := by unfold pnd; simp [List.getD, show fs.length ≤ k by omega]
      rw [hv]
      clear hv hr
      generalize fs.length = m at *
      go_enter Try.func69, Try.ntmps69
      go_wp2_with fail
      go_ret
      exact ⟨rfl, new_alloc _ _⟩
  · have g0 : decide (0 ≤ z) = false := decide_eq_false h0
    have hv : pnd fs z = false := by unfold pnd; rw [g0]; rfl
    rw [hv]
    clear hv hr
    go_enter Try.func69, Try.ntmps69
    go_wp2_with fail
    go_ret
    exact ⟨rfl, new_alloc _ _⟩

theorem ovr_hit {fs : List Bool} {i : Nat} (h : fs.getD i false = true) : ovr fs = false := by
  have hi : i < fs.length := by
    by_cases hk : i < fs.length
    · exact hk
    · simp [List.getD, show fs.length ≤ i by omega] at h
  unfold ovr
  rw [List.all_eq_false]
  refine ⟨fs[i], List.getElem_mem hi, ?_⟩
  simp [List.getD, hi] at h
  simp [h]

set_option maxHeartbeats 400000 in
theorem rover_any (p : Option Addr) (c : Nat) (fs : List Bool) (n : Int) (w : World) (hl : fs.length ≤ 8) (hr : BRow w p fs) :
    Calls Try.prog 63 #[.agg #[.int .i64 n, .slice p fs.length c]] w fun e w' => e = .returned (.bool (ovr fs)) ∧ Below w.heap.size w w' := by
  have hr1 := Hid.in (hr.below (new_alloc w (.cells #[.int .i64 n, .slice p fs.length c] 64)))
  have hb1 := Hid.in (new_alloc w (.cells #[.int .i64 n, .slice p fs.length c] 64))
  clear hr
  go_enter Try.func63, Try.ntmps63
  go_wp2_with fail
  have c1 := (Blk.new w 64 #[.int .i64 n, .slice p fs.length c]).cell 1
  generalize w.alloc (.cells #[.int .i64 n, .slice p fs.length c] 64) = W at *
  go_loop [3] (fun vi => ∃ i : Nat, vi = .int .i64 i ∧ i ≤ fs.length ∧ Off8 fs i) (fun vi => fs.length - (intOf vi).toNat)
  case atStart => exact ⟨0, rfl, Nat.zero_le _, fun j hj => absurd hj (Nat.not_lt_zero j)⟩
  case round =>
    obtain ⟨i, rfl, hi, hoff⟩ := hrel
    have HOFF := Hid.in hoff
    clear hoff
    by_cases hil : i < fs.length
    · have hdi : decide ((i : Int) < (fs.length : Int)) = true := decide_eq_true (by omega)
      obtain ⟨b, o, rfl, hc⟩ := hr1.out (by omega)
      have ck := hc i hil
      clear hc
      cases ht : fs.getD i false
      · rw [ht] at ck
        have HT := Hid.in ht
        clear ht
        go_wp2_with fail
        go_round
        case rel => exact ⟨i + 1, by go_num, by omega, fun j hj => by
          by_cases e : j = i
          · subst e; exact HT.out
          · exact HOFF.out j (by omega)⟩
        case measure => simp [intOf]; omega
      · rw [ht] at ck
        have HT := Hid.in (ovr_hit ht)
        clear ht
        go_wp2_with fail
        go_ret
        exact ⟨ret_bool HT.out.symm, hb1.out⟩
    · have hdi : decide ((i : Int) < (fs.length : Int)) = false := decide_eq_false (by omega)
      have hii : i = fs.length := by omega
      have HOV : Hid (ovr fs = true) := off_all (by rw [← hii]; exact HOFF.out)
      clear hii
      go_wp2_with fail
      go_ret
      exact ⟨ret_bool HOV.out.symm, hb1.out⟩

set_option maxHeartbeats 400000 in
theorem rnew_bad (h : Int) (w : World) (hh : h < 0 ∨ 8 < h) :
    Calls Try.prog 61 #[.int .i64 h] w fun e w' => e = .returned (.tuple #[.agg #[.int .i64 0, .slice none 0 0], .int .i64 2]) ∧ Below w.heap.size w w' := by
  rcases hh with hh | hh
  · go_enter Try.func61, Try.ntmps61
    go_wp2
    exact bodyPost_ret (v := .tuple #[.agg #[.int .i64 0, .slice none 0 0], .int .i64 2]) (by simp [results, Try.results61, go_sem]) rfl ⟨rfl, new_alloc _ _⟩
  · have h0 : ¬ h < 0 := by omega
    go_enter Try.func61, Try.ntmps61
    go_wp2
    exact bodyPost_ret (v := .tuple #[.agg #[.int .i64 0, .slice none 0 0], .int .i64 2]) (by simp [results, Try.results61, go_sem]) rfl ⟨rfl, new_alloc _ _⟩

end Go.Proofs.Ytekggimgobeggaa

/- The document's rounds: New, Send, Drop. -/
namespace Go.Proofs.Ytekggimgobeggaa
open Go.RowKit

theorem ne_of_type {w : World} {B g c k : Nat} {T : TypeId} {xs : List Value} {cs : Array Value} (h : GOwn 4 w B g c xs) (hb : Blk w k T cs) (hT : T ≠ 4) : g ≠ k := by
  rintro rfl
  obtain ⟨cur, -, h2, -⟩ := h.parts
  rw [show w.heap[g]? = _ from hb] at h2
  injection h2 with h2
  injection h2 with _ h3
  exact hT h3
theorem GOwnV.kept4 {w w' : World} {B k : Nat} {v : Value} {xs : List Value} {T : TypeId} {cs : Array Value} (h : GOwnV 4 w B v xs) (hb : Blk w k T cs) (hT : T ≠ 4) (hg : w.grownBy w' (some k)) : GOwnV 4 w' B v xs := by
  rcases h.shape with ⟨rfl, rfl⟩ | ⟨g, cap, rfl, ho⟩
  · exact GOwnV.nil _ _ _
  · exact (ho.grown hg (ne_of_type ho hb hT)).val

set_option maxHeartbeats 400000 in
theorem rnew_ok (h : Nat) (w : World) (hh : h ≤ 8) :
    Calls Try.prog 61 #[.int .i64 h] w fun e w' => ∃ g, e = .returned (.tuple #[.agg #[.int .i64 0, .slice (some ⟨g, 0, none⟩) h h], .int .i64 0]) ∧ GOwn 4 w' w.heap.size g h (flgs (List.replicate h false)) ∧ Below w.heap.size w w' := by
  have h0 : ¬ (h : Int) < 0 := by omega
  have h8 : ¬ (8 : Int) < h := by omega
  go_enter Try.func61, Try.ntmps61
  go_wp2_with (at_make; refine Hid.out ?_)
  refine Lib.hid ?_
  refine wp_makeB rfl _ _ rfl h h h rfl rfl rfl rfl (by omega) ?_
  intro w1 HO HB
  have HN : Hid (Blk w1 w.heap.size 64 #[.int .i64 0, .slice none 0 0]) := (Blk.new w 64 _).grow HB.out
  have HBB := Hid.in (below_step (new_alloc w (.cells #[.int .i64 0, .slice none 0 0] 64)) HB.out)
  rw [size_one] at HO
  rw [size_one]
  clear HB
  have c0 := HN.out.cell 0
  have c1 := HN.out.cell 1
  have f0 := HN.out.free 0
  have f1 := HN.out.free 1
  go_wp2_with fail
  have HB2 : Hid (Blk ((w1.setCell ⟨w.heap.size, 0, none⟩ (.int .i64 0)).setCell ⟨w.heap.size, 1, none⟩ (.slice (some ⟨w.heap.size + 1, 0, none⟩) h h)) w.heap.size 64 #[.int .i64 0, .slice (some ⟨w.heap.size + 1, 0, none⟩) h h]) := (HN.out.set 0 _).set 1 _
  have hg2 := (grown_setCell w1 w.heap.size 0 (.int .i64 0)).trans (grown_setCell _ w.heap.size 1 (.slice (some ⟨w.heap.size + 1, 0, none⟩) h h))
  generalize (w1.setCell ⟨w.heap.size, 0, none⟩ (.int .i64 0)).setCell ⟨w.heap.size, 1, none⟩ (.slice (some ⟨w.heap.size + 1, 0, none⟩) h h) = w2 at *
  have d0 := HB2.out.cell 0
  have d1 := HB2.out.cell 1
  have HO2 : Hid (GOwn 4 w2 w.heap.size (w.heap.size + 1) h (flgs (List.replicate h false))) := (HO.out.grown hg2 (by omega)).lower (by omega)
  have HBL := Hid.in (below_kept HBB.out hg2 (Nat.le_refl _))
  clear hg2 HO HBB HN c0 c1 f0 f1
  exact bodyPost_ret (v := .tuple #[.agg #[.int .i64 0, .slice (some ⟨w.heap.size + 1, 0, none⟩) h h], .int .i64 0]) (by simp [results, Try.results61, go_sem, d0, d1]) rfl ⟨_, rfl, HO2.out, HBL.out⟩

end Go.Proofs.Ytekggimgobeggaa

/- made: a memory, rounds, a patcher, and the document's state beside them. -/
namespace Go.Proofs.Ytekggimgobeggaa
open Go.RowKit Go.Sort

/-- the document's state: its cells -/
def stA (bv fv : Value) (num : Int) (ph sent : Nat) (bt lf : Value) (done : Int) (up : Bool) (c : Ct) : Array Value :=
  #[bv, .int .i64 num, fv, .int .u8 ph, .int .u8 sent, bt, lf, .int .i64 done, .bool up, .int .i64 c.si, .int .i64 c.wr, .int .i64 c.ro, .int .i64 c.st, .int .i64 c.wa]
abbrev wA (mq rq pq : Nat) : Array Value := #[.pointer (some ⟨mq, 0, none⟩), .pointer (some ⟨rq, 0, none⟩), .pointer (some ⟨pq, 0, none⟩)]
theorem ownV_kept {w w' : World} {B r : Nat} {v : Value} {xs : List Int} (h : OwnV w B v xs) (hg : w.grownBy w' (some r)) (hr : r < B) : OwnV w' B v xs := by
  rcases h.2 with h2 | ⟨g, cap, cur, h1, h2, h3, h4⟩
  · exact ⟨h.1, .inl h2⟩
  · have hb : Blk w g 5 cur := h3
    exact ⟨h.1, .inr ⟨g, cap, cur, h1, h2, hb.kept hg (fun e => by injection e with e; omega), h4⟩⟩
theorem ownV_low {w : World} {B B' : Nat} {v : Value} {xs : List Int} (h : OwnV w B v xs) (hB : B' ≤ B) : OwnV w B' v xs := by
  rcases h.2 with h2 | ⟨g, cap, cur, h1, h2, h3⟩
  · exact ⟨h.1, .inl h2⟩
  · exact ⟨h.1, .inr ⟨g, cap, cur, h1, Nat.le_trans hB h2, h3⟩⟩
theorem PA.lowB {w : World} {B B' pq mq mg rq bq : Nat} {lp : Option Addr} {lc : Nat} {s : PS} (h : PA w B pq mq mg rq bq lp lc s) (hB : B' ≤ B) : PA w B' pq mq mg rq bq lp lc s :=
  ⟨h.pat, fun h0 => by obtain ⟨b, o, cur, e, h1, h2⟩ := h.row h0; exact ⟨b, o, cur, e, Nat.le_trans hB h1, h2⟩, h.lcl, h.lcm, ⟨h.mem.blk, h.mem.own.lower hB, Nat.le_trans hB h.mem.base, h.mem.ne⟩, h.rnd, h.bat, Nat.le_trans hB h.gp, Nat.le_trans hB h.gr, Nat.le_trans hB h.gb⟩
theorem res20 {tmps : Array Value} {W : World} {r4 r5 : Nat} {a : Array Value} {b : Array Value} {t : Bool} (h4 : Blk W r4 26 a) (h5 : Blk W r5 66 b) (e4 : tmps.getD 4 undef = .pointer (some ⟨r4, 0, none⟩)) (e5 : tmps.getD 5 undef = .pointer (some ⟨r5, 0, none⟩)) (e6 : tmps.getD 6 undef = .bool t) (sa : a.size = 3 := by rfl) (sb : b.size = 14 := by rfl) :
    (results Try.f20 tmps).run Try.prog W = .ok (.tuple #[.agg a, .agg b, .bool t]) W := by
  have l4 := run_loadVar_mid (P := Try.prog) W r4 0 26 a.toList _ h4.range Try.underlying26 rfl (by rw [Array.length_toList, sa]; kernel_rfl)
  have l5 := run_loadVar_mid (P := Try.prog) W r5 0 66 b.toList _ h5.range Try.underlying66 rfl (by rw [Array.length_toList, sb]; kernel_rfl)
  simp only [Array.getD_eq_getD_getElem?] at e4 e5 e6
  simp [results, asAddr, l4, l5, e4, e5, e6]
/-- a struct stored whole, in a region that draws -/
theorem step_store_whole {ops : Array Oper} {o : Oper} {A : Act} {w : World} {K : Act → World → Prop} {Q : Exit → Act → World → Prop} {E : Prop} (hgd : o.guard = none) (t : TypeId) (p x : Operand) (ho : o.op = .store t p x) (hd : o.dst = none)
    {g : Nat} {T : TypeId} {c : Array Value} (hB : Blk w g T c) (c' : Array Value) (hp : A.eval p = .pointer (some ⟨g, 0, none⟩)) (hx : A.eval x = .agg c') (hi : (Try.prog.info? t).map (·.size) = some c'.size) (hf : c'.size = c.size) (h1 : c'.all (·.oneCell') = true)
    (h : ∀ w', Hid (Blk w' g T c') → Hid (w.grownBy w' (some g)) → K A w') :
    if Region.wanted o (yielded ops A.tmps) = true then Oper.wp Try.prog o A w K Q else E := by
  refine step_store_part hgd t p x ho hd hB 0 c' hp hx hi (by omega) h1 (fun w' hb hg => h w' ?_ hg)
  have hb' := hb.out
  rw [ssplice_all _ _ (by simp [hf])] at hb'
  exact (show Blk _ _ _ _ by simpa using hb')
set_option maxRecDepth 20000 in
set_option maxHeartbeats 4000000 in
theorem made_any (p : Option Addr) (n c : Nat) (xs : List Int) (harts : Int) (w : World) (hx : xs.length = n) (hn : n ≤ 9223372036854775807) (hnc : n ≤ c) (hr : Row w p xs) :
    Calls Try.prog 20 #[.slice p n c, .int .i64 harts] w fun e w' => ∃ k mq mg rq pq bq bv g, k = pkN harts 9 ∧ k < 9 ∧ e = .returned (.tuple #[.agg (wA mq rq pq), .agg (stA bv (.slice (some ⟨g, 0, none⟩) k k) 0 0 0 (.slice none 0 0) (.slice none 0 0) 0 false ⟨0, 0, 0, 0, 0⟩), .bool true]) ∧ PA w' w.heap.size pq mq mg rq bq none 0 (newP (xs.take 2000) (List.replicate k false) 0) ∧ OwnV w' w.heap.size bv (xs.take 2000) ∧ GOwn 4 w' w.heap.size g k (flgs (List.replicate k false)) ∧ Below w.heap.size w w' := by
  obtain ⟨ys, hye⟩ : ∃ ys, ys = xs.take 2000 := ⟨_, rfl⟩
  rw [← hye]
  have hry : Row w p ys := by
    rw [hye]
    intro h0
    rw [List.length_take] at h0
    obtain ⟨b, o, e, hc⟩ := hr (by omega)
    refine ⟨b, o, e, fun i hi => ?_⟩
    rw [List.length_take] at hi
    rw [hc i (by omega)]
    congr 2
    simp only [List.getD]
    rw [List.getElem?_take_of_lt (by omega)]
  obtain ⟨m, hm⟩ : ∃ m, ys.length = m := ⟨_, rfl⟩
  have hmn : m = Nat.min 2000 n := by rw [← hm, hye, List.length_take, hx]
  have hm2 : m ≤ 2000 := by rw [hmn]; exact Nat.min_le_left _ _
  have HV1 : Hid (2000 < n → m = 2000) := fun h => by rw [hmn]; exact Nat.min_eq_left (by omega)
  have HV2 : Hid (¬ 2000 < n → m = n) := fun h => by rw [hmn]; exact Nat.min_eq_right (by omega)
  have HP8 : Hid (2000 < n → ∃ b o, p = some ⟨b, o, none⟩) := fun h => by obtain ⟨b, o, e, -⟩ := hr (by omega); exact ⟨b, o, e⟩
  have HM := Hid.in hm
  have HRY := Hid.in hry
  clear hye hr hry hmn hm hx
  go_enter Try.func20, Try.ntmps20
  go_upto_if 18 with fail
  obtain ⟨w1, hw1⟩ : ∃ w1, w1 = (w.alloc (.cells #[.pointer none, .pointer none, .pointer none] 26)).alloc (.cells #[.slice none 0 0, .int .i64 0, .slice none 0 0, .int .u8 0, .int .u8 0, .slice none 0 0, .slice none 0 0, .int .i64 0, .bool false, .int .i64 0, .int .i64 0, .int .i64 0, .int .i64 0, .int .i64 0] 66) := ⟨_, rfl⟩
  rw [← hw1]
  have HB1 : Hid (Below w.heap.size w w1) := by rw [hw1]; exact below_alloc (new_alloc _ _) _
  have HW4 : Hid (Blk w1 w.heap.size 26 #[.pointer none, .pointer none, .pointer none]) := by rw [hw1]; exact (Blk.new _ _ _).grow (new_alloc _ _)
  have HW5 : Hid (Blk w1 (w.heap.size + 1) 66 #[.slice none 0 0, .int .i64 0, .slice none 0 0, .int .u8 0, .int .u8 0, .slice none 0 0, .slice none 0 0, .int .i64 0, .bool false, .int .i64 0, .int .i64 0, .int .i64 0, .int .i64 0, .int .i64 0]) := by
    rw [hw1]
    have hb := Blk.new (w.alloc (.cells #[.pointer none, .pointer none, .pointer none] 26)) 66 #[.slice none 0 0, .int .i64 0, .slice none 0 0, .int .u8 0, .int .u8 0, .slice none 0 0, .slice none 0 0, .int .i64 0, .bool false, .int .i64 0, .int .i64 0, .int .i64 0, .int .i64 0, .int .i64 0]
    rw [size_one] at hb
    exact hb
  have HRY1 := Hid.in (HRY.out.below HB1.out)
  clear hw1 HRY
  go_cut [0] (fun v wx => v = .slice p m c ∧ wx = w1)
  case first =>
    by_cases h8 : 2000 < n
    · have he := HV1.out h8
      obtain ⟨b0, o0, rfl⟩ := HP8.out h8
      have g2 : decide (2000 < n) = true := decide_eq_true h8
      clear HV1 HV2 HP8
      go_wp2_with fail
      go_meet
      case rel => exact ⟨by rw [he], rfl⟩
    · have HE := Hid.in (HV2.out h8)
      have g2 : decide (2000 < n) = false := decide_eq_false h8
      clear HV1 HV2 HP8
      go_wp2_with fail
      go_meet
      case rel => exact ⟨by rw [HE.out], rfl⟩
  case rest =>
  obtain ⟨rfl, hwc⟩ := hcut
  have hwc2 := hwc.symm
  clear hwc HV1 HV2 HP8
  subst hwc2
  go_wp2_with (go_at_call 36; refine Hid.out ?_)
  refine Lib.hid ?_
  refine (pick_is harts 9 (by decide) (by decide) w1).mono ?_
  rintro e w2 ⟨rfl, hw⟩
  rw [hw]
  clear hw w2
  have hk := pkN_lt harts 9 (by decide)
  obtain ⟨k, hke⟩ : ∃ k, k = pkN harts 9 := ⟨_, rfl⟩
  rw [← hke] at hk ⊢
  have HKE := Hid.in hke
  clear hke
  go_wp2_with (go_at_call 14; refine Hid.out ?_)
  refine Lib.hid ?_
  refine (mnew_ok p m c ys w1 HM.out (by omega) HRY1.out).mono ?_
  rintro e w2 ⟨mq, mg, rfl, hm2', hb2⟩
  have HM2 := Hid.in hm2'
  have HB2 := Hid.in hb2
  clear hm2' hb2
  go_wp2_with (go_at_call 60; refine Hid.out ?_)
  refine Lib.hid ?_
  refine (new_ok k w2 (by omega)).mono ?_
  rintro e w3 ⟨rfl, hr3, hb3⟩
  have HM3 := Hid.in (HM2.out.below hb3)
  have HR3 := Hid.in hr3
  have HB3 := Hid.in (below_step HB2.out hb3)
  have HZ3 : Hid (w1.heap.size ≤ w2.heap.size) := HB2.out.size
  clear hr3 hb3 HM2 HB2
  generalize w2.heap.size = rq at *
  go_wp2_with (go_at_call 15; refine Hid.out ?_)
  refine Lib.hid ?_
  refine (pnew_ok HM3.out HR3.out (by rw [HM.out]; omega) HZ3.out HB3.out.size).mono ?_
  rintro e w4 ⟨pq, bq, rfl, hp4, hb4, -, -⟩
  have HP4 := Hid.in hp4
  have HB4 := Hid.in (below_step HB3.out hb4)
  clear hp4 hb4 HM3 HR3 HB3
  go_wp2_with (go_at_call 61; refine Hid.out ?_)
  refine Lib.hid ?_
  refine (rnew_ok k w4 (by omega)).mono ?_
  rintro e w5 ⟨g, rfl, hg5, hb5⟩
  have HP5 := Hid.in (HP4.out.below hb5)
  have HB5 := Hid.in (below_step HB4.out hb5)
  have HG5 : Hid (GOwn 4 w5 w1.heap.size g k (flgs (List.replicate k false))) := hg5.lower (Nat.le_trans HB4.out.size hg5.base)
  clear hb5 hg5 HP4 HB4
  go_upto_region 8 with fail
  obtain ⟨w6, hw6⟩ : ∃ w6, w6 = w5.alloc (.cells #[.int .i64 0, .slice (some ⟨g, 0, none⟩) k k] 64) := ⟨_, rfl⟩
  rw [← hw6]
  have HP6 : Hid (PA w6 w1.heap.size pq mq mg rq bq none 0 (newP ys (List.replicate k false) 0)) := by rw [hw6]; exact HP5.out.below (new_alloc _ _)
  have HB6 : Hid (Below w1.heap.size w1 w6) := by rw [hw6]; exact below_alloc HB5.out _
  have HG6 : Hid (GOwn 4 w6 w1.heap.size g k (flgs (List.replicate k false))) := by rw [hw6]; exact HG5.out.below (new_alloc _ _)
  have HX6 : Hid (Blk w6 w5.heap.size 64 #[.int .i64 0, .slice (some ⟨g, 0, none⟩) k k]) := by rw [hw6]; exact Blk.new _ _ _
  have HGE : Hid (w1.heap.size ≤ w5.heap.size) := HB5.out.size
  clear hw6 HP5 HB5 HG5
  generalize w5.heap.size = r14 at *
  have e0 : w6.cell? ⟨r14, 0, none⟩ = some (.int .i64 0) := (HX6.out.cell 0).trans rfl
  have e1 : w6.cell? ⟨r14, 1, none⟩ = some (.slice (some ⟨g, 0, none⟩) k k) := (HX6.out.cell 1).trans rfl
  have HRY6 := Hid.in (HRY1.out.below HB6.out)
  have HW4' := Hid.in (HW4.out.below HB6.out HW4.out.lt)
  have HW5' := Hid.in (HW5.out.below HB6.out HW5.out.lt)
  have HN4 : Hid (w.heap.size < w1.heap.size) := HW4.out.lt
  have HN5 : Hid (w.heap.size + 1 < w1.heap.size) := HW5.out.lt
  clear e0 e1
  have hw0 : IntKind.i64.wrap 0 = 0 := by rw [IntKind.wrap_i64]; decide
  refine wp_region_noPanic ?_
  refine wp_region_G (fun W => Blk W r14 64 #[.int .i64 0, .slice (some ⟨g, 0, none⟩) k k]) [] (by kernel_rfl) ?_
  refine wpAnyG_takeW (i := 0) (v := .pointer (some ⟨mq, 0, none⟩)) rfl (by kernel_rfl) (by kernel_rfl) (by kernel_rfl) (fun _ _ _ h => h) (Closed.start _) (by kernel_rfl) (fun W => by go_simp) ?_
  go_simp
  refine wpAnyG_takeW (i := 1) (v := .pointer (some ⟨rq, 0, none⟩)) rfl (by kernel_rfl) (by kernel_rfl) (by kernel_rfl) (fun _ _ _ h => h) (Closed.step (j := 0) (Closed.start _) (by kernel_rfl)) (by kernel_rfl) (fun W => by go_simp) ?_
  go_simp
  refine wpAnyG_takeW (i := 2) (v := .pointer (some ⟨pq, 0, none⟩)) rfl (by kernel_rfl) (by kernel_rfl) (by kernel_rfl) (fun _ _ _ h => h) (Closed.step (j := 1) (Closed.step (j := 0) (Closed.start _) (by kernel_rfl)) (by kernel_rfl)) (by kernel_rfl) (fun W => by go_simp) ?_
  go_simp
  refine wpAnyG_takeW (i := 3) (v := .agg (wA mq rq pq)) rfl (by kernel_rfl) (by kernel_rfl) (by kernel_rfl) (fun _ _ _ h => h) (Closed.step (j := 2) (Closed.step (j := 1) (Closed.step (j := 0) (Closed.start _) (by kernel_rfl)) (by kernel_rfl)) (by kernel_rfl)) (by kernel_rfl) (fun W => by go_simp) ?_
  go_simp
  refine wpAnyG_takeW (i := 4) (v := .slice p m c) rfl (by kernel_rfl) (by kernel_rfl) (by kernel_rfl) (fun _ _ _ h => h) (Closed.step (j := 3) (Closed.step (j := 2) (Closed.step (j := 1) (Closed.step (j := 0) (Closed.start _) (by kernel_rfl)) (by kernel_rfl)) (by kernel_rfl)) (by kernel_rfl)) (by kernel_rfl) (fun W => by go_simp) ?_
  go_simp
  refine wpAnyG_takeW (i := 8) (v := .int .i64 0) rfl (by kernel_rfl) (by kernel_rfl) (by kernel_rfl) (fun _ _ _ h => h) (Closed.step (j := 4) (Closed.step (j := 3) (Closed.step (j := 2) (Closed.step (j := 1) (Closed.step (j := 0) (Closed.start _) (by kernel_rfl)) (by kernel_rfl)) (by kernel_rfl)) (by kernel_rfl)) (by kernel_rfl)) (by kernel_rfl) (fun W => by go_simp) ?_
  go_simp
  refine wpAnyG_takeW (i := 9) (v := .int .i64 0) rfl (by kernel_rfl) (by kernel_rfl) (by kernel_rfl) (fun _ _ _ h => h) (Closed.step (j := 8) (Closed.step (j := 4) (Closed.step (j := 3) (Closed.step (j := 2) (Closed.step (j := 1) (Closed.step (j := 0) (Closed.start _) (by kernel_rfl)) (by kernel_rfl)) (by kernel_rfl)) (by kernel_rfl)) (by kernel_rfl)) (by kernel_rfl)) (by kernel_rfl) (fun W => by go_simp) ?_
  go_simp
  refine wpAnyG_takeW (i := 10) (v := .int .i64 0) rfl (by kernel_rfl) (by kernel_rfl) (by kernel_rfl) (fun _ _ _ h => h) (Closed.step (j := 9) (Closed.step (j := 8) (Closed.step (j := 4) (Closed.step (j := 3) (Closed.step (j := 2) (Closed.step (j := 1) (Closed.step (j := 0) (Closed.start _) (by kernel_rfl)) (by kernel_rfl)) (by kernel_rfl)) (by kernel_rfl)) (by kernel_rfl)) (by kernel_rfl)) (by kernel_rfl)) (by kernel_rfl) (fun W => by go_simp) ?_
  go_simp
  refine wpAnyG_takeW (i := 11) (v := .int .i64 0) rfl (by kernel_rfl) (by kernel_rfl) (by kernel_rfl) (fun _ _ _ h => h) (Closed.step (j := 10) (Closed.step (j := 9) (Closed.step (j := 8) (Closed.step (j := 4) (Closed.step (j := 3) (Closed.step (j := 2) (Closed.step (j := 1) (Closed.step (j := 0) (Closed.start _) (by kernel_rfl)) (by kernel_rfl)) (by kernel_rfl)) (by kernel_rfl)) (by kernel_rfl)) (by kernel_rfl)) (by kernel_rfl)) (by kernel_rfl)) (by kernel_rfl) (fun W => by go_simp) ?_
  go_simp
  refine wpAnyG_takeW (i := 12) (v := .int .i64 0) rfl (by kernel_rfl) (by kernel_rfl) (by kernel_rfl) (fun _ _ _ h => h) (Closed.step (j := 11) (Closed.step (j := 10) (Closed.step (j := 9) (Closed.step (j := 8) (Closed.step (j := 4) (Closed.step (j := 3) (Closed.step (j := 2) (Closed.step (j := 1) (Closed.step (j := 0) (Closed.start _) (by kernel_rfl)) (by kernel_rfl)) (by kernel_rfl)) (by kernel_rfl)) (by kernel_rfl)) (by kernel_rfl)) (by kernel_rfl)) (by kernel_rfl)) (by kernel_rfl)) (by kernel_rfl) (fun W => by go_simp) ?_
  go_simp
  refine wpAnyG_takeW (i := 13) (v := .bool true) rfl (by kernel_rfl) (by kernel_rfl) (by kernel_rfl) (fun _ _ _ h => h) (Closed.step (j := 12) (Closed.step (j := 11) (Closed.step (j := 10) (Closed.step (j := 9) (Closed.step (j := 8) (Closed.step (j := 4) (Closed.step (j := 3) (Closed.step (j := 2) (Closed.step (j := 1) (Closed.step (j := 0) (Closed.start _) (by kernel_rfl)) (by kernel_rfl)) (by kernel_rfl)) (by kernel_rfl)) (by kernel_rfl)) (by kernel_rfl)) (by kernel_rfl)) (by kernel_rfl)) (by kernel_rfl)) (by kernel_rfl)) (by kernel_rfl) (fun W => by go_simp) ?_
  go_simp
  refine wpAnyG_takeS (i := 6) (v := .agg #[.int .i64 0, .slice (some ⟨g, 0, none⟩) k k]) rfl (by kernel_rfl) (by kernel_rfl) (by kernel_rfl) (by kernel_rfl) (fun _ _ _ _ _ h => h) (Closed.step (j := 13) (Closed.step (j := 12) (Closed.step (j := 11) (Closed.step (j := 10) (Closed.step (j := 9) (Closed.step (j := 8) (Closed.step (j := 4) (Closed.step (j := 3) (Closed.step (j := 2) (Closed.step (j := 1) (Closed.step (j := 0) (Closed.start _) (by kernel_rfl)) (by kernel_rfl)) (by kernel_rfl)) (by kernel_rfl)) (by kernel_rfl)) (by kernel_rfl)) (by kernel_rfl)) (by kernel_rfl)) (by kernel_rfl)) (by kernel_rfl)) (by kernel_rfl)) (by kernel_rfl) HX6.out (fun W hW => by
    have q0 : W.cell? ⟨r14, 0, none⟩ = some (.int .i64 0) := (hW.cell 0).trans rfl
    have q1 : W.cell? ⟨r14, 1, none⟩ = some (.slice (some ⟨g, 0, none⟩) k k) := (hW.cell 1).trans rfl
    clear hW
    go_simp) ?_
  go_simp
  refine wpAnyG_one (i := 5) (by kernel_rfl) rfl (fun K hK => ?_)
  go_simp
  go_at_call 62
  refine (copy_any p m c ys w6.drew HM.out (by omega) HRY6.out).mono ?_
  rintro e w7 ⟨bv, rfl, ho7, hb7'⟩
  have hb7 : Below w6.heap.size w6 w7 := (Below.refl w6.heap.size w6).drew.trans hb7'
  have HO7 := Hid.in ho7
  have HP7 := Hid.in (HP6.out.below hb7)
  have HG7 := Hid.in (HG6.out.below hb7)
  have HB7 := Hid.in (below_step HB6.out hb7)
  have HX7 := Hid.in (HX6.out.grow hb7)
  have HF4 := Hid.in (HW4'.out.grow hb7)
  have HF5 := Hid.in (HW5'.out.grow hb7)
  have HZ7 : Hid (w1.heap.size ≤ w6.heap.size) := HB6.out.size
  have HR14 : Hid (w1.heap.size ≤ r14) := HGE.out
  obtain ⟨bp, bc, hbv, -, -⟩ := ho7.slice
  rw [HM.out] at hbv
  subst hbv
  clear ho7 hb7 hb7' HP6 HG6 HB6 HX6 HW4' HW5' HRY6
  refine hK.out _ _ HX7.out (fun _ => ?_)
  clear hK
  go_simp
  refine wpAnyG_takeW (i := 7) (v := .agg (stA (.slice bp m bc) (.slice (some ⟨g, 0, none⟩) k k) 0 0 0 (.slice none 0 0) (.slice none 0 0) 0 false ⟨0, 0, 0, 0, 0⟩)) rfl (by kernel_rfl) (by kernel_rfl) (by kernel_rfl) (fun _ _ _ h => h) (Closed.step (j := 5) (Closed.step (j := 6) (Closed.step (j := 13) (Closed.step (j := 12) (Closed.step (j := 11) (Closed.step (j := 10) (Closed.step (j := 9) (Closed.step (j := 8) (Closed.step (j := 4) (Closed.step (j := 3) (Closed.step (j := 2) (Closed.step (j := 1) (Closed.step (j := 0) (Closed.start _) (by kernel_rfl)) (by kernel_rfl)) (by kernel_rfl)) (by kernel_rfl)) (by kernel_rfl)) (by kernel_rfl)) (by kernel_rfl)) (by kernel_rfl)) (by kernel_rfl)) (by kernel_rfl)) (by kernel_rfl)) (by kernel_rfl)) (by kernel_rfl)) (by kernel_rfl) (fun W => by go_simp; rfl) ?_
  go_simp
  refine wpAnyG_one (i := 14) (by kernel_rfl) rfl (fun K hK => ?_)
  refine step_store_whole rfl _ _ _ rfl rfl HF4.out (wA mq rq pq) rfl rfl (by kernel_rfl) rfl (by kernel_rfl) ?_
  intro w8 HS8 HG8'
  have hne4 : r14 ≠ w.heap.size := by have h1 := HN4.out; have h2 := HR14.out; omega
  refine hK.out _ _ (HX7.out.kept HG8'.out (fun e => hne4 (by injection e))) (fun _ => ?_)
  clear hK
  have HF5' := Hid.in (HF5.out.kept HG8'.out (fun e => by injection e with e; omega))
  refine wpAnyG_one (i := 15) (by kernel_rfl) rfl (fun K hK => ?_)
  refine step_store_whole rfl _ _ _ rfl rfl HF5'.out (stA (.slice bp m bc) (.slice (some ⟨g, 0, none⟩) k k) 0 0 0 (.slice none 0 0) (.slice none 0 0) 0 false ⟨0, 0, 0, 0, 0⟩) rfl rfl (by kernel_rfl) rfl (by kernel_rfl) ?_
  intro w9 HS9 HG9'
  have hne5 : r14 ≠ w.heap.size + 1 := by have h1 := HN5.out; have h2 := HR14.out; omega
  refine hK.out _ _ ((HX7.out.kept HG8'.out (fun e => hne4 (by injection e))).kept HG9'.out (fun e => hne5 (by injection e))) (fun _ => ?_)
  clear hK
  refine wpAnyG_one (i := 16) (by kernel_rfl) rfl (fun K hK => ?_)
  go_simp
  refine hK.out _ _ ((HX7.out.kept HG8'.out (fun e => hne4 (by injection e))).kept HG9'.out (fun e => hne5 (by injection e))) (fun _ => ?_)
  clear hK
  refine wpAnyG_done (by kernel_rfl) ?_ _
  refine NoPanic.normal ?_
  have HS8' := Hid.in (HS8.out.kept HG9'.out (fun e => by injection e with e; omega))
  have hG4 : ∀ j, (fun j => j = w.heap.size) j → j < w1.heap.size := fun j hj => by have := HN4.out; subst hj; exact this
  have hG5 : ∀ j, (fun j => j = w.heap.size + 1) j → j < w1.heap.size := fun j hj => by have := HN5.out; subst hj; exact this
  have HP9 := Hid.in ((HP7.out.keeps (keeps_grown HG8'.out) hG4).keeps (keeps_grown HG9'.out) hG5)
  have HGG := Hid.in ((HG7.out.grown HG8'.out (fun e => by have h1 := HG7.out.base; have h2 := HN4.out; omega)).grown HG9'.out (fun e => by have h1 := HG7.out.base; have h2 := HN5.out; omega))
  have HOO : Hid (OwnV w9 w6.heap.size (.slice bp m bc) ys) := by
    refine ownV_kept (ownV_kept HO7.out HG8'.out ?_) HG9'.out ?_
    · have h1 := HN4.out; have h2 := HZ7.out; omega
    · have h1 := HN5.out; have h2 := HZ7.out; omega
  have HBB : Hid (Below w.heap.size w w9) := ((below_step HB1.out HB7.out).trans (below_grown HG8'.out (Nat.le_refl _) (Nat.le_trans HB1.out.size HB7.out.size))).trans (below_grown HG9'.out (Nat.le_succ _) (Nat.le_trans (Nat.le_trans HB1.out.size HB7.out.size) HG8'.out.size))
  clear HG8' HG9' HO7 HG7 HP7 HB7 HX7 HF4 HF5 HF5' HS8
  go_simp
  go_wp2_with fail
  refine bodyPost_ret (v := .tuple #[.agg (wA mq rq pq), .agg (stA (.slice bp m bc) (.slice (some ⟨g, 0, none⟩) k k) 0 0 0 (.slice none 0 0) (.slice none 0 0) 0 false ⟨0, 0, 0, 0, 0⟩), .bool true]) (res20 HS8'.out HS9.out rfl rfl rfl) rfl ?_
  have hlow : w.heap.size ≤ w1.heap.size := HB1.out.size
  rw [← HKE.out]
  exact ⟨hk, mq, mg, rq, pq, bq, _, g, rfl, HP9.out.lowB hlow, ownV_low HOO.out (Nat.le_trans hlow HZ7.out), (by have hgg := HGG.out.lower (Nat.le_trans hlow HGG.out.base); simpa [flgs] using hgg), HBB.out⟩
end Go.Proofs.Ytekggimgobeggaa
