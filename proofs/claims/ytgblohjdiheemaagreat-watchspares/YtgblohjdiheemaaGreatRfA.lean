/- Ours: switchyardref23's Kind, Between, Outs, jump. -/
import Derived.Test.YtgblohjdiheemaaGreatKai
namespace Go.Proofs.YtgblohjdiheemaaGreat
open Go.RowKit Go.Maps

def kdE (x : Fv) (h a : Int) : Int := if x.h = h ∧ x.p = a then dd x else 0
set_option maxHeartbeats 4000000 in
theorem rkind_any (x : Fv) (h a : Int) (w : World) : Calls Tryz.prog 43 #[evV x, .int .i64 h, .int .i64 a] w fun e w' => e = .returned (.int .i64 (kdE x h a)) ∧ Below w.heap.size w w' := by
  obtain ⟨k, st, xh, xp, o, ky, n⟩ := x
  by_cases hh : xh = h
  · by_cases hp : xp = a
    · subst hh hp
      have HK : Hid (kdE ⟨k, st, xh, xp, o, ky, n⟩ xh xp = dd ⟨k, st, xh, xp, o, ky, n⟩) := by show _ = _; unfold kdE; rw [if_pos ⟨rfl, rfl⟩]
      rw [HK.out]
      by_cases h3 : k = 3
      · have HD : Hid (dd ⟨k, st, xh, xp, o, ky, n⟩ = 3) := by show dd _ = 3; unfold dd; rw [if_pos h3]
        rw [HD.out]
        subst h3
        go_enter Tryz.func43, Tryz.ntmps43
        go_wp2_with fail
        go_ret
        exact ⟨rfl, new_alloc _ _⟩
      · have e3 : (k == 3) = false := by simpa using h3
        by_cases h2 : k = 2
        · subst h2
          by_cases o1 : o = 3
          · have HD : Hid (dd ⟨2, st, xh, xp, o, ky, n⟩ = 1) := by show dd _ = 1; simp [dd, o1]
            rw [HD.out]
            subst o1
            go_enter Tryz.func43, Tryz.ntmps43
            go_wp2_with fail
            go_ret
            exact ⟨rfl, new_alloc _ _⟩
          · have e4 : (o == 3) = false := by simpa using o1
            by_cases o2 : o = 11
            · have HD : Hid (dd ⟨2, st, xh, xp, o, ky, n⟩ = 2) := by show dd _ = 2; simp [dd, o2]
              rw [HD.out]
              subst o2
              go_enter Tryz.func43, Tryz.ntmps43
              go_wp2_with fail
              go_ret
              exact ⟨rfl, new_alloc _ _⟩
            · have e5 : (o == 11) = false := by simpa using o2
              have HD : Hid (dd ⟨2, st, xh, xp, o, ky, n⟩ = 0) := by show dd _ = 0; simp [dd, o1, o2]
              rw [HD.out]
              clear o1 o2 h3
              go_enter Tryz.func43, Tryz.ntmps43
              go_wp2_with fail
              go_ret
              exact ⟨rfl, new_alloc _ _⟩
        · have e2 : (k == 2) = false := by simpa using h2
          have HD : Hid (dd ⟨k, st, xh, xp, o, ky, n⟩ = 0) := by show dd _ = 0; unfold dd; rw [if_neg h3, if_neg (by simp [h2]), if_neg (by simp [h2])]
          rw [HD.out]
          clear h2 h3
          go_enter Tryz.func43, Tryz.ntmps43
          go_wp2_with fail
          go_ret
          exact ⟨rfl, new_alloc _ _⟩
    · subst hh
      have e1 : (xp == a) = false := by simpa using hp
      have HK : Hid (kdE ⟨k, st, xh, xp, o, ky, n⟩ xh a = 0) := by show _ = _; unfold kdE; rw [if_neg (by simp [hp])]
      rw [HK.out]
      go_enter Tryz.func43, Tryz.ntmps43
      go_wp2_with fail
      go_ret
      exact ⟨rfl, new_alloc _ _⟩
  · have e1 : (xh == h) = false := by simpa using hh
    have HK : Hid (kdE ⟨k, st, xh, xp, o, ky, n⟩ h a = 0) := by show _ = _; unfold kdE; rw [if_neg (by simp [hh])]
    rw [HK.out]
    go_enter Tryz.func43, Tryz.ntmps43
    go_wp2_with fail
    go_ret
    exact ⟨rfl, new_alloc _ _⟩
theorem part_grow (L : List Fv) (a b : Int) (j : Nat) (hj : j < L.length) : partL (L.take (j + 1)) a b = partL (L.take j) a b ++ (if a ≤ (j : Int) ∧ (j : Int) < b then [L[j]] else []) := by
  unfold partL
  rw [List.take_take, List.take_take]
  by_cases hb : (j : Int) < b
  · rw [show min b.toNat (j + 1) = j + 1 by omega, show min b.toNat j = j by omega, take_snoc L j hj]
    by_cases ha : a ≤ (j : Int)
    · rw [if_pos ⟨ha, hb⟩, List.drop_append_of_le_length (by rw [List.length_take]; omega)]
    · rw [if_neg (by simp [ha]), List.append_nil, List.drop_eq_nil_of_le (by rw [List.length_append, List.length_take]; simp; omega), List.drop_eq_nil_of_le (by rw [List.length_take]; omega)]
  · rw [if_neg (by simp [hb]), List.append_nil, show min b.toNat (j + 1) = min b.toNat j by omega]
theorem part_len (L : List Fv) (a b : Int) : (partL L a b).length ≤ L.length := by
  unfold partL
  rw [List.length_drop, List.length_take]; omega
set_option maxRecDepth 8000 in
set_option maxHeartbeats 4000000 in
theorem rbetween_any (p : Option Addr) (n c : Nat) (L : List Fv) (hart site frm to_ : Int) (w : World) (hn : L.length = n) (hn2 : n ≤ 1048576) (hr : KRow fE w p L) :
    Calls Tryz.prog 17 #[.slice p n c, .int .i64 hart, .int .i64 site, .int .i64 frm, .int .i64 to_] w fun e w' => e = .returned (.tuple #[.int .i64 (btwL hart site (partL L frm to_)).1, .int .i64 (btwL hart site (partL L frm to_)).2]) ∧ Below w.heap.size w w' := by
  have HN := Hid.in hn
  have HR := Hid.in hr
  clear hn hr
  have HD : Hid (∀ x (W : World), Calls Tryz.prog 43 #[evV x, .int .i64 hart, .int .i64 site] W _) := fun x W => rkind_any x hart site W
  go_enter Tryz.func17, Tryz.ntmps17
  go_wp2_with fail
  go_loopw [12, 13, 14] (fun qv ov vi wr => ∃ j q f : Nat, vi = .int .i64 j ∧ j ≤ n ∧ qv = .int .i64 q ∧ ov = .int .i64 f ∧ (q, f) = btwL hart site (partL (L.take j) frm to_) ∧ Below w.heap.size w wr) (fun _ _ vi _ => n - (intOf vi).toNat)
  case atStart => exact ⟨0, 0, 0, rfl, Nat.zero_le _, rfl, rfl, by simp [partL, btwL], Below.refl _ _⟩
  case round =>
    obtain ⟨j, q, f, rfl, hj, rfl, rfl, hqf, hB⟩ := hrel
    have HB := Hid.in hB
    have HQ := Hid.in hqf
    clear hB hqf
    by_cases hlt : j < n
    · have hjL : j < L.length := by rw [HN.out]; exact hlt
      have HRr : Hid (KRow fE wr p L) := HR.out.below HB.out
      obtain ⟨b, o, rfl, hc⟩ := ev7 HRr.out (by omega)
      obtain ⟨c0, c1, c2, c3, c4, c5, c6⟩ := hc j hjL
      have HT := Hid.in (part_grow L frm to_ j hjL)
      have hle := btw_le hart site (partL (L.take j) frm to_)
      have hpl := part_len (L.take j) frm to_
      rw [← HQ.out] at hle
      rw [List.length_take] at hpl
      dsimp only at hle
      have hq : q ≤ 1048576 := by omega
      have hf : f ≤ 1048576 := by omega
      have g1 : decide ((j : Int) < (n : Int)) = true := decide_eq_true (by omega)
      have w1 : IntKind.i64.wrap ((q : Int) + 1) = (q : Int) + 1 := by rw [IntKind.wrap_i64]; omega
      have w2 : IntKind.i64.wrap ((f : Int) + 1) = (f : Int) + 1 := by rw [IntKind.wrap_i64]; omega
      have w3 : IntKind.i64.wrap ((j : Int) + 1) = (j : Int) + 1 := by rw [IntKind.wrap_i64]; omega
      clear hc HRr hle hpl
      generalize L[j] = x at *
      by_cases ha : (j : Int) < frm
      · have e1 : decide ((j : Int) < frm) = true := decide_eq_true ha
        have HE : Hid ((q, f) = btwL hart site (partL (L.take (j + 1)) frm to_)) := by show _ = _; rw [HT.out, if_neg (by omega), List.append_nil]; exact HQ.out
        clear HT HQ
        go_wp2_with fail
        go_roundw
        case rel => exact ⟨j + 1, q, f, by go_num, by omega, rfl, rfl, HE.out, HB.out⟩
        case measure => simp [intOf]; omega
      · have e1 : decide ((j : Int) < frm) = false := decide_eq_false ha
        by_cases hb : to_ ≤ (j : Int)
        · have e2 : decide (to_ ≤ (j : Int)) = true := decide_eq_true hb
          have HE : Hid ((q, f) = btwL hart site (partL (L.take (j + 1)) frm to_)) := by show _ = _; rw [HT.out, if_neg (by omega), List.append_nil]; exact HQ.out
          clear HT HQ
          go_wp2_with fail
          go_roundw
          case rel => exact ⟨j + 1, q, f, by go_num, by omega, rfl, rfl, HE.out, HB.out⟩
          case measure => simp [intOf]; omega
        · have e2 : decide (to_ ≤ (j : Int)) = false := decide_eq_false hb
          have HE : Hid (btwL hart site (partL (L.take (j + 1)) frm to_) = btwStep hart site (q, f) x) := by show _ = _; rw [HT.out, if_pos ⟨by omega, by omega⟩, btwL_snoc, ← HQ.out]
          have hd := HD.out x wr
          have hE := HE.out
          have hk : kdE x hart site = if x.h = hart ∧ x.p = site then dd x else 0 := rfl
          have hs : btwStep hart site (q, f) x = (if kdE x hart site = 1 then (q + 1, f) else if kdE x hart site = 2 ∨ kdE x hart site = 3 then (q, f + 1) else (q, f)) := by
            rw [hk]; unfold btwStep
            by_cases h : x.h = hart ∧ x.p = site
            · rw [if_pos h, if_pos h]
            · rw [if_neg h, if_neg h, if_neg (by decide), if_neg (by decide)]
          rw [hs] at hE
          have HE2 := Hid.in hE
          clear HE hE hk hs HT HQ
          generalize kdE x hart site = d at *
          obtain ⟨xk, xst, xh, xp, xo, xky, xn⟩ := x
          dsimp only at *
          by_cases d1 : d = 1
          · subst d1
            have HE3 : Hid ((q + 1, f) = btwL hart site (partL (L.take (j + 1)) frm to_)) := by show _ = _; rw [HE2.out, if_pos rfl]
            clear HE2
            go_wp2_with (go_at_call 43; refine Hid.out ?_)
            refine Lib.hid ?_
            (with_reducible refine hd.mono ?_)
            rintro e w5 ⟨rfl, hb⟩
            have HB5 := Hid.in (below_step HB.out hb)
            clear hd hb
            go_wp2_with fail
            go_roundw
            case rel => exact ⟨j + 1, q + 1, f, by go_num, by omega, by go_num, rfl, HE3.out, HB5.out⟩
            case measure => simp [intOf]; omega
          · have f1 : (d == 1) = false := by simpa using d1
            by_cases d2 : d = 2
            · subst d2
              have HE3 : Hid ((q, f + 1) = btwL hart site (partL (L.take (j + 1)) frm to_)) := by show _ = _; rw [HE2.out, if_neg (by decide), if_pos (.inl rfl)]
              clear HE2
              go_wp2_with (go_at_call 43; refine Hid.out ?_)
              refine Lib.hid ?_
              (with_reducible refine hd.mono ?_)
              rintro e w5 ⟨rfl, hb⟩
              have HB5 := Hid.in (below_step HB.out hb)
              clear hd hb
              go_wp2_with fail
              go_roundw
              case rel => exact ⟨j + 1, q, f + 1, by go_num, by omega, rfl, by go_num, HE3.out, HB5.out⟩
              case measure => simp [intOf]; omega
            · have f2 : (d == 2) = false := by simpa using d2
              by_cases d3 : d = 3
              · subst d3
                have HE3 : Hid ((q, f + 1) = btwL hart site (partL (L.take (j + 1)) frm to_)) := by show _ = _; rw [HE2.out, if_neg (by decide), if_pos (.inr rfl)]
                clear HE2
                go_wp2_with (go_at_call 43; refine Hid.out ?_)
                refine Lib.hid ?_
                (with_reducible refine hd.mono ?_)
                rintro e w5 ⟨rfl, hb⟩
                have HB5 := Hid.in (below_step HB.out hb)
                clear hd hb
                go_wp2_with fail
                go_roundw
                case rel => exact ⟨j + 1, q, f + 1, by go_num, by omega, rfl, by go_num, HE3.out, HB5.out⟩
                case measure => simp [intOf]; omega
              · have f3 : (d == 3) = false := by simpa using d3
                have HE3 : Hid ((q, f) = btwL hart site (partL (L.take (j + 1)) frm to_)) := by show _ = _; rw [HE2.out, if_neg d1, if_neg (fun h => h.elim d2 d3)]
                clear HE2
                go_wp2_with (go_at_call 43; refine Hid.out ?_)
                refine Lib.hid ?_
                (with_reducible refine hd.mono ?_)
                rintro e w5 ⟨rfl, hb⟩
                have HB5 := Hid.in (below_step HB.out hb)
                clear hd hb
                go_wp2_with fail
                go_roundw
                case rel => exact ⟨j + 1, q, f, by go_num, by omega, rfl, rfl, HE3.out, HB5.out⟩
                case measure => simp [intOf]; omega
    · obtain rfl : j = n := by omega
      have HL : Hid ((q, f) = btwL hart site (partL L frm to_)) := by
        have := HQ.out
        rwa [List.take_of_length_le (by rw [HN.out]; exact Nat.le_refl _)] at this
      go_wp2_with fail
      go_ret2
      exact ⟨by rw [← HL.out]; rfl, HB.out⟩
set_option maxRecDepth 4000 in
set_option maxHeartbeats 4000000 in
theorem routs_any (p : Option Addr) (n c : Nat) (L : List Fv) (hart : Int) (w : World) (hn : L.length = n) (hn2 : n ≤ 1048576) (hr : KRow fE w p L) :
    Calls Tryz.prog 20 #[.slice p n c, .int .i64 hart] w fun e w' => ∃ v, e = .returned v ∧ KOwn fU 87 w' w.heap.size v (outsL L hart) ∧ Below w.heap.size w w' := by
  have HN := Hid.in hn
  have HR := Hid.in hr
  clear hn hr
  go_enter Tryz.func20, Tryz.ntmps20
  go_wp2_with fail
  go_loopw [5, 6] (fun v vi wr => ∃ j : Nat, vi = .int .i64 j ∧ j ≤ n ∧ KOwn fU 87 wr w.heap.size v (outsL (L.take j) hart) ∧ Below w.heap.size w wr) (fun _ vi _ => n - (intOf vi).toNat)
  case atStart => exact ⟨0, rfl, Nat.zero_le _, KOwn.nil _ _ _ _, Below.refl _ _⟩
  case round =>
    obtain ⟨j, rfl, hj, hO, hB⟩ := hrel
    have HO := Hid.in hO
    have HB := Hid.in hB
    clear hO hB
    by_cases hlt : j < n
    · have hjL : j < L.length := by rw [HN.out]; exact hlt
      have HRr : Hid (KRow fE wr p L) := HR.out.below HB.out
      obtain ⟨b, o, rfl, hc⟩ := ev7 HRr.out (by omega)
      obtain ⟨c0, c1, c2, c3, c4, c5, c6⟩ := hc j hjL
      have HT : Hid (outsL (L.take (j + 1)) hart = outsL (L.take j) hart ++ (if L[j].k = 5 ∧ L[j].h = hart then [L[j].n % 4294967296] else [])) := by show _ = _; rw [take_snoc L j hjL, outsL_snoc]
      have HL : Hid ((outsL (L.take j) hart).length ≤ 1048576) := Nat.le_trans (outsL_len _ _) (by rw [List.length_take]; omega)
      generalize L[j] = x at *
      have g1 : decide ((j : Int) < (n : Int)) = true := decide_eq_true (by omega)
      have w3 : IntKind.i64.wrap ((j : Int) + 1) = (j : Int) + 1 := by rw [IntKind.wrap_i64]; omega
      obtain ⟨pv, cv, ev, -⟩ := HO.out.shape
      subst ev
      clear hc HRr
      obtain ⟨xk, xst, xh, xp, xo, xky, xn⟩ := x
      dsimp only at *
      by_cases h5 : xk = 5
      · by_cases hh : xh = hart
        · subst h5 hh
          have hE := HT.out
          rw [if_pos ⟨rfl, rfl⟩] at hE
          have HE := Hid.in hE
          have hw : IntKind.u32.wrap xn = xn % 4294967296 := by simp [IntKind.wrap, IntKind.bits, IntKind.signed]
          clear HT hE
          go_wp2_with (at_builtin; refine Hid.out ?_)
          refine Lib.hid ?_
          refine kpush elemU _ rfl _ _ rfl w.heap.size _ (outsL (L.take j) xh) rfl (HO.out.alloc _) ⟨wr.heap.size, 0, none⟩ 1 (xn % 4294967296) rfl (fU.news wr (xn % 4294967296) 87 #[.int .u32 (xn % 4294967296)] rfl) HL.out (by decide) (Nat.le_trans HB.out.size (new_alloc _ _).size) ?_
          intro v' w5 ho5 hg5 hb5
          have HO5 := Hid.in ho5
          have HB5 := Hid.in (hb5 w (below_alloc HB.out _))
          clear ho5 hg5 hb5 c0 c1 c2 c3 c4 c5 c6
          go_wp2_with fail
          go_roundw
          case rel => exact ⟨j + 1, by go_num, by omega, by rw [HE.out]; exact HO5.out, HB5.out⟩
          case measure => simp [intOf]; omega
        · subst h5
          have e1 : (xh == hart) = false := by simpa using hh
          have HE : Hid (outsL (L.take (j + 1)) hart = outsL (L.take j) hart) := by show _ = _; rw [HT.out, if_neg (by simp [hh]), List.append_nil]
          clear HT
          go_wp2_with fail
          go_roundw
          case rel => exact ⟨j + 1, by go_num, by omega, by rw [HE.out]; exact HO.out, HB.out⟩
          case measure => simp [intOf]; omega
      · have e1 : (xk == 5) = false := by simpa using h5
        have HE : Hid (outsL (L.take (j + 1)) hart = outsL (L.take j) hart) := by show _ = _; rw [HT.out, if_neg (by simp [h5]), List.append_nil]
        clear HT
        go_wp2_with fail
        go_roundw
        case rel => exact ⟨j + 1, by go_num, by omega, by rw [HE.out]; exact HO.out, HB.out⟩
        case measure => simp [intOf]; omega
    · obtain rfl : j = n := by omega
      have HL : Hid (outsL (L.take j) hart = outsL L hart) := by show _ = _; rw [List.take_of_length_le (by rw [HN.out]; exact Nat.le_refl _)]
      go_wp2_with fail
      go_ret
      exact ⟨_, rfl, by rw [← HL.out]; exact HO.out, HB.out⟩
/-- is a key's new one the jump? -/
def jmpB (c : Option Int) : Bool := match c with
  | none => true
  | some n => n == 1
theorem callL_app (A B : List Fv) (key : Int) : callL (A ++ B) key = match callL B key with
    | some n => some n
    | none => callL A key := by
  induction A with
  | nil => rw [List.nil_append]; cases callL B key <;> rfl
  | cons x A ih =>
    rw [List.cons_append, callL, callL, ih]
    cases callL B key <;> rfl
theorem callL_at (L : List Fv) (key : Int) (j : Nat) (hj : j < L.length) (h : callL (L.drop (j + 1)) key = none) : callL (L.drop j) key = if L[j].k = 8 ∧ L[j].ky = key then some L[j].n else none := by
  rw [List.drop_eq_getElem_cons hj]
  show (match callL (L.drop (j + 1)) key with | some n => some n | none => if L[j].k = 8 ∧ L[j].ky = key then some L[j].n else none) = _
  rw [h]
set_option maxRecDepth 4000 in
set_option maxHeartbeats 4000000 in
theorem rjump_any (p : Option Addr) (n c : Nat) (L : List Fv) (key : Int) (w : World) (hn : L.length = n) (hn2 : n ≤ 1048576) (hr : KRow fE w p L) :
    Calls Tryz.prog 65 #[.slice p n c, .int .i64 key] w fun e w' => e = .returned (.bool (jmpB (callL L key))) ∧ w' = w := by
  have HN := Hid.in hn
  have HR := Hid.in hr
  clear hn hr
  have w0 : IntKind.i64.wrap ((n : Int) - 1) = (n : Int) - 1 := by rw [IntKind.wrap_i64]; omega
  go_enter Tryz.func65, Tryz.ntmps65
  go_wp2_with fail
  go_loopw [5] (fun vi wr => wr = w ∧ ∃ j : Nat, vi = .int .i64 ((j : Int) - 1) ∧ j ≤ n ∧ callL (L.drop j) key = none) (fun vi _ => (intOf vi + 1).toNat)
  case atStart => exact ⟨rfl, n, rfl, Nat.le_refl _, by rw [List.drop_of_length_le (by rw [HN.out]; exact Nat.le_refl _)]; rfl⟩
  case round =>
    obtain ⟨hw, j, rfl, hj, hc0⟩ := hrel
    have hw2 := hw.symm
    clear hw
    subst hw2
    have HC := Hid.in hc0
    clear hc0 w0
    cases j with
    | zero =>
      have HL : Hid (jmpB (callL L key) = true) := by
        have := HC.out
        rw [List.drop_zero] at this
        show _ = _
        rw [this]; rfl
      have e0 : (((0 : Nat) : Int) - 1) = -1 := rfl
      rw [e0]
      have g1 : decide ((0 : Int) ≤ -1) = false := by decide
      go_wp2_with fail
      go_ret
      exact ⟨by rw [HL.out]; rfl, rfl⟩
    | succ j =>
      have hjL : j < L.length := by rw [HN.out]; omega
      obtain ⟨b, o, rfl, hc⟩ := ev7 HR.out (by omega)
      obtain ⟨c0, c1, c2, c3, c4, c5, c6⟩ := hc j hjL
      have HT := Hid.in (callL_at L key j hjL HC.out)
      have HA := Hid.in (callL_app (L.take j) (L.drop j) key)
      rw [List.take_append_drop] at HA
      generalize L[j] = x at *
      obtain ⟨xk, xst, xh, xp, xo, xky, xn⟩ := x
      dsimp only at *
      have e0 : (((j + 1 : Nat) : Int) - 1) = (j : Int) := by omega
      rw [e0]
      have g1 : decide ((0 : Int) ≤ (j : Int)) = true := decide_eq_true (by omega)
      have g2 : (0 : Int) ≤ (j : Int) := by omega
      have g3 : (j : Int) < (n : Int) := by omega
      have w3 : IntKind.i64.wrap ((j : Int) - 1) = (j : Int) - 1 := by rw [IntKind.wrap_i64]; omega
      clear hc HC
      by_cases h8 : xk = 8
      · by_cases hk : xky = key
        · subst h8 hk
          have HL : Hid (jmpB (callL L xky) = (xn == 1)) := by
            show _ = _
            rw [HA.out, HT.out, if_pos ⟨rfl, rfl⟩]; rfl
          go_wp2_with fail
          go_ret
          exact ⟨by rw [HL.out]; rfl, rfl⟩
        · subst h8
          have e1 : (xky == key) = false := by simpa using hk
          have HE : Hid (callL (L.drop j) key = none) := by show _ = _; rw [HT.out, if_neg (by simp [hk])]
          clear HT HA
          go_wp2_with fail
          go_roundw
          case rel => exact ⟨trivial, j, rfl, by omega, HE.out⟩
          case measure => simp [intOf]
      · have e1 : (xk == 8) = false := by simpa using h8
        have HE : Hid (callL (L.drop j) key = none) := by show _ = _; rw [HT.out, if_neg (by simp [h8])]
        clear HT HA
        go_wp2_with fail
        go_roundw
        case rel => exact ⟨trivial, j, rfl, by omega, HE.out⟩
        case measure => simp [intOf]
end Go.Proofs.YtgblohjdiheemaaGreat
