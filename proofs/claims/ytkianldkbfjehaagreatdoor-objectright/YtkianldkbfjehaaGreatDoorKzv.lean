/- Texts put together: RightL, Shar, RSym, Holds. -/
import Derived.Test.YtkianldkbfjehaaGreatDoorKzq
import Derived.Test.YtkianldkbfjehaaGreatDoorKc
import Derived.Test.YtkianldkbfjehaaGreatDoorKi
import Derived.Test.YtkianldkbfjehaaGreatDoorKh
import Derived.Test.YtkianldkbfjehaaGreatDoorKe
import Derived.Deep.RegionLaw

/- What makes an object right, as lists: symbols, fixes, marks, one by one. -/
namespace Go.Proofs.YtkianldkbfjehaaGreatDoor
open Go.RowKit

structure Sy where
  name : ByteArray
  at_ : Int
  g : Bool
structure Fx where
  k : Int
  at_ : Int
  name : ByteArray
structure Mk where
  at_ : Int
  key : ByteArray
  to_ : ByteArray
def syV (s : Sy) : V3 := (.string s.name, .int .i64 s.at_, .bool s.g)
def fxV (f : Fx) : V3 := (.int .u8 f.k, .int .i64 f.at_, .string f.name)
def mkV (m : Mk) : V3 := (.int .i64 m.at_, .string m.key, .string m.to_)
/-- numbers that an int holds -/
def i64P (a : Int) : Prop := -9223372036854775808 ≤ a ∧ a ≤ 9223372036854775807
/-- what Go's types hold -/
def SyF (s : Sy) : Prop := s.name.size ≤ maxLen ∧ i64P s.at_
def FxF (f : Fx) : Prop := f.name.size ≤ maxLen ∧ i64P f.at_ ∧ 0 ≤ f.k ∧ f.k ≤ 255
def MkF (m : Mk) : Prop := m.key.size ≤ maxLen ∧ m.to_.size ≤ maxLen ∧ i64P m.at_
/-- a list of such in memory, whoever made it -/
def Row3 (w : World) (p : Option Addr) (L : List V3) : Prop :=
  0 < L.length → ∃ b o, p = some ⟨b, o, none⟩ ∧ ∀ i (hi : i < L.length) j, j < 3 → w.cell? ⟨b, o + i * 3 + j, none⟩ = (l3 L[i])[j]?
theorem Row3.nil (w : World) (p : Option Addr) : Row3 w p [] := fun h => absurd h (by simp)
theorem Row3.below {w w' : World} {p : Option Addr} {L : List V3} (h : Row3 w p L) (hb : Below w.heap.size w w') : Row3 w' p L := fun h0 => by
  obtain ⟨b, o, e, h1⟩ := h h0
  refine ⟨b, o, e, fun i hi j hj => ?_⟩
  have h2 := h1 i hi j hj
  obtain ⟨u, hu⟩ : ∃ u, (l3 L[i])[j]? = some u := ⟨_, List.getElem?_eq_getElem (show j < 3 from hj)⟩
  rw [hu] at h2 ⊢
  exact (hb.cell (p := ⟨b, o + i * 3 + j, none⟩) (cell_lt h2)).trans h2
theorem TOwn.row3 {T : TypeId} {w : World} {B : Nat} {v : Value} {L : List V3} (h : TOwn T w B v L) : ∃ p cap, v = .slice p L.length cap ∧ L.length ≤ cap ∧ cap ≤ maxLen ∧ Row3 w p L := by
  obtain ⟨p, cap, e, h1, h2, h3⟩ := h.shape
  refine ⟨p, cap, e, h1, h2, fun h0 => ?_⟩
  obtain ⟨g, e2, -, -, h4⟩ := h3 h0
  exact ⟨g, 0, e2, fun i hi j hj => by rw [Nat.zero_add]; exact h4 i hi j hj⟩

instance (k : Nat) (c : Int) : Decidable (okAt k c) := by unfold okAt; infer_instance
/-- whether a text is a name -/
def nmB (s : ByteArray) : Bool := decide (0 < s.size) && decide (s.size ≤ 16) && (List.range s.size).all fun k => decide (okAt k (byteAt s k))
theorem nmB_iff (s : ByteArray) : nmB s = true ↔ NameP s := by
  unfold nmB NameP
  simp only [Bool.and_eq_true, decide_eq_true_eq, List.all_eq_true, List.mem_range]
  constructor
  · rintro ⟨⟨h1, h2⟩, h3⟩; exact ⟨h3, h1, h2⟩
  · rintro ⟨h3, h1, h2⟩; exact ⟨⟨h1, h2⟩, h3⟩
/-- whether these bytes stand there -/
def stB (bs : List Int) (a : Int) (part : List Int) : Bool := decide (0 ≤ a ∧ a.toNat + part.length ≤ bs.length ∧ (bs.drop a.toNat).take part.length = part)
def symB (n : Nat) (least : Int) (seen : List ByteArray) (s : Sy) : Bool := !inB s.name seen && nmB s.name && decide (least ≤ s.at_) && decide (s.at_ ≤ n)
def rsL (n : Nat) : Int → List ByteArray → List Sy → Bool
  | _, _, [] => true
  | least, seen, s :: r => symB n least seen s && rsL n s.at_ (seen ++ [s.name]) r
def fixB (bs : List Int) (least : Int) (f : Fx) : Bool := decide (f.k = 1 ∨ f.k = 2) && nmB f.name && decide (least ≤ f.at_) && stB bs f.at_ [0, 0, 0, 0]
def rfL (bs : List Int) : Int → List Fx → Bool
  | _, [] => true
  | least, f :: r => fixB bs least f && rfL bs (f.at_ + 4) r
/-- whether a fix has a byte of the site there -/
def shB (fs : List Fx) (a : Int) : Bool := fs.any fun f => decide (f.at_ < a + 5 ∧ a < f.at_ + 4)
def quiet : List Int := [15, 31, 68, 0, 0]
def mrkB (bs : List Int) (fs : List Fx) (least : Int) (m : Mk) : Bool := nmB m.key && nmB m.to_ && decide (least ≤ m.at_) && stB bs m.at_ quiet && !shB fs m.at_
def rmL (bs : List Int) (fs : List Fx) : Int → List Mk → Bool
  | _, [] => true
  | least, m :: r => mrkB bs fs least m && rmL bs fs m.at_ r
structure Ob where
  bs : List Int
  sy : List Sy
  fx : List Fx
  mk_ : List Mk
def okO (o : Ob) : Bool := decide (o.bs.length ≤ 65536 ∧ o.sy.length ≤ 4096 ∧ o.fx.length ≤ 4096 ∧ o.mk_.length ≤ 4096) && rsL o.bs.length 0 [] o.sy && rfL o.bs 0 o.fx && rmL o.bs o.fx 0 o.mk_
/-- an object in memory -/
structure ObF (o : Ob) : Prop where
  byt : Byt o.bs
  sy : ∀ s ∈ o.sy, SyF s
  fx : ∀ f ∈ o.fx, FxF f
  mk_ : ∀ m ∈ o.mk_, MkF m

theorem rs_step (n : Nat) (L : List Sy) (i : Nat) (h : i < L.length) (least : Int) (seen : List ByteArray) : rsL n least seen (L.drop i) = (symB n least seen L[i] && rsL n L[i].at_ (seen ++ [L[i].name]) (L.drop (i + 1))) := by
  rw [List.drop_eq_getElem_cons h]; rfl
theorem rf_step (bs : List Int) (L : List Fx) (i : Nat) (h : i < L.length) (least : Int) : rfL bs least (L.drop i) = (fixB bs least L[i] && rfL bs (L[i].at_ + 4) (L.drop (i + 1))) := by
  rw [List.drop_eq_getElem_cons h]; rfl
theorem rm_step (bs : List Int) (fs : List Fx) (L : List Mk) (i : Nat) (h : i < L.length) (least : Int) : rmL bs fs least (L.drop i) = (mrkB bs fs least L[i] && rmL bs fs L[i].at_ (L.drop (i + 1))) := by
  rw [List.drop_eq_getElem_cons h]; rfl
def names (L : List Sy) : List ByteArray := L.map Sy.name
theorem names_take (L : List Sy) (i : Nat) (h : i < L.length) : names (L.take (i + 1)) = names (L.take i) ++ [L[i].name] := by
  unfold names
  rw [List.take_succ_eq_append_getElem h, List.map_append]; rfl
theorem names_len (L : List Sy) (i : Nat) (h : i ≤ L.length) : (names (L.take i)).length = i := by
  unfold names
  rw [List.length_map, List.length_take, Nat.min_eq_left h]
/-- fixes that are right stand in order, four bytes each -/
theorem rf_sorted (bs : List Int) : ∀ (L : List Fx) (least : Int), rfL bs least L = true → (∀ i (h : i < L.length), least ≤ L[i].at_) ∧ ∀ i j (h : i < j) (h' : j < L.length), L[i].at_ + 4 ≤ L[j].at_
  | [], _, _ => ⟨fun i h => absurd h (by simp), fun i j _ h' => absurd h' (by simp)⟩
  | f :: r, least, h => by
    unfold rfL at h
    rw [Bool.and_eq_true] at h
    obtain ⟨h1, h2⟩ := h
    obtain ⟨ih1, ih2⟩ := rf_sorted bs r (f.at_ + 4) h2
    have hle : least ≤ f.at_ := by
      unfold fixB at h1
      simp only [Bool.and_eq_true, decide_eq_true_eq] at h1
      exact h1.1.2
    refine ⟨fun i hi => ?_, fun i j hij hj => ?_⟩
    · cases i with
      | zero => exact hle
      | succ i =>
        have := ih1 i (by simpa using hi)
        simp only [List.getElem_cons_succ]
        omega
    · cases j with
      | zero => omega
      | succ j =>
        cases i with
        | zero => simpa using ih1 j (by simpa using hj)
        | succ i => simpa using ih2 i j (by omega) (by simpa using hj)
/-- which fixes share a byte: of those that begin ahead of the site's end the last one tells -/
theorem sh_last (fs : List Fx) (a : Int) (k : Nat) (hk : k ≤ fs.length) (hs : ∀ i j (_ : i < j) (h' : j < fs.length), fs[i].at_ + 4 ≤ fs[j].at_)
    (h1 : ∀ i (h : i < fs.length), i < k → fs[i].at_ < a + 5) (h2 : ∀ i (h : i < fs.length), k ≤ i → a + 5 ≤ fs[i].at_) :
    shB fs a = true ↔ ∃ h : 0 < k, a < (fs[k - 1]'(by omega)).at_ + 4 := by
  unfold shB
  rw [List.any_eq_true]
  constructor
  · rintro ⟨f, hf, e⟩
    obtain ⟨i, hi, rfl⟩ := List.getElem_of_mem hf
    have e := of_decide_eq_true e
    have hik : i < k := by
      by_cases c : i < k
      · exact c
      · have := h2 i hi (by omega)
        omega
    refine ⟨by omega, ?_⟩
    by_cases c : i = k - 1
    · subst c; exact e.2
    · have := hs i (k - 1) (by omega) (by omega)
      omega
  · rintro ⟨h0, h⟩
    exact ⟨fs[k - 1]'(by omega), List.getElem_mem _, decide_eq_true ⟨h1 (k - 1) (by omega) (by omega), h⟩⟩

end Go.Proofs.YtkianldkbfjehaaGreatDoor

/- slices.BinarySearchFunc over fixes; object.sharesByte. -/
namespace Go.Proofs.YtkianldkbfjehaaGreatDoor
open Go.RowKit

def cmpI (a b : Int) : Int := if a < b then -1 else if b < a then 1 else 0
theorem isNaN_any (a : Int) (w : World) : Calls Tryz.prog 106 #[.int .i64 a] w fun E w' => E = .returned (.bool false) ∧ w' = w := by
  go_enter Tryz.func106, Tryz.ntmps106
  go_wp2
  go_ret
  exact ⟨rfl, rfl⟩
theorem compare_any (a b : Int) (w : World) : Calls Tryz.prog 89 #[.int .i64 a, .int .i64 b] w fun E w' => E = .returned (.int .i64 (cmpI a b)) ∧ w' = w := by
  have hN := isNaN_any
  by_cases h1 : a < b
  · have HC : Hid (cmpI a b = -1) := if_pos h1
    rw [HC.out]
    go_enter Tryz.func89, Tryz.ntmps89
    go_wp2_with (go_at_call 106; refine (hN _ _).mono ?_; rintro E w1 ⟨rfl, rfl⟩)
    go_ret
    exact ⟨rfl, rfl⟩
  · by_cases h2 : b < a
    · have HC : Hid (cmpI a b = 1) := by
        have : cmpI a b = 1 := by unfold cmpI; rw [if_neg h1, if_pos h2]
        exact this
      rw [HC.out]
      go_enter Tryz.func89, Tryz.ntmps89
      go_wp2_with (go_at_call 106; refine (hN _ _).mono ?_; rintro E w1 ⟨rfl, rfl⟩)
      go_ret
      exact ⟨rfl, rfl⟩
    · have HC : Hid (cmpI a b = 0) := by
        have : cmpI a b = 0 := by unfold cmpI; rw [if_neg h1, if_neg h2]
        exact this
      rw [HC.out]
      go_enter Tryz.func89, Tryz.ntmps89
      go_wp2_with (go_at_call 106; refine (hN _ _).mono ?_; rintro E w1 ⟨rfl, rfl⟩)
      go_ret
      exact ⟨rfl, rfl⟩
theorem clos_any (k a e : Int) (s : ByteArray) (w : World) : Calls Tryz.prog 88 #[.agg #[.int .u8 k, .int .i64 a, .string s], .int .i64 e] w fun E w' => E = .returned (.int .i64 (cmpI a e)) ∧ Below w.heap.size w w' := by
  have hC := compare_any a e
  generalize cmpI a e = r at *
  go_enter Tryz.func88, Tryz.ntmps88
  go_wp2_with (go_at_call 89; refine (hC _).mono ?_; rintro E w1 ⟨rfl, rfl⟩)
  go_ret
  exact ⟨rfl, new_alloc _ _⟩

/-- fixes in order -/
def SortF (fs : List Fx) : Prop := ∀ i j (_ : i < j) (h' : j < fs.length), (fs[i]'(by omega)).at_ ≤ fs[j].at_
theorem cmp_neg {a b : Int} : cmpI a b < 0 ↔ a < b := by
  unfold cmpI
  split
  · simp_all
  · split <;> simp_all
theorem cells3 {w : World} {b o : Nat} {L : List V3} (h : ∀ i (hi : i < L.length) j, j < 3 → w.cell? ⟨b, o + i * 3 + j, none⟩ = (l3 L[i])[j]?) (i : Nat) (hi : i < L.length) :
    w.cell? ⟨b, o + i * 3, none⟩ = some L[i].1 ∧ w.cell? ⟨b, o + i * 3 + 1, none⟩ = some L[i].2.1 ∧ w.cell? ⟨b, o + i * 3 + 2, none⟩ = some L[i].2.2 :=
  ⟨h i hi 0 (by decide), h i hi 1 (by decide), h i hi 2 (by decide)⟩

set_option maxRecDepth 20000 in
set_option maxHeartbeats 1000000 in
theorem search_any (p : Option Addr) (n c : Nat) (t : Int) (fs : List Fx) (w : World) (hn : fs.length = n) (hn4 : n ≤ 1048576) (hx : Row3 w p (fs.map fxV)) (hs : SortF fs) :
    Calls Tryz.prog 87 #[.slice p n c, .int .i64 t, .func (Fn.func 88) #[] #[]] w fun E w' => (∃ (k : Nat) (b : Bool), E = .returned (.tuple #[.int .i64 k, .bool b]) ∧ k ≤ n ∧ (∀ i (h : i < fs.length), i < k → fs[i].at_ < t) ∧ (∀ i (h : i < fs.length), k ≤ i → t ≤ fs[i].at_)) ∧ Below w.heap.size w w' := by
  have hC := clos_any
  have HX := Hid.in hx
  have HS := Hid.in hs
  have HN := Hid.in hn
  clear hx hs hn
  go_enter Tryz.func87, Tryz.ntmps87
  go_wp2_with fail
  go_loopw [9, 10] (fun vi vj wr => ∃ i j : Nat, vi = .int .i64 i ∧ vj = .int .i64 j ∧ i ≤ j ∧ j ≤ n ∧ (∀ x (h : x < fs.length), x < i → fs[x].at_ < t) ∧ (∀ x (h : x < fs.length), j ≤ x → t ≤ fs[x].at_) ∧ Below w.heap.size w wr) (fun vi vj _ => (intOf vj).toNat - (intOf vi).toNat)
  case atStart => exact ⟨0, n, rfl, rfl, Nat.zero_le _, Nat.le_refl _, fun x h h0 => by omega, fun x h h0 => by have := HN.out; omega, below_self w⟩
  case round =>
    obtain ⟨i, j, rfl, rfl, hij, hjn, hlo, hhi, hb⟩ := hrel
    have HLO := Hid.in hlo
    have HHI := Hid.in hhi
    have HB := Hid.in hb
    clear hlo hhi hb
    by_cases hlt : i < j
    · have hh : (i + j) / 2 < fs.length := by have := HN.out; omega
      obtain ⟨b, o, rfl, hc⟩ := (HX.out.below HB.out) (by rw [List.length_map]; omega)
      obtain ⟨c0, c1, c2⟩ := cells3 hc ((i + j) / 2) (by rw [List.length_map]; exact hh)
      simp only [List.getElem_map, fxV] at c0 c1 c2
      clear hc
      by_cases hat : fs[(i + j) / 2].at_ < t
      · have HLO2 : Hid (∀ x (h : x < fs.length), x < (i + j) / 2 + 1 → fs[x].at_ < t) := fun x h hx => by
          by_cases e : x = (i + j) / 2
          · subst e; exact hat
          · have := HS.out x ((i + j) / 2) (by omega) hh
            omega
        have HCM : Hid (cmpI fs[(i + j) / 2].at_ t = -1) := if_pos hat
        generalize fs[(i + j) / 2] = f at *
        go_wp2_with (go_at_call 88; refine (hC _ _ _ _ _).mono ?_; rintro E w1 ⟨rfl, hb1⟩; rw [HCM.out]; have HB1 := Hid.in (below_step HB.out hb1); clear hb1)
        go_roundw
        case rel => exact ⟨(i + j) / 2 + 1, j, by go_num, rfl, by omega, hjn, HLO2.out, HHI.out, HB1.out⟩
        case measure => simp [intOf]; omega
      · have HHI2 : Hid (∀ x (h : x < fs.length), (i + j) / 2 ≤ x → t ≤ fs[x].at_) := fun x h hx => by
          by_cases e : x = (i + j) / 2
          · subst e; omega
          · have := HS.out ((i + j) / 2) x (by omega) h
            omega
        have hge : ¬ cmpI fs[(i + j) / 2].at_ t < 0 := fun e => hat (cmp_neg.1 e)
        generalize fs[(i + j) / 2] = f at *
        generalize hr : cmpI f.at_ t = r at *
        have HR := Hid.in hr
        clear hr
        go_wp2_with (go_at_call 88; refine (hC _ _ _ _ _).mono ?_; rintro E w1 ⟨rfl, hb1⟩; rw [HR.out]; have HB1 := Hid.in (below_step HB.out hb1); clear hb1)
        go_roundw
        case rel => exact ⟨i, (i + j) / 2, rfl, by go_num, by omega, by omega, HLO.out, HHI2.out, HB1.out⟩
        case measure => simp [intOf]; omega
    · have hij2 : i = j := by omega
      subst hij2
      by_cases hin : i < n
      · have hh : i < fs.length := by have := HN.out; omega
        obtain ⟨b, o, rfl, hc⟩ := (HX.out.below HB.out) (by rw [List.length_map]; omega)
        obtain ⟨c0, c1, c2⟩ := cells3 hc i (by rw [List.length_map]; exact hh)
        simp only [List.getElem_map, fxV] at c0 c1 c2
        clear hc
        generalize fs[i] = f at *
        go_wp2_with (go_at_call 88; refine (hC _ _ _ _ _).mono ?_; rintro E w1 ⟨rfl, hb1⟩; have HB1 := Hid.in (below_step HB.out hb1); clear hb1)
        go_ret2
        exact ⟨⟨i, _, rfl, hjn, HLO.out, HHI.out⟩, HB1.out⟩
      · go_wp2_with fail
        go_ret2
        exact ⟨⟨i, _, rfl, hjn, HLO.out, HHI.out⟩, HB.out⟩

/-- what is asked of fixes that are right -/
def NextF (fs : List Fx) : Prop := ∀ i j (_ : i < j) (h' : j < fs.length), (fs[i]'(by omega)).at_ + 4 ≤ fs[j].at_

set_option maxHeartbeats 1000000 in
theorem shares_any (p : Option Addr) (n c : Nat) (a : Int) (fs : List Fx) (w : World) (hn : fs.length = n) (hn4 : n ≤ 1048576) (hx : Row3 w p (fs.map fxV)) (hs : NextF fs) (ha : 0 ≤ a) (ha2 : a ≤ 65536) (hf : ∀ f ∈ fs, f.at_ ≤ 65536) (hf0 : ∀ f ∈ fs, 0 ≤ f.at_) :
    Calls Tryz.prog 69 #[.slice p n c, .int .i64 a] w fun E w' => E = .returned (.bool (shB fs a)) ∧ Below w.heap.size w w' := by
  have hS := search_any p n c (a + 5) fs w hn hn4 hx (fun i j h h' => by have := hs i j h h'; omega)
  have HX := Hid.in hx
  have HS := Hid.in hs
  have HN := Hid.in hn
  have HF := Hid.in hf
  have HF0 := Hid.in hf0
  clear hx hs hn hf hf0
  obtain ⟨r, hr⟩ : ∃ r, shB fs a = r := ⟨_, rfl⟩
  rw [hr]
  have HRR := Hid.in hr
  clear hr
  go_enter Tryz.func69, Tryz.ntmps69
  go_upto_region 2 with (go_at_call 87; refine hS.mono ?_; rintro E w1 ⟨⟨k, bb, rfl, hk, hlo, hhi⟩, hb1⟩; have HB1 := Hid.in hb1; have HSH := Hid.in (sh_last fs a k (by have := HN.out; omega) HS.out hlo hhi); clear hb1 hlo hhi)
  by_cases hk0 : 0 < k
  · have hkf : k - 1 < fs.length := by have := HN.out; omega
    obtain ⟨b, o, rfl, hc⟩ := (HX.out.below HB1.out) (by rw [List.length_map]; omega)
    obtain ⟨c0, c1, c2⟩ := cells3 hc (k - 1) (by rw [List.length_map]; exact hkf)
    simp only [List.getElem_map, fxV] at c0 c1 c2
    have hm1 := HF.out _ (List.getElem_mem hkf)
    have hm2 := HF0.out _ (List.getElem_mem hkf)
    clear hc c0 c2
    by_cases hat : a < fs[k - 1].at_ + 4
    · have HR : Hid (shB fs a = true) := HSH.out.2 ⟨hk0, hat⟩
      generalize fs[k - 1] = f at *
      go_wp2_with fail
      go_ret
      exact ⟨ret_bool (by rw [← HRR.out, HR.out]), HB1.out⟩
    · have HR : Hid (shB fs a = false) := by
        have : shB fs a = false := by
          cases hb : shB fs a with
          | false => rfl
          | true => obtain ⟨_, h2⟩ := HSH.out.1 hb; exact absurd h2 hat
        exact this
      generalize fs[k - 1] = f at *
      go_wp2_with fail
      go_ret
      exact ⟨ret_bool (by rw [← HRR.out, HR.out]), HB1.out⟩
  · have HR : Hid (shB fs a = false) := by
      have : shB fs a = false := by
        cases hb : shB fs a with
        | false => rfl
        | true => obtain ⟨h1, _⟩ := HSH.out.1 hb; exact absurd h1 hk0
      exact this
    go_wp2_with fail
    go_ret
    exact ⟨ret_bool (by rw [← HRR.out, HR.out]), HB1.out⟩

end Go.Proofs.YtkianldkbfjehaaGreatDoor

/- object.rightSymbols. -/
namespace Go.Proofs.YtkianldkbfjehaaGreatDoor
open Go.RowKit Go.Maps

theorem Tryz.sz36 : (Tryz.prog.info? 36).map (·.size) = some 3 := by kernel_rfl
theorem Tryz.sz39 : (Tryz.prog.info? 39).map (·.size) = some 3 := by kernel_rfl
theorem Tryz.sz41 : (Tryz.prog.info? 41).map (·.size) = some 3 := by kernel_rfl
abbrev obA (pb ps pf pm : Option Addr) (nb cb ns cs nf cf nm cm : Nat) : Array Value := #[.slice pb nb cb, .slice ps ns cs, .slice pf nf cf, .slice pm nm cm]

set_option maxRecDepth 20000 in
set_option maxHeartbeats 2000000 in
theorem rightSymbols_any (pb ps pf pm : Option Addr) (nb cb ns cs nf cf nm cm : Nat) (L : List Sy) (w : World) (hn : L.length = ns) (hn4 : ns ≤ 4096) (_hnb : nb ≤ 65536) (hL : ∀ s ∈ L, SyF s) (hx : Row3 w ps (L.map syV)) :
    Calls Tryz.prog 41 #[.agg (obA pb ps pf pm nb cb ns cs nf cf nm cm)] w fun E w' => E = .returned (.bool (rsL nb 0 [] L)) ∧ Below w.heap.size w w' := by
  have hN := fun s W => name_any s W (nmB s) (nmB_iff s)
  have HX := Hid.in hx
  have HN := Hid.in hn
  have HL := Hid.in hL
  have hmm := @run_makeMap Tryz.prog
  clear hx hn hL
  obtain ⟨r, hr⟩ : ∃ r, rsL nb 0 [] L = r := ⟨_, rfl⟩
  rw [hr]
  have HR := Hid.in hr
  clear hr
  go_enter Tryz.func41, Tryz.ntmps41
  go_upto_region 3 with fail
  have HK0 : Hid (Blk ((w.alloc (.cells (obA pb ps pf pm nb cb ns cs nf cf nm cm) 29)).alloc (.map #[] 0)) w.heap.size 29 (obA pb ps pf pm nb cb ns cs nf cf nm cm)) := (Blk.new w 29 _).grow (new_alloc _ _)
  have HB0 : Hid (Below w.heap.size w ((w.alloc (.cells (obA pb ps pf pm nb cb ns cs nf cf nm cm) 29)).alloc (.map #[] 0))) := below_alloc (new_alloc w _) _
  have HN0 : Hid (NamAt ((w.alloc (.cells (obA pb ps pf pm nb cb ns cs nf cf nm cm) 29)).alloc (.map #[] 0)) (w.heap.size + 1) []) := by
    have := NamAt.made (w.alloc (.cells (obA pb ps pf pm nb cb ns cs nf cf nm cm) 29))
    rw [size_one] at this
    exact this
  generalize (w.alloc (.cells (obA pb ps pf pm nb cb ns cs nf cf nm cm) 29)).alloc (.map #[] 0) = w0 at *
  have c1 : w0.cell? ⟨w.heap.size, 1, none⟩ = some (.slice ps ns cs) := HK0.out.cell 1
  generalize hbm : w.heap.size + 1 = bm at *
  have HBM := Hid.in hbm
  clear hbm hmm
  go_wp2_with fail
  clear c1
  go_loopw [4, 13] (fun vl vi wr => ∃ (z : Int) (k : Nat), vl = .int .i64 z ∧ vi = .int .i64 k ∧ k ≤ ns ∧ rsL nb 0 [] L = rsL nb z (names (L.take k)) (L.drop k) ∧ i64P z ∧ NamAt wr bm (names (L.take k)) ∧ Blk wr w.heap.size 29 (obA pb ps pf pm nb cb ns cs nf cf nm cm) ∧ Below w.heap.size w wr) (fun _ vi _ => ns - (intOf vi).toNat)
  case atStart => exact ⟨0, 0, rfl, rfl, Nat.zero_le _, rfl, by unfold i64P; omega, HN0.out, HK0.out, HB0.out⟩
  case round =>
    obtain ⟨z, k, rfl, rfl, hk, hrs, hz, hna, hK, hB⟩ := hrel
    have HRS := Hid.in hrs
    have HNA := Hid.in hna
    have HK := Hid.in hK
    have HB := Hid.in hB
    clear hrs hna hK hB HK0 HB0 HN0
    obtain ⟨hz0, hz1⟩ := hz
    by_cases hlt : k < ns
    · have hkl : k < L.length := by rw [HN.out]; exact hlt
      obtain ⟨b, o, rfl, hc⟩ := (HX.out.below HB.out) (by rw [List.length_map]; omega)
      obtain ⟨c0, c1, c2⟩ := cells3 hc k (by rw [List.length_map]; exact hkl)
      simp only [List.getElem_map, syV] at c0 c1 c2
      clear hc
      obtain ⟨hsn, hsa0, hsa1⟩ := HL.out L[k] (List.getElem_mem hkl)
      have HST := Hid.in (rs_step nb L k hkl z (names (L.take k)))
      have HNT := Hid.in (names_take L k hkl)
      have HNL : Hid ((names (L.take k)).length = k) := names_len L k (by omega)
      generalize names (L.take k) = seen at *
      generalize L[k] = s at *
      have hBB : Hid (Below w.heap.size w (wr.alloc (.cells #[.string s.name, .int .i64 s.at_, .bool s.g] 36))) := below_alloc HB.out _
      have HK1 : Hid (Blk (wr.alloc (.cells #[.string s.name, .int .i64 s.at_, .bool s.g] 36)) w.heap.size 29 _) := HK.out.grow (new_alloc wr _)
      have HN1 : Hid (NamAt (wr.alloc (.cells #[.string s.name, .int .i64 s.at_, .bool s.g] 36)) bm seen) := HNA.out.below (new_alloc wr _)
      have HS1 : Hid (Blk (wr.alloc (.cells #[.string s.name, .int .i64 s.at_, .bool s.g] 36)) wr.heap.size 36 #[.string s.name, .int .i64 s.at_, .bool s.g]) := Blk.new wr 36 _
      have hbmlt : bm < wr.heap.size := HNA.out.lt
      cases hin : inB s.name seen with
      | true =>
        go_wp2_with (at_lookup; refine nam_look _ rfl _ _ rfl bm seen rfl HN1.out s.name rfl hsn ?_; intro cc hcc; rw [hin])
        go_ret
        exact ⟨ret_bool (by rw [← HR.out, HRS.out, HST.out]; simp [symB, hin]), hBB.out⟩
      | false =>
        have hni : s.name ∉ seen := fun hm => by rw [(inB_iff _ _).2 hm] at hin; cases hin
        cases hnm : nmB s.name with
        | false =>
          go_wp2_with (first
            | (at_lookup; refine nam_look _ rfl _ _ rfl bm seen rfl HN1.out s.name rfl hsn ?_; intro cc hcc; rw [hin])
            | (go_at_call 67; refine (hN _ _).mono ?_; rw [hnm]; rintro E w2 ⟨rfl, hb2⟩; have HB2 := Hid.in (below_step hBB.out hb2); clear hb2))
          go_ret
          exact ⟨ret_bool (by rw [← HR.out, HRS.out, HST.out]; simp [symB, hnm]), HB2.out⟩
        | true =>
          by_cases hlow : s.at_ < z
          · go_wp2_with (first
              | (at_lookup; refine nam_look _ rfl _ _ rfl bm seen rfl HN1.out s.name rfl hsn ?_; intro cc hcc; rw [hin])
              | (go_at_call 67; refine (hN _ _).mono ?_; rw [hnm]; rintro E w2 ⟨rfl, hb2⟩; have HB2 := Hid.in (below_step hBB.out hb2); have s1 : w2.cell? ⟨wr.heap.size, 1, none⟩ = some (.int .i64 s.at_) := (HS1.out.grow hb2).cell 1; clear hb2))
            go_ret
            exact ⟨ret_bool (by rw [← HR.out, HRS.out, HST.out]; simp [symB, show ¬ z ≤ s.at_ by omega]), HB2.out⟩
          · by_cases hhi : (nb : Int) < s.at_
            · go_wp2_with (first
                | (at_lookup; refine nam_look _ rfl _ _ rfl bm seen rfl HN1.out s.name rfl hsn ?_; intro cc hcc; rw [hin])
                | (go_at_call 67; refine (hN _ _).mono ?_; rw [hnm]; rintro E w2 ⟨rfl, hb2⟩; have HB2 := Hid.in (below_step hBB.out hb2); have s1 : w2.cell? ⟨wr.heap.size, 1, none⟩ = some (.int .i64 s.at_) := (HS1.out.grow hb2).cell 1; have o0 : w2.cell? ⟨w.heap.size, 0, none⟩ = some (.slice pb nb cb) := (HK1.out.grow hb2).cell 0; clear hb2))
              go_ret
              exact ⟨ret_bool (by rw [← HR.out, HRS.out, HST.out]; simp [symB, show ¬ s.at_ ≤ nb by omega]), HB2.out⟩
            · have HRS2 : Hid (rsL nb 0 [] L = rsL nb s.at_ (seen ++ [s.name]) (L.drop (k + 1))) := by
                have : rsL nb 0 [] L = rsL nb s.at_ (seen ++ [s.name]) (L.drop (k + 1)) := by
                  rw [HRS.out, HST.out]
                  simp [symB, hin, hnm, show z ≤ s.at_ by omega, show s.at_ ≤ nb by omega]
                exact this
              have hl1 : seen.length ≤ 1048576 := by have := HNL.out; omega
              go_wp2_with (first
                | (at_lookup; refine nam_look _ rfl _ _ rfl bm seen rfl HN1.out s.name rfl hsn ?_; intro cc hcc; rw [hin])
                | (go_at_call 67; refine (hN _ _).mono ?_; rw [hnm]; rintro E w2 ⟨rfl, hb2⟩; have HB2 := Hid.in (below_step hBB.out hb2); have s0 : w2.cell? ⟨wr.heap.size, 0, none⟩ = some (.string s.name) := (HS1.out.grow hb2).cell 0; have s1 : w2.cell? ⟨wr.heap.size, 1, none⟩ = some (.int .i64 s.at_) := (HS1.out.grow hb2).cell 1; have o0 : w2.cell? ⟨w.heap.size, 0, none⟩ = some (.slice pb nb cb) := (HK1.out.grow hb2).cell 0; have HK2 := Hid.in (HK1.out.grow hb2); have HS2 := Hid.in (HS1.out.grow hb2); have HN2 := Hid.in (HN1.out.below hb2); clear hb2)
                | (at_mapUpdate; refine nam_put _ rfl _ _ _ rfl bm seen rfl HN2.out s.name rfl (congrArg (fun j : Nat => Value.int .i64 (j : Int)) HNL.out.symm) hsn hni hl1 ?_; intro w5 hn5 hg5; have HN5 := Hid.in hn5; have HK5 := Hid.in (HK2.out.kept hg5 (by have := HBM.out; intro e; injection e with e; omega)); have s51 : w5.cell? ⟨wr.heap.size, 1, none⟩ = some (.int .i64 s.at_) := (HS2.out.kept hg5 (by intro e; injection e with e; omega)).cell 1; have HB5 := Hid.in (HB2.out.grown hg5 HB2.out.size (fun j hj => by cases hj; have := HBM.out; omega)); clear hn5 hg5))
              go_roundw
              case rel => exact ⟨s.at_, k + 1, rfl, by go_num, by omega, by rw [HNT.out]; exact HRS2.out, ⟨hsa0, hsa1⟩, by rw [HNT.out]; exact HN5.out, HK5.out, HB5.out⟩
              case measure => simp [intOf]; omega
    · have hkn : k = ns := by omega
      subst hkn
      go_wp2_with fail
      go_ret
      exact ⟨ret_bool (by rw [← HR.out, HRS.out, List.drop_eq_nil_of_le (by rw [HN.out]; exact Nat.le_refl _)]; rfl), HB.out⟩

end Go.Proofs.YtkianldkbfjehaaGreatDoor

/- bytes.HasPrefix; object.holds. -/
namespace Go.Proofs.YtkianldkbfjehaaGreatDoor
open Go.RowKit

def pfxB (xs ys : List Int) : Bool := decide (ys.length ≤ xs.length ∧ xs.take ys.length = ys)
theorem Row.take {w : World} {p : Option Addr} {xs : List Int} (h : Row w p xs) (m : Nat) : Row w p (xs.take m) := fun h0 => by
  rw [List.length_take] at h0
  obtain ⟨b, o, e, h1⟩ := h (by omega)
  refine ⟨b, o, e, fun i hi => ?_⟩
  rw [List.length_take] at hi
  rw [h1 i (by omega)]
  simp [List.getD_eq_getElem?_getD, show i < m by omega]
theorem Byt.take {xs : List Int} (h : Byt xs) (m : Nat) : Byt (xs.take m) := fun i => by
  have := h i
  rw [List.getD_eq_getElem?_getD] at this ⊢
  rw [List.getElem?_take]
  split
  · exact this
  · simp
theorem Byt.drop {xs : List Int} (h : Byt xs) (m : Nat) : Byt (xs.drop m) := fun i => by
  have := h (m + i)
  rw [List.getD_eq_getElem?_getD] at this ⊢
  rw [List.getElem?_drop]
  exact this
theorem Row.dropAt {w : World} {b o : Nat} {xs : List Int} (h : Row w (some ⟨b, o, none⟩) xs) (m : Nat) : Row w (some ⟨b, o + m, none⟩) (xs.drop m) := fun h0 => by
  rw [List.length_drop] at h0
  obtain ⟨b', o', e, h1⟩ := h (by omega)
  injection e with e
  injection e with e1 e2
  subst e1 e2
  refine ⟨b, o + m, rfl, fun i hi => ?_⟩
  rw [List.length_drop] at hi
  have := h1 (m + i) (by omega)
  rw [← Nat.add_assoc] at this
  rw [this]
  simp [List.getD_eq_getElem?_getD, List.getElem?_drop]

set_option maxHeartbeats 1000000 in
theorem hasPrefix_any (p q : Option Addr) (n c m d : Nat) (xs ys : List Int) (w : World) (hx : xs.length = n) (hy : ys.length = m) (hnc : n ≤ c) (_hc : c ≤ 9223372036854775807) (hm : m ≤ 9223372036854775807) (h1 : Row w p xs) (h2 : Row w q ys) (b1 : Byt xs) (b2 : Byt ys) :
    Calls Tryz.prog 86 #[.slice p n c, .slice q m d] w fun e w' => e = .returned (.bool (pfxB xs ys)) ∧ w' = w := by
  by_cases hle : m ≤ n
  · have hE := equal_any p q m c m d (xs.take m) ys w (by rw [List.length_take]; omega) hy (h1.take m) h2 (b1.take m) b2
    have HR : Hid (sameB (xs.take m) ys = pfxB xs ys) := by
      have : sameB (xs.take m) ys = pfxB xs ys := by
        unfold sameB pfxB
        rw [hx, hy]
        simp [hle]
      exact this
    rw [HR.out] at hE
    generalize pfxB xs ys = r at *
    clear h1 h2 b1 b2 hx hy HR
    go_enter Tryz.func86, Tryz.ntmps86
    go_wp2_with (go_at_call 45; refine hE.mono ?_; rintro e w' ⟨rfl, rfl⟩)
    go_ret
    exact ⟨rfl, rfl⟩
  · have HR : Hid (pfxB xs ys = false) := by
      have : pfxB xs ys = false := by
        unfold pfxB
        rw [hx, hy]
        simp [hle]
      exact this
    rw [HR.out]
    clear h1 h2 b1 b2 hx hy HR
    go_enter Tryz.func86, Tryz.ntmps86
    go_wp2_with fail
    go_ret
    exact ⟨rfl, rfl⟩

theorem st_pre {xs ys : List Int} {k : Nat} (h : k ≤ xs.length) : stB xs (k : Int) ys = pfxB (xs.drop k) ys := by
  unfold stB pfxB
  rw [List.length_drop, Int.toNat_natCast]
  have e : (0 ≤ (k : Int) ∧ k + ys.length ≤ xs.length ∧ (xs.drop k).take ys.length = ys) ↔ (ys.length ≤ xs.length - k ∧ (xs.drop k).take ys.length = ys) := by
    constructor
    · rintro ⟨_, h1, h2⟩; exact ⟨by omega, h2⟩
    · rintro ⟨h1, h2⟩; exact ⟨by omega, by omega, h2⟩
  simp only [e]
theorem st_far {xs ys : List Int} {a : Int} (h : (xs.length : Int) < a) : stB xs a ys = false := by
  unfold stB
  simp only [decide_eq_false_iff_not]
  rintro ⟨h1, h2, -⟩
  omega

set_option maxHeartbeats 1000000 in
theorem oholds_any (p q : Option Addr) (n c m d : Nat) (a : Int) (xs ys : List Int) (w : World) (hx : xs.length = n) (hy : ys.length = m) (hnc : n ≤ c) (hc : c ≤ 9223372036854775807) (hm : m ≤ 9223372036854775807) (ha : 0 ≤ a) (ha2 : a ≤ 9223372036854775807) (h1 : Row w p xs) (h2 : Row w q ys) (b1 : Byt xs) (b2 : Byt ys) :
    Calls Tryz.prog 68 #[.slice p n c, .int .i64 a, .slice q m d] w fun e w' => e = .returned (.bool (stB xs a ys)) ∧ w' = w := by
  obtain ⟨k, rfl⟩ : ∃ k : Nat, a = k := ⟨a.toNat, by omega⟩
  by_cases hle : k ≤ n
  · have hP : ∀ p', Row w p' (xs.drop k) → Calls Tryz.prog 86 #[.slice p' (n - k) (c - k), .slice q m d] w fun e w' => e = .returned (.bool (stB xs (k : Int) ys)) ∧ w' = w := fun p' hr => by
      rw [st_pre (by omega)]
      exact hasPrefix_any p' q (n - k) (c - k) m d (xs.drop k) ys w (by rw [List.length_drop, hx]) hy (by omega) (by omega) hm hr h2 (b1.drop k) b2
    have hz : n = 0 → xs = [] := fun e => List.eq_nil_of_length_eq_zero (by omega)
    generalize stB xs (k : Int) ys = r at *
    by_cases hn0 : n = 0
    · have hd : ∀ p', Row w p' (xs.drop k) := fun p' h => by rw [hz hn0] at h; simp at h
      have hk0 : k = 0 := by omega
      subst hk0 hn0
      clear h1 h2 b1 b2 hx hy
      simp only [Nat.sub_zero] at hP
      rcases p with _ | ⟨b, o, e⟩
      · go_enter Tryz.func68, Tryz.ntmps68
        go_wp2_with (go_at_call 86; refine (hP _ (hd _)).mono ?_; rintro e w' ⟨rfl, rfl⟩)
        go_ret
        exact ⟨rfl, rfl⟩
      · go_enter Tryz.func68, Tryz.ntmps68
        go_wp2_with (go_at_call 86; refine (hP _ (hd _)).mono ?_; rintro e w' ⟨rfl, rfl⟩)
        go_ret
        exact ⟨rfl, rfl⟩
    · obtain ⟨b, o, rfl, -⟩ := h1 (by omega)
      by_cases hck : c = k
      · have hd : ∀ p', Row w p' (xs.drop k) := fun p' h => by rw [List.length_drop] at h; omega
        have hnk : n = k := by omega
        clear h1 h2 b1 b2 hx hy hz
        subst hck hnk
        rw [Nat.sub_self] at hP
        go_enter Tryz.func68, Tryz.ntmps68
        go_wp2_with (go_at_call 86; refine (hP _ (hd _)).mono ?_; rintro e w' ⟨rfl, rfl⟩)
        go_ret
        exact ⟨rfl, rfl⟩
      · have hd := h1.dropAt k
        clear h1 h2 b1 b2 hx hy hz
        go_enter Tryz.func68, Tryz.ntmps68
        go_wp2_with (go_at_call 86; refine (hP _ hd).mono ?_; rintro e w' ⟨rfl, rfl⟩)
        go_ret
        exact ⟨rfl, rfl⟩
  · rw [st_far (by omega)]
    clear h1 h2 b1 b2 hx hy
    go_enter Tryz.func68, Tryz.ntmps68
    go_wp2_with fail
    go_ret
    exact ⟨rfl, rfl⟩

end Go.Proofs.YtkianldkbfjehaaGreatDoor
