/- What makes an object right, as lists: symbols, fixes, marks, one by one. -/
import Derived.Test.YtkpieeldoielgaaNamL
import Derived.Test.YtkpieeldoielgaaRefName
namespace Go.Proofs.Ytkpieeldoielgaa
open Go.RowKit

structure Sy where
  name : ByteArray
  at_ : Int
  g : Bool
structure Fx where
  k : Int
  at_ : Int
  name : ByteArray
structure Mk where
  at_ : Int
  key : ByteArray
  to_ : ByteArray
def syV (s : Sy) : V3 := (.string s.name, .int .i64 s.at_, .bool s.g)
def fxV (f : Fx) : V3 := (.int .u8 f.k, .int .i64 f.at_, .string f.name)
def mkV (m : Mk) : V3 := (.int .i64 m.at_, .string m.key, .string m.to_)
/-- numbers that an int holds -/
def i64P (a : Int) : Prop := -9223372036854775808 ≤ a ∧ a ≤ 9223372036854775807
/-- what Go's types hold -/
def SyF (s : Sy) : Prop := s.name.size ≤ maxLen ∧ i64P s.at_
def FxF (f : Fx) : Prop := f.name.size ≤ maxLen ∧ i64P f.at_ ∧ 0 ≤ f.k ∧ f.k ≤ 255
def MkF (m : Mk) : Prop := m.key.size ≤ maxLen ∧ m.to_.size ≤ maxLen ∧ i64P m.at_
/-- a list of such in memory, whoever made it -/
def Row3 (w : World) (p : Option Addr) (L : List V3) : Prop :=
  0 < L.length → ∃ b o, p = some ⟨b, o, none⟩ ∧ ∀ i (hi : i < L.length) j, j < 3 → w.cell? ⟨b, o + i * 3 + j, none⟩ = (l3 L[i])[j]?
theorem Row3.nil (w : World) (p : Option Addr) : Row3 w p [] := fun h => absurd h (by simp)
theorem Row3.below {w w' : World} {p : Option Addr} {L : List V3} (h : Row3 w p L) (hb : Below w.heap.size w w') : Row3 w' p L := fun h0 => by
  obtain ⟨b, o, e, h1⟩ := h h0
  refine ⟨b, o, e, fun i hi j hj => ?_⟩
  have h2 := h1 i hi j hj
  obtain ⟨u, hu⟩ : ∃ u, (l3 L[i])[j]? = some u := ⟨_, List.getElem?_eq_getElem (show j < 3 from hj)⟩
  rw [hu] at h2 ⊢
  exact (hb.cell (p := ⟨b, o + i * 3 + j, none⟩) (cell_lt h2)).trans h2
theorem TOwn.row3 {T : TypeId} {w : World} {B : Nat} {v : Value} {L : List V3} (h : TOwn T w B v L) : ∃ p cap, v = .slice p L.length cap ∧ L.length ≤ cap ∧ cap ≤ maxLen ∧ Row3 w p L := by
  obtain ⟨p, cap, e, h1, h2, h3⟩ := h.shape
  refine ⟨p, cap, e, h1, h2, fun h0 => ?_⟩
  obtain ⟨g, e2, -, -, h4⟩ := h3 h0
  exact ⟨g, 0, e2, fun i hi j hj => by rw [Nat.zero_add]; exact h4 i hi j hj⟩

instance (k : Nat) (c : Int) : Decidable (okAt k c) := by unfold okAt; infer_instance
/-- whether a text is a name -/
def nmB (s : ByteArray) : Bool := decide (0 < s.size) && decide (s.size ≤ 16) && (List.range s.size).all fun k => decide (okAt k (byteAt s k))
theorem nmB_iff (s : ByteArray) : nmB s = true ↔ NameP s := by
  unfold nmB NameP
  simp only [Bool.and_eq_true, decide_eq_true_eq, List.all_eq_true, List.mem_range]
  constructor
  · rintro ⟨⟨h1, h2⟩, h3⟩; exact ⟨h3, h1, h2⟩
  · rintro ⟨h3, h1, h2⟩; exact ⟨⟨h1, h2⟩, h3⟩
/-- whether these bytes stand there -/
def stB (bs : List Int) (a : Int) (part : List Int) : Bool := decide (0 ≤ a ∧ a.toNat + part.length ≤ bs.length ∧ (bs.drop a.toNat).take part.length = part)
def symB (n : Nat) (least : Int) (seen : List ByteArray) (s : Sy) : Bool := !inB s.name seen && nmB s.name && decide (least ≤ s.at_) && decide (s.at_ ≤ n)
def rsL (n : Nat) : Int → List ByteArray → List Sy → Bool
  | _, _, [] => true
  | least, seen, s :: r => symB n least seen s && rsL n s.at_ (seen ++ [s.name]) r
def fixB (bs : List Int) (least : Int) (f : Fx) : Bool := decide (f.k = 1 ∨ f.k = 2) && nmB f.name && decide (least ≤ f.at_) && stB bs f.at_ [0, 0, 0, 0]
def rfL (bs : List Int) : Int → List Fx → Bool
  | _, [] => true
  | least, f :: r => fixB bs least f && rfL bs (f.at_ + 4) r
/-- whether a fix has a byte of the site there -/
def shB (fs : List Fx) (a : Int) : Bool := fs.any fun f => decide (f.at_ < a + 5 ∧ a < f.at_ + 4)
def quiet : List Int := [15, 31, 68, 0, 0]
def mrkB (bs : List Int) (fs : List Fx) (least : Int) (m : Mk) : Bool := nmB m.key && nmB m.to_ && decide (least ≤ m.at_) && stB bs m.at_ quiet && !shB fs m.at_
def rmL (bs : List Int) (fs : List Fx) : Int → List Mk → Bool
  | _, [] => true
  | least, m :: r => mrkB bs fs least m && rmL bs fs m.at_ r
structure Ob where
  bs : List Int
  sy : List Sy
  fx : List Fx
  mk_ : List Mk
def okO (o : Ob) : Bool := decide (o.bs.length ≤ 65536 ∧ o.sy.length ≤ 4096 ∧ o.fx.length ≤ 4096 ∧ o.mk_.length ≤ 4096) && rsL o.bs.length 0 [] o.sy && rfL o.bs 0 o.fx && rmL o.bs o.fx 0 o.mk_
/-- an object in memory -/
structure ObF (o : Ob) : Prop where
  byt : Byt o.bs
  sy : ∀ s ∈ o.sy, SyF s
  fx : ∀ f ∈ o.fx, FxF f
  mk_ : ∀ m ∈ o.mk_, MkF m

theorem rs_step (n : Nat) (L : List Sy) (i : Nat) (h : i < L.length) (least : Int) (seen : List ByteArray) : rsL n least seen (L.drop i) = (symB n least seen L[i] && rsL n L[i].at_ (seen ++ [L[i].name]) (L.drop (i + 1))) := by
  rw [List.drop_eq_getElem_cons h]; rfl
theorem rf_step (bs : List Int) (L : List Fx) (i : Nat) (h : i < L.length) (least : Int) : rfL bs least (L.drop i) = (fixB bs least L[i] && rfL bs (L[i].at_ + 4) (L.drop (i + 1))) := by
  rw [List.drop_eq_getElem_cons h]; rfl
theorem rm_step (bs : List Int) (fs : List Fx) (L : List Mk) (i : Nat) (h : i < L.length) (least : Int) : rmL bs fs least (L.drop i) = (mrkB bs fs least L[i] && rmL bs fs L[i].at_ (L.drop (i + 1))) := by
  rw [List.drop_eq_getElem_cons h]; rfl
def names (L : List Sy) : List ByteArray := L.map Sy.name
theorem names_take (L : List Sy) (i : Nat) (h : i < L.length) : names (L.take (i + 1)) = names (L.take i) ++ [L[i].name] := by
  unfold names
  rw [List.take_succ_eq_append_getElem h, List.map_append]; rfl
theorem names_len (L : List Sy) (i : Nat) (h : i ≤ L.length) : (names (L.take i)).length = i := by
  unfold names
  rw [List.length_map, List.length_take, Nat.min_eq_left h]
/-- fixes that are right stand in order, four bytes each -/
theorem rf_sorted (bs : List Int) : ∀ (L : List Fx) (least : Int), rfL bs least L = true → (∀ i (h : i < L.length), least ≤ L[i].at_) ∧ ∀ i j (h : i < j) (h' : j < L.length), L[i].at_ + 4 ≤ L[j].at_
  | [], _, _ => ⟨fun i h => absurd h (by simp), fun i j _ h' => absurd h' (by simp)⟩
  | f :: r, least, h => by
    unfold rfL at h
    rw [Bool.and_eq_true] at h
    obtain ⟨h1, h2⟩ := h
    obtain ⟨ih1, ih2⟩ := rf_sorted bs r (f.at_ + 4) h2
    have hle : least ≤ f.at_ := by
      unfold fixB at h1
      simp only [Bool.and_eq_true, decide_eq_true_eq] at h1
      exact h1.1.2
    refine ⟨fun i hi => ?_, fun i j hij hj => ?_⟩
    · cases i with
      | zero => exact hle
      | succ i =>
        have := ih1 i (by simpa using hi)
        simp only [List.getElem_cons_succ]
        omega
    · cases j with
      | zero => omega
      | succ j =>
        cases i with
        | zero => simpa using ih1 j (by simpa using hj)
        | succ i => simpa using ih2 i j (by omega) (by simpa using hj)
/-- which fixes share a byte: of those that begin ahead of the site's end the last one tells -/
theorem sh_last (fs : List Fx) (a : Int) (k : Nat) (hk : k ≤ fs.length) (hs : ∀ i j (_ : i < j) (h' : j < fs.length), fs[i].at_ + 4 ≤ fs[j].at_)
    (h1 : ∀ i (h : i < fs.length), i < k → fs[i].at_ < a + 5) (h2 : ∀ i (h : i < fs.length), k ≤ i → a + 5 ≤ fs[i].at_) :
    shB fs a = true ↔ ∃ h : 0 < k, a < (fs[k - 1]'(by omega)).at_ + 4 := by
  unfold shB
  rw [List.any_eq_true]
  constructor
  · rintro ⟨f, hf, e⟩
    obtain ⟨i, hi, rfl⟩ := List.getElem_of_mem hf
    have e := of_decide_eq_true e
    have hik : i < k := by
      by_cases c : i < k
      · exact c
      · have := h2 i hi (by omega)
        omega
    refine ⟨by omega, ?_⟩
    by_cases c : i = k - 1
    · subst c; exact e.2
    · have := hs i (k - 1) (by omega) (by omega)
      omega
  · rintro ⟨h0, h⟩
    exact ⟨fs[k - 1]'(by omega), List.getElem_mem _, decide_eq_true ⟨h1 (k - 1) (by omega) (by omega), h⟩⟩

end Go.Proofs.Ytkpieeldoielgaa
