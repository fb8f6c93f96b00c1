/-
  Proved here: the law SourceParts (switchyardlaw04) answers true for every input, and each argument reads afterwards as it read before; the card: what the row lists of the library's variables is tied to the program's text. No condition of ours: the row's own reach alone.
-/
import Derived.Test.YtgfmmbbebodapaaGreatDoorRows
import Derived.Test.YtgfmmbbebodapaaGreatDoorKa
import Derived.WalkKit
import Derived.ProofKit
import Derived.OpenShut
import Derived.ShutString
import Derived.ChangeOld
import Derived.Below
import Derived.SizedLaws
import Derived.Test.YtgfmmbbebodapaaGreatDoorKq
import Derived.Shelf.Strings.Builder1
import Derived.Shelf.Strings.Builder2
import Derived.Shelf.Strings.BuilderF
import Derived.Shelf.Strconv.Itoa0
import Derived.Shelf.Strconv.Itoa1
import Derived.Shelf.LaysM
import Derived.Shelf.Strconv.Itoa2
import Derived.Shelf.Strconv.Itoa3
import Derived.Shelf.Strconv.ParseIntEmpty
import Derived.Shelf.Strconv.Clone
import Derived.Shelf.Strconv.SyntaxError
import Derived.Shelf.LaysC
import Derived.Shelf.Strconv.ToError
import Derived.Shelf.Strconv.Lower
import Derived.Shelf.Strconv.ParseUint10
import Derived.Shelf.Strconv.ParseUint10Empty
import Derived.Shelf.Strconv.ParseUint10Any
import Derived.Shelf.Strconv.ParseInt10
import Derived.Shelf.Strconv.RangeError
import Derived.Shelf.Strconv.ToErrorRange
import Derived.Shelf.Strconv.ParseUintEmpty
import Derived.Shelf.Strconv.ParseUint10b64
import Derived.Shelf.Strconv.ParseUint10b32
import Derived.Shelf.Strconv.ParseUint10b16
import Derived.Shelf.Strconv.ParseUint10b8
import Derived.Shelf.Strconv.ParseUint10At
import Derived.Shelf.Strconv.ParseInt10At64
import Derived.Shelf.Strconv.ParseInt10At32
import Derived.Shelf.Strconv.ParseInt10At16
import Derived.Shelf.Strconv.ParseInt10At8
import Derived.Shelf.Strconv.ParseInt10All
import Derived.Shelf.Strconv.ParseIntPublic10
import Derived.Shelf.Strconv.ErrVarParseInt
import Derived.Shelf.Strings.Search1
import Derived.Shelf.Strings.Search2
import Derived.Shelf.Strings.Search3
import Derived.Shelf.Strings.Cut
import Derived.Shelf.Strings.Count
import Derived.Shelf.Strings.Shaped
import Derived.Shelf.Strings.Prefix
import Derived.Shelf.Bits.Mul64
import Derived.Shelf.Strings.Repeat
import Derived.Shelf.Unicode.DecodeSlow
import Derived.Test.YtgfmmbbebodapaaGreatDoorProg
import Derived.Test.YtgfmmbbebodapaaGreatDoorKt
import Derived.Test.YtgfmmbbebodapaaGreatDoorKs
import Derived.Test.YtgfmmbbebodapaaGreatDoorKu
import Derived.Test.YtgfmmbbebodapaaGreatDoorCards
import Derived.Test.YtgfmmbbebodapaaGreatDoorTie
import Derived.SevenTiedAt

/- How the arguments of a law are opened: a slice of bytes, a text, numbers; and that they lie within the form's own reach. -/
namespace Go.Proofs.YtgfmmbbebodapaaGreatDoor
open Go.ChangeShapes Go.WideShapes Go.ChangeAt Go.RowKit

theorem Tryz.own : ownKnob Tryz.prog.godebug = none := by kernel_rfl
theorem Tryz.laidOut : laidOutB Tryz.prog = true := by kernel_rfl
theorem Tryz.cells5 : Tryz.prog.cellsOf 5 = 1 := by kernel_rfl
theorem Tryz.bytes5 : Tryz.prog.bytesOf 5 = 1 := by kernel_rfl

theorem wf_u8 {x : Int} (h : (Lit.int .u8 x).wf = true) : 0 ≤ x ∧ x ≤ 255 := by
  have h1 : IntKind.u8.min = 0 := rfl
  have h2 : IntKind.u8.max = 255 := rfl
  simp only [Lit.wf, Bool.and_eq_true, decide_eq_true_eq] at h
  omega
theorem wf_u32 {x : Int} (h : (Lit.int .u32 x).wf = true) : 0 ≤ x ∧ x ≤ 4294967295 := by
  have h1 : IntKind.u32.min = 0 := rfl
  have h2 : IntKind.u32.max = 4294967295 := rfl
  simp only [Lit.wf, Bool.and_eq_true, decide_eq_true_eq] at h
  omega
theorem wf_i32 {x : Int} (h : (Lit.int .i32 x).wf = true) : -2147483648 ≤ x ∧ x ≤ 2147483647 := by
  have h1 : IntKind.i32.min = -2147483648 := rfl
  have h2 : IntKind.i32.max = 2147483647 := rfl
  simp only [Lit.wf, Bool.and_eq_true, decide_eq_true_eq] at h
  omega
theorem wf_i64 {x : Int} (h : (Lit.int .i64 x).wf = true) : -9223372036854775808 ≤ x ∧ x ≤ 9223372036854775807 := by
  have h1 : IntKind.i64.min = -9223372036854775808 := rfl
  have h2 : IntKind.i64.max = 9223372036854775807 := rfl
  simp only [Lit.wf, Bool.and_eq_true, decide_eq_true_eq] at h
  omega

theorem getD_of_mem {P : Int → Prop} (h0 : P 0) {zs : List Int} (h : ∀ n ∈ zs, P n) (i : Nat) : P (zs.getD i 0) := by
  by_cases hi : i < zs.length
  · have := h zs[i] (List.getElem_mem hi)
    simpa [List.getD, hi] using this
  · simpa [List.getD, List.getElem?_eq_none (show zs.length ≤ i by omega)] using h0

/-- a slice of bytes that came in: its bytes, where they lie, and its datum -/
theorem opened {H : Type} {enc : TypeId × Value → H} {W : World} {a : Option Addr} {n c : Nat} {d : DataW H} {p : List MemPlace}
    (h : DataW.Trod enc Tryz.prog W 0 (fun _ => true) true 26 (.slice a n c) d p) :
    ∃ xs : List Int, xs.length = n ∧ n ≤ c ∧ Row W a xs ∧ Byt xs ∧ ((d = .nil ∧ c = 0) ∨ ∃ es sp, d = .slice es sp ∧ es.length + sp.length = c) := by
  obtain ⟨fuel, hf⟩ := h
  rcases open_ints Tryz.underlying26 Tryz.underlying5 Tryz.cells5 hf with ⟨hcs, hx⟩ | ⟨ad, l, cc, zs, hcs, _, hl, hm, hz, hx, hcell, hwz⟩
  · simp [Value.cells] at hcs
    obtain ⟨rfl, rfl, rfl⟩ := hcs
    simp only [Prod.mk.injEq] at hx
    exact ⟨[], rfl, Nat.le_refl _, fun h => absurd h (Nat.lt_irrefl 0), fun i => by simp, .inl ⟨hx.1, rfl⟩⟩
  · simp [Value.cells] at hcs
    obtain ⟨rfl, rfl, rfl⟩ := hcs
    simp only [Prod.mk.injEq] at hx
    simp only [if_true] at hz
    have hlen : (zs.take n).length = n := by rw [List.length_take]; omega
    refine ⟨zs.take n, hlen, hl, fun h0 => ?_, fun i => getD_of_mem (P := fun x => 0 ≤ x ∧ x ≤ 255) (by decide) (fun x hx' => wf_u8 (hwz x (List.mem_of_mem_take hx'))) i, .inr ⟨_, _, hx.1, ?_⟩⟩
    · obtain ⟨b, o, s⟩ := ad
      obtain rfl : s = none := by simpa [Addr.add] using World.cell?_spot (hcell 0 (by omega))
      exact ⟨b, o, rfl, fun i hi => by rw [← Go.WideShapes.add_plain, hcell i (by omega)]; simp [List.getD, show i < n by omega]⟩
    · simp [lits]; omega

theorem reach_slice {H : Type} {ts : List TypeId} {ds : List (DataW H)} (hsz : (DataW.weightsEach Tryz.prog ts ds).all (· ≤ reachBytes) = true) {j : Nat} {d : DataW H} {c : Nat} (ht : ts[j]? = some 26) (hd : ds[j]? = some d)
    (h : (d = .nil ∧ c = 0) ∨ ∃ es sp, d = .slice es sp ∧ es.length + sp.length = c) : c ≤ 140737488351232 := by
  rcases h with ⟨_, rfl⟩ | ⟨es, sp, rfl, hl⟩
  · omega
  · have := sized_slice hsz (j := j) (t := 26) (e := 5) ht hd Tryz.underlying26
    rw [Tryz.bytes5] at this
    simp only [reachBytes] at this
    omega

theorem reach_string {H : Type} {ts : List TypeId} {ds : List (DataW H)} (hsz : (DataW.weightsEach Tryz.prog ts ds).all (· ≤ reachBytes) = true) {j : Nat} {s : ByteArray} (ht : ts[j]? = some 9) (hd : ds[j]? = some (.lit (.string s.data.toList))) : s.size ≤ 140737488351232 := by
  have := sized_string hsz (j := j) (t := 9) ht hd
  simp only [reachBytes] at this
  simpa using this

end Go.Proofs.YtgfmmbbebodapaaGreatDoor

/- Two texts behind one another: what they say, as lists. -/
namespace Go.Proofs.YtgfmmbbebodapaaGreatDoor
open Go.RowKit

theorem lines_two (a b : List UInt8) : linesL (a ++ 10 :: b) = linesL (a ++ [10]) ++ linesL b := by
  induction a with
  | nil => simp [linesL]
  | cons c cs ih =>
    simp only [List.cons_append, linesL]
    split
    · rw [ih]; rfl
    · rw [ih]
      have hne : linesL (cs ++ [10]) ≠ [] := by
        cases cs with
        | nil => simp [linesL]
        | cons d ds =>
          simp only [List.cons_append, linesL]
          split
          · simp
          · split <;> simp
      cases h : linesL (cs ++ [10]) with
      | nil => exact absurd h hne
      | cons l ls => rfl
theorem lines_ten (a : List UInt8) : (linesL (a ++ [10])).length = a.count 10 + 1 := by
  induction a with
  | nil => rfl
  | cons c cs ih =>
    simp only [List.cons_append, linesL]
    split
    · rename_i h; subst h; rw [List.length_cons, ih, List.count_cons_self]
    · rename_i h
      rw [List.count_cons_of_ne h]
      cases hl : linesL (cs ++ [10]) with
      | nil => rw [hl] at ih; simp at ih
      | cons l ls => rw [hl] at ih; simpa using ih
theorem lines_more (a : List UInt8) : linesL (a ++ [10]) = linesL a ∨ linesL (a ++ [10]) = linesL a ++ [[]] := by
  induction a with
  | nil => exact .inr rfl
  | cons c cs ih =>
    simp only [List.cons_append, linesL]
    split
    · rcases ih with e | e
      · exact .inl (by rw [e])
      · exact .inr (by rw [e]; rfl)
    · cases hl : linesL cs with
      | nil =>
        have hcs : cs = [] := by
          cases cs with
          | nil => rfl
          | cons d ds =>
            exfalso
            simp only [linesL] at hl
            split at hl
            · cases hl
            · split at hl <;> cases hl
        subst hcs
        exact .inl (by simp [linesL])
      | cons l ls =>
        rw [hl] at ih
        rcases ih with e | e
        · exact .inl (by rw [e])
        · exact .inr (by rw [e]; rfl)

/-- what goes on behind some lines -/
def goOn (n : Nat) (B : List (List UInt8)) : (Int × Nat × Nat) ⊕ (List Src × List Nat) → (Int × Nat × Nat) ⊕ (List Src × List Nat)
  | .inl f => .inl f
  | .inr (xs, ln) => goP n xs ln B
theorem goP_append (A B : List (List UInt8)) : ∀ i acc ln, goP i acc ln (A ++ B) = goOn (i + A.length) B (goP i acc ln A) := by
  induction A with
  | nil => intro i acc ln; rfl
  | cons l A ih =>
    intro i acc ln
    rw [List.cons_append, goP, goP]
    split
    · split
      · split
        · rfl
        · rw [ih, List.length_cons, show i + 1 + A.length = i + (A.length + 1) by omega]
      · rw [ih, List.length_cons, show i + 1 + A.length = i + (A.length + 1) by omega]
    · rfl
theorem lineL_nil : lineL [] = (src0, false, 0, 0) := rfl
theorem goP_empty (i : Nat) (acc : List Src) (ln : List Nat) : goP i acc ln [[]] = .inr (acc, ln) := by
  simp [goP, lineL_nil]
theorem goP_ten (a : List UInt8) : goP 0 [] [] (linesL (a ++ [10])) = goP 0 [] [] (linesL a) := by
  rcases lines_more a with e | e
  · rw [e]
  · rw [e, goP_append]
    cases h : goP 0 [] [] (linesL a) with
    | inl f => rfl
    | inr q => obtain ⟨xs, ln⟩ := q; exact goP_empty _ _ _
theorem goP_inl (B : List (List UInt8)) : ∀ i acc ln f, goP i acc ln B = .inl f → i + 1 ≤ f.2.1 := by
  induction B with
  | nil => intro i acc ln f h; cases h
  | cons l B ih =>
    intro i acc ln f h
    rw [goP] at h
    split at h
    · split at h
      · split at h
        · injection h with h; subst h; exact Nat.le_refl _
        · have := ih _ _ _ _ h; omega
      · have := ih _ _ _ _ h; omega
    · injection h with h; subst h; exact Nat.le_refl _
theorem goP_inr (B : List (List UInt8)) : ∀ i acc ln xs l2, acc.length = ln.length → goP i acc ln B = .inr (xs, l2) → xs.length = l2.length ∧ xs.length ≤ acc.length + B.length := by
  induction B with
  | nil => intro i acc ln xs l2 he h; rw [goP] at h; injection h with h; injection h with h1 h2; subst h1 h2; exact ⟨he, by simp⟩
  | cons l B ih =>
    intro i acc ln xs l2 he h
    rw [goP] at h
    split at h
    · split at h
      · split at h
        · cases h
        · have := ih _ _ _ _ _ (by simp [he]) h
          simp only [List.length_append, List.length_cons, List.length_nil] at *
          exact ⟨this.1, by omega⟩
      · have := ih _ _ _ _ _ he h
        simp only [List.length_cons]
        exact ⟨this.1, by omega⟩
    · cases h
/-- further down, behind other items -/
def shiftP (n : Nat) (xs : List Src) (ln : List Nat) : (Int × Nat × Nat) ⊕ (List Src × List Nat) → (Int × Nat × Nat) ⊕ (List Src × List Nat)
  | .inl f => .inl (f.1, f.2.1 + n, f.2.2)
  | .inr (ys, l3) => .inr (xs ++ ys, ln ++ l3.map (· + n))
theorem goP_shift (n : Nat) (xs : List Src) (ln : List Nat) (B : List (List UInt8)) : ∀ i acc l2, xs.length + acc.length + B.length ≤ 4096 →
    goP (i + n) (xs ++ acc) (ln ++ l2.map (· + n)) B = shiftP n xs ln (goP i acc l2 B) := by
  induction B with
  | nil => intro i acc l2 _; rfl
  | cons l B ih =>
    intro i acc l2 h
    rw [List.length_cons] at h
    rw [goP, goP]
    split
    · split
      · rw [if_neg (by simp; omega), if_neg (by omega)]
        have := ih (i + 1) (acc ++ [(lineL l).1]) (l2 ++ [i + 1]) (by simp; omega)
        rw [← this]
        simp only [List.append_assoc, List.map_append, List.map_cons, List.map_nil]
        rw [show i + 1 + n = i + n + 1 by omega]
      · have := ih (i + 1) acc l2 (by omega)
        rw [← this, show i + 1 + n = i + n + 1 by omega]
    · simp only [shiftP]
      rw [show i + 1 + n = i + n + 1 by omega]
theorem chk_two (ys : List Src) : ∀ (xs : List Src) (i : Nat), (chkAt i xs).1 = 0 → chkAt i (xs ++ ys) = chkAt (i + xs.length) ys := by
  intro xs
  induction xs with
  | nil => intro i _; rfl
  | cons x xs ih =>
    intro i h
    rw [chkAt] at h
    rw [List.cons_append, chkAt]
    split at h
    · simp at h
    rename_i h1
    rw [if_neg h1]
    split at h
    · simp at h
    rename_i h2
    have h3 : ¬ (x.k = 3 ∧ takesB (xs ++ ys) = false) := by
      rintro ⟨e1, e2⟩
      cases xs with
      | nil => exact h2 ⟨e1, rfl⟩
      | cons y ys => exact h2 ⟨e1, e2⟩
    rw [if_neg h3, ih _ h, List.length_cons, show i + 1 + xs.length = i + (xs.length + 1) by omega]
theorem chk_far (n : Nat) : ∀ (ys : List Src) (i : Nat), chkAt (i + n) ys = if (chkAt i ys).1 = 0 then (0, 0) else ((chkAt i ys).1, (chkAt i ys).2 + n) := by
  intro ys
  induction ys with
  | nil => intro i; rfl
  | cons y ys ih =>
    intro i
    rw [chkAt, chkAt]
    split
    · simp
    · split
      · simp
      · rw [show i + n + 1 = i + 1 + n by omega, ih]
theorem chk_zero : ∀ (ys : List Src) (i : Nat), (chkAt i ys).1 = 0 → chkAt i ys = (0, 0) := by
  intro ys
  induction ys with
  | nil => intro i _; rfl
  | cons y ys ih =>
    intro i h
    rw [chkAt] at h ⊢
    split
    · rename_i h1; rw [if_pos h1] at h; simp at h
    · rename_i h1
      rw [if_neg h1] at h
      split
      · rename_i h2; rw [if_pos h2] at h; simp at h
      · rename_i h2; rw [if_neg h2] at h; exact ih _ h
/-- the same further down: what a text's answer becomes behind another text -/
def behind (xs : List Src) (n : Nat) (r : List Src × (Int × Nat × Nat)) : List Src × (Int × Nat × Nat) :=
  if r.2 = (0, 0, 0) then (xs ++ r.1, (0, 0, 0)) else ([], (r.2.1, r.2.2.1 + n, r.2.2.2))
theorem parse_two (a b : List UInt8) (xs : List Src) (hl : a.length + b.length ≤ 4000) (ha : parseL a = (xs, (0, 0, 0))) :
    parseL (a ++ 10 :: b) = behind xs (a.count 10 + 1) (parseL b) := by
  have hcb := linesL_length b
  have hca := linesL_length a
  unfold parseL at ha
  rw [if_neg (by omega)] at ha
  cases hga : goP 0 [] [] (linesL a) with
  | inl f =>
    have := goP_inl _ _ _ _ _ hga
    rw [hga] at ha
    simp only [Prod.mk.injEq] at ha
    rw [ha.2] at this
    simp at this
  | inr q =>
    obtain ⟨xs', ln⟩ := q
    rw [hga] at ha
    simp only at ha
    split at ha
    · rename_i hck
      simp only [Prod.mk.injEq, and_true] at ha
      subst ha
      obtain ⟨hlen, hle⟩ := goP_inr _ _ _ _ _ _ rfl hga
      simp only [List.length_nil, Nat.zero_add] at hle
      unfold checkL at hck
      rw [if_neg (by omega)] at hck
      unfold parseL
      rw [if_neg (by simp; omega), if_neg (by omega), lines_two, goP_append, goP_ten, hga, lines_ten]
      simp only [goOn]
      have hs := goP_shift (a.count 10 + 1) xs' ln (linesL b) 0 [] [] (by simp; omega)
      simp only [List.append_nil, List.map_nil] at hs
      rw [hs]
      cases hgb : goP 0 [] [] (linesL b) with
      | inl f =>
        have := goP_inl _ _ _ _ _ hgb
        simp only [shiftP, behind]
        rw [if_neg]
        intro e; rw [e] at this; simp at this
      | inr q =>
        obtain ⟨ys, l3⟩ := q
        obtain ⟨hlen3, hle3⟩ := goP_inr _ _ _ _ _ _ rfl hgb
        simp only [List.length_nil, Nat.zero_add] at hle3
        have h1 : checkL (xs' ++ ys) = if (checkL ys).1 = 0 then (0, 0) else ((checkL ys).1, (checkL ys).2 + xs'.length) := by
          have e1 : checkL (xs' ++ ys) = chkAt 0 (xs' ++ ys) := by unfold checkL; rw [if_neg (by simp; omega)]
          have e2 : checkL ys = chkAt 0 ys := by unfold checkL; rw [if_neg (by omega)]
          rw [e1, e2, chk_two _ _ _ hck, chk_far]
        simp only [shiftP]
        rw [h1]
        by_cases hz : (checkL ys).1 = 0
        · rw [if_pos hz, if_pos rfl, if_pos hz]; simp [behind]
        · have hix : (checkL ys).2 < ys.length := by
            have hc : checkL ys = chkAt 0 ys := by unfold checkL; rw [if_neg (by omega)]
            rw [hc] at hz ⊢
            have := (chk_idx ys 0 hz).2
            omega
          rw [if_neg hz, if_neg hz, if_neg (by exact hz)]
          simp only [behind]
          rw [if_neg (by intro e; injection e with e1 _; exact hz e1)]
          congr 3
          rw [List.getD_eq_getElem?_getD, List.getElem?_append_right (by omega), show (checkL ys).2 + xs'.length - ln.length = (checkL ys).2 by omega]
          simp [List.getD_eq_getElem?_getD, show (checkL ys).2 < l3.length by omega]
    · simp only [Prod.mk.injEq] at ha
      obtain ⟨_, h1, h2, h3⟩ := ha
      simp at h3

theorem goP_err (B : List (List UInt8)) : ∀ i acc ln f, goP i acc ln B = .inl f → f.1 ≠ 0 ∧ f.2.1 ≤ i + B.length := by
  induction B with
  | nil => intro i acc ln f h; cases h
  | cons l B ih =>
    intro i acc ln f h
    rw [goP] at h
    rw [List.length_cons]
    split at h
    · split at h
      · split at h
        · injection h with h; subst h; exact ⟨by show (3 : Int) ≠ 0; decide, by simp only; omega⟩
        · have := ih _ _ _ _ h; exact ⟨this.1, by omega⟩
      · have := ih _ _ _ _ h; exact ⟨this.1, by omega⟩
    · rename_i h1; injection h with h; subst h; exact ⟨h1, by simp only; omega⟩
theorem goP_lns (B : List (List UInt8)) : ∀ i acc ln xs l2, goP i acc ln B = .inr (xs, l2) → ∀ n ∈ l2, n ∈ ln ∨ n ≤ i + B.length := by
  induction B with
  | nil => intro i acc ln xs l2 h n hn; rw [goP] at h; injection h with h; injection h with h1 h2; subst h2; exact .inl hn
  | cons l B ih =>
    intro i acc ln xs l2 h n hn
    rw [goP] at h
    rw [List.length_cons]
    split at h
    · split at h
      · split at h
        · cases h
        · rcases ih _ _ _ _ _ h n hn with e | e
          · rcases List.mem_append.1 e with e | e
            · exact .inl e
            · rw [List.mem_singleton] at e; exact .inr (by omega)
          · exact .inr (by omega)
      · rcases ih _ _ _ _ _ h n hn with e | e
        · exact .inl e
        · exact .inr (by omega)
    · cases h
theorem parse_err (l : List UInt8) : ((parseL l).2 = (0, 0, 0) ∨ (parseL l).2.1 ≠ 0 ∧ (parseL l).1 = []) ∧ (parseL l).2.2.1 ≤ l.length := by
  have hc := linesL_length l
  unfold parseL
  split
  · exact ⟨.inr ⟨by decide, rfl⟩, Nat.zero_le _⟩
  · cases h : goP 0 [] [] (linesL l) with
    | inl f =>
      have := goP_err _ _ _ _ _ h
      exact ⟨.inr ⟨this.1, rfl⟩, by simp only; omega⟩
    | inr q =>
      obtain ⟨xs, ln⟩ := q
      simp only
      split
      · exact ⟨.inl rfl, Nat.zero_le _⟩
      · rename_i hne
        refine ⟨.inr ⟨hne, rfl⟩, ?_⟩
        simp only
        rw [List.getD_eq_getElem?_getD]
        cases hg : ln[(checkL xs).2]? with
        | none => exact Nat.zero_le _
        | some n =>
          rcases goP_lns _ _ _ _ _ _ h n (List.mem_of_getElem? hg) with e | e
          · simp at e
          · simp only [Option.getD_some]; omega

theorem parse_count (l : List UInt8) : (parseL l).1.length ≤ l.length := by
  have hc := linesL_length l
  unfold parseL
  split
  · exact Nat.zero_le _
  · cases h : goP 0 [] [] (linesL l) with
    | inl f => exact Nat.zero_le _
    | inr q =>
      obtain ⟨xs, ln⟩ := q
      have := (goP_inr _ _ _ _ _ _ rfl h).2
      simp only [List.length_nil, Nat.zero_add] at this
      simp only
      split
      · simp only; omega
      · exact Nat.zero_le _

end Go.Proofs.YtgfmmbbebodapaaGreatDoor

/-
  DERIVED: THE SHELF's CONTRACTS AT THIS DUMP, IN PLAIN WORDS (tools/lay-plain.mjs out of 'TryzShelfGTmp.lean', which tools/lay-shelf.mjs wrote): THE SAME DECLARATIONS UNDER THE SAME NAMES: 'import', 'namespace', 'open', 'def', 'theorem' AND NOTHING ELSE: no command of the shelf's: FOR A HAND-IN. Each laying: the table of numbers ('.._ren') and one theorem, a field a fact of the dump's own or the kernel's comparison; each contract: ONE APPLICATION.
-/
namespace Go.Proofs
open Go.Shelf
def Tryz.lays138_ren : Go.Shelf.Ren := ⟨fun | 138 => 25 | 195 => 53 | 218 => 54 | 143 => 55 | 219 => 92 | 217 => 108 | 225 => 109 | 224 => 110 | 267 => 111 | 266 => 117 | 314 => 118 | n => n, fun | 9 => 9 | 3 => 3 | 4 => 4 | 5 => 5 | 0 => 0 | 46 => 90 | 146 => 129 | 51 => 128 | n => n, fun | 1 => 0 | n => n⟩
theorem Tryz.lays138 : Go.Proofs.Lays.n138 Tryz.prog Tryz.lays138_ren := {
  mixed := by kernel_rfl
  f138 := Tryz.func25.trans (congrArg some (by kernel_rfl))
  f143 := Tryz.func55.trans (congrArg some (by kernel_rfl))
  f195 := Tryz.func53.trans (congrArg some (by kernel_rfl))
  f217 := Tryz.func108.trans (congrArg some (by kernel_rfl))
  f218 := Tryz.func54.trans (congrArg some (by kernel_rfl))
  f219 := Tryz.func92.trans (congrArg some (by kernel_rfl))
  f224 := Tryz.func110.trans (congrArg some (by kernel_rfl))
  f225 := Tryz.func109.trans (congrArg some (by kernel_rfl))
  f266 := Tryz.func117.trans (congrArg some (by kernel_rfl))
  f267 := Tryz.func111.trans (congrArg some (by kernel_rfl))
  f314 := Tryz.func118.trans (congrArg some (by kernel_rfl))
  t0 := Tryz.underlying0
  a0 := Tryz.isAgg0
  z0 := Tryz.sizeOf0
  v0 := Tryz.zeroValue0
  t3 := Tryz.underlying3
  a3 := Tryz.isAgg3
  z3 := Tryz.sizeOf3
  v3 := Tryz.zeroValue3
  t4 := Tryz.underlying4
  a4 := Tryz.isAgg4
  z4 := Tryz.sizeOf4
  v4 := Tryz.zeroValue4
  t5 := Tryz.underlying5
  a5 := Tryz.isAgg5
  z5 := Tryz.sizeOf5
  v5 := Tryz.zeroValue5
  t9 := Tryz.underlying9
  a9 := Tryz.isAgg9
  z9 := Tryz.sizeOf9
  v9 := Tryz.zeroValue9
  t46 := Tryz.underlying90
  a46 := Tryz.isAgg90
  z46 := Tryz.sizeOf90
  v46 := Tryz.zeroValue90
  t51 := Tryz.underlying128
  a51 := Tryz.isAgg128
  z51 := Tryz.sizeOf128
  v51 := Tryz.zeroValue128
  t146 := Tryz.underlying129
  a146 := Tryz.isAgg129
  z146 := Tryz.sizeOf129
  v146 := Tryz.zeroValue129
  g1 := by kernel_rfl }
open Go.RowKit Go.Lib in
/-- strings.Count AT A substr OF ONE BYTE ('hp'): "Count counts the number of non-overlapping instances of substr in s.": IT RETURNS 'Lib.countByte s (that byte)'; the world is as it was. ✋ NO CONTRACT HERE YET at an empty substr (utf8.RuneCountInString) or at a longer one (a loop over strings.Index). (LAID: no walk: one application.) -/
theorem Tryz.strings_Count_one (s : ByteArray) (c : UInt8) (w : World) :
    Calls Tryz.prog 25 #[.string s, .string ⟨#[c]⟩] w fun e w' => e = .returned (.int .i64 (Lib.countByte s.data.toList c)) ∧ w' = w := Any.strings_Count_one Tryz.lays138 s c w
end Go.Proofs

/- switchyardlaw04.SourceParts answers true. -/
namespace Go.Proofs.YtgfmmbbebodapaaGreatDoor
open Go.RowKit

set_option maxRecDepth 20000 in
set_option maxHeartbeats 1000000 in
theorem parts_long (a b : ByteArray) (w : World) (he : Env w) (ha : a.size ≤ 4611686018427387904) (hb : b.size ≤ 4611686018427387903) (hl : 4000 < a.size + b.size) :
    Calls Tryz.prog 7 #[.string a, .string b] w fun E w' => E = .returned (.bool true) ∧ Below w.heap.size w w' := by
  have hA := awake_any w he
  go_enter Tryz.func7, Tryz.ntmps7
  go_wp2_with (go_at_call 11; refine hA.mono ?_; rintro E w1 ⟨rfl, hb1⟩)
  go_ret
  exact ⟨rfl, hb1⟩

set_option maxRecDepth 20000 in
set_option maxHeartbeats 1000000 in
theorem parts_fault (a b : ByteArray) (w : World) (he : Env w) (hl : a.size + b.size ≤ 4000) (hf : (parseL a.data.toList).2.1 ≠ 0) :
    Calls Tryz.prog 7 #[.string a, .string b] w fun E w' => E = .returned (.bool true) ∧ Below w.heap.size w w' := by
  have hP := parse_any a w he (by omega)
  generalize parseL a.data.toList = r at *
  obtain ⟨xs, e, l, c⟩ := r
  have he0 : ¬ e = 0 := hf
  clear hf
  have hA := fun W h => awake_any W h
  go_enter Tryz.func7, Tryz.ntmps7
  go_wp2_with (first
    | (go_at_call 12; refine hP.mono ?_; rintro E w1 ⟨v1, L1, rfl, -, -, -, hb1⟩; have HE1 := Hid.in (he.below hb1); have HB1 := Hid.in hb1; clear hb1)
    | (refine step_store_new rfl 37 (.tmp 6) (.tmp 23) rfl rfl rfl (faultC (e, l, c)) rfl Tryz.sz37 rfl (fault_one _) ?_; refine Hid.out ?_))
  refine Lib.hid ?_
  have hF := Blk.new w1 37 (faultC (e, l, c))
  have f0 : (w1.alloc (.cells (faultC (e, l, c)) 37)).cell? ⟨w1.heap.size, 0, none⟩ = some (.int .i64 e) := hF.cell 0
  have f1 : (w1.alloc (.cells (faultC (e, l, c)) 37)).cell? ⟨w1.heap.size, 1, none⟩ = some (.int .i64 l) := hF.cell 1
  have f2 : (w1.alloc (.cells (faultC (e, l, c)) 37)).cell? ⟨w1.heap.size, 2, none⟩ = some (.int .i64 c) := hF.cell 2
  have HE2 := Hid.in (HE1.out.below (new_alloc w1 (.cells (faultC (e, l, c)) 37)))
  have HB2 := Hid.in (below_alloc HB1.out (.cells (faultC (e, l, c)) 37))
  clear hF HE1 HB1
  generalize w1.alloc (.cells (faultC (e, l, c)) 37) = w2 at *
  generalize w1.heap.size = g1 at *
  go_wp2_with (go_at_call 11; refine (hA _ HE2.out).mono ?_; rintro E w3 ⟨rfl, hb3⟩)
  go_ret
  exact ⟨rfl, below_step HB2.out hb3⟩

/-- a list with a byte 10 and another one behind it -/
theorem two_bytes (a b : ByteArray) : ((a ++ (⟨#[10]⟩ : ByteArray)) ++ b).data.toList = a.data.toList ++ 10 :: b.data.toList := by simp
theorem two_size (a b : ByteArray) : ((a ++ (⟨#[10]⟩ : ByteArray)) ++ b).size = a.size + b.size + 1 := by
  rw [Lib.size_eq, two_bytes, List.length_append, List.length_cons, ← Lib.size_eq, ← Lib.size_eq]; omega
set_option maxRecDepth 20000 in
set_option maxHeartbeats 1000000 in
theorem parts_second (a b : ByteArray) (w : World) (he : Env w) (hl : a.size + b.size ≤ 4000) (xs ys : List Src) (cnt : Nat) (hcnt : a.data.toList.count 10 = cnt) (hc4 : cnt ≤ 4000) (e2 : Int) (l2 c2 : Nat) (he2 : ¬ e2 = 0) (hl2 : l2 ≤ 4000)
    (ha : parseL a.data.toList = (xs, (0, 0, 0))) (hb : parseL b.data.toList = (ys, (e2, l2, c2))) (hw : parseL (a.data.toList ++ 10 :: b.data.toList) = ([], (e2, l2 + (cnt + 1), c2))) :
    Calls Tryz.prog 7 #[.string a, .string b] w fun E w' => E = .returned (.bool true) ∧ Below w.heap.size w w' := by
  have hP := parse_any a w he (by omega)
  have hP2 := fun W h => parse_any b W h (by omega)
  have hP3 := fun W h => parse_any ((a ++ (⟨#[10]⟩ : ByteArray)) ++ b) W h (by rw [two_size]; omega)
  have hC : ∀ W, Calls Tryz.prog 25 #[.string a, .string ⟨#[10]⟩] W fun e w' => e = .returned (.int .i64 cnt) ∧ w' = W := fun W => by rw [← hcnt]; exact Tryz.strings_Count_one a 10 W
  rw [ha] at hP
  rw [hb] at hP2
  rw [two_bytes, hw] at hP3
  clear ha hb hw hcnt
  go_enter Tryz.func7, Tryz.ntmps7
  go_wp2_with (first
    | (go_at_call 12; refine hP.mono ?_; rintro E w1 ⟨v1, L1, rfl, hm1, hI1, hF1, hb1⟩; have HE1 := Hid.in (he.below hb1); have HB1 := Hid.in hb1; have HI1 := Hid.in hI1; have HM1 := Hid.in hm1; have HF1 := Hid.in hF1; clear hb1 hm1 hI1 hF1)
    | (refine step_store_new rfl 37 (.tmp 6) (.tmp 23) rfl rfl rfl (faultC (0, 0, 0)) rfl Tryz.sz37 rfl (fault_one _) ?_; refine Hid.out ?_))
  refine Lib.hid ?_
  have hF := Blk.new w1 37 (faultC (0, 0, 0))
  have f0 : (w1.alloc (.cells (faultC (0, 0, 0)) 37)).cell? ⟨w1.heap.size, 0, none⟩ = some (.int .i64 0) := hF.cell 0
  have f1 : (w1.alloc (.cells (faultC (0, 0, 0)) 37)).cell? ⟨w1.heap.size, 1, none⟩ = some (.int .i64 0) := hF.cell 1
  have f2 : (w1.alloc (.cells (faultC (0, 0, 0)) 37)).cell? ⟨w1.heap.size, 2, none⟩ = some (.int .i64 0) := hF.cell 2
  have HE2 := Hid.in (HE1.out.below (new_alloc w1 (.cells (faultC (0, 0, 0)) 37)))
  have HB2 := Hid.in (below_alloc HB1.out (.cells (faultC (0, 0, 0)) 37))
  have HI2 := Hid.in (HI1.out.below (new_alloc w1 (.cells (faultC (0, 0, 0)) 37)))
  clear hF HE1 HB1 HI1 hP
  generalize w1.alloc (.cells (faultC (0, 0, 0)) 37) = w2 at *
  generalize w1.heap.size = g1 at *
  go_wp2_with (first
    | (go_at_call 12; refine (hP2 _ HE2.out).mono ?_; rintro E w3 ⟨v3, L3, rfl, hm3, hI3, hF3, hb3⟩; have HE3 := Hid.in (HE2.out.below hb3); have HB3 := Hid.in (below_step HB2.out hb3); have HI3 := Hid.in (HI2.out.below hb3); have HJ3 := Hid.in hI3; have HM3 := Hid.in hm3; have HF3 := Hid.in hF3; have HS3 := Hid.in (Nat.le_trans HB2.out.size hb3.size); have HZ3 := Hid.in HB2.out.size; clear hb3 hm3 hI3 hF3; clear f0 f1 f2)
    | (refine step_store_new rfl 37 (.tmp 8) (.tmp 32) rfl rfl rfl (faultC (e2, l2, c2)) rfl Tryz.sz37 rfl (fault_one _) ?_; refine Hid.out ?_))
  refine Lib.hid ?_
  have HG4 := Hid.in (Blk.new w3 37 (faultC (e2, l2, c2)))
  have HE4 := Hid.in (HE3.out.below (new_alloc w3 (.cells (faultC (e2, l2, c2)) 37)))
  have HB4 := Hid.in (below_alloc HB3.out (.cells (faultC (e2, l2, c2)) 37))
  have HI4 := Hid.in (HI3.out.below (new_alloc w3 (.cells (faultC (e2, l2, c2)) 37)))
  have HJ4 := Hid.in (HJ3.out.below (new_alloc w3 (.cells (faultC (e2, l2, c2)) 37)))
  clear HE2 HB2 HI2 HE3 HB3 HI3 HJ3 hP2
  generalize w3.alloc (.cells (faultC (e2, l2, c2)) 37) = w4 at *
  generalize w3.heap.size = g3 at *
  go_wp2_with (first
    | (go_at_call 12; refine (hP3 _ HE4.out).mono ?_; rintro E w5 ⟨v5, L5, rfl, hm5, hI5, hF5, hb5⟩; have HE5 := Hid.in (HE4.out.below hb5); have HB5 := Hid.in (below_step HB4.out hb5); have HI5 := Hid.in (HI4.out.below hb5); have HJ5 := Hid.in (HJ4.out.below hb5); have HK5 := Hid.in hI5; have HG5 := Hid.in (HG4.out.grow hb5); have HM5 := Hid.in hm5; have HF5 := Hid.in hF5; have HL5 := Hid.in (HI4.out.later hI5); clear hb5 hm5 hI5 hF5)
    | (refine step_store_new rfl 37 (.tmp 10) (.tmp 40) rfl rfl rfl (faultC (e2, l2 + (cnt + 1), c2)) rfl Tryz.sz37 rfl (fault_one _) ?_; refine Hid.out ?_))
  refine Lib.hid ?_
  have hH6 := Blk.new w5 37 (faultC (e2, l2 + (cnt + 1), c2))
  have hG6 := HG5.out.grow (new_alloc w5 (.cells (faultC (e2, l2 + (cnt + 1), c2)) 37))
  have HE6 := Hid.in (HE5.out.below (new_alloc w5 (.cells (faultC (e2, l2 + (cnt + 1), c2)) 37)))
  have HB6 := Hid.in (below_alloc HB5.out (.cells (faultC (e2, l2 + (cnt + 1), c2)) 37))
  have HI6 := Hid.in (HI5.out.below (new_alloc w5 (.cells (faultC (e2, l2 + (cnt + 1), c2)) 37)))
  have HJ6 := Hid.in (HJ5.out.below (new_alloc w5 (.cells (faultC (e2, l2 + (cnt + 1), c2)) 37)))
  have HK6 := Hid.in (HK5.out.below (new_alloc w5 (.cells (faultC (e2, l2 + (cnt + 1), c2)) 37)))
  clear HE4 HB4 HI4 HJ4 HG4 HE5 HB5 HI5 HJ5 HK5 HG5 hP3
  generalize w5.alloc (.cells (faultC (e2, l2 + (cnt + 1), c2)) 37) = w6 at *
  generalize w5.heap.size = g5 at *
  have f0 : w6.cell? ⟨g3, 0, none⟩ = some (.int .i64 e2) := hG6.cell 0
  have f1 : w6.cell? ⟨g3, 1, none⟩ = some (.int .i64 l2) := hG6.cell 1
  have f2 : w6.cell? ⟨g3, 2, none⟩ = some (.int .i64 c2) := hG6.cell 2
  have k0 : w6.cell? ⟨g5, 0, none⟩ = some (.int .i64 e2) := hH6.cell 0
  have k1 : w6.cell? ⟨g5, 1, none⟩ = some (.int .i64 ((l2 : Int) + ((cnt : Int) + 1))) := hH6.cell 1
  have k2 : w6.cell? ⟨g5, 2, none⟩ = some (.int .i64 c2) := hH6.cell 2
  have hlen : L5.length = 0 := by have := congrArg List.length HM5.out; simpa using this
  obtain ⟨p5, cap5, hv5, -, -, -⟩ := HK6.out.shape
  rw [hlen] at hv5
  subst hv5
  have hA := fun W h => awake_any W h
  clear hG6 hH6
  go_wp2_with (first
    | (go_at_call 25; refine (hC _).mono ?_; rintro E w7 ⟨rfl, rfl⟩)
    | (go_at_call 11; refine (hA _ HE6.out).mono ?_; rintro E w8 ⟨rfl, hb8⟩))
  go_ret
  exact ⟨rfl, below_step HB6.out hb8⟩
end Go.Proofs.YtgfmmbbebodapaaGreatDoor

/- switchyardlaw04.SourceParts where both texts are read. -/
namespace Go.Proofs.YtgfmmbbebodapaaGreatDoor
open Go.RowKit

set_option maxRecDepth 20000 in
set_option maxHeartbeats 1000000 in
theorem parts_both (a b : ByteArray) (w : World) (he : Env w) (hl : a.size + b.size ≤ 4000) (xs ys : List Src) (cnt : Nat) (hcnt : a.data.toList.count 10 = cnt) (hc4 : cnt ≤ 4000) (hx4 : xs.length ≤ 4000) (hy4 : ys.length ≤ 4000)
    (ha : parseL a.data.toList = (xs, (0, 0, 0))) (hb : parseL b.data.toList = (ys, (0, 0, 0))) (hw : parseL (a.data.toList ++ 10 :: b.data.toList) = (xs ++ ys, (0, 0, 0))) :
    Calls Tryz.prog 7 #[.string a, .string b] w fun E w' => E = .returned (.bool true) ∧ Below w.heap.size w w' := by
  have hP := parse_any a w he (by omega)
  have hP2 := fun W h => parse_any b W h (by omega)
  have hP3 := fun W h => parse_any ((a ++ (⟨#[10]⟩ : ByteArray)) ++ b) W h (by rw [two_size]; omega)
  have hC : ∀ W, Calls Tryz.prog 25 #[.string a, .string ⟨#[10]⟩] W fun e w' => e = .returned (.int .i64 cnt) ∧ w' = W := fun W => by rw [← hcnt]; exact Tryz.strings_Count_one a 10 W
  rw [ha] at hP
  rw [hb] at hP2
  rw [two_bytes, hw] at hP3
  clear ha hb hw hcnt
  have HE5lt := Hid.in he.lt
  go_enter Tryz.func7, Tryz.ntmps7
  go_wp2_with (first
    | (go_at_call 12; refine hP.mono ?_; rintro E w1 ⟨v1, L1, rfl, hm1, hI1, hF1, hb1⟩; have HE1 := Hid.in (he.below hb1); have HB1 := Hid.in hb1; have HI1 := Hid.in hI1; have HM1 := Hid.in hm1; have HF1 := Hid.in hF1; clear hb1 hm1 hI1 hF1)
    | (refine step_store_new rfl 37 (.tmp 6) (.tmp 23) rfl rfl rfl (faultC (0, 0, 0)) rfl Tryz.sz37 rfl (fault_one _) ?_; refine Hid.out ?_))
  refine Lib.hid ?_
  have hF := Blk.new w1 37 (faultC (0, 0, 0))
  have f0 : (w1.alloc (.cells (faultC (0, 0, 0)) 37)).cell? ⟨w1.heap.size, 0, none⟩ = some (.int .i64 0) := hF.cell 0
  have f1 : (w1.alloc (.cells (faultC (0, 0, 0)) 37)).cell? ⟨w1.heap.size, 1, none⟩ = some (.int .i64 0) := hF.cell 1
  have f2 : (w1.alloc (.cells (faultC (0, 0, 0)) 37)).cell? ⟨w1.heap.size, 2, none⟩ = some (.int .i64 0) := hF.cell 2
  have HE2 := Hid.in (HE1.out.below (new_alloc w1 (.cells (faultC (0, 0, 0)) 37)))
  have HB2 := Hid.in (below_alloc HB1.out (.cells (faultC (0, 0, 0)) 37))
  have HI2 := Hid.in (HI1.out.below (new_alloc w1 (.cells (faultC (0, 0, 0)) 37)))
  clear hF HE1 HB1 HI1 hP
  generalize w1.alloc (.cells (faultC (0, 0, 0)) 37) = w2 at *
  generalize w1.heap.size = g1 at *
  go_wp2_with (first
    | (go_at_call 12; refine (hP2 _ HE2.out).mono ?_; rintro E w3 ⟨v3, L3, rfl, hm3, hI3, hF3, hb3⟩; have HE3 := Hid.in (HE2.out.below hb3); have HB3 := Hid.in (below_step HB2.out hb3); have HI3 := Hid.in (HI2.out.below hb3); have HJ3 := Hid.in hI3; have HM3 := Hid.in hm3; have HF3 := Hid.in hF3; have HS3 := Hid.in (Nat.le_trans HB2.out.size hb3.size); have HZ3 := Hid.in HB2.out.size; clear hb3 hm3 hI3 hF3; clear f0 f1 f2)
    | (refine step_store_new rfl 37 (.tmp 8) (.tmp 32) rfl rfl rfl (faultC (0, 0, 0)) rfl Tryz.sz37 rfl (fault_one _) ?_; refine Hid.out ?_))
  refine Lib.hid ?_
  have HG4 := Hid.in (Blk.new w3 37 (faultC (0, 0, 0)))
  have HE4 := Hid.in (HE3.out.below (new_alloc w3 (.cells (faultC (0, 0, 0)) 37)))
  have HB4 := Hid.in (below_alloc HB3.out (.cells (faultC (0, 0, 0)) 37))
  have HI4 := Hid.in (HI3.out.below (new_alloc w3 (.cells (faultC (0, 0, 0)) 37)))
  have HJ4 := Hid.in (HJ3.out.below (new_alloc w3 (.cells (faultC (0, 0, 0)) 37)))
  clear HE2 HB2 HI2 HE3 HB3 HI3 HJ3 hP2
  generalize w3.alloc (.cells (faultC (0, 0, 0)) 37) = w4 at *
  generalize w3.heap.size = g3 at *
  go_wp2_with (first
    | (go_at_call 12; refine (hP3 _ HE4.out).mono ?_; rintro E w5 ⟨v5, L5, rfl, hm5, hI5, hF5, hb5⟩; have HE5 := Hid.in (HE4.out.below hb5); have HB5 := Hid.in (below_step HB4.out hb5); have HI5 := Hid.in (HI4.out.below hb5); have HJ5 := Hid.in (HJ4.out.below hb5); have HK5 := Hid.in hI5; have HG5 := Hid.in (HG4.out.grow hb5); have HM5 := Hid.in hm5; have HF5 := Hid.in hF5; have HL5 := Hid.in (HI4.out.later hI5); clear hb5 hm5 hI5 hF5)
    | (refine step_store_new rfl 37 (.tmp 10) (.tmp 40) rfl rfl rfl (faultC (0, 0, 0)) rfl Tryz.sz37 rfl (fault_one _) ?_; refine Hid.out ?_))
  refine Lib.hid ?_
  have hH6 := Blk.new w5 37 (faultC (0, 0, 0))
  have hG6 := HG5.out.grow (new_alloc w5 (.cells (faultC (0, 0, 0)) 37))
  have HE6 := Hid.in (HE5.out.below (new_alloc w5 (.cells (faultC (0, 0, 0)) 37)))
  have HB6 := Hid.in (below_alloc HB5.out (.cells (faultC (0, 0, 0)) 37))
  have HI6 := Hid.in (HI5.out.below (new_alloc w5 (.cells (faultC (0, 0, 0)) 37)))
  have HJ6 := Hid.in (HJ5.out.below (new_alloc w5 (.cells (faultC (0, 0, 0)) 37)))
  have HK6 := Hid.in (HK5.out.below (new_alloc w5 (.cells (faultC (0, 0, 0)) 37)))
  clear HE4 HB4 HI4 HJ4 HG4 HE5 HB5 HI5 HJ5 HK5 HG5 hP3
  generalize w5.alloc (.cells (faultC (0, 0, 0)) 37) = w6 at *
  generalize w5.heap.size = g5 at *
  have f0 : w6.cell? ⟨g3, 0, none⟩ = some (.int .i64 0) := hG6.cell 0
  have f1 : w6.cell? ⟨g3, 1, none⟩ = some (.int .i64 0) := hG6.cell 1
  have f2 : w6.cell? ⟨g3, 2, none⟩ = some (.int .i64 0) := hG6.cell 2
  have k0 : w6.cell? ⟨g5, 0, none⟩ = some (.int .i64 0) := hH6.cell 0
  have k1 : w6.cell? ⟨g5, 1, none⟩ = some (.int .i64 0) := hH6.cell 1
  have k2 : w6.cell? ⟨g5, 2, none⟩ = some (.int .i64 0) := hH6.cell 2
  have hA := fun W h => awake_any W h
  clear hG6 hH6
  have hlen : L1.length + L3.length ≤ 1073741824 := by
    have e1 := congrArg List.length HM1.out
    have e3 := congrArg List.length HM3.out
    rw [List.length_map] at e1 e3
    omega
  have HS : Hid (∀ v' w', IOwn w' w.heap.size v' (L1 ++ L3) → w6.grownBy w' v1.ownBlock → Calls Tryz.prog 14 #[v5, v'] w' fun E W => E = .returned (.bool true) ∧ Below w'.heap.size w' W) := fun v' w' hI hg => by
    have hK := HK6.out.other HI6.out hg HL5.out
    obtain ⟨p, c, rfl, -, -, -⟩ := hK.shape
    obtain ⟨p', c', rfl, hc1, hc2, -⟩ := hI.shape
    have hl5 : L5.length = (L1 ++ L3).length := by
      have e1 := congrArg List.length HM1.out
      have e3 := congrArg List.length HM3.out
      have e5 := congrArg List.length HM5.out
      rw [List.length_map] at e1 e3
      rw [List.length_map, List.length_append] at e5
      rw [List.length_append]; omega
    have hf5 : ∀ q ∈ L1 ++ L3, Fit q.1 := fun q hq => by
      rcases List.mem_append.1 hq with h | h
      · exact HF1.out q h
      · exact HF3.out q h
    have hm : (L1 ++ L3).map Prod.fst = L5.map Prod.fst := by rw [List.map_append, HM1.out, HM3.out, HM5.out]
    have hi1 := hK.items HF5.out rfl
    have hi2 := hI.items hf5 rfl
    rw [hm] at hi2
    rw [← hl5]
    exact sameItems_yes p p' L5.length c c' (L5.map Prod.fst) w' (List.length_map _) (by rw [hl5, List.length_append]; omega) (fun x hx => Nat.le_trans (hi1.fit x hx).dz (by decide)) hi1 hi2
  go_wp2_with (first
    | (go_at_call 25; refine (hC _).mono ?_; rintro E w7 ⟨rfl, rfl⟩)
    | (refine gappend9 _ rfl (.tmp 71) (.tmp 72) rfl w.heap.size v1 v3 L1 L3 rfl rfl HI6.out (HJ6.out.lower HZ3.out) hlen HB6.out.size ?_; intro v8 w8 hI8 hg8 hb8; have HS8 := Hid.in (HS.out v8 w8 hI8 hg8); have HE8 := Hid.in (HE6.out.keep (hb8 _ (Below.refl _ _)) HE5lt.out); have HB8 := Hid.in (hb8 _ HB6.out); clear hI8 hg8 hb8)
    | (go_at_call 14; refine HS8.out.mono ?_; rintro E w9 ⟨rfl, hb9⟩; have HE9 := Hid.in (HE8.out.below hb9); have HB9 := Hid.in (below_step HB8.out hb9); clear hb9)
    | (go_at_call 11; refine (hA _ HE9.out).mono ?_; rintro E w10 ⟨rfl, hb10⟩))
  go_ret
  exact ⟨rfl, below_step HB9.out hb10⟩

theorem sourceParts_any (a b : ByteArray) (w : World) (he : Env w) (ha : a.size ≤ 4611686018427387904) (hb : b.size ≤ 4611686018427387903) :
    Calls Tryz.prog 7 #[.string a, .string b] w fun E w' => E = .returned (.bool true) ∧ Below w.heap.size w w' := by
  by_cases hl : a.size + b.size ≤ 4000
  · have hla := Lib.size_eq a
    have hlb := Lib.size_eq b
    have ea := parse_err a.data.toList
    have eb := parse_err b.data.toList
    have ca := parse_count a.data.toList
    have cb := parse_count b.data.toList
    have hct := List.count_le_length (a := (10 : UInt8)) (l := a.data.toList)
    rcases ea.1 with h0 | ⟨h0, -⟩
    · have h1 : parseL a.data.toList = ((parseL a.data.toList).1, (0, 0, 0)) := by rw [← h0]
      have hT := parse_two a.data.toList b.data.toList _ (by omega) h1
      rcases eb.1 with k0 | ⟨k0, k1⟩
      · have k2 : parseL b.data.toList = ((parseL b.data.toList).1, (0, 0, 0)) := by rw [← k0]
        rw [behind, if_pos k0] at hT
        exact parts_both a b w he hl _ _ _ rfl (by omega) (by omega) (by omega) h1 k2 hT
      · have kn : ¬ (parseL b.data.toList).2 = (0, 0, 0) := fun e => k0 (by rw [e])
        rw [behind, if_neg kn] at hT
        exact parts_second a b w he hl (parseL a.data.toList).1 (parseL b.data.toList).1 (a.data.toList.count 10) rfl (by omega) (parseL b.data.toList).2.1 (parseL b.data.toList).2.2.1 (parseL b.data.toList).2.2.2 k0 (by have := eb.2; omega) h1 rfl hT
    · exact parts_fault a b w he hl h0
  · exact parts_long a b w he ha hb (by omega)

end Go.Proofs.YtgfmmbbebodapaaGreatDoor

/-
  Proved here: the law SourceParts (switchyardlaw04) answers true for every input, and each argument reads afterwards as it read before; the card: what the row lists of the library's variables is tied to the program's text. No condition of ours: the row's own reach alone.
-/
namespace Go.Proofs.YtgfmmbbebodapaaGreatDoor
open Go.ChangeShapes Go.WideShapes Go.ChangeAt Go.RowKit
open Go.ChangeMaps (open_string shut_string)

theorem sourceParts_reads (os : Os) {H : Type} (enc : TypeId × Value → H) : ∃ places, DataW.whole enc Tryz.prog ((laidWorld os).forCall (fun _ _ => 0) ⟨#[], #[.string ByteArray.empty, .string ByteArray.empty], []⟩).memory Tryz.f7.params.toList (OpenSpec.ofChange Rows.sourcePartsSpec).vars false (#[.string ByteArray.empty, .string ByteArray.empty] : Array Value).toList 8 = some ([.lit (.string []), .lit (.string [])], [], places) :=
  ⟨[], by kernel_rfl⟩

set_option maxRecDepth 100000 in
theorem sourceParts_lifted (os : Os) (started : os.Started) (H : Type) (enc : TypeId × Value → H) (F : Stop.Interp) :
    ReturnsInHanded {} Tryz.checked os 7 .any ((OpenSpec.ofChange Rows.sourcePartsSpec).preRow enc Tryz.prog Tryz.f7 Rows.sourcePartsRow.domain false Rows.sourcePartsRow.laid) (((OpenSpec.ofChange Rows.sourcePartsSpec).at F).post enc Tryz.prog Tryz.f7 false true false false) := by
  obtain ⟨places, hx⟩ := sourceParts_reads os enc
  refine returnsInHanded_of_row (C := Tryz.checked) (s := (OpenSpec.ofChange Rows.sourcePartsSpec)) Tryz.own started (by kernel_rfl) Tryz.func7
    (witness_row_atRef (enc := enc) (C := Tryz.checked) false (laidWorld os) #[.string ByteArray.empty, .string ByteArray.empty] rfl (by kernel_rfl) (by kernel_rfl) (by kernel_rfl)
      (OpenSpec.preRow_of_cond 8 hx (by kernel_rfl) (fun k hk => by cases hk) (by kernel_rfl) (laid_met os _))) ?_
  intro W base args ds gs before hval0 hW _ hcond hsz0 hL _ _
  have hV := env_of hL
  have hW' := hW
  obtain ⟨p, q, hA0, hVv, rfl, hfz, hnd⟩ := hW
  have hA : DataW.TrodAll enc Tryz.prog W 0 (fun _ => true) true Tryz.f7.params.toList args.toList ds p := hA0
  have hval : ∀ (j : Nat) t v, Tryz.f7.params[j]? = some t → args[j]? = some v → Value.okWide Tryz.prog W .any base t v := hval0
  have hsz : (DataW.weightsEach Tryz.prog (Tryz.f7.params.toList ++ Rows.sourcePartsSpec.plain.varTypes Tryz.prog) (ds ++ gs)).all (· ≤ reachBytes) = true := hsz0
  rw [Tryz.params7] at hA hval hsz
  obtain ⟨v0, vs0, d0, ds0, p0, q0, hargs, rfl, rfl, h0, r0⟩ := trodAll_cons hA
  obtain ⟨v1, vs1, d1, ds1, p1, q1, rfl, rfl, rfl, h1, r1⟩ := trodAll_cons r0
  obtain ⟨rfl, rfl, rfl⟩ := trodAll_nil r1
  obtain rfl : args = #[v0, v1] := by cases args; simp_all
  obtain ⟨rfl, rfl⟩ := trodVars_none hVv
  obtain ⟨s0, rfl, rfl, rfl, hs0⟩ := open_string Tryz.underlying9 (hval 0 9 v0 rfl rfl) h0
  have hc0 := reach_string hsz (j := 0) (s := s0) rfl rfl
  obtain ⟨s1, rfl, rfl, rfl, hs1⟩ := open_string Tryz.underlying9 (hval 1 9 v1 rfl rfl) h1
  have hc1 := reach_string hsz (j := 1) (s := s1) rfl rfl
  refine (sourceParts_any s0 s1 W hV (by omega) (by omega)).mono fun e W' ⟨he, bel⟩ => ?_
  subst he
  exact ⟨_, rfl, _, _, _, [], _, [], hW', trodAll_mk1 (shut_bool Tryz.underlying4 _), (trodAll_cons_mk (shut_string Tryz.underlying9 hs0) (trodAll_cons_mk (shut_string Tryz.underlying9 hs1) trodAll_mk0)), rfl, bel.frame _, fun h => by cases h⟩

theorem sourceParts_said : Rows.SourcePartsSaid :=
  OpenClaim.holds_of_cond 7 Tryz.f7 rfl rfl rfl rfl rfl rfl rfl ⟨rfl, rfl, rfl, rfl, rfl⟩ rfl rfl rfl rfl rfl (by kernel_rfl) Tryz.func7 (by kernel_rfl)
    (of_decide_eq_true (by kernel_rfl)) (by unfold Func.isWrapper; first | (rw [if_pos (by decide +kernel)]; kernel_rfl) | (rw [if_neg (by decide +kernel)]; exact ⟨rfl, rfl⟩))
    (fun os started H enc _ F => by rw [OpenClaim.pre_eq_preRow]; exact sourceParts_lifted os started H enc F)

theorem sourceParts_plain (f : FuncId) (fn : Func) (hf : Tryz.pinned.checked.prog.funcNamed "switchyard/switchyardlaw04.SourceParts" = some f) (hfn : Tryz.pinned.checked.prog.funcs[f]? = some fn) :
    true = Tryz.pinned.checked.prog.looks [] ∧ ∀ (j : Nat) t, fn.params[j]? = some t → Tryz.pinned.checked.prog.wantsStandIn t = false := by
  obtain rfl : f = 7 := Option.some.inj ((show Tryz.prog.funcNamed "switchyard/switchyardlaw04.SourceParts" = some 7 by kernel_rfl).symm.trans hf) |>.symm
  obtain rfl : fn = Tryz.f7 := (Option.some.inj (Tryz.func7.symm.trans hfn)).symm
  refine ⟨by kernel_rfl, fun j t ht => ?_⟩
  rw [Tryz.params7] at ht
  rcases j with _ | _ | j
  · obtain rfl : t = 9 := by simpa using ht.symm
    exact (show Tryz.prog.wantsStandIn 9 = false by kernel_rfl)
  · obtain rfl : t = 9 := by simpa using ht.symm
    exact (show Tryz.prog.wantsStandIn 9 = false by kernel_rfl)
  · simp at ht

theorem sourceParts_holds : Rows.SourcePartsCardSaid :=
  Claim7.holds_tied_plain_at .later [] _ _ _ _ sourceParts_said (fun _ h => by cases h) (by kernel_rfl) (fun _ h => by cases h) sourceParts_row_tie rfl ⟨rfl, rfl⟩ (by kernel_rfl) rfl sourceParts_plain (by kernel_rfl)
#print axioms sourceParts_holds

end Go.Proofs.YtgfmmbbebodapaaGreatDoor
