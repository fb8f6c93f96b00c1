/- Texts put together: StdL, StdH. -/
import Derived.Test.YtkianldkbfjehaaGreatDoorKzy
import Derived.Test.YtkianldkbfjehaaGreatDoorKzzi
import Derived.Test.YtkianldkbfjehaaGreatDoorKzzc
import Derived.Test.YtkianldkbfjehaaGreatDoorKzd
import Derived.Test.YtkianldkbfjehaaGreatDoorKzo
import Derived.Deep.RegionHeld3

/- Where labels, marks and fixes stand, item by item, as lists. -/
namespace Go.Proofs.YtkianldkbfjehaaGreatDoor
open Go.RowKit

theorem chk_drop : ∀ (xs : List Src) (i k : Nat), (chkAt i xs).1 = 0 → (chkAt (i + k) (xs.drop k)).1 = 0
  | xs, i, 0, h => by simpa using h
  | [], i, k + 1, _ => by simp [chkAt]
  | x :: xs, i, k + 1, h => by
    have h2 : (chkAt (i + 1) xs).1 = 0 := by
      unfold chkAt at h
      split at h
      · simp at h
      · split at h
        · simp at h
        · exact h
    have := chk_drop xs (i + 1) k h2
    rw [show i + (k + 1) = i + 1 + k by omega]
    simpa using this
theorem bytes_drop (xs : List Src) (i : Nat) (_h : i ≤ xs.length) : (bytesL 0 xs).drop (placesL 0 (xs.take i)).2 = bytesL (placesL 0 (xs.take i)).2 (xs.drop i) := by
  have h1 : bytesL 0 xs = bytesL 0 (xs.take i) ++ bytesL (placesL 0 (xs.take i)).2 (xs.drop i) := by
    rw [← bytes_append, List.take_append_drop]
  have h2 := bytes_length (xs.take i) 0
  rw [h1, List.drop_append]
  rw [List.drop_eq_nil_of_le (by omega), List.nil_append, show (placesL 0 (xs.take i)).2 - (bytesL 0 (xs.take i)).length = 0 by omega, List.drop_zero]
/-- the lists that are left at an item -/
structure Left (o : Ob) (xs : List Src) (gs : List ByteArray) (i s m x : Nat) : Prop where
  sy : o.sy.drop s = sysL gs (xs.drop i) ((placesL 0 xs).1.drop i)
  mk_ : o.mk_.drop m = mksL (xs.drop i) ((placesL 0 xs).1.drop i)
  fx : o.fx.drop x = fxsL (xs.drop i) ((placesL 0 xs).1.drop i)
  ls : s ≤ o.sy.length
  lm : m ≤ o.mk_.length
  lx : x ≤ o.fx.length
theorem Left.start (xs : List Src) : Left (madeO xs) xs (gloN xs) 0 0 0 0 := ⟨rfl, rfl, rfl, Nat.zero_le _, Nat.zero_le _, Nat.zero_le _⟩
theorem Left.done {o : Ob} {xs : List Src} {gs : List ByteArray} {s m x : Nat} (h : Left o xs gs xs.length s m x) : s = o.sy.length ∧ m = o.mk_.length ∧ x = o.fx.length := by
  have h1 := congrArg List.length h.sy
  have h2 := congrArg List.length h.mk_
  have h3 := congrArg List.length h.fx
  rw [List.length_drop, List.drop_length] at h1 h2 h3
  have e1 : (sysL gs [] ((placesL 0 xs).1.drop xs.length)).length = 0 := by simp [sysL, labP]
  have e2 : (mksL [] ((placesL 0 xs).1.drop xs.length)).length = 0 := by simp [mksL]
  have e3 : (fxsL [] ((placesL 0 xs).1.drop xs.length)).length = 0 := by simp [fxsL]
  have := h.ls
  have := h.lm
  have := h.lx
  omega
theorem drop_cons {α : Type} {L : List α} {s : Nat} {a : α} {r : List α} (h : L.drop s = a :: r) : ∃ hs : s < L.length, L[s] = a ∧ L.drop (s + 1) = r := by
  have hs : s < L.length := by
    have := congrArg List.length h
    rw [List.length_drop, List.length_cons] at this
    omega
  rw [List.drop_eq_getElem_cons hs] at h
  injection h with h1 h2
  exact ⟨hs, h1, h2⟩
theorem pl_cons (xs : List Src) (i : Nat) (h : i < xs.length) : (placesL 0 xs).1.drop i = (placesL 0 (xs.take i)).2 :: (placesL 0 xs).1.drop (i + 1) := by
  have hl : i < (placesL 0 xs).1.length := by rw [places_length]; exact h
  have hg := place_get xs 0 i h
  rw [List.getElem?_eq_getElem hl] at hg
  injection hg with hg
  rw [List.drop_eq_getElem_cons hl, hg]
theorem xs_cons (xs : List Src) (i : Nat) (h : i < xs.length) : xs.drop i = xs[i] :: xs.drop (i + 1) := List.drop_eq_getElem_cons h
/-- a label: its symbol comes next -/
theorem Left.label {o : Ob} {xs : List Src} {gs : List ByteArray} {i s m x : Nat} (h : Left o xs gs i s m x) (hi : i < xs.length) (hmay : mayB xs[i] = true) (hk : xs[i].k = 1) :
    ∃ hs : s < o.sy.length, o.sy[s].name = xs[i].name ∧ o.sy[s].at_ = (placesL 0 (xs.take i)).2 ∧ Left o xs gs (i + 1) (s + 1) m x := by
  have hno : askK xs[i].o = none := by rw [(may_names hmay).op0 (by omega)]; rfl
  have h1 := h.sy
  have h2 := h.mk_
  have h3 := h.fx
  rw [pl_cons xs i hi, xs_cons xs i hi] at h1 h2 h3
  unfold sysL labP at h1
  rw [if_pos hk, List.map_cons] at h1
  unfold mksL at h2
  rw [if_neg (by omega)] at h2
  unfold fxsL at h3
  rw [hno] at h3
  obtain ⟨hs, e1, e2⟩ := drop_cons h1
  exact ⟨hs, by rw [e1]; rfl, by rw [e1]; rfl, ⟨e2, h2, h3, hs, h.lm, h.lx⟩⟩
/-- a mark: it comes next, and the quiet instruction stands there -/
theorem Left.mark {o : Ob} {xs : List Src} {gs : List ByteArray} {i s m x : Nat} (h : Left o xs gs i s m x) (hi : i < xs.length) (hck : (chkAt 0 xs).1 = 0) (hk : xs[i].k = 3) :
    ∃ hm : m < o.mk_.length, o.mk_[m].at_ = (placesL 0 (xs.take i)).2 ∧ o.mk_[m].key = xs[i].name ∧ o.mk_[m].to_ = xs[i].tg ∧ ((bytesL 0 xs).drop (placesL 0 (xs.take i)).2).take 5 = quiet ∧ Left o xs gs (i + 1) s (m + 1) x := by
  have hmay := chk_good xs 0 hck
  have hno : askK xs[i].o = none := by rw [(may_names (hmay _ (List.getElem_mem hi))).op0 (by omega)]; rfl
  have hc := chk_drop xs 0 i hck
  have hb := bytes_drop xs i (by omega)
  have hq := (mark_run (bytesL 0 xs) (xs.drop i) (placesL 0 (xs.take i)).2 (0 + i) (by rw [xs_cons xs i hi]; simp [takesB, hk]) hc hb).1
  have h1 := h.sy
  have h2 := h.mk_
  have h3 := h.fx
  rw [pl_cons xs i hi, xs_cons xs i hi] at h1 h2 h3
  unfold sysL labP at h1
  rw [if_neg (by omega)] at h1
  unfold mksL at h2
  rw [if_pos hk] at h2
  unfold fxsL at h3
  rw [hno] at h3
  obtain ⟨hs, e1, e2⟩ := drop_cons h2
  exact ⟨hs, by rw [e1], by rw [e1], by rw [e1], hq, ⟨h1, e2, h3, h.ls, hs, h.lx⟩⟩
/-- an instruction that asks for a label -/
theorem Left.fix {o : Ob} {xs : List Src} {gs : List ByteArray} {i s m x : Nat} (h : Left o xs gs i s m x) (hi : i < xs.length) (hmay : mayB xs[i] = true) (hk : xs[i].k = 2) (hne : xs[i].name ≠ noText) :
    ∃ hx : x < o.fx.length, o.fx[x].name = xs[i].name ∧ o.fx[x].at_ = ((placesL 0 (xs.take i)).2 : Int) + lenN xs[i].o.toNat - 4 ∧ dec ((bytesL 0 xs).drop (placesL 0 (xs.take i)).2) = ⟨xs[i].o.toNat, xs[i].a, xs[i].b, 0, lenN xs[i].o.toNat, 0⟩ ∧ 4 ≤ lenN xs[i].o.toNat ∧ lenN xs[i].o.toNat ≤ 6 ∧ Left o xs gs (i + 1) s m (x + 1) := by
  have hN := may_names hmay
  cases ha : askK xs[i].o with
  | none => exact absurd (hN.non hk (by rw [ha]; rfl)) hne
  | some kd =>
    obtain ⟨-, -, hm0, -, ho⟩ := ask_op hmay ha
    have hgood : rightB xs[i].o.toNat xs[i].a xs[i].b 0 = true := by
      rcases may_good hmay with g | ⟨_, g⟩ | g | ⟨g, -⟩ | ⟨g, -⟩ | ⟨g, -⟩ | g
      · omega
      · rw [hm0] at g; exact g
      · omega
      · omega
      · omega
      · omega
      · omega
    have hp : pieceL xs[i] (placesL 0 (xs.take i)).2 = encL xs[i].o.toNat xs[i].a xs[i].b 0 := by
      unfold pieceL saidL
      rw [if_neg (by omega), if_pos hk, hm0]
    have hsz : sizeL xs[i] (placesL 0 (xs.take i)).2 = lenN xs[i].o.toNat := by
      rw [← piece_size, hp, encL_length _ _ _ _ (by omega)]
    have hb := bytes_drop xs i (by omega)
    rw [xs_cons xs i hi] at hb
    have hb2 : bytesL (placesL 0 (xs.take i)).2 (xs[i] :: xs.drop (i + 1)) = encL xs[i].o.toNat xs[i].a xs[i].b 0 ++ bytesL ((placesL 0 (xs.take i)).2 + sizeL xs[i] (placesL 0 (xs.take i)).2) (xs.drop (i + 1)) := by
      rw [← hp]; rfl
    have hl := lenN_in xs[i].o.toNat (by omega) (by omega)
    have h4 : 4 ≤ lenN xs[i].o.toNat := by
      obtain ⟨cs, -, hs⟩ := ask_piece hmay ha (placesL 0 (xs.take i)).2
      omega
    have h1 := h.sy
    have h2 := h.mk_
    have h3 := h.fx
    rw [pl_cons xs i hi, xs_cons xs i hi] at h1 h2 h3
    unfold sysL labP at h1
    rw [if_neg (by omega)] at h1
    unfold mksL at h2
    rw [if_neg (by omega)] at h2
    unfold fxsL at h3
    rw [ha] at h3
    obtain ⟨hs, e1, e2⟩ := drop_cons h3
    refine ⟨hs, by rw [e1], ?_, ?_, h4, hl.2, ⟨h1, h2, e2, h.ls, h.lm, hs⟩⟩
    · rw [e1]
      show ((_ + sizeL xs[i] _ : Nat) : Int) - 4 = _
      rw [hsz]; omega
    · rw [hb, hb2]
      exact dec_enc hgood (by omega) _
/-- other items say nothing -/
theorem Left.other {o : Ob} {xs : List Src} {gs : List ByteArray} {i s m x : Nat} (h : Left o xs gs i s m x) (hi : i < xs.length) (hmay : mayB xs[i] = true) (hk1 : xs[i].k ≠ 1) (hk3 : xs[i].k ≠ 3) (hk2 : xs[i].k ≠ 2 ∨ xs[i].name = noText) : Left o xs gs (i + 1) s m x := by
  have hN := may_names hmay
  have hno : askK xs[i].o = none := by
    by_cases hk : xs[i].k = 2
    · cases ha : askK xs[i].o with
      | none => rfl
      | some kd =>
        have hn := (hN.ask hk (by rw [ha]; rfl)).1
        rcases hk2 with e | e
        · exact absurd hk e
        · rw [e] at hn
          exact absurd hn.2.1 (by decide)
    · rw [hN.op0 hk]; rfl
  have h1 := h.sy
  have h2 := h.mk_
  have h3 := h.fx
  rw [pl_cons xs i hi, xs_cons xs i hi] at h1 h2 h3
  unfold sysL labP at h1
  rw [if_neg hk1] at h1
  unfold mksL at h2
  rw [if_neg hk3] at h2
  unfold fxsL at h3
  rw [hno] at h3
  exact ⟨h1, h2, h3, h.ls, h.lm, h.lx⟩

end Go.Proofs.YtkianldkbfjehaaGreatDoor

/- CopyItems and Make, as what lies in memory. -/
namespace Go.Proofs.YtkianldkbfjehaaGreatDoor
open Go.RowKit

theorem own_fitting {L : List (Src × Value)} {xs : List Src} (hm : L.map Prod.fst = xs) (hf : ∀ x ∈ xs, Fit x) : ∀ q ∈ L, Fit q.1 := fun q hq => hf q.1 (by rw [← hm]; exact List.mem_map.2 ⟨q, hq, rfl⟩)
theorem IOwn.asList {w : World} {B : Nat} {v : Value} {L : List (Src × Value)} {xs : List Src} (h : IOwn w B v L) (hm : L.map Prod.fst = xs) (hf : ∀ x ∈ xs, Fit x) : ∃ p cap, v = .slice p xs.length cap ∧ xs.length ≤ cap ∧ cap ≤ maxLen ∧ Items w p xs := by
  obtain ⟨p, cap, rfl, h1, h2, -⟩ := h.shape
  have hl : L.length = xs.length := by rw [← hm, List.length_map]
  rw [hl] at h1
  refine ⟨p, cap, by rw [hl], h1, h2, ?_⟩
  rw [← hm]
  exact h.items (own_fitting hm hf) rfl
theorem copyList (p : Option Addr) (n c : Nat) (xs : List Src) (w : World) (hn : xs.length = n) (hnm : n ≤ 1048576) (hx : Items w p xs) :
    Calls Tryz.prog 7 #[.slice p n c] w fun E w' => ∃ p' c', E = .returned (.slice p' n c') ∧ n ≤ c' ∧ c' ≤ 9223372036854775807 ∧ Items w' p' xs ∧ Below w.heap.size w w' := by
  refine (copyItems_any p n c xs w hn hnm hx).mono ?_
  rintro E w' ⟨v, L, rfl, hm, hI, hb⟩
  obtain ⟨p', c', rfl, h1, h2, h3⟩ := hI.asList hm (items_fit hx)
  rw [hn] at h1 ⊢
  exact ⟨p', c', rfl, h1, Nat.le_trans h2 (by unfold maxLen; decide), h3, hb⟩
theorem made_in {xs : List Src} (hE : makeE xs = (0, 0)) : makeO xs = madeO xs := by
  unfold makeO; rw [hE, if_pos rfl]
/-- Make, as an object in memory -/
theorem make_in (p : Option Addr) (n c : Nat) (xs : List Src) (w : World) (he : Env w) (hn : xs.length = n) (hnc : n ≤ c) (hc63 : c ≤ 9223372036854775807) (hx : Items w p xs) :
    Calls Tryz.prog 8 #[.slice p n c] w fun E w' => ∃ pb ps pf pm cb cs cf cm, E = .returned (.tuple #[.agg (obA pb ps pf pm (makeO xs).bs.length cb (makeO xs).sy.length cs (makeO xs).fx.length cf (makeO xs).mk_.length cm), .int .i64 (makeE xs).1, .int .i64 (makeE xs).2]) ∧ ObIn w' (makeO xs) pb ps pf pm (makeO xs).bs.length cb (makeO xs).sy.length cs (makeO xs).fx.length cf (makeO xs).mk_.length cm ∧ Below w.heap.size w w' := by
  refine (make_any p n c xs w he hn hnc hc63 hx).mono ?_
  rintro E w' ⟨⟨vb, vs, vf, vm, rfl, hO⟩, hb⟩
  obtain ⟨pb, ps, pf, pm, cb, cs, cf, cm, ⟨rfl, rfl, rfl, rfl⟩, hI⟩ := hO.inn (make_fit (items_fit hx))
  exact ⟨pb, ps, pf, pm, cb, cs, cf, cm, rfl, hI, hb⟩

end Go.Proofs.YtkianldkbfjehaaGreatDoor
