/- Texts put together: Good3, MadeL, RObj, ObjO, MadeB. -/
import Derived.Test.YtkianldkbfjehaaGreatDoorKp
import Derived.Test.YtkianldkbfjehaaGreatDoorKzr
import Derived.Test.YtkianldkbfjehaaGreatDoorKzv
import Derived.Test.YtkianldkbfjehaaGreatDoorKzt
import Derived.Test.YtkianldkbfjehaaGreatDoorKzs
import Derived.Test.YtkianldkbfjehaaGreatDoorKzw
import Derived.Test.YtkianldkbfjehaaGreatDoorKzx
import Derived.Test.YtkianldkbfjehaaGreatDoorKzd
import Derived.Test.YtkianldkbfjehaaGreatDoorKzu

/- The names of an item that a line says. -/
namespace Go.Proofs.YtkianldkbfjehaaGreatDoor
open Go.RowKit

/-- which names an item has that may be -/
structure NamesP (x : Src) : Prop where
  lab : x.k = 1 → NameP x.name
  mrk : x.k = 3 → NameP x.name ∧ NameP x.tg
  glo : x.k = 7 → NameP x.name
  op0 : x.k ≠ 2 → x.o = 0
  ask : x.k = 2 → (askK x.o).isSome = true → NameP x.name ∧ x.m = 0
  non : x.k = 2 → (askK x.o).isSome = false → x.name = noText
theorem nameB_of {f : List UInt8} (h : nameB f = true) : NameP (bytesOf f) := (nameB_iff _).1 (by
  have : (bytesOf f).data.toList = f := by simp [bytesOf]
  rw [this]; exact h)
theorem readL_o (p : Nat) (x : Src) (f : List UInt8) : (readL p x f).2.o = x.o := by
  unfold readL
  split
  · split <;> rfl
  split
  · split <;> rfl
  split
  · split <;> rfl
  split
  · split <;> rfl
  split
  · rfl
  split
  · unfold putS; split
    · rfl
    split <;> rfl
  · rfl
theorem goL_o : ∀ (fs : List (Nat × List UInt8)) (x : Src) (ps : List Nat) (y : Src), goL x ps fs = .inr y → y.o = x.o
  | [], x, ps, y, h => by rw [goL] at h; injection h with h; rw [← h]
  | (c, f) :: fs, x, [], y, h => by simp [goL] at h
  | (c, f) :: fs, x, p :: ps, y, h => by
    rw [goL] at h
    split at h
    · rw [goL_o fs _ ps y h, readL_o]
    · cases h
theorem gread3n {x : Src} {f : List UInt8} (h : (readL 3 x f).1 = 0) : NameP (bytesOf f) ∧ (readL 3 x f).2 = { x with name := bytesOf f } := by
  unfold readL at h ⊢
  simp only [if_true, Nat.reduceEqDiff, if_false] at h ⊢
  split at h
  · rename_i e; rw [if_pos e]; exact ⟨nameB_of e, rfl⟩
  · simp at h
theorem gread4n {x : Src} {f : List UInt8} (h : (readL 4 x f).1 = 0) : NameP (bytesOf f) ∧ (readL 4 x f).2 = { x with tg := bytesOf f } := by
  unfold readL at h ⊢
  simp only [if_true, Nat.reduceEqDiff, if_false] at h ⊢
  split at h
  · rename_i e; rw [if_pos e]; exact ⟨nameB_of e, rfl⟩
  · simp at h
theorem names_op {y : Src} (hk : y.k = 2) (h : ((askK y.o).isSome = true ∧ NameP y.name ∧ y.m = 0) ∨ ((askK y.o).isSome = false ∧ y.name = noText)) : NamesP y := by
  refine ⟨fun e => by omega, fun e => by omega, fun e => by omega, fun e => absurd hk e, fun _ e => ?_, fun _ e => ?_⟩
  · rcases h with ⟨_, h⟩ | ⟨h, _⟩
    · exact h
    · rw [h] at e; cases e
  · rcases h with ⟨h, _⟩ | ⟨_, h⟩
    · rw [h] at e; cases e
    · exact h
theorem ops_names (o : Nat) (ho : 1 ≤ o ∧ o < 17) (fs : List (Nat × List UInt8)) (y : Src) (h : goL (formO o).1 (plO o) fs = .inr y) (hl : (plO o).length ≤ fs.length) : NamesP y := by
  refine names_op (goL_k _ _ _ _ h) ?_
  have hs : o = 1 ∨ o = 2 ∨ o = 3 ∨ o = 4 ∨ o = 13 ∨ o = 5 ∨ (o = 6 ∨ o = 7 ∨ o = 8) ∨ (o = 9 ∨ o = 10 ∨ o = 14 ∨ o = 15) ∨ (o = 11 ∨ o = 12) ∨ o = 16 := by omega
  rcases hs with rfl | rfl | rfl | rfl | rfl | rfl | h3 | h4 | h5 | rfl
  · obtain ⟨-, rfl⟩ := goL_none h; exact .inr ⟨rfl, rfl⟩
  · obtain ⟨-, rfl⟩ := goL_none h; exact .inr ⟨rfl, rfl⟩
  · obtain ⟨-, rfl⟩ := goL_none h; exact .inr ⟨rfl, rfl⟩
  · obtain ⟨-, rfl⟩ := goL_none h; exact .inr ⟨rfl, rfl⟩
  · obtain ⟨-, rfl⟩ := goL_none h; exact .inr ⟨rfl, rfl⟩
  · have hl2 : 2 ≤ fs.length := hl
    obtain ⟨f, fs', e, h0, h⟩ := goL_some (ps := [2]) h (by omega)
    obtain ⟨r, r0, r1, er⟩ := gread0 h0
    rw [er] at h
    obtain ⟨f2, fs2, e2, h0, h⟩ := goL_some (ps := []) h (by omega)
    obtain ⟨v, hv, ev⟩ := greadN (.inl rfl) h0
    rw [ev] at h
    obtain ⟨-, rfl⟩ := goL_none h
    exact .inr ⟨rfl, rfl⟩
  · have hp : plO o = [0, 1] := by rcases h3 with rfl | rfl | rfl <;> rfl
    rw [hp] at h hl
    have hl2 : 2 ≤ fs.length := hl
    obtain ⟨f, fs', e, h0, h⟩ := goL_some (ps := [1]) h (by omega)
    obtain ⟨r, r0, r1, er⟩ := gread0 h0
    rw [er] at h
    obtain ⟨f2, fs2, e2, h0, h⟩ := goL_some (ps := []) h (by omega)
    obtain ⟨q, q0, q1, eq⟩ := gread1 h0
    rw [eq] at h
    obtain ⟨-, rfl⟩ := goL_none h
    rcases h3 with rfl | rfl | rfl <;> exact .inr ⟨rfl, rfl⟩
  · have hp : plO o = [0, 3] := by rcases h4 with rfl | rfl | rfl | rfl <;> rfl
    rw [hp] at h hl
    have hl2 : 2 ≤ fs.length := hl
    obtain ⟨f, fs', e, h0, h⟩ := goL_some (ps := [3]) h (by omega)
    obtain ⟨r, r0, r1, er⟩ := gread0 h0
    rw [er] at h
    obtain ⟨f2, fs2, e2, h0, h⟩ := goL_some (ps := []) h (by omega)
    obtain ⟨hn, es⟩ := gread3n h0
    rw [es] at h
    obtain ⟨-, rfl⟩ := goL_none h
    rcases h4 with rfl | rfl | rfl | rfl <;> exact .inl ⟨rfl, hn, rfl⟩
  · have hp : plO o = [3] := by rcases h5 with rfl | rfl <;> rfl
    rw [hp] at h hl
    have hl2 : 1 ≤ fs.length := hl
    obtain ⟨f, fs', e, h0, h⟩ := goL_some (ps := []) h (by omega)
    obtain ⟨hn, es⟩ := gread3n h0
    rw [es] at h
    obtain ⟨-, rfl⟩ := goL_none h
    rcases h5 with rfl | rfl <;> exact .inl ⟨rfl, hn, rfl⟩
  · have hl2 : 1 ≤ fs.length := hl
    obtain ⟨f, fs', e, h0, h⟩ := goL_some (ps := []) h (by omega)
    obtain ⟨r, r0, r1, er⟩ := gread0 h0
    rw [er] at h
    obtain ⟨-, rfl⟩ := goL_none h
    exact .inr ⟨rfl, rfl⟩
theorem names_other {y : Src} (h1 : y.k ≠ 1) (h2 : y.k ≠ 2) (h3 : y.k ≠ 3) (h7 : y.k ≠ 7) (ho : y.o = 0) : NamesP y :=
  ⟨fun e => absurd e h1, fun e => absurd e h3, fun e => absurd e h7, fun _ => ho, fun e => absurd e h2, fun e => absurd e h2⟩
theorem words_names (i : Nat) (fs : List (Nat × List UInt8)) (y : Src) (h : goL (formW i).1 (formW i).2.1 fs = .inr y) (hl : (formW i).2.2 ≤ fs.length) : NamesP y := by
  have hk := goL_k _ _ _ _ h
  have ho := goL_o _ _ _ _ h
  have hs : i = 0 ∨ i = 1 ∨ i = 2 ∨ i = 3 ∨ ∃ j, i = j + 4 := by
    by_cases h4 : i < 4
    · omega
    · exact .inr (.inr (.inr (.inr ⟨i - 4, by omega⟩)))
  rcases hs with rfl | rfl | rfl | rfl | ⟨j, rfl⟩
  · have hl2 : 2 ≤ fs.length := hl
    obtain ⟨f, fs', e, h0, h⟩ := goL_some (ps := [4]) h (by omega)
    obtain ⟨hn, es⟩ := gread3n h0
    rw [es] at h
    obtain ⟨f2, fs2, e2, h0, h⟩ := goL_some (ps := []) h (by omega)
    obtain ⟨hn2, es⟩ := gread4n h0
    rw [es] at h
    obtain ⟨-, rfl⟩ := goL_none h
    exact ⟨fun e => absurd (hk.symm.trans e) (by decide), fun _ => ⟨hn, hn2⟩, fun e => absurd (hk.symm.trans e) (by decide), fun _ => ho, fun e => absurd (hk.symm.trans e) (by decide), fun e => absurd (hk.symm.trans e) (by decide)⟩
  · have hk : y.k = 4 := hk
    exact names_other (by omega) (by omega) (by omega) (by omega) ho
  · have hk : y.k = 5 := hk
    exact names_other (by omega) (by omega) (by omega) (by omega) ho
  · have hk : y.k = 6 := hk
    exact names_other (by omega) (by omega) (by omega) (by omega) ho
  · have hl2 : 1 ≤ fs.length := hl
    obtain ⟨f, fs', e, h0, h⟩ := goL_some (ps := []) h (by omega)
    obtain ⟨hn, es⟩ := gread3n h0
    rw [es] at h
    obtain ⟨-, rfl⟩ := goL_none h
    have hk7 : _ = (7 : Int) := hk
    exact ⟨fun e => absurd (hk7.symm.trans e) (by decide), fun e => absurd (hk7.symm.trans e) (by decide), fun _ => hn, fun _ => ho, fun e => absurd (hk7.symm.trans e) (by decide), fun e => absurd (hk7.symm.trans e) (by decide)⟩
theorem lineL_names (l : List UInt8) (h : (lineL l).2.1 = true) : NamesP (lineL l).1 := by
  unfold lineL at h ⊢
  split at h
  · simp at h
  · rename_i c f fs hfs
    split at h
    · simp at h
    · rename_i x ps least hform
      split at h
      · simp at h
      · rename_i y hgo
        split at h
        · simp at h
        · rename_i hle
          rw [if_neg hle]
          unfold formL at hform
          split at hform
          · rename_i i hi
            injection hform with hform
            have hw := words_names i fs y (by rw [hform]; exact hgo) (by rw [hform]; exact Nat.le_of_not_lt hle)
            exact hw
          · split at hform
            · rename_i o ho
              injection hform with hform
              have e1 : (formO o).1 = x := by rw [hform]
              have e2 : plO o = ps := congrArg (fun q => q.2.1) hform
              have e3 : (plO o).length = least := congrArg (fun q => q.2.2) hform
              exact ops_names o (opL_in ho) fs y (by rw [e1, e2]; exact hgo) (by rw [e3]; exact Nat.le_of_not_lt hle)
            · split at hform
              · rename_i hlab
                injection hform with hform
                injection hform with h1 h2
                injection h2 with h2 h3
                subst h1 h2
                obtain ⟨-, rfl⟩ := goL_none hgo
                exact ⟨fun _ => nameB_of hlab.2, fun e => absurd (show (1 : Int) = 3 from e) (by decide), fun e => absurd (show (1 : Int) = 7 from e) (by decide), fun _ => rfl, fun e => absurd (show (1 : Int) = 2 from e) (by decide), fun e => absurd (show (1 : Int) = 2 from e) (by decide)⟩
              · cases hform
theorem may_names {x : Src} (h : mayB x = true) : NamesP x := by
  obtain ⟨h1, h2⟩ := (mayB_iff x).1 h
  have := lineL_names _ h1
  rw [h2] at this
  exact this

end Go.Proofs.YtkianldkbfjehaaGreatDoor

/- What is made of items is right, as lists. -/
namespace Go.Proofs.YtkianldkbfjehaaGreatDoor
open Go.RowKit

def sySy (gs : List ByteArray) (q : ByteArray × Nat) : Sy := ⟨q.1, q.2, inB q.1 gs⟩
def sysL (gs : List ByteArray) (xs : List Src) (ps : List Nat) : List Sy := (labP xs ps).map (sySy gs)
def fxsL : List Src → List Nat → List Fx
  | x :: xs, a :: bs => match askK x.o with
    | some kd => ⟨kd, ((a + sizeL x a : Nat) : Int) - 4, x.name⟩ :: fxsL xs bs
    | none => fxsL xs bs
  | _, _ => []
def mksL : List Src → List Nat → List Mk
  | x :: xs, a :: bs => if x.k = 3 then ⟨a, x.name, x.tg⟩ :: mksL xs bs else mksL xs bs
  | _, _ => []
def madeO (xs : List Src) : Ob := ⟨bytesL 0 xs, sysL (gloN xs) xs (placesL 0 xs).1, fxsL xs (placesL 0 xs).1, mksL xs (placesL 0 xs).1⟩
theorem syms_eq (xs : List Src) (ps : List Nat) : symsL xs ps = (sysL (gloN xs) xs ps).map syV := by
  unfold symsL sysL
  rw [List.map_map]; rfl
theorem fixes_eq : ∀ (xs : List Src) (ps : List Nat), fixesL xs ps = (fxsL xs ps).map fxV
  | [], _ => by simp [fixesL, fxsL]
  | x :: xs, [] => by simp [fixesL, fxsL]
  | x :: xs, a :: bs => by
    unfold fixesL fxsL
    cases askK x.o with
    | none => exact fixes_eq xs bs
    | some kd =>
      show fixV kd x a :: fixesL xs bs = List.map fxV (_ :: fxsL xs bs)
      rw [List.map_cons, fixes_eq xs bs]; rfl
theorem marks_eq : ∀ (xs : List Src) (ps : List Nat), marksL xs ps = (mksL xs ps).map mkV
  | [], _ => by simp [marksL, mksL]
  | x :: xs, [] => by simp [marksL, mksL]
  | x :: xs, a :: bs => by
    unfold marksL mksL
    split
    · rw [List.map_cons, marks_eq xs bs]; rfl
    · exact marks_eq xs bs
theorem sys_len (gs : List ByteArray) (xs : List Src) (ps : List Nat) (h : xs.length = ps.length) : (sysL gs xs ps).length ≤ xs.length := by
  unfold sysL
  have := congrArg List.length (labP_fst xs ps h)
  rw [List.length_map] at this
  rw [List.length_map, this]
  exact labN_len xs
theorem mks_len : ∀ (xs : List Src) (ps : List Nat), (mksL xs ps).length ≤ xs.length
  | [], _ => by simp [mksL]
  | x :: xs, [] => by simp [mksL]
  | x :: xs, a :: bs => by
    have := mks_len xs bs
    unfold mksL
    split <;> (simp; omega)
theorem fxs_len (xs : List Src) (ps : List Nat) : (fxsL xs ps).length ≤ xs.length := by
  have := fixesL_len xs ps
  rw [fixes_eq, List.length_map] at this
  exact this
theorem places_cons (x : Src) (xs : List Src) (a : Nat) : (placesL a (x :: xs)).1 = a :: (placesL (a + sizeL x a) xs).1 := rfl

/-- symbols -/
theorem rs_made (n : Nat) (gs : List ByteArray) : ∀ (xs : List Src) (a : Nat) (least : Int) (seen : List ByteArray), least ≤ a → (placesL a xs).2 ≤ n → (∀ x ∈ xs, NamesP x) → (seen ++ labN xs).Nodup → rsL n least seen (sysL gs xs (placesL a xs).1) = true
  | [], _, _, _, _, _, _, _ => rfl
  | x :: xs, a, least, seen, hl, hn, hN, hd => by
    rw [places_cons]
    have hgr := places_grow xs (a + sizeL x a)
    have hn' : (placesL (a + sizeL x a) xs).2 ≤ n := hn
    have hNx := hN x (by simp)
    by_cases hk : x.k = 1
    · have e : sysL gs (x :: xs) (a :: (placesL (a + sizeL x a) xs).1) = ⟨x.name, a, inB x.name gs⟩ :: sysL gs xs (placesL (a + sizeL x a) xs).1 := by
        unfold sysL
        conv => lhs; unfold labP
        rw [if_pos hk]; rfl
      have hlab : labN (x :: xs) = x.name :: labN xs := by
        conv => lhs; unfold labN
        rw [if_pos hk]
      rw [hlab] at hd
      have hd2 : ((seen ++ [x.name]) ++ labN xs).Nodup := by rw [List.append_assoc]; exact hd
      have hni : inB x.name seen = false := by
        cases hb : inB x.name seen with
        | false => rfl
        | true =>
          have := (inB_iff _ _).1 hb
          rw [List.nodup_append] at hd
          exact absurd rfl (hd.2.2 _ this x.name (by simp))
      rw [e]
      unfold rsL
      rw [rs_made n gs xs (a + sizeL x a) a (seen ++ [x.name]) (by omega) hn' (fun y hy => hN y (by simp [hy])) hd2, Bool.and_true]
      unfold symB
      rw [hni, (nmB_iff _).2 (hNx.lab hk), decide_eq_true hl, decide_eq_true (show (a : Int) ≤ n by omega)]; rfl
    · have e : sysL gs (x :: xs) (a :: (placesL (a + sizeL x a) xs).1) = sysL gs xs (placesL (a + sizeL x a) xs).1 := by
        unfold sysL
        conv => lhs; unfold labP
        rw [if_neg hk]
      have hlab : labN (x :: xs) = labN xs := by
        conv => lhs; unfold labN
        rw [if_neg hk]
      rw [hlab] at hd
      rw [e]
      exact rs_made n gs xs (a + sizeL x a) least seen (by omega) hn' (fun y hy => hN y (by simp [hy])) hd

theorem ask_op {x : Src} (h : mayB x = true) {kd : Int} (ha : askK x.o = some kd) : x.k = 2 ∧ NameP x.name ∧ x.m = 0 ∧ (kd = 1 ∨ kd = 2) ∧ (x.o.toNat = 9 ∨ x.o.toNat = 10 ∨ x.o.toNat = 11 ∨ x.o.toNat = 12 ∨ x.o.toNat = 14 ∨ x.o.toNat = 15) := by
  have hN := may_names h
  have hk : x.k = 2 := by
    by_cases hk : x.k = 2
    · exact hk
    · rw [hN.op0 hk] at ha
      rw [show askK 0 = none from rfl] at ha
      cases ha
  have hs := hN.ask hk (by rw [ha]; rfl)
  refine ⟨hk, hs.1, hs.2, ?_⟩
  unfold askK at ha
  split at ha
  · injection ha with ha; exact ⟨.inl ha.symm, by omega⟩
  · split at ha
    · injection ha with ha; exact ⟨.inr ha.symm, by omega⟩
    · cases ha
/-- an instruction that asks for a label ends with four noughts -/
theorem ask_piece {x : Src} (h : mayB x = true) {kd : Int} (ha : askK x.o = some kd) (a : Nat) : ∃ cs, pieceL x a = cs ++ [0, 0, 0, 0] ∧ sizeL x a = cs.length + 4 := by
  obtain ⟨hk, -, hm, -, ho⟩ := ask_op h ha
  have hp : pieceL x a = encL x.o.toNat x.a x.b 0 := by
    unfold pieceL saidL
    rw [if_neg (by omega), if_pos hk, hm]
  have hq : ∃ cs, encL x.o.toNat x.a x.b 0 = cs ++ [0, 0, 0, 0] := by
    unfold encL encG
    have hz : ¬ Go.Proofs.YtkianldkbfjehaaGreatDoor.kd x.o.toNat = 0 := by
      rcases ho with e | e | e | e | e | e <;> rw [e] <;> decide
    rw [if_neg hz]
    exact ⟨_, rfl⟩
  obtain ⟨cs, e⟩ := hq
  refine ⟨cs, by rw [hp, e], ?_⟩
  rw [← piece_size, hp, e]; simp
theorem drop_more {bs ps qs : List Int} {a : Nat} (h : bs.drop a = ps ++ qs) : bs.drop (a + ps.length) = qs := by
  rw [← List.drop_drop, h, List.drop_left]
theorem fixes_low : ∀ (xs : List Src) (a : Nat), (∀ x ∈ xs, mayB x = true) → ∀ f ∈ fxsL xs (placesL a xs).1, (a : Int) ≤ f.at_
  | [], _, _, f, hf => by simp [fxsL] at hf
  | x :: xs, a, hm, f, hf => by
    rw [places_cons] at hf
    have ih := fixes_low xs (a + sizeL x a) (fun y hy => hm y (by simp [hy]))
    unfold fxsL at hf
    cases hk : askK x.o with
    | none =>
      rw [hk] at hf
      have := ih f hf
      omega
    | some kd =>
      rw [hk] at hf
      obtain ⟨cs, -, hs⟩ := ask_piece (hm x (by simp)) hk a
      rcases List.mem_cons.1 hf with rfl | hf
      · show (a : Int) ≤ ((a + sizeL x a : Nat) : Int) - 4
        omega
      · have := ih f hf
        omega
/-- fixes -/
theorem rf_made (bs : List Int) : ∀ (xs : List Src) (a : Nat) (least : Int), least ≤ a → a ≤ bs.length → (∀ x ∈ xs, mayB x = true) → bs.drop a = bytesL a xs → rfL bs least (fxsL xs (placesL a xs).1) = true
  | [], _, _, _, _, _, _ => rfl
  | x :: xs, a, least, hl, hab, hm, hb => by
    rw [places_cons]
    have hb2 : bs.drop a = pieceL x a ++ bytesL (a + sizeL x a) xs := hb
    have hb3 := drop_more hb2
    rw [piece_size] at hb3
    have hlen : a + sizeL x a ≤ bs.length := by
      have := congrArg List.length hb2
      rw [List.length_drop, List.length_append, piece_size] at this
      omega
    have hm' : ∀ y ∈ xs, mayB y = true := fun y hy => hm y (by simp [hy])
    unfold fxsL
    cases hk : askK x.o with
    | none => exact rf_made bs xs (a + sizeL x a) least (by omega) hlen hm' hb3
    | some kd =>
      obtain ⟨cs, hp, hs⟩ := ask_piece (hm x (by simp)) hk a
      obtain ⟨-, hname, -, hkd, -⟩ := ask_op (hm x (by simp)) hk
      show rfL bs least (⟨kd, ((a + sizeL x a : Nat) : Int) - 4, x.name⟩ :: fxsL xs (placesL (a + sizeL x a) xs).1) = true
      unfold rfL
      rw [rf_made bs xs (a + sizeL x a) (((a + sizeL x a : Nat) : Int) - 4 + 4) (by omega) hlen hm' hb3, Bool.and_true]
      unfold fixB stB
      have e1 : (((a + sizeL x a : Nat) : Int) - 4).toNat = a + cs.length := by omega
      have e2 : (bs.drop (a + cs.length)).take 4 = [0, 0, 0, 0] := by
        rw [hp, List.append_assoc] at hb2
        rw [drop_more hb2]; simp
      simp only [Bool.and_eq_true, decide_eq_true_eq]
      refine ⟨⟨⟨hkd, (nmB_iff _).2 hname⟩, by omega⟩, by omega, ?_, ?_⟩
      · rw [e1]; simp; omega
      · rw [e1]; exact e2
/-- behind a mark stands the quiet instruction, and no fix within it -/
theorem mark_run (bs : List Int) : ∀ (xs : List Src) (a i : Nat), takesB xs = true → (chkAt i xs).1 = 0 → bs.drop a = bytesL a xs → (bs.drop a).take 5 = quiet ∧ ∀ f ∈ fxsL xs (placesL a xs).1, (a : Int) + 5 ≤ f.at_
  | [], _, _, h, _, _ => by simp [takesB] at h
  | x :: xs, a, i, ht, hc, hb => by
    have hb2 : bs.drop a = pieceL x a ++ bytesL (a + sizeL x a) xs := hb
    have hmay := chk_good (x :: xs) i hc
    have hm' : ∀ y ∈ xs, mayB y = true := fun y hy => hmay y (by simp [hy])
    have hN := may_names (hmay x (by simp))
    rw [places_cons]
    simp only [takesB, Bool.or_eq_true, Bool.and_eq_true, decide_eq_true_eq] at ht
    rcases ht with hk | ⟨hk, ho⟩
    · have hz : sizeL x a = 0 := by simp [sizeL, saidL, hk]
      have ht2 : takesB xs = true ∧ (chkAt (i + 1) xs).1 = 0 := by
        unfold chkAt at hc
        split at hc
        · simp at hc
        · split at hc
          · simp at hc
          · rename_i h2
            refine ⟨?_, hc⟩
            cases hb : takesB xs with
            | true => rfl
            | false => exact absurd ⟨hk, hb⟩ h2
      have hp : pieceL x a = [] := List.eq_nil_of_length_eq_zero (by rw [piece_size, hz])
      rw [hp, hz] at hb2
      have ih := mark_run bs xs a (i + 1) ht2.1 ht2.2 hb2
      have hno : askK x.o = none := by rw [hN.op0 (by omega)]; decide
      unfold fxsL
      rw [hno, hz]
      exact ih
    · have hp : pieceL x a = quiet := by
        unfold pieceL saidL
        rw [if_neg (by omega), if_pos hk, ho]; rfl
      have hz : sizeL x a = 5 := by rw [← piece_size, hp]; rfl
      have hno : askK x.o = none := by rw [ho]; decide
      refine ⟨by rw [hb2, hp]; rfl, ?_⟩
      unfold fxsL
      rw [hno, hz]
      intro f hf
      have := fixes_low xs (a + 5) hm' f hf
      omega
/-- marks -/
theorem rm_made (bs : List Int) (fs : List Fx) : ∀ (xs : List Src) (a i : Nat) (least : Int) (F : List Fx), least ≤ a → a ≤ bs.length → (chkAt i xs).1 = 0 → bs.drop a = bytesL a xs → fs = F ++ fxsL xs (placesL a xs).1 → (∀ f ∈ F, f.at_ + 4 ≤ a) → rmL bs fs least (mksL xs (placesL a xs).1) = true
  | [], _, _, _, _, _, _, _, _, _, _ => rfl
  | x :: xs, a, i, least, F, hl, hab, hc, hb, hfs, hF => by
    have hmay := chk_good (x :: xs) i hc
    have hN := may_names (hmay x (by simp))
    have hb2 : bs.drop a = pieceL x a ++ bytesL (a + sizeL x a) xs := hb
    have hb3 := drop_more hb2
    rw [piece_size] at hb3
    have hlen : a + sizeL x a ≤ bs.length := by
      have := congrArg List.length hb2
      rw [List.length_drop, List.length_append, piece_size] at this
      omega
    have hc2 : (x.k = 3 → takesB xs = true) ∧ (chkAt (i + 1) xs).1 = 0 := by
      unfold chkAt at hc
      split at hc
      · simp at hc
      · split at hc
        · simp at hc
        · rename_i h2
          refine ⟨fun hk => ?_, hc⟩
          cases hb : takesB xs with
          | true => rfl
          | false => exact absurd ⟨hk, hb⟩ h2
    rw [places_cons] at hfs ⊢
    have ih : ∀ least' : Int, least' ≤ a → rmL bs fs least' (mksL xs (placesL (a + sizeL x a) xs).1) = true := fun least' hl' => by
      cases hk : askK x.o with
      | none =>
        unfold fxsL at hfs
        rw [hk] at hfs
        exact rm_made bs fs xs (a + sizeL x a) (i + 1) least' F (by omega) hlen hc2.2 hb3 hfs (fun f hf => by have := hF f hf; omega)
      | some kd =>
        unfold fxsL at hfs
        rw [hk] at hfs
        have hfs' : fs = (F ++ [⟨kd, ((a + sizeL x a : Nat) : Int) - 4, x.name⟩]) ++ fxsL xs (placesL (a + sizeL x a) xs).1 := by
          rw [hfs, List.append_assoc]; rfl
        refine rm_made bs fs xs (a + sizeL x a) (i + 1) least' _ (by omega) hlen hc2.2 hb3 hfs' (fun f hf => ?_)
        rcases List.mem_append.1 hf with h | h
        · have := hF f h; omega
        · rw [List.mem_singleton] at h
          rw [h]
          show ((a + sizeL x a : Nat) : Int) - 4 + 4 ≤ _
          omega
    unfold mksL
    by_cases hk : x.k = 3
    · rw [if_pos hk]
      unfold rmL
      rw [ih a (Int.le_refl _), Bool.and_true]
      have hz : sizeL x a = 0 := by simp [sizeL, saidL, hk]
      have hno : askK x.o = none := by rw [hN.op0 (by omega)]; decide
      obtain ⟨hq, hfx⟩ := mark_run bs xs a (i + 1) (hc2.1 hk) hc2.2 (by rw [hz] at hb3; exact hb3)
      unfold fxsL at hfs
      rw [hno, hz] at hfs
      have hq5 : a + 5 ≤ bs.length := by
        have := congrArg List.length hq
        rw [List.length_take, List.length_drop] at this
        have e5 : quiet.length = 5 := rfl
        omega
      unfold mrkB stB
      have hsh : shB fs (a : Int) = false := by
        unfold shB
        rw [List.any_eq_false]
        intro f hf
        rw [hfs] at hf
        simp only [decide_eq_true_eq]
        rcases List.mem_append.1 hf with h | h
        · have := hF f h; omega
        · have := hfx f h; omega
      simp only [Bool.and_eq_true, decide_eq_true_eq, Bool.not_eq_true']
      exact ⟨⟨⟨⟨(nmB_iff _).2 (hN.mrk hk).1, (nmB_iff _).2 (hN.mrk hk).2⟩, hl⟩, by omega, by simpa [quiet] using hq5, hq⟩, hsh⟩
    · rw [if_neg hk]
      exact ih least hl
theorem chk_of {xs : List Src} (h : (checkL xs).1 = 0) : (chkAt 0 xs).1 = 0 := by
  unfold checkL at h
  split at h
  · simp at h
  · exact h
/-- what is made is right -/
theorem made_right {xs : List Src} (hl : layE xs = 0) (hd : dupAt 0 [] xs = none) : okO (madeO xs) = true := by
  obtain ⟨hck, hend⟩ := layE_ok hl
  obtain ⟨hl4, hmay⟩ := check_good hck
  have hlen := bytes_length xs 0
  rw [Nat.zero_add] at hlen
  have hpl : xs.length = (placesL 0 xs).1.length := (places_length xs 0).symm
  unfold okO madeO
  have h1 := rs_made (bytesL 0 xs).length (gloN xs) xs 0 0 [] (Int.le_refl _) (by omega) (fun x hx => may_names (hmay x hx)) (dup_none xs 0 [] hd List.nodup_nil)
  have h2 := rf_made (bytesL 0 xs) xs 0 0 (Int.le_refl _) (Nat.zero_le _) hmay rfl
  have h3 := rm_made (bytesL 0 xs) (fxsL xs (placesL 0 xs).1) xs 0 0 0 [] (Int.le_refl _) (Nat.zero_le _) (chk_of hck) rfl rfl (by simp)
  simp only [h1, h2, h3, Bool.and_true, decide_eq_true_eq]
  have := sys_len (gloN xs) xs _ hpl
  have := mks_len xs (placesL 0 xs).1
  have := fxs_len xs (placesL 0 xs).1
  omega

end Go.Proofs.YtkianldkbfjehaaGreatDoor

/- object.Right, for every object. -/
namespace Go.Proofs.YtkianldkbfjehaaGreatDoor
open Go.RowKit

/-- an object's lists in memory -/
structure ObIn (w : World) (o : Ob) (pb ps pf pm : Option Addr) (nb cb ns cs nf cf nm cm : Nat) : Prop where
  lb : o.bs.length = nb
  ls : o.sy.length = ns
  lf : o.fx.length = nf
  lm : o.mk_.length = nm
  kb : nb ≤ cb
  mb : cb ≤ maxLen
  ks : ns ≤ maxLen
  kf : nf ≤ maxLen
  km : nm ≤ maxLen
  rb : Row w pb o.bs
  rs : Row3 w ps (o.sy.map syV)
  rf : Row3 w pf (o.fx.map fxV)
  rm : Row3 w pm (o.mk_.map mkV)
  fit : ObF o
theorem ObIn.below {w w' : World} {o : Ob} {pb ps pf pm : Option Addr} {nb cb ns cs nf cf nm cm : Nat} (h : ObIn w o pb ps pf pm nb cb ns cs nf cf nm cm) (hb : Below w.heap.size w w') : ObIn w' o pb ps pf pm nb cb ns cs nf cf nm cm :=
  { h with rb := h.rb.below hb, rs := h.rs.below hb, rf := h.rf.below hb, rm := h.rm.below hb }

set_option maxRecDepth 20000 in
set_option maxHeartbeats 2000000 in
theorem oright_any (o : Ob) (pb ps pf pm : Option Addr) (nb cb ns cs nf cf nm cm : Nat) (w : World) (h : ObIn w o pb ps pf pm nb cb ns cs nf cf nm cm) :
    Calls Tryz.prog 14 #[.agg (obA pb ps pf pm nb cb ns cs nf cf nm cm)] w fun E w' => E = .returned (.bool (okO o)) ∧ Below w.heap.size w w' := by
  have H := Hid.in h
  have hcb : cb ≤ 9223372036854775807 := by have := h.mb; unfold maxLen at this; omega
  have hns : ns ≤ 9223372036854775807 := by have := h.ks; unfold maxLen at this; omega
  have hnf : nf ≤ 9223372036854775807 := by have := h.kf; unfold maxLen at this; omega
  have hnm : nm ≤ 9223372036854775807 := by have := h.km; unfold maxLen at this; omega
  have hkb := h.kb
  have HE : Hid (okO o = (decide (nb ≤ 65536 ∧ ns ≤ 4096 ∧ nf ≤ 4096 ∧ nm ≤ 4096) && rsL nb 0 [] o.sy && rfL o.bs 0 o.fx && rmL o.bs o.fx 0 o.mk_)) := by
    have : okO o = (decide (nb ≤ 65536 ∧ ns ≤ 4096 ∧ nf ≤ 4096 ∧ nm ≤ 4096) && rsL nb 0 [] o.sy && rfL o.bs 0 o.fx && rmL o.bs o.fx 0 o.mk_) := by
      unfold okO
      rw [h.lb, h.ls, h.lf, h.lm]
    exact this
  clear h
  obtain ⟨r, hr⟩ : ∃ r, okO o = r := ⟨_, rfl⟩
  rw [hr]
  have HR := Hid.in hr
  clear hr
  have HK0 : Hid (Blk (w.alloc (.cells (obA pb ps pf pm nb cb ns cs nf cf nm cm) 29)) w.heap.size 29 (obA pb ps pf pm nb cb ns cs nf cf nm cm)) := Blk.new w 29 _
  have HB0 : Hid (Below w.heap.size w (w.alloc (.cells (obA pb ps pf pm nb cb ns cs nf cf nm cm) 29))) := new_alloc w _
  by_cases hs : nb ≤ 65536 ∧ ns ≤ 4096 ∧ nf ≤ 4096 ∧ nm ≤ 4096
  · obtain ⟨h1, h2, h3, h4⟩ := hs
    have hS := fun W (k : ObIn W o pb ps pf pm nb cb ns cs nf cf nm cm) => rightSymbols_any pb ps pf pm nb cb ns cs nf cf nm cm o.sy W k.ls h2 h1 k.fit.sy k.rs
    have hF := fun W (k : ObIn W o pb ps pf pm nb cb ns cs nf cf nm cm) => rightFixes_any pb ps pf pm nb cb ns cs nf cf nm cm o.bs o.fx W k.lb hkb hcb k.lf h3 h1 k.fit.byt k.fit.fx k.rb k.rf
    have hM := fun W (k : ObIn W o pb ps pf pm nb cb ns cs nf cf nm cm) => rightMarks_any pb ps pf pm nb cb ns cs nf cf nm cm o.bs o.fx o.mk_ W k.lb hkb hcb k.lf h3 k.lm h4 h1 k.fit.byt k.fit.mk_ k.rb k.rf k.rm
    have hd : decide (nb ≤ 65536 ∧ ns ≤ 4096 ∧ nf ≤ 4096 ∧ nm ≤ 4096) = true := decide_eq_true ⟨h1, h2, h3, h4⟩
    rw [hd, Bool.true_and] at HE
    clear hd
    generalize rsL nb 0 [] o.sy = r1 at *
    generalize rfL o.bs 0 o.fx = r2 at *
    generalize rmL o.bs o.fx 0 o.mk_ = r3 at *
    go_enter Tryz.func14, Tryz.ntmps14
    go_upto_region 1 with fail
    generalize w.alloc (.cells (obA pb ps pf pm nb cb ns cs nf cf nm cm) 29) = w0 at *
    have o0 : w0.cell? ⟨w.heap.size, 0, none⟩ = some (.slice pb nb cb) := HK0.out.cell 0
    have o1 : w0.cell? ⟨w.heap.size, 1, none⟩ = some (.slice ps ns cs) := HK0.out.cell 1
    have o2 : w0.cell? ⟨w.heap.size, 2, none⟩ = some (.slice pf nf cf) := HK0.out.cell 2
    have o3 : w0.cell? ⟨w.heap.size, 3, none⟩ = some (.slice pm nm cm) := HK0.out.cell 3
    cases r1 with
    | false =>
      go_wp2_with (go_at_call 41; refine (hS _ (H.out.below HB0.out)).mono ?_; rintro E w1 ⟨rfl, hb1⟩; have HK1 := Hid.in (HK0.out.grow hb1); have HB1 := Hid.in (below_step HB0.out hb1); have o10 : w1.cell? ⟨w.heap.size, 0, none⟩ = some (.slice pb nb cb) := (HK0.out.grow hb1).cell 0; have o11 : w1.cell? ⟨w.heap.size, 1, none⟩ = some (.slice ps ns cs) := (HK0.out.grow hb1).cell 1; have o12 : w1.cell? ⟨w.heap.size, 2, none⟩ = some (.slice pf nf cf) := (HK0.out.grow hb1).cell 2; have o13 : w1.cell? ⟨w.heap.size, 3, none⟩ = some (.slice pm nm cm) := (HK0.out.grow hb1).cell 3; clear hb1)
      all_goals
        go_ret
        exact ⟨ret_bool (by rw [← HR.out, HE.out]; rfl), HB1.out⟩
    | true =>
      cases r2 with
      | false =>
        go_wp2_with (first
          | (go_at_call 41; refine (hS _ (H.out.below HB0.out)).mono ?_; rintro E w1 ⟨rfl, hb1⟩; have HK1 := Hid.in (HK0.out.grow hb1); have HB1 := Hid.in (below_step HB0.out hb1); have o10 : w1.cell? ⟨w.heap.size, 0, none⟩ = some (.slice pb nb cb) := (HK0.out.grow hb1).cell 0; have o11 : w1.cell? ⟨w.heap.size, 1, none⟩ = some (.slice ps ns cs) := (HK0.out.grow hb1).cell 1; have o12 : w1.cell? ⟨w.heap.size, 2, none⟩ = some (.slice pf nf cf) := (HK0.out.grow hb1).cell 2; have o13 : w1.cell? ⟨w.heap.size, 3, none⟩ = some (.slice pm nm cm) := (HK0.out.grow hb1).cell 3; clear hb1)
          | (go_at_call 42; refine (hF _ (H.out.below HB1.out)).mono ?_; rintro E w2 ⟨rfl, hb2⟩; have HK2 := Hid.in (HK1.out.grow hb2); have HB2 := Hid.in (below_step HB1.out hb2); have o20 : w2.cell? ⟨w.heap.size, 0, none⟩ = some (.slice pb nb cb) := (HK1.out.grow hb2).cell 0; have o21 : w2.cell? ⟨w.heap.size, 1, none⟩ = some (.slice ps ns cs) := (HK1.out.grow hb2).cell 1; have o22 : w2.cell? ⟨w.heap.size, 2, none⟩ = some (.slice pf nf cf) := (HK1.out.grow hb2).cell 2; have o23 : w2.cell? ⟨w.heap.size, 3, none⟩ = some (.slice pm nm cm) := (HK1.out.grow hb2).cell 3; clear hb2))
        all_goals
          go_ret
          exact ⟨ret_bool (by rw [← HR.out, HE.out]; rfl), HB2.out⟩
      | true =>
        go_wp2_with (first
          | (go_at_call 41; refine (hS _ (H.out.below HB0.out)).mono ?_; rintro E w1 ⟨rfl, hb1⟩; have HK1 := Hid.in (HK0.out.grow hb1); have HB1 := Hid.in (below_step HB0.out hb1); have o10 : w1.cell? ⟨w.heap.size, 0, none⟩ = some (.slice pb nb cb) := (HK0.out.grow hb1).cell 0; have o11 : w1.cell? ⟨w.heap.size, 1, none⟩ = some (.slice ps ns cs) := (HK0.out.grow hb1).cell 1; have o12 : w1.cell? ⟨w.heap.size, 2, none⟩ = some (.slice pf nf cf) := (HK0.out.grow hb1).cell 2; have o13 : w1.cell? ⟨w.heap.size, 3, none⟩ = some (.slice pm nm cm) := (HK0.out.grow hb1).cell 3; clear hb1)
          | (go_at_call 42; refine (hF _ (H.out.below HB1.out)).mono ?_; rintro E w2 ⟨rfl, hb2⟩; have HK2 := Hid.in (HK1.out.grow hb2); have HB2 := Hid.in (below_step HB1.out hb2); have o20 : w2.cell? ⟨w.heap.size, 0, none⟩ = some (.slice pb nb cb) := (HK1.out.grow hb2).cell 0; have o21 : w2.cell? ⟨w.heap.size, 1, none⟩ = some (.slice ps ns cs) := (HK1.out.grow hb2).cell 1; have o22 : w2.cell? ⟨w.heap.size, 2, none⟩ = some (.slice pf nf cf) := (HK1.out.grow hb2).cell 2; have o23 : w2.cell? ⟨w.heap.size, 3, none⟩ = some (.slice pm nm cm) := (HK1.out.grow hb2).cell 3; clear hb2)
          | (go_at_call 43; refine (hM _ (H.out.below HB2.out) (by trivial)).mono ?_; rintro E w3 ⟨rfl, hb3⟩; have HB3 := Hid.in (below_step HB2.out hb3); clear hb3))
        all_goals
          go_ret
          exact ⟨ret_bool (by rw [← HR.out, HE.out]; rfl), HB3.out⟩
  · have hd : decide (nb ≤ 65536 ∧ ns ≤ 4096 ∧ nf ≤ 4096 ∧ nm ≤ 4096) = false := decide_eq_false hs
    rw [hd, Bool.false_and, Bool.false_and, Bool.false_and] at HE
    clear hd
    go_enter Tryz.func14, Tryz.ntmps14
    go_upto_region 1 with fail
    generalize w.alloc (.cells (obA pb ps pf pm nb cb ns cs nf cf nm cm) 29) = w0 at *
    have o0 : w0.cell? ⟨w.heap.size, 0, none⟩ = some (.slice pb nb cb) := HK0.out.cell 0
    have o1 : w0.cell? ⟨w.heap.size, 1, none⟩ = some (.slice ps ns cs) := HK0.out.cell 1
    have o2 : w0.cell? ⟨w.heap.size, 2, none⟩ = some (.slice pf nf cf) := HK0.out.cell 2
    have o3 : w0.cell? ⟨w.heap.size, 3, none⟩ = some (.slice pm nm cm) := HK0.out.cell 3
    go_wp2_with fail
    all_goals (try (exfalso; simp_all; omega))
    all_goals
      go_ret
      exact ⟨ret_bool (by rw [← HR.out, HE.out]), HB0.out⟩

end Go.Proofs.YtkianldkbfjehaaGreatDoor

/- Objects that a call has made; object.Make in all cases. -/
namespace Go.Proofs.YtkianldkbfjehaaGreatDoor
open Go.RowKit

/-- an object that a call has made: its lists in blocks of its own -/
structure ObOwn (w : World) (B : Nat) (o : Ob) (vb vs vf vm : Value) : Prop where
  b : OwnV w B vb o.bs
  s : TOwn 36 w B vs (o.sy.map syV)
  f : TOwn 39 w B vf (o.fx.map fxV)
  m : TOwn 41 w B vm (o.mk_.map mkV)
theorem ObOwn.below {w w' : World} {B : Nat} {o : Ob} {vb vs vf vm : Value} (h : ObOwn w B o vb vs vf vm) (hb : Below w.heap.size w w') : ObOwn w' B o vb vs vf vm := ⟨h.b.below hb, h.s.below hb, h.f.below hb, h.m.below hb⟩
theorem OwnV.low {w : World} {B B' : Nat} {v : Value} {xs : List Int} (h : OwnV w B v xs) (hB : B' ≤ B) : OwnV w B' v xs := by
  rcases h.shape with ⟨rfl, rfl⟩ | ⟨g, cap, rfl, ho⟩
  · exact OwnV.nil _ _
  · exact ho.lower hB
theorem ObOwn.lower {w : World} {B B' : Nat} {o : Ob} {vb vs vf vm : Value} (h : ObOwn w B o vb vs vf vm) (hB : B' ≤ B) : ObOwn w B' o vb vs vf vm := ⟨h.b.low hB, h.s.lower hB, h.f.lower hB, h.m.lower hB⟩
theorem OwnV.slice2 {w : World} {B : Nat} {v : Value} {xs : List Int} (h : OwnV w B v xs) : ∃ p cap, v = .slice p xs.length cap ∧ Row w p xs ∧ xs.length ≤ cap ∧ cap ≤ maxLen := by
  rcases h.shape with ⟨rfl, rfl⟩ | ⟨g, cap, rfl, ho⟩
  · exact ⟨none, 0, rfl, fun h => absurd h (Nat.lt_irrefl 0), Nat.le_refl _, Nat.zero_le _⟩
  · obtain ⟨cur, _, _, h3, h4, _⟩ := ho.parts
    exact ⟨_, cap, rfl, ho.row, h3, h4⟩
/-- .. seen as one in memory -/
theorem ObOwn.inn {w : World} {B : Nat} {o : Ob} {vb vs vf vm : Value} (h : ObOwn w B o vb vs vf vm) (hf : ObF o) :
    ∃ pb ps pf pm cb cs cf cm, (vb = .slice pb o.bs.length cb ∧ vs = .slice ps o.sy.length cs ∧ vf = .slice pf o.fx.length cf ∧ vm = .slice pm o.mk_.length cm) ∧ ObIn w o pb ps pf pm o.bs.length cb o.sy.length cs o.fx.length cf o.mk_.length cm := by
  obtain ⟨pb, cb, e1, r1, k1, m1⟩ := h.b.slice2
  obtain ⟨ps, cs, e2, k2, m2, r2⟩ := h.s.row3
  obtain ⟨pf, cf, e3, k3, m3, r3⟩ := h.f.row3
  obtain ⟨pm, cm, e4, k4, m4, r4⟩ := h.m.row3
  rw [List.length_map] at e2 k2 e3 k3 e4 k4
  exact ⟨pb, ps, pf, pm, cb, cs, cf, cm, ⟨e1, e2, e3, e4⟩, ⟨rfl, rfl, rfl, rfl, k1, m1, Nat.le_trans k2 m2, Nat.le_trans k3 m3, Nat.le_trans k4 m4, r1, r2, r3, r4, hf⟩⟩

theorem name_size {s : ByteArray} (h : NameP s) : s.size ≤ maxLen := Nat.le_trans h.2.2 (by unfold maxLen; decide)
theorem sy_fit : ∀ (xs : List Src) (a : Nat) (gs : List ByteArray), (∀ x ∈ xs, mayB x = true) → (placesL a xs).2 ≤ 65536 → ∀ s ∈ sysL gs xs (placesL a xs).1, SyF s
  | [], _, _, _, _, s, hs => by simp [sysL, labP] at hs
  | x :: xs, a, gs, hm, he, s, hs => by
    have hgr := places_grow xs (a + sizeL x a)
    have he' : (placesL (a + sizeL x a) xs).2 ≤ 65536 := he
    rw [places_cons] at hs
    unfold sysL labP at hs
    have ih := sy_fit xs (a + sizeL x a) gs (fun y hy => hm y (by simp [hy])) he'
    by_cases hk : x.k = 1
    · rw [if_pos hk, List.map_cons] at hs
      rcases List.mem_cons.1 hs with rfl | hs
      · exact ⟨name_size ((may_names (hm x (by simp))).lab hk), by show -9223372036854775808 ≤ (a : Int) ∧ (a : Int) ≤ 9223372036854775807; omega⟩
      · exact ih s hs
    · rw [if_neg hk] at hs
      exact ih s hs
theorem fx_fit : ∀ (xs : List Src) (a : Nat), (∀ x ∈ xs, mayB x = true) → (placesL a xs).2 ≤ 65536 → ∀ s ∈ fxsL xs (placesL a xs).1, FxF s
  | [], _, _, _, s, hs => by simp [fxsL] at hs
  | x :: xs, a, hm, he, s, hs => by
    have hgr := places_grow xs (a + sizeL x a)
    have he' : (placesL (a + sizeL x a) xs).2 ≤ 65536 := he
    rw [places_cons] at hs
    unfold fxsL at hs
    have ih := fx_fit xs (a + sizeL x a) (fun y hy => hm y (by simp [hy])) he'
    cases hk : askK x.o with
    | none => rw [hk] at hs; exact ih s hs
    | some kd =>
      rw [hk] at hs
      rcases List.mem_cons.1 hs with rfl | hs
      · obtain ⟨-, h2, -, h4, -⟩ := ask_op (hm x (by simp)) hk
        refine ⟨name_size h2, ?_, ?_⟩
        · show -9223372036854775808 ≤ ((a + sizeL x a : Nat) : Int) - 4 ∧ ((a + sizeL x a : Nat) : Int) - 4 ≤ 9223372036854775807
          omega
        · show 0 ≤ kd ∧ kd ≤ 255
          omega
      · exact ih s hs
theorem mk_fit : ∀ (xs : List Src) (a : Nat), (∀ x ∈ xs, mayB x = true) → (placesL a xs).2 ≤ 65536 → ∀ s ∈ mksL xs (placesL a xs).1, MkF s
  | [], _, _, _, s, hs => by simp [mksL] at hs
  | x :: xs, a, hm, he, s, hs => by
    have hgr := places_grow xs (a + sizeL x a)
    have he' : (placesL (a + sizeL x a) xs).2 ≤ 65536 := he
    rw [places_cons] at hs
    unfold mksL at hs
    have ih := mk_fit xs (a + sizeL x a) (fun y hy => hm y (by simp [hy])) he'
    by_cases hk : x.k = 3
    · rw [if_pos hk] at hs
      rcases List.mem_cons.1 hs with rfl | hs
      · have h2 := (may_names (hm x (by simp))).mrk hk
        exact ⟨name_size h2.1, name_size h2.2, by show -9223372036854775808 ≤ (a : Int) ∧ (a : Int) ≤ 9223372036854775807; omega⟩
      · exact ih s hs
    · rw [if_neg hk] at hs
      exact ih s hs
/-- what Make tells: the error, the place, the object -/
def makeE (xs : List Src) : Int × Nat :=
  if (checkL xs).1 ≠ 0 then checkL xs else if layE xs ≠ 0 then (layE xs, 0) else match dupAt 0 [] xs with
    | some i => (170, i)
    | none => match undAt 0 (labN xs) xs with
      | some i => (171, i)
      | none => (0, 0)
def noOb : Ob := ⟨[], [], [], []⟩
def makeO (xs : List Src) : Ob := if (makeE xs).1 = 0 then madeO xs else noOb
theorem noOb_fit : ObF noOb := ⟨fun i => by simp [noOb], (fun _ h => by cases h), (fun _ h => by cases h), (fun _ h => by cases h)⟩
theorem noOb_own (w : World) (B : Nat) : ObOwn w B noOb (.slice none 0 0) (.slice none 0 0) (.slice none 0 0) (.slice none 0 0) := ⟨OwnV.nil _ _, TOwn.nil _ _ _, TOwn.nil _ _ _, TOwn.nil _ _ _⟩
theorem makeE_ok {xs : List Src} (h : (makeE xs).1 = 0) : layE xs = 0 ∧ dupAt 0 [] xs = none ∧ undAt 0 (labN xs) xs = none ∧ makeE xs = (0, 0) := by
  unfold makeE at h ⊢
  split at h
  · rename_i h1; exact absurd h h1
  · rename_i h1
    rw [if_neg h1]
    split at h
    · rename_i h2; exact absurd h h2
    · rename_i h2
      rw [if_neg h2]
      split at h
      · cases h
      · rename_i h3
        split at h
        · cases h
        · rename_i h4
          exact ⟨by omega, h3, h4, rfl⟩
def MakeIs (xs : List Src) (w : World) (E : Ending) (w' : World) : Prop :=
  (∃ vb vs vf vm, E = .returned (.tuple #[.agg #[vb, vs, vf, vm], .int .i64 (makeE xs).1, .int .i64 (makeE xs).2]) ∧ ObOwn w' w.heap.size (makeO xs) vb vs vf vm) ∧ Below w.heap.size w w'
theorem make_any (p : Option Addr) (n c : Nat) (xs : List Src) (w : World) (he : Env w) (hn : xs.length = n) (hnc : n ≤ c) (hc63 : c ≤ 9223372036854775807) (hx : Items w p xs) :
    Calls Tryz.prog 8 #[.slice p n c] w (MakeIs xs w) := by
  have hno : ∀ (e : Int) (i : Nat), makeE xs = (e, i) → e ≠ 0 → (Calls Tryz.prog 8 #[.slice p n c] w fun E w' => E = .returned (.tuple #[.agg noObj, .int .i64 e, .int .i64 (i : Nat)]) ∧ Below w.heap.size w w') → Calls Tryz.prog 8 #[.slice p n c] w (MakeIs xs w) := fun e i hE h0 hC => by
    refine hC.mono ?_
    rintro E w' ⟨rfl, hb⟩
    refine ⟨⟨_, _, _, _, by rw [hE], ?_⟩, hb⟩
    unfold makeO
    rw [hE, if_neg h0]
    exact noOb_own _ _
  by_cases hck : (checkL xs).1 ≠ 0
  · refine hno _ _ (by unfold makeE; rw [if_pos hck]) hck (make_bad p n c xs w he hn hnc hc63 hx hck)
  · by_cases hl : layE xs ≠ 0
    · exact hno _ 0 (by unfold makeE; rw [if_neg hck, if_pos hl]) hl (make_long p n c xs w he hn hnc hc63 hx (by omega) hl)
    · have hl0 : layE xs = 0 := by omega
      cases hd : dupAt 0 [] xs with
      | some i => exact hno 170 i (by unfold makeE; rw [if_neg hck, if_neg hl, hd]) (by decide) (make_sym p n c xs w he hn hnc hc63 hx hl0 170 i (by decide) (.inl ⟨hd, rfl⟩))
      | none =>
        cases hu : undAt 0 (labN xs) xs with
        | some i => exact hno 171 i (by unfold makeE; rw [if_neg hck, if_neg hl, hd]; simp only [hu]) (by decide) (make_sym p n c xs w he hn hnc hc63 hx hl0 171 i (by decide) (.inr ⟨hd, hu, rfl⟩))
        | none =>
          have hE : makeE xs = (0, 0) := by unfold makeE; rw [if_neg hck, if_neg hl, hd]; simp only [hu]
          refine (make_ok p n c xs w he hn hnc hc63 hx hl0 hd hu).mono ?_
          rintro E w' ⟨g, vs, vf, vm, rfl, h1, h2, h3, h4, h5⟩
          have hlen : (bytesL 0 xs).length = (placesL 0 xs).2 := by have := bytes_length xs 0; omega
          refine ⟨⟨_, _, _, _, by rw [hE]; rfl, ?_⟩, h5⟩
          unfold makeO
          rw [hE, if_pos rfl]
          refine ⟨?_, ?_, ?_, ?_⟩
          · have := h1.val
            rw [hlen] at this
            exact this
          · rw [syms_eq] at h2; exact h2
          · rw [fixes_eq] at h3; exact h3
          · rw [marks_eq] at h4; exact h4

end Go.Proofs.YtkianldkbfjehaaGreatDoor

/- The bytes of items that may be are bytes; what is made fits Go's types. -/
namespace Go.Proofs.YtkianldkbfjehaaGreatDoor
open Go.RowKit

theorem byt_of_mem {xs : List Int} (h : ∀ x ∈ xs, 0 ≤ x ∧ x ≤ 255) : Byt xs := fun i => by
  rw [List.getD_eq_getElem?_getD]
  by_cases hi : i < xs.length
  · rw [List.getElem?_eq_getElem hi]; exact h _ (List.getElem_mem hi)
  · rw [List.getElem?_eq_none (by omega)]; decide
theorem cdL_byt : ∀ o, o < 17 → ∀ x ∈ cdL o, 0 ≤ x ∧ x ≤ 255 := by decide
theorem enc_byt {o : Nat} {a b n : Int} (ho : o < 17) (ha : 0 ≤ a ∧ a ≤ 255) (hb : 0 ≤ b ∧ b ≤ 255) : ∀ x ∈ encL o a b n, 0 ≤ x ∧ x ≤ 255 := by
  intro x hx
  unfold encL encG at hx
  rcases List.mem_append.1 hx with hx | hx
  · rcases List.mem_append.1 hx with hx | hx
    · rcases List.mem_append.1 hx with hx | hx
      · exact cdL_byt o ho x hx
      · split at hx
        · rw [List.mem_singleton] at hx; rw [hx]; exact ha
        · cases hx
    · split at hx
      · rw [List.mem_singleton] at hx; rw [hx]; exact hb
      · cases hx
  · split at hx
    · cases hx
    · simp only [le4, List.mem_cons, List.not_mem_nil, or_false] at hx
      omega
theorem items_fit {w : World} {p : Option Addr} {xs : List Src} (h : Items w p xs) : ∀ x ∈ xs, Fit x := fun x hx => by
  obtain ⟨i, hi, rfl⟩ := List.getElem_of_mem hx
  obtain ⟨b, o, -, hc⟩ := h (by omega)
  obtain ⟨q, e, -, -, hf⟩ := hc i hi
  exact hf
theorem piece_byt {x : Src} (hf : Fit x) (h : GoodP x) (a : Nat) : ∀ c ∈ pieceL x a, 0 ≤ c ∧ c ≤ 255 := by
  intro c hc
  unfold pieceL at hc
  split at hc
  · have := List.eq_of_mem_replicate hc; omega
  · unfold saidL at hc
    split at hc
    · rename_i hk
      rcases h with h | ⟨_, hr⟩ | h | ⟨h, -⟩ | ⟨h, -⟩ | ⟨h, -⟩ | h
      · omega
      · unfold rightB at hr
        simp only [Bool.and_eq_true, decide_eq_true_eq] at hr
        exact enc_byt hr.1.2 ⟨hf.a0, hf.a1⟩ ⟨hf.b0, hf.b1⟩ c hc
      · omega
      · omega
      · omega
      · omega
      · omega
    · split at hc
      · rename_i hk
        rcases h with h | ⟨h, _⟩ | h | ⟨_, _, _, hd⟩ | ⟨h, -⟩ | ⟨h, -⟩ | h
        · omega
        · omega
        · omega
        · exact hd c hc
        · omega
        · omega
        · omega
      · cases hc
theorem bytes_byt : ∀ (xs : List Src) (a : Nat), (∀ x ∈ xs, Fit x) → (∀ x ∈ xs, mayB x = true) → ∀ c ∈ bytesL a xs, 0 ≤ c ∧ c ≤ 255
  | [], _, _, _, c, hc => by cases hc
  | x :: xs, a, hf, hm, c, hc => by
    unfold bytesL at hc
    rcases List.mem_append.1 hc with h | h
    · exact piece_byt (hf x (by simp)) (may_good (hm x (by simp))) a c h
    · exact bytes_byt xs _ (fun y hy => hf y (by simp [hy])) (fun y hy => hm y (by simp [hy])) c h
theorem made_fit {xs : List Src} (hf : ∀ x ∈ xs, Fit x) (hl : layE xs = 0) : ObF (madeO xs) := by
  obtain ⟨hck, hend⟩ := layE_ok hl
  obtain ⟨hl4, hmay⟩ := check_good hck
  exact ⟨byt_of_mem (bytes_byt xs 0 hf hmay), sy_fit xs 0 _ hmay hend, fx_fit xs 0 hmay hend, mk_fit xs 0 hmay hend⟩
theorem make_fit {xs : List Src} (hf : ∀ x ∈ xs, Fit x) : ObF (makeO xs) := by
  unfold makeO
  split
  · rename_i h; exact made_fit hf (makeE_ok h).1
  · exact noOb_fit
/-- what is made is right (and so is the empty one) -/
theorem make_right {xs : List Src} (h : (makeE xs).1 = 0) : okO (makeO xs) = true := by
  unfold makeO
  rw [if_pos h]
  obtain ⟨h1, h2, -⟩ := makeE_ok h
  exact made_right h1 h2

end Go.Proofs.YtkianldkbfjehaaGreatDoor
