/- Texts put together: JoinL, JoinH. -/
import Derived.Test.YtkianldkbfjehaaGreatDoorKzze
import Derived.Test.YtkianldkbfjehaaGreatDoorKzzb
import Derived.Test.YtkianldkbfjehaaGreatDoorKzg
import Derived.Test.YtkianldkbfjehaaGreatDoorKzl
import Derived.Test.YtkianldkbfjehaaGreatDoorKzz

/- Two lists of items put together, the first one's length a multiple of 64: what is made of them, as lists. -/
namespace Go.Proofs.YtkianldkbfjehaaGreatDoor
open Go.RowKit

theorem size_on {x : Src} (h : GoodP x) (a n : Nat) (hn : n % 64 = 0) : sizeL x (n + a) = sizeL x a := by
  unfold sizeL
  by_cases h5 : x.k = 5
  · rw [if_pos h5, if_pos h5]
  · by_cases h6 : x.k = 6
    · rw [if_neg h5, if_neg h5, if_pos h6, if_pos h6]
      have e : (n + a) % x.n.toNat = a % x.n.toNat := by
        rcases h with h | ⟨h, -⟩ | h | ⟨h, -⟩ | ⟨h, -⟩ | ⟨-, h⟩ | h
        · omega
        · omega
        · omega
        · omega
        · omega
        · rcases h with h | h | h | h | h | h | h
          · rw [h]; show (n + a) % 1 = a % 1; omega
          · rw [h]; show (n + a) % 2 = a % 2; omega
          · rw [h]; show (n + a) % 4 = a % 4; omega
          · rw [h]; show (n + a) % 8 = a % 8; omega
          · rw [h]; show (n + a) % 16 = a % 16; omega
          · rw [h]; show (n + a) % 32 = a % 32; omega
          · rw [h]; show (n + a) % 64 = a % 64; omega
        · omega
      rw [e]
    · rw [if_neg h5, if_neg h6, if_neg h5, if_neg h6]
theorem piece_on {x : Src} (h : GoodP x) (a n : Nat) (hn : n % 64 = 0) : pieceL x (n + a) = pieceL x a := by
  unfold pieceL
  rw [size_on h a n hn]
theorem places_on (n : Nat) (hn : n % 64 = 0) : ∀ (ys : List Src) (a : Nat), (∀ x ∈ ys, GoodP x) → placesL (n + a) ys = ((placesL a ys).1.map (n + ·), n + (placesL a ys).2)
  | [], a, _ => rfl
  | x :: ys, a, h => by
    have hs := size_on (h x (by simp)) a n hn
    have ih := places_on n hn ys (a + sizeL x a) (fun y hy => h y (by simp [hy]))
    rw [← Nat.add_assoc] at ih
    unfold placesL
    rw [hs, ih]
    rfl
theorem bytes_on (n : Nat) (hn : n % 64 = 0) : ∀ (ys : List Src) (a : Nat), (∀ x ∈ ys, GoodP x) → bytesL (n + a) ys = bytesL a ys
  | [], a, _ => rfl
  | x :: ys, a, h => by
    have hs := size_on (h x (by simp)) a n hn
    have hp := piece_on (h x (by simp)) a n hn
    have ih := bytes_on n hn ys (a + sizeL x a) (fun y hy => h y (by simp [hy]))
    rw [← Nat.add_assoc] at ih
    unfold bytesL
    rw [hs, hp, ih]
theorem labP_app : ∀ (xs : List Src) (ps : List Nat) (ys : List Src) (qs : List Nat), ps.length = xs.length → labP (xs ++ ys) (ps ++ qs) = labP xs ps ++ labP ys qs
  | [], ps, ys, qs, h => by
    have : ps = [] := List.eq_nil_of_length_eq_zero h
    subst this; rfl
  | x :: xs, [], ys, qs, h => by simp at h
  | x :: xs, a :: ps, ys, qs, h => by
    have ih := labP_app xs ps ys qs (by simpa using h)
    simp only [List.cons_append, labP, ih]
    split <;> rfl
theorem fxs_app : ∀ (xs : List Src) (ps : List Nat) (ys : List Src) (qs : List Nat), ps.length = xs.length → fxsL (xs ++ ys) (ps ++ qs) = fxsL xs ps ++ fxsL ys qs
  | [], ps, ys, qs, h => by
    have : ps = [] := List.eq_nil_of_length_eq_zero h
    subst this; rfl
  | x :: xs, [], ys, qs, h => by simp at h
  | x :: xs, a :: ps, ys, qs, h => by
    have ih := fxs_app xs ps ys qs (by simpa using h)
    simp only [List.cons_append, fxsL, ih]
    cases askK x.o <;> rfl
theorem mks_app : ∀ (xs : List Src) (ps : List Nat) (ys : List Src) (qs : List Nat), ps.length = xs.length → mksL (xs ++ ys) (ps ++ qs) = mksL xs ps ++ mksL ys qs
  | [], ps, ys, qs, h => by
    have : ps = [] := List.eq_nil_of_length_eq_zero h
    subst this; rfl
  | x :: xs, [], ys, qs, h => by simp at h
  | x :: xs, a :: ps, ys, qs, h => by
    have ih := mks_app xs ps ys qs (by simpa using h)
    simp only [List.cons_append, mksL, ih]
    split <;> rfl
def onS (n : Nat) (s : Sy) : Sy := ⟨s.name, s.at_ + n, s.g⟩
def onF (n : Nat) (f : Fx) : Fx := ⟨f.k, f.at_ + n, f.name⟩
def onM (n : Nat) (m : Mk) : Mk := ⟨m.at_ + n, m.key, m.to_⟩
theorem labP_on (n : Nat) : ∀ (ys : List Src) (qs : List Nat), labP ys (qs.map (n + ·)) = (labP ys qs).map fun q => (q.1, n + q.2)
  | [], _ => by simp [labP]
  | _ :: _, [] => by simp [labP]
  | x :: ys, a :: qs => by
    have ih := labP_on n ys qs
    simp only [List.map_cons, labP, ih]
    split <;> rfl
theorem fxs_on (n : Nat) (hn : n % 64 = 0) : ∀ (ys : List Src) (a : Nat), (∀ x ∈ ys, GoodP x) → fxsL ys ((placesL a ys).1.map (n + ·)) = (fxsL ys (placesL a ys).1).map (onF n)
  | [], _, _ => by simp [fxsL]
  | x :: ys, a, h => by
    have ih := fxs_on n hn ys (a + sizeL x a) (fun y hy => h y (by simp [hy]))
    have hs := size_on (h x (by simp)) a n hn
    rw [places_cons, List.map_cons]
    simp only [fxsL, ih]
    cases askK x.o with
    | none => rfl
    | some kd =>
      simp only [List.map_cons, onF, hs]
      congr 2
      omega
theorem mks_on (n : Nat) : ∀ (ys : List Src) (qs : List Nat), mksL ys (qs.map (n + ·)) = (mksL ys qs).map (onM n)
  | [], _ => by simp [mksL]
  | _ :: _, [] => by simp [mksL]
  | x :: ys, a :: qs => by
    have ih := mks_on n ys qs
    simp only [List.map_cons, mksL, ih]
    split
    · simp only [List.map_cons, onM]
      congr 2
      omega
    · rfl
theorem inB_app (s : ByteArray) (a b : List ByteArray) : inB s (a ++ b) = (inB s a || inB s b) := by
  unfold inB; rw [List.any_append]
theorem labP_mem : ∀ (xs : List Src) (ps : List Nat) (q : ByteArray × Nat), q ∈ labP xs ps → q.1 ∈ labN xs
  | [], _, q, h => by simp [labP] at h
  | _ :: _, [], q, h => by simp [labP] at h
  | x :: xs, a :: ps, q, h => by
    have ih := labP_mem xs ps q
    unfold labP at h
    unfold labN
    by_cases hk : x.k = 1
    · rw [if_pos hk] at h ⊢
      rcases List.mem_cons.1 h with rfl | h
      · simp
      · exact List.mem_cons_of_mem _ (ih h)
    · rw [if_neg hk] at h ⊢
      exact ih h
theorem und_glo : ∀ (xs : List Src) (i : Nat) (ns : List ByteArray), undAt i ns xs = none → ∀ s ∈ gloN xs, s ∈ ns
  | [], _, _, _, s, h => by simp [gloN] at h
  | x :: xs, i, ns, hu, s, h => by
    unfold undAt at hu
    split at hu
    · cases hu
    · rename_i hn
      have ih := und_glo xs (i + 1) ns hu s
      unfold gloN at h
      by_cases hk : x.k = 7
      · rw [if_pos hk] at h
        rcases List.mem_cons.1 h with rfl | h
        · refine (inB_iff _ _).1 ?_
          cases hb : inB x.name ns with
          | true => rfl
          | false => exact absurd ⟨hk, hb⟩ hn
        · exact ih h
      · rw [if_neg hk] at h
        exact ih h
theorem und_of : ∀ (xs : List Src) (i : Nat) (ns : List ByteArray), (∀ s ∈ gloN xs, s ∈ ns) → undAt i ns xs = none
  | [], _, _, _ => rfl
  | x :: xs, i, ns, h => by
    unfold undAt
    rw [if_neg]
    · refine und_of xs (i + 1) ns (fun s hs => h s ?_)
      unfold gloN
      split
      · exact List.mem_cons_of_mem _ hs
      · exact hs
    · rintro ⟨hk, hb⟩
      have := h x.name (by unfold gloN; rw [if_pos hk]; simp)
      rw [← inB_iff, hb] at this
      cases this
theorem dup_of : ∀ (xs : List Src) (i : Nat) (seen : List ByteArray), (seen ++ labN xs).Nodup → dupAt i seen xs = none
  | [], _, _, _ => rfl
  | x :: xs, i, seen, h => by
    unfold dupAt
    unfold labN at h
    by_cases hk : x.k = 1
    · rw [if_pos hk] at h ⊢
      have hn : inB x.name seen = false := by
        cases hb : inB x.name seen with
        | false => rfl
        | true =>
          have hm := (inB_iff _ _).1 hb
          have := (List.nodup_append.1 h).2.2 _ hm x.name (by simp)
          exact absurd rfl this
      rw [hn, if_neg (by decide)]
      refine dup_of xs (i + 1) (seen ++ [x.name]) ?_
      rw [List.append_assoc]
      exact h
    · rw [if_neg hk] at h ⊢
      exact dup_of xs (i + 1) seen h
theorem takes_app (xs ys : List Src) (h : takesB xs = true) : takesB (xs ++ ys) = true := by
  cases xs with
  | nil => cases h
  | cons x xs => exact h
theorem chk_app : ∀ (xs ys : List Src) (i j : Nat), (chkAt i xs).1 = 0 → (chkAt j ys).1 = 0 → (chkAt i (xs ++ ys)).1 = 0
  | [], ys, i, j, _, h => by
    have h1 := chk_drop ys j 0 h
    clear h
    show (chkAt i ys).1 = 0
    have : ∀ (ys : List Src) (i j : Nat), (chkAt j ys).1 = 0 → (chkAt i ys).1 = 0 := by
      intro ys
      induction ys with
      | nil => intro i j _; rfl
      | cons y ys ih =>
        intro i j h
        unfold chkAt at h ⊢
        split at h
        · simp at h
        · rename_i c1
          rw [if_neg c1]
          split at h
          · simp at h
          · rename_i c2
            rw [if_neg c2]
            exact ih _ _ h
    exact this ys i _ (by simpa using h1)
  | x :: xs, ys, i, j, h, h' => by
    rw [List.cons_append]
    unfold chkAt at h ⊢
    split at h
    · simp at h
    · rename_i c1
      rw [if_neg c1]
      split at h
      · simp at h
      · rename_i c2
        rw [if_neg]
        · exact chk_app xs ys (i + 1) j h h'
        · rintro ⟨e1, e2⟩
          cases hb : takesB xs with
          | true => rw [takes_app xs ys hb] at e2; cases e2
          | false => exact c2 ⟨e1, hb⟩
/-- both, one behind the other -/
def joinO (a b : Ob) : Ob := ⟨a.bs ++ b.bs, a.sy ++ b.sy.map (onS a.bs.length), a.fx ++ b.fx.map (onF a.bs.length), a.mk_ ++ b.mk_.map (onM a.bs.length)⟩
theorem sys_names (xs : List Src) (h : (placesL 0 xs).1.length = xs.length) : (madeO xs).sy.map Sy.name = labN xs := by
  show ((labP xs (placesL 0 xs).1).map (sySy (gloN xs))).map Sy.name = _
  rw [List.map_map, ← labP_fst xs (placesL 0 xs).1 h.symm]
  rfl
theorem join_made {xs ys : List Src} (h1 : (makeE xs).1 = 0) (h2 : (makeE ys).1 = 0) (hn : (placesL 0 xs).2 % 64 = 0) (hl : xs.length + ys.length ≤ 4096) (hb : (placesL 0 xs).2 + (placesL 0 ys).2 ≤ 65536)
    (ha : ∀ s ∈ labN xs, s ∉ labN ys) : makeE (xs ++ ys) = (0, 0) ∧ madeO (xs ++ ys) = joinO (madeO xs) (madeO ys) := by
  obtain ⟨a1, a2, a3, -⟩ := makeE_ok h1
  obtain ⟨b1, b2, b3, -⟩ := makeE_ok h2
  obtain ⟨a4, -⟩ := layE_ok a1
  obtain ⟨b4, -⟩ := layE_ok b1
  have gy : ∀ x ∈ ys, GoodP x := fun x hx => may_good ((check_good b4).2 x hx)
  have hpl : (placesL 0 xs).1.length = xs.length := places_length xs 0
  have hpy : (placesL 0 ys).1.length = ys.length := places_length ys 0
  have hend : (bytesL 0 xs).length = (placesL 0 xs).2 := by have := bytes_length xs 0; omega
  have hP := places_on (placesL 0 xs).2 hn ys 0 gy
  have hB := bytes_on (placesL 0 xs).2 hn ys 0 gy
  rw [Nat.add_zero] at hP hB
  have hPA : placesL 0 (xs ++ ys) = ((placesL 0 xs).1 ++ (placesL 0 ys).1.map ((placesL 0 xs).2 + ·), (placesL 0 xs).2 + (placesL 0 ys).2) := by rw [places_append, hP]
  have hck : (checkL (xs ++ ys)).1 = 0 := by
    unfold checkL
    rw [if_neg (by rw [List.length_append]; omega)]
    exact chk_app xs ys 0 0 (chk_of a4) (chk_of b4)
  have hla : layE (xs ++ ys) = 0 := by
    unfold layE
    rw [if_neg (by omega), if_neg (by rw [hPA]; show ¬ 65536 < (placesL 0 xs).2 + (placesL 0 ys).2; omega)]
  have n1 := dup_none xs 0 [] a2 (by simp)
  have n2 := dup_none ys 0 [] b2 (by simp)
  rw [List.nil_append] at n1 n2
  have hd : dupAt 0 [] (xs ++ ys) = none := by
    refine dup_of _ 0 [] ?_
    rw [List.nil_append, labN_app, List.nodup_append]
    exact ⟨n1, n2, fun s hs t ht e => ha s hs (e ▸ ht)⟩
  have g1 := und_glo xs 0 _ a3
  have g2 := und_glo ys 0 _ b3
  have hu : undAt 0 (labN (xs ++ ys)) (xs ++ ys) = none := by
    refine und_of _ 0 _ fun s hs => ?_
    rw [gloN_app] at hs
    rw [labN_app]
    rcases List.mem_append.1 hs with hs | hs
    · exact List.mem_append_left _ (g1 s hs)
    · exact List.mem_append_right _ (g2 s hs)
  refine ⟨?_, ?_⟩
  · unfold makeE
    rw [if_neg (by omega), if_neg (by omega), hd, hu]
  · have e1 : bytesL 0 (xs ++ ys) = bytesL 0 xs ++ bytesL 0 ys := by rw [bytes_append, hB]
    have e3 : fxsL (xs ++ ys) (placesL 0 (xs ++ ys)).1 = fxsL xs (placesL 0 xs).1 ++ (fxsL ys (placesL 0 ys).1).map (onF (placesL 0 xs).2) := by
      rw [hPA, fxs_app _ _ _ _ hpl, fxs_on _ hn ys 0 gy]
    have e4 : mksL (xs ++ ys) (placesL 0 (xs ++ ys)).1 = mksL xs (placesL 0 xs).1 ++ (mksL ys (placesL 0 ys).1).map (onM (placesL 0 xs).2) := by
      rw [hPA, mks_app _ _ _ _ hpl, mks_on]
    have e2 : sysL (gloN (xs ++ ys)) (xs ++ ys) (placesL 0 (xs ++ ys)).1 = sysL (gloN xs) xs (placesL 0 xs).1 ++ (sysL (gloN ys) ys (placesL 0 ys).1).map (onS (placesL 0 xs).2) := by
      unfold sysL
      rw [hPA, labP_app _ _ _ _ hpl, labP_on, List.map_append, List.map_map, List.map_map, gloN_app]
      congr 1
      · refine List.map_congr_left fun q hq => ?_
        have hm := labP_mem _ _ q hq
        unfold sySy
        rw [inB_app]
        have : inB q.1 (gloN ys) = false := by
          cases hb : inB q.1 (gloN ys) with
          | false => rfl
          | true => exact absurd (g2 _ ((inB_iff _ _).1 hb)) (ha _ hm)
        rw [this, Bool.or_false]
      · refine List.map_congr_left fun q hq => ?_
        have hm := labP_mem _ _ q hq
        show sySy _ (q.1, _ + q.2) = onS _ (sySy _ q)
        unfold sySy onS
        rw [inB_app]
        have : inB q.1 (gloN xs) = false := by
          cases hb : inB q.1 (gloN xs) with
          | false => rfl
          | true => exact absurd hm (ha _ (g1 _ ((inB_iff _ _).1 hb)))
        rw [this, Bool.false_or]
        show Sy.mk _ _ _ = Sy.mk _ _ _
        congr 1
        show (((placesL 0 xs).2 + q.2 : Nat) : Int) = (q.2 : Int) + (placesL 0 xs).2
        omega
    show Ob.mk _ _ _ _ = Ob.mk _ _ _ _
    rw [e1, e2, e3, e4]
    show Ob.mk _ _ _ _ = Ob.mk (bytesL 0 xs ++ bytesL 0 ys) (sysL (gloN xs) xs (placesL 0 xs).1 ++ (sysL (gloN ys) ys (placesL 0 ys).1).map (onS (bytesL 0 xs).length)) (fxsL xs (placesL 0 xs).1 ++ (fxsL ys (placesL 0 ys).1).map (onF (bytesL 0 xs).length)) (mksL xs (placesL 0 xs).1 ++ (mksL ys (placesL 0 ys).1).map (onM (bytesL 0 xs).length))
    rw [hend]
theorem align_mult {xs : List Src} {x : Src} (h : GoodP x) (hk : x.k = 6) (hn : x.n = 64) : (placesL 0 (xs ++ [x])).2 % 64 = 0 := by
  rw [places_append]
  have := align_end h hk (placesL 0 xs).2
  rw [hn] at this
  exact this

end Go.Proofs.YtkianldkbfjehaaGreatDoor

/- An object in a variable whose lists grow; what lies apart by its type. -/
namespace Go.Proofs.YtkianldkbfjehaaGreatDoor
open Go.RowKit

theorem own_block {w : World} {B : Nat} {T : TypeId} {z : Nat} {v : Value} {n : Nat} {xs : List Value} (h : w.ownsRow B T z v n xs) : v = .slice none 0 0 ∨ ∃ g cur, v.ownBlock = some g ∧ B ≤ g ∧ w.heap[g]? = some (.cells cur T (0, 0)) := by
  rcases h.2 with ⟨e1, _⟩ | ⟨g, cap, cur, e1, e2, e3, _⟩
  · exact .inl e1
  · exact .inr ⟨g, cur, by rw [e1]; rfl, e2, e3⟩
theorem rows_apart {w : World} {B B' : Nat} {T T' : TypeId} {z z' : Nat} {v v' : Value} {n n' : Nat} {xs xs' : List Value} (h : w.ownsRow B T z v n xs) (h' : w.ownsRow B' T' z' v' n' xs') (hne : T ≠ T') : v = .slice none 0 0 ∨ v.ownBlock ≠ v'.ownBlock := by
  rcases own_block h with e | ⟨g, cur, e1, -, e2⟩
  · exact .inl e
  · refine .inr fun e => ?_
    rcases own_block h' with e' | ⟨g', cur', e3, -, e4⟩
    · rw [e', e1] at e; cases e
    · rw [e1, e3] at e
      injection e with e
      rw [e, e4] at e2
      injection e2 with e2
      injection e2 with _ e2
      exact hne e2.symm
theorem row_not_blk {w : World} {B : Nat} {T T' : TypeId} {z : Nat} {v : Value} {n g : Nat} {xs : List Value} {c : Array Value} (h : w.ownsRow B T z v n xs) (hb : Blk w g T' c) (hne : T ≠ T') : v = .slice none 0 0 ∨ v.ownBlock ≠ some g := by
  rcases own_block h with e | ⟨g', cur, e1, -, e2⟩
  · exact .inl e
  · refine .inr fun e => ?_
    rw [e1] at e
    injection e with e
    rw [e, show w.heap[g]? = _ from hb] at e2
    injection e2 with e2
    injection e2 with _ e2
    exact hne e2.symm
theorem blk_not_row {w : World} {B : Nat} {T T' : TypeId} {z : Nat} {v : Value} {n g : Nat} {xs : List Value} {c : Array Value} (h : w.ownsRow B T z v n xs) (hb : Blk w g T' c) (hne : T ≠ T') : some g ≠ v.ownBlock := by
  rcases row_not_blk h hb hne with e | e
  · rw [e]; intro e; cases e
  · exact fun e' => e e'.symm
theorem kept_row {w w' : World} {B : Nat} {T : TypeId} {z : Nat} {v : Value} {n : Nat} {xs : List Value} {row : Option Nat} (h : w.ownsRow B T z v n xs) (hg : w.grownBy w' row) (hr : v = .slice none 0 0 ∨ v.ownBlock ≠ row) : w'.ownsRow B T z v n xs :=
  World.ownsRow.kept h hg (hr.imp (fun e => by rw [e]; rfl) id)
/-- an object's lists stay where a list of another type grows -/
theorem ObOwn.kept9 {w w' : World} {B B' : Nat} {o : Ob} {vb vs vf vm v : Value} {L : List (Src × Value)} (h : ObOwn w B o vb vs vf vm) (hI : IOwn w B' v L) (hg : w.grownBy w' v.ownBlock) : ObOwn w' B o vb vs vf vm :=
  ⟨kept_row h.b hg (rows_apart h.b hI.row (by decide)), kept_row h.s hg (rows_apart h.s hI.row (by decide)), kept_row h.f hg (rows_apart h.f hI.row (by decide)), kept_row h.m hg (rows_apart h.m hI.row (by decide))⟩
/-- a variable that holds an object whose lists are its own -/
structure WantAt (w : World) (B g : Nat) (o : Ob) (vb vs vf vm : Value) : Prop where
  box : Blk w g 29 #[vb, vs, vf, vm]
  own : ObOwn w B o vb vs vf vm
  low : B ≤ g
theorem WantAt.grow {w w' : World} {B g : Nat} {o : Ob} {vb vs vf vm : Value} (h : WantAt w B g o vb vs vf vm) (hb : Below w.heap.size w w') : WantAt w' B g o vb vs vf vm := ⟨h.box.grow hb, h.own.below hb, h.low⟩
theorem WantAt.setB {w w' : World} {B g : Nat} {o : Ob} {vb vs vf vm v' : Value} {xs : List Int} (h : WantAt w B g o vb vs vf vm) (ht : OwnV w' B v' xs) (hg : w.grownBy w' vb.ownBlock) :
    WantAt (w'.setCell ⟨g, 0, none⟩ v') B g ⟨xs, o.sy, o.fx, o.mk_⟩ v' vs vf vm := by
  obtain ⟨h1, h2, h3⟩ := h
  have k1 : Blk w' g 29 #[vb, vs, vf, vm] := h1.kept hg (blk_not_row h2.b h1 (by decide))
  have hs := grown_setCell w' g 0 v'
  have k2 := kept_row h2.s hg (rows_apart h2.s h2.b (by decide))
  have k3 := kept_row h2.f hg (rows_apart h2.f h2.b (by decide))
  have k4 := kept_row h2.m hg (rows_apart h2.m h2.b (by decide))
  exact ⟨k1.set 0 v', ⟨kept_row ht hs (row_not_blk ht k1 (by decide)), kept_row k2 hs (row_not_blk k2 k1 (by decide)), kept_row k3 hs (row_not_blk k3 k1 (by decide)), kept_row k4 hs (row_not_blk k4 k1 (by decide))⟩, h3⟩
theorem WantAt.setS {w w' : World} {B g : Nat} {o : Ob} {vb vs vf vm v' : Value} {L : List Sy} (h : WantAt w B g o vb vs vf vm) (ht : TOwn 36 w' B v' (L.map syV)) (hg : w.grownBy w' vs.ownBlock) :
    WantAt (w'.setCell ⟨g, 1, none⟩ v') B g ⟨o.bs, L, o.fx, o.mk_⟩ vb v' vf vm := by
  obtain ⟨h1, h2, h3⟩ := h
  have k1 : Blk w' g 29 #[vb, vs, vf, vm] := h1.kept hg (blk_not_row h2.s h1 (by decide))
  have hs := grown_setCell w' g 1 v'
  have k2 := kept_row h2.b hg (rows_apart h2.b h2.s (by decide))
  have k3 := kept_row h2.f hg (rows_apart h2.f h2.s (by decide))
  have k4 := kept_row h2.m hg (rows_apart h2.m h2.s (by decide))
  exact ⟨k1.set 1 v', ⟨kept_row k2 hs (row_not_blk k2 k1 (by decide)), kept_row ht hs (row_not_blk ht k1 (by decide)), kept_row k3 hs (row_not_blk k3 k1 (by decide)), kept_row k4 hs (row_not_blk k4 k1 (by decide))⟩, h3⟩
theorem WantAt.setF {w w' : World} {B g : Nat} {o : Ob} {vb vs vf vm v' : Value} {L : List Fx} (h : WantAt w B g o vb vs vf vm) (ht : TOwn 39 w' B v' (L.map fxV)) (hg : w.grownBy w' vf.ownBlock) :
    WantAt (w'.setCell ⟨g, 2, none⟩ v') B g ⟨o.bs, o.sy, L, o.mk_⟩ vb vs v' vm := by
  obtain ⟨h1, h2, h3⟩ := h
  have k1 : Blk w' g 29 #[vb, vs, vf, vm] := h1.kept hg (blk_not_row h2.f h1 (by decide))
  have hs := grown_setCell w' g 2 v'
  have k2 := kept_row h2.b hg (rows_apart h2.b h2.f (by decide))
  have k3 := kept_row h2.s hg (rows_apart h2.s h2.f (by decide))
  have k4 := kept_row h2.m hg (rows_apart h2.m h2.f (by decide))
  exact ⟨k1.set 2 v', ⟨kept_row k2 hs (row_not_blk k2 k1 (by decide)), kept_row k3 hs (row_not_blk k3 k1 (by decide)), kept_row ht hs (row_not_blk ht k1 (by decide)), kept_row k4 hs (row_not_blk k4 k1 (by decide))⟩, h3⟩
theorem WantAt.setM {w w' : World} {B g : Nat} {o : Ob} {vb vs vf vm v' : Value} {L : List Mk} (h : WantAt w B g o vb vs vf vm) (ht : TOwn 41 w' B v' (L.map mkV)) (hg : w.grownBy w' vm.ownBlock) :
    WantAt (w'.setCell ⟨g, 3, none⟩ v') B g ⟨o.bs, o.sy, o.fx, L⟩ vb vs vf v' := by
  obtain ⟨h1, h2, h3⟩ := h
  have k1 : Blk w' g 29 #[vb, vs, vf, vm] := h1.kept hg (blk_not_row h2.m h1 (by decide))
  have hs := grown_setCell w' g 3 v'
  have k2 := kept_row h2.b hg (rows_apart h2.b h2.m (by decide))
  have k3 := kept_row h2.s hg (rows_apart h2.s h2.m (by decide))
  have k4 := kept_row h2.f hg (rows_apart h2.f h2.m (by decide))
  exact ⟨k1.set 3 v', ⟨kept_row k2 hs (row_not_blk k2 k1 (by decide)), kept_row k3 hs (row_not_blk k3 k1 (by decide)), kept_row k4 hs (row_not_blk k4 k1 (by decide)), kept_row ht hs (row_not_blk ht k1 (by decide))⟩, h3⟩
/-- 'append(out, b...)' of bytes, what grows told -/
theorem wp_push_row_g {ops : Array Oper} {rest : List Oper} {o : Oper} {a : Act} {Q : Exit → Act → World → Prop} (w : World) (hgd : o.guard = none) (s x : Operand)
    (ho : o.op = .call { callee := .builtin .append, args := #[s, x], argTypes := #[24, 24] }) (B : Nat) (v : Value) (xs : List Int) (hs : a.eval s = v) (hown : OwnV w B v xs)
    (q : Option Addr) (m d : Nat) (ys : List Int) (hx : a.eval x = .slice q m d) (hl : ys.length = m) (hrow : Row w q ys) (hq : q = none → m = 0 ∧ d = 0)
    (hlen : xs.length + m ≤ 140737488355328) (hB : B ≤ w.heap.size)
    (h : ∀ v' w', OwnV w' B v' (xs ++ ys) → w.grownBy w' v.ownBlock → (∀ w0, Below B w0 w → Below B w0 w') → wpList Tryz.prog ops Q rest (a.put o.dst v') w') :
    wpList Tryz.prog ops Q (o :: rest) a w := by
  cases q with
  | none =>
    obtain ⟨rfl, rfl⟩ := hq rfl
    obtain rfl : ys = [] := List.eq_nil_of_length_eq_zero hl
    obtain ⟨i0, hi, hz0, hz1, hz2⟩ := info_parts Tryz.info5
    exact wpList_append_own_none hgd s x 24 ho B 5 i0 1 Tryz.underlying24 hi v xs.length (byts xs) hs hown hx (h v w (by rw [List.append_nil]; exact hown) (World.grownBy.refl w _) fun _ hb => hb)
  | some ad =>
    refine wp_push w hgd s x ho B v xs hs hown ad m d ys hx hl (fun j u hj => ?_) hlen hB fun v' w' h1 h2 h3 _ => h v' w' h1 h2 h3
    have hjl : j < ys.length := by
      rcases Nat.lt_or_ge j ys.length with h | h
      · exact h
      · rw [List.getElem?_eq_none (by simpa using h)] at hj; cases hj
    obtain ⟨b, off, e, hc⟩ := hrow (by omega)
    cases e
    rw [getD_byts ys j hjl] at hj
    rw [← hj, ← hc j hjl, Go.WideShapes.add_plain]
theorem TOwn.rowAt {T : TypeId} {w : World} {B n c : Nat} {p : Option Addr} {L : List V3} (h : TOwn T w B (.slice p n c) L) : Row3 w p L := by
  obtain ⟨p', c', e, -, -, r⟩ := h.row3
  injection e with e
  subst e
  exact r
theorem OwnV.rowAt {w : World} {B n c : Nat} {p : Option Addr} {xs : List Int} (h : OwnV w B (.slice p n c) xs) : Row w p xs ∧ (p = none → n = 0 ∧ c = 0) := by
  rcases h.shape with ⟨e, rfl⟩ | ⟨g, cap, e, ho⟩
  · injection e with e1 e2 e3
    exact ⟨fun h => absurd h (Nat.lt_irrefl 0), fun _ => ⟨e2, e3⟩⟩
  · injection e with e1 e2 e3
    subst e1
    exact ⟨ho.row, fun e => by cases e⟩
theorem TOwn.isSlice {T : TypeId} {w : World} {B : Nat} {v : Value} {L : List V3} (h : TOwn T w B v L) : ∃ p n c, v = .slice p n c := by
  obtain ⟨p, c, e, -⟩ := h.shape
  exact ⟨p, _, c, e⟩
theorem OwnV.isSlice {w : World} {B : Nat} {v : Value} {xs : List Int} (h : OwnV w B v xs) : ∃ p n c, v = .slice p n c := by
  obtain ⟨p, c, e, -⟩ := h.slice2
  exact ⟨p, _, c, e⟩
/-- no name in both -/
def ApartN (A B : List Sy) (i : Nat) : Prop := ∀ i' (h : i' < A.length) k' (h' : k' < B.length), i' < i → A[i'].name ≠ B[k'].name
def ApartK (s : ByteArray) (B : List Sy) (k : Nat) : Prop := ∀ k' (h' : k' < B.length), k' < k → s ≠ B[k'].name
theorem ApartN.step {A B : List Sy} {i : Nat} (h : ApartN A B i) (hi : i < A.length) (hk : ApartK A[i].name B B.length) : ApartN A B (i + 1) := fun i' h1 k' h2 h3 => by
  by_cases e : i' = i
  · subst e; exact hk k' h2 h2
  · exact h i' h1 k' h2 (by omega)
theorem ApartK.step {s : ByteArray} {B : List Sy} {k : Nat} (h : ApartK s B k) (hk : k < B.length) (hne : s ≠ B[k].name) : ApartK s B (k + 1) := fun k' h1 h2 => by
  by_cases e : k' = k
  · subst e; exact hne
  · exact h k' h1 (by omega)
theorem ApartN.labels {xs ys : List Src} (h : ApartN (madeO xs).sy (madeO ys).sy (madeO xs).sy.length) : ∀ s ∈ labN xs, s ∉ labN ys := fun s h1 h2 => by
  rw [← sys_names xs (places_length xs 0)] at h1
  rw [← sys_names ys (places_length ys 0)] at h2
  obtain ⟨a, ha, e1⟩ := List.mem_map.1 h1
  obtain ⟨b, hb, e2⟩ := List.mem_map.1 h2
  obtain ⟨i, hi, rfl⟩ := List.getElem_of_mem ha
  obtain ⟨k, hk, rfl⟩ := List.getElem_of_mem hb
  exact h i hi k hk hi (by rw [e1, e2])
theorem joined {xs ys : List Src} {A B : Ob} {n m : Nat} (hA : makeO xs = A) (hB : makeO ys = B) (h1 : (makeE xs).1 = 0) (h2 : (makeE ys).1 = 0) (hn : (placesL 0 xs).2 % 64 = 0) (hx : xs.length = n) (hy : ys.length = m) (hl : n + m ≤ 4096)
    (hb : A.bs.length + B.bs.length ≤ 65536) (ha : ApartN A.sy B.sy A.sy.length) : makeE (xs ++ ys) = (0, 0) ∧ makeO (xs ++ ys) = joinO A B := by
  obtain ⟨-, -, -, e1⟩ := makeE_ok h1
  obtain ⟨-, -, -, e2⟩ := makeE_ok h2
  rw [made_in e1] at hA
  rw [made_in e2] at hB
  subst hA hB
  have k1 : (madeO xs).bs.length = (placesL 0 xs).2 := by have := bytes_length xs 0; show (bytesL 0 xs).length = _; omega
  have k2 : (madeO ys).bs.length = (placesL 0 ys).2 := by have := bytes_length ys 0; show (bytesL 0 ys).length = _; omega
  obtain ⟨j1, j2⟩ := join_made h1 h2 hn (by omega) (by omega) ha.labels
  exact ⟨j1, by rw [made_in j1, j2]⟩
theorem ObOwn.innAt {w : World} {B : Nat} {o : Ob} {pb ps pf pm : Option Addr} {nb cb ns cs nf cf nm cm : Nat} (h : ObOwn w B o (.slice pb nb cb) (.slice ps ns cs) (.slice pf nf cf) (.slice pm nm cm)) (hf : ObF o) : ObIn w o pb ps pf pm nb cb ns cs nf cf nm cm := by
  obtain ⟨pb', ps', pf', pm', cb', cs', cf', cm', ⟨e1, e2, e3, e4⟩, hI⟩ := h.inn hf
  injection e1 with a1 a2 a3
  injection e2 with b1 b2 b3
  injection e3 with c1 c2 c3
  injection e4 with d1 d2 d3
  subst a1 a2 a3 b1 b2 b3 c1 c2 c3 d1 d2 d3
  exact hI
theorem below_set {B : Nat} {w0 w : World} (h : Below B w0 w) (g i : Nat) (v : Value) (hg : B ≤ g) (hw : B ≤ w.heap.size) : Below B w0 (w.setCell ⟨g, i, none⟩ v) := h.grown (grown_setCell w g i v) hw (fun k hk => by cases hk; exact hg)
theorem rs_bound (n : Nat) : ∀ (L : List Sy) (least : Int) (seen : List ByteArray), rsL n least seen L = true → ∀ s ∈ L, least ≤ s.at_ ∧ s.at_ ≤ n
  | [], _, _, _, s, hs => by cases hs
  | x :: L, least, seen, h, s, hs => by
    unfold rsL at h
    rw [Bool.and_eq_true] at h
    have h1 := h.1
    unfold symB at h1
    simp only [Bool.and_eq_true, decide_eq_true_eq] at h1
    rcases List.mem_cons.1 hs with rfl | hs
    · exact ⟨h1.1.2, h1.2⟩
    · have := rs_bound n L _ _ h.2 s hs
      omega
theorem rm_bound (bs : List Int) (fs : List Fx) : ∀ (L : List Mk) (least : Int), rmL bs fs least L = true → ∀ s ∈ L, least ≤ s.at_ ∧ s.at_ ≤ bs.length
  | [], _, _, s, hs => by cases hs
  | x :: L, least, h, s, hs => by
    unfold rmL at h
    rw [Bool.and_eq_true] at h
    have h1 := h.1
    unfold mrkB stB at h1
    simp only [Bool.and_eq_true, decide_eq_true_eq] at h1
    rcases List.mem_cons.1 hs with rfl | hs
    · obtain ⟨⟨⟨-, h2⟩, h3, h4, -⟩, -⟩ := h1
      have e5 : quiet.length = 5 := rfl
      exact ⟨h2, by omega⟩
    · have := rm_bound bs fs L _ h.2 s hs
      omega
/-- in a right object all places are small -/
theorem ok_bound {o : Ob} (h : okO o = true) : (∀ s ∈ o.sy, 0 ≤ s.at_ ∧ s.at_ ≤ 65536) ∧ (∀ s ∈ o.fx, 0 ≤ s.at_ ∧ s.at_ ≤ 65536) ∧ ∀ s ∈ o.mk_, 0 ≤ s.at_ ∧ s.at_ ≤ 65536 := by
  unfold okO at h
  simp only [Bool.and_eq_true, decide_eq_true_eq] at h
  obtain ⟨⟨⟨⟨hb, -⟩, h1⟩, h2⟩, h3⟩ := h
  refine ⟨fun s hs => ?_, fun s hs => ?_, fun s hs => ?_⟩
  · have := rs_bound _ _ _ _ h1 s hs
    omega
  · obtain ⟨g1, -⟩ := rf_sorted _ _ _ h2
    have g3 := rf_high _ _ _ h2 s hs
    obtain ⟨i, hi, rfl⟩ := List.getElem_of_mem hs
    have := g1 i hi
    omega
  · have := rm_bound _ _ _ _ h3 s hs
    omega
theorem take_on {α : Type} (f : α → α) (V : α → V3) (A B : List α) (k : Nat) (h : k < B.length) : (A ++ (B.take k).map f).map V ++ [V (f B[k])] = (A ++ (B.take (k + 1)).map f).map V := by
  have e : (B.take (k + 1)).map f = (B.take k).map f ++ [f B[k]] := by rw [List.take_succ_eq_append_getElem h, List.map_append]; rfl
  rw [e, ← List.append_assoc, List.map_append (l₁ := A ++ (B.take k).map f)]
  rfl
/-- the align that is put behind -/
def al64 : Src := ⟨6, noText, noText, 0, 0, 0, 0, 64, []⟩
theorem al64_good : GoodP al64 := .inr (.inr (.inr (.inr (.inr (.inl ⟨rfl, .inr (.inr (.inr (.inr (.inr (.inr rfl)))))⟩)))))

end Go.Proofs.YtkianldkbfjehaaGreatDoor
