/- Texts put together: RefH, RefFields, RefI, RefJ, RefK, RefL. -/
import Derived.Test.YtkianldkbfjehaaGreatDoorMv
import Derived.Test.YtkianldkbfjehaaGreatDoorKg
import Derived.Test.YtkianldkbfjehaaGreatDoorKd
import Derived.Test.YtkianldkbfjehaaGreatDoorKk

/- switchyardref04.item of any fields that fit; which first fields are labels. -/
namespace Go.Proofs.YtkianldkbfjehaaGreatDoor
open Go.RowKit

theorem goL_len : ∀ (fs : List (Nat × List UInt8)) (ps : List Nat) (x z : Src), goL x ps fs = .inr z → fs.length ≤ ps.length
  | [], _, _, _, _ => Nat.zero_le _
  | (c, f) :: fs, [], x, z, h => by simp [goL] at h
  | (c, f) :: fs, p :: ps, x, z, h => by
    rw [goL] at h
    split at h
    · have := goL_len fs ps _ z h; simp; omega
    · cases h
theorem goL_one {x z : Src} {p : Nat} {q : Nat × List UInt8} (h : goL x [p] [q] = .inr z) : (readL p x q.2).1 = 0 ∧ z = (readL p x q.2).2 := by
  obtain ⟨c, f⟩ := q
  rw [goL] at h
  split at h
  · rename_i h1
    rw [goL] at h
    injection h with h
    exact ⟨h1, h.symm⟩
  · cases h
theorem goL_two {x z : Src} {p p2 : Nat} {q q2 : Nat × List UInt8} (h : goL x [p, p2] [q, q2] = .inr z) : (readL p x q.2).1 = 0 ∧ (readL p2 (readL p x q.2).2 q2.2).1 = 0 ∧ z = (readL p2 (readL p x q.2).2 q2.2).2 := by
  obtain ⟨c, f⟩ := q
  rw [goL] at h
  split at h
  · rename_i h1
    exact ⟨h1, goL_one h⟩
  · cases h
theorem read4 {y : Src} {f : List UInt8} (h : (readL 4 y f).1 = 0) : (readL 4 y f).2 = { y with tg := bytesOf f } := by
  simp only [readL, show ¬ (4 = 0) by decide, show ¬ (4 = 1) by decide, show ¬ (4 = 3) by decide, if_true, if_false] at h ⊢
  cases hn : nameB f with
  | false => rw [hn] at h; simp at h
  | true => rfl
theorem readN {p : Nat} (hp : p = 6 ∨ p = 7) {y : Src} {f : List UInt8} (h : (readL p y f).1 = 0) : ∃ v, numL f = some v ∧ (readL p y f).2 = { y with n := v } := by
  have h0 : ¬ p = 0 := by omega
  have h1 : ¬ p = 1 := by omega
  have h3 : ¬ p = 3 := by omega
  have h4 : ¬ p = 4 := by omega
  simp only [readL, h0, h1, h3, h4, if_false] at h ⊢
  cases hn : numL f with
  | none => rw [hn] at h; simp at h
  | some v =>
    rw [hn] at h
    simp only at h ⊢
    cases hh : holdsB p v with
    | false => rw [hh] at h; simp at h
    | true => exact ⟨v, rfl, by simp [putS, show ¬ p = 2 by omega, show ¬ p = 5 by omega]⟩
/-- a first field that is a label -/
def labB (l : List UInt8) : Bool := decide (l.getLast? = some 58) && nameB l.dropLast
theorem two_of {α : Type} {l : List α} (h : l.length = 2) : ∃ a b, l = [a, b] := by
  match l, h with
  | [a, b], _ => exact ⟨a, b, rfl⟩
theorem one_of {α : Type} {l : List α} (h : l.length = 1) : ∃ a, l = [a] := by
  match l, h with
  | [a], _ => exact ⟨a, rfl⟩

/-- item: of fields that fit -/
theorem item_any (f0 : List UInt8) (fs : List (Nat × List UInt8)) (x y : Src) (ps : List Nat) (least fb n cap : Nat) (w : World) (hform : formL f0 = some (x, ps, least)) (hlab : labB f0 = false) (hgo : goL x ps fs = .inr y) (hleast : ¬ fs.length < least)
    (hn : n = fs.length + 1) (hcap : n ≤ cap) (hn47 : n ≤ 140737488355328) (hsz : ∀ q ∈ fs, (bytesOf q.2).size ≤ 281474976710656)
    (h0 : w.cell? ⟨fb, 0, none⟩ = some (.string (bytesOf f0))) (ht : ∀ k (h : k < fs.length), w.cell? ⟨fb, k + 1, none⟩ = some (.string (bytesOf fs[k].2))) :
    Calls Tryz.prog 102 #[.slice (some ⟨fb, 0, none⟩) n cap] w (ItemIs y w) := by
  have hle := goL_len _ _ _ _ hgo
  unfold formL at hform
  cases hw : wdL f0 with
  | some i =>
    rw [hw] at hform
    obtain ⟨h1, h2⟩ := wd_of hw
    rw [h2] at h0
    have : i = 0 ∨ i = 1 ∨ i = 2 ∨ i = 3 ∨ i = 4 := by omega
    rcases this with rfl | rfl | rfl | rfl | rfl
    · simp only [formW, Option.some.injEq, Prod.mk.injEq] at hform
      obtain ⟨rfl, rfl, rfl⟩ := hform
      obtain ⟨q1, q2, rfl⟩ := two_of (l := fs) (by simp at hle; omega)
      obtain ⟨r1, r2, rfl⟩ := goL_two hgo
      rw [read4 r2, read3 r1]
      exact item_mark fb n cap _ _ w hn hcap h0 (ht 0 (by simp)) (ht 1 (by simp))
    · simp only [formW, Option.some.injEq, Prod.mk.injEq] at hform
      obtain ⟨rfl, rfl, rfl⟩ := hform
      exact item_byte fb n cap fs y w hn hn47 hsz hgo h0 ht
    · simp only [formW, Option.some.injEq, Prod.mk.injEq] at hform
      obtain ⟨rfl, rfl, rfl⟩ := hform
      obtain ⟨q1, rfl⟩ := one_of (l := fs) (by simp at hle; omega)
      obtain ⟨r1, rfl⟩ := goL_one hgo
      obtain ⟨v, hv, hy⟩ := readN (.inl rfl) r1
      rw [hy]
      exact item_space fb n cap _ v w hn hcap (hsz _ (by simp)) (by rw [bytesOf_list]; exact hv) h0 (ht 0 (by simp))
    · simp only [formW, Option.some.injEq, Prod.mk.injEq] at hform
      obtain ⟨rfl, rfl, rfl⟩ := hform
      obtain ⟨q1, rfl⟩ := one_of (l := fs) (by simp at hle; omega)
      obtain ⟨r1, rfl⟩ := goL_one hgo
      obtain ⟨v, hv, hy⟩ := readN (.inr rfl) r1
      rw [hy]
      exact item_align fb n cap _ v w hn hcap (hsz _ (by simp)) (by rw [bytesOf_list]; exact hv) h0 (ht 0 (by simp))
    · simp only [formW, Option.some.injEq, Prod.mk.injEq] at hform
      obtain ⟨rfl, rfl, rfl⟩ := hform
      obtain ⟨q1, rfl⟩ := one_of (l := fs) (by simp at hle; omega)
      obtain ⟨r1, rfl⟩ := goL_one hgo
      rw [read3 r1]
      exact item_global fb n cap _ w hn hcap h0 (ht 0 (by simp))
  | none =>
    rw [hw] at hform
    simp only at hform
    cases ho : opL f0 with
    | some o =>
      rw [ho] at hform
      obtain ⟨h1, h2, h3⟩ := op_of ho
      simp only [formO, Option.some.injEq, Prod.mk.injEq] at hform
      obtain ⟨rfl, rfl, rfl⟩ := hform
      rw [h3] at h0
      exact item_op o h1 h2 fb n cap fs y w hn (by omega) hsz hgo h0 ht
    | none =>
      rw [ho] at hform
      simp only at hform
      split at hform
      · rename_i hc
        unfold labB at hlab
        rw [hc.2] at hlab
        simp [hc.1] at hlab
      · cases hform

end Go.Proofs.YtkianldkbfjehaaGreatDoor

/- What switchyardref03.Fields answers, for every line. -/
namespace Go.Proofs.YtkianldkbfjehaaGreatDoor
open Go.RowKit

theorem ahead_at (l : List UInt8) (k : Nat) (h : k < (ahead l).length) : ∃ h' : k < l.length, l[k] = (ahead l)[k] := by
  rcases ahead_split l with e | ⟨b, e⟩
  · exact ⟨by rw [e] at h; exact h, by simp [e]⟩
  · have h' : k < l.length := Nat.lt_of_lt_of_le h (ahead_le l)
    refine ⟨h', ?_⟩
    have e2 : l[k]? = (ahead l ++ 35 :: b)[k]? := by rw [← e]
    rw [List.getElem?_append_left h, List.getElem?_eq_getElem h', List.getElem?_eq_getElem h] at e2
    exact Option.some.inj e2
theorem ahead_end (l : List UInt8) (h : (ahead l).length < l.length) : l[(ahead l).length] = 35 := by
  rcases ahead_split l with e | ⟨b, e⟩
  · rw [e] at h; omega
  · have e2 : l[(ahead l).length]? = (ahead l ++ 35 :: b)[(ahead l).length]? := by rw [← e]
    rw [List.getElem?_append_right (Nat.le_refl _), List.getElem?_eq_getElem h] at e2
    simpa using e2
theorem ahead_piece (l : List UInt8) (i k : Nat) (hk : k ≤ (ahead l).length) : piece l i k = piece (ahead l) i k := by
  rcases ahead_split l with e | ⟨b, e⟩
  · rw [e]
  · unfold piece
    by_cases hi : i ≤ (ahead l).length
    · have : l.drop i = (ahead l).drop i ++ 35 :: b := by
        conv => lhs; rw [e]
        rw [List.drop_append_of_le_length hi]
      rw [this, List.take_append_of_le_length (by rw [List.length_drop]; omega)]
    · rw [show k - i = 0 by omega]; simp

theorem ref_field (A : List UInt8) (i k : Nat) (hi : i < k) (hk : k ≤ A.length) (hb : ∀ c ∈ piece A i k, isBlank c = false) (he : k = A.length ∨ ∃ h : k < A.length, isBlank A[k] = true) :
    fldL i none (A.drop i) = (i, piece A i k) :: fldL (k + 1) none (A.drop (k + 1)) := by
  rw [piece_drop A i k (by omega), fldL_open _ _ _ (fun e => by have := congrArg List.length e; rw [piece_len _ _ _ hk, List.length_nil] at this; omega) hb, piece_len _ _ _ hk, show i + (k - i) = k by omega]
  rcases he with e | ⟨h, e⟩
  · rw [List.drop_eq_nil_of_le (by omega), List.drop_eq_nil_of_le (by omega)]
    simp [fldL]
  · rw [drop_at A k h, fldL_blank _ _ _ _ e]
    rfl

theorem ne39 : (3 : TypeId) ≠ 9 := by decide
theorem ne93 : (9 : TypeId) ≠ 3 := by decide
theorem room_alloc {w : World} {B : Nat} (h : B ≤ w.heap.size) (o : Obj) : B ≤ (w.alloc o).heap.size := by simp; omega
theorem keep_other {T T' : TypeId} {w w' : World} {B : Nat} {v v' : Value} {vs vs' : List Value} {o : Obj} (hne : T ≠ T') (h : GOwnV T w B v vs) (h' : GOwnV T' w B v' vs') (hg : (w.alloc o).grownBy w' v'.ownBlock) : GOwnV T w' B v vs :=
  (h.alloc o).grownOther hg (GOwnV.apart hne (h.alloc o) (h'.alloc o))
theorem drop_bang (A : List UInt8) (i : Nat) (h : i < A.length) : A.drop i = A[i]! :: A.drop (i + 1) := by
  rw [drop_at A i h]; simp [h]

set_option maxRecDepth 100000 in
set_option maxHeartbeats 4000000 in
theorem refFields_any (s : ByteArray) (w : World) (hs : (s.size + 1) * 16 ≤ 140737488355328) :
    Calls Tryz.prog 99 #[.string s] w fun e w' => ∃ vf vc, e = .returned (.tuple #[vf, vc]) ∧ GOwnV 9 w' w.heap.size vf (strs (fTexts (fieldsL s.data.toList))) ∧ GOwnV 3 w' w.heap.size vc (nums (fCols (fieldsL s.data.toList))) ∧ Below w.heap.size w w' := by
  have hl := Lib.size_eq s
  have hle := ahead_le s.data.toList
  have HAT : Hid (∀ k, k < (ahead s.data.toList).length → ∃ h : k < s.size, s[k] = (ahead s.data.toList)[k]! ∧ s[k] ≠ 35) := by
    show ∀ k, k < (ahead s.data.toList).length → ∃ h : k < s.size, s[k] = (ahead s.data.toList)[k]! ∧ s[k] ≠ 35
    intro k hk
    obtain ⟨h', e⟩ := ahead_at s.data.toList k hk
    refine ⟨by omega, ?_, ?_⟩
    · rw [← list_byte s k (by omega) h', e]; simp [hk]
    · rw [← list_byte s k (by omega) h', e]; exact ahead_all _ _ (List.getElem_mem hk)
  have HEND : Hid ((ahead s.data.toList).length < s.size → ∃ h : (ahead s.data.toList).length < s.size, s[(ahead s.data.toList).length] = 35) := by
    show (ahead s.data.toList).length < s.size → _
    intro h
    refine ⟨h, ?_⟩
    rw [← list_byte s _ h (by omega)]; exact ahead_end _ (by omega)
  have HPC : Hid (∀ i k, k ≤ (ahead s.data.toList).length → s.extract i k = bytesOf (piece (ahead s.data.toList) i k)) := by
    show ∀ i k, k ≤ (ahead s.data.toList).length → s.extract i k = bytesOf (piece (ahead s.data.toList) i k)
    intro i k hk
    rw [extract_piece, ahead_piece _ _ _ hk]
  rw [← hl] at hle
  unfold fieldsL
  generalize ahead s.data.toList = A at *
  clear hl
  generalize hN : A.length = N at *
  have HN : Hid (A.length = N) := hN
  clear hN
  go_enter Tryz.func99, Tryz.ntmps99
  go_wp2_with fail
  go_loop [4] (fun i => ∃ k : Nat, k ≤ N ∧ i = .int .i64 k) (fun i => N - (intOf i).toNat)
  case atStart => exact ⟨0, Nat.zero_le _, rfl⟩
  case round =>
    obtain ⟨k, hk, rfl⟩ := hrel
    by_cases hlt : k < N
    · obtain ⟨hks, -, h35⟩ := HAT.out k hlt
      have hz : ((s[k].toNat : Int) != 35) = true := by
        simp [← UInt8.toNat_inj] at h35 ⊢; omega
      have hks' : (k : Int) < (s.size : Int) := by omega
      clear h35
      go_wp2_with fail
      go_round
      case rel => exact ⟨k + 1, by omega, by go_num⟩
      case measure => simp [intOf]; omega
    · obtain rfl : k = N := by omega
      have hcase : (¬ ((k : Int) < (s.size : Int))) ∨ (∃ hks : k < s.size, ((s[k].toNat : Int) != 35) = false) := by
        by_cases h : k < s.size
        · obtain ⟨h', e⟩ := HEND.out h
          exact .inr ⟨h', by rw [e]; decide⟩
        · exact .inl (by omega)
      rcases hcase with hge | ⟨hks, hz⟩
      all_goals
        go_wp2_with fail
        go_loopw [5, 6, 7, 8] (fun t5 t6 t7 _ wr => ∃ (ds : List (Nat × List UInt8)) (i : Nat), i ≤ k + 1 ∧ t7 = .int .i64 i ∧ fldL 0 none A = ds ++ fldL i none (A.drop i) ∧ ds.length ≤ i ∧ GOwnV 9 wr w.heap.size t5 (strs (fTexts ds)) ∧ GOwnV 3 wr w.heap.size t6 (nums (fCols ds)) ∧ Below w.heap.size w wr) (fun _ _ t7 _ _ => k + 1 - (intOf t7).toNat)
        case atStart => exact ⟨[], 0, Nat.zero_le _, rfl, rfl, Nat.le_refl _, GOwnV.nil _ _ _, GOwnV.nil _ _ _, Below.refl _ _⟩
        case round =>
          obtain ⟨ds, i, hi, rfl, heq, hdl, hof, hoc, hbk⟩ := hrel
          have HE : Hid (fldL 0 none A = ds ++ fldL i none (A.drop i)) := heq
          clear heq
          by_cases hin : i < k
          · obtain ⟨his, hai, -⟩ := HAT.out i hin
            have HAI : Hid (s[i] = A[i]!) := hai
            clear hai
            have hbi := isBlank_int s[i]
            have hi1 : (i : Int) < (k : Int) := by omega
            have hi2 : (i : Int) < (s.size : Int) := by omega
            go_wp2_with fail
            refine (refBlank_any _ _).mono ?_
            rintro e w1 ⟨rfl, rfl⟩
            rw [hbi]
            have HA2 : Hid (isBlank s[i] = isBlank A[i]!) := by rw [HAI.out]; rfl
            generalize isBlank s[i] = bl at *
            cases bl
            · go_wp2_with fail
              go_loop [8] (fun t8 => ∃ j : Nat, i ≤ j ∧ j ≤ k ∧ t8 = .int .i64 j ∧ ∀ c ∈ piece A i j, isBlank c = false) (fun t8 => k - (intOf t8).toNat)
              case atStart => exact ⟨i, Nat.le_refl _, by omega, rfl, by rw [piece_self]; intro c hc; cases hc⟩
              case round =>
                obtain ⟨j, hj1, hj2, rfl, hnb⟩ := hrel
                have HNB : Hid (∀ c ∈ piece A i j, isBlank c = false) := hnb
                clear hnb
                by_cases hjk : j < k ∧ isBlank A[j]! = false
                · obtain ⟨hjs, haj, -⟩ := HAT.out j hjk.1
                  have hbj := isBlank_int s[j]
                  rw [haj, hjk.2, ← haj] at hbj
                  have HNB2 : Hid (∀ c ∈ piece A i (j + 1), isBlank c = false) := by
                    show ∀ c ∈ piece A i (j + 1), isBlank c = false
                    intro c hc
                    have hjl : j < A.length := by rw [HN.out]; exact hjk.1
                    rw [piece_snoc A i j hj1 hjl, List.mem_append, List.mem_singleton] at hc
                    rcases hc with hc | rfl
                    · exact HNB.out c hc
                    · have := hjk.2
                      rwa [getElem!_pos A j hjl] at this
                  have hj3 : (j : Int) < (k : Int) := by omega
                  have hj4 : (j : Int) < (s.size : Int) := by omega
                  clear haj
                  have hjk1 := hjk.1
                  clear hjk
                  go_wp2_with fail
                  refine (refBlank_any _ _).mono ?_
                  rintro e w2 ⟨rfl, rfl⟩
                  rw [hbj]
                  go_wp2_with fail
                  go_round
                  case rel => exact ⟨j + 1, by omega, by omega, by go_num, HNB2.out⟩
                  case measure => simp [intOf]; omega
                · have hne : i ≠ j := fun e => hjk (by subst e; exact ⟨hin, HA2.out.symm⟩)
                  have HF : Hid (fldL 0 none A = (ds ++ [(i, piece A i j)]) ++ fldL (j + 1) none (A.drop (j + 1))) := by
                    show fldL 0 none A = (ds ++ [(i, piece A i j)]) ++ fldL (j + 1) none (A.drop (j + 1))
                    rw [HE.out, ref_field A i j (by omega) (by rw [HN.out]; exact hj2) HNB.out ?_]
                    · simp
                    · by_cases h : j < k
                      · refine .inr ⟨by rw [HN.out]; exact h, ?_⟩
                        have hb : isBlank A[j]! = true := by
                          cases e : isBlank A[j]!
                          · exact absurd ⟨h, e⟩ hjk
                          · rfl
                        rwa [getElem!_pos A j (by rw [HN.out]; exact h)] at hb
                      · exact .inl (by rw [HN.out]; omega)
                  have HX : Hid (s.extract i j = bytesOf (piece A i j)) := HPC.out i j hj2
                  have hcs : (¬ ((j : Int) < (k : Int))) ∨ ((j : Int) < (k : Int) ∧ ∃ hjs : j < s.size, blankB (s[j].toNat : Int) = true) := by
                    by_cases h : j < k
                    · obtain ⟨hjs, haj, -⟩ := HAT.out j h
                      refine .inr ⟨by omega, hjs, ?_⟩
                      rw [isBlank_int, haj]
                      cases e : isBlank A[j]!
                      · exact absurd ⟨h, e⟩ hjk
                      · rfl
                    · exact .inl (by omega)
                  have hij : (i : Int) ≤ (j : Int) := by omega
                  have hjs1 : (j : Int) ≤ (s.size : Int) := by omega
                  have hi0 : (0 : Int) ≤ (i : Int) := by omega
                  have hls : (strs (fTexts ds)).length + 1 ≤ 140737488355328 := by simp [texts_len]; omega
                  have hls2 : ((strs (fTexts ds)).length + 1) * 16 ≤ 140737488355328 := by simp [texts_len]; omega
                  have hlc : (nums (fCols ds)).length + 1 ≤ 140737488355328 := by simp [cols_len]; omega
                  have hlc2 : ((nums (fCols ds)).length + 1) * 8 ≤ 140737488355328 := by simp [cols_len]; omega
                  have hsz := hbk.size
                  have HT : Hid (strs (fTexts (ds ++ [(i, piece A i j)])) = strs (fTexts ds) ++ [.string (s.extract i j)]) := by
                    show strs (fTexts (ds ++ [(i, piece A i j)])) = strs (fTexts ds) ++ [.string (s.extract i j)]
                    rw [HX.out]; simp [fTexts]
                  have HC : Hid (nums (fCols (ds ++ [(i, piece A i j)])) = nums (fCols ds) ++ [.int .i64 ((i : Int) + 1)]) := by
                    show nums (fCols (ds ++ [(i, piece A i j)])) = nums (fCols ds) ++ [.int .i64 ((i : Int) + 1)]
                    simp [fCols]
                  clear hjk hbi
                  generalize strs (fTexts ds) = ys at *
                  generalize nums (fCols ds) = zs at *
                  rcases hcs with hnj | ⟨hj3, hjs, hbb⟩
                  all_goals
                    go_upto_region 13 with (go_at_call 120; refine (refBlank_any _ _).mono ?_; rintro e w2 ⟨rfl, hw2⟩; rw [hw2, hbb])
                    go_upto_region 14 with (at_builtin; refine gpush Tryz.elemS _ rfl _ _ rfl w.heap.size _ ys rfl (hof.alloc _) ⟨w1.heap.size, 0, none⟩ 1 1 [.string (s.extract i j)] rfl rfl (cell_one_new _ _ _) (one_cell _) hls hls2 (room_alloc hsz _) ?_; intro v5 w3 hof3 hgr3 hbl3 _; have hoc3 := keep_other ne39 hoc hof hgr3; have hb3 := hbl3 w (hbk.alloc hsz _); clear hbl3 hgr3)
                    have hsz3 := hb3.size
                    go_wp2_with (at_builtin; refine gpush Tryz.elemI _ rfl _ _ rfl w.heap.size _ zs rfl (hoc3.alloc _) ⟨w3.heap.size, 0, none⟩ 1 1 [.int .i64 ((i : Int) + 1)] rfl rfl (cell_one_new _ _ _) (one_num _) hlc hlc2 (room_alloc hsz3 _) ?_; intro v6 w4 hoc4 hgr4 hbl4 _; have hof4 := keep_other ne93 hof3 hoc3 hgr4; have hb4 := hbl4 w (hb3.alloc hsz3 _); clear hbl4 hgr4)
                    go_roundw
                    case rel => exact ⟨ds ++ [(i, piece A i j)], j + 1, by omega, by go_num, HF.out, by simp; omega, by rw [HT.out]; exact hof4, by rw [HC.out]; exact hoc4, hb4⟩
                    case measure => simp [intOf]; omega
            · go_wp2_with fail
              go_roundw
              case rel => exact ⟨ds, i + 1, by omega, by go_num, by rw [HE.out, drop_bang A i (by rw [HN.out]; exact hin), fldL_blank _ _ _ _ HA2.out.symm]; rfl, by omega, hof, hoc, hbk⟩
              case measure => simp [intOf]; omega
          · have HR : Hid (fldL 0 none A = ds) := by
              show fldL 0 none A = ds
              rw [HE.out, List.drop_eq_nil_of_le (by rw [HN.out]; omega)]
              simp [fldL]
            have hi1 : ¬ ((i : Int) < (k : Int)) := by omega
            go_wp2_with fail
            go_ret2
            exact ⟨_, _, rfl, by rw [HR.out]; exact hof, by rw [HR.out]; exact hoc, hbk⟩

end Go.Proofs.YtkianldkbfjehaaGreatDoor

/- switchyardref04.Line: the label's test; labels; first fields that ask for nothing. -/
namespace Go.Proofs.YtkianldkbfjehaaGreatDoor
open Go.RowKit

set_option maxRecDepth 20000 in
set_option maxHeartbeats 1000000 in
theorem refLine_empty (s : ByteArray) (w : World) (hs : (s.size + 1) * 16 ≤ 140737488355328) (hf : fieldsL s.data.toList = []) :
    Calls Tryz.prog 80 #[.string s] w (LineIs (src0, false, 0, 0) w) := by
  have hF := fun W => refFields_any s W hs
  rw [hf] at hF
  clear hf
  go_enter Tryz.func80, Tryz.ntmps80
  go_wp2_with (first
    | (go_at_call 99; refine (hF _).mono ?_; rintro e w1 ⟨vf, vc, rfl, hvf, hvc, hb1⟩; have HB : Hid (Blk w1 w.heap.size 57 item0) := (Blk.new w 57 item0).grow hb1; have HW := Hid.in (below_step (new_alloc w (.cells item0 57)) hb1); obtain ⟨p, cap, hp, -, -, -⟩ := hvf.slice; have hl : (strs (fTexts [])).length = 0 := rfl; rw [hl] at hp; subst hp; clear hvf hvc hb1 hl)
    | (refine step_store_blk HB.out rfl 57 (.tmp 2) (.tmp 23) rfl rfl rfl item0 rfl Tryz.sz57 rfl zero_one ?_; intro w4 hB4 hg4; have HL := Hid.in (load28 hB4 rfl)))
  have hld := HL.out
  exact bodyPost_ret (v := LineV (src0, false, 0, 0) nilV) (by simp [results, Tryz.results80, asAddr, hld]; rfl) rfl (LineIs.zero (HW.out.trans (below_grown hg4 (Nat.le_refl _) HW.out.size)))

/-- what stands in memory behind the fields -/
structure RHead (W : World) (r fb cb : Nat) (f0 : ByteArray) (c0 : Nat) (fs : List (Nat × List UInt8)) : Prop where
  res : Blk W r 57 item0
  one : W.cell? ⟨fb, 0, none⟩ = some (.string f0)
  col0 : W.cell? ⟨cb, 0, none⟩ = some (.int .i64 ((c0 : Int) + 1))
  txt : ∀ k (h : k < fs.length), W.cell? ⟨fb, k + 1, none⟩ = some (.string (bytesOf fs[k].2))
  col : ∀ k (h : k < fs.length), W.cell? ⟨cb, k + 1, none⟩ = some (.int .i64 ((fs[k].1 : Int) + 1))
  cr : cb ≠ r
theorem RHead.grow {W W' : World} {r fb cb c0 : Nat} {f0 : ByteArray} {fs : List (Nat × List UInt8)} (h : RHead W r fb cb f0 c0 fs) (hb : Below W.heap.size W W') : RHead W' r fb cb f0 c0 fs where
  res := h.res.grow hb
  one := (hb.cell (p := ⟨fb, 0, none⟩) (cell_lt h.one)).trans h.one
  col0 := (hb.cell (p := ⟨cb, 0, none⟩) (cell_lt h.col0)).trans h.col0
  txt := fun k hk => (hb.cell (p := ⟨fb, k + 1, none⟩) (cell_lt h.one)).trans (h.txt k hk)
  col := fun k hk => (hb.cell (p := ⟨cb, k + 1, none⟩) (cell_lt h.col0)).trans (h.col k hk)
  cr := h.cr
theorem lab_iff (f0 : List UInt8) (F : ByteArray) (hF : F = bytesOf f0) : labB f0 = true ↔ ∃ h : 1 < F.size, F[F.size - 1]'(by omega) = 58 ∧ NameP (F.extract 0 (F.size - 1)) := by
  subst hF
  have hz : (bytesOf f0).size = f0.length := bytesOf_size f0
  have hex : ((bytesOf f0).extract 0 ((bytesOf f0).size - 1)).data.toList = f0.dropLast := by
    rw [extract_piece, bytesOf_list, bytesOf_list]
    unfold piece
    rw [List.drop_zero, Nat.sub_zero, hz, List.dropLast_eq_take]
  have hnb : nameB f0.dropLast = true ↔ NameP ((bytesOf f0).extract 0 ((bytesOf f0).size - 1)) := by
    rw [← hex]; exact nameB_iff _
  have hlast : ∀ h : 1 < (bytesOf f0).size, ((bytesOf f0)[(bytesOf f0).size - 1]'(by omega) = 58 ↔ f0.getLast? = some 58) := fun h => by
    have h' : f0.length - 1 < f0.length := by omega
    rw [List.getLast?_eq_getElem?, List.getElem?_eq_getElem h']
    have : (bytesOf f0)[(bytesOf f0).size - 1]'(by omega) = f0[f0.length - 1] := by
      have e := list_byte (bytesOf f0) ((bytesOf f0).size - 1) (by omega) (by rw [bytesOf_list]; omega)
      rw [← e]
      simp only [bytesOf_list, hz]
    rw [this]; simp
  unfold labB
  rw [Bool.and_eq_true, decide_eq_true_eq, hnb]
  constructor
  · rintro ⟨h1, h2⟩
    have : 1 < (bytesOf f0).size := by
      have := h2.2.1
      simp at this; omega
    exact ⟨this, (hlast this).2 h1, h2⟩
  · rintro ⟨h, h1, h2⟩
    exact ⟨(hlast h).1 h1, h2⟩

theorem fields_N {W : World} {B : Nat} {vf vc : Value} {c0 : Nat} {f0 : List UInt8} {F : ByteArray} {fs : List (Nat × List UInt8)} {n : Nat} (hn : n = fs.length) (hF : F = bytesOf f0) (hf : GOwnV 9 W B vf (strs (fTexts ((c0, f0) :: fs)))) (hc : GOwnV 3 W B vc (nums (fCols ((c0, f0) :: fs)))) :
    ∃ fb fcap cb ccap, vf = .slice (some ⟨fb, 0, none⟩) (n + 1) fcap ∧ vc = .slice (some ⟨cb, 0, none⟩) (n + 1) ccap ∧ B ≤ fb ∧ B ≤ cb ∧ fb < W.heap.size ∧ cb < W.heap.size ∧ n + 1 ≤ fcap ∧ n + 1 ≤ ccap ∧
      W.cell? ⟨fb, 0, none⟩ = some (.string F) ∧ W.cell? ⟨cb, 0, none⟩ = some (.int .i64 ((c0 : Int) + 1)) ∧
      (∀ k (h : k < fs.length), W.cell? ⟨fb, k + 1, none⟩ = some (.string (bytesOf fs[k].2))) ∧ (∀ k (h : k < fs.length), W.cell? ⟨cb, k + 1, none⟩ = some (.int .i64 ((fs[k].1 : Int) + 1))) := by
  subst hF; exact fields_n hn hf hc
set_option maxRecDepth 20000 in
set_option maxHeartbeats 1000000 in
theorem refLine_none (s : ByteArray) (w : World) (hs : (s.size + 1) * 16 ≤ 140737488355328) (c0 : Nat) (f0 : List UInt8) (fs : List (Nat × List UInt8)) (hf : fieldsL s.data.toList = (c0, f0) :: fs) (hl0 : fs.length + 1 ≤ 140737488355328) (hf0 : (bytesOf f0).size ≤ 281474976710656) (hlab : labB f0 = false) (hno : askL f0 = none) :
    Calls Tryz.prog 80 #[.string s] w (LineIs (src0, false, 140, c0 + 1) w) := by
  have hF := fun W => refFields_any s W hs
  rw [hf] at hF
  have hA := fun W => refAsks_any (bytesOf f0) W
  rw [bytesOf_list, hno] at hA
  have HLB := Hid.in (lab_iff f0 _ rfl)
  have HLF := Hid.in hlab
  clear hf hlab hno
  obtain ⟨n, hn⟩ : ∃ n, n = fs.length := ⟨_, rfl⟩
  obtain ⟨F, hFE⟩ : ∃ F, F = bytesOf f0 := ⟨_, rfl⟩
  rw [← hFE] at HLB hf0 hA
  rw [← hn] at hl0
  have HFE := Hid.in hFE
  have HNN := Hid.in hn
  clear hFE hn
  go_enter Tryz.func80, Tryz.ntmps80
  go_upto_region 5 with (go_at_call 99; refine (hF _).mono ?_; rintro e w1 ⟨vf, vc, rfl, hvf, hvc, hb1⟩; have HB : Hid (Blk w1 w.heap.size 57 item0) := (Blk.new w 57 item0).grow hb1; have HW := Hid.in (below_step (new_alloc w (.cells item0 57)) hb1); obtain ⟨fb, fcap, cb, ccap, rfl, rfl, g1, g2, g3, g4, g5, g6, hcf, hcc, g7, g8⟩ := fields_N HNN.out HFE.out hvf hvc; have HH : Hid (RHead w1 w.heap.size fb cb F c0 fs) := ⟨HB.out, hcf, hcc, g7, g8, fun e => by rw [e] at g2; simp at g2; omega⟩; clear hvf hvc hb1 g7 g8 hcc HB g1 g2)
  clear hF
  go_cut [47] from 28 to 46 (fun b wx => b = .bool false ∧ wx = w1)
  case first =>
    by_cases h1 : 1 < F.size
    · have htn : ((F.size : Int) - 1).toNat = F.size - 1 := by omega
      by_cases h58 : F[F.size - 1]'(by omega) = 58
      · have h58' : ((F[F.size - 1]'(by omega)).toNat : Int) = 58 := by rw [h58]; rfl
        have hnm : ¬ NameP (F.extract 0 (F.size - 1)) := fun e => by have := HLB.out.2 ⟨h1, h58, e⟩; rw [HLF.out] at this; cases this
        have hN := fun W => refName_no (F.extract 0 (F.size - 1)) W (by simp; omega) hnm
        clear h58 hnm
        go_wp2_with (go_at_call 44; refine (hN _).mono ?_; rintro e w2 ⟨rfl, rfl⟩)
        go_meet
        case rel => exact ⟨rfl, rfl⟩
      · have h58' : ¬ ((F[F.size - 1]'(by omega)).toNat : Int) = 58 := fun e => h58 (by
          apply UInt8.toNat_inj.1
          have : ((58 : UInt8).toNat : Int) = 58 := rfl
          omega)
        clear h58
        go_wp2_with fail
        go_meet
        case rel => exact ⟨rfl, rfl⟩
    · have h1' : ¬ (1 : Int) < (F.size : Int) := by omega
      go_wp2_with fail
      go_meet
      case rel => exact ⟨rfl, rfl⟩
  case rest =>
    obtain ⟨rfl, rfl⟩ := hcut
    have hcf := HH.out.one
    go_upto_region 11 with (go_at_call 100; refine (hA _).mono ?_; rintro e w2 ⟨hb2, rfl⟩; have HH2 := Hid.in (HH.out.grow hb2); have HW2 := Hid.in (below_step HW.out hb2); clear hb2)
    obtain ⟨d0, d1, d2, d3, d4, d5, d6, d7, d8⟩ := blk9 HH2.out.res
    obtain ⟨e0, e1, e2, e3, e4, e5, e6, e7, e8⟩ := free9 HH2.out.res
    have cc := HH2.out.col0
    have hne : ¬ cb = w.heap.size := HH2.out.cr
    have hne' : ¬ w.heap.size = cb := fun e => hne e.symm
    clear hcf
    go_region
    all_goals
      go_wp2
      obtain ⟨w4, he4, hB4, hg4⟩ := set9 HH2.out.res
      rw [he4]
      have hld := load28 (w := w4.drew) hB4 rfl
      exact bodyPost_ret (v := LineV (src0, false, 140, c0 + 1) nilV) (by simp [results, Tryz.results80, asAddr, hld]; rfl) rfl (LineIs.zero (below_draws (HW2.out.trans (below_grown hg4 (Nat.le_refl _) HW2.out.size)) 1))
set_option maxRecDepth 20000 in
set_option maxHeartbeats 1000000 in
theorem refLine_label2 (s : ByteArray) (w : World) (hs : (s.size + 1) * 16 ≤ 140737488355328) (c0 : Nat) (f0 : List UInt8) (fs : List (Nat × List UInt8)) (hf : fieldsL s.data.toList = (c0, f0) :: fs) (hl0 : fs.length + 1 ≤ 140737488355328) (hf0 : (bytesOf f0).size ≤ 281474976710656) (hlab : labB f0 = true) (h0 : 0 < fs.length) (c1 : Nat) (hc1 : (fs[0]'h0).1 = c1) :
    Calls Tryz.prog 80 #[.string s] w (LineIs (src0, false, 140, c1 + 1) w) := by
  have hF := fun W => refFields_any s W hs
  rw [hf] at hF
  have HLB := Hid.in (lab_iff f0 _ rfl)
  have HLF := Hid.in hlab
  clear hf hlab
  obtain ⟨n, hn⟩ : ∃ n, n = fs.length := ⟨_, rfl⟩
  obtain ⟨F, hFE⟩ : ∃ F, F = bytesOf f0 := ⟨_, rfl⟩
  rw [← hFE] at HLB hf0
  rw [← hn] at hl0
  have HFE := Hid.in hFE
  have HNN := Hid.in hn
  clear hFE hn
  go_enter Tryz.func80, Tryz.ntmps80
  go_upto_region 5 with (go_at_call 99; refine (hF _).mono ?_; rintro e w1 ⟨vf, vc, rfl, hvf, hvc, hb1⟩; have HB : Hid (Blk w1 w.heap.size 57 item0) := (Blk.new w 57 item0).grow hb1; have HW := Hid.in (below_step (new_alloc w (.cells item0 57)) hb1); obtain ⟨fb, fcap, cb, ccap, rfl, rfl, g1, g2, g3, g4, g5, g6, hcf, hcc, g7, g8⟩ := fields_N HNN.out HFE.out hvf hvc; have HH : Hid (RHead w1 w.heap.size fb cb F c0 fs) := ⟨HB.out, hcf, hcc, g7, g8, fun e => by rw [e] at g2; simp at g2; omega⟩; clear hvf hvc hb1 g7 g8 hcc HB g1 g2)
  clear hF
  go_cut [47] from 28 to 46 (fun b wx => b = .bool true ∧ wx = w1)
  case first =>
    by_cases h1 : 1 < F.size
    · have htn : ((F.size : Int) - 1).toNat = F.size - 1 := by omega
      by_cases h58 : F[F.size - 1]'(by omega) = 58
      · have h58' : ((F[F.size - 1]'(by omega)).toNat : Int) = 58 := by rw [h58]; rfl
        have hnm : NameP (F.extract 0 (F.size - 1)) := (HLB.out.1 HLF.out).2.2
        have hN := fun W => refName_yes (F.extract 0 (F.size - 1)) W (by simp; omega) hnm
        clear h58 hnm
        go_wp2_with (go_at_call 44; refine (hN _).mono ?_; rintro e w2 ⟨rfl, rfl⟩)
        go_meet
        case rel => exact ⟨rfl, rfl⟩
      · exact absurd (HLB.out.1 HLF.out).2.1 h58
    · exact absurd (HLB.out.1 HLF.out).1 h1
  case rest =>
    obtain ⟨rfl, rfl⟩ := hcut
    have hn0 : 0 < n := by rw [HNN.out]; exact h0
    go_upto_region 7 with fail
    obtain ⟨d0, d1, d2, d3, d4, d5, d6, d7, d8⟩ := blk9 HH.out.res
    obtain ⟨e0, e1, e2, e3, e4, e5, e6, e7, e8⟩ := free9 HH.out.res
    have cc := HH.out.col 0 h0
    have hne : ¬ cb = w.heap.size := HH.out.cr
    have hne' : ¬ w.heap.size = cb := fun e => hne e.symm
    rw [hc1] at cc
    clear hc1
    go_region
    all_goals
      go_wp2
      obtain ⟨w4, he4, hB4, hg4⟩ := set9 HH.out.res
      rw [he4]
      have hld := load28 (w := w4.drew) hB4 rfl
      exact bodyPost_ret (v := LineV (src0, false, 140, c1 + 1) nilV) (by simp [results, Tryz.results80, asAddr, hld]; rfl) rfl (LineIs.zero (below_draws (HW.out.trans (below_grown hg4 (Nat.le_refl _) HW.out.size)) 1))
set_option maxRecDepth 20000 in
set_option maxHeartbeats 1000000 in
theorem refLine_label1 (s : ByteArray) (w : World) (hs : (s.size + 1) * 16 ≤ 140737488355328) (c0 : Nat) (f0 : List UInt8) (fs : List (Nat × List UInt8)) (hf : fieldsL s.data.toList = (c0, f0) :: fs) (hl0 : fs.length + 1 ≤ 140737488355328) (hf0 : (bytesOf f0).size ≤ 281474976710656) (hlab : labB f0 = true) (h0 : fs.length = 0) :
    Calls Tryz.prog 80 #[.string s] w (LineIs ({ srcK 1 with name := (bytesOf f0).extract 0 ((bytesOf f0).size - 1) }, true, 0, 0) w) := by
  have hF := fun W => refFields_any s W hs
  rw [hf] at hF
  have HLB := Hid.in (lab_iff f0 _ rfl)
  have HLF := Hid.in hlab
  clear hf hlab
  obtain ⟨n, hn⟩ : ∃ n, n = fs.length := ⟨_, rfl⟩
  obtain ⟨F, hFE⟩ : ∃ F, F = bytesOf f0 := ⟨_, rfl⟩
  rw [← hFE] at HLB hf0 ⊢
  rw [← hn] at hl0
  have HFE := Hid.in hFE
  have HNN := Hid.in hn
  clear hFE hn
  go_enter Tryz.func80, Tryz.ntmps80
  go_upto_region 5 with (go_at_call 99; refine (hF _).mono ?_; rintro e w1 ⟨vf, vc, rfl, hvf, hvc, hb1⟩; have HB : Hid (Blk w1 w.heap.size 57 item0) := (Blk.new w 57 item0).grow hb1; have HW := Hid.in (below_step (new_alloc w (.cells item0 57)) hb1); obtain ⟨fb, fcap, cb, ccap, rfl, rfl, g1, g2, g3, g4, g5, g6, hcf, hcc, g7, g8⟩ := fields_N HNN.out HFE.out hvf hvc; have HH : Hid (RHead w1 w.heap.size fb cb F c0 fs) := ⟨HB.out, hcf, hcc, g7, g8, fun e => by rw [e] at g2; simp at g2; omega⟩; clear hvf hvc hb1 g7 g8 hcc HB g1 g2)
  clear hF
  go_cut [47] from 28 to 46 (fun b wx => b = .bool true ∧ wx = w1)
  case first =>
    by_cases h1 : 1 < F.size
    · have htn : ((F.size : Int) - 1).toNat = F.size - 1 := by omega
      by_cases h58 : F[F.size - 1]'(by omega) = 58
      · have h58' : ((F[F.size - 1]'(by omega)).toNat : Int) = 58 := by rw [h58]; rfl
        have hnm : NameP (F.extract 0 (F.size - 1)) := (HLB.out.1 HLF.out).2.2
        have hN := fun W => refName_yes (F.extract 0 (F.size - 1)) W (by simp; omega) hnm
        clear h58 hnm
        go_wp2_with (go_at_call 44; refine (hN _).mono ?_; rintro e w2 ⟨rfl, rfl⟩)
        go_meet
        case rel => exact ⟨rfl, rfl⟩
      · exact absurd (HLB.out.1 HLF.out).2.1 h58
    · exact absurd (HLB.out.1 HLF.out).1 h1
  case rest =>
    obtain ⟨rfl, rfl⟩ := hcut
    have hn0 : n = 0 := by rw [HNN.out]; exact h0
    subst hn0
    have hcf := HH.out.one
    have h1 := (HLB.out.1 HLF.out).1
    have htn : ((F.size : Int) - 1).toNat = F.size - 1 := by omega
    go_wp2_with (refine step_store_blk HH.out.res rfl 57 (.tmp 2) (.tmp 61) rfl rfl rfl (cellsOf { srcK 1 with name := F.extract 0 (F.size - 1) } nilV) rfl Tryz.sz57 rfl (cells_one _ _ _ _) ?_; intro w4 hB4 hg4)
    have hld := load28 hB4 rfl
    refine bodyPost_ret (v := LineV ({ srcK 1 with name := F.extract 0 (F.size - 1) }, true, 0, 0) nilV) (by simp [results, Tryz.results80, asAddr, hld]; rfl) rfl ?_
    exact ⟨nilV, rfl, GOwnV.nil _ _ _, HW.out.trans (below_grown hg4 (Nat.le_refl _) HW.out.size)⟩

end Go.Proofs.YtkianldkbfjehaaGreatDoor

/- switchyardref04.Line: the fields behind the first one. -/
namespace Go.Proofs.YtkianldkbfjehaaGreatDoor
open Go.RowKit

theorem ask_three (p : Nat) : ∃ v0 v1 v2, askV p = .agg #[v0, v1, v2] ∧ askC p = [v0, v1, v2] := by
  have h := askC_len p
  unfold askC at h ⊢
  cases hv : askV p with
  | agg c =>
    rw [hv] at h
    simp only at h ⊢
    obtain ⟨l⟩ := c
    match l, h with
    | [a, b, c], _ => exact ⟨a, b, c, rfl, rfl⟩
  | _ => rw [hv] at h; simp at h
theorem readL_five (y : Src) (f : List UInt8) (p : Nat) (h : p = 5) : readL p y f = readL 5 y f := by rw [h]
set_option maxRecDepth 20000 in
set_option maxHeartbeats 2000000 in
theorem refLine_once (s : ByteArray) (w : World) (hs : (s.size + 1) * 16 ≤ 140737488355328) (c0 : Nat) (f0 : List UInt8) (fs : List (Nat × List UInt8)) (hf : fieldsL s.data.toList = (c0, f0) :: fs) (hl0 : fs.length + 1 ≤ 140737488355328) (hf0 : (bytesOf f0).size ≤ 281474976710656) (hfz : ∀ q ∈ fs, (bytesOf q.2).size ≤ 281474976710656) (hlab : labB f0 = false) (x : Src) (ps : List Nat) (hask : askL f0 = some (ps, false)) (hform : formL f0 = some (x, ps, ps.length)) (hp8 : ∀ p ∈ ps, p < 8) (hpl : ps.length ≤ 2) :
    Calls Tryz.prog 80 #[.string s] w (LineIs (endL fs.length ps.length s.size (goL x ps fs)) w) := by
  have hF := fun W => refFields_any s W hs
  rw [hf] at hF
  have hA := fun W => refAsks_any (bytesOf f0) W
  rw [bytesOf_list, hask] at hA
  have HFM := Hid.in hform
  have HLN := Hid.in hlab
  obtain ⟨R, hR⟩ : ∃ R, endL fs.length ps.length s.size (goL x ps fs) = R := ⟨_, rfl⟩
  rw [hR]
  have HR := Hid.in hR
  clear hR
  have HLB := Hid.in (lab_iff f0 _ rfl)
  have HLF := Hid.in hlab
  clear hf hlab hask hform
  obtain ⟨n, hn⟩ : ∃ n, n = fs.length := ⟨_, rfl⟩
  obtain ⟨F, hFE⟩ : ∃ F, F = bytesOf f0 := ⟨_, rfl⟩
  rw [← hFE] at HLB hf0 hA
  rw [← hn] at hl0
  have HFE := Hid.in hFE
  have HNN := Hid.in hn
  clear hFE hn
  go_enter Tryz.func80, Tryz.ntmps80
  go_upto_region 5 with (go_at_call 99; refine (hF _).mono ?_; rintro e w1 ⟨vf, vc, rfl, hvf, hvc, hb1⟩; have HB : Hid (Blk w1 w.heap.size 57 item0) := (Blk.new w 57 item0).grow hb1; have HW := Hid.in (below_step (new_alloc w (.cells item0 57)) hb1); obtain ⟨fb, fcap, cb, ccap, rfl, rfl, g1, g2, g3, g4, g5, g6, hcf, hcc, g7, g8⟩ := fields_N HNN.out HFE.out hvf hvc; have HH : Hid (RHead w1 w.heap.size fb cb F c0 fs) := ⟨HB.out, hcf, hcc, g7, g8, fun e => by rw [e] at g2; simp at g2; omega⟩; clear hvf hvc hb1 g7 g8 hcc HB g1 g2)
  clear hF
  go_cut [47] from 28 to 46 (fun b wx => b = .bool false ∧ wx = w1)
  case first =>
    by_cases h1 : 1 < F.size
    · have htn : ((F.size : Int) - 1).toNat = F.size - 1 := by omega
      by_cases h58 : F[F.size - 1]'(by omega) = 58
      · have h58' : ((F[F.size - 1]'(by omega)).toNat : Int) = 58 := by rw [h58]; rfl
        have hnm : ¬ NameP (F.extract 0 (F.size - 1)) := fun e => by have := HLB.out.2 ⟨h1, h58, e⟩; rw [HLF.out] at this; cases this
        have hN := fun W => refName_no (F.extract 0 (F.size - 1)) W (by simp; omega) hnm
        clear h58 hnm
        go_wp2_with (go_at_call 44; refine (hN _).mono ?_; rintro e w2 ⟨rfl, rfl⟩)
        go_meet
        case rel => exact ⟨rfl, rfl⟩
      · have h58' : ¬ ((F[F.size - 1]'(by omega)).toNat : Int) = 58 := fun e => h58 (by
          apply UInt8.toNat_inj.1
          have : ((58 : UInt8).toNat : Int) = 58 := rfl
          omega)
        clear h58
        go_wp2_with fail
        go_meet
        case rel => exact ⟨rfl, rfl⟩
    · have h1' : ¬ (1 : Int) < (F.size : Int) := by omega
      go_wp2_with fail
      go_meet
      case rel => exact ⟨rfl, rfl⟩
  case rest =>
    obtain ⟨rfl, rfl⟩ := hcut
    have hcf := HH.out.one
    obtain ⟨np, hnp⟩ : ∃ np, ps.length = np := ⟨_, rfl⟩
    rw [hnp] at hpl
    have HNP := Hid.in hnp
    clear hnp
    go_upto_region 12 with (go_at_call 100; refine (hA _).mono ?_; rintro e w2 ⟨hb2, v2, rfl, hask2⟩; have HH2 := Hid.in (HH.out.grow hb2); have HW2 := Hid.in (below_step HW.out hb2); have HA2 := Hid.in hask2; obtain ⟨pa, hpa⟩ := hask2.shape; rw [HNP.out] at hpa; subst hpa; clear hb2 hask2)
    clear hcf HH HW
    go_wp2_with fail
    go_loopw [12] (fun i wr => ∃ (k : Nat) (y : Src), k ≤ n ∧ i = .int .i64 ((k : Int) + 1) ∧ Below w2.heap.size w2 wr ∧ goL x ps fs = goL y (ps.drop k) (fs.drop k)) (fun i _ => n + 1 - (intOf i).toNat)
    case atStart => exact ⟨0, x, Nat.zero_le _, rfl, below_self _, rfl⟩
    case round =>
      obtain ⟨k, y, hk, rfl, hbk, hgo⟩ := hrel
      have HBK := Hid.in hbk
      have HGO := Hid.in hgo
      clear hbk hgo
      have hwk := wrapK k (by omega)
      have hnf := HNN.out
      by_cases hlt : k < n
      · have hltf : k < fs.length := by omega
        have htn : ((k : Int) + 1).toNat = k + 1 := by omega
        have hk0 : (0 : Int) ≤ (k : Int) + 1 := by omega
        have hkn : (k : Int) + 1 < (n : Int) + 1 := by omega
        have ct := (HH2.out.grow HBK.out).txt k hltf
        by_cases hp : k < ps.length
        · have HST := Hid.in (goL_step y ps fs k hltf hp)
          have hknp : k < np := by rw [← HNP.out]; exact hp
          have hfit := fun q => fits_any ps[k] (hp8 _ (List.getElem_mem hp)) y (bytesOf fs[k].2) (hfz _ (List.getElem_mem hltf)) (wr.drewN q)
          rw [bytesOf_list] at hfit
          have HST2 := HST
          clear HST
          obtain ⟨v0, v1, v2', hv, hvc⟩ := ask_three ps[k]
          rw [hv] at hfit
          obtain ⟨ga, hga, -, hgw, hac⟩ := HA2.out.cells (by omega)
          rw [HNP.out] at hga
          injection hga with hga
          have hknI : (k : Int) < (np : Int) := by omega
          subst hga
          have a0 : wr.cell? ⟨ga, k * 3, none⟩ = some v0 := (HBK.out.cell (p := ⟨ga, k * 3, none⟩) hgw).trans ((hac k hp 0 (by decide)).trans (by rw [hvc]; rfl))
          have a1 : wr.cell? ⟨ga, k * 3 + 1, none⟩ = some v1 := (HBK.out.cell (p := ⟨ga, k * 3 + 1, none⟩) hgw).trans ((hac k hp 1 (by decide)).trans (by rw [hvc]; rfl))
          have a2 : wr.cell? ⟨ga, k * 3 + 2, none⟩ = some v2' := (HBK.out.cell (p := ⟨ga, k * 3 + 2, none⟩) hgw).trans ((hac k hp 2 (by decide)).trans (by rw [hvc]; rfl))
          clear hac hvc hv
          generalize readL ps[k] y fs[k].2 = er at *
          obtain ⟨er, z⟩ := er
          simp only at hfit
          generalize bytesOf fs[k].2 = fk at *
          clear hnf hp
          by_cases he : er = 0
          · subst he
            go_wp2_with fail
            go_region_law (go_simp; go_at_call 101; refine (hfit 1).mono ?_; rintro e w5 ⟨rfl, hb5⟩; have HB5 := Hid.in hb5; clear hb5)
            all_goals
              go_wp2_with fail
              go_roundw
              case rel => exact ⟨k + 1, z, by omega, by go_num, (below_drewN HBK.out 1).trans (HB5.out.mono (by have := HBK.out.size; exact this)), by rw [HGO.out, HST2.out]; simp⟩
              case measure => simp [intOf]; omega
          · have HRR : Hid (R = (src0, false, er, fs[k].1 + 1)) := by
              have : R = _ := HR.out.symm
              rw [this, HGO.out, HST2.out, if_neg he]; rfl
            go_wp2_with fail
            go_region_law (go_simp; go_at_call 101; refine (hfit 1).mono ?_; rintro e w5 ⟨rfl, hb5⟩; have HB5 := Hid.in hb5; clear hb5)
            all_goals
              go_wp2_with fail
              have hb6 : Below w2.heap.size w2 w5 := (below_drewN HBK.out 1).trans (HB5.out.mono (by have := HBK.out.size; exact this))
              have hH5 := HH2.out.grow hb6
              obtain ⟨d0, d1, d2, d3, d4, d5, d6, d7, d8⟩ := blk9 hH5.res
              obtain ⟨e0, e1, e2, e3, e4, e5, e6, e7, e8⟩ := free9 hH5.res
              have cc := hH5.col k hltf
              have hne : ¬ cb = w.heap.size := hH5.cr
              have hne' : ¬ w.heap.size = cb := fun e => hne e.symm
              have HRES := Hid.in hH5.res
              have HBF : Hid (Below w.heap.size w w5) := below_step HW2.out hb6
              clear hH5 hfit ct a0 a1 a2 hb6
              generalize fs[k].1 = ck at *
              go_region
              all_goals
                go_wp2
                obtain ⟨w6, he6, hB6, hg6⟩ := set9 HRES.out
                rw [he6]
                have hld := load28 (w := w6.drew) hB6 rfl
                rw [HRR.out]
                exact bodyPost_ret (v := LineV (src0, false, er, ck + 1) nilV) (by simp [results, Tryz.results80, asAddr, hld]; rfl) rfl (LineIs.zero (below_draws (HBF.out.trans (below_grown hg6 (Nat.le_refl _) HBF.out.size)) 1))
        · have HMN := Hid.in (goL_many y ps fs k hltf hp)
          have HRR : Hid (R = (src0, false, 140, fs[k].1 + 1)) := by
            have : R = _ := HR.out.symm
            rw [this, HGO.out, HMN.out]; rfl
          have hkk : ¬ (k : Int) < (np : Int) := by rw [HNP.out] at hp; omega
          skip
          have hH5 := HH2.out.grow HBK.out
          obtain ⟨d0, d1, d2, d3, d4, d5, d6, d7, d8⟩ := blk9 hH5.res
          obtain ⟨e0, e1, e2, e3, e4, e5, e6, e7, e8⟩ := free9 hH5.res
          have cc := hH5.col k hltf
          have hne : ¬ cb = w.heap.size := hH5.cr
          have hne' : ¬ w.heap.size = cb := fun e => hne e.symm
          have HRES := Hid.in hH5.res
          have HBF : Hid (Below w.heap.size w wr) := below_step HW2.out HBK.out
          clear hH5 ct hp hnf HMN
          generalize fs[k].1 = ck at *
          go_wp2_with fail
          go_region
          all_goals
            go_wp2
            obtain ⟨w6, he6, hB6, hg6⟩ := set9 HRES.out
            rw [he6]
            have hld := load28 (w := w6.drew) hB6 rfl
            rw [HRR.out]
            exact bodyPost_ret (v := LineV (src0, false, 140, ck + 1) nilV) (by simp [results, Tryz.results80, asAddr, hld]; rfl) rfl (LineIs.zero (below_draws (HBF.out.trans (below_grown hg6 (Nat.le_refl _) HBF.out.size)) 1))
      · have hkn : k = n := by omega
        have hend := goL_end y ps fs k (by omega)
        have hgy : goL x ps fs = .inr y := HGO.out.trans hend
        have hH5 := HH2.out.grow HBK.out
        have HRES := Hid.in hH5.res
        have HBF : Hid (Below w.heap.size w wr) := below_step HW2.out HBK.out
        by_cases hle : n < np
        · have HRR : Hid (R = (src0, false, 140, s.size + 1)) := by
            have : R = _ := HR.out.symm
            rw [this, hgy, endL, if_pos (by rw [HNP.out]; omega)]; exact rfl
          clear hend hgy hH5 hnf
          subst hkn
          have hss : IntKind.i64.wrap ((s.size : Int) + 1) = (s.size : Int) + 1 := wrapK s.size (by omega)
          go_wp2_with (refine step_store_blk HRES.out rfl 57 (.tmp 2) (.tmp 121) rfl rfl rfl item0 rfl Tryz.sz57 rfl zero_one ?_; intro w6 hB6 hg6)
          have hld := load28 hB6 rfl
          rw [HRR.out]
          exact bodyPost_ret (v := LineV (src0, false, 140, s.size + 1) nilV) (by simp [results, Tryz.results80, asAddr, hld]; rfl) rfl (LineIs.zero (HBF.out.trans (below_grown hg6 (Nat.le_refl _) HBF.out.size)))
        · have HRR : Hid (R = (y, true, 0, 0)) := by
            have : R = _ := HR.out.symm
            rw [this, hgy, endL, if_neg (by rw [HNP.out]; omega)]; exact rfl
          have hI := item_any f0 fs x y ps ps.length fb (n + 1) fcap wr HFM.out HLN.out hgy (by rw [HNP.out]; omega) (by omega) g5 hl0 hfz (by rw [← HFE.out]; exact hH5.one) hH5.txt
          clear hend hgy hH5 hnf
          subst hkn
          go_wp2_with (first
            | (go_at_call 102; refine hI.mono ?_; rintro e w6 ⟨d6, rfl, hd6, hb6⟩; have HRES6 := Hid.in (HRES.out.grow hb6); have HBF6 := Hid.in (below_step HBF.out hb6); have HD6 := Hid.in (hd6.lowerV HBF.out.size); have HDN := Hid.in (hd6.not_low HRES.out.lt); obtain ⟨q6, m6, c6, rfl⟩ : ∃ q m c, d6 = .slice q m c := (by obtain ⟨q, cp, e, _⟩ := hd6.slice; exact ⟨q, _, cp, e⟩); clear hb6 hd6)
            | (refine step_store_blk HRES6.out rfl 57 (.tmp 2) (.tmp 126) rfl rfl rfl (cellsOf y (.slice q6 m6 c6)) rfl Tryz.sz57 rfl (cells_one _ _ _ _) ?_; intro w7 hB7 hg7))
          have hld := load28 hB7 rfl
          rw [HRR.out]
          exact bodyPost_ret (v := LineV (y, true, 0, 0) (.slice q6 m6 c6)) (by simp [results, Tryz.results80, asAddr, hld]; rfl) rfl ⟨_, rfl, HD6.out.grownOther hg7 (.inr HDN.out.symm), HBF6.out.trans (below_grown hg7 (Nat.le_refl _) HBF6.out.size)⟩

end Go.Proofs.YtkianldkbfjehaaGreatDoor

/- switchyardref04.Line: bytes behind the first field. -/
namespace Go.Proofs.YtkianldkbfjehaaGreatDoor
open Go.RowKit

set_option maxRecDepth 20000 in
set_option maxHeartbeats 2000000 in
theorem refLine_many (s : ByteArray) (w : World) (hs : (s.size + 1) * 16 ≤ 140737488355328) (c0 : Nat) (f0 : List UInt8) (fs : List (Nat × List UInt8)) (hf : fieldsL s.data.toList = (c0, f0) :: fs) (hl0 : fs.length + 1 ≤ 140737488355328) (hf0 : (bytesOf f0).size ≤ 281474976710656) (hfz : ∀ q ∈ fs, (bytesOf q.2).size ≤ 281474976710656) (hlab : labB f0 = false) (x : Src) (hask : askL f0 = some ([5], true)) (hform : formL f0 = some (x, (List.replicate 64 5), 1)) :
    Calls Tryz.prog 80 #[.string s] w (LineIs (endL fs.length 1 s.size (goL x (List.replicate 64 5) fs)) w) := by
  have hF := fun W => refFields_any s W hs
  rw [hf] at hF
  have hA := fun W => refAsks_any (bytesOf f0) W
  rw [bytesOf_list, hask] at hA
  have HFM := Hid.in hform
  have HLN := Hid.in hlab
  obtain ⟨R, hR⟩ : ∃ R, endL fs.length 1 s.size (goL x (List.replicate 64 5) fs) = R := ⟨_, rfl⟩
  rw [hR]
  have HR := Hid.in hR
  clear hR
  have HLB := Hid.in (lab_iff f0 _ rfl)
  have HLF := Hid.in hlab
  clear hf hlab hask hform
  obtain ⟨n, hn⟩ : ∃ n, n = fs.length := ⟨_, rfl⟩
  obtain ⟨F, hFE⟩ : ∃ F, F = bytesOf f0 := ⟨_, rfl⟩
  rw [← hFE] at HLB hf0 hA
  rw [← hn] at hl0
  have HFE := Hid.in hFE
  have HNN := Hid.in hn
  clear hFE hn
  go_enter Tryz.func80, Tryz.ntmps80
  go_upto_region 5 with (go_at_call 99; refine (hF _).mono ?_; rintro e w1 ⟨vf, vc, rfl, hvf, hvc, hb1⟩; have HB : Hid (Blk w1 w.heap.size 57 item0) := (Blk.new w 57 item0).grow hb1; have HW := Hid.in (below_step (new_alloc w (.cells item0 57)) hb1); obtain ⟨fb, fcap, cb, ccap, rfl, rfl, g1, g2, g3, g4, g5, g6, hcf, hcc, g7, g8⟩ := fields_N HNN.out HFE.out hvf hvc; have HH : Hid (RHead w1 w.heap.size fb cb F c0 fs) := ⟨HB.out, hcf, hcc, g7, g8, fun e => by rw [e] at g2; simp at g2; omega⟩; clear hvf hvc hb1 g7 g8 hcc HB g1 g2)
  clear hF
  go_cut [47] from 28 to 46 (fun b wx => b = .bool false ∧ wx = w1)
  case first =>
    by_cases h1 : 1 < F.size
    · have htn : ((F.size : Int) - 1).toNat = F.size - 1 := by omega
      by_cases h58 : F[F.size - 1]'(by omega) = 58
      · have h58' : ((F[F.size - 1]'(by omega)).toNat : Int) = 58 := by rw [h58]; rfl
        have hnm : ¬ NameP (F.extract 0 (F.size - 1)) := fun e => by have := HLB.out.2 ⟨h1, h58, e⟩; rw [HLF.out] at this; cases this
        have hN := fun W => refName_no (F.extract 0 (F.size - 1)) W (by simp; omega) hnm
        clear h58 hnm
        go_wp2_with (go_at_call 44; refine (hN _).mono ?_; rintro e w2 ⟨rfl, rfl⟩)
        go_meet
        case rel => exact ⟨rfl, rfl⟩
      · have h58' : ¬ ((F[F.size - 1]'(by omega)).toNat : Int) = 58 := fun e => h58 (by
          apply UInt8.toNat_inj.1
          have : ((58 : UInt8).toNat : Int) = 58 := rfl
          omega)
        clear h58
        go_wp2_with fail
        go_meet
        case rel => exact ⟨rfl, rfl⟩
    · have h1' : ¬ (1 : Int) < (F.size : Int) := by omega
      go_wp2_with fail
      go_meet
      case rel => exact ⟨rfl, rfl⟩
  case rest =>
    obtain ⟨rfl, rfl⟩ := hcut
    have hcf := HH.out.one
    go_upto_region 12 with (go_at_call 100; refine (hA _).mono ?_; rintro e w2 ⟨hb2, v2, rfl, hask2⟩; have HH2 := Hid.in (HH.out.grow hb2); have HW2 := Hid.in (below_step HW.out hb2); have HA2 := Hid.in hask2; obtain ⟨pa, hpa⟩ := hask2.shape;  subst hpa; clear hb2 hask2)
    clear hcf HH HW
    go_wp2_with fail
    go_loopw [12] (fun i wr => ∃ (k : Nat) (y : Src), k ≤ n ∧ i = .int .i64 ((k : Int) + 1) ∧ Below w2.heap.size w2 wr ∧ goL x (List.replicate 64 5) fs = goL y ((List.replicate 64 5).drop k) (fs.drop k)) (fun i _ => n + 1 - (intOf i).toNat)
    case atStart => exact ⟨0, x, Nat.zero_le _, rfl, below_self _, rfl⟩
    case round =>
      obtain ⟨k, y, hk, rfl, hbk, hgo⟩ := hrel
      have HBK := Hid.in hbk
      have HGO := Hid.in hgo
      clear hbk hgo
      have hwk := wrapK k (by omega)
      have hnf := HNN.out
      by_cases hlt : k < n
      · have hltf : k < fs.length := by omega
        have htn : ((k : Int) + 1).toNat = k + 1 := by omega
        have hk0 : (0 : Int) ≤ (k : Int) + 1 := by omega
        have hkn : (k : Int) + 1 < (n : Int) + 1 := by omega
        have ct := (HH2.out.grow HBK.out).txt k hltf
        by_cases hp : k < (List.replicate 64 5).length
        · have HST := Hid.in (goL_step y (List.replicate 64 5) fs k hltf hp)
          have hk64 : k < 64 := by simpa using hp
          have hfit := fun q => fits_any 5 (by decide) y (bytesOf fs[k].2) (hfz _ (List.getElem_mem hltf)) (wr.drewN q)
          rw [bytesOf_list] at hfit
          have HPK : Hid ((List.replicate 64 5)[k]'hp = 5) := List.getElem_replicate _
          have hst := HST.out
          rw [readL_five y _ _ HPK.out] at hst
          have HST2 := Hid.in hst
          clear hst HST HPK
          obtain ⟨v0, v1, v2', hv, hvc⟩ := ask_three 5
          rw [hv] at hfit
          obtain ⟨ga, hga, -, hgw, hac⟩ := HA2.out.cells (by decide)
          injection hga with hga
          subst hga
          have a0 : wr.cell? ⟨ga, 0, none⟩ = some v0 := (HBK.out.cell (p := ⟨ga, 0, none⟩) hgw).trans ((hac 0 (by decide) 0 (by decide)).trans (by rw [show [5][0] = 5 from rfl, hvc]; rfl))
          have a1 : wr.cell? ⟨ga, 1, none⟩ = some v1 := (HBK.out.cell (p := ⟨ga, 1, none⟩) hgw).trans ((hac 0 (by decide) 1 (by decide)).trans (by rw [show [5][0] = 5 from rfl, hvc]; rfl))
          have a2 : wr.cell? ⟨ga, 2, none⟩ = some v2' := (HBK.out.cell (p := ⟨ga, 2, none⟩) hgw).trans ((hac 0 (by decide) 2 (by decide)).trans (by rw [show [5][0] = 5 from rfl, hvc]; rfl))
          have h64 : (k : Int) + 1 ≤ 64 := by omega
          clear hac hvc hv
          generalize readL 5 y fs[k].2 = er at *
          obtain ⟨er, z⟩ := er
          simp only at hfit
          generalize bytesOf fs[k].2 = fk at *
          clear hnf hp
          by_cases he : er = 0
          · subst he
            go_wp2_with fail
            go_region_law (go_simp; go_at_call 101; refine (hfit 1).mono ?_; rintro e w5 ⟨rfl, hb5⟩; have HB5 := Hid.in hb5; clear hb5)
            all_goals
              go_wp2_with fail
              go_roundw
              case rel => exact ⟨k + 1, z, by omega, by go_num, (below_drewN HBK.out 1).trans (HB5.out.mono (by have := HBK.out.size; exact this)), by rw [HGO.out, HST2.out]; simp⟩
              case measure => simp [intOf]; omega
          · have HRR : Hid (R = (src0, false, er, fs[k].1 + 1)) := by
              have : R = _ := HR.out.symm
              rw [this, HGO.out, HST2.out, if_neg he]; rfl
            go_wp2_with fail
            go_region_law (go_simp; go_at_call 101; refine (hfit 1).mono ?_; rintro e w5 ⟨rfl, hb5⟩; have HB5 := Hid.in hb5; clear hb5)
            all_goals
              go_wp2_with fail
              have hb6 : Below w2.heap.size w2 w5 := (below_drewN HBK.out 1).trans (HB5.out.mono (by have := HBK.out.size; exact this))
              have hH5 := HH2.out.grow hb6
              obtain ⟨d0, d1, d2, d3, d4, d5, d6, d7, d8⟩ := blk9 hH5.res
              obtain ⟨e0, e1, e2, e3, e4, e5, e6, e7, e8⟩ := free9 hH5.res
              have cc := hH5.col k hltf
              have hne : ¬ cb = w.heap.size := hH5.cr
              have hne' : ¬ w.heap.size = cb := fun e => hne e.symm
              have HRES := Hid.in hH5.res
              have HBF : Hid (Below w.heap.size w w5) := below_step HW2.out hb6
              clear hH5 hfit ct a0 a1 a2 hb6
              generalize fs[k].1 = ck at *
              go_region
              all_goals
                go_wp2
                obtain ⟨w6, he6, hB6, hg6⟩ := set9 HRES.out
                rw [he6]
                have hld := load28 (w := w6.drew) hB6 rfl
                rw [HRR.out]
                exact bodyPost_ret (v := LineV (src0, false, er, ck + 1) nilV) (by simp [results, Tryz.results80, asAddr, hld]; rfl) rfl (LineIs.zero (below_draws (HBF.out.trans (below_grown hg6 (Nat.le_refl _) HBF.out.size)) 1))
        · have HMN := Hid.in (goL_many y (List.replicate 64 5) fs k hltf hp)
          have HRR : Hid (R = (src0, false, 140, fs[k].1 + 1)) := by
            have : R = _ := HR.out.symm
            rw [this, HGO.out, HMN.out]; rfl
          have hkk : ¬ (k : Int) < (1 : Int) := by simp at hp; omega
          have h64 : ¬ (k : Int) + 1 ≤ 64 := by simp at hp; omega
          have hH5 := HH2.out.grow HBK.out
          obtain ⟨d0, d1, d2, d3, d4, d5, d6, d7, d8⟩ := blk9 hH5.res
          obtain ⟨e0, e1, e2, e3, e4, e5, e6, e7, e8⟩ := free9 hH5.res
          have cc := hH5.col k hltf
          have hne : ¬ cb = w.heap.size := hH5.cr
          have hne' : ¬ w.heap.size = cb := fun e => hne e.symm
          have HRES := Hid.in hH5.res
          have HBF : Hid (Below w.heap.size w wr) := below_step HW2.out HBK.out
          clear hH5 ct hp hnf HMN
          generalize fs[k].1 = ck at *
          go_wp2_with fail
          go_region
          all_goals
            go_wp2
            obtain ⟨w6, he6, hB6, hg6⟩ := set9 HRES.out
            rw [he6]
            have hld := load28 (w := w6.drew) hB6 rfl
            rw [HRR.out]
            exact bodyPost_ret (v := LineV (src0, false, 140, ck + 1) nilV) (by simp [results, Tryz.results80, asAddr, hld]; rfl) rfl (LineIs.zero (below_draws (HBF.out.trans (below_grown hg6 (Nat.le_refl _) HBF.out.size)) 1))
      · have hkn : k = n := by omega
        have hend := goL_end y (List.replicate 64 5) fs k (by omega)
        have hgy : goL x (List.replicate 64 5) fs = .inr y := HGO.out.trans hend
        have hH5 := HH2.out.grow HBK.out
        have HRES := Hid.in hH5.res
        have HBF : Hid (Below w.heap.size w wr) := below_step HW2.out HBK.out
        by_cases hle : n < 1
        · have HRR : Hid (R = (src0, false, 140, s.size + 1)) := by
            have : R = _ := HR.out.symm
            rw [this, hgy, endL, if_pos (by omega)]; exact rfl
          clear hend hgy hH5 hnf
          subst hkn
          have hss : IntKind.i64.wrap ((s.size : Int) + 1) = (s.size : Int) + 1 := wrapK s.size (by omega)
          go_wp2_with (refine step_store_blk HRES.out rfl 57 (.tmp 2) (.tmp 121) rfl rfl rfl item0 rfl Tryz.sz57 rfl zero_one ?_; intro w6 hB6 hg6)
          have hld := load28 hB6 rfl
          rw [HRR.out]
          exact bodyPost_ret (v := LineV (src0, false, 140, s.size + 1) nilV) (by simp [results, Tryz.results80, asAddr, hld]; rfl) rfl (LineIs.zero (HBF.out.trans (below_grown hg6 (Nat.le_refl _) HBF.out.size)))
        · have HRR : Hid (R = (y, true, 0, 0)) := by
            have : R = _ := HR.out.symm
            rw [this, hgy, endL, if_neg (by omega)]; exact rfl
          have hI := item_any f0 fs x y (List.replicate 64 5) 1 fb (n + 1) fcap wr HFM.out HLN.out hgy (by omega) (by omega) g5 hl0 hfz (by rw [← HFE.out]; exact hH5.one) hH5.txt
          clear hend hgy hH5 hnf
          subst hkn
          go_wp2_with (first
            | (go_at_call 102; refine hI.mono ?_; rintro e w6 ⟨d6, rfl, hd6, hb6⟩; have HRES6 := Hid.in (HRES.out.grow hb6); have HBF6 := Hid.in (below_step HBF.out hb6); have HD6 := Hid.in (hd6.lowerV HBF.out.size); have HDN := Hid.in (hd6.not_low HRES.out.lt); obtain ⟨q6, m6, c6, rfl⟩ : ∃ q m c, d6 = .slice q m c := (by obtain ⟨q, cp, e, _⟩ := hd6.slice; exact ⟨q, _, cp, e⟩); clear hb6 hd6)
            | (refine step_store_blk HRES6.out rfl 57 (.tmp 2) (.tmp 126) rfl rfl rfl (cellsOf y (.slice q6 m6 c6)) rfl Tryz.sz57 rfl (cells_one _ _ _ _) ?_; intro w7 hB7 hg7))
          have hld := load28 hB7 rfl
          rw [HRR.out]
          exact bodyPost_ret (v := LineV (y, true, 0, 0) (.slice q6 m6 c6)) (by simp [results, Tryz.results80, asAddr, hld]; rfl) rfl ⟨_, rfl, HD6.out.grownOther hg7 (.inr HDN.out.symm), HBF6.out.trans (below_grown hg7 (Nat.le_refl _) HBF6.out.size)⟩

end Go.Proofs.YtkianldkbfjehaaGreatDoor

/- switchyardref04.Line answers what source.Line does, for every line. -/
namespace Go.Proofs.YtkianldkbfjehaaGreatDoor
open Go.RowKit

theorem nm_last (o : Nat) (h1 : 1 ≤ o) (h2 : o < 17) : labB (nm o).data.toList = false := by
  have : o = 1 ∨ o = 2 ∨ o = 3 ∨ o = 4 ∨ o = 5 ∨ o = 6 ∨ o = 7 ∨ o = 8 ∨ o = 9 ∨ o = 10 ∨ o = 11 ∨ o = 12 ∨ o = 13 ∨ o = 14 ∨ o = 15 ∨ o = 16 := by omega
  rcases this with rfl | rfl | rfl | rfl | rfl | rfl | rfl | rfl | rfl | rfl | rfl | rfl | rfl | rfl | rfl | rfl <;> decide
theorem wd_last (i : Nat) (h : i < 5) : labB (wd i).data.toList = false := by
  have : i = 0 ∨ i = 1 ∨ i = 2 ∨ i = 3 ∨ i = 4 := by omega
  rcases this with rfl | rfl | rfl | rfl | rfl <;> decide
theorem lab_dropLast (f0 : List UInt8) : (bytesOf f0).extract 0 ((bytesOf f0).size - 1) = bytesOf f0.dropLast := by
  rw [extract_piece, bytesOf_list, bytesOf_size]
  unfold piece
  rw [List.drop_zero, Nat.sub_zero, List.dropLast_eq_take]
theorem plO_short (o : Nat) : (plO o).length ≤ 2 := plO_len o

theorem refLine_any (s : ByteArray) (w : World) (hs : (s.size + 1) * 16 ≤ 140737488355328) :
    Calls Tryz.prog 80 #[.string s] w (LineIs (lineL s.data.toList) w) := by
  have hl := Lib.size_eq s
  unfold lineL
  have hc := fields_count s.data.toList
  have hfit := fields_fit s.data.toList
  cases hf : fieldsL s.data.toList with
  | nil => exact refLine_empty s w hs hf
  | cons q fs =>
    obtain ⟨c0, f0⟩ := q
    rw [hf] at hc hfit
    simp only [List.length_cons] at hc
    have h0 := hfit (c0, f0) (by simp)
    simp only at h0 ⊢
    have hf0 : (bytesOf f0).size ≤ 281474976710656 := by rw [bytesOf_size]; omega
    have hfz : ∀ q ∈ fs, (bytesOf q.2).size ≤ 281474976710656 := fun q hq => by
      have := hfit q (List.mem_cons_of_mem _ hq)
      rw [bytesOf_size]; omega
    have hend : ∀ n least r, endL n least s.size r = (match r with | .inl (e, c) => (src0, false, e, c) | .inr y => if n < least then (src0, false, 140, s.data.toList.length + 1) else (y, true, 0, 0)) := fun n least r => by
      rw [← hl]; cases r <;> rfl
    cases hw : wdL f0 with
    | some i =>
      obtain ⟨hi, hb⟩ := wd_of hw
      have hlb : labB f0 = false := by
        have := wd_last i hi
        rw [← hb, bytesOf_list] at this; exact this
      have hfm : formL f0 = some (formW i) := by unfold formL; rw [hw]
      rw [hfm]
      have : i = 0 ∨ i = 1 ∨ i = 2 ∨ i = 3 ∨ i = 4 := by omega
      rcases this with rfl | rfl | rfl | rfl | rfl
      · have := refLine_once s w hs c0 f0 fs hf (by omega) hf0 hfz hlb (srcK 3) [3, 4] (by unfold askL; rw [hw]; rfl) hfm (by decide) (by decide)
        rw [hend] at this; exact this
      · have := refLine_many s w hs c0 f0 fs hf (by omega) hf0 hfz hlb (srcK 4) (by unfold askL; rw [hw]; rfl) hfm
        rw [hend] at this; exact this
      · have := refLine_once s w hs c0 f0 fs hf (by omega) hf0 hfz hlb (srcK 5) [6] (by unfold askL; rw [hw]; rfl) hfm (by decide) (by decide)
        rw [hend] at this; exact this
      · have := refLine_once s w hs c0 f0 fs hf (by omega) hf0 hfz hlb (srcK 6) [7] (by unfold askL; rw [hw]; rfl) hfm (by decide) (by decide)
        rw [hend] at this; exact this
      · have := refLine_once s w hs c0 f0 fs hf (by omega) hf0 hfz hlb (srcK 7) [3] (by unfold askL; rw [hw]; rfl) hfm (by decide) (by decide)
        rw [hend] at this; exact this
    | none =>
      cases ho : opL f0 with
      | some o =>
        obtain ⟨h1, h2, hb⟩ := op_of ho
        have hlb : labB f0 = false := by
          have := nm_last o h1 h2
          rw [← hb, bytesOf_list] at this; exact this
        have hfm : formL f0 = some (formO o) := by unfold formL; rw [hw]; simp only [ho]
        rw [hfm]
        have := refLine_once s w hs c0 f0 fs hf (by omega) hf0 hfz hlb { srcK 2 with o := o } (plO o) (by unfold askL; rw [hw]; simp only [ho]) hfm (plO_lt o) (plO_len o)
        rw [hend] at this; exact this
      | none =>
        have hask : askL f0 = none := by unfold askL; rw [hw]; simp only [ho]
        cases hlb : labB f0 with
        | false =>
          have hfm : formL f0 = none := by
            unfold formL; rw [hw]; simp only [ho]
            rw [if_neg]
            rintro ⟨e1, e2⟩
            unfold labB at hlb
            rw [e2] at hlb
            simp [e1] at hlb
          rw [hfm]
          exact refLine_none s w hs c0 f0 fs hf (by omega) hf0 hlb hask
        | true =>
          have hfm : formL f0 = some ({ srcK 1 with name := bytesOf f0.dropLast }, [], 0) := by
            unfold formL; rw [hw]; simp only [ho]
            unfold labB at hlb
            rw [Bool.and_eq_true, decide_eq_true_eq] at hlb
            rw [if_pos hlb]
          rw [hfm]
          cases fs with
          | nil =>
            have := refLine_label1 s w hs c0 f0 [] hf (by simp) hf0 hlb rfl
            rw [lab_dropLast] at this
            exact this
          | cons q fs =>
            obtain ⟨c1, f1⟩ := q
            exact refLine_label2 s w hs c0 f0 ((c1, f1) :: fs) hf (by simp at hc ⊢; omega) hf0 hlb (by simp) c1 rfl

end Go.Proofs.YtkianldkbfjehaaGreatDoor
