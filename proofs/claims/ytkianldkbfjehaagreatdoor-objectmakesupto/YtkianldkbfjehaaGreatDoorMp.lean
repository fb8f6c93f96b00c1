/- Texts put together: LabL, MidL, RefPl, RefBy, RMkA. -/
import Derived.Test.YtkianldkbfjehaaGreatDoorKzt
import Derived.Test.YtkianldkbfjehaaGreatDoorKzz
import Derived.Test.YtkianldkbfjehaaGreatDoorKzy
import Derived.Test.YtkianldkbfjehaaGreatDoorMv
import Derived.Test.YtkianldkbfjehaaGreatDoorKu
import Derived.Test.YtkianldkbfjehaaGreatDoorKt
import Derived.Test.YtkianldkbfjehaaGreatDoorMb
import Derived.Test.YtkianldkbfjehaaGreatDoorKzg

/- The place of the first label of a name; switchyardref06.label. -/
namespace Go.Proofs.YtkianldkbfjehaaGreatDoor
open Go.RowKit

/-- the first label of this name, from an item on; -1: none -/
def labR (s : ByteArray) : Nat → List Src → Int
  | _, [] => -1
  | i, x :: xs => if x.k = 1 ∧ x.name = s then i else labR s (i + 1) xs
theorem labR_step (s : ByteArray) (xs : List Src) (k : Nat) (h : k < xs.length) : labR s k (xs.drop k) = if xs[k].k = 1 ∧ xs[k].name = s then (k : Int) else labR s (k + 1) (xs.drop (k + 1)) := by
  rw [List.drop_eq_getElem_cons h]; rfl
theorem labR_none (s : ByteArray) : ∀ (xs : List Src) (i : Nat), s ∉ labN xs → labR s i xs = -1
  | [], _, _ => rfl
  | x :: xs, i, h => by
    unfold labN at h
    unfold labR
    by_cases hk : x.k = 1
    · rw [if_pos hk] at h
      rw [if_neg (fun e => h (by rw [e.2]; simp))]
      exact labR_none s xs (i + 1) (fun e => h (List.mem_cons_of_mem _ e))
    · rw [if_neg hk] at h
      rw [if_neg (fun e => hk e.1)]
      exact labR_none s xs (i + 1) h
theorem labR_some (s : ByteArray) : ∀ (xs : List Src) (i : Nat), s ∈ labN xs → ∃ j, labR s i xs = ((i + j : Nat) : Int) ∧ j < xs.length
  | [], _, h => by simp [labN] at h
  | x :: xs, i, h => by
    unfold labN at h
    unfold labR
    by_cases hk : x.k = 1 ∧ x.name = s
    · rw [if_pos hk]; exact ⟨0, rfl, by simp⟩
    · rw [if_neg hk]
      have h' : s ∈ labN xs := by
        by_cases h1 : x.k = 1
        · rw [if_pos h1] at h
          rcases List.mem_cons.1 h with e | e
          · exact absurd ⟨h1, e.symm⟩ hk
          · exact e
        · rw [if_neg h1] at h; exact h
      obtain ⟨j, e, hj⟩ := labR_some s xs (i + 1) h'
      exact ⟨j + 1, by rw [e, show i + 1 + j = i + (j + 1) by omega], by simpa using hj⟩
/-- a global's label is not there -/
theorem labR_neg (s : ByteArray) (xs : List Src) : labR s 0 xs < 0 ↔ inB s (labN xs) = false := by
  cases hb : inB s (labN xs) with
  | false =>
    have : s ∉ labN xs := fun e => by rw [(inB_iff _ _).2 e] at hb; cases hb
    rw [labR_none s xs 0 this]
    simp
  | true =>
    obtain ⟨j, e, -⟩ := labR_some s xs 0 ((inB_iff _ _).1 hb)
    rw [e]
    simp
theorem labR_two (s : ByteArray) : ∀ (ys zs : List Src) (i : Nat), s ∉ labN ys → labR s i (ys ++ zs) = labR s (i + ys.length) zs
  | [], _, _, _ => rfl
  | y :: ys, zs, i, h => by
    unfold labN at h
    rw [List.cons_append]
    unfold labR
    have hk : ¬ (y.k = 1 ∧ y.name = s) := fun e => h (by rw [if_pos e.1, e.2]; simp)
    rw [if_neg hk, labR_two s ys zs (i + 1) (fun e => h (by split <;> simp [e]))]
    rw [List.length_cons, show i + 1 + ys.length = i + (ys.length + 1) by omega]
    cases zs <;> rfl
theorem labR_front (s : ByteArray) : ∀ (ys zs : List Src) (i : Nat), s ∈ labN ys → labR s i (ys ++ zs) = labR s i ys
  | [], _, _, h => by simp [labN] at h
  | y :: ys, zs, i, h => by
    rw [List.cons_append]
    unfold labR
    by_cases hk : y.k = 1 ∧ y.name = s
    · rw [if_pos hk, if_pos hk]
    · rw [if_neg hk, if_neg hk]
      refine labR_front s ys zs (i + 1) ?_
      unfold labN at h
      by_cases h1 : y.k = 1
      · rw [if_pos h1] at h
        rcases List.mem_cons.1 h with e | e
        · exact absurd ⟨h1, e.symm⟩ hk
        · exact e
      · rw [if_neg h1] at h; exact h
/-- a label that is not the first of its name -/
theorem labR_at (xs : List Src) (i : Nat) (h : i < xs.length) (hk : xs[i].k = 1) : labR xs[i].name 0 xs = i ↔ inB xs[i].name (labN (xs.take i)) = false := by
  have hx : xs = xs.take i ++ xs[i] :: xs.drop (i + 1) := by rw [← List.drop_eq_getElem_cons h, List.take_append_drop]
  have hl : (xs.take i).length = i := by rw [List.length_take]; omega
  cases hb : inB xs[i].name (labN (xs.take i)) with
  | false =>
    have hn : xs[i].name ∉ labN (xs.take i) := fun e => by rw [(inB_iff _ _).2 e] at hb; cases hb
    have : labR xs[i].name 0 (xs.take i ++ xs[i] :: xs.drop (i + 1)) = i := by
      rw [labR_two _ _ _ 0 hn, hl]
      unfold labR
      rw [if_pos ⟨hk, rfl⟩, Nat.zero_add]
    rw [← hx] at this
    simp [this]
  | true =>
    obtain ⟨j, e, hj⟩ := labR_some xs[i].name (xs.take i) 0 ((inB_iff _ _).1 hb)
    have : labR xs[i].name 0 (xs.take i ++ xs[i] :: xs.drop (i + 1)) = ((0 + j : Nat) : Int) := by rw [labR_front _ _ _ 0 ((inB_iff _ _).1 hb), e]
    rw [← hx] at this
    rw [this]
    simp
    omega

set_option maxRecDepth 20000 in
set_option maxHeartbeats 1000000 in
theorem label_any (p : Option Addr) (n c : Nat) (s : ByteArray) (xs : List Src) (w : World) (hn : xs.length = n) (hn6 : n ≤ 1048576) (hx : Items w p xs) :
    Calls Tryz.prog 30 #[.slice p n c, .string s] w fun E w' => E = .returned (.int .i64 (labR s 0 xs)) ∧ w' = w := by
  have HX := Hid.in hx
  have HN := Hid.in hn
  clear hx hn
  obtain ⟨r, hr⟩ : ∃ r, labR s 0 xs = r := ⟨_, rfl⟩
  rw [hr]
  have HR := Hid.in hr
  clear hr
  go_enter Tryz.func30, Tryz.ntmps30
  go_wp2_with fail
  go_loop [5] (fun vi => ∃ k : Nat, vi = .int .i64 k ∧ k ≤ n ∧ labR s 0 xs = labR s k (xs.drop k)) (fun vi => n - (intOf vi).toNat)
  case atStart => exact ⟨0, rfl, Nat.zero_le _, rfl⟩
  case round =>
    obtain ⟨k, rfl, hk, hrs⟩ := hrel
    have HRS := Hid.in hrs
    clear hrs
    by_cases hlt : k < n
    · have hkl : k < xs.length := by rw [HN.out]; exact hlt
      obtain ⟨b, o, rfl, hc⟩ := HX.out (by omega)
      obtain ⟨qd, cq, hRg, -, hfit⟩ := hc k hkl
      have HST := Hid.in (labR_step s xs k hkl)
      have i0 : w.cell? ⟨b, o + k * 9, none⟩ = some (.int .u8 xs[k].k) := hRg 0 _ rfl
      have i1 : w.cell? ⟨b, o + k * 9 + 1, none⟩ = some (.string xs[k].name) := hRg 1 _ rfl
      clear hc hRg hfit
      generalize xs[k] = y at *
      by_cases h1 : y.k = 1
      · rw [h1] at i0
        by_cases he : y.name = s
        · have HV : Hid (r = (k : Int)) := by
            have : r = (k : Int) := by rw [← HR.out, HRS.out, HST.out, if_pos ⟨h1, he⟩]
            exact this
          rw [he] at i1
          clear h1 he
          go_wp2_with fail
          go_ret
          exact ⟨by rw [HV.out]; rfl, rfl⟩
        · have hsl := text_ne3 he
          have hsb : (y.name.toList == s.toList) = false := by simpa using hsl
          have hsd : decide (y.name.toList = s.toList) = false := decide_eq_false hsl
          have HV : Hid (labR s 0 xs = labR s (k + 1) (xs.drop (k + 1))) := by
            have : labR s 0 xs = labR s (k + 1) (xs.drop (k + 1)) := by rw [HRS.out, HST.out, if_neg (fun e => he e.2)]
            exact this
          clear h1
          go_wp2_with fail
          go_round
          case rel => exact ⟨k + 1, by go_num, by omega, HV.out⟩
          case measure => simp [intOf]; omega
      · have HV : Hid (labR s 0 xs = labR s (k + 1) (xs.drop (k + 1))) := by
          have : labR s 0 xs = labR s (k + 1) (xs.drop (k + 1)) := by rw [HRS.out, HST.out, if_neg (fun e => h1 e.1)]
          exact this
        have hb1 : (y.k == 1) = false := by simpa using h1
        go_wp2_with fail
        go_round
        case rel => exact ⟨k + 1, by go_num, by omega, HV.out⟩
        case measure => simp [intOf]; omega
    · have HV : Hid (r = -1) := by
        have : r = -1 := by rw [← HR.out, HRS.out, List.drop_eq_nil_of_le (by rw [HN.out]; omega)]; rfl
        exact this
      go_wp2_with fail
      go_ret
      exact ⟨by rw [HV.out]; rfl, rfl⟩

end Go.Proofs.YtkianldkbfjehaaGreatDoor

/- switchyardref06.Make, lists: what has been made when so many items are gone through. -/
namespace Go.Proofs.YtkianldkbfjehaaGreatDoor
open Go.RowKit

theorem fxs_step : ∀ (xs : List Src) (ps : List Nat) (k : Nat) (h : k < xs.length) (h' : k < ps.length), fxsL (xs.take (k + 1)) (ps.take (k + 1)) = fxsL (xs.take k) (ps.take k) ++ match askK xs[k].o with | some kd => [⟨kd, ((ps[k] + sizeL xs[k] ps[k] : Nat) : Int) - 4, xs[k].name⟩] | none => []
  | x :: xs, a :: bs, 0, _, _ => by
    simp only [List.take_succ_cons, List.take_zero, fxsL, List.getElem_cons_zero, List.nil_append]
    cases askK x.o <;> rfl
  | x :: xs, a :: bs, k + 1, h, h' => by
    have ih := fxs_step xs bs k (by simpa using h) (by simpa using h')
    simp only [List.take_succ_cons, fxsL, List.getElem_cons_succ]
    rw [ih]
    cases askK x.o <;> rfl
theorem mks_step : ∀ (xs : List Src) (ps : List Nat) (k : Nat) (h : k < xs.length) (h' : k < ps.length), mksL (xs.take (k + 1)) (ps.take (k + 1)) = mksL (xs.take k) (ps.take k) ++ if xs[k].k = 3 then [⟨ps[k], xs[k].name, xs[k].tg⟩] else []
  | x :: xs, a :: bs, 0, _, _ => by
    simp [mksL]
  | x :: xs, a :: bs, k + 1, h, h' => by
    have ih := mks_step xs bs k (by simpa using h) (by simpa using h')
    simp only [List.take_succ_cons, mksL, List.getElem_cons_succ]
    rw [ih]
    by_cases hx : x.k = 3
    · rw [if_pos hx, if_pos hx]; rfl
    · rw [if_neg hx, if_neg hx]
theorem sys_step (gs : List ByteArray) (xs : List Src) (ps : List Nat) (k : Nat) (h : k < xs.length) (h' : k < ps.length) : sysL gs (xs.take (k + 1)) (ps.take (k + 1)) = sysL gs (xs.take k) (ps.take k) ++ if xs[k].k = 1 then [⟨xs[k].name, ps[k], inB xs[k].name gs⟩] else [] := by
  unfold sysL
  rw [labP_take xs ps k h h', List.map_append]
  by_cases hx : xs[k].k = 1
  · rw [if_pos hx, if_pos hx]; rfl
  · rw [if_neg hx, if_neg hx]; rfl

def midO (xs : List Src) (k : Nat) : Ob := ⟨bytesL 0 xs, sysL (gloN xs) (xs.take k) ((placesL 0 xs).1.take k), fxsL (xs.take k) ((placesL 0 xs).1.take k), mksL (xs.take k) ((placesL 0 xs).1.take k)⟩
theorem mid_zero (xs : List Src) : midO xs 0 = ⟨bytesL 0 xs, [], [], []⟩ := by
  unfold midO
  simp [sysL, labP, fxsL, mksL]
theorem mid_end (xs : List Src) : midO xs xs.length = madeO xs := by
  have hp : (placesL 0 xs).1.take xs.length = (placesL 0 xs).1 := List.take_of_length_le (by rw [places_length]; exact Nat.le_refl _)
  unfold midO madeO
  rw [hp, List.take_length]
/-- the item at k, and what comes to the object by it -/
theorem mid_label {xs : List Src} {k : Nat} (h : k < xs.length) (hk : xs[k].k = 1) (hm : mayB xs[k] = true) : midO xs (k + 1) = ⟨(midO xs k).bs, (midO xs k).sy ++ [⟨xs[k].name, (placesL 0 (xs.take k)).2, inB xs[k].name (gloN xs)⟩], (midO xs k).fx, (midO xs k).mk_⟩ := by
  have hp : k < (placesL 0 xs).1.length := by rw [places_length]; exact h
  have hg : (placesL 0 xs).1[k] = (placesL 0 (xs.take k)).2 := by
    have := place_get xs 0 k h
    rw [List.getElem?_eq_getElem hp] at this
    exact Option.some.inj this
  have hno : askK xs[k].o = none := by rw [(may_names hm).op0 (by omega)]; rfl
  unfold midO
  rw [sys_step _ _ _ k h hp, fxs_step _ _ k h hp, mks_step _ _ k h hp, if_pos hk, if_neg (by omega), hno, hg]
  simp
theorem mid_mark {xs : List Src} {k : Nat} (h : k < xs.length) (hk : xs[k].k = 3) (hm : mayB xs[k] = true) : midO xs (k + 1) = ⟨(midO xs k).bs, (midO xs k).sy, (midO xs k).fx, (midO xs k).mk_ ++ [⟨(placesL 0 (xs.take k)).2, xs[k].name, xs[k].tg⟩]⟩ := by
  have hp : k < (placesL 0 xs).1.length := by rw [places_length]; exact h
  have hg : (placesL 0 xs).1[k] = (placesL 0 (xs.take k)).2 := by
    have := place_get xs 0 k h
    rw [List.getElem?_eq_getElem hp] at this
    exact Option.some.inj this
  have hno : askK xs[k].o = none := by rw [(may_names hm).op0 (by omega)]; rfl
  unfold midO
  rw [sys_step _ _ _ k h hp, fxs_step _ _ k h hp, mks_step _ _ k h hp, if_pos hk, if_neg (by omega), hno, hg]
  simp
theorem mid_fix {xs : List Src} {k : Nat} (h : k < xs.length) (hm : mayB xs[k] = true) {kd : Int} (ha : askK xs[k].o = some kd) : midO xs (k + 1) = ⟨(midO xs k).bs, (midO xs k).sy, (midO xs k).fx ++ [⟨kd, (((placesL 0 (xs.take k)).2 + sizeL xs[k] (placesL 0 (xs.take k)).2 : Nat) : Int) - 4, xs[k].name⟩], (midO xs k).mk_⟩ := by
  have hp : k < (placesL 0 xs).1.length := by rw [places_length]; exact h
  have hg : (placesL 0 xs).1[k] = (placesL 0 (xs.take k)).2 := by
    have := place_get xs 0 k h
    rw [List.getElem?_eq_getElem hp] at this
    exact Option.some.inj this
  have hk : xs[k].k = 2 := (ask_op hm ha).1
  unfold midO
  rw [sys_step _ _ _ k h hp, fxs_step _ _ k h hp, mks_step _ _ k h hp, if_neg (by omega), if_neg (by omega), ha, hg]
  simp
theorem mid_other {xs : List Src} {k : Nat} (h : k < xs.length) (h1 : xs[k].k ≠ 1) (h3 : xs[k].k ≠ 3) (ha : askK xs[k].o = none) : midO xs (k + 1) = midO xs k := by
  have hp : k < (placesL 0 xs).1.length := by rw [places_length]; exact h
  unfold midO
  rw [sys_step _ _ _ k h hp, fxs_step _ _ k h hp, mks_step _ _ k h hp, if_neg h1, if_neg h3, ha]
  simp

theorem dup_go (xs : List Src) (k : Nat) (h : k < xs.length) (hb : xs[k].k = 1 → labR xs[k].name 0 xs = k) : dupAt k (labN (xs.take k)) (xs.drop k) = dupAt (k + 1) (labN (xs.take (k + 1))) (xs.drop (k + 1)) := by
  rw [dup_step _ _ _ h, labN_take _ _ h]
  by_cases hk : xs[k].k = 1
  · rw [if_pos hk, if_pos hk, if_neg (by rw [(labR_at xs k h hk).1 (hb hk)]; decide)]
  · rw [if_neg hk, if_neg hk, List.append_nil]
theorem dup_hit (xs : List Src) (k : Nat) (h : k < xs.length) (hk : xs[k].k = 1) (hb : labR xs[k].name 0 xs ≠ k) : dupAt k (labN (xs.take k)) (xs.drop k) = some k := by
  rw [dup_step _ _ _ h, if_pos hk, if_pos]
  cases hi : inB xs[k].name (labN (xs.take k)) with
  | true => rfl
  | false => exact absurd ((labR_at xs k h hk).2 hi) hb
theorem und_go (xs : List Src) (k : Nat) (h : k < xs.length) (hb : xs[k].k = 7 → ¬ labR xs[k].name 0 xs < 0) : undAt k (labN xs) (xs.drop k) = undAt (k + 1) (labN xs) (xs.drop (k + 1)) := by
  rw [und_step _ _ _ h, if_neg]
  rintro ⟨hk, hi⟩
  exact hb hk ((labR_neg _ _).2 hi)
theorem und_hit (xs : List Src) (k : Nat) (h : k < xs.length) (hk : xs[k].k = 7) (hb : labR xs[k].name 0 xs < 0) : undAt k (labN xs) (xs.drop k) = some k := by
  rw [und_step _ _ _ h, if_pos ⟨hk, (labR_neg _ _).1 hb⟩]
/-- the inner loop: is it a global? -/
theorem glo_go (s : ByteArray) (xs : List Src) (k : Nat) (h : k < xs.length) : inB s (gloN (xs.take (k + 1))) = (inB s (gloN (xs.take k)) || decide (xs[k].k = 7 ∧ xs[k].name = s)) := by
  rw [gloN_take _ _ h]
  by_cases hk : xs[k].k = 7
  · rw [if_pos hk, inB_snoc]
    congr 1
    simp [hk, eq_comm]
  · rw [if_neg hk, List.append_nil]
    simp [hk]
theorem form_ask {x : Src} (hm : mayB x = true) (hk : x.k = 2) : ∃ o : Nat, x.o = o ∧ 1 ≤ o ∧ o < 17 ∧ (∀ a, sizeL x a = lenN o) ∧ ((x.name = noText ∧ askK x.o = none) ∨ (x.name ≠ noText ∧ askK x.o = some (if hD o = true then 2 else 1))) := by
  have hgood : rightB x.o.toNat x.a x.b x.m = true := by
    rcases may_good hm with g | ⟨_, g⟩ | g | ⟨g, -⟩ | ⟨g, -⟩ | ⟨g, -⟩ | g
    · omega
    · exact g
    · omega
    · omega
    · omega
    · omega
    · omega
  have hr := (rightB_parts hgood).1
  have ho : x.o = (x.o.toNat : Nat) := by omega
  have hN := may_names hm
  refine ⟨x.o.toNat, ho, hr.1, hr.2, fun a => ?_, ?_⟩
  · have hp : pieceL x a = encL x.o.toNat x.a x.b x.m := by
      unfold pieceL saidL
      rw [if_neg (by omega), if_pos hk]
    rw [← piece_size, hp, encL_length _ _ _ _ (by omega)]
  · cases ha : askK x.o with
    | none => exact .inl ⟨hN.non hk (by rw [ha]; rfl), rfl⟩
    | some kd =>
      have hn := (hN.ask hk (by rw [ha]; rfl)).1
      refine .inr ⟨fun e => ?_, ?_⟩
      · rw [e] at hn
        exact absurd hn.2.1 (by decide)
      · generalize x.o.toNat = o at *
        rw [ho] at ha
        clear hn hgood ho
        obtain ⟨h1, h2⟩ := hr
        obtain rfl | rfl | rfl | rfl | rfl | rfl | rfl | rfl | rfl | rfl | rfl | rfl | rfl | rfl | rfl | rfl : o = 1 ∨ o = 2 ∨ o = 3 ∨ o = 4 ∨ o = 5 ∨ o = 6 ∨ o = 7 ∨ o = 8 ∨ o = 9 ∨ o = 10 ∨ o = 11 ∨ o = 12 ∨ o = 13 ∨ o = 14 ∨ o = 15 ∨ o = 16 := by omega
        all_goals first | (rw [← ha]; rfl) | (exact absurd (ha.symm.trans (show askK _ = none from rfl)) (by simp))
end Go.Proofs.YtkianldkbfjehaaGreatDoor

/- switchyardref05.Places answers what layout.Places does. -/
namespace Go.Proofs.YtkianldkbfjehaaGreatDoor
open Go.RowKit

theorem nums_len (l : List Nat) : (nums (ints l)).length = l.length := by simp [nums, ints]
theorem nums_snoc (l : List Nat) (a : Nat) : nums (ints (l ++ [a])) = nums (ints l) ++ [.int .i64 a] := by simp [nums, ints]

set_option maxRecDepth 20000 in
set_option maxHeartbeats 2000000 in
theorem refPlaces_any (p : Option Addr) (n c : Nat) (xs : List Src) (w : World) (hn : xs.length = n) (hn63 : n ≤ 9223372036854775807) (hx : Items w p xs) :
    Calls Tryz.prog 28 #[.slice p n c] w (PlacesIs xs w) := by
  have hC := refCheck_any p n c xs w hn hn63 hx
  by_cases hck : (checkL xs).1 = 0
  · obtain ⟨hl4, hmay⟩ := check_good hck
    rw [hck] at hC
    have HX := Hid.in hx
    have HN := Hid.in hn
    have HMAY := Hid.in hmay
    have HCK := Hid.in hck
    have hn4 : n ≤ 4096 := by omega
    clear hx hn hmay hl4 hck
    generalize (checkL xs).2 = r2 at *
    go_enter Tryz.func28, Tryz.ntmps28
    go_wp2_with (go_at_call 27; refine hC.mono ?_; rintro E w1 ⟨rfl, hb1⟩; have HB1 := Hid.in hb1; clear hb1 hC)
    go_loopw [7, 8, 9] (fun v a i wr => ∃ k : Nat, k ≤ n ∧ i = .int .i64 k ∧ a = .int .i64 ((placesL 0 (xs.take k)).2 : Nat) ∧ (placesL 0 (xs.take k)).2 ≤ 65536 ∧ GOwnV 3 wr w.heap.size v (nums (ints (placesL 0 (xs.take k)).1)) ∧ Below w.heap.size w wr) (fun _ _ i _ => n - (intOf i).toNat)
    case atStart => exact ⟨0, Nat.zero_le _, rfl, rfl, Nat.zero_le _, GOwnV.nil _ _ _, HB1.out⟩
    case round =>
      obtain ⟨k, hk, rfl, rfl, ha, hV, hb⟩ := hrel
      have HV := Hid.in hV
      have HB := Hid.in hb
      obtain ⟨pv, cv, hv, -, -, -⟩ := hV.slice
      rw [nums_len, places_length, List.length_take, HN.out, Nat.min_eq_left hk] at hv
      subst hv
      clear hV hb
      by_cases hlt : k < n
      · have hkx : k < xs.length := by rw [HN.out]; exact hlt
        obtain ⟨b, o, hp, hc⟩ := HX.out (by omega)
        subst hp
        have hst := place_step xs 0 k hkx
        have hpt := places_take xs 0 k hkx
        have hgd := may_good (HMAY.out _ (List.getElem_mem hkx))
        have hsm := size_small hgd (placesL 0 (xs.take k)).2
        have HLK : Hid ((nums (ints (placesL 0 (xs.take k)).1)).length = k) := by
          rw [nums_len, places_length, List.length_take, HN.out, Nat.min_eq_left hk]; exact rfl
        have HNX : Hid (∀ v' w', GOwnV 3 w' w.heap.size v' (nums (ints (placesL 0 (xs.take k)).1) ++ [.int .i64 ((placesL 0 (xs.take k)).2 : Nat)]) → GOwnV 3 w' w.heap.size v' (nums (ints (placesL 0 (xs.take (k + 1))).1))) := fun v' w' h => by
          rw [hpt, nums_snoc]; exact h
        have HLE := Hid.in (place_le xs 0 (k + 1))
        have HST := Hid.in hst
        obtain ⟨q, cq, hR, hrow, hfit⟩ := hc k hkx
        generalize hA : (placesL 0 (xs.take k)).2 = a0 at *
        generalize nums (ints (placesL 0 (xs.take k)).1) = vs0 at *
        have HA := Hid.in hA
        have hZ := fun (W : World) (hRR : Row W q (xs[k]'hkx).d) => piece_any (xs[k]'hkx) hfit hgd q _ cq a0 (fun _ => by omega) W rfl hRR
        unfold PieceIs at hZ
        generalize hsz : sizeL xs[k] a0 = sz at *
        generalize pieceL xs[k] a0 = pc at *
        generalize xs[k] = x at *
        have HR := Hid.in hR
        have HROW := Hid.in hrow
        clear hst hpt hgd hR hrow hfit hc hA hsz
        go_wp2_with (first
          | (at_builtin; refine gpush Tryz.elemI _ rfl _ _ rfl w.heap.size _ vs0 rfl (HV.out.alloc _) ⟨wr.heap.size, 0, none⟩ 1 1 [.int .i64 a0] rfl rfl (cell_one_new _ _ _) (by simp [Value.oneCell']) (by rw [HLK.out]; omega) (by rw [HLK.out]; omega) (by have := HB.out.size; simp; omega) ?_; intro v3 w3 hown hgrow hbel _hnil; have HV3 := Hid.in (HNX.out _ _ hown); have HB3 := Hid.in (hbel w (below_alloc HB.out _)); clear hown hgrow hbel _hnil)
          | (refine step_load_at (range_below HR.out HB3.out) rfl 57 (.tmp 31) rfl rfl _ Tryz.underlying57 rfl Tryz.sz57 ?_)
          | (go_at_call 66; refine (hZ _ (HROW.out.below HB3.out)).mono ?_; rintro E w5 ⟨q5, c5, rfl, -, -, hb5⟩; have HV5 := Hid.in (HV3.out.below hb5); have HB5 := Hid.in (below_step HB3.out hb5); clear hb5))
        · rename_i hlong
          have HL : Hid (PlacesIs xs w = fun E w' => ∃ v, E = .returned (.tuple #[v, .int .i64 0, .int .i64 3]) ∧ GOwnV 3 w' w.heap.size v [] ∧ Below w.heap.size w w') := by
            have hbig : 65536 < (placesL 0 xs).2 := by
              have e1 := HLE.out
              have e2 := HST.out
              omega
            have h1 : layE xs = 3 := by unfold layE; rw [if_neg (by simp [HCK.out]), if_pos hbig]
            have h2 : endI xs = 0 := by unfold endI; rw [h1, if_neg (by decide)]
            have h3 : placesI xs = [] := by unfold placesI; rw [h1, if_neg (by decide)]
            unfold PlacesIs
            rw [h1, h2, h3]; exact rfl
          go_ret3
          rw [HL.out]
          exact ⟨_, rfl, GOwnV.nil _ _ _, HB5.out⟩
        · rename_i hshort
          go_roundw
          case rel => exact ⟨k + 1, by omega, by go_num, by rw [HST.out]; go_num, by have := HST.out; omega, HV5.out, HB5.out⟩
          case measure => simp [intOf]; omega
      · have hkn : k = n := by omega
        subst hkn
        have HL : Hid (PlacesIs xs w = fun E w' => ∃ v, E = .returned (.tuple #[v, .int .i64 (placesL 0 (xs.take k)).2, .int .i64 0]) ∧ GOwnV 3 w' w.heap.size v (nums (ints (placesL 0 (xs.take k)).1)) ∧ Below w.heap.size w w') := by
          have ht : xs.take k = xs := by rw [← HN.out, List.take_length]
          rw [ht] at ha ⊢
          have h1 : layE xs = 0 := by unfold layE; rw [if_neg (by simp [HCK.out]), if_neg (by omega)]
          have h2 : endI xs = (placesL 0 xs).2 := by unfold endI; rw [h1, if_pos rfl]
          have h3 : placesI xs = ints (placesL 0 xs).1 := by unfold placesI; rw [h1, if_pos rfl]
          unfold PlacesIs
          rw [h1, h2, h3]; exact rfl
        go_wp2_with fail
        go_ret3
        rw [HL.out]
        exact ⟨_, rfl, HV.out, HB.out⟩
  · have HL : Hid (PlacesIs xs w = fun E w' => ∃ v, E = .returned (.tuple #[v, .int .i64 0, .int .i64 (checkL xs).1]) ∧ GOwnV 3 w' w.heap.size v [] ∧ Below w.heap.size w w') := by
      have h1 : layE xs = (checkL xs).1 := by unfold layE; rw [if_pos hck]
      have h2 : endI xs = 0 := by unfold endI; rw [h1, if_neg hck]
      have h3 : placesI xs = [] := by unfold placesI; rw [h1, if_neg hck]
      unfold PlacesIs
      rw [h1, h2, h3]; exact rfl
    rw [HL.out]
    clear HL hx hn
    generalize (checkL xs).1 = r1 at *
    generalize (checkL xs).2 = r2 at *
    go_enter Tryz.func28, Tryz.ntmps28
    go_wp2_with (go_at_call 27; refine hC.mono ?_; rintro E w1 ⟨rfl, hb1⟩)
    go_ret3
    exact ⟨_, rfl, GOwnV.nil _ _ _, hb1⟩

end Go.Proofs.YtkianldkbfjehaaGreatDoor

/- switchyardref05.Bytes answers what layout.Bytes does. -/
namespace Go.Proofs.YtkianldkbfjehaaGreatDoor
open Go.RowKit

set_option maxRecDepth 20000 in
set_option maxHeartbeats 2000000 in
theorem refBytes_any (p : Option Addr) (n c : Nat) (xs : List Src) (w : World) (hn : xs.length = n) (hn63 : n ≤ 9223372036854775807) (hx : Items w p xs) :
    Calls Tryz.prog 29 #[.slice p n c] w (BytesIs xs w) := by
  have hP := refPlaces_any p n c xs w hn hn63 hx
  unfold PlacesIs at hP
  by_cases hl : layE xs = 0
  · obtain ⟨hck, hend⟩ := layE_ok hl
    obtain ⟨hl4, hmay⟩ := check_good hck
    have HL : Hid (BytesIs xs w = fun E w' => ∃ v, E = .returned (.tuple #[v, .int .i64 0]) ∧ OwnV w' w.heap.size v (bytesL 0 xs) ∧ Below w.heap.size w w') := by
      have h4 : bytesI xs = bytesL 0 xs := by unfold bytesI; rw [if_pos hl]
      unfold BytesIs
      rw [hl, h4]; exact rfl
    rw [HL.out]
    rw [hl] at hP
    have HX := Hid.in hx
    have HN := Hid.in hn
    have HMAY := Hid.in hmay
    have HEND := Hid.in hend
    have hn4 : n ≤ 4096 := by omega
    clear HL hl hck hmay hx hn hl4 hend
    generalize endI xs = r2 at *
    generalize placesI xs = r3 at *
    go_enter Tryz.func29, Tryz.ntmps29
    go_wp2_with (go_at_call 28; refine hP.mono ?_; rintro E w1 ⟨v1, rfl, -, hb1⟩; have HB1 := Hid.in hb1; clear hb1 hP)
    go_loopw [7, 8] (fun v i wr => ∃ k : Nat, k ≤ n ∧ i = .int .i64 k ∧ OwnV wr w.heap.size v (bytesL 0 (xs.take k)) ∧ Below w.heap.size w wr) (fun _ i _ => n - (intOf i).toNat)
    case atStart => exact ⟨0, Nat.zero_le _, rfl, OwnV.nil _ _, HB1.out⟩
    case round =>
      obtain ⟨k, hk, rfl, hV, hb⟩ := hrel
      have HV := Hid.in hV
      have HB := Hid.in hb
      obtain ⟨pv, cv, hv, -, -⟩ := hV.slice
      have hle := place_le xs 0 k
      have hen := HEND.out
      rw [bytes_len0] at hv
      have HLN := Hid.in (bytes_len0 (xs.take k))
      subst hv
      clear hV hb
      by_cases hlt : k < n
      · have hkx : k < xs.length := by rw [HN.out]; exact hlt
        obtain ⟨b, o, hp, hc⟩ := HX.out (by omega)
        subst hp
        have hgd := may_good (HMAY.out _ (List.getElem_mem hkx))
        have hsm := size_small hgd (placesL 0 (xs.take k)).2
        have HNX : Hid (bytesL 0 (xs.take k) ++ pieceL xs[k] (placesL 0 (xs.take k)).2 = bytesL 0 (xs.take (k + 1))) := (bytes_take xs 0 k hkx).symm
        have HPL := Hid.in (piece_size xs[k] (placesL 0 (xs.take k)).2)
        obtain ⟨q, cq, hR, hrow, hfit⟩ := hc k hkx
        generalize (placesL 0 (xs.take k)).2 = a0 at *
        generalize bytesL 0 (xs.take k) = bs0 at *
        have hZ := fun (W : World) (hRR : Row W q (xs[k]'hkx).d) => piece_any (xs[k]'hkx) hfit hgd q _ cq a0 (fun _ => by omega) W rfl hRR
        unfold PieceIs at hZ
        generalize sizeL xs[k] a0 = sz at *
        generalize pieceL xs[k] a0 = pc at *
        generalize xs[k] = x at *
        have HR := Hid.in hR
        have HROW := Hid.in hrow
        clear hgd hR hrow hfit hc
        go_wp2_with (first
          | (refine step_load_at (range_below HR.out HB.out) rfl 57 (.tmp 27) rfl rfl _ Tryz.underlying57 rfl Tryz.sz57 ?_)
          | (go_at_call 66; refine (hZ _ (HROW.out.below HB.out)).mono ?_; rintro E w5 ⟨q5, c5, rfl, hr5, hq5, hb5⟩; have HR5 := Hid.in hr5; have HQ5 := Hid.in hq5; have HV5 := Hid.in (HV.out.below hb5); have HB5 := Hid.in (below_step HB.out hb5); clear hb5 hr5 hq5)
          | (at_builtin; refine wp_push_row _ rfl _ _ rfl w.heap.size _ bs0 rfl HV5.out q5 sz c5 pc rfl HPL.out HR5.out HQ5.out (by rw [HLN.out]; omega) HB5.out.size ?_; intro v6 w6 hown hbel; have HV6 := Hid.in hown; have HB6 := Hid.in (hbel w HB5.out); clear hown hbel))
        go_roundw
        case rel => exact ⟨k + 1, by omega, by go_num, by rw [← HNX.out]; exact HV6.out, HB6.out⟩
        case measure => simp [intOf]; omega
      · have hkn : k = n := by omega
        have HE : Hid (OwnV wr w.heap.size (.slice pv (placesL 0 (xs.take k)).2 cv) (bytesL 0 xs)) := by
          have := HV.out
          rw [show bytesL 0 (xs.take k) = bytesL 0 xs by rw [hkn, ← HN.out, List.take_length]] at this
          exact this
        go_wp2_with fail
        go_ret2
        exact ⟨_, rfl, HE.out, HB.out⟩
  · have HL : Hid (BytesIs xs w = fun E w' => ∃ v, E = .returned (.tuple #[v, .int .i64 (layE xs)]) ∧ OwnV w' w.heap.size v [] ∧ Below w.heap.size w w') := by
      have h4 : bytesI xs = [] := by unfold bytesI; rw [if_neg hl]
      unfold BytesIs
      rw [h4]; exact rfl
    rw [HL.out]
    generalize layE xs = r1 at *
    generalize endI xs = r2 at *
    clear HL hx hn
    go_enter Tryz.func29, Tryz.ntmps29
    go_wp2_with (go_at_call 28; refine hP.mono ?_; rintro E w1 ⟨v1, rfl, -, hb1⟩)
    go_ret2
    exact ⟨_, rfl, OwnV.nil _ _, hb1⟩

end Go.Proofs.YtkianldkbfjehaaGreatDoor

/- switchyardref06.Make: the errors of items, and of their places. -/
namespace Go.Proofs.YtkianldkbfjehaaGreatDoor
open Go.RowKit

theorem makeIs_err {xs : List Src} {w w' : World} {e : Int} {i : Nat} (h : makeE xs = (e, i)) (h0 : e ≠ 0) (hb : Below w.heap.size w w') : MakeIs xs w (.returned (.tuple #[.agg noObj, .int .i64 e, .int .i64 (i : Nat)])) w' := by
  refine ⟨⟨_, _, _, _, by rw [h], ?_⟩, hb⟩
  unfold makeO
  rw [h, if_neg h0]
  exact noOb_own _ _

set_option maxRecDepth 20000 in
set_option maxHeartbeats 2000000 in
theorem refMake_bad (p : Option Addr) (n c : Nat) (xs : List Src) (w : World) (hn : xs.length = n) (hn6 : n ≤ 1048576) (hx : Items w p xs) (hck : (checkL xs).1 ≠ 0) :
    Calls Tryz.prog 9 #[.slice p n c] w fun E w' => E = .returned (.tuple #[.agg noObj, .int .i64 (checkL xs).1, .int .i64 (checkL xs).2]) ∧ Below w.heap.size w w' := by
  have hC := refCheck_any p n c xs (w.alloc (.cells noObj 29)) hn (by omega) (hx.below (new_alloc w _))
  have hB0 := Hid.in (Blk.new w 29 noObj)
  clear hn hx
  generalize checkL xs = r at *
  obtain ⟨r1, r2⟩ := r
  simp only at hC hck ⊢
  go_enter Tryz.func9, Tryz.ntmps9
  go_upto_region 3 with (go_at_call 27; refine hC.mono ?_; rintro E w1 ⟨rfl, hb1⟩; have HK1 := Hid.in (hB0.out.grow hb1); have HB1 := Hid.in (below_step (new_alloc w _) hb1); clear hb1)
  clear hC hB0
  go_wp2_with (refine step_store_blk HK1.out rfl 29 (.tmp 2) (.tmp 27) rfl rfl rfl noObj rfl Tryz.sz29 rfl noObj_one ?_; intro w2 hK2 hg2; have HK2 := Hid.in hK2; have HG2 := Hid.in hg2; clear hK2 hg2)
  have hld := HK2.out.load 29 _ Tryz.underlying29 rfl Tryz.sz29
  exact bodyPost_ret (v := .tuple #[.agg noObj, .int .i64 r1, .int .i64 r2]) (by simp [results, Tryz.results9, asAddr, hld]) rfl ⟨rfl, HB1.out.grown HG2.out HB1.out.size (fun k hk => by cases hk; exact Nat.le_refl _)⟩

set_option maxRecDepth 20000 in
set_option maxHeartbeats 2000000 in
theorem refMake_long (p : Option Addr) (n c : Nat) (xs : List Src) (w : World) (hn : xs.length = n) (hn6 : n ≤ 1048576) (hx : Items w p xs) (hck : (checkL xs).1 = 0) (hle : layE xs ≠ 0) :
    Calls Tryz.prog 9 #[.slice p n c] w fun E w' => E = .returned (.tuple #[.agg noObj, .int .i64 (layE xs), .int .i64 0]) ∧ Below w.heap.size w w' := by
  have hC := refCheck_any p n c xs (w.alloc (.cells noObj 29)) hn (by omega) (hx.below (new_alloc w _))
  have hP := fun W hX => refPlaces_any p n c xs W hn (by omega) hX
  have HX := Hid.in hx
  have hB0 := Hid.in (Blk.new w 29 noObj)
  clear hn hx
  rw [hck] at hC
  unfold PlacesIs at hP
  generalize (checkL xs).2 = r2 at *
  generalize layE xs = r1 at *
  generalize endI xs = r3 at *
  clear hck
  go_enter Tryz.func9, Tryz.ntmps9
  go_upto_region 6 with (first
    | (go_at_call 27; refine hC.mono ?_; rintro E w1 ⟨rfl, hb1⟩; have HK1 := Hid.in (hB0.out.grow hb1); have HB1 := Hid.in (below_step (new_alloc w _) hb1); clear hb1)
    | (go_at_call 28; refine (hP _ (HX.out.below HB1.out)).mono ?_; rintro E w2 ⟨v2, rfl, -, hb2⟩; have HK2 := Hid.in (HK1.out.grow hb2); have HB2 := Hid.in (below_step HB1.out hb2); clear hb2))
  clear hC hP hB0
  go_wp2_with (refine step_store_blk HK2.out rfl 29 (.tmp 2) (.tmp 38) rfl rfl rfl noObj rfl Tryz.sz29 rfl noObj_one ?_; intro w3 hK3 hg3; have HK3 := Hid.in hK3; have HG3 := Hid.in hg3; clear hK3 hg3)
  have hld := HK3.out.load 29 _ Tryz.underlying29 rfl Tryz.sz29
  exact bodyPost_ret (v := .tuple #[.agg noObj, .int .i64 r1, .int .i64 0]) (by simp [results, Tryz.results9, asAddr, hld]) rfl ⟨rfl, HB2.out.grown HG3.out HB2.out.size (fun k hk => by cases hk; exact Nat.le_refl _)⟩

end Go.Proofs.YtkianldkbfjehaaGreatDoor
