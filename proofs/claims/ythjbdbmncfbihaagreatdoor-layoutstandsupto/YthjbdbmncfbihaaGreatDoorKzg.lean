/- Texts put together: RefPl, PushRow, RefBy. -/
import Derived.Test.YthjbdbmncfbihaaGreatDoorKt
import Derived.Test.YthjbdbmncfbihaaGreatDoorKzc
import Derived.Test.YthjbdbmncfbihaaGreatDoorKzb
import Derived.Test.YthjbdbmncfbihaaGreatDoorKzd
import Derived.Laws.AppendOwnNone

/- switchyardref05.Places answers what layout.Places does. -/
namespace Go.Proofs.YthjbdbmncfbihaaGreatDoor
open Go.RowKit

theorem nums_len (l : List Nat) : (nums (ints l)).length = l.length := by simp [nums, ints]
theorem nums_snoc (l : List Nat) (a : Nat) : nums (ints (l ++ [a])) = nums (ints l) ++ [.int .i64 a] := by simp [nums, ints]

set_option maxRecDepth 20000 in
set_option maxHeartbeats 2000000 in
theorem refPlaces_any (p : Option Addr) (n c : Nat) (xs : List Src) (w : World) (hn : xs.length = n) (hn63 : n ≤ 9223372036854775807) (hx : Items w p xs) :
    Calls Tryz.prog 14 #[.slice p n c] w (PlacesIs xs w) := by
  have hC := refCheck_any p n c xs w hn hn63 hx
  by_cases hck : (checkL xs).1 = 0
  · obtain ⟨hl4, hmay⟩ := check_good hck
    rw [hck] at hC
    have HX := Hid.in hx
    have HN := Hid.in hn
    have HMAY := Hid.in hmay
    have HCK := Hid.in hck
    have hn4 : n ≤ 4096 := by omega
    clear hx hn hmay hl4 hck
    generalize (checkL xs).2 = r2 at *
    go_enter Tryz.func14, Tryz.ntmps14
    go_wp2_with (go_at_call 31; refine hC.mono ?_; rintro E w1 ⟨rfl, hb1⟩; have HB1 := Hid.in hb1; clear hb1 hC)
    go_loopw [7, 8, 9] (fun v a i wr => ∃ k : Nat, k ≤ n ∧ i = .int .i64 k ∧ a = .int .i64 ((placesL 0 (xs.take k)).2 : Nat) ∧ (placesL 0 (xs.take k)).2 ≤ 65536 ∧ GOwnV 3 wr w.heap.size v (nums (ints (placesL 0 (xs.take k)).1)) ∧ Below w.heap.size w wr) (fun _ _ i _ => n - (intOf i).toNat)
    case atStart => exact ⟨0, Nat.zero_le _, rfl, rfl, Nat.zero_le _, GOwnV.nil _ _ _, HB1.out⟩
    case round =>
      obtain ⟨k, hk, rfl, rfl, ha, hV, hb⟩ := hrel
      have HV := Hid.in hV
      have HB := Hid.in hb
      obtain ⟨pv, cv, hv, -, -, -⟩ := hV.slice
      rw [nums_len, places_length, List.length_take, HN.out, Nat.min_eq_left hk] at hv
      subst hv
      clear hV hb
      by_cases hlt : k < n
      · have hkx : k < xs.length := by rw [HN.out]; exact hlt
        obtain ⟨b, o, hp, hc⟩ := HX.out (by omega)
        subst hp
        have hst := place_step xs 0 k hkx
        have hpt := places_take xs 0 k hkx
        have hgd := may_good (HMAY.out _ (List.getElem_mem hkx))
        have hsm := size_small hgd (placesL 0 (xs.take k)).2
        have HLK : Hid ((nums (ints (placesL 0 (xs.take k)).1)).length = k) := by
          rw [nums_len, places_length, List.length_take, HN.out, Nat.min_eq_left hk]; exact rfl
        have HNX : Hid (∀ v' w', GOwnV 3 w' w.heap.size v' (nums (ints (placesL 0 (xs.take k)).1) ++ [.int .i64 ((placesL 0 (xs.take k)).2 : Nat)]) → GOwnV 3 w' w.heap.size v' (nums (ints (placesL 0 (xs.take (k + 1))).1))) := fun v' w' h => by
          rw [hpt, nums_snoc]; exact h
        have HLE := Hid.in (place_le xs 0 (k + 1))
        have HST := Hid.in hst
        obtain ⟨q, cq, hR, hrow, hfit⟩ := hc k hkx
        generalize hA : (placesL 0 (xs.take k)).2 = a0 at *
        generalize nums (ints (placesL 0 (xs.take k)).1) = vs0 at *
        have HA := Hid.in hA
        have hZ := fun (W : World) (hRR : Row W q (xs[k]'hkx).d) => piece_any (xs[k]'hkx) hfit hgd q _ cq a0 (fun _ => by omega) W rfl hRR
        unfold PieceIs at hZ
        generalize hsz : sizeL xs[k] a0 = sz at *
        generalize pieceL xs[k] a0 = pc at *
        generalize xs[k] = x at *
        have HR := Hid.in hR
        have HROW := Hid.in hrow
        clear hst hpt hgd hR hrow hfit hc hA hsz
        go_wp2_with (first
          | (at_builtin; refine gpush Tryz.elemI _ rfl _ _ rfl w.heap.size _ vs0 rfl (HV.out.alloc _) ⟨wr.heap.size, 0, none⟩ 1 1 [.int .i64 a0] rfl rfl (cell_one_new _ _ _) (by simp [Value.oneCell']) (by rw [HLK.out]; omega) (by rw [HLK.out]; omega) (by have := HB.out.size; simp; omega) ?_; intro v3 w3 hown hgrow hbel _hnil; have HV3 := Hid.in (HNX.out _ _ hown); have HB3 := Hid.in (hbel w (below_alloc HB.out _)); clear hown hgrow hbel _hnil)
          | (refine step_load_at (range_below HR.out HB3.out) rfl 28 (.tmp 31) rfl rfl _ Tryz.underlying28 rfl Tryz.sz28 ?_)
          | (go_at_call 27; refine (hZ _ (HROW.out.below HB3.out)).mono ?_; rintro E w5 ⟨q5, c5, rfl, -, -, hb5⟩; have HV5 := Hid.in (HV3.out.below hb5); have HB5 := Hid.in (below_step HB3.out hb5); clear hb5))
        · rename_i hlong
          have HL : Hid (PlacesIs xs w = fun E w' => ∃ v, E = .returned (.tuple #[v, .int .i64 0, .int .i64 3]) ∧ GOwnV 3 w' w.heap.size v [] ∧ Below w.heap.size w w') := by
            have hbig : 65536 < (placesL 0 xs).2 := by
              have e1 := HLE.out
              have e2 := HST.out
              omega
            have h1 : layE xs = 3 := by unfold layE; rw [if_neg (by simp [HCK.out]), if_pos hbig]
            have h2 : endI xs = 0 := by unfold endI; rw [h1, if_neg (by decide)]
            have h3 : placesI xs = [] := by unfold placesI; rw [h1, if_neg (by decide)]
            unfold PlacesIs
            rw [h1, h2, h3]; exact rfl
          go_ret3
          rw [HL.out]
          exact ⟨_, rfl, GOwnV.nil _ _ _, HB5.out⟩
        · rename_i hshort
          go_roundw
          case rel => exact ⟨k + 1, by omega, by go_num, by rw [HST.out]; go_num, by have := HST.out; omega, HV5.out, HB5.out⟩
          case measure => simp [intOf]; omega
      · have hkn : k = n := by omega
        subst hkn
        have HL : Hid (PlacesIs xs w = fun E w' => ∃ v, E = .returned (.tuple #[v, .int .i64 (placesL 0 (xs.take k)).2, .int .i64 0]) ∧ GOwnV 3 w' w.heap.size v (nums (ints (placesL 0 (xs.take k)).1)) ∧ Below w.heap.size w w') := by
          have ht : xs.take k = xs := by rw [← HN.out, List.take_length]
          rw [ht] at ha ⊢
          have h1 : layE xs = 0 := by unfold layE; rw [if_neg (by simp [HCK.out]), if_neg (by omega)]
          have h2 : endI xs = (placesL 0 xs).2 := by unfold endI; rw [h1, if_pos rfl]
          have h3 : placesI xs = ints (placesL 0 xs).1 := by unfold placesI; rw [h1, if_pos rfl]
          unfold PlacesIs
          rw [h1, h2, h3]; exact rfl
        go_wp2_with fail
        go_ret3
        rw [HL.out]
        exact ⟨_, rfl, HV.out, HB.out⟩
  · have HL : Hid (PlacesIs xs w = fun E w' => ∃ v, E = .returned (.tuple #[v, .int .i64 0, .int .i64 (checkL xs).1]) ∧ GOwnV 3 w' w.heap.size v [] ∧ Below w.heap.size w w') := by
      have h1 : layE xs = (checkL xs).1 := by unfold layE; rw [if_pos hck]
      have h2 : endI xs = 0 := by unfold endI; rw [h1, if_neg hck]
      have h3 : placesI xs = [] := by unfold placesI; rw [h1, if_neg hck]
      unfold PlacesIs
      rw [h1, h2, h3]; exact rfl
    rw [HL.out]
    clear HL hx hn
    generalize (checkL xs).1 = r1 at *
    generalize (checkL xs).2 = r2 at *
    go_enter Tryz.func14, Tryz.ntmps14
    go_wp2_with (go_at_call 31; refine hC.mono ?_; rintro E w1 ⟨rfl, hb1⟩)
    go_ret3
    exact ⟨_, rfl, GOwnV.nil _ _ _, hb1⟩

end Go.Proofs.YthjbdbmncfbihaaGreatDoor

/- append of a whole slice of bytes that came in, nil or not. -/
namespace Go.Proofs.YthjbdbmncfbihaaGreatDoor
open Go.RowKit

/-- 'append(out, b...)', b whatever slice of bytes that came in -/
theorem wp_push_row {ops : Array Oper} {rest : List Oper} {o : Oper} {a : Act} {Q : Exit → Act → World → Prop} (w : World) (hgd : o.guard = none) (s x : Operand)
    (ho : o.op = .call { callee := .builtin .append, args := #[s, x], argTypes := #[26, 26] }) (B : Nat) (v : Value) (xs : List Int) (hs : a.eval s = v) (hown : OwnV w B v xs)
    (q : Option Addr) (m d : Nat) (ys : List Int) (hx : a.eval x = .slice q m d) (hl : ys.length = m) (hrow : Row w q ys) (hq : q = none → m = 0 ∧ d = 0)
    (hlen : xs.length + m ≤ 140737488355328) (hB : B ≤ w.heap.size)
    (h : ∀ v' w', OwnV w' B v' (xs ++ ys) → (∀ w0, Below B w0 w → Below B w0 w') → wpList Tryz.prog ops Q rest (a.put o.dst v') w') :
    wpList Tryz.prog ops Q (o :: rest) a w := by
  cases q with
  | none =>
    obtain ⟨rfl, rfl⟩ := hq rfl
    obtain rfl : ys = [] := List.eq_nil_of_length_eq_zero hl
    obtain ⟨i0, hi, hz0, hz1, hz2⟩ := info_parts Tryz.info5
    exact wpList_append_own_none hgd s x 26 ho B 5 i0 1 Tryz.underlying26 hi v xs.length (byts xs) hs hown hx (h v w (by rw [List.append_nil]; exact hown) fun _ hb => hb)
  | some ad =>
    refine wp_push w hgd s x ho B v xs hs hown ad m d ys hx hl (fun j u hj => ?_) hlen hB fun v' w' h1 _ h3 _ => h v' w' h1 h3
    have hjl : j < ys.length := by
      rcases Nat.lt_or_ge j ys.length with h | h
      · exact h
      · rw [List.getElem?_eq_none (by simpa using h)] at hj; cases hj
    obtain ⟨b, off, e, hc⟩ := hrow (by omega)
    cases e
    rw [getD_byts ys j hjl] at hj
    rw [← hj, ← hc j hjl, Go.WideShapes.add_plain]

end Go.Proofs.YthjbdbmncfbihaaGreatDoor

/- switchyardref05.Bytes answers what layout.Bytes does. -/
namespace Go.Proofs.YthjbdbmncfbihaaGreatDoor
open Go.RowKit

set_option maxRecDepth 20000 in
set_option maxHeartbeats 2000000 in
theorem refBytes_any (p : Option Addr) (n c : Nat) (xs : List Src) (w : World) (hn : xs.length = n) (hn63 : n ≤ 9223372036854775807) (hx : Items w p xs) :
    Calls Tryz.prog 16 #[.slice p n c] w (BytesIs xs w) := by
  have hP := refPlaces_any p n c xs w hn hn63 hx
  unfold PlacesIs at hP
  by_cases hl : layE xs = 0
  · obtain ⟨hck, hend⟩ := layE_ok hl
    obtain ⟨hl4, hmay⟩ := check_good hck
    have HL : Hid (BytesIs xs w = fun E w' => ∃ v, E = .returned (.tuple #[v, .int .i64 0]) ∧ OwnV w' w.heap.size v (bytesL 0 xs) ∧ Below w.heap.size w w') := by
      have h4 : bytesI xs = bytesL 0 xs := by unfold bytesI; rw [if_pos hl]
      unfold BytesIs
      rw [hl, h4]; exact rfl
    rw [HL.out]
    rw [hl] at hP
    have HX := Hid.in hx
    have HN := Hid.in hn
    have HMAY := Hid.in hmay
    have HEND := Hid.in hend
    have hn4 : n ≤ 4096 := by omega
    clear HL hl hck hmay hx hn hl4 hend
    generalize endI xs = r2 at *
    generalize placesI xs = r3 at *
    go_enter Tryz.func16, Tryz.ntmps16
    go_wp2_with (go_at_call 14; refine hP.mono ?_; rintro E w1 ⟨v1, rfl, -, hb1⟩; have HB1 := Hid.in hb1; clear hb1 hP)
    go_loopw [7, 8] (fun v i wr => ∃ k : Nat, k ≤ n ∧ i = .int .i64 k ∧ OwnV wr w.heap.size v (bytesL 0 (xs.take k)) ∧ Below w.heap.size w wr) (fun _ i _ => n - (intOf i).toNat)
    case atStart => exact ⟨0, Nat.zero_le _, rfl, OwnV.nil _ _, HB1.out⟩
    case round =>
      obtain ⟨k, hk, rfl, hV, hb⟩ := hrel
      have HV := Hid.in hV
      have HB := Hid.in hb
      obtain ⟨pv, cv, hv, -, -⟩ := hV.slice
      have hle := place_le xs 0 k
      have hen := HEND.out
      rw [bytes_len0] at hv
      have HLN := Hid.in (bytes_len0 (xs.take k))
      subst hv
      clear hV hb
      by_cases hlt : k < n
      · have hkx : k < xs.length := by rw [HN.out]; exact hlt
        obtain ⟨b, o, hp, hc⟩ := HX.out (by omega)
        subst hp
        have hgd := may_good (HMAY.out _ (List.getElem_mem hkx))
        have hsm := size_small hgd (placesL 0 (xs.take k)).2
        have HNX : Hid (bytesL 0 (xs.take k) ++ pieceL xs[k] (placesL 0 (xs.take k)).2 = bytesL 0 (xs.take (k + 1))) := (bytes_take xs 0 k hkx).symm
        have HPL := Hid.in (piece_size xs[k] (placesL 0 (xs.take k)).2)
        obtain ⟨q, cq, hR, hrow, hfit⟩ := hc k hkx
        generalize (placesL 0 (xs.take k)).2 = a0 at *
        generalize bytesL 0 (xs.take k) = bs0 at *
        have hZ := fun (W : World) (hRR : Row W q (xs[k]'hkx).d) => piece_any (xs[k]'hkx) hfit hgd q _ cq a0 (fun _ => by omega) W rfl hRR
        unfold PieceIs at hZ
        generalize sizeL xs[k] a0 = sz at *
        generalize pieceL xs[k] a0 = pc at *
        generalize xs[k] = x at *
        have HR := Hid.in hR
        have HROW := Hid.in hrow
        clear hgd hR hrow hfit hc
        go_wp2_with (first
          | (refine step_load_at (range_below HR.out HB.out) rfl 28 (.tmp 27) rfl rfl _ Tryz.underlying28 rfl Tryz.sz28 ?_)
          | (go_at_call 27; refine (hZ _ (HROW.out.below HB.out)).mono ?_; rintro E w5 ⟨q5, c5, rfl, hr5, hq5, hb5⟩; have HR5 := Hid.in hr5; have HQ5 := Hid.in hq5; have HV5 := Hid.in (HV.out.below hb5); have HB5 := Hid.in (below_step HB.out hb5); clear hb5 hr5 hq5)
          | (at_builtin; refine wp_push_row _ rfl _ _ rfl w.heap.size _ bs0 rfl HV5.out q5 sz c5 pc rfl HPL.out HR5.out HQ5.out (by rw [HLN.out]; omega) HB5.out.size ?_; intro v6 w6 hown hbel; have HV6 := Hid.in hown; have HB6 := Hid.in (hbel w HB5.out); clear hown hbel))
        go_roundw
        case rel => exact ⟨k + 1, by omega, by go_num, by rw [← HNX.out]; exact HV6.out, HB6.out⟩
        case measure => simp [intOf]; omega
      · have hkn : k = n := by omega
        have HE : Hid (OwnV wr w.heap.size (.slice pv (placesL 0 (xs.take k)).2 cv) (bytesL 0 xs)) := by
          have := HV.out
          rw [show bytesL 0 (xs.take k) = bytesL 0 xs by rw [hkn, ← HN.out, List.take_length]] at this
          exact this
        go_wp2_with fail
        go_ret2
        exact ⟨_, rfl, HE.out, HB.out⟩
  · have HL : Hid (BytesIs xs w = fun E w' => ∃ v, E = .returned (.tuple #[v, .int .i64 (layE xs)]) ∧ OwnV w' w.heap.size v [] ∧ Below w.heap.size w w') := by
      have h4 : bytesI xs = [] := by unfold bytesI; rw [if_neg hl]
      unfold BytesIs
      rw [h4]; exact rfl
    rw [HL.out]
    generalize layE xs = r1 at *
    generalize endI xs = r2 at *
    clear HL hx hn
    go_enter Tryz.func16, Tryz.ntmps16
    go_wp2_with (go_at_call 14; refine hP.mono ?_; rintro E w1 ⟨v1, rfl, -, hb1⟩)
    go_ret2
    exact ⟨_, rfl, OwnV.nil _ _, hb1⟩

end Go.Proofs.YthjbdbmncfbihaaGreatDoor
