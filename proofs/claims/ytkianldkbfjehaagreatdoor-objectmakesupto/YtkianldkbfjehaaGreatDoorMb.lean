/- Texts put together: RefPc, RefPd, RefQ. -/
import Derived.Test.YtkianldkbfjehaaGreatDoorKp
import Derived.Test.YtkianldkbfjehaaGreatDoorKi
import Derived.Test.YtkianldkbfjehaaGreatDoorKh
import Derived.Test.YtkianldkbfjehaaGreatDoorKu
import Derived.Test.YtkianldkbfjehaaGreatDoorKl
import Derived.Test.YtkianldkbfjehaaGreatDoorMz
import Derived.Test.YtkianldkbfjehaaGreatDoorKo

/- switchyardref05.piece, for an item that holds what its kind asks for. -/
namespace Go.Proofs.YtkianldkbfjehaaGreatDoor
open Go.RowKit

set_option maxRecDepth 20000 in
theorem piece_data (x : Src) (hk : x.k = 4) (q : Option Addr) (m e : Nat) (at_ : Int) (w : World) :
    Calls Tryz.prog 66 #[.agg (cellsOf x (.slice q m e)), .int .i64 at_] w fun E w' => E = .returned (.slice q m e) ∧ Below w.heap.size w w' := by
  obtain ⟨k, nm', tg, o, a, b, m', n, d⟩ := x
  simp only at hk
  subst hk
  unfold cellsOf
  go_enter Tryz.func66, Tryz.ntmps66
  go_wp2_with fail
  go_ret
  exact ⟨rfl, new_alloc _ _⟩
set_option maxRecDepth 20000 in
theorem piece_none (x : Src) (h2 : ¬ x.k = 2) (h4 : ¬ x.k = 4) (h5 : ¬ x.k = 5) (h6 : ¬ x.k = 6) (q : Option Addr) (m e : Nat) (at_ : Int) (w : World) :
    Calls Tryz.prog 66 #[.agg (cellsOf x (.slice q m e)), .int .i64 at_] w fun E w' => E = .returned (.slice none 0 0) ∧ Below w.heap.size w w' := by
  obtain ⟨k, nm', tg, o, a, b, m', n, d⟩ := x
  simp only at h2 h4 h5 h6
  unfold cellsOf
  go_enter Tryz.func66, Tryz.ntmps66
  go_wp2_with fail
  go_ret
  exact ⟨rfl, new_alloc _ _⟩
set_option maxRecDepth 20000 in
theorem piece_ins (k : Int) (hk : k = 2) (s t : ByteArray) (o : Nat) (a b m n : Int) (d : List Int) (ha : 0 ≤ a ∧ a ≤ 255) (hb : 0 ≤ b ∧ b ≤ 255) (hR : rightB o a b m = true) (q : Option Addr) (z e : Nat) (at_ : Int) (w : World) :
    Calls Tryz.prog 66 #[.agg (cellsOf ⟨k, s, t, o, a, b, m, n, d⟩ (.slice q z e)), .int .i64 at_] w fun E w' => ∃ v, E = .returned v ∧ OwnV w' (w.heap.size + 1) v (encL o a b m) ∧ Below w.heap.size w w' := by
  have hE := fun W => rencode_yes o a b m W ha hb hR
  subst hk
  unfold cellsOf
  clear hR ha hb
  go_enter Tryz.func66, Tryz.ntmps66
  go_wp2_with (go_at_call 83; refine (hE _).mono ?_; rintro E w1 ⟨v, rfl, hO, hb1⟩)
  go_ret
  refine ⟨v, rfl, ?_, ?_⟩
  · simpa using hO
  · exact below_step (new_alloc _ _) hb1
set_option maxRecDepth 20000 in
theorem piece_space (k : Int) (hk : k = 5) (s t : ByteArray) (o a b m : Int) (n : Nat) (hn : n ≤ 4096) (d : List Int) (q : Option Addr) (z e : Nat) (at_ : Int) (w : World) :
    Calls Tryz.prog 66 #[.agg (cellsOf ⟨k, s, t, o, a, b, m, n, d⟩ (.slice q z e)), .int .i64 at_] w fun E w' => ∃ g, E = .returned (.slice (some ⟨g, 0, none⟩) n n) ∧ Own w' w.heap.size g n (List.replicate n 0) ∧ Below w.heap.size w w' := by
  obtain ⟨i0, hi, hz0, hz1, hz2⟩ := info_parts Tryz.info5
  subst hk
  unfold cellsOf
  go_enter Tryz.func66, Tryz.ntmps66
  go_wp2_with (at_make; refine wpList_make_full _ rfl _ _ 24 rfl _ 5 i0 (.int .u8 0) 1 Tryz.underlying24 hi hz0 hz1 _ _ _ _ n rfl rfl rfl rfl (by rw [hz2]; omega) (by unfold maxLen; omega) (Nat.le_refl _) ?_; intro w1 hown hgrow)
  go_ret
  have ho := Own.of_made hown
  rw [size_one] at ho
  refine ⟨_, rfl, ho.lower (Nat.le_succ _), ?_⟩
  exact below_step (new_alloc w _) ((Below.refl _ _).grown hgrow (Nat.le_refl _) (by simp))

theorem rem_num (a k : Nat) (n : Int) (N : Nat) (hn : n = N) : ((a : Int) + (k : Int)) % n = (((a + k) % N : Nat) : Int) := by
  subst hn
  have e3 : (a : Int) + (k : Int) = ((a + k : Nat) : Int) := by omega
  rw [e3, ← Int.natCast_emod]
theorem align_step (a k N : Nat) (h1 : 1 ≤ N) (hk : k < (N - a % N) % N) : (a + k) % N ≠ 0 := by
  have hm := Nat.mod_lt a h1
  by_cases h0 : a % N = 0
  · rw [h0, Nat.sub_zero, Nat.mod_self] at hk; omega
  · rw [Nat.mod_eq_of_lt (show N - a % N < N by omega)] at hk
    rw [Nat.add_mod, Nat.mod_eq_of_lt (show k < N by omega), Nat.mod_eq_of_lt (show a % N + k < N by omega)]
    omega
theorem align_last (a N : Nat) (h1 : 1 ≤ N) : (a + (N - a % N) % N) % N = 0 := by
  have hm := Nat.mod_lt a h1
  by_cases h0 : a % N = 0
  · rw [h0, Nat.sub_zero, Nat.mod_self, Nat.add_zero, h0]
  · rw [Nat.mod_eq_of_lt (show N - a % N < N by omega), Nat.add_mod, Nat.mod_eq_of_lt (show N - a % N < N by omega), show a % N + (N - a % N) = N by omega, Nat.mod_self]

set_option maxRecDepth 20000 in
set_option maxHeartbeats 400000 in
theorem piece_align (k : Int) (hk : k = 6) (s t : ByteArray) (o a b m n : Int) (N : Nat) (hn : n = N) (h1 : 1 ≤ N) (h2 : N ≤ 64) (d : List Int) (q : Option Addr) (z e : Nat) (at_ : Nat) (hat : at_ ≤ 4611686018427387000) (w : World) (S : Nat) (hS : S = (N - at_ % N) % N) :
    Calls Tryz.prog 66 #[.agg (cellsOf ⟨k, s, t, o, a, b, m, n, d⟩ (.slice q z e)), .int .i64 at_] w fun E w' => ∃ g, E = .returned (.slice (some ⟨g, 0, none⟩) S S) ∧ Own w' w.heap.size g S (List.replicate S 0) ∧ Below w.heap.size w w' := by
  obtain ⟨i0, hi, hz0, hz1, hz2⟩ := info_parts Tryz.info5
  have hS64 : S < 64 := by
    have := Nat.mod_lt (N - at_ % N) h1
    omega
  have HG : Hid (∀ j : Nat, j < S → (((at_ : Int) + (j : Int)) % n != 0) = true) := fun j hj => by
    rw [rem_num at_ j n N hn]
    have := align_step at_ j N h1 (by omega)
    generalize (at_ + j) % N = r at *
    exact bne_iff_ne.2 (by omega)
  have HL : Hid ((((at_ : Int) + (S : Int)) % n != 0) = false) := by
    have : (((at_ : Int) + (S : Int)) % n != 0) = false := by
      rw [rem_num at_ S n N hn, hS, align_last at_ N h1]; rfl
    exact this
  have hn0 : ¬ n = 0 := by omega
  subst hk
  unfold cellsOf
  have hc7 : (w.alloc (.cells #[.int .u8 6, .string s, .string t, .int .u8 o, .int .u8 a, .int .u8 b, .int .i32 m, .int .i64 n, .slice q z e] 57)).cell? ⟨w.heap.size, 7, none⟩ = some (.int .i64 n) := (Blk.new w 57 _).cell 7
  have hc0 : (w.alloc (.cells #[.int .u8 6, .string s, .string t, .int .u8 o, .int .u8 a, .int .u8 b, .int .i32 m, .int .i64 n, .slice q z e] 57)).cell? ⟨w.heap.size, 0, none⟩ = some (.int .u8 6) := (Blk.new w 57 _).cell 0
  have HW : Hid (Below w.heap.size w (w.alloc (.cells #[.int .u8 6, .string s, .string t, .int .u8 o, .int .u8 a, .int .u8 b, .int .i32 m, .int .i64 n, .slice q z e] 57))) := new_alloc w _
  clear hn h1 h2 hS
  go_enter Tryz.func66, Tryz.ntmps66
  go_upto_region 1 with fail
  generalize w.alloc (.cells #[.int .u8 6, .string s, .string t, .int .u8 o, .int .u8 a, .int .u8 b, .int .i32 m, .int .i64 n, .slice q z e] 57) = w1 at *
  go_wp2_with fail
  go_loopw [7] (fun i wr => ∃ j : Nat, j ≤ S ∧ i = .int .i64 j ∧ wr = w1) (fun i _ => S - (intOf i).toNat)
  case atStart => exact ⟨0, Nat.zero_le _, rfl, rfl⟩
  case round =>
    obtain ⟨j, hj, rfl, rfl⟩ := hrel
    by_cases hlt : j < S
    · have hg := HG.out j hlt
      go_wp2_with fail
      go_roundw
      case rel => exact ⟨j + 1, by omega, by go_num, by first | rfl | trivial⟩
      case measure => simp [intOf]; omega
    · have hjS : j = S := by omega
      subst hjS
      have hl := HL.out
      go_wp2_with (at_make; refine wpList_make_full _ rfl _ _ 24 rfl _ 5 i0 (.int .u8 0) 1 Tryz.underlying24 hi hz0 hz1 _ _ _ _ j rfl rfl rfl rfl (by rw [hz2]; omega) (by unfold maxLen; omega) (Nat.le_refl _) ?_; intro w2 hown hgrow)
      go_ret
      exact ⟨_, rfl, (Own.of_made hown).lower HW.out.size, below_step HW.out ((Below.refl _ _).grown hgrow (Nat.le_refl _) (by simp))⟩

/-- what piece answers -/
def PieceIs (x : Src) (a : Nat) (w : World) (E : Ending) (w' : World) : Prop := ∃ q' cap, E = .returned (.slice q' (sizeL x a) cap) ∧ Row w' q' (pieceL x a) ∧ (q' = none → sizeL x a = 0 ∧ cap = 0) ∧ Below w.heap.size w w'

end Go.Proofs.YtkianldkbfjehaaGreatDoor

/- switchyardref05.piece, for every item that holds what its kind asks for. -/
namespace Go.Proofs.YtkianldkbfjehaaGreatDoor
open Go.RowKit

theorem piece_any (x : Src) (hx : Fit x) (hg : GoodP x) (q : Option Addr) (m e : Nat) (at_ : Nat) (hat : x.k = 6 → at_ ≤ 4611686018427387000) (w : World) (hm : x.d.length = m) (hr : Row w q x.d) :
    Calls Tryz.prog 66 #[.agg (cellsOf x (.slice q m e)), .int .i64 at_] w (PieceIs x at_ w) := by
  subst hm
  obtain ⟨k, s, t, o, a, b, m', n, d⟩ := x
  rcases hg with h | ⟨h, hR⟩ | h | ⟨h, h1, h2, _⟩ | ⟨h, h1, h2⟩ | ⟨h, h1⟩ | h
  · simp only at h; subst h
    refine (piece_none _ (by simp) (by simp) (by simp) (by simp) q _ e at_ w).mono ?_
    rintro E w' ⟨rfl, hb⟩
    exact ⟨none, 0, rfl, fun h => absurd h (Nat.lt_irrefl 0), fun _ => ⟨rfl, rfl⟩, hb⟩
  · obtain ⟨o', ho⟩ := Int.eq_ofNat_of_zero_le hx.o0
    simp only at ho h hR
    subst ho
    have hR : rightB o' a b m' = true := hR
    refine (piece_ins k h s t o' a b m' n d ⟨hx.a0, hx.a1⟩ ⟨hx.b0, hx.b1⟩ hR q _ e at_ w).mono ?_
    rintro E w' ⟨v, rfl, hO, hb⟩
    subst h
    have e2 : saidL ⟨2, s, t, o', a, b, m', n, d⟩ = encL o' a b m' := rfl
    have e1 : pieceL ⟨2, s, t, o', a, b, m', n, d⟩ at_ = encL o' a b m' := by
      unfold pieceL; rw [if_neg (by simp)]; rfl
    have e3 : sizeL ⟨2, s, t, o', a, b, m', n, d⟩ at_ = (encL o' a b m').length := by rw [← piece_size, e1]
    obtain ⟨p, cap, rfl, hrow, hc⟩ := hO.slice
    unfold PieceIs
    rw [e1, e3]
    refine ⟨p, cap, rfl, hrow, fun hp => ⟨?_, hc hp⟩, hb⟩
    by_cases h0 : 0 < (encL o' a b m').length
    · obtain ⟨_, _, hh, _⟩ := hrow h0
      rw [hp] at hh; cases hh
    · omega
  · simp only at h; subst h
    refine (piece_none _ (by simp) (by simp) (by simp) (by simp) q _ e at_ w).mono ?_
    rintro E w' ⟨rfl, hb⟩
    exact ⟨none, 0, rfl, fun h => absurd h (Nat.lt_irrefl 0), fun _ => ⟨rfl, rfl⟩, hb⟩
  · simp only at h h1 h2; subst h
    refine (piece_data _ rfl q _ e at_ w).mono ?_
    rintro E w' ⟨rfl, hb⟩
    have e1 : pieceL ⟨4, s, t, o, a, b, m', n, d⟩ at_ = d := by
      unfold pieceL; rw [if_neg (by simp)]; rfl
    have e3 : sizeL ⟨4, s, t, o, a, b, m', n, d⟩ at_ = d.length := by rw [← piece_size, e1]
    unfold PieceIs
    rw [e1, e3]
    refine ⟨q, e, rfl, hr.below hb, fun hp => ?_, hb⟩
    obtain ⟨_, _, hh, _⟩ := hr (by show 0 < d.length; omega)
    rw [hp] at hh; cases hh
  · simp only at h h1 h2
    obtain ⟨n', hn⟩ := Int.eq_ofNat_of_zero_le h1
    subst hn
    refine (piece_space k h s t o a b m' n' (by omega) d q _ e at_ w).mono ?_
    rintro E w' ⟨g, rfl, hO, hb⟩
    subst h
    have e3 : sizeL ⟨5, s, t, o, a, b, m', n', d⟩ at_ = n' := rfl
    have e1 : pieceL ⟨5, s, t, o, a, b, m', n', d⟩ at_ = List.replicate n' 0 := by
      unfold pieceL; rw [if_pos (.inl rfl)]; rfl
    unfold PieceIs
    rw [e1, e3]
    exact ⟨_, _, rfl, hO.row, fun hp => (by cases hp), hb⟩
  · simp only at h h1
    have e3 : sizeL ⟨k, s, t, o, a, b, m', n, d⟩ at_ = (n.toNat - at_ % n.toNat) % n.toNat := by
      unfold sizeL; rw [if_neg (by simp [h]), if_pos h]
    have e1 : pieceL ⟨k, s, t, o, a, b, m', n, d⟩ at_ = List.replicate ((n.toNat - at_ % n.toNat) % n.toNat) 0 := by
      unfold pieceL; rw [if_pos (.inr h), e3]
    refine (piece_align k h s t o a b m' n n.toNat (by omega) (by omega) (by omega) d q _ e at_ (hat h) w _ rfl).mono ?_
    rintro E w' ⟨g, rfl, hO, hb⟩
    unfold PieceIs
    rw [e1, e3]
    exact ⟨_, _, rfl, hO.row, fun hp => (by cases hp), hb⟩
  · simp only at h; subst h
    refine (piece_none _ (by simp) (by simp) (by simp) (by simp) q _ e at_ w).mono ?_
    rintro E w' ⟨rfl, hb⟩
    exact ⟨none, 0, rfl, fun h => absurd h (Nat.lt_irrefl 0), fun _ => ⟨rfl, rfl⟩, hb⟩

end Go.Proofs.YtkianldkbfjehaaGreatDoor

/- switchyardref04.Check answers what source.Check does. -/
namespace Go.Proofs.YtkianldkbfjehaaGreatDoor
open Go.RowKit

set_option maxRecDepth 20000 in
set_option maxHeartbeats 1000000 in
theorem refCheck_any (p : Option Addr) (n c : Nat) (xs : List Src) (w : World) (hn : xs.length = n) (hn63 : n ≤ 9223372036854775807) (hx : Items w p xs) :
    Calls Tryz.prog 27 #[.slice p n c] w fun E w' => E = .returned (.tuple #[.int .i64 (checkL xs).1, .int .i64 (checkL xs).2]) ∧ Below w.heap.size w w' := by
  by_cases hbig : 4096 < n
  · have HC : Hid (checkL xs = (3, 0)) := by
      have : checkL xs = (3, 0) := by unfold checkL; rw [if_pos (by omega)]
      exact this
    generalize checkL xs = r at *
    obtain rfl := HC.out
    go_enter Tryz.func27, Tryz.ntmps27
    go_wp2
    go_ret2
    exact ⟨rfl, below_self _⟩
  · obtain ⟨r, hr⟩ : ∃ r, r = checkL xs := ⟨_, rfl⟩
    have HC : Hid (r = chkAt 0 xs) := by
      have : r = chkAt 0 xs := by rw [hr]; unfold checkL; rw [if_neg (by omega)]
      exact this
    rw [← hr]
    clear hr
    have HX := Hid.in hx
    have HN := Hid.in hn
    clear hx hn
    go_enter Tryz.func27, Tryz.ntmps27
    go_wp2
    go_loopw [4] (fun i wr => ∃ k : Nat, k ≤ n ∧ i = .int .i64 k ∧ chkAt 0 xs = chkAt k (xs.drop k) ∧ Below w.heap.size w wr) (fun i _ => n - (intOf i).toNat)
    case atStart => exact ⟨0, Nat.zero_le _, rfl, rfl, below_self _⟩
    case round =>
      obtain ⟨k, hk, rfl, hch, hb⟩ := hrel
      have HCH := Hid.in hch
      have HB := Hid.in hb
      clear hch hb
      by_cases hlt : k < n
      · have hlt' : k < xs.length := by rw [HN.out]; exact hlt
        obtain ⟨b, o, hp, hc⟩ := HX.out.below HB.out (by omega)
        subst hp
        obtain ⟨q, e, hR, hrow, hfit⟩ := hc k hlt'
        have HST := Hid.in (chk_step xs k hlt')
        have hM := fun (mb : Bool) (hmb : mb = true ↔ MayP (xs[k]'hlt')) => refMay_any (xs[k]'hlt') hfit q (xs[k]'hlt').d.length e wr rfl hrow mb hmb
        have HIT := Hid.in hc
        have HR := Hid.in hR
        clear hc hR hrow hfit
        generalize xs[k] = x at *
        cases hmb : mayB x with
        | false =>
          have hM1 := hM false (by rw [← hmb]; exact mayB_iff x)
          have HRR : Hid (r = (2, k)) := by
            have : r = _ := HC.out
            rw [this, HCH.out, HST.out, if_pos hmb]; exact rfl
          clear hM hmb
          go_wp2_with (first
            | (refine step_load_at HR.out rfl 57 (.tmp 16) rfl rfl _ Tryz.underlying57 rfl Tryz.sz57 ?_)
            | (go_at_call 65; refine hM1.mono ?_; rintro E w5 ⟨rfl, hb5⟩))
          obtain rfl := HRR.out
          go_ret2
          exact ⟨rfl, below_step HB.out hb5⟩
        | true =>
          have hM1 := hM true ⟨fun _ => (mayB_iff x).1 hmb, fun _ => rfl⟩
          have HCK : Hid (wr.cell? ⟨b, o + k * 9, none⟩ = some (.int .u8 x.k)) := HR.out 0 _ rfl
          clear hM
          have hmb' : ¬ mayB x = false := by rw [hmb]; simp
          by_cases hk3 : x.k = 3
          · have hwr := wrapK k (by omega)
            have htn : ((k : Int) + 1).toNat = k + 1 := by omega
            have hk0 : (0 : Int) ≤ (k : Int) + 1 := by omega
            rw [hk3] at HCK
            by_cases hk1 : k + 1 < n
            · have hlt1 : k + 1 < xs.length := by rw [HN.out]; exact hk1
              obtain ⟨q1, e1, hR1, -, -⟩ := HIT.out (k + 1) hlt1
              have htk : takesB (xs.drop (k + 1)) = (decide ((xs[k + 1]'hlt1).k = 3) || (decide ((xs[k + 1]'hlt1).k = 2) && decide ((xs[k + 1]'hlt1).o = 3))) := by
                rw [List.drop_eq_getElem_cons hlt1]; rfl
              have HC1 : Hid (wr.cell? ⟨b, o + (k + 1) * 9, none⟩ = some (.int .u8 (xs[k + 1]'hlt1).k)) := hR1 0 _ rfl
              have HC4 : Hid (wr.cell? ⟨b, o + (k + 1) * 9 + 3, none⟩ = some (.int .u8 (xs[k + 1]'hlt1).o)) := hR1 3 _ rfl
              clear hR1
              have hkn1 : (k : Int) + 1 < (n : Int) := by omega
              generalize (xs[k + 1]'hlt1).k = k1 at *
              generalize (xs[k + 1]'hlt1).o = o1 at *
              by_cases j3 : k1 = 3
              · have htb : takesB (xs.drop (k + 1)) = true := by rw [htk]; simp [j3]
                subst j3
                clear htk
                have HNX : Hid (chkAt 0 xs = chkAt (k + 1) (xs.drop (k + 1))) := by
                  have : chkAt 0 xs = _ := HCH.out
                  rw [this, HST.out, if_neg hmb', if_neg (by rw [htb]; simp)]; exact rfl
                clear hmb htb hmb'
                go_wp2_with (first
                  | (refine step_load_at HR.out rfl 57 (.tmp 16) rfl rfl _ Tryz.underlying57 rfl Tryz.sz57 ?_)
                  | (go_at_call 65; refine hM1.mono ?_; rintro E w5 ⟨rfl, hb5⟩; have hck := (hb5.cell (p := ⟨b, o + k * 9, none⟩) (cell_lt HCK.out)).trans HCK.out; have hc1 := (hb5.cell (p := ⟨b, o + (k + 1) * 9, none⟩) (cell_lt HC1.out)).trans HC1.out; have hc4 := (hb5.cell (p := ⟨b, o + (k + 1) * 9 + 3, none⟩) (cell_lt HC4.out)).trans HC4.out; have HB5 := Hid.in hb5; clear hb5))
                go_roundw
                case rel => exact ⟨k + 1, by omega, by go_num, HNX.out, below_step HB.out HB5.out⟩
                case measure => simp [intOf]; omega
              · by_cases j2 : k1 = 2
                · subst j2
                  by_cases p3 : o1 = 3
                  · subst p3
                    have htb : takesB (xs.drop (k + 1)) = true := by rw [htk]; rfl
                    clear htk
                    have HNX : Hid (chkAt 0 xs = chkAt (k + 1) (xs.drop (k + 1))) := by
                      have : chkAt 0 xs = _ := HCH.out
                      rw [this, HST.out, if_neg hmb', if_neg (by rw [htb]; simp)]; exact rfl
                    clear hmb htb hmb'
                    go_wp2_with (first
                      | (refine step_load_at HR.out rfl 57 (.tmp 16) rfl rfl _ Tryz.underlying57 rfl Tryz.sz57 ?_)
                      | (go_at_call 65; refine hM1.mono ?_; rintro E w5 ⟨rfl, hb5⟩; have hck := (hb5.cell (p := ⟨b, o + k * 9, none⟩) (cell_lt HCK.out)).trans HCK.out; have hc1 := (hb5.cell (p := ⟨b, o + (k + 1) * 9, none⟩) (cell_lt HC1.out)).trans HC1.out; have hc4 := (hb5.cell (p := ⟨b, o + (k + 1) * 9 + 3, none⟩) (cell_lt HC4.out)).trans HC4.out; have HB5 := Hid.in hb5; clear hb5))
                    go_roundw
                    case rel => exact ⟨k + 1, by omega, by go_num, HNX.out, below_step HB.out HB5.out⟩
                    case measure => simp [intOf]; omega
                  · have htb : takesB (xs.drop (k + 1)) = false := by rw [htk]; simp [p3]
                    have p3b : (o1 != 3) = true := by simp [p3]
                    clear htk p3
                    have HRR : Hid (r = (182, k)) := by
                      have : r = _ := HC.out
                      rw [this, HCH.out, HST.out, if_neg hmb', if_pos ⟨hk3, htb⟩]; exact rfl
                    clear hmb htb hmb'
                    go_wp2_with (first
                      | (refine step_load_at HR.out rfl 57 (.tmp 16) rfl rfl _ Tryz.underlying57 rfl Tryz.sz57 ?_)
                      | (go_at_call 65; refine hM1.mono ?_; rintro E w5 ⟨rfl, hb5⟩; have hck := (hb5.cell (p := ⟨b, o + k * 9, none⟩) (cell_lt HCK.out)).trans HCK.out; have hc1 := (hb5.cell (p := ⟨b, o + (k + 1) * 9, none⟩) (cell_lt HC1.out)).trans HC1.out; have hc4 := (hb5.cell (p := ⟨b, o + (k + 1) * 9 + 3, none⟩) (cell_lt HC4.out)).trans HC4.out; have HB5 := Hid.in hb5; clear hb5))
                    obtain rfl := HRR.out
                    go_ret2
                    exact ⟨rfl, below_step HB.out HB5.out⟩
                · have htb : takesB (xs.drop (k + 1)) = false := by rw [htk]; simp [j2, j3]
                  have j2b : (k1 != 2) = true := by simp [j2]
                  have j3b : (k1 != 3) = true := by simp [j3]
                  clear htk j2 j3
                  have HRR : Hid (r = (182, k)) := by
                    have : r = _ := HC.out
                    rw [this, HCH.out, HST.out, if_neg hmb', if_pos ⟨hk3, htb⟩]; exact rfl
                  clear hmb htb hmb'
                  go_wp2_with (first
                    | (refine step_load_at HR.out rfl 57 (.tmp 16) rfl rfl _ Tryz.underlying57 rfl Tryz.sz57 ?_)
                    | (go_at_call 65; refine hM1.mono ?_; rintro E w5 ⟨rfl, hb5⟩; have hck := (hb5.cell (p := ⟨b, o + k * 9, none⟩) (cell_lt HCK.out)).trans HCK.out; have hc1 := (hb5.cell (p := ⟨b, o + (k + 1) * 9, none⟩) (cell_lt HC1.out)).trans HC1.out; have hc4 := (hb5.cell (p := ⟨b, o + (k + 1) * 9 + 3, none⟩) (cell_lt HC4.out)).trans HC4.out; have HB5 := Hid.in hb5; clear hb5))
                  obtain rfl := HRR.out
                  go_ret2
                  exact ⟨rfl, below_step HB.out HB5.out⟩
            · have htb : takesB (xs.drop (k + 1)) = false := by
                rw [List.drop_eq_nil_of_le (by rw [HN.out]; omega)]; rfl
              have hkn1 : ¬ (k : Int) + 1 < (n : Int) := by omega
              have HRR : Hid (r = (182, k)) := by
                have : r = _ := HC.out
                rw [this, HCH.out, HST.out, if_neg hmb', if_pos ⟨hk3, htb⟩]; exact rfl
              clear hmb htb hmb'
              go_wp2_with (first
                | (refine step_load_at HR.out rfl 57 (.tmp 16) rfl rfl _ Tryz.underlying57 rfl Tryz.sz57 ?_)
                | (go_at_call 65; refine hM1.mono ?_; rintro E w5 ⟨rfl, hb5⟩; have hck := (hb5.cell (p := ⟨b, o + k * 9, none⟩) (cell_lt HCK.out)).trans HCK.out;  have HB5 := Hid.in hb5; clear hb5))
              obtain rfl := HRR.out
              go_ret2
              exact ⟨rfl, below_step HB.out HB5.out⟩
          · have HNX : Hid (chkAt 0 xs = chkAt (k + 1) (xs.drop (k + 1))) := by
              have : chkAt 0 xs = _ := HCH.out
              rw [this, HST.out, if_neg hmb', if_neg (fun h => hk3 h.1)]; exact rfl
            clear hmb hmb'
            go_wp2_with (first
              | (refine step_load_at HR.out rfl 57 (.tmp 16) rfl rfl _ Tryz.underlying57 rfl Tryz.sz57 ?_)
              | (go_at_call 65; refine hM1.mono ?_; rintro E w5 ⟨rfl, hb5⟩; have hck := (hb5.cell (p := ⟨b, o + k * 9, none⟩) (cell_lt HCK.out)).trans HCK.out; have HB5 := Hid.in hb5; clear hb5))
            go_roundw
            case rel => exact ⟨k + 1, by omega, by go_num, HNX.out, below_step HB.out HB5.out⟩
            case measure => simp [intOf]; omega
      · have HRR : Hid (r = (0, 0)) := by
          have : r = _ := HC.out
          rw [this, HCH.out, show xs.drop k = [] from List.drop_eq_nil_of_le (by rw [HN.out]; omega)]; exact rfl
        go_wp2
        obtain rfl := HRR.out
        go_ret2
        exact ⟨rfl, HB.out⟩

end Go.Proofs.YtkianldkbfjehaaGreatDoor
