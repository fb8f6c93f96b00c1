/- What bytes.Equal, octets.Same and switchyardkit.SameBytes answer, for every two slices of bytes. -/
import Derived.Test.YtekggimgobeggaaProg
import Derived.Test.YtekggimgobeggaaNums
import Derived.Laws.BytesArg
import Derived.Deep.QuietTactic
import Derived.BigQuiet
import Derived.Lib.Strings
namespace Go.Proofs.Ytekggimgobeggaa
open Go.RowKit

theorem convert_zero (w : World) (p : Option Addr) (c : Nat) :
    (convert 54 9 (.slice p 0 c)).run Try.prog w = .ok (.string ByteArray.empty) w := by
  rw [run_convert_bytes_string w 54 9 5 _ 0 c Try.underlying54 Try.underlying5 Try.underlying9]
  cases p <;> simp [Conv.bytesToString, loadCells]
  all_goals rfl

theorem Row.convert {w : World} {p : Option Addr} {n : Nat} {xs : List Int} (h : Row w p xs) (hx : xs.length = n) (c : Nat) :
    (convert 54 9 (.slice p n c)).run Try.prog w = .ok (.string (strOfNums xs)) w := by
  rcases Nat.eq_zero_or_pos n with hn | hn
  · subst hn
    obtain rfl : xs = [] := List.eq_nil_of_length_eq_zero hx
    exact convert_zero w p c
  · obtain ⟨b, o, rfl, hc⟩ := h (by omega)
    exact run_convert_bytes_arg (P := Try.prog) w 54 5 Try.underlying54 Try.underlying5 b o n c xs hx (fun i hi => hc i (by omega)) 9 Try.underlying9

def sameB (xs ys : List Int) : Bool := decide (xs = ys)
theorem sameB_self (xs : List Int) : sameB xs xs = true := by simp [sameB]
theorem sameB_yes {xs ys : List Int} (h : xs = ys) : sameB xs ys = true := by simp [sameB, h]
theorem sameB_no {xs ys : List Int} (h : xs ≠ ys) : sameB xs ys = false := by simp [sameB, h]

theorem Byt.mem {xs : List Int} (h : Byt xs) : ∀ x ∈ xs, 0 ≤ x ∧ x ≤ 255 := by
  intro x hx
  obtain ⟨i, hi, rfl⟩ := List.mem_iff_getElem.1 hx
  have := h i
  simpa [List.getD, hi] using this

theorem ofNat_inj {a b : Int} (ha : 0 ≤ a ∧ a ≤ 255) (hb : 0 ≤ b ∧ b ≤ 255) (h : UInt8.ofNat a.toNat = UInt8.ofNat b.toNat) : a = b := by
  have e := congrArg UInt8.toNat h
  simp only [UInt8.toNat_ofNat'] at e
  omega

theorem map_inj : ∀ (xs ys : List Int), (∀ x ∈ xs, 0 ≤ x ∧ x ≤ 255) → (∀ x ∈ ys, 0 ≤ x ∧ x ≤ 255) → (xs.map fun n => UInt8.ofNat n.toNat) = (ys.map fun n => UInt8.ofNat n.toNat) → xs = ys
  | [], [], _, _, _ => rfl
  | [], _ :: _, _, _, h => by simp at h
  | _ :: _, [], _, _, h => by simp at h
  | x :: xs, y :: ys, h1, h2, h => by
    simp only [List.map_cons, List.cons.injEq] at h
    rw [ofNat_inj (h1 x (by simp)) (h2 y (by simp)) h.1, map_inj xs ys (fun z hz => h1 z (by simp [hz])) (fun z hz => h2 z (by simp [hz])) h.2]

theorem str_same {xs ys : List Int} (b1 : Byt xs) (b2 : Byt ys) : ((strOfNums xs).toList == (strOfNums ys).toList) = sameB xs ys := by
  rw [Lib.toList_data, Lib.toList_data, strOfNums_data, strOfNums_data]
  by_cases h : xs = ys
  · subst h; simp [sameB]
  · rw [sameB_no h]
    exact beq_eq_false_iff_ne.2 fun e => h (map_inj _ _ b1.mem b2.mem e)

theorem ret_bool {a b : Bool} (h : a = b) : Ending.returned (.bool a) = .returned (.bool b) := by rw [h]

/-! ### switchyardkit.SameBytes -/
theorem sameB_len {xs ys : List Int} (h : xs.length ≠ ys.length) : sameB xs ys = false := sameB_no fun e => h (by rw [e])
theorem sameB_at {xs ys : List Int} (k : Nat) (h : xs.getD k 0 ≠ ys.getD k 0) : sameB xs ys = false := sameB_no fun e => h (by rw [e])
theorem sameB_all {xs ys : List Int} (hl : xs.length = ys.length) (h : ∀ j, j < xs.length → xs.getD j 0 = ys.getD j 0) : sameB xs ys = true :=
  sameB_yes (List.ext_getElem hl fun j h1 h2 => by have := h j h1; simpa [List.getD, h1, h2] using this)

set_option maxHeartbeats 400000 in
theorem sameBytes_len (p q : Option Addr) (n c m d : Nat) (w : World) (h : n ≠ m) :
    Calls Try.prog 33 #[.slice p n c, .slice q m d] w fun e w' => e = .returned (.bool false) ∧ w' = w := by
  have hne : ((n : Int) != (m : Int)) = true := by rw [bne_iff_ne]; omega
  go_enter Try.func33, Try.ntmps33
  go_wp2
  go_ret
  exact ⟨rfl, rfl⟩

set_option maxHeartbeats 400000 in
theorem sameBytes_zero (p q : Option Addr) (c d : Nat) (w : World) :
    Calls Try.prog 33 #[.slice p 0 c, .slice q 0 d] w fun e w' => e = .returned (.bool true) ∧ w' = w := by
  go_enter Try.func33, Try.ntmps33
  go_wp2
  refine wp_loop_rounds 1 ?_
  rw [rounds_succ]; go_wp2
  go_ret
  exact ⟨rfl, rfl⟩

set_option maxHeartbeats 400000 in
theorem sameBytes_at (b o b' o' n c d : Nat) (xs ys : List Int) (w : World) (hn : n ≤ 9223372036854775807) (hx : xs.length = n) (hy : ys.length = n)
    (h1 : ∀ i, i < n → w.cell? ⟨b, o + i, none⟩ = some (.int .u8 (xs.getD i 0))) (h2 : ∀ i, i < n → w.cell? ⟨b', o' + i, none⟩ = some (.int .u8 (ys.getD i 0))) :
    Calls Try.prog 33 #[.slice (some ⟨b, o, none⟩) n c, .slice (some ⟨b', o', none⟩) n d] w fun e w' => e = .returned (.bool (sameB xs ys)) ∧ ∃ m, w' = w.drewN m := by
  have hne : ((n : Int) != (n : Int)) = false := by simp
  have H1 : Hid (∀ i, i < n → w.cell? ⟨b, o + i, none⟩ = some (.int .u8 (xs.getD i 0))) := h1
  have H2 : Hid (∀ i, i < n → w.cell? ⟨b', o' + i, none⟩ = some (.int .u8 (ys.getD i 0))) := h2
  have HX : Hid (xs.length = n) := hx
  have HY : Hid (ys.length = n) := hy
  clear h1 h2 hx hy
  go_enter Try.func33, Try.ntmps33
  go_wp2
  go_loopw [5] (fun i wr => ∃ k m : Nat, k ≤ n ∧ i = .int .i64 k ∧ wr = w.drewN m ∧ ∀ j, j < k → xs.getD j 0 = ys.getD j 0) (fun i _ => n - (intOf i).toNat)
  case atStart => exact ⟨0, 0, Nat.zero_le _, rfl, rfl, fun j hj => absurd hj (Nat.not_lt_zero _)⟩
  case round =>
    obtain ⟨k, m, hk, rfl, rfl, hs⟩ := hrel
    have HS : Hid (∀ j, j < k → xs.getD j 0 = ys.getD j 0) := hs
    clear hs
    by_cases hlt : k < n
    · have c1 := H1.out k hlt
      have c2 := H2.out k hlt
      obtain ⟨x, hx⟩ : ∃ x, x = xs.getD k 0 := ⟨_, rfl⟩
      obtain ⟨y, hy⟩ : ∃ y, y = ys.getD k 0 := ⟨_, rfl⟩
      rw [← hx] at c1
      rw [← hy] at c2
      have E1 : Hid (x = xs.getD k 0) := hx
      have E2 : Hid (y = ys.getD k 0) := hy
      clear hx hy
      cases hb : (x != y)
      · go_wp2
        go_quiet (fail)
        go_wp2
        go_roundw
        case rel =>
          refine ⟨k + 1, _, by omega, by go_num, rfl, fun j hj => ?_⟩
          by_cases e : j = k
          · subst e; rw [← E1.out, ← E2.out]; simpa using hb
          · exact HS.out j (by omega)
        case measure => simp [intOf]; omega
      · go_wp2
        go_quiet (fail)
        go_wp2
        go_ret
        exact ⟨ret_bool (sameB_at k (by rw [← E1.out, ← E2.out]; simpa using hb)).symm, m + nq, World.drewN_drewN ..⟩
    · go_wp2
      go_ret
      exact ⟨ret_bool (sameB_all (by rw [HX.out, HY.out]) fun j hj => HS.out j (by have := HX.out; omega)).symm, _, rfl⟩

theorem sameBytes_any (p q : Option Addr) (n c m d : Nat) (xs ys : List Int) (w : World) (hx : xs.length = n) (hy : ys.length = m) (hn : n ≤ 9223372036854775807) (h1 : Row w p xs) (h2 : Row w q ys) :
    Calls Try.prog 33 #[.slice p n c, .slice q m d] w fun e w' => e = .returned (.bool (sameB xs ys)) ∧ ∃ m, w' = w.drewN m := by
  by_cases h : n = m
  · subst h
    rcases Nat.eq_zero_or_pos n with h0 | h0
    · subst h0
      obtain rfl : xs = [] := List.eq_nil_of_length_eq_zero hx
      obtain rfl : ys = [] := List.eq_nil_of_length_eq_zero hy
      exact (sameBytes_zero p q c d w).mono fun e w' h => ⟨h.1, 0, h.2⟩
    · obtain ⟨b, o, rfl, e1⟩ := h1 (by omega)
      obtain ⟨b', o', rfl, e2⟩ := h2 (by omega)
      exact sameBytes_at b o b' o' n c d xs ys w hn hx hy (fun i hi => e1 i (by omega)) (fun i hi => e2 i (by omega))
  · rw [sameB_len (by omega)]
    exact (sameBytes_len p q n c m d w h).mono fun e w' h => ⟨h.1, 0, h.2⟩

end Go.Proofs.Ytekggimgobeggaa
