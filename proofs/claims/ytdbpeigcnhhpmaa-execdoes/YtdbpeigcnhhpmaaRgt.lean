/- exec.Same, exec.copied, switchyardkit.CopyRegs, for all registers. -/
import Derived.Test.YtdbpeigcnhhpmaaRgs
import Derived.Laws.CopyOwn
namespace Go.Proofs.Ytdbpeigcnhhpmaa
open Go.RowKit

set_option maxHeartbeats 400000 in
theorem eqPlaces_len (p q : Option Addr) (n c m d : Nat) (w : World) (h : n ≠ m) :
    Calls Try.prog 26 #[.slice p n c, .slice q m d] w fun e w' => e = .returned (.bool false) ∧ w' = w := by
  have hne : ((n : Int) != (m : Int)) = true := by rw [bne_iff_ne]; omega
  go_enter Try.func26, Try.ntmps26
  go_wp2
  go_ret
  exact ⟨rfl, rfl⟩

set_option maxHeartbeats 400000 in
theorem eqPlaces_zero (p q : Option Addr) (c d : Nat) (w : World) :
    Calls Try.prog 26 #[.slice p 0 c, .slice q 0 d] w fun e w' => e = .returned (.bool true) ∧ w' = w := by
  go_enter Try.func26, Try.ntmps26
  go_wp2
  refine wp_loop_rounds 1 ?_
  rw [rounds_succ]; go_wp2
  go_ret
  exact ⟨rfl, rfl⟩

set_option maxHeartbeats 400000 in
theorem eqPlaces_at (b o b' o' n c d : Nat) (xs ys : List Int) (w : World) (hn : n ≤ 9223372036854775807) (hx : xs.length = n) (hy : ys.length = n)
    (h1 : ∀ i, i < n → w.cell? ⟨b, o + i, none⟩ = some (.int .u32 (xs.getD i 0))) (h2 : ∀ i, i < n → w.cell? ⟨b', o' + i, none⟩ = some (.int .u32 (ys.getD i 0))) :
    Calls Try.prog 26 #[.slice (some ⟨b, o, none⟩) n c, .slice (some ⟨b', o', none⟩) n d] w fun e w' => e = .returned (.bool (sameB xs ys)) ∧ ∃ m, w' = w.drewN m := by
  have hne : ((n : Int) != (n : Int)) = false := by simp
  have H1 : Hid (∀ i, i < n → w.cell? ⟨b, o + i, none⟩ = some (.int .u32 (xs.getD i 0))) := h1
  have H2 : Hid (∀ i, i < n → w.cell? ⟨b', o' + i, none⟩ = some (.int .u32 (ys.getD i 0))) := h2
  have HX : Hid (xs.length = n) := hx
  have HY : Hid (ys.length = n) := hy
  clear h1 h2 hx hy
  go_enter Try.func26, Try.ntmps26
  go_wp2
  go_loopw [13] (fun i wr => ∃ k m : Nat, k ≤ n ∧ i = .int .i64 k ∧ wr = w.drewN m ∧ ∀ j, j < k → xs.getD j 0 = ys.getD j 0) (fun i _ => n - (intOf i).toNat)
  case atStart => exact ⟨0, 0, Nat.zero_le _, rfl, rfl, fun j hj => absurd hj (Nat.not_lt_zero _)⟩
  case round =>
    obtain ⟨k, m, hk, rfl, rfl, hs⟩ := hrel
    have HS : Hid (∀ j, j < k → xs.getD j 0 = ys.getD j 0) := hs
    clear hs
    by_cases hlt : k < n
    · have c1 := H1.out k hlt
      have c2 := H2.out k hlt
      obtain ⟨x, hx⟩ : ∃ x, x = xs.getD k 0 := ⟨_, rfl⟩
      obtain ⟨y, hy⟩ : ∃ y, y = ys.getD k 0 := ⟨_, rfl⟩
      rw [← hx] at c1
      rw [← hy] at c2
      have E1 : Hid (x = xs.getD k 0) := hx
      have E2 : Hid (y = ys.getD k 0) := hy
      clear hx hy
      cases hb : (x != y)
      · go_wp2
        go_quiet (fail)
        go_wp2
        go_roundw
        case rel =>
          refine ⟨k + 1, _, by omega, by go_num, rfl, fun j hj => ?_⟩
          by_cases e : j = k
          · subst e; rw [← E1.out, ← E2.out]; simpa using hb
          · exact HS.out j (by omega)
        case measure => simp [intOf]; omega
      · go_wp2
        go_quiet (fail)
        go_wp2
        go_ret
        exact ⟨ret_bool (sameB_at k (by rw [← E1.out, ← E2.out]; simpa using hb)).symm, m + nq, World.drewN_drewN ..⟩
    · go_wp2
      go_ret
      exact ⟨ret_bool (sameB_all (by rw [HX.out, HY.out]) fun j hj => HS.out j (by have := HX.out; omega)).symm, _, rfl⟩

theorem eqPlaces_any (p q : Option Addr) (n c m d : Nat) (xs ys : List Int) (w : World) (hx : xs.length = n) (hy : ys.length = m) (hn : n ≤ 9223372036854775807) (h1 : PRow w p xs) (h2 : PRow w q ys) :
    Calls Try.prog 26 #[.slice p n c, .slice q m d] w fun e w' => e = .returned (.bool (sameB xs ys)) ∧ ∃ m, w' = w.drewN m := by
  by_cases h : n = m
  · subst h
    rcases Nat.eq_zero_or_pos n with h0 | h0
    · subst h0
      obtain rfl : xs = [] := List.eq_nil_of_length_eq_zero hx
      obtain rfl : ys = [] := List.eq_nil_of_length_eq_zero hy
      exact (eqPlaces_zero p q c d w).mono fun e w' h => ⟨h.1, 0, h.2⟩
    · obtain ⟨b, o, rfl, e1⟩ := h1 (by omega)
      obtain ⟨b', o', rfl, e2⟩ := h2 (by omega)
      exact eqPlaces_at b o b' o' n c d xs ys w hn hx hy (fun i hi => e1 i (by omega)) (fun i hi => e2 i (by omega))
  · rw [sameB_len (by omega)]
    exact (eqPlaces_len p q n c m d w h).mono fun e w' h => ⟨h.1, 0, h.2⟩

set_option maxHeartbeats 1000000 in
theorem execSame_any (R S : List Int) (p q : Option Addr) (n c m d : Nat) (xs ys : List Int) (w : World) (lR : R.length = 8) (lS : S.length = 8) (hR : Wds R) (hS : Wds S)
    (hx : xs.length = n) (hy : ys.length = m) (hn : n ≤ 9223372036854775807) (h1 : PRow w p xs) (h2 : PRow w q ys) :
    Calls Try.prog 17 #[rgV R (.slice p n c), rgV S (.slice q m d)] w fun e w' => e = .returned (.bool (sameB R S && sameB xs ys)) ∧ Below w.heap.size w w' := by
  obtain ⟨r0, r1, r2, r3, r4, r5, r6, r7, rfl⟩ := eight lR
  obtain ⟨s0, s1, s2, s3, s4, s5, s6, s7, rfl⟩ := eight lS
  rw [rgV_eight, rgV_eight]
  have heq := fun w => eq_eight r0 r1 r2 r3 r4 r5 r6 r7 s0 s1 s2 s3 s4 s5 s6 s7 w hR hS
  have hcon := fun W (hb : Below w.heap.size w W) => eqPlaces_any p q n c m d xs ys W hx hy hn (h1.below hb) (h2.below hb)
  clear hx hy h1 h2 hR hS lR lS
  generalize sameB xs ys = t at *
  cases hs : sameB [r0, r1, r2, r3, r4, r5, r6, r7] [s0, s1, s2, s3, s4, s5, s6, s7]
  · rw [hs] at heq
    clear hs
    go_enter Try.func17, Try.ntmps17
    go_wp2
    go_ret
    exact ⟨rfl, below_alloc (new_alloc _ _) _⟩
  · rw [hs] at heq
    clear hs
    go_enter Try.func17, Try.ntmps17
    go_wp2_with (go_at_call 26; refine (hcon _ (below_alloc (new_alloc _ _) _)).mono ?_; rintro e w1 ⟨rfl, nq, rfl⟩)
    go_ret
    exact ⟨rfl, below_draws (below_alloc (new_alloc _ _) _) _⟩

theorem one_wrds (xs : List Int) : ∀ v ∈ wrds xs, v.oneCell' = true := fun u hu => by
  simp only [wrds, List.mem_map] at hu
  obtain ⟨z, _, rfl⟩ := hu
  rfl
theorem PRow.src {w : World} {p : Option Addr} {xs : List Int} (h : PRow w p xs) (h0 : 0 < xs.length) : ∃ ad, p = some ad ∧ ∀ j v, (wrds xs)[j]? = some v → w.cell? (ad.add j) = some v := by
  obtain ⟨b, o, rfl, hc⟩ := h h0
  refine ⟨_, rfl, fun j v hj => ?_⟩
  have hjl : j < xs.length := by
    rcases Nat.lt_or_ge j xs.length with h | h
    · exact h
    · rw [List.getElem?_eq_none (by simpa using h)] at hj; cases hj
  rw [getD_wrds xs j hjl] at hj
  rw [← hj, ← hc j hjl, Go.WideShapes.add_plain]
theorem splice_all (cur cs : List Value) (h : cs.length = cur.length) : splice cur 0 cs = cs := by
  simp [splice, h]
theorem POwn.of_made {w : World} {B g n : Nat} (h : w.ownsRow B 25 1 (.slice (some ⟨g, 0, none⟩) n n) n (madeCells (Value.int .u32 0).cells (n * 1)).toList) : POwn w B g n (List.replicate n 0) := by
  unfold POwn
  have e : (madeCells (Value.int .u32 0).cells (n * 1)).toList = wrds (List.replicate n 0) := by
    rw [show (Value.int .u32 0).cells = #[Value.int .u32 0] from rfl, toList_madeCells_one]; simp [wrds]
  rw [e] at h
  simpa using h
theorem POwn.whole {w : World} {B g : Nat} {xs : List Int} (h : POwn w B g xs.length xs) : w.heap[g]? = some (.cells (wrds xs).toArray 25 (0, 0)) := by
  obtain ⟨cur, _, h2, _, _, h5, h6⟩ := h.parts
  rw [h2, ← h6, List.take_of_length_le (by rw [Array.length_toList]; omega)]
theorem POwn.block {w : World} {B g n : Nat} {xs : List Int} (h : POwn w B g n xs) (hn : xs.length = n) : w.heap[g]? = some (.cells (wrds xs).toArray 25 (0, 0)) := by
  subst hn
  exact h.whole

set_option maxHeartbeats 400000 in
theorem copied_any (p : Option Addr) (n c : Nat) (xs : List Int) (w : World) (hx : xs.length = n) (hn : n * 4 ≤ 140737488355328) (hr : PRow w p xs) :
    Calls Try.prog 19 #[.slice p n c] w fun e w' => ∃ g, e = .returned (.slice (some ⟨g, 0, none⟩) n n) ∧ POwn w' w.heap.size g n xs ∧ Below w.heap.size w w' := by
  obtain ⟨i0, hi, hz0, hz1, hz2⟩ := info_parts Try.info25
  subst hx
  go_enter Try.func19, Try.ntmps19
  go_wp2_with (first
    | (at_make; refine wpList_make_full _ rfl _ _ 30 rfl _ 25 i0 (.int .u32 0) 1 Try.underlying30 hi hz0 hz1 _ _ _ _ xs.length rfl rfl rfl rfl (by rw [hz2]; omega) (by unfold maxLen; omega) (Nat.le_refl _) ?_; intro w1 hown hgrow; have hb1 := (Below.refl w.heap.size w).grown hgrow (Nat.le_refl _) (by simp); have hr1 := hr.below hb1; have HO : Hid (POwn w1 w.heap.size w.heap.size xs.length (List.replicate xs.length 0)) := POwn.of_made hown; clear hown hgrow hr)
    | (have hw := HO.out.block (List.length_replicate ..); refine wpList_copy_splice rfl _ _ 30 30 rfl 25 Try.underlying30 Try.size25 _ _ _ _ _ _ rfl rfl w.heap.size 0 _ 25 hw (wrds xs) (by simp) (fun h0 => ⟨rfl, hr1.src (by simpa using h0)⟩) (by simp) (one_wrds xs) w.heap.size w hb1 (Nat.le_refl _) ?_; intro w2 hw2 hb2; rw [splice_all _ _ (by simp)] at hw2; have HW : Hid (w2.heap[w.heap.size]? = some (.cells (wrds xs).toArray 25 (0, 0))) := hw2; clear hw hw2 HO hb1 hr1))
  go_ret
  exact ⟨_, rfl, POwn.mk (Nat.le_refl _) HW.out (Nat.le_refl _) (by unfold maxLen; omega) (by simp) (by rw [List.take_of_length_le (by simp)]), hb2⟩

end Go.Proofs.Ytdbpeigcnhhpmaa
