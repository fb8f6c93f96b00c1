/- Slices of uint32: in a block of their own, or nil; what copies and compares them (switchyardkit.CopyPlaces, SamePlaces). -/
import Derived.Test.YtdbpeigcnhhpmaaCopy
namespace Go.Proofs.Ytdbpeigcnhhpmaa
open Go.RowKit

/-- how a slice of bytes lies: where there is a byte, at an address, with its cells -/
def PRow (w : World) (p : Option Addr) (xs : List Int) : Prop :=
  0 < xs.length → ∃ b o, p = some ⟨b, o, none⟩ ∧ ∀ i, i < xs.length → w.cell? ⟨b, o + i, none⟩ = some (.int .u32 (xs.getD i 0))

theorem Try.info25 : (Try.prog.info? 25).map (fun i => (i.zero, i.size, i.bytes)) = some (some (.int .u32 0), 1, 4) := by kernel_rfl
theorem Try.size25 : (Try.prog.info? 25).map (·.size) = some 1 := by kernel_rfl

abbrev wrds (xs : List Int) : List Value := xs.map (Value.int .u32)

/-- a slice of bytes in a block of its own (its number B or above), with room for cap -/
def POwn (w : World) (B g cap : Nat) (xs : List Int) : Prop := w.ownsRow B 25 1 (.slice (some ⟨g, 0, none⟩) xs.length cap) xs.length (wrds xs)

theorem POwn.parts {w : World} {B g cap : Nat} {xs : List Int} (h : POwn w B g cap xs) :
    ∃ cur, B ≤ g ∧ w.heap[g]? = some (.cells cur 25 (0, 0)) ∧ xs.length ≤ cap ∧ cap ≤ maxLen ∧ cur.size = cap ∧ cur.toList.take xs.length = wrds xs := by
  rcases h.2 with ⟨h', _⟩ | ⟨g', cap', cur, h', h1, h2, h3, h4, h5, h6⟩
  · simp at h'
  · simp only [Value.slice.injEq, Option.some.injEq, Addr.mk.injEq, and_true, true_and] at h'
    obtain ⟨rfl, rfl⟩ := h'
    exact ⟨cur, h1, h2, h3, h4, by simpa using h5, by simpa using h6⟩

theorem POwn.mk {w : World} {B g cap : Nat} {xs : List Int} {cur : Array Value} (h1 : B ≤ g) (h2 : w.heap[g]? = some (.cells cur 25 (0, 0))) (h3 : xs.length ≤ cap) (h4 : cap ≤ maxLen) (h5 : cur.size = cap) (h6 : cur.toList.take xs.length = wrds xs) : POwn w B g cap xs :=
  ⟨by simp, .inr ⟨g, cap, cur, rfl, h1, h2, h3, h4, by simpa using h5, by simpa using h6⟩⟩

theorem POwn.lt {w : World} {B g cap : Nat} {xs : List Int} (h : POwn w B g cap xs) : g < w.heap.size := by
  obtain ⟨cur, _, h2, _⟩ := h.parts
  rcases Nat.lt_or_ge g w.heap.size with h | h
  · exact h
  · rw [Array.getElem?_eq_none h] at h2; cases h2
theorem POwn.base {w : World} {B g cap : Nat} {xs : List Int} (h : POwn w B g cap xs) : B ≤ g := by obtain ⟨cur, h1, _⟩ := h.parts; exact h1
theorem POwn.cap {w : World} {B g cap : Nat} {xs : List Int} (h : POwn w B g cap xs) : xs.length ≤ cap := by obtain ⟨cur, _, _, h1, _⟩ := h.parts; exact h1
theorem POwn.lower {w : World} {B B' g cap : Nat} {xs : List Int} (h : POwn w B g cap xs) (hB : B' ≤ B) : POwn w B' g cap xs := by
  obtain ⟨cur, h1, h2, h3, h4, h5, h6⟩ := h.parts
  exact POwn.mk (by omega) h2 h3 h4 h5 h6
theorem POwn.raise {w : World} {B B' g cap : Nat} {xs : List Int} (h : POwn w B g cap xs) (hB : B' ≤ g) : POwn w B' g cap xs := by
  obtain ⟨cur, h1, h2, h3, h4, h5, h6⟩ := h.parts
  exact POwn.mk hB h2 h3 h4 h5 h6
theorem POwn.below {w w' : World} {B g cap : Nat} {xs : List Int} (h : POwn w B g cap xs) (hb : Below w.heap.size w w') : POwn w' B g cap xs := by
  obtain ⟨cur, h1, h2, h3, h4, h5, h6⟩ := h.parts
  exact POwn.mk h1 (by rw [hb.block g h.lt]; exact h2) h3 h4 h5 h6

theorem getD_wrds (xs : List Int) (i : Nat) (h : i < xs.length) : (wrds xs)[i]? = some (.int .u32 (xs.getD i 0)) := by
  simp [wrds, List.getElem?_eq_getElem h, List.getD]

theorem POwn.cell {w : World} {B g cap : Nat} {xs : List Int} (h : POwn w B g cap xs) (i : Nat) (hi : i < xs.length) : w.cell? ⟨g, i, none⟩ = some (.int .u32 (xs.getD i 0)) := by
  have := World.ownsRow.cellAt h i (by omega)
  rw [this, getD_wrds xs i hi]
theorem POwn.free {w : World} {B g cap : Nat} {xs : List Int} (h : POwn w B g cap xs) (i : Nat) : w.frozen? ⟨g, i, none⟩ = false := World.ownsRow.frozenAt h i
theorem POwn.store {w : World} {B g cap : Nat} {xs : List Int} (h : POwn w B g cap xs) (i : Nat) (x : Int) : POwn (w.setCell ⟨g, i, none⟩ (.int .u32 x)) B g cap (xs.set i x) := by
  have := (World.ownsRow.stored h i (.int .u32 x)).1
  unfold POwn
  simpa [wrds, List.map_set] using this
theorem POwn.row {w : World} {B g cap : Nat} {xs : List Int} (h : POwn w B g cap xs) : PRow w (some ⟨g, 0, none⟩) xs :=
  fun _ => ⟨g, 0, rfl, fun i hi => by simpa using h.cell i hi⟩

theorem PRow.below {w w' : World} {p : Option Addr} {xs : List Int} (h : PRow w p xs) (hb : Below w.heap.size w w') : PRow w' p xs := fun h0 => by
  obtain ⟨b, o, rfl, hc⟩ := h h0
  exact ⟨b, o, rfl, fun i hi => by rw [hb.cell (p := ⟨b, o + i, none⟩) (cell_lt (hc i hi))]; exact hc i hi⟩

theorem PRow.drewN {w : World} {p : Option Addr} {xs : List Int} (h : PRow w p xs) (n : Nat) : PRow (w.drewN n) p xs := h
theorem POwn.drewN {w : World} {B g cap : Nat} {xs : List Int} (h : POwn w B g cap xs) (n : Nat) : POwn (w.drewN n) B g cap xs := h

/-- a slice of bytes that the call has made, or nil -/
def POwnV (w : World) (B : Nat) (v : Value) (xs : List Int) : Prop := w.ownsRow B 25 1 v xs.length (wrds xs)
theorem POwnV.nil (w : World) (B : Nat) : POwnV w B (.slice none 0 0) [] := World.ownsRow_nil _ _ _ _
theorem POwnV.alloc {w : World} {B : Nat} {v : Value} {xs : List Int} (h : POwnV w B v xs) (o : Obj) : POwnV (w.alloc o) B v xs := World.ownsRow.alloc h o
theorem POwnV.drewN {w : World} {B : Nat} {v : Value} {xs : List Int} (h : POwnV w B v xs) (n : Nat) : POwnV (w.drewN n) B v xs := h
theorem POwn.val {w : World} {B g cap : Nat} {xs : List Int} (h : POwn w B g cap xs) : POwnV w B (.slice (some ⟨g, 0, none⟩) xs.length cap) xs := h
theorem POwnV.shape {w : World} {B : Nat} {v : Value} {xs : List Int} (h : POwnV w B v xs) : (v = .slice none 0 0 ∧ xs = []) ∨ ∃ g cap, v = .slice (some ⟨g, 0, none⟩) xs.length cap ∧ POwn w B g cap xs := by
  rcases h.2 with ⟨h1, h2⟩ | ⟨g, cap, cur, h1, h2⟩
  · exact .inl ⟨h1, List.eq_nil_of_length_eq_zero h2⟩
  · subst h1
    exact .inr ⟨g, cap, rfl, h⟩
theorem POwnV.below {w w' : World} {B : Nat} {v : Value} {xs : List Int} (h : POwnV w B v xs) (hb : Below w.heap.size w w') : POwnV w' B v xs := by
  rcases h.shape with ⟨rfl, rfl⟩ | ⟨g, cap, rfl, ho⟩
  · exact POwnV.nil _ _
  · exact (ho.below hb).val
theorem POwnV.slice {w : World} {B : Nat} {v : Value} {xs : List Int} (h : POwnV w B v xs) : ∃ p cap, v = .slice p xs.length cap ∧ PRow w p xs ∧ (p = none → cap = 0) := by
  rcases h.shape with ⟨rfl, rfl⟩ | ⟨g, cap, rfl, ho⟩
  · exact ⟨none, 0, rfl, fun h => absurd h (Nat.lt_irrefl 0), fun _ => rfl⟩
  · exact ⟨_, cap, rfl, ho.row, fun h => by cases h⟩

/-- 'append(out, ..)' on such a slice: the law of the kit in these words -/
theorem wp_pushP {ops : Array Oper} {rest : List Oper} {o : Oper} {a : Act} {Q : Exit → Act → World → Prop} (w : World) (hgd : o.guard = none) (s x : Operand)
    (ho : o.op = .call { callee := .builtin .append, args := #[s, x], argTypes := #[30, 30] }) (B : Nat) (v : Value) (xs : List Int) (hs : a.eval s = v) (hown : POwnV w B v xs)
    (ad : Addr) (m c : Nat) (ns : List Int) (hx : a.eval x = .slice (some ad) m c) (hl : ns.length = m) (hnews : ∀ j u, (wrds ns)[j]? = some u → w.cell? (ad.add j) = some u)
    (hlen : (xs.length + m) * 4 ≤ 140737488355328) (hB : B ≤ w.heap.size)
    (h : ∀ v' w', POwnV w' B v' (xs ++ ns) → w.grownBy w' v.ownBlock → (∀ w0, Below B w0 w → Below B w0 w') → (v' = .slice none 0 0 ↔ v = .slice none 0 0 ∧ m = 0) → wpList Try.prog ops Q rest (a.put o.dst v') w') :
    wpList Try.prog ops Q (o :: rest) a w := by
  obtain ⟨i0, hi, hz0, hz1, hz2⟩ := info_parts Try.info25
  refine wpList_append_own w hgd s x 30 ho B 25 i0 (.int .u32 0) 1 4 Try.underlying30 hi hz0 hz1 hz2 rfl (by decide) v xs.length (wrds xs) hs hown ad m c (wrds ns) hx (by simp [hl]) hnews (fun u hu => ?_) (by unfold maxLen; omega) (by omega) hB ?_
  · simp only [wrds, List.mem_map] at hu
    obtain ⟨z, _, rfl⟩ := hu
    rfl
  · intro v' w' h1 h2 h3
    refine h v' w' ?_ h2 (fun w0 hb => hb.grown h2 hB fun k hk => ?_) h3
    · unfold POwnV
      rw [List.length_append, hl]
      simpa [wrds] using h1
    · rcases hown.shape with ⟨rfl, _⟩ | ⟨g, cap, rfl, ho⟩
      · simp [Value.ownBlock] at hk
      · simp [Value.ownBlock] at hk
        subst hk
        exact ho.base

set_option maxHeartbeats 400000 in
theorem copyPlaces_at (b o n c : Nat) (xs : List Int) (w : World) (hx : xs.length = n) (hn : n * 4 ≤ 140737488355328)
    (hc : ∀ i, i < n → w.cell? ⟨b, o + i, none⟩ = some (.int .u32 (xs.getD i 0))) :
    Calls Try.prog 18 #[.slice (some ⟨b, o, none⟩) n c] w fun e w' => ∃ v, e = .returned v ∧ POwnV w' w.heap.size v xs ∧ Below w.heap.size w w' := by
  have HX : Hid (xs.length = n) := hx
  have HC : Hid (∀ i, i < n → w.cell? ⟨b, o + i, none⟩ = some (.int .u32 (xs.getD i 0))) := hc
  clear hx hc
  go_enter Try.func18, Try.ntmps18
  go_wp2
  go_loopw [3, 4] (fun v i wr => ∃ k : Nat, k ≤ n ∧ i = .int .i64 k ∧ POwnV wr w.heap.size v (xs.take k) ∧ Below w.heap.size w wr) (fun _ i _ => n - (intOf i).toNat)
  case atStart => exact ⟨0, Nat.zero_le _, rfl, POwnV.nil _ _, Below.refl _ _⟩
  case round =>
    obtain ⟨k, hk, rfl, hown, hbk⟩ := hrel
    by_cases hlt : k < n
    · have hcd := HC.out k hlt
      have hcl := cell_lt hcd
      have c1 : wr.cell? ⟨b, o + k, none⟩ = some (.int .u32 (xs.getD k 0)) := by rw [hbk.cell (p := ⟨b, o + k, none⟩) hcl]; exact hcd
      have hsz := hbk.size
      have hl : ((xs.take k).length + 1) * 4 ≤ 140737488355328 := by rw [List.length_take]; omega
      have HT : Hid (xs.take (k + 1) = xs.take k ++ [xs.getD k 0]) := take_getD xs k (by rw [HX.out]; exact hlt)
      clear hcd hcl
      generalize xs.getD k 0 = z at *
      generalize xs.take k = ys at *
      go_wp2_with (at_builtin; refine wp_pushP _ rfl _ _ rfl w.heap.size _ ys rfl (hown.alloc _) ⟨wr.heap.size, 0, none⟩ 1 1 [z] rfl rfl (cell_one_new _ _ _) hl (by simp; omega) ?_; intro v' w1 hown' _hgrow hbel _hnil)
      go_roundw
      case rel => exact ⟨k + 1, by omega, by go_num, by rw [HT.out]; exact hown', hbel _ (hbk.alloc hsz _)⟩
      case measure => simp [intOf]; omega
    · have HT : Hid (xs.take k = xs) := List.take_of_length_le (by rw [HX.out]; omega)
      go_wp2
      go_ret
      exact ⟨_, rfl, by rw [HT.out] at hown; exact hown, hbk⟩

set_option maxHeartbeats 400000 in
theorem copyPlaces_zero (p : Option Addr) (c : Nat) (w : World) :
    Calls Try.prog 18 #[.slice p 0 c] w fun e w' => e = .returned (.slice none 0 0) ∧ w' = w := by
  go_enter Try.func18, Try.ntmps18
  go_wp2
  refine wp_loop_rounds 1 ?_
  rw [rounds_succ]; go_wp2
  go_ret
  exact ⟨rfl, rfl⟩

theorem copyPlaces_any (p : Option Addr) (n c : Nat) (xs : List Int) (w : World) (hx : xs.length = n) (hn : n * 4 ≤ 140737488355328) (hr : PRow w p xs) :
    Calls Try.prog 18 #[.slice p n c] w fun e w' => ∃ v, e = .returned v ∧ POwnV w' w.heap.size v xs ∧ Below w.heap.size w w' := by
  rcases Nat.eq_zero_or_pos n with h0 | h0
  · subst h0
    obtain rfl : xs = [] := List.eq_nil_of_length_eq_zero hx
    exact (copyPlaces_zero p c w).mono fun e w' h => ⟨_, h.1, POwnV.nil _ _, by rw [h.2]; exact below_self w⟩
  · obtain ⟨b, o, rfl, hc⟩ := hr (by omega)
    exact copyPlaces_at b o n c xs w hx hn (fun i hi => hc i (by omega))

set_option maxHeartbeats 400000 in
theorem samePlaces_len (p q : Option Addr) (n c m d : Nat) (w : World) (h : n ≠ m) :
    Calls Try.prog 23 #[.slice p n c, .slice q m d] w fun e w' => e = .returned (.bool false) ∧ w' = w := by
  have hne : ((n : Int) != (m : Int)) = true := by rw [bne_iff_ne]; omega
  go_enter Try.func23, Try.ntmps23
  go_wp2
  go_ret
  exact ⟨rfl, rfl⟩

set_option maxHeartbeats 400000 in
theorem samePlaces_zero (p q : Option Addr) (c d : Nat) (w : World) :
    Calls Try.prog 23 #[.slice p 0 c, .slice q 0 d] w fun e w' => e = .returned (.bool true) ∧ w' = w := by
  go_enter Try.func23, Try.ntmps23
  go_wp2
  refine wp_loop_rounds 1 ?_
  rw [rounds_succ]; go_wp2
  go_ret
  exact ⟨rfl, rfl⟩

set_option maxHeartbeats 400000 in
theorem samePlaces_at (b o b' o' n c d : Nat) (xs ys : List Int) (w : World) (hn : n ≤ 9223372036854775807) (hx : xs.length = n) (hy : ys.length = n)
    (h1 : ∀ i, i < n → w.cell? ⟨b, o + i, none⟩ = some (.int .u32 (xs.getD i 0))) (h2 : ∀ i, i < n → w.cell? ⟨b', o' + i, none⟩ = some (.int .u32 (ys.getD i 0))) :
    Calls Try.prog 23 #[.slice (some ⟨b, o, none⟩) n c, .slice (some ⟨b', o', none⟩) n d] w fun e w' => e = .returned (.bool (sameB xs ys)) ∧ ∃ m, w' = w.drewN m := by
  have hne : ((n : Int) != (n : Int)) = false := by simp
  have H1 : Hid (∀ i, i < n → w.cell? ⟨b, o + i, none⟩ = some (.int .u32 (xs.getD i 0))) := h1
  have H2 : Hid (∀ i, i < n → w.cell? ⟨b', o' + i, none⟩ = some (.int .u32 (ys.getD i 0))) := h2
  have HX : Hid (xs.length = n) := hx
  have HY : Hid (ys.length = n) := hy
  clear h1 h2 hx hy
  go_enter Try.func23, Try.ntmps23
  go_wp2
  go_loopw [5] (fun i wr => ∃ k m : Nat, k ≤ n ∧ i = .int .i64 k ∧ wr = w.drewN m ∧ ∀ j, j < k → xs.getD j 0 = ys.getD j 0) (fun i _ => n - (intOf i).toNat)
  case atStart => exact ⟨0, 0, Nat.zero_le _, rfl, rfl, fun j hj => absurd hj (Nat.not_lt_zero _)⟩
  case round =>
    obtain ⟨k, m, hk, rfl, rfl, hs⟩ := hrel
    have HS : Hid (∀ j, j < k → xs.getD j 0 = ys.getD j 0) := hs
    clear hs
    by_cases hlt : k < n
    · have c1 := H1.out k hlt
      have c2 := H2.out k hlt
      obtain ⟨x, hx⟩ : ∃ x, x = xs.getD k 0 := ⟨_, rfl⟩
      obtain ⟨y, hy⟩ : ∃ y, y = ys.getD k 0 := ⟨_, rfl⟩
      rw [← hx] at c1
      rw [← hy] at c2
      have E1 : Hid (x = xs.getD k 0) := hx
      have E2 : Hid (y = ys.getD k 0) := hy
      clear hx hy
      cases hb : (x != y)
      · go_wp2
        go_quiet (fail)
        go_wp2
        go_roundw
        case rel =>
          refine ⟨k + 1, _, by omega, by go_num, rfl, fun j hj => ?_⟩
          by_cases e : j = k
          · subst e; rw [← E1.out, ← E2.out]; simpa using hb
          · exact HS.out j (by omega)
        case measure => simp [intOf]; omega
      · go_wp2
        go_quiet (fail)
        go_wp2
        go_ret
        exact ⟨ret_bool (sameB_at k (by rw [← E1.out, ← E2.out]; simpa using hb)).symm, m + nq, World.drewN_drewN ..⟩
    · go_wp2
      go_ret
      exact ⟨ret_bool (sameB_all (by rw [HX.out, HY.out]) fun j hj => HS.out j (by have := HX.out; omega)).symm, _, rfl⟩

theorem samePlaces_any (p q : Option Addr) (n c m d : Nat) (xs ys : List Int) (w : World) (hx : xs.length = n) (hy : ys.length = m) (hn : n ≤ 9223372036854775807) (h1 : PRow w p xs) (h2 : PRow w q ys) :
    Calls Try.prog 23 #[.slice p n c, .slice q m d] w fun e w' => e = .returned (.bool (sameB xs ys)) ∧ ∃ m, w' = w.drewN m := by
  by_cases h : n = m
  · subst h
    rcases Nat.eq_zero_or_pos n with h0 | h0
    · subst h0
      obtain rfl : xs = [] := List.eq_nil_of_length_eq_zero hx
      obtain rfl : ys = [] := List.eq_nil_of_length_eq_zero hy
      exact (samePlaces_zero p q c d w).mono fun e w' h => ⟨h.1, 0, h.2⟩
    · obtain ⟨b, o, rfl, e1⟩ := h1 (by omega)
      obtain ⟨b', o', rfl, e2⟩ := h2 (by omega)
      exact samePlaces_at b o b' o' n c d xs ys w hn hx hy (fun i hi => e1 i (by omega)) (fun i hi => e2 i (by omega))
  · rw [sameB_len (by omega)]
    exact (samePlaces_len p q n c m d w h).mono fun e w' h => ⟨h.1, 0, h.2⟩


end Go.Proofs.Ytdbpeigcnhhpmaa
