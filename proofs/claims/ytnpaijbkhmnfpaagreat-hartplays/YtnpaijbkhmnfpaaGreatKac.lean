/- Texts put together: Wrd, Rgs, Rgt, Rgc, HrtA, Kps, HrtB. -/
import Derived.Test.YtnpaijbkhmnfpaaGreatKab
import Derived.Test.YtnpaijbkhmnfpaaGreatKaa
import Derived.Deep.RegionHeld3
import Derived.ChangeKeysEq
import Derived.Laws.CopyOwn
import Derived.Deep.DeepCutAuto
import Derived.Lib.Hide
import Derived.Recover

/- Slices of uint32: in a block of their own, or nil; what copies and compares them (switchyardkit.CopyPlaces, SamePlaces). -/
namespace Go.Proofs.YtnpaijbkhmnfpaaGreat
open Go.RowKit

/-- how a slice of bytes lies: where there is a byte, at an address, with its cells -/
def PRow (w : World) (p : Option Addr) (xs : List Int) : Prop :=
  0 < xs.length → ∃ b o, p = some ⟨b, o, none⟩ ∧ ∀ i, i < xs.length → w.cell? ⟨b, o + i, none⟩ = some (.int .u32 (xs.getD i 0))

theorem Tryz.info31 : (Tryz.prog.info? 31).map (fun i => (i.zero, i.size, i.bytes)) = some (some (.int .u32 0), 1, 4) := by kernel_rfl
theorem Tryz.size31 : (Tryz.prog.info? 31).map (·.size) = some 1 := by kernel_rfl

abbrev wrds (xs : List Int) : List Value := xs.map (Value.int .u32)

/-- a slice of bytes in a block of its own (its number B or above), with room for cap -/
def POwn (w : World) (B g cap : Nat) (xs : List Int) : Prop := w.ownsRow B 31 1 (.slice (some ⟨g, 0, none⟩) xs.length cap) xs.length (wrds xs)

theorem POwn.parts {w : World} {B g cap : Nat} {xs : List Int} (h : POwn w B g cap xs) :
    ∃ cur, B ≤ g ∧ w.heap[g]? = some (.cells cur 31 (0, 0)) ∧ xs.length ≤ cap ∧ cap ≤ maxLen ∧ cur.size = cap ∧ cur.toList.take xs.length = wrds xs := by
  rcases h.2 with ⟨h', _⟩ | ⟨g', cap', cur, h', h1, h2, h3, h4, h5, h6⟩
  · simp at h'
  · simp only [Value.slice.injEq, Option.some.injEq, Addr.mk.injEq, and_true, true_and] at h'
    obtain ⟨rfl, rfl⟩ := h'
    exact ⟨cur, h1, h2, h3, h4, by simpa using h5, by simpa using h6⟩

theorem POwn.mk {w : World} {B g cap : Nat} {xs : List Int} {cur : Array Value} (h1 : B ≤ g) (h2 : w.heap[g]? = some (.cells cur 31 (0, 0))) (h3 : xs.length ≤ cap) (h4 : cap ≤ maxLen) (h5 : cur.size = cap) (h6 : cur.toList.take xs.length = wrds xs) : POwn w B g cap xs :=
  ⟨by simp, .inr ⟨g, cap, cur, rfl, h1, h2, h3, h4, by simpa using h5, by simpa using h6⟩⟩

theorem POwn.lt {w : World} {B g cap : Nat} {xs : List Int} (h : POwn w B g cap xs) : g < w.heap.size := by
  obtain ⟨cur, _, h2, _⟩ := h.parts
  rcases Nat.lt_or_ge g w.heap.size with h | h
  · exact h
  · rw [Array.getElem?_eq_none h] at h2; cases h2
theorem POwn.base {w : World} {B g cap : Nat} {xs : List Int} (h : POwn w B g cap xs) : B ≤ g := by obtain ⟨cur, h1, _⟩ := h.parts; exact h1
theorem POwn.cap {w : World} {B g cap : Nat} {xs : List Int} (h : POwn w B g cap xs) : xs.length ≤ cap := by obtain ⟨cur, _, _, h1, _⟩ := h.parts; exact h1
theorem POwn.lower {w : World} {B B' g cap : Nat} {xs : List Int} (h : POwn w B g cap xs) (hB : B' ≤ B) : POwn w B' g cap xs := by
  obtain ⟨cur, h1, h2, h3, h4, h5, h6⟩ := h.parts
  exact POwn.mk (by omega) h2 h3 h4 h5 h6
theorem POwn.raise {w : World} {B B' g cap : Nat} {xs : List Int} (h : POwn w B g cap xs) (hB : B' ≤ g) : POwn w B' g cap xs := by
  obtain ⟨cur, h1, h2, h3, h4, h5, h6⟩ := h.parts
  exact POwn.mk hB h2 h3 h4 h5 h6
theorem POwn.below {w w' : World} {B g cap : Nat} {xs : List Int} (h : POwn w B g cap xs) (hb : Below w.heap.size w w') : POwn w' B g cap xs := by
  obtain ⟨cur, h1, h2, h3, h4, h5, h6⟩ := h.parts
  exact POwn.mk h1 (by rw [hb.block g h.lt]; exact h2) h3 h4 h5 h6

theorem getD_wrds (xs : List Int) (i : Nat) (h : i < xs.length) : (wrds xs)[i]? = some (.int .u32 (xs.getD i 0)) := by
  simp [wrds, List.getElem?_eq_getElem h, List.getD]

theorem POwn.cell {w : World} {B g cap : Nat} {xs : List Int} (h : POwn w B g cap xs) (i : Nat) (hi : i < xs.length) : w.cell? ⟨g, i, none⟩ = some (.int .u32 (xs.getD i 0)) := by
  have := World.ownsRow.cellAt h i (by omega)
  rw [this, getD_wrds xs i hi]
theorem POwn.free {w : World} {B g cap : Nat} {xs : List Int} (h : POwn w B g cap xs) (i : Nat) : w.frozen? ⟨g, i, none⟩ = false := World.ownsRow.frozenAt h i
theorem POwn.store {w : World} {B g cap : Nat} {xs : List Int} (h : POwn w B g cap xs) (i : Nat) (x : Int) : POwn (w.setCell ⟨g, i, none⟩ (.int .u32 x)) B g cap (xs.set i x) := by
  have := (World.ownsRow.stored h i (.int .u32 x)).1
  unfold POwn
  simpa [wrds, List.map_set] using this
theorem POwn.row {w : World} {B g cap : Nat} {xs : List Int} (h : POwn w B g cap xs) : PRow w (some ⟨g, 0, none⟩) xs :=
  fun _ => ⟨g, 0, rfl, fun i hi => by simpa using h.cell i hi⟩

theorem PRow.below {w w' : World} {p : Option Addr} {xs : List Int} (h : PRow w p xs) (hb : Below w.heap.size w w') : PRow w' p xs := fun h0 => by
  obtain ⟨b, o, rfl, hc⟩ := h h0
  exact ⟨b, o, rfl, fun i hi => by rw [hb.cell (p := ⟨b, o + i, none⟩) (cell_lt (hc i hi))]; exact hc i hi⟩

theorem PRow.drewN {w : World} {p : Option Addr} {xs : List Int} (h : PRow w p xs) (n : Nat) : PRow (w.drewN n) p xs := h
theorem POwn.drewN {w : World} {B g cap : Nat} {xs : List Int} (h : POwn w B g cap xs) (n : Nat) : POwn (w.drewN n) B g cap xs := h

/-- a slice of bytes that the call has made, or nil -/
def POwnV (w : World) (B : Nat) (v : Value) (xs : List Int) : Prop := w.ownsRow B 31 1 v xs.length (wrds xs)
theorem POwnV.nil (w : World) (B : Nat) : POwnV w B (.slice none 0 0) [] := World.ownsRow_nil _ _ _ _
theorem POwnV.alloc {w : World} {B : Nat} {v : Value} {xs : List Int} (h : POwnV w B v xs) (o : Obj) : POwnV (w.alloc o) B v xs := World.ownsRow.alloc h o
theorem POwnV.drewN {w : World} {B : Nat} {v : Value} {xs : List Int} (h : POwnV w B v xs) (n : Nat) : POwnV (w.drewN n) B v xs := h
theorem POwn.val {w : World} {B g cap : Nat} {xs : List Int} (h : POwn w B g cap xs) : POwnV w B (.slice (some ⟨g, 0, none⟩) xs.length cap) xs := h
theorem POwnV.shape {w : World} {B : Nat} {v : Value} {xs : List Int} (h : POwnV w B v xs) : (v = .slice none 0 0 ∧ xs = []) ∨ ∃ g cap, v = .slice (some ⟨g, 0, none⟩) xs.length cap ∧ POwn w B g cap xs := by
  rcases h.2 with ⟨h1, h2⟩ | ⟨g, cap, cur, h1, h2⟩
  · exact .inl ⟨h1, List.eq_nil_of_length_eq_zero h2⟩
  · subst h1
    exact .inr ⟨g, cap, rfl, h⟩
theorem POwnV.below {w w' : World} {B : Nat} {v : Value} {xs : List Int} (h : POwnV w B v xs) (hb : Below w.heap.size w w') : POwnV w' B v xs := by
  rcases h.shape with ⟨rfl, rfl⟩ | ⟨g, cap, rfl, ho⟩
  · exact POwnV.nil _ _
  · exact (ho.below hb).val
theorem POwnV.slice {w : World} {B : Nat} {v : Value} {xs : List Int} (h : POwnV w B v xs) : ∃ p cap, v = .slice p xs.length cap ∧ PRow w p xs ∧ (p = none → cap = 0) := by
  rcases h.shape with ⟨rfl, rfl⟩ | ⟨g, cap, rfl, ho⟩
  · exact ⟨none, 0, rfl, fun h => absurd h (Nat.lt_irrefl 0), fun _ => rfl⟩
  · exact ⟨_, cap, rfl, ho.row, fun h => by cases h⟩

/-- 'append(out, ..)' on such a slice: the law of the kit in these words -/
theorem wp_pushP {ops : Array Oper} {rest : List Oper} {o : Oper} {a : Act} {Q : Exit → Act → World → Prop} (w : World) (hgd : o.guard = none) (s x : Operand)
    (ho : o.op = .call { callee := .builtin .append, args := #[s, x], argTypes := #[45, 45] }) (B : Nat) (v : Value) (xs : List Int) (hs : a.eval s = v) (hown : POwnV w B v xs)
    (ad : Addr) (m c : Nat) (ns : List Int) (hx : a.eval x = .slice (some ad) m c) (hl : ns.length = m) (hnews : ∀ j u, (wrds ns)[j]? = some u → w.cell? (ad.add j) = some u)
    (hlen : (xs.length + m) * 4 ≤ 140737488355328) (hB : B ≤ w.heap.size)
    (h : ∀ v' w', POwnV w' B v' (xs ++ ns) → w.grownBy w' v.ownBlock → (∀ w0, Below B w0 w → Below B w0 w') → (v' = .slice none 0 0 ↔ v = .slice none 0 0 ∧ m = 0) → wpList Tryz.prog ops Q rest (a.put o.dst v') w') :
    wpList Tryz.prog ops Q (o :: rest) a w := by
  obtain ⟨i0, hi, hz0, hz1, hz2⟩ := info_parts Tryz.info31
  refine wpList_append_own w hgd s x 45 ho B 31 i0 (.int .u32 0) 1 4 Tryz.underlying45 hi hz0 hz1 hz2 rfl (by decide) v xs.length (wrds xs) hs hown ad m c (wrds ns) hx (by simp [hl]) hnews (fun u hu => ?_) (by unfold maxLen; omega) (by omega) hB ?_
  · simp only [wrds, List.mem_map] at hu
    obtain ⟨z, _, rfl⟩ := hu
    rfl
  · intro v' w' h1 h2 h3
    refine h v' w' ?_ h2 (fun w0 hb => hb.grown h2 hB fun k hk => ?_) h3
    · unfold POwnV
      rw [List.length_append, hl]
      simpa [wrds] using h1
    · rcases hown.shape with ⟨rfl, _⟩ | ⟨g, cap, rfl, ho⟩
      · simp [Value.ownBlock] at hk
      · simp [Value.ownBlock] at hk
        subst hk
        exact ho.base

set_option maxHeartbeats 400000 in
theorem copyPlaces_at (b o n c : Nat) (xs : List Int) (w : World) (hx : xs.length = n) (hn : n * 4 ≤ 140737488355328)
    (hc : ∀ i, i < n → w.cell? ⟨b, o + i, none⟩ = some (.int .u32 (xs.getD i 0))) :
    Calls Tryz.prog 73 #[.slice (some ⟨b, o, none⟩) n c] w fun e w' => ∃ v, e = .returned v ∧ POwnV w' w.heap.size v xs ∧ Below w.heap.size w w' := by
  have HX : Hid (xs.length = n) := hx
  have HC : Hid (∀ i, i < n → w.cell? ⟨b, o + i, none⟩ = some (.int .u32 (xs.getD i 0))) := hc
  clear hx hc
  go_enter Tryz.func73, Tryz.ntmps73
  go_wp2
  go_loopw [3, 4] (fun v i wr => ∃ k : Nat, k ≤ n ∧ i = .int .i64 k ∧ POwnV wr w.heap.size v (xs.take k) ∧ Below w.heap.size w wr) (fun _ i _ => n - (intOf i).toNat)
  case atStart => exact ⟨0, Nat.zero_le _, rfl, POwnV.nil _ _, Below.refl _ _⟩
  case round =>
    obtain ⟨k, hk, rfl, hown, hbk⟩ := hrel
    by_cases hlt : k < n
    · have hcd := HC.out k hlt
      have hcl := cell_lt hcd
      have c1 : wr.cell? ⟨b, o + k, none⟩ = some (.int .u32 (xs.getD k 0)) := by rw [hbk.cell (p := ⟨b, o + k, none⟩) hcl]; exact hcd
      have hsz := hbk.size
      have hl : ((xs.take k).length + 1) * 4 ≤ 140737488355328 := by rw [List.length_take]; omega
      have HT : Hid (xs.take (k + 1) = xs.take k ++ [xs.getD k 0]) := take_getD xs k (by rw [HX.out]; exact hlt)
      clear hcd hcl
      generalize xs.getD k 0 = z at *
      generalize xs.take k = ys at *
      go_wp2_with (at_builtin; refine wp_pushP _ rfl _ _ rfl w.heap.size _ ys rfl (hown.alloc _) ⟨wr.heap.size, 0, none⟩ 1 1 [z] rfl rfl (cell_one_new _ _ _) hl (by simp; omega) ?_; intro v' w1 hown' _hgrow hbel _hnil)
      go_roundw
      case rel => exact ⟨k + 1, by omega, by go_num, by rw [HT.out]; exact hown', hbel _ (hbk.alloc hsz _)⟩
      case measure => simp [intOf]; omega
    · have HT : Hid (xs.take k = xs) := List.take_of_length_le (by rw [HX.out]; omega)
      go_wp2
      go_ret
      exact ⟨_, rfl, by rw [HT.out] at hown; exact hown, hbk⟩

set_option maxHeartbeats 400000 in
theorem copyPlaces_zero (p : Option Addr) (c : Nat) (w : World) :
    Calls Tryz.prog 73 #[.slice p 0 c] w fun e w' => e = .returned (.slice none 0 0) ∧ w' = w := by
  go_enter Tryz.func73, Tryz.ntmps73
  go_wp2
  refine wp_loop_rounds 1 ?_
  rw [rounds_succ]; go_wp2
  go_ret
  exact ⟨rfl, rfl⟩

theorem copyPlaces_any (p : Option Addr) (n c : Nat) (xs : List Int) (w : World) (hx : xs.length = n) (hn : n * 4 ≤ 140737488355328) (hr : PRow w p xs) :
    Calls Tryz.prog 73 #[.slice p n c] w fun e w' => ∃ v, e = .returned v ∧ POwnV w' w.heap.size v xs ∧ Below w.heap.size w w' := by
  rcases Nat.eq_zero_or_pos n with h0 | h0
  · subst h0
    obtain rfl : xs = [] := List.eq_nil_of_length_eq_zero hx
    exact (copyPlaces_zero p c w).mono fun e w' h => ⟨_, h.1, POwnV.nil _ _, by rw [h.2]; exact below_self w⟩
  · obtain ⟨b, o, rfl, hc⟩ := hr (by omega)
    exact copyPlaces_at b o n c xs w hx hn (fun i hi => hc i (by omega))

set_option maxHeartbeats 400000 in
theorem samePlaces_len (p q : Option Addr) (n c m d : Nat) (w : World) (h : n ≠ m) :
    Calls Tryz.prog 72 #[.slice p n c, .slice q m d] w fun e w' => e = .returned (.bool false) ∧ w' = w := by
  have hne : ((n : Int) != (m : Int)) = true := by rw [bne_iff_ne]; omega
  go_enter Tryz.func72, Tryz.ntmps72
  go_wp2
  go_ret
  exact ⟨rfl, rfl⟩

set_option maxHeartbeats 400000 in
theorem samePlaces_zero (p q : Option Addr) (c d : Nat) (w : World) :
    Calls Tryz.prog 72 #[.slice p 0 c, .slice q 0 d] w fun e w' => e = .returned (.bool true) ∧ w' = w := by
  go_enter Tryz.func72, Tryz.ntmps72
  go_wp2
  refine wp_loop_rounds 1 ?_
  rw [rounds_succ]; go_wp2
  go_ret
  exact ⟨rfl, rfl⟩

set_option maxHeartbeats 400000 in
theorem samePlaces_at (b o b' o' n c d : Nat) (xs ys : List Int) (w : World) (hn : n ≤ 9223372036854775807) (hx : xs.length = n) (hy : ys.length = n)
    (h1 : ∀ i, i < n → w.cell? ⟨b, o + i, none⟩ = some (.int .u32 (xs.getD i 0))) (h2 : ∀ i, i < n → w.cell? ⟨b', o' + i, none⟩ = some (.int .u32 (ys.getD i 0))) :
    Calls Tryz.prog 72 #[.slice (some ⟨b, o, none⟩) n c, .slice (some ⟨b', o', none⟩) n d] w fun e w' => e = .returned (.bool (sameB xs ys)) ∧ ∃ m, w' = w.drewN m := by
  have hne : ((n : Int) != (n : Int)) = false := by simp
  have H1 : Hid (∀ i, i < n → w.cell? ⟨b, o + i, none⟩ = some (.int .u32 (xs.getD i 0))) := h1
  have H2 : Hid (∀ i, i < n → w.cell? ⟨b', o' + i, none⟩ = some (.int .u32 (ys.getD i 0))) := h2
  have HX : Hid (xs.length = n) := hx
  have HY : Hid (ys.length = n) := hy
  clear h1 h2 hx hy
  go_enter Tryz.func72, Tryz.ntmps72
  go_wp2
  go_loopw [5] (fun i wr => ∃ k m : Nat, k ≤ n ∧ i = .int .i64 k ∧ wr = w.drewN m ∧ ∀ j, j < k → xs.getD j 0 = ys.getD j 0) (fun i _ => n - (intOf i).toNat)
  case atStart => exact ⟨0, 0, Nat.zero_le _, rfl, rfl, fun j hj => absurd hj (Nat.not_lt_zero _)⟩
  case round =>
    obtain ⟨k, m, hk, rfl, rfl, hs⟩ := hrel
    have HS : Hid (∀ j, j < k → xs.getD j 0 = ys.getD j 0) := hs
    clear hs
    by_cases hlt : k < n
    · have c1 := H1.out k hlt
      have c2 := H2.out k hlt
      obtain ⟨x, hx⟩ : ∃ x, x = xs.getD k 0 := ⟨_, rfl⟩
      obtain ⟨y, hy⟩ : ∃ y, y = ys.getD k 0 := ⟨_, rfl⟩
      rw [← hx] at c1
      rw [← hy] at c2
      have E1 : Hid (x = xs.getD k 0) := hx
      have E2 : Hid (y = ys.getD k 0) := hy
      clear hx hy
      cases hb : (x != y)
      · go_wp2
        go_quiet (fail)
        go_wp2
        go_roundw
        case rel =>
          refine ⟨k + 1, _, by omega, by go_num, rfl, fun j hj => ?_⟩
          by_cases e : j = k
          · subst e; rw [← E1.out, ← E2.out]; simpa using hb
          · exact HS.out j (by omega)
        case measure => simp [intOf]; omega
      · go_wp2
        go_quiet (fail)
        go_wp2
        go_ret
        exact ⟨ret_bool (sameB_at k (by rw [← E1.out, ← E2.out]; simpa using hb)).symm, m + nq, World.drewN_drewN ..⟩
    · go_wp2
      go_ret
      exact ⟨ret_bool (sameB_all (by rw [HX.out, HY.out]) fun j hj => HS.out j (by have := HX.out; omega)).symm, _, rfl⟩

theorem samePlaces_any (p q : Option Addr) (n c m d : Nat) (xs ys : List Int) (w : World) (hx : xs.length = n) (hy : ys.length = m) (hn : n ≤ 9223372036854775807) (h1 : PRow w p xs) (h2 : PRow w q ys) :
    Calls Tryz.prog 72 #[.slice p n c, .slice q m d] w fun e w' => e = .returned (.bool (sameB xs ys)) ∧ ∃ m, w' = w.drewN m := by
  by_cases h : n = m
  · subst h
    rcases Nat.eq_zero_or_pos n with h0 | h0
    · subst h0
      obtain rfl : xs = [] := List.eq_nil_of_length_eq_zero hx
      obtain rfl : ys = [] := List.eq_nil_of_length_eq_zero hy
      exact (samePlaces_zero p q c d w).mono fun e w' h => ⟨h.1, 0, h.2⟩
    · obtain ⟨b, o, rfl, e1⟩ := h1 (by omega)
      obtain ⟨b', o', rfl, e2⟩ := h2 (by omega)
      exact samePlaces_at b o b' o' n c d xs ys w hn hx hy (fun i hi => e1 i (by omega)) (fun i hi => e2 i (by omega))
  · rw [sameB_len (by omega)]
    exact (samePlaces_len p q n c m d w h).mono fun e w' h => ⟨h.1, 0, h.2⟩


end Go.Proofs.YtnpaijbkhmnfpaaGreat

/- Registers (api.Regs): eight numbers and a stack of places; how they are compared and copied (switchyardkit.SameRegs, CopyRegs). -/
namespace Go.Proofs.YtnpaijbkhmnfpaaGreat
open Go.RowKit


/-- each a number of 32 bits -/
def Wds (R : List Int) : Prop := ∀ x ∈ R, 0 ≤ x ∧ x ≤ 4294967295
/-- registers: their numbers, then the stack -/
def rgA (R : List Int) (v : Value) : Array Value := (wrds R ++ [v]).toArray
def rgV (R : List Int) (v : Value) : Value := .agg (rgA R v)
theorem rgV_eight (r0 r1 r2 r3 r4 r5 r6 r7 : Int) (v : Value) : rgV [r0, r1, r2, r3, r4, r5, r6, r7] v = .agg #[.int .u32 r0, .int .u32 r1, .int .u32 r2, .int .u32 r3, .int .u32 r4, .int .u32 r5, .int .u32 r6, .int .u32 r7, v] := rfl
theorem eight {R : List Int} (h : R.length = 8) : ∃ r0 r1 r2 r3 r4 r5 r6 r7, R = [r0, r1, r2, r3, r4, r5, r6, r7] := by
  match R, h with
  | [r0, r1, r2, r3, r4, r5, r6, r7], _ => exact ⟨r0, r1, r2, r3, r4, r5, r6, r7, rfl⟩

theorem Tryz.und44 : Tryz.prog.underlying 44 = some (.array 8 31) := by kernel_rfl
theorem Tryz.plain25 : Tryz.prog.plainKey 31 = true := by kernel_rfl
theorem Tryz.cells31' : Tryz.prog.cellsOf 31 = 1 := by kernel_rfl
theorem u32_wf {x : Int} (h : 0 ≤ x ∧ x ≤ 4294967295) : (Lit.int .u32 x).wf = true := by
  have h1 : IntKind.u32.min = 0 := rfl
  have h2 : IntKind.u32.max = 4294967295 := rfl
  simp only [Lit.wf, Bool.and_eq_true, decide_eq_true_eq]
  omega

theorem eq_eight (r0 r1 r2 r3 r4 r5 r6 r7 s0 s1 s2 s3 s4 s5 s6 s7 : Int) (w : World) (hR : Wds [r0, r1, r2, r3, r4, r5, r6, r7]) (hS : Wds [s0, s1, s2, s3, s4, s5, s6, s7]) :
    (Op.equalIn 10000 44 (.agg #[.int .u32 r0, .int .u32 r1, .int .u32 r2, .int .u32 r3, .int .u32 r4, .int .u32 r5, .int .u32 r6, .int .u32 r7]) (.agg #[.int .u32 s0, .int .u32 s1, .int .u32 s2, .int .u32 s3, .int .u32 s4, .int .u32 s5, .int .u32 s6, .int .u32 s7])).run Tryz.prog w = .ok (sameB [r0, r1, r2, r3, r4, r5, r6, r7] [s0, s1, s2, s3, s4, s5, s6, s7]) w := by
  obtain ⟨i0, hi, hz0, hz1, hz2⟩ := info_parts Tryz.info31
  rw [run_equalIn_array (P := Tryz.prog) w 9999 (e := 31) (n := 8) _ _ Tryz.und44 hi]
  simp only [Wds, List.mem_cons, List.not_mem_nil, or_false, forall_eq_or_imp, forall_eq] at hR hS
  obtain ⟨a0, a1, a2, a3, a4, a5, a6, a7⟩ := hR
  obtain ⟨b0, b1, b2, b3, b4, b5, b6, b7⟩ := hS
  obtain ⟨r, h1, h2⟩ := run_eqItems_plain (P := Tryz.prog) w 9998 Tryz.plain25 #[.int .u32 r0, .int .u32 r1, .int .u32 r2, .int .u32 r3, .int .u32 r4, .int .u32 r5, .int .u32 r6, .int .u32 r7] #[.int .u32 s0, .int .u32 s1, .int .u32 s2, .int .u32 s3, .int .u32 s4, .int .u32 s5, .int .u32 s6, .int .u32 s7] (D := 1) (D' := 1) (List.range 8)
    [[.int .u32 r0], [.int .u32 r1], [.int .u32 r2], [.int .u32 r3], [.int .u32 r4], [.int .u32 r5], [.int .u32 r6], [.int .u32 r7]] [[.int .u32 s0], [.int .u32 s1], [.int .u32 s2], [.int .u32 s3], [.int .u32 s4], [.int .u32 s5], [.int .u32 s6], [.int .u32 s7]]
    (by simp [Tryz.cells31', List.range, List.range.loop, Program.keyLits, Tryz.underlying31, u32_wf a0, u32_wf a1, u32_wf a2, u32_wf a3, u32_wf a4, u32_wf a5, u32_wf a6, u32_wf a7])
    (by simp [Tryz.cells31', List.range, List.range.loop, Program.keyLits, Tryz.underlying31, u32_wf b0, u32_wf b1, u32_wf b2, u32_wf b3, u32_wf b4, u32_wf b5, u32_wf b6, u32_wf b7])
  rw [h1]
  have : r = sameB [r0, r1, r2, r3, r4, r5, r6, r7] [s0, s1, s2, s3, s4, s5, s6, s7] := by
    rw [Bool.eq_iff_iff, h2]
    simp [sameB]
  rw [this]

set_option maxHeartbeats 1000000 in
theorem sameRegs_any (R S : List Int) (p q : Option Addr) (n c m d : Nat) (xs ys : List Int) (w : World) (lR : R.length = 8) (lS : S.length = 8) (hR : Wds R) (hS : Wds S)
    (hx : xs.length = n) (hy : ys.length = m) (hn : n ≤ 9223372036854775807) (h1 : PRow w p xs) (h2 : PRow w q ys) :
    Calls Tryz.prog 34 #[rgV R (.slice p n c), rgV S (.slice q m d)] w fun e w' => e = .returned (.bool (sameB R S && sameB xs ys)) ∧ Below w.heap.size w w' := by
  obtain ⟨r0, r1, r2, r3, r4, r5, r6, r7, rfl⟩ := eight lR
  obtain ⟨s0, s1, s2, s3, s4, s5, s6, s7, rfl⟩ := eight lS
  rw [rgV_eight, rgV_eight]
  have heq := fun w => eq_eight r0 r1 r2 r3 r4 r5 r6 r7 s0 s1 s2 s3 s4 s5 s6 s7 w hR hS
  have hcon := fun W (hb : Below w.heap.size w W) => samePlaces_any p q n c m d xs ys W hx hy hn (h1.below hb) (h2.below hb)
  clear hx hy h1 h2 hR hS lR lS
  generalize sameB xs ys = t at *
  cases hs : sameB [r0, r1, r2, r3, r4, r5, r6, r7] [s0, s1, s2, s3, s4, s5, s6, s7]
  · rw [hs] at heq
    clear hs
    go_enter Tryz.func34, Tryz.ntmps34
    go_wp2
    go_ret
    exact ⟨rfl, below_alloc (new_alloc _ _) _⟩
  · rw [hs] at heq
    clear hs
    go_enter Tryz.func34, Tryz.ntmps34
    go_wp2_with (go_at_call 72; refine (hcon _ (below_alloc (new_alloc _ _) _)).mono ?_; rintro e w1 ⟨rfl, nq, rfl⟩)
    go_ret
    exact ⟨rfl, below_draws (below_alloc (new_alloc _ _) _) _⟩

end Go.Proofs.YtnpaijbkhmnfpaaGreat

/- exec.Same, exec.copied, switchyardkit.CopyRegs, for all registers. -/
namespace Go.Proofs.YtnpaijbkhmnfpaaGreat
open Go.RowKit

theorem one_wrds (xs : List Int) : ∀ v ∈ wrds xs, v.oneCell' = true := fun u hu => by
  simp only [wrds, List.mem_map] at hu
  obtain ⟨z, _, rfl⟩ := hu
  rfl
theorem PRow.src {w : World} {p : Option Addr} {xs : List Int} (h : PRow w p xs) (h0 : 0 < xs.length) : ∃ ad, p = some ad ∧ ∀ j v, (wrds xs)[j]? = some v → w.cell? (ad.add j) = some v := by
  obtain ⟨b, o, rfl, hc⟩ := h h0
  refine ⟨_, rfl, fun j v hj => ?_⟩
  have hjl : j < xs.length := by
    rcases Nat.lt_or_ge j xs.length with h | h
    · exact h
    · rw [List.getElem?_eq_none (by simpa using h)] at hj; cases hj
  rw [getD_wrds xs j hjl] at hj
  rw [← hj, ← hc j hjl, Go.WideShapes.add_plain]
theorem splice_allP (cur cs : List Value) (h : cs.length = cur.length) : splice cur 0 cs = cs := by
  simp [splice, h]
theorem POwn.of_made {w : World} {B g n : Nat} (h : w.ownsRow B 31 1 (.slice (some ⟨g, 0, none⟩) n n) n (madeCells (Value.int .u32 0).cells (n * 1)).toList) : POwn w B g n (List.replicate n 0) := by
  unfold POwn
  have e : (madeCells (Value.int .u32 0).cells (n * 1)).toList = wrds (List.replicate n 0) := by
    rw [show (Value.int .u32 0).cells = #[Value.int .u32 0] from rfl, toList_madeCells_one]; simp [wrds]
  rw [e] at h
  simpa using h
theorem POwn.whole {w : World} {B g : Nat} {xs : List Int} (h : POwn w B g xs.length xs) : w.heap[g]? = some (.cells (wrds xs).toArray 31 (0, 0)) := by
  obtain ⟨cur, _, h2, _, _, h5, h6⟩ := h.parts
  rw [h2, ← h6, List.take_of_length_le (by rw [Array.length_toList]; omega)]
theorem POwn.block {w : World} {B g n : Nat} {xs : List Int} (h : POwn w B g n xs) (hn : xs.length = n) : w.heap[g]? = some (.cells (wrds xs).toArray 31 (0, 0)) := by
  subst hn
  exact h.whole

set_option maxHeartbeats 400000 in
theorem xcopied_any (p : Option Addr) (n c : Nat) (xs : List Int) (w : World) (hx : xs.length = n) (hn : n * 4 ≤ 140737488355328) (hr : PRow w p xs) :
    Calls Tryz.prog 101 #[.slice p n c] w fun e w' => ∃ g, e = .returned (.slice (some ⟨g, 0, none⟩) n n) ∧ POwn w' w.heap.size g n xs ∧ Below w.heap.size w w' := by
  obtain ⟨i0, hi, hz0, hz1, hz2⟩ := info_parts Tryz.info31
  subst hx
  go_enter Tryz.func101, Tryz.ntmps101
  go_wp2_with (first
    | (at_make; refine wpList_make_full _ rfl _ _ 45 rfl _ 31 i0 (.int .u32 0) 1 Tryz.underlying45 hi hz0 hz1 _ _ _ _ xs.length rfl rfl rfl rfl (by rw [hz2]; omega) (by unfold maxLen; omega) (Nat.le_refl _) ?_; intro w1 hown hgrow; have hb1 := (Below.refl w.heap.size w).grown hgrow (Nat.le_refl _) (by simp); have hr1 := hr.below hb1; have HO : Hid (POwn w1 w.heap.size w.heap.size xs.length (List.replicate xs.length 0)) := POwn.of_made hown; clear hown hgrow hr)
    | (have hw := HO.out.block (List.length_replicate ..); refine wpList_copy_splice rfl _ _ 45 45 rfl 31 Tryz.underlying45 Tryz.size31 _ _ _ _ _ _ rfl rfl w.heap.size 0 _ 31 hw (wrds xs) (by simp) (fun h0 => ⟨rfl, hr1.src (by simpa using h0)⟩) (by simp) (one_wrds xs) w.heap.size w hb1 (Nat.le_refl _) ?_; intro w2 hw2 hb2; rw [splice_allP _ _ (by simp)] at hw2; have HW : Hid (w2.heap[w.heap.size]? = some (.cells (wrds xs).toArray 31 (0, 0))) := hw2; clear hw hw2 HO hb1 hr1))
  go_ret
  exact ⟨_, rfl, POwn.mk (Nat.le_refl _) HW.out (Nat.le_refl _) (by unfold maxLen; omega) (by simp) (by rw [List.take_of_length_le (by simp)]), hb2⟩

end Go.Proofs.YtnpaijbkhmnfpaaGreat

/- switchyardkit.CopyRegs, for all registers. -/
namespace Go.Proofs.YtnpaijbkhmnfpaaGreat
open Go.RowKit

theorem POwnV.low {w : World} {B B' : Nat} {v : Value} {xs : List Int} (h : POwnV w B v xs) (hB : B' ≤ B) : POwnV w B' v xs := by
  rcases h.shape with ⟨rfl, rfl⟩ | ⟨g, cap, rfl, ho⟩
  · exact POwnV.nil _ _
  · exact ho.lower hB
theorem POwnV.keptFar {w w' : World} {B g : Nat} {v : Value} {xs : List Int} (h : POwnV w B v xs) (hg : w.grownBy w' (some g)) (hB : g < B) : POwnV w' B v xs := by
  rcases h.shape with ⟨rfl, rfl⟩ | ⟨g', cap, rfl, ho⟩
  · exact POwnV.nil _ _
  · refine World.ownsRow.kept h hg (.inr (fun e => ?_))
    have e' : some g' = some g := e
    injection e' with e'
    have := ho.base
    omega
abbrev noRegs : Array Value := #[.int .u32 0, .int .u32 0, .int .u32 0, .int .u32 0, .int .u32 0, .int .u32 0, .int .u32 0, .int .u32 0, .slice none 0 0]
theorem Tryz.sz47 : (Tryz.prog.info? 47).map (·.size) = some 9 := by kernel_rfl
theorem Blk.load {w : World} {g : Nat} {T : TypeId} {c : Array Value} (hB : Blk w g T c) (t : TypeId) (d : TypeDesc) (hu : Tryz.prog.underlying t = some d) (hd : d.isRow = true) (hi : (Tryz.prog.info? t).map (·.size) = some c.size) :
    (loadVar t ⟨g, 0, none⟩).run Tryz.prog w = .ok (.agg c) w := by
  have := run_loadVar_mid (P := Tryz.prog) w g 0 t c.toList d hB.range hu hd (by rw [hi, Array.length_toList])
  simpa using this

set_option maxHeartbeats 2000000 in
theorem copyRegs_any (R : List Int) (p : Option Addr) (n c : Nat) (xs : List Int) (w : World) (lR : R.length = 8) (hx : xs.length = n) (hn : n * 4 ≤ 140737488355328) (hr : PRow w p xs) :
    Calls Tryz.prog 35 #[rgV R (.slice p n c)] w fun e w' => (∃ v, e = .returned (rgV R v) ∧ POwnV w' w.heap.size v xs) ∧ Below w.heap.size w w' := by
  obtain ⟨r0, r1, r2, r3, r4, r5, r6, r7, rfl⟩ := eight lR
  simp only [rgV_eight]
  have hC := fun W (hb : Below w.heap.size w W) => copyPlaces_any p n c xs W hx hn (hr.below hb)
  clear hr lR
  go_enter Tryz.func35, Tryz.ntmps35
  go_upto_region 1 with fail
  have HA0 : Hid (Blk ((w.alloc (.cells #[.int .u32 r0, .int .u32 r1, .int .u32 r2, .int .u32 r3, .int .u32 r4, .int .u32 r5, .int .u32 r6, .int .u32 r7, .slice p n c] 47)).alloc (.cells noRegs 47)) w.heap.size 47 #[.int .u32 r0, .int .u32 r1, .int .u32 r2, .int .u32 r3, .int .u32 r4, .int .u32 r5, .int .u32 r6, .int .u32 r7, .slice p n c]) := (Blk.new w 47 _).grow (new_alloc _ _)
  have HB0 : Hid (Blk ((w.alloc (.cells #[.int .u32 r0, .int .u32 r1, .int .u32 r2, .int .u32 r3, .int .u32 r4, .int .u32 r5, .int .u32 r6, .int .u32 r7, .slice p n c] 47)).alloc (.cells noRegs 47)) (w.heap.size + 1) 47 noRegs) := by
    have := Blk.new (w.alloc (.cells #[.int .u32 r0, .int .u32 r1, .int .u32 r2, .int .u32 r3, .int .u32 r4, .int .u32 r5, .int .u32 r6, .int .u32 r7, .slice p n c] 47)) 47 noRegs
    rw [size_one] at this
    exact this
  have HW0 : Hid (Below w.heap.size w ((w.alloc (.cells #[.int .u32 r0, .int .u32 r1, .int .u32 r2, .int .u32 r3, .int .u32 r4, .int .u32 r5, .int .u32 r6, .int .u32 r7, .slice p n c] 47)).alloc (.cells noRegs 47))) := below_alloc (new_alloc w _) _
  generalize (w.alloc (.cells #[.int .u32 r0, .int .u32 r1, .int .u32 r2, .int .u32 r3, .int .u32 r4, .int .u32 r5, .int .u32 r6, .int .u32 r7, .slice p n c] 47)).alloc (.cells noRegs 47) = w0 at *
  have a0 : w0.cell? ⟨w.heap.size, 0, none⟩ = some (.int .u32 r0) := HA0.out.cell 0
  have a1 : w0.cell? ⟨w.heap.size, 1, none⟩ = some (.int .u32 r1) := HA0.out.cell 1
  have a2 : w0.cell? ⟨w.heap.size, 2, none⟩ = some (.int .u32 r2) := HA0.out.cell 2
  have a3 : w0.cell? ⟨w.heap.size, 3, none⟩ = some (.int .u32 r3) := HA0.out.cell 3
  have a4 : w0.cell? ⟨w.heap.size, 4, none⟩ = some (.int .u32 r4) := HA0.out.cell 4
  have a5 : w0.cell? ⟨w.heap.size, 5, none⟩ = some (.int .u32 r5) := HA0.out.cell 5
  have a6 : w0.cell? ⟨w.heap.size, 6, none⟩ = some (.int .u32 r6) := HA0.out.cell 6
  have a7 : w0.cell? ⟨w.heap.size, 7, none⟩ = some (.int .u32 r7) := HA0.out.cell 7
  have a8 : w0.cell? ⟨w.heap.size, 8, none⟩ = some (.slice p n c) := HA0.out.cell 8
  go_region_held3 (fun W => W.cell? ⟨w.heap.size, 0, none⟩ = some (.int .u32 r0) ∧ W.cell? ⟨w.heap.size, 1, none⟩ = some (.int .u32 r1) ∧ W.cell? ⟨w.heap.size, 2, none⟩ = some (.int .u32 r2) ∧ W.cell? ⟨w.heap.size, 3, none⟩ = some (.int .u32 r3) ∧ W.cell? ⟨w.heap.size, 4, none⟩ = some (.int .u32 r4) ∧ W.cell? ⟨w.heap.size, 5, none⟩ = some (.int .u32 r5) ∧ W.cell? ⟨w.heap.size, 6, none⟩ = some (.int .u32 r6) ∧ W.cell? ⟨w.heap.size, 7, none⟩ = some (.int .u32 r7) ∧ W.cell? ⟨w.heap.size, 8, none⟩ = some (.slice p n c)) (first | go_keep | exact hk1)
    (first
      | (go_at_call 73; refine (hC _ (below_draws HW0.out 1)).mono ?_; rintro E w1 ⟨v1, rfl, ho1, hb1⟩; obtain ⟨p1, c1, hv1, -, -⟩ := ho1.slice; subst hv1; have HW1 := Hid.in (below_step (below_draws HW0.out 1) hb1); have HC1 := Hid.in (below_step (below_draws (below_self w0) 1) hb1); have HA1 := Hid.in (HA0.out.grow HC1.out); have HB1 := Hid.in (HB0.out.grow HC1.out); have HO1 := Hid.in ho1; have hk1 : w1.cell? ⟨w.heap.size, 0, none⟩ = some (.int .u32 r0) ∧ w1.cell? ⟨w.heap.size, 1, none⟩ = some (.int .u32 r1) ∧ w1.cell? ⟨w.heap.size, 2, none⟩ = some (.int .u32 r2) ∧ w1.cell? ⟨w.heap.size, 3, none⟩ = some (.int .u32 r3) ∧ w1.cell? ⟨w.heap.size, 4, none⟩ = some (.int .u32 r4) ∧ w1.cell? ⟨w.heap.size, 5, none⟩ = some (.int .u32 r5) ∧ w1.cell? ⟨w.heap.size, 6, none⟩ = some (.int .u32 r6) ∧ w1.cell? ⟨w.heap.size, 7, none⟩ = some (.int .u32 r7) ∧ w1.cell? ⟨w.heap.size, 8, none⟩ = some (.slice p n c) := ⟨HA1.out.cell 0, HA1.out.cell 1, HA1.out.cell 2, HA1.out.cell 3, HA1.out.cell 4, HA1.out.cell 5, HA1.out.cell 6, HA1.out.cell 7, HA1.out.cell 8⟩; have e0 : w1.cell? ⟨w.heap.size + 1, 0, none⟩ = some (.int .u32 0) := HB1.out.cell 0; have e1 : w1.cell? ⟨w.heap.size + 1, 1, none⟩ = some (.int .u32 0) := HB1.out.cell 1; have e2 : w1.cell? ⟨w.heap.size + 1, 2, none⟩ = some (.int .u32 0) := HB1.out.cell 2; have e3 : w1.cell? ⟨w.heap.size + 1, 3, none⟩ = some (.int .u32 0) := HB1.out.cell 3; have e4 : w1.cell? ⟨w.heap.size + 1, 4, none⟩ = some (.int .u32 0) := HB1.out.cell 4; have e5 : w1.cell? ⟨w.heap.size + 1, 5, none⟩ = some (.int .u32 0) := HB1.out.cell 5; have e6 : w1.cell? ⟨w.heap.size + 1, 6, none⟩ = some (.int .u32 0) := HB1.out.cell 6; have e7 : w1.cell? ⟨w.heap.size + 1, 7, none⟩ = some (.int .u32 0) := HB1.out.cell 7; have e8 : w1.cell? ⟨w.heap.size + 1, 8, none⟩ = some (.slice none 0 0) := HB1.out.cell 8; have z : ∀ i, w1.frozen? ⟨w.heap.size + 1, i, none⟩ = false := fun i => HB1.out.free i; clear ho1 hb1))
  have HB5 : Hid (Blk (((((((((w1.setCell ⟨w.heap.size + 1, 0, none⟩ (.int .u32 r0)).setCell ⟨w.heap.size + 1, 1, none⟩ (.int .u32 r1)).setCell ⟨w.heap.size + 1, 2, none⟩ (.int .u32 r2)).setCell ⟨w.heap.size + 1, 3, none⟩ (.int .u32 r3)).setCell ⟨w.heap.size + 1, 4, none⟩ (.int .u32 r4)).setCell ⟨w.heap.size + 1, 5, none⟩ (.int .u32 r5)).setCell ⟨w.heap.size + 1, 6, none⟩ (.int .u32 r6)).setCell ⟨w.heap.size + 1, 7, none⟩ (.int .u32 r7)).setCell ⟨w.heap.size + 1, 8, none⟩ (.slice p1 n c1)) (w.heap.size + 1) 47 #[.int .u32 r0, .int .u32 r1, .int .u32 r2, .int .u32 r3, .int .u32 r4, .int .u32 r5, .int .u32 r6, .int .u32 r7, .slice p1 n c1]) := HB1.out.setAll #[.int .u32 r0, .int .u32 r1, .int .u32 r2, .int .u32 r3, .int .u32 r4, .int .u32 r5, .int .u32 r6, .int .u32 r7, .slice p1 n c1] rfl
  have HG5 : Hid (w1.grownBy (((((((((w1.setCell ⟨w.heap.size + 1, 0, none⟩ (.int .u32 r0)).setCell ⟨w.heap.size + 1, 1, none⟩ (.int .u32 r1)).setCell ⟨w.heap.size + 1, 2, none⟩ (.int .u32 r2)).setCell ⟨w.heap.size + 1, 3, none⟩ (.int .u32 r3)).setCell ⟨w.heap.size + 1, 4, none⟩ (.int .u32 r4)).setCell ⟨w.heap.size + 1, 5, none⟩ (.int .u32 r5)).setCell ⟨w.heap.size + 1, 6, none⟩ (.int .u32 r6)).setCell ⟨w.heap.size + 1, 7, none⟩ (.int .u32 r7)).setCell ⟨w.heap.size + 1, 8, none⟩ (.slice p1 n c1)) (some (w.heap.size + 1))) := grown_setCells (w.heap.size + 1) [.int .u32 r0, .int .u32 r1, .int .u32 r2, .int .u32 r3, .int .u32 r4, .int .u32 r5, .int .u32 r6, .int .u32 r7, .slice p1 n c1] 0 w1
  generalize (((((((((w1.setCell ⟨w.heap.size + 1, 0, none⟩ (.int .u32 r0)).setCell ⟨w.heap.size + 1, 1, none⟩ (.int .u32 r1)).setCell ⟨w.heap.size + 1, 2, none⟩ (.int .u32 r2)).setCell ⟨w.heap.size + 1, 3, none⟩ (.int .u32 r3)).setCell ⟨w.heap.size + 1, 4, none⟩ (.int .u32 r4)).setCell ⟨w.heap.size + 1, 5, none⟩ (.int .u32 r5)).setCell ⟨w.heap.size + 1, 6, none⟩ (.int .u32 r6)).setCell ⟨w.heap.size + 1, 7, none⟩ (.int .u32 r7)).setCell ⟨w.heap.size + 1, 8, none⟩ (.slice p1 n c1)) = w5 at *
  clear e0 e1 e2 e3 e4 e5 e6 e7 e8 z hk1 a0 a1 a2 a3 a4 a5 a6 a7 a8 hC
  have l0 : w.heap.size + 1 < w0.heap.size := HB0.out.lt
  go_wp2_with fail
  have hld := HB5.out.load 47 _ Tryz.underlying47 rfl Tryz.sz47
  have hB7 := HW1.out.grown HG5.out HW1.out.size (fun k hk => by cases hk; exact Nat.le_succ _)
  exact bodyPost_ret (v := .agg #[.int .u32 r0, .int .u32 r1, .int .u32 r2, .int .u32 r3, .int .u32 r4, .int .u32 r5, .int .u32 r6, .int .u32 r7, .slice p1 n c1]) (by simp [results, Tryz.results35, asAddr, hld]) rfl
    ⟨⟨_, rfl, by have := (HO1.out.keptFar HG5.out l0).low (show w.heap.size ≤ w0.heap.size by omega); rw [hx] at this; exact this⟩, hB7⟩

end Go.Proofs.YtnpaijbkhmnfpaaGreat

/- How a hart lies in memory; its small methods. -/
namespace Go.Proofs.YtnpaijbkhmnfpaaGreat
open Go.RowKit Go.Maps
/-- a hart's cells -/
def hrA (id st pc : Int) (R : List Int) (vS vH : Value) (l : Nat) : Array Value :=
  #[.int .i64 id, .int .u8 st, .int .u32 pc, .int .u32 (R.getD 0 0), .int .u32 (R.getD 1 0), .int .u32 (R.getD 2 0), .int .u32 (R.getD 3 0), .int .u32 (R.getD 4 0), .int .u32 (R.getD 5 0), .int .u32 (R.getD 6 0), .int .u32 (R.getD 7 0), vS, vH, .pointer (some ⟨l, 0, none⟩)]

abbrev zEv : Array Value := #[.int .u8 0, .int .i64 0, .int .i64 0, .int .i64 0, .int .u8 0, .int .i64 0, .int .i64 0]
theorem Tryz.sz41 : (Tryz.prog.info? 41).map (·.size) = some 7 := by kernel_rfl
set_option maxHeartbeats 400000 in
theorem event_any (h : Nat) (id k a n : Int) (w : World) (hc : w.cell? ⟨h, 0, none⟩ = some (.int .i64 id)) (ha : 0 ≤ a ∧ a ≤ 4294967295) (hn : 0 ≤ n ∧ n ≤ 4294967295) :
    Calls Tryz.prog 80 #[.pointer (some ⟨h, 0, none⟩), .int .u8 k, .int .u32 a, .int .u32 n] w fun e w' => e = .returned (.agg (evA ⟨k, id, a, 0, n⟩)) ∧ Below w.heap.size w w' := by
  have hc' : (w.alloc (.cells zEv 41)).cell? ⟨h, 0, none⟩ = some (.int .i64 id) := by rw [(new_alloc w _).cell (p := ⟨h, 0, none⟩) (cell_lt hc)]; exact hc
  have HB := Hid.in (Blk.new w 41 zEv)
  have HN := Hid.in (new_alloc w (.cells zEv 41))
  have e1 : a % 18446744073709551616 = a := by omega
  have e2 : n % 18446744073709551616 = n := by omega
  go_enter Tryz.func80, Tryz.ntmps80
  go_upto_region 1 with fail
  generalize w.alloc (.cells zEv 41) = w1 at *
  have z : ∀ i, w1.frozen? ⟨w.heap.size, i, none⟩ = false := fun i => HB.out.free i
  have c0 : w1.cell? ⟨w.heap.size, 0, none⟩ = some (.int .u8 0) := HB.out.cell 0
  have c1 : w1.cell? ⟨w.heap.size, 1, none⟩ = some (.int .i64 0) := HB.out.cell 1
  have c2 : w1.cell? ⟨w.heap.size, 2, none⟩ = some (.int .i64 0) := HB.out.cell 2
  have c3 : w1.cell? ⟨w.heap.size, 3, none⟩ = some (.int .i64 0) := HB.out.cell 3
  have c4 : w1.cell? ⟨w.heap.size, 4, none⟩ = some (.int .u8 0) := HB.out.cell 4
  have c5 : w1.cell? ⟨w.heap.size, 5, none⟩ = some (.int .i64 0) := HB.out.cell 5
  have c6 : w1.cell? ⟨w.heap.size, 6, none⟩ = some (.int .i64 0) := HB.out.cell 6
  go_wp2
  have hB := HB.out.setAll (evA ⟨k, id, a, 0, n⟩) rfl
  have hG := grown_setCells w.heap.size (evA ⟨k, id, a, 0, n⟩).toList 0 w1
  have hld := hB.load 41 _ Tryz.underlying41 rfl Tryz.sz41
  exact bodyPost_ret (v := .agg (evA ⟨k, id, a, 0, n⟩)) (by simpa [results, Tryz.results80, asAddr, World.setCells, evA] using hld) rfl ⟨rfl, HN.out.grown hG (Nat.le_of_lt (HB.out.lt)) (fun k hk => by cases hk; exact Nat.le_refl _)⟩

set_option maxHeartbeats 400000 in
theorem hcopied_any (p : Option Addr) (n c : Nat) (xs : List Int) (w : World) (hx : xs.length = n) (hn : n ≤ 140737488355328) (hr : Row w p xs) :
    Calls Tryz.prog 48 #[.slice p n c] w fun e w' => ∃ g, e = .returned (.slice (some ⟨g, 0, none⟩) n n) ∧ Own w' w.heap.size g n xs ∧ Below w.heap.size w w' := by
  obtain ⟨i0, hi, hz0, hz1, hz2⟩ := info_parts Tryz.info5
  subst hx
  go_enter Tryz.func48, Tryz.ntmps48
  go_wp2_with (first
    | (at_make; refine wpList_make_full _ rfl _ _ 26 rfl _ 5 i0 (.int .u8 0) 1 Tryz.underlying26 hi hz0 hz1 _ _ _ _ xs.length rfl rfl rfl rfl (by rw [hz2]; omega) (by unfold maxLen; omega) (Nat.le_refl _) ?_; intro w1 hown hgrow; have hb1 := (Below.refl w.heap.size w).grown hgrow (Nat.le_refl _) (by simp); have hr1 := hr.below hb1; have HO : Hid (Own w1 w.heap.size w.heap.size xs.length (List.replicate xs.length 0)) := Own.of_made hown; clear hown hgrow hr)
    | (have hw := HO.out.block (List.length_replicate ..); refine wpList_copy_splice rfl _ _ 26 26 rfl 5 Tryz.underlying26 Tryz.size5 _ _ _ _ _ _ rfl rfl w.heap.size 0 _ 5 hw (byts xs) (by simp) (fun h0 => ⟨rfl, hr1.src (by simpa using h0)⟩) (by simp) (one_byts xs) w.heap.size w hb1 (Nat.le_refl _) ?_; intro w2 hw2 hb2; rw [splice_all _ _ (by simp)] at hw2; have HW : Hid (w2.heap[w.heap.size]? = some (.cells (byts xs).toArray 5 (0, 0))) := hw2; clear hw hw2 HO hb1 hr1))
  go_ret
  exact ⟨_, rfl, Own.mk (Nat.le_refl _) HW.out (Nat.le_refl _) (by unfold maxLen; omega) (by simp) (by rw [List.take_of_length_le (by simp)]), hb2⟩

set_option maxHeartbeats 400000 in
theorem pcopied_any (p : Option Addr) (n c : Nat) (xs : List Int) (w : World) (hx : xs.length = n) (hn : n * 4 ≤ 140737488355328) (hr : PRow w p xs) :
    Calls Tryz.prog 47 #[.slice p n c] w fun e w' => ∃ g, e = .returned (.slice (some ⟨g, 0, none⟩) n n) ∧ POwn w' w.heap.size g n xs ∧ Below w.heap.size w w' := by
  obtain ⟨i0, hi, hz0, hz1, hz2⟩ := info_parts Tryz.info31
  subst hx
  go_enter Tryz.func47, Tryz.ntmps47
  go_wp2_with (first
    | (at_make; refine wpList_make_full _ rfl _ _ 45 rfl _ 31 i0 (.int .u32 0) 1 Tryz.underlying45 hi hz0 hz1 _ _ _ _ xs.length rfl rfl rfl rfl (by rw [hz2]; omega) (by unfold maxLen; omega) (Nat.le_refl _) ?_; intro w1 hown hgrow; have hb1 := (Below.refl w.heap.size w).grown hgrow (Nat.le_refl _) (by simp); have hr1 := hr.below hb1; have HO : Hid (POwn w1 w.heap.size w.heap.size xs.length (List.replicate xs.length 0)) := POwn.of_made hown; clear hown hgrow hr)
    | (have hw := HO.out.block (List.length_replicate ..); refine wpList_copy_splice rfl _ _ 45 45 rfl 31 Tryz.underlying45 Tryz.size31 _ _ _ _ _ _ rfl rfl w.heap.size 0 _ 31 hw (wrds xs) (by simp) (fun h0 => ⟨rfl, hr1.src (by simpa using h0)⟩) (by simp) (one_wrds xs) w.heap.size w hb1 (Nat.le_refl _) ?_; intro w2 hw2 hb2; rw [splice_allP _ _ (by simp)] at hw2; have HW : Hid (w2.heap[w.heap.size]? = some (.cells (wrds xs).toArray 31 (0, 0))) := hw2; clear hw hw2 HO hb1 hr1))
  go_ret
  exact ⟨_, rfl, POwn.mk (Nat.le_refl _) HW.out (Nat.le_refl _) (by unfold maxLen; omega) (by simp) (by rw [List.take_of_length_le (by simp)]), hb2⟩

set_option maxHeartbeats 400000 in
theorem hnone_no (h l : Nat) (w : World) (hc : w.cell? ⟨h, 13, none⟩ = some (.pointer (some ⟨l, 0, none⟩))) :
    Calls Tryz.prog 41 #[.pointer (some ⟨h, 0, none⟩)] w fun e w' => e = .returned (.bool false) ∧ w' = w := by
  go_enter Tryz.func41, Tryz.ntmps41
  go_wp2
  go_ret
  exact ⟨rfl, rfl⟩
set_option maxHeartbeats 400000 in
theorem hnone_zero (h : Nat) (w : World) (hc : w.cell? ⟨h, 13, none⟩ = some (.pointer none)) :
    Calls Tryz.prog 41 #[.pointer (some ⟨h, 0, none⟩)] w fun e w' => e = .returned (.bool true) ∧ w' = w := by
  go_enter Tryz.func41, Tryz.ntmps41
  go_wp2
  go_ret
  exact ⟨rfl, rfl⟩
set_option maxHeartbeats 400000 in
theorem hnone_nil (w : World) :
    Calls Tryz.prog 41 #[.pointer none] w fun e w' => e = .returned (.bool true) ∧ w' = w := by
  go_enter Tryz.func41, Tryz.ntmps41
  go_wp2
  go_ret
  exact ⟨rfl, rfl⟩
set_option maxHeartbeats 400000 in
theorem running_any (h l : Nat) (st : Int) (w : World) (h1 : w.cell? ⟨h, 1, none⟩ = some (.int .u8 st)) (hc : w.cell? ⟨h, 13, none⟩ = some (.pointer (some ⟨l, 0, none⟩))) :
    Calls Tryz.prog 13 #[.pointer (some ⟨h, 0, none⟩)] w fun e w' => e = .returned (.bool (decide (st = 0))) ∧ w' = w := by
  have hN := hnone_no h l w hc
  go_enter Tryz.func13, Tryz.ntmps13
  go_wp2_with (go_at_call 41; refine hN.mono ?_; rintro e w1 ⟨rfl, rfl⟩)
  go_ret
  refine ⟨?_, rfl⟩
  by_cases h0 : st = 0 <;> simp [h0]
set_option maxHeartbeats 400000 in
theorem missing_no (q g B : Nat) (xs : List Int) (w : World) (hm : Mem w B q g xs) (hl : xs.length ≤ 65536) :
    Calls Tryz.prog 42 #[.pointer (some ⟨q, 0, none⟩)] w fun e w' => e = .returned (.bool false) ∧ Below w.heap.size w w' := by
  have hR : Calls Tryz.prog 69 #[.pointer (some ⟨q, 0, none⟩), .int .i64 0, .int .i64 0] w fun e w' => ∃ k, e = .returned (.tuple #[.slice (some ⟨k, 0, none⟩) 0 0, .int .i64 0]) ∧ Own w' w.heap.size k 0 ((xs.drop 0).take 0) ∧ Below w.heap.size w w' := read_ok q g B 0 0 xs w hm (by omega) hl
  go_enter Tryz.func42, Tryz.ntmps42
  go_wp2_with (go_at_call 69; (with_reducible refine hR.mono ?_); rintro e w1 ⟨k, rfl, -, hb⟩)
  go_ret
  exact ⟨rfl, hb⟩

/-- a hart's state is turned -/
theorem hrA_st (id st pc : Int) (R : List Int) (vS vH : Value) (l : Nat) (st' : Int) : (hrA id st pc R vS vH l).setIfInBounds 1 (.int .u8 st') = hrA id st' pc R vS vH l := rfl
theorem hrA_pc (id st pc : Int) (R : List Int) (vS vH : Value) (l : Nat) (pc' : Int) : (hrA id st pc R vS vH l).setIfInBounds 2 (.int .u32 pc') = hrA id st pc' R vS vH l := rfl
theorem hrA_hv (id st pc : Int) (R : List Int) (vS vH : Value) (l : Nat) (v : Value) : (hrA id st pc R vS vH l).setIfInBounds 12 v = hrA id st pc R vS v l := rfl

set_option maxHeartbeats 800000 in
theorem hfault_any (h l : Nat) (id st pc e : Int) (R : List Int) (vS vH : Value) (w : World) (hB : Blk w h 56 (hrA id st pc R vS vH l)) (hpc : 0 ≤ pc ∧ pc ≤ 4294967295) (he : 0 ≤ e ∧ e ≤ 4294967295) :
    Calls Tryz.prog 79 #[.pointer (some ⟨h, 0, none⟩), .int .i64 e] w fun E w' => ∃ g, E = .returned (.slice (some ⟨g, 0, none⟩) 1 1) ∧ EOwn 41 w' w.heap.size (.slice (some ⟨g, 0, none⟩) 1 1) [⟨4, id, pc, 0, e⟩] ∧ Blk w' h 56 (hrA id 2 pc R vS vH l) ∧ Keeps (fun j => j = h) w w' := by
  have z : w.frozen? ⟨h, 1, none⟩ = false := hB.free 1
  have c1 : w.cell? ⟨h, 1, none⟩ = some (.int .u8 st) := hB.cell 1
  have HB2 : Hid (Blk (w.setCell ⟨h, 1, none⟩ (.int .u8 2)) h 56 (hrA id 2 pc R vS vH l)) := hB.set 1 (.int .u8 2)
  have HK := Hid.in ((Keeps.refl (fun j => j = h) w).setCell h 1 (.int .u8 2) (.inl rfl))
  have e1 : e % 4294967296 = e := by omega
  clear hB
  go_enter Tryz.func79, Tryz.ntmps79
  go_upto_region 2 with fail
  generalize w.setCell ⟨h, 1, none⟩ (.int .u8 2) = w1 at *
  have d0 : w1.cell? ⟨h, 0, none⟩ = some (.int .i64 id) := HB2.out.cell 0
  have d2 : w1.cell? ⟨h, 2, none⟩ = some (.int .u32 pc) := HB2.out.cell 2
  have hE := event_any h id 4 pc e w1 d0 hpc he
  go_wp2_with (go_at_call 80; refine Hid.out ?_)
  refine Lib.hid ?_
  (with_reducible refine hE.mono ?_)
  rintro E w2 ⟨rfl, hb2⟩
  have HS := Hid.in (Nat.le_trans HK.out.size hb2.size)
  have HB3 := Hid.in ((HB2.out.grow hb2).grow (new_alloc w2 (.cells (evA ⟨4, id, pc, 0, e⟩) 41)))
  have HK3 : Hid (Keeps (fun j => j = h) w (w2.alloc (.cells (evA ⟨4, id, pc, 0, e⟩) 41))) := (HK.out.grown (row := none) ⟨hb2.os, hb2.tape, hb2.output, hb2.size, fun k hk _ => hb2.block k hk⟩ (fun _ e => by cases e)).alloc _
  have HO3 := Hid.in ((EOwn.one w2 ⟨4, id, pc, 0, e⟩).lower HS.out)
  clear hE hb2
  simp only [evA] at HB3 HK3 HO3 ⊢
  go_wp2_with fail
  go_ret
  exact ⟨_, rfl, HO3.out, HB3.out, HK3.out⟩

end Go.Proofs.YtnpaijbkhmnfpaaGreat

/- Worlds in which all but some blocks are as they were. -/
namespace Go.Proofs.YtnpaijbkhmnfpaaGreat
open Go.RowKit

theorem Keeps.ofBelow {G : Nat → Prop} {w w' : World} (h : Below w.heap.size w w') : Keeps G w w' := ⟨h.os, h.tape, h.output, h.size, fun k hk _ => h.block k hk⟩
theorem Keeps.trans' {G : Nat → Prop} {a b c : World} (h : Keeps G a b) (k : Keeps G b c) : Keeps G a c :=
  ⟨k.os.trans h.os, k.tape.trans h.tape, k.output.trans h.output, Nat.le_trans h.size k.size, fun j hj hG => (k.block j (Nat.lt_of_lt_of_le hj h.size) hG).trans (h.block j hj hG)⟩
theorem Keeps.thenB {G : Nat → Prop} {a w w' : World} (h : Keeps G a w) (hb : Below w.heap.size w w') : Keeps G a w' := h.trans' (Keeps.ofBelow hb)
theorem Keeps.wider {G G' : Nat → Prop} {w w' : World} (h : Keeps G w w') (hG : ∀ j, G j → G' j) : Keeps G' w w' := ⟨h.os, h.tape, h.output, h.size, fun j hj hn => h.block j hj (fun e => hn (hG j e))⟩

end Go.Proofs.YtnpaijbkhmnfpaaGreat

/- A trap that is asked; what a breakpoint leads to. -/
namespace Go.Proofs.YtnpaijbkhmnfpaaGreat
open Go.RowKit Go.Maps

set_option maxHeartbeats 400000 in
theorem told_yes (c : Nat) (to_ a : Int) (w : World) (hc : w.cell? ⟨c, 0, none⟩ = some (.int .i32 to_)) (h0 : 0 ≤ to_) (h1 : to_ ≤ 2147483647) :
    Calls Tryz.prog 46 #[.int .u32 a, .pointer (some ⟨c, 0, none⟩)] w fun e w' => e = .returned (.tuple #[.int .u32 to_, .bool true]) ∧ w' = w := by
  have e1 : to_ % 4294967296 = to_ := by omega
  have g0 : decide (to_ < 0) = false := decide_eq_false (by omega)
  go_enter Tryz.func46, Tryz.ntmps46
  go_wp2
  go_ret2
  exact ⟨rfl, rfl⟩
set_option maxHeartbeats 400000 in
theorem told_no (c : Nat) (to_ a : Int) (w : World) (hc : w.cell? ⟨c, 0, none⟩ = some (.int .i32 to_)) (h0 : to_ < 0) :
    Calls Tryz.prog 46 #[.int .u32 a, .pointer (some ⟨c, 0, none⟩)] w fun e w' => e = .returned (.tuple #[.int .u32 0, .bool false]) ∧ w' = w := by
  have g0 : decide (to_ < 0) = true := decide_eq_true h0
  go_enter Tryz.func46, Tryz.ntmps46
  go_wp2
  go_ret2
  exact ⟨rfl, rfl⟩
theorem catch_idle (p q : Addr) (w : World) :
    CallsD Tryz.prog 130 #[.pointer (some p), .pointer (some q)] .returning w fun e u' w' => e = .returned (.tuple #[]) ∧ u' = .returning ∧ w' = w := by
  refine callsD_of_wpS Tryz.func130 rfl fun c₀ cs hu => ?_
  apply wpS_seq
  apply wpS_region
  simp [wpOpsS, go_sem, recoverD, hu, Tryz.ntmps130, Exit.thenS]
  refine wpS_cond (t := false) (by simp [Act.eval, Array.replicate]) ?_
  simp only [Bool.false_eq_true, if_false]
  refine wpS_of_wp (wp_skip ?_)
  cases c₀
  simp_all [bodyPostS, results, Tryz.results130]

theorem eql_nilF (w : World) : (binOp .eql 36 .nilFunc .nilFunc).run Tryz.prog w = .ok (.bool true) w := by kernel_rfl
theorem eql_func (f : Fn) (x y : Array Value) (w : World) : (binOp .eql 36 (.func f x y) .nilFunc).run Tryz.prog w = .ok (.bool false) w := by kernel_rfl

set_option maxRecDepth 100000 in
set_option maxHeartbeats 1600000 in
theorem ask_nil (a : Int) (w : World) :
    Calls Tryz.prog 114 #[.nilFunc, .int .u32 a] w fun e w' => e = .returned (.tuple #[.int .u32 0, .bool false]) ∧ Below w.heap.size w w' := by
  have hq := eql_nilF
  go_enter_defers Tryz.func114, Tryz.ntmps114
  go_wp2
  simp [Leaves, results, Tryz.results114, go_sem, bodyPostD]
  exact below_alloc (new_alloc w _) _
set_option maxRecDepth 100000 in
set_option maxHeartbeats 1600000 in
theorem ask_yes (c : Nat) (to_ a : Int) (w : World) (hc : w.cell? ⟨c, 0, none⟩ = some (.int .i32 to_)) (h0 : 0 ≤ to_) (h1 : to_ ≤ 2147483647) :
    Calls Tryz.prog 114 #[.func (.func 46) #[] #[.pointer (some ⟨c, 0, none⟩)], .int .u32 a] w fun e w' => e = .returned (.tuple #[.int .u32 to_, .bool true]) ∧ Below w.heap.size w w' := by
  have hmf : ∀ (fn : Fn) (first cap : Array Value) (w : World), (Instr.makeFunc fn first cap).run Tryz.prog w = .ok (.func fn first cap) w := fun _ _ _ _ => rfl
  have hq := fun x y => eql_func (.func 46) x y
  have hT := told_yes c to_ a ((w.alloc (.cells #[.int .u32 0] 31)).alloc (.cells #[.bool false] 4)) (by rw [(below_alloc (new_alloc w _) _).cell (p := ⟨c, 0, none⟩) (cell_lt hc)]; exact hc) h0 h1
  go_enter_defers Tryz.func114, Tryz.ntmps114
  go_wp2_with (go_at_call 46; (with_reducible refine hT.mono ?_); rintro e w1 ⟨rfl, rfl⟩)
  refine leaves_cons (f := 130) (args := #[.pointer (some ⟨w.heap.size, 0, none⟩), .pointer (some ⟨w.heap.size + 1, 0, none⟩)]) (by simp) (by simp [go_sem]) ?_
  refine (catch_idle ⟨w.heap.size, 0, none⟩ ⟨w.heap.size + 1, 0, none⟩ _).mono ?_
  rintro e u' w'' ⟨rfl, rfl, rfl⟩
  simp [Leaves, settle, results, Tryz.results114, go_sem]
  exact below_alloc (new_alloc w _) _
set_option maxRecDepth 100000 in
set_option maxHeartbeats 1600000 in
theorem ask_no (c : Nat) (to_ a : Int) (w : World) (hc : w.cell? ⟨c, 0, none⟩ = some (.int .i32 to_)) (h0 : to_ < 0) :
    Calls Tryz.prog 114 #[.func (.func 46) #[] #[.pointer (some ⟨c, 0, none⟩)], .int .u32 a] w fun e w' => e = .returned (.tuple #[.int .u32 0, .bool false]) ∧ Below w.heap.size w w' := by
  have hmf : ∀ (fn : Fn) (first cap : Array Value) (w : World), (Instr.makeFunc fn first cap).run Tryz.prog w = .ok (.func fn first cap) w := fun _ _ _ _ => rfl
  have hq := fun x y => eql_func (.func 46) x y
  have hT := told_no c to_ a ((w.alloc (.cells #[.int .u32 0] 31)).alloc (.cells #[.bool false] 4)) (by rw [(below_alloc (new_alloc w _) _).cell (p := ⟨c, 0, none⟩) (cell_lt hc)]; exact hc) h0
  go_enter_defers Tryz.func114, Tryz.ntmps114
  go_wp2_with (go_at_call 46; (with_reducible refine hT.mono ?_); rintro e w1 ⟨rfl, rfl⟩)
  refine leaves_cons (f := 130) (args := #[.pointer (some ⟨w.heap.size, 0, none⟩), .pointer (some ⟨w.heap.size + 1, 0, none⟩)]) (by simp) (by simp [go_sem]) ?_
  refine (catch_idle ⟨w.heap.size, 0, none⟩ ⟨w.heap.size + 1, 0, none⟩ _).mono ?_
  rintro e u' w'' ⟨rfl, rfl, rfl⟩
  simp [Leaves, settle, results, Tryz.results114, go_sem]
  exact below_alloc (new_alloc w _) _

/-- a trap: none, or one that tells the same of each place -/
def TrV (w : World) (v : Value) (tr : Option Nat) : Prop :=
  (v = .nilFunc ∧ tr = none) ∨ ∃ (c : Nat) (to_ : Int), v = .func (.func 46) #[] #[.pointer (some ⟨c, 0, none⟩)] ∧ w.cell? ⟨c, 0, none⟩ = some (.int .i32 to_) ∧ to_ ≤ 2147483647 ∧ tr = if to_ < 0 then none else some to_.toNat
theorem TrV.below {w w' : World} {v : Value} {tr : Option Nat} (h : TrV w v tr) (hb : Below w.heap.size w w') : TrV w' v tr := by
  rcases h with h | ⟨c, t, h1, h2, h3⟩
  · exact .inl h
  · exact .inr ⟨c, t, h1, by rw [hb.cell (p := ⟨c, 0, none⟩) (cell_lt h2)]; exact h2, h3⟩
theorem ask_none {v : Value} (a : Int) (w : World) (h : TrV w v none) : Calls Tryz.prog 114 #[v, .int .u32 a] w fun e w' => e = .returned (.tuple #[.int .u32 0, .bool false]) ∧ Below w.heap.size w w' := by
  rcases h with ⟨rfl, -⟩ | ⟨c, t, rfl, h2, h3, h4⟩
  · exact ask_nil a w
  · by_cases h0 : t < 0
    · exact ask_no c t a w h2 h0
    · rw [if_neg h0] at h4; cases h4
theorem ask_some {v : Value} (a : Int) (z : Nat) (w : World) (h : TrV w v (some z)) : (Calls Tryz.prog 114 #[v, .int .u32 a] w fun e w' => e = .returned (.tuple #[.int .u32 z, .bool true]) ∧ Below w.heap.size w w') ∧ z ≤ 2147483647 := by
  rcases h with ⟨rfl, h⟩ | ⟨c, t, rfl, h2, h3, h4⟩
  · cases h
  · by_cases h0 : t < 0
    · rw [if_pos h0] at h4; cases h4
    · rw [if_neg h0] at h4
      injection h4 with h4
      subst h4
      have e : ((t.toNat : Nat) : Int) = t := by omega
      rw [e]
      exact ⟨ask_yes c t a w h2 (by omega) h3, by omega⟩

theorem EOwn.kept {T : TypeId} {w w' : World} {B h : Nat} {v : Value} {L : List Ev} (h0 : EOwn T w B v L) (hg : w.grownBy w' (some h)) (hh : h < B) : EOwn T w' B v L := by
  refine ⟨h0.1, h0.2.imp id ?_⟩
  rintro ⟨g, cap, cur, e1, e2, e3, e4⟩
  exact ⟨g, cap, cur, e1, e2, (hg.block g (Array.getElem?_eq_some_iff.1 e3).1 (fun e => by injection e with e; omega)).trans e3, e4⟩

set_option maxHeartbeats 800000 in
theorem follow_none (h l : Nat) (id st pc : Int) (R : List Int) (vS vH v : Value) (w : World) (hB : Blk w h 56 (hrA id st pc R vS vH l)) (hpc : 0 ≤ pc ∧ pc ≤ 4294967295) (ht : TrV w v none) :
    Calls Tryz.prog 81 #[.pointer (some ⟨h, 0, none⟩), v] w fun E w' => ∃ g, E = .returned (.slice (some ⟨g, 0, none⟩) 1 1) ∧ EOwn 41 w' w.heap.size (.slice (some ⟨g, 0, none⟩) 1 1) [⟨4, id, pc, 0, 120⟩] ∧ Blk w' h 56 (hrA id 2 pc R vS vH l) ∧ Keeps (fun j => j = h) w w' := by
  have c2 : w.cell? ⟨h, 2, none⟩ = some (.int .u32 pc) := hB.cell 2
  have hA1 := ask_none pc w ht
  have HF := fun W (hb : Below w.heap.size w W) => hfault_any h l id st pc 120 R vS vH W (hB.grow hb) hpc (by decide)
  clear hB
  go_enter Tryz.func81, Tryz.ntmps81
  go_wp2_with (go_at_call 114; refine Hid.out ?_)
  refine Lib.hid ?_
  (with_reducible refine hA1.mono ?_)
  rintro e w1 ⟨rfl, hb1⟩
  have hF := HF w1 hb1
  have HB1 := Hid.in hb1
  clear HF hA1 hb1
  go_wp2_with (go_at_call 79; refine Hid.out ?_)
  refine Lib.hid ?_
  (with_reducible refine hF.mono ?_)
  rintro e w2 ⟨g, rfl, ho, hb, hk⟩
  have HK : Hid (Keeps (fun j => j = h) w w2) := (Keeps.ofBelow HB1.out).trans' hk
  have HO := Hid.in (ho.lower HB1.out.size)
  have HBB := Hid.in hb
  clear ho hb hk hF
  go_wp2_with fail
  go_ret
  exact ⟨g, rfl, HO.out, HBB.out, HK.out⟩

set_option maxHeartbeats 800000 in
theorem follow_some (h l z : Nat) (id st pc : Int) (R : List Int) (vS vH v : Value) (w : World) (hB : Blk w h 56 (hrA id st pc R vS vH l)) (hpc : 0 ≤ pc ∧ pc ≤ 4294967295) (ht : TrV w v (some z)) :
    Calls Tryz.prog 81 #[.pointer (some ⟨h, 0, none⟩), v] w fun E w' => ∃ g, E = .returned (.slice (some ⟨g, 0, none⟩) 1 1) ∧ EOwn 41 w' w.heap.size (.slice (some ⟨g, 0, none⟩) 1 1) [⟨3, id, pc, 0, z⟩] ∧ Blk w' h 56 (hrA id st z R vS vH l) ∧ Keeps (fun j => j = h) w w' := by
  have c2 : w.cell? ⟨h, 2, none⟩ = some (.int .u32 pc) := hB.cell 2
  obtain ⟨hA1, hz⟩ := ask_some pc z w ht
  have HB := Hid.in hB
  clear hB
  go_enter Tryz.func81, Tryz.ntmps81
  go_wp2_with (go_at_call 114; refine Hid.out ?_)
  refine Lib.hid ?_
  (with_reducible refine hA1.mono ?_)
  rintro e w1 ⟨rfl, hb1⟩
  have HB1 := Hid.in hb1
  have HH1 := Hid.in (HB.out.grow hb1)
  clear hA1 hb1
  have d0 : w1.cell? ⟨h, 0, none⟩ = some (.int .i64 id) := HH1.out.cell 0
  have d2 : w1.cell? ⟨h, 2, none⟩ = some (.int .u32 pc) := HH1.out.cell 2
  have hE := event_any h id 3 pc z w1 d0 hpc (by omega)
  go_wp2_with (go_at_call 80; refine Hid.out ?_)
  refine Lib.hid ?_
  (with_reducible refine hE.mono ?_)
  rintro e w2 ⟨rfl, hb2⟩
  have HB3 := Hid.in (below_alloc (below_step HB1.out hb2) (.cells (evA ⟨3, id, pc, 0, z⟩) 41))
  have HH3 := Hid.in ((HH1.out.grow hb2).grow (new_alloc w2 (.cells (evA ⟨3, id, pc, 0, z⟩) 41)))
  have HO3 := Hid.in ((EOwn.one w2 ⟨3, id, pc, 0, z⟩).lower (Nat.le_trans HB1.out.size hb2.size))
  have HLT : Hid (h < w.heap.size) := HB.out.lt
  clear hE hb2
  simp only [evA] at HB3 HH3 HO3 ⊢
  go_upto_region 5 with fail
  generalize w2.heap.size = g at *
  generalize w2.alloc (.cells #[.int .u8 3, .int .i64 0, .int .i64 id, .int .i64 pc, .int .u8 0, .int .i64 0, .int .i64 z] 41) = w3 at *
  have f2 : w3.cell? ⟨h, 2, none⟩ = some (.int .u32 pc) := HH3.out.cell 2
  have zz : w3.frozen? ⟨h, 2, none⟩ = false := HH3.out.free 2
  go_wp2_with fail
  go_ret
  exact ⟨g, rfl, HO3.out.kept (grown_setCell _ _ _ _) HLT.out, HH3.out.set 2 (.int .u32 z), (Keeps.ofBelow HB3.out).setCell h 2 (.int .u32 z) (.inl rfl)⟩
end Go.Proofs.YtnpaijbkhmnfpaaGreat
