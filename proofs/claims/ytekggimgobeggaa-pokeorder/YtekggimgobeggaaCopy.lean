/- What switchyardkit.CopyBytes, LentBytes and KeptBytes do, for every slice of bytes. -/
import Derived.Test.YtekggimgobeggaaLit
namespace Go.Proofs.Ytekggimgobeggaa
open Go.RowKit

/-- a slice of bytes that the call has made, or nil -/
def OwnV (w : World) (B : Nat) (v : Value) (xs : List Int) : Prop := w.ownsRow B 5 1 v xs.length (byts xs)
theorem OwnV.nil (w : World) (B : Nat) : OwnV w B (.slice none 0 0) [] := World.ownsRow_nil _ _ _ _
theorem OwnV.alloc {w : World} {B : Nat} {v : Value} {xs : List Int} (h : OwnV w B v xs) (o : Obj) : OwnV (w.alloc o) B v xs := World.ownsRow.alloc h o
theorem OwnV.drewN {w : World} {B : Nat} {v : Value} {xs : List Int} (h : OwnV w B v xs) (n : Nat) : OwnV (w.drewN n) B v xs := h
theorem Own.val {w : World} {B g cap : Nat} {xs : List Int} (h : Own w B g cap xs) : OwnV w B (.slice (some ⟨g, 0, none⟩) xs.length cap) xs := h
theorem OwnV.shape {w : World} {B : Nat} {v : Value} {xs : List Int} (h : OwnV w B v xs) : (v = .slice none 0 0 ∧ xs = []) ∨ ∃ g cap, v = .slice (some ⟨g, 0, none⟩) xs.length cap ∧ Own w B g cap xs := by
  rcases h.2 with ⟨h1, h2⟩ | ⟨g, cap, cur, h1, h2⟩
  · exact .inl ⟨h1, List.eq_nil_of_length_eq_zero h2⟩
  · subst h1
    exact .inr ⟨g, cap, rfl, h⟩
theorem OwnV.below {w w' : World} {B : Nat} {v : Value} {xs : List Int} (h : OwnV w B v xs) (hb : Below w.heap.size w w') : OwnV w' B v xs := by
  rcases h.shape with ⟨rfl, rfl⟩ | ⟨g, cap, rfl, ho⟩
  · exact OwnV.nil _ _
  · exact (ho.below hb).val
theorem OwnV.slice {w : World} {B : Nat} {v : Value} {xs : List Int} (h : OwnV w B v xs) : ∃ p cap, v = .slice p xs.length cap ∧ Row w p xs ∧ (p = none → cap = 0) := by
  rcases h.shape with ⟨rfl, rfl⟩ | ⟨g, cap, rfl, ho⟩
  · exact ⟨none, 0, rfl, fun h => absurd h (Nat.lt_irrefl 0), fun _ => rfl⟩
  · exact ⟨_, cap, rfl, ho.row, fun h => by cases h⟩

/-- 'append(out, ..)' on such a slice: the law of the kit in these words -/
theorem wp_push {ops : Array Oper} {rest : List Oper} {o : Oper} {a : Act} {Q : Exit → Act → World → Prop} (w : World) (hgd : o.guard = none) (s x : Operand)
    (ho : o.op = .call { callee := .builtin .append, args := #[s, x], argTypes := #[54, 54] }) (B : Nat) (v : Value) (xs : List Int) (hs : a.eval s = v) (hown : OwnV w B v xs)
    (ad : Addr) (m c : Nat) (ns : List Int) (hx : a.eval x = .slice (some ad) m c) (hl : ns.length = m) (hnews : ∀ j u, (byts ns)[j]? = some u → w.cell? (ad.add j) = some u)
    (hlen : xs.length + m ≤ 140737488355328) (hB : B ≤ w.heap.size)
    (h : ∀ v' w', OwnV w' B v' (xs ++ ns) → w.grownBy w' v.ownBlock → (∀ w0, Below B w0 w → Below B w0 w') → (v' = .slice none 0 0 ↔ v = .slice none 0 0 ∧ m = 0) → wpList Try.prog ops Q rest (a.put o.dst v') w') :
    wpList Try.prog ops Q (o :: rest) a w := by
  obtain ⟨i0, hi, hz0, hz1, hz2⟩ := info_parts Try.info5
  refine wpList_append_own w hgd s x 54 ho B 5 i0 (.int .u8 0) 1 1 Try.underlying54 hi hz0 hz1 hz2 rfl (by decide) v xs.length (byts xs) hs hown ad m c (byts ns) hx (by simp [hl]) hnews (fun u hu => ?_) (by unfold maxLen; omega) (by omega) hB ?_
  · simp only [byts, List.mem_map] at hu
    obtain ⟨z, _, rfl⟩ := hu
    rfl
  · intro v' w' h1 h2 h3
    refine h v' w' ?_ h2 (fun w0 hb => hb.grown h2 hB fun k hk => ?_) h3
    · unfold OwnV
      rw [List.length_append, hl]
      simpa [byts] using h1
    · rcases hown.shape with ⟨rfl, _⟩ | ⟨g, cap, rfl, ho⟩
      · simp [Value.ownBlock] at hk
      · simp [Value.ownBlock] at hk
        subst hk
        exact ho.base

theorem take_getD (xs : List Int) (k : Nat) (h : k < xs.length) : xs.take (k + 1) = xs.take k ++ [xs.getD k 0] := by
  rw [List.take_succ_eq_append_getElem h]
  simp [List.getD, h]

set_option maxHeartbeats 400000 in
theorem copy_at (b o n c : Nat) (xs : List Int) (w : World) (hx : xs.length = n) (hn : n ≤ 140737488355328)
    (hc : ∀ i, i < n → w.cell? ⟨b, o + i, none⟩ = some (.int .u8 (xs.getD i 0))) :
    Calls Try.prog 62 #[.slice (some ⟨b, o, none⟩) n c] w fun e w' => ∃ v, e = .returned v ∧ OwnV w' w.heap.size v xs ∧ Below w.heap.size w w' := by
  have HX : Hid (xs.length = n) := hx
  have HC : Hid (∀ i, i < n → w.cell? ⟨b, o + i, none⟩ = some (.int .u8 (xs.getD i 0))) := hc
  clear hx hc
  go_enter Try.func62, Try.ntmps62
  go_wp2
  go_loopw [3, 4] (fun v i wr => ∃ k : Nat, k ≤ n ∧ i = .int .i64 k ∧ OwnV wr w.heap.size v (xs.take k) ∧ Below w.heap.size w wr) (fun _ i _ => n - (intOf i).toNat)
  case atStart => exact ⟨0, Nat.zero_le _, rfl, OwnV.nil _ _, Below.refl _ _⟩
  case round =>
    obtain ⟨k, hk, rfl, hown, hbk⟩ := hrel
    by_cases hlt : k < n
    · have hcd := HC.out k hlt
      have hcl := cell_lt hcd
      have c1 : wr.cell? ⟨b, o + k, none⟩ = some (.int .u8 (xs.getD k 0)) := by rw [hbk.cell (p := ⟨b, o + k, none⟩) hcl]; exact hcd
      have hsz := hbk.size
      have hl : (xs.take k).length + 1 ≤ 140737488355328 := by rw [List.length_take]; omega
      have HT : Hid (xs.take (k + 1) = xs.take k ++ [xs.getD k 0]) := take_getD xs k (by rw [HX.out]; exact hlt)
      clear hcd hcl
      generalize xs.getD k 0 = z at *
      generalize xs.take k = ys at *
      go_wp2_with (at_builtin; refine wp_push _ rfl _ _ rfl w.heap.size _ ys rfl (hown.alloc _) ⟨wr.heap.size, 0, none⟩ 1 1 [z] rfl rfl (cell_one_new _ _ _) hl (by simp; omega) ?_; intro v' w1 hown' _hgrow hbel _hnil)
      go_roundw
      case rel => exact ⟨k + 1, by omega, by go_num, by rw [HT.out]; exact hown', hbel _ (hbk.alloc hsz _)⟩
      case measure => simp [intOf]; omega
    · have HT : Hid (xs.take k = xs) := List.take_of_length_le (by rw [HX.out]; omega)
      go_wp2
      go_ret
      exact ⟨_, rfl, by rw [HT.out] at hown; exact hown, hbk⟩

set_option maxHeartbeats 400000 in
theorem copy_zero (p : Option Addr) (c : Nat) (w : World) :
    Calls Try.prog 62 #[.slice p 0 c] w fun e w' => e = .returned (.slice none 0 0) ∧ w' = w := by
  go_enter Try.func62, Try.ntmps62
  go_wp2
  refine wp_loop_rounds 1 ?_
  rw [rounds_succ]; go_wp2
  go_ret
  exact ⟨rfl, rfl⟩

theorem copy_any (p : Option Addr) (n c : Nat) (xs : List Int) (w : World) (hx : xs.length = n) (hn : n ≤ 140737488355328) (hr : Row w p xs) :
    Calls Try.prog 62 #[.slice p n c] w fun e w' => ∃ v, e = .returned v ∧ OwnV w' w.heap.size v xs ∧ Below w.heap.size w w' := by
  rcases Nat.eq_zero_or_pos n with h0 | h0
  · subst h0
    obtain rfl : xs = [] := List.eq_nil_of_length_eq_zero hx
    exact (copy_zero p c w).mono fun e w' h => ⟨_, h.1, OwnV.nil _ _, by rw [h.2]; exact below_self w⟩
  · obtain ⟨b, o, rfl, hc⟩ := hr (by omega)
    exact copy_at b o n c xs w hx hn (fun i hi => hc i (by omega))

end Go.Proofs.Ytekggimgobeggaa
