/- What switchyardref01.Hex answers, for every slice of bytes: the same as the program's. -/
import Derived.Test.YtmhdiicljnjmcaaRef
import Derived.Deep.RegionHeld3
import Derived.Deep.AppendLies
namespace Go.Proofs.Ytmhdiicljnjmcaa
open Go.RowKit

/-- 'append(out, ..)' within a region that draws its order -/
theorem step_push {ops : Array Oper} {o : Oper} {a : Act} {K : Act → World → Prop} {Q : Exit → Act → World → Prop} {E : Prop} (w : World) (hgd : o.guard = none) (s x : Operand)
    (ho : o.op = .call { callee := .builtin .append, args := #[s, x], argTypes := #[25, 25] }) (B : Nat) (v : Value) (xs : List Int) (hs : a.eval s = v) (hown : OwnV w B v xs)
    (ad : Addr) (m c : Nat) (ns : List Int) (hx : a.eval x = .slice (some ad) m c) (hl : ns.length = m) (hm : 0 < m) (hnews : ∀ j u, (byts ns)[j]? = some u → w.cell? (ad.add j) = some u)
    (hlen : xs.length + m ≤ 140737488355328) (hB : B ≤ w.heap.size)
    (h : ∀ v' w', OwnV w' B v' (xs ++ ns) → w.grownBy w' v.ownBlock → (∀ w0, Below B w0 w → Below B w0 w') → K (a.put o.dst v') w') :
    if Region.wanted o (yielded ops a.tmps) = true then Oper.wp Try.prog o a w K Q else E := by
  obtain ⟨i0, hi, hz0, hz1, hz2⟩ := info_parts Try.info5
  refine step_append_lies w hgd s x 25 ho B 5 i0 (.int .u8 0) 1 1 Try.underlying25 hi hz0 hz1 hz2 rfl (by decide) v xs.length (byts xs) hs hown ad m c (byts ns) hx (by simp [hl]) hnews (fun u hu => ?_) hm (by unfold maxLen; omega) (by omega) hB w.heap.size rfl ?_
  · simp only [byts, List.mem_map] at hu
    obtain ⟨z, _, rfl⟩ := hu
    rfl
  · intro g cap w' h1 h2 _ _
    refine h _ w' ?_ h2 (fun w0 hb => hb.grown h2 hB fun k hk => ?_)
    · unfold OwnV
      rw [List.length_append, hl]
      simpa [byts] using h1
    · rcases hown.shape with ⟨rfl, _⟩ | ⟨g, cap, rfl, ho⟩
      · simp [Value.ownBlock] at hk
      · simp [Value.ownBlock] at hk
        subst hk
        exact ho.base

theorem hexL_take (xs : List Int) (k : Nat) (h : k < xs.length) : hexL (xs.take (k + 1)) = hexL (xs.take k) ++ [hd (xs.getD k 0 / 16), hd (xs.getD k 0 % 16)] := by
  rw [take_getD xs k h, hexL_append]
  rfl

set_option maxHeartbeats 1000000 in
theorem refHex_at (b o n c : Nat) (xs : List Int) (w : World) (hx : xs.length = n) (hn : n ≤ 70368744177664) (hb : Byt xs)
    (hc : ∀ i, i < n → w.cell? ⟨b, o + i, none⟩ = some (.int .u8 (xs.getD i 0))) :
    Calls Try.prog 21 #[.slice (some ⟨b, o, none⟩) n c] w fun e w' => e = .returned (.string (strOfNums (hexL xs))) ∧ Below w.heap.size w w' := by
  have HX : Hid (xs.length = n) := hx
  have HY : Hid (Byt xs) := hb
  have HC : Hid (∀ i, i < n → w.cell? ⟨b, o + i, none⟩ = some (.int .u8 (xs.getD i 0))) := hc
  clear hx hc hb
  go_enter Try.func21, Try.ntmps21
  go_wp2
  go_loopw [3, 4] (fun v i wr => ∃ k : Nat, k ≤ n ∧ i = .int .i64 k ∧ OwnV wr w.heap.size v (hexL (xs.take k)) ∧ Below w.heap.size w wr) (fun _ i _ => n - (intOf i).toNat)
  case atStart => exact ⟨0, Nat.zero_le _, rfl, OwnV.nil _ _, Below.refl _ _⟩
  case round =>
    obtain ⟨k, hk, rfl, hown, hbk⟩ := hrel
    by_cases hlt : k < n
    · have hcd := HC.out k hlt
      have hcl := cell_lt hcd
      have c1 : wr.cell? ⟨b, o + k, none⟩ = some (.int .u8 (xs.getD k 0)) := by rw [hbk.cell (p := ⟨b, o + k, none⟩) hcl]; exact hcd
      have hsz := hbk.size
      have hl : (hexL (xs.take k)).length + 2 ≤ 140737488355328 := by rw [hexL_length, List.length_take]; omega
      have HT : Hid (hexL (xs.take (k + 1)) = hexL (xs.take k) ++ [hd (xs.getD k 0 / 16), hd (xs.getD k 0 % 16)]) := hexL_take xs k (by rw [HX.out]; exact hlt)
      have hby := HY.out k
      generalize hexL (xs.take k) = ys at *
      generalize xs.getD k 0 = z at *
      have q1 : 0 ≤ z / 16 ∧ z / 16 < 16 := by omega
      have q2 : 0 ≤ z % 16 ∧ z % 16 < 16 := by omega
      have e1 : z.tdiv 16 = z / 16 := Int.tdiv_eq_ediv_of_nonneg hby.1
      have e2 : z.tmod 16 = z % 16 := Int.tmod_eq_emod_of_nonneg hby.1
      have e3 : IntKind.u8.wrap (z / 16) = z / 16 := by rw [IntKind.wrap_u8]; omega
      have e4 : IntKind.u8.wrap (z % 16) = z % 16 := by rw [IntKind.wrap_u8]; omega
      have i1 : ∀ h, ((((⟨#[48, 49, 50, 51, 52, 53, 54, 55, 56, 57, 97, 98, 99, 100, 101, 102]⟩ : ByteArray)[(z / 16).toNat]'h).toNat : Nat) : Int) = hd (z / 16) := fun h => idx_hd _ q1.1 h
      have i2 : ∀ h, ((((⟨#[48, 49, 50, 51, 52, 53, 54, 55, 56, 57, 97, 98, 99, 100, 101, 102]⟩ : ByteArray)[(z % 16).toNat]'h).toNat : Nat) : Int) = hd (z % 16) := fun h => idx_hd _ q2.1 h
      have hk0 : (0 : Int) ≤ (k : Int) := by omega
      have hk1 : (k : Int) < (n : Int) := by omega
      go_wp2_with fail
      go_region_held3 (fun w' => w'.cell? ⟨b, o + k, none⟩ = some (.int .u8 z)) (first | go_keep | exact hk9)
        ((refine step_push _ (by rfl) _ _ (by rfl) w.heap.size _ ys (by rfl) (OwnV.drewN (hown.alloc _) 1) ⟨wr.heap.size, 0, none⟩ 2 2 [hd (z / 16), hd (z % 16)] (by rfl) rfl (by decide) (World.news_of_block (cs := #[.int .u8 (hd (z / 16)), .int .u8 (hd (z % 16))]) (t := 5) (fr := (0, 0)) (heap_alloc_new wr _)) hl (by simp; omega) ?_; intro v' w1 hown' _hgrow hbel; have hbw := hbel w ((hbk.alloc hsz _).drew); have hk9 : w1.cell? ⟨b, o + k, none⟩ = some (.int .u8 z) := (hbw.cell (p := ⟨b, o + k, none⟩) hcl).trans hcd))
      all_goals
        clear i1 i2 e1 e2 e3 e4
        go_wp2
        go_roundw
        case rel => exact ⟨k + 1, by omega, by go_num, by rw [HT.out]; exact hown', hbw⟩
        case measure => simp [intOf]; omega
    · have HT : Hid (hexL (xs.take k) = hexL xs) := by rw [List.take_of_length_le (by rw [HX.out]; omega)]; rfl
      obtain ⟨p, cap, hv, hrow, _⟩ := hown.slice
      have hcv := hrow.convert (rfl : (hexL (xs.take k)).length = (hexL (xs.take k)).length) cap
      rw [HT.out] at hcv hv
      subst hv
      clear hrow hown
      go_wp2
      go_ret
      exact ⟨rfl, hbk⟩

set_option maxHeartbeats 400000 in
theorem refHex_zero (p : Option Addr) (c : Nat) (w : World) :
    Calls Try.prog 21 #[.slice p 0 c] w fun e w' => e = .returned (.string ByteArray.empty) ∧ w' = w := by
  have hcv := convert_zero w none 0
  go_enter Try.func21, Try.ntmps21
  go_wp2
  refine wp_loop_rounds 1 ?_
  rw [rounds_succ]; go_wp2
  go_ret
  exact ⟨rfl, rfl⟩

theorem refHex_any (p : Option Addr) (n c : Nat) (xs : List Int) (w : World) (hx : xs.length = n) (hn : n ≤ 70368744177664) (hr : Row w p xs) (hb : Byt xs) :
    Calls Try.prog 21 #[.slice p n c] w fun e w' => e = .returned (.string (strOfNums (hexL xs))) ∧ Below w.heap.size w w' := by
  rcases Nat.eq_zero_or_pos n with h0 | h0
  · subst h0
    obtain rfl : xs = [] := List.eq_nil_of_length_eq_zero hx
    exact (refHex_zero p c w).mono fun e w' h => ⟨h.1, by rw [h.2]; exact below_self w⟩
  · obtain ⟨b, o, rfl, hc⟩ := hr (by omega)
    exact refHex_at b o n c xs w hx hn hb (fun i hi => hc i (by omega))

end Go.Proofs.Ytmhdiicljnjmcaa
