/- What the law OctetsBack answers: true, for every two slices of bytes and every text (their lengths bounded). -/
import Derived.Test.YtmhdiicljnjmcaaUnhex
import Derived.Test.YtmhdiicljnjmcaaAwake
import Derived.Test.YtmhdiicljnjmcaaCopy
import Derived.Laws.AppendOwnNone
namespace Go.Proofs.Ytmhdiicljnjmcaa
open Go.RowKit

/-- 'append(out, b...)', b whatever slice of bytes that came in -/
theorem wp_push_row {ops : Array Oper} {rest : List Oper} {o : Oper} {a : Act} {Q : Exit → Act → World → Prop} (w : World) (hgd : o.guard = none) (s x : Operand)
    (ho : o.op = .call { callee := .builtin .append, args := #[s, x], argTypes := #[25, 25] }) (B : Nat) (v : Value) (xs : List Int) (hs : a.eval s = v) (hown : OwnV w B v xs)
    (q : Option Addr) (m d : Nat) (ys : List Int) (hx : a.eval x = .slice q m d) (hl : ys.length = m) (hrow : Row w q ys) (hq : q = none → m = 0 ∧ d = 0)
    (hlen : xs.length + m ≤ 140737488355328) (hB : B ≤ w.heap.size)
    (h : ∀ v' w', OwnV w' B v' (xs ++ ys) → (∀ w0, Below B w0 w → Below B w0 w') → wpList Try.prog ops Q rest (a.put o.dst v') w') :
    wpList Try.prog ops Q (o :: rest) a w := by
  cases q with
  | none =>
    obtain ⟨rfl, rfl⟩ := hq rfl
    obtain rfl : ys = [] := List.eq_nil_of_length_eq_zero hl
    obtain ⟨i0, hi, hz0, hz1, hz2⟩ := info_parts Try.info5
    exact wpList_append_own_none hgd s x 25 ho B 5 i0 1 Try.underlying25 hi v xs.length (byts xs) hs hown hx (h v w (by rw [List.append_nil]; exact hown) fun _ hb => hb)
  | some ad =>
    refine wp_push w hgd s x ho B v xs hs hown ad m d ys hx hl (fun j u hj => ?_) hlen hB fun v' w' h1 _ h3 _ => h v' w' h1 h3
    have hjl : j < ys.length := by
      rcases Nat.lt_or_ge j ys.length with h | h
      · exact h
      · rw [List.getElem?_eq_none (by simpa using h)] at hj; cases hj
    obtain ⟨b, off, e, hc⟩ := hrow (by omega)
    cases e
    rw [getD_byts ys j hjl] at hj
    rw [← hj, ← hc j hjl, Go.WideShapes.add_plain]

theorem str_append (xs ys : List Int) : strOfNums (xs ++ ys) = strOfNums xs ++ strOfNums ys := by
  have : (strOfNums (xs ++ ys)).data.toList = (strOfNums xs ++ strOfNums ys).data.toList := by
    rw [ByteArray.data_append, Array.toList_append, strOfNums_data, strOfNums_data, strOfNums_data, List.map_append]
  have e := Array.ext' this
  cases h1 : strOfNums (xs ++ ys)
  cases h2 : strOfNums xs ++ strOfNums ys
  rw [h1, h2] at e
  exact congrArg ByteArray.mk e

set_option maxHeartbeats 600000 in
theorem lawBack_any (s : ByteArray) (p q : Option Addr) (n c m d : Nat) (xs ys : List Int) (w : World) (hs : s.size ≤ 1048576)
    (hx : xs.length = n) (hn : n ≤ 1048576) (hr : Row w p xs) (hb : Byt xs) (hy : ys.length = m) (hm : m ≤ 1048576) (hr' : Row w q ys) (hb' : Byt ys) (hq : q = none → m = 0 ∧ d = 0) :
    Calls Try.prog 7 #[.slice p n c, .slice q m d, .string s] w fun e w' => e = .returned (.bool true) ∧ Below w.heap.size w w' := by
  have hA : (strOfNums (hexL xs)).size = 2 * n := by rw [strOfNums_size, hexL_length, hx]
  have hBs : (strOfNums (hexL ys)).size = 2 * m := by rw [strOfNums_size, hexL_length, hy]
  have hbb : Byt (xs ++ ys) := fun i => by
    by_cases hi : i < xs.length
    · simp only [List.getD, List.getElem?_append_left hi]; exact hb i
    · simp only [List.getD, List.getElem?_append_right (show xs.length ≤ i by omega)]; exact hb' _
  have hlb : (xs ++ ys).length ≤ 2097152 := by rw [List.length_append]; omega
  have HCa : Hid (∀ wx, Row wx p xs → Calls Try.prog 20 #[.slice p n c] wx fun e w' => e = .returned (.string (strOfNums (hexL xs))) ∧ Below wx.heap.size wx w') := fun wx h => hex_any p n c xs wx hx (by omega) h hb
  have HCb : Hid (∀ wx, Row wx q ys → Calls Try.prog 20 #[.slice q m d] wx fun e w' => e = .returned (.string (strOfNums (hexL ys))) ∧ Below wx.heap.size wx w') := fun wx h => hex_any q m d ys wx hy (by omega) h hb'
  have HCab : Hid (∀ p2 c2 wx, Row wx p2 (xs ++ ys) → Calls Try.prog 20 #[.slice p2 (xs ++ ys).length c2] wx fun e w' => e = .returned (.string (strOfNums (hexL (xs ++ ys)))) ∧ Below wx.heap.size wx w') := fun p2 c2 wx h => hex_any p2 _ c2 (xs ++ ys) wx rfl (by omega) h hbb
  have HCu : Hid (∀ wx, Calls Try.prog 13 #[.string (strOfNums (hexL xs))] wx fun e w' => ∃ g, e = .returned (.tuple #[.slice (some ⟨g, 0, none⟩) n n, .bool true]) ∧ Own w' wx.heap.size g n xs ∧ Below wx.heap.size wx w') := fun wx => by
    have h := unhex_yes (strOfNums (hexL xs)) wx (by omega) (by rw [codes_str (hexL_byt hb)]; exact hexL_good hb)
    rwa [codes_str (hexL_byt hb), unhexB_hexL hb, hA, show 2 * n / 2 = n by omega] at h
  have hla : (((strOfNums (hexL xs)).size : Int) != 2 * (n : Int)) = false := by rw [bne_eq_false_iff_eq]; omega
  have hsum : (strOfNums (hexL xs)).size + (strOfNums (hexL ys)).size ≤ 4194304 := by omega
  have HX : Hid (xs.length = n) := hx
  have HY : Hid (ys.length = m) := hy
  have HQ : Hid (q = none → m = 0 ∧ d = 0) := hq
  clear hx hy hq hA hBs
  rw [show strOfNums (hexL (xs ++ ys)) = strOfNums (hexL xs) ++ strOfNums (hexL ys) by rw [hexL_append, str_append]] at HCab
  obtain ⟨zs, hzs⟩ : ∃ zs, xs ++ ys = zs := ⟨_, rfl⟩
  rw [hzs] at HCab hbb hlb
  have HZ : Hid (xs ++ ys = zs) := hzs
  clear hzs
  generalize strOfNums (hexL xs) = A at *
  generalize strOfNums (hexL ys) = Bs at *
  go_enter Try.func7, Try.ntmps7
  go_wp2_with fail
  refine (copy_any p n c xs _ HX.out (by omega) hr).mono ?_
  rintro e w1 ⟨v, rfl, hown, hb1⟩
  have hr1 := hr.below hb1
  have hr1' := hr'.below hb1
  have hsz := hb1.size
  go_wp2_with (at_builtin; refine wp_push_row _ rfl _ _ rfl w.heap.size _ xs rfl hown q m d ys rfl HY.out hr1' HQ.out (by rw [HX.out]; omega) hsz ?_; intro v' w2 hown2 hbel; rw [HZ.out] at hown2; have hb2 := hbel _ hb1; obtain ⟨p2, c2, hv2, hrow2, _⟩ := hown2.slice; rw [hv2]; clear hbel hown hown2 hv2 hr1 hr1' hsz hb1)
  have hr2 := hr.below hb2
  have hr2' := hr'.below hb2
  clear hr hr'
  refine (HCa.out _ hr2).mono ?_
  rintro e w3 ⟨rfl, hbl⟩
  have hr3 := hr2.below hbl
  have hr3' := hr2'.below hbl
  have hrow3 := hrow2.below hbl
  have hb3 := below_step hb2 hbl
  clear hbl hb2 hr2 hr2' hrow2
  go_wp2_with fail
  refine (HCu.out _).mono ?_
  rintro e w4 ⟨g, rfl, ho4, hbl⟩
  have hr4 := hr3.below hbl
  have hr4' := hr3'.below hbl
  have hrow4 := hrow3.below hbl
  have hb4 := below_step hb3 hbl
  clear hbl hb3 hr3 hr3' hrow3
  go_wp2_with fail
  refine (same_any _ _ n n n c xs xs _ HX.out HX.out ho4.row hr4 hb hb).mono ?_
  rw [sameB_self]
  rintro e w5 ⟨rfl, rfl⟩
  go_wp2_with fail
  refine (HCab.out _ _ _ hrow4).mono ?_
  rintro e w5 ⟨rfl, hbl⟩
  clear ho4
  have hr5 := hr4.below hbl
  have hr5' := hr4'.below hbl
  have hrow5 := hrow4.below hbl
  have hb5 := below_step hb4 hbl
  clear hbl hb4 hr4 hr4' hrow4
  go_wp2_with fail
  refine (HCa.out _ hr5).mono ?_
  rintro e w6 ⟨rfl, hbl⟩
  have hr6 := hr5.below hbl
  have hr6' := hr5'.below hbl
  have hrow6 := hrow5.below hbl
  have hb6 := below_step hb5 hbl
  clear hbl hb5 hr5 hr5' hrow5
  go_wp2_with fail
  refine (HCb.out _ hr6').mono ?_
  rintro e w7 ⟨rfl, hbl⟩
  have hr7 := hr6.below hbl
  have hr7' := hr6'.below hbl
  have hrow7 := hrow6.below hbl
  have hb7 := below_step hb6 hbl
  clear hbl hb6 hr6 hr6' hrow6
  go_wp2_with fail
  refine (HCa.out _ hr7).mono ?_
  rintro e w8 ⟨rfl, hbl⟩
  have hr8 := hr7.below hbl
  have hr8' := hr7'.below hbl
  have hrow8 := hrow7.below hbl
  have hb8 := below_step hb7 hbl
  clear hbl hb7 hr7 hr7' hrow7
  clear HCa HCb HCab HCu hr8 hr8' hrow8
  by_cases hg : Good (codes s)
  · have HCs : Hid (∀ wx, Calls Try.prog 13 #[.string s] wx fun e w' => ∃ g, e = .returned (.tuple #[.slice (some ⟨g, 0, none⟩) (s.size / 2) (s.size / 2), .bool true]) ∧ Own w' wx.heap.size g (s.size / 2) (unhexB (codes s)) ∧ Below wx.heap.size wx w') := fun wx => unhex_yes s wx (by omega) hg
    have HL : Hid ((unhexB (codes s)).length = s.size / 2) := by rw [unhexB_length, codes_length]; rfl
    have HB : Hid (Byt (unhexB (codes s))) := unhexB_byt hg
    have HE : Hid (strOfNums (hexL (unhexB (codes s))) = s) := by rw [hexL_unhexB hg, str_codes]; rfl
    clear hg
    generalize unhexB (codes s) = us at *
    go_wp2_with fail
    refine (HCs.out _).mono ?_
    rintro e w9 ⟨g2, rfl, ho9, hbl⟩
    have hb9 := below_step hb8 hbl
    clear hbl hb8 HCs
    go_wp2_with fail
    refine (hex_any _ _ _ us _ HL.out (by omega) ho9.row HB.out).mono ?_
    rw [HE.out]
    rintro e w10 ⟨rfl, hbl⟩
    have hb10 := below_step hb9 hbl
    clear hbl hb9 ho9
    have hss : (s.toList == s.toList) = true := by simp
    go_wp2_with fail
    refine (awake_any _).mono ?_
    rintro e w11 ⟨rfl, hbl⟩
    go_wp2
    go_ret
    exact ⟨rfl, below_step hb10 hbl⟩
  · have HCs : Hid (∀ wx, Calls Try.prog 13 #[.string s] wx fun e w' => e = .returned (.tuple #[.slice none 0 0, .bool false]) ∧ Below wx.heap.size wx w') := fun wx => unhex_no s wx (by omega) hg
    clear hg
    go_wp2_with fail
    refine (HCs.out _).mono ?_
    rintro e w9 ⟨rfl, hbl⟩
    have hb9 := below_step hb8 hbl
    clear hbl hb8 HCs
    go_wp2_with fail
    refine (awake_any _).mono ?_
    rintro e w11 ⟨rfl, hbl⟩
    go_wp2
    go_ret
    exact ⟨rfl, below_step hb9 hbl⟩

end Go.Proofs.Ytmhdiicljnjmcaa
