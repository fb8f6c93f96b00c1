/- Texts put together: PokK, PokH, PokI, PokJ, PokM. -/
import Derived.Test.YtekggimgobeggaaGb
import Derived.Test.YtekggimgobeggaaAwk

/- A step keeps what holds of each patcher. -/
namespace Go.Proofs.Ytekggimgobeggaa
open Go.RowKit

theorem POk.mono {s : PS} {M N : Int} (h : POk s M) (hM : M ≤ N) : POk s N := ⟨h.ph, h.nx, h.w1, h.w2, ⟨h.c1.1, by have := h.c1.2; omega⟩, ⟨h.c2.1, by have := h.c2.2; omega⟩, ⟨h.c3.1, by have := h.c3.2; omega⟩, ⟨h.c4.1, by have := h.c4.2; omega⟩, ⟨h.n.1, by have := h.n.2; omega⟩, h.xl⟩
theorem btOk_nil : BtOk [] := fun x h => by cases h
theorem btOk_add {L : List Si} (h : BtOk L) (a t : Int) (up : Bool) : BtOk (addR L a t up) := by
  unfold addR
  split
  · rename_i he
    obtain ⟨-, -, h3, h4⟩ := bad_no (addE_zero he).1
    intro x hx
    obtain ⟨i, h1, h2, -⟩ := ins_cut L ⟨dirK up, a, t⟩
    rw [h2] at hx
    simp only [List.mem_append, List.mem_cons] at hx
    rcases hx with hx | rfl | hx
    · exact h x (List.mem_of_mem_take hx)
    · exact ⟨h3, h4⟩
    · exact h x (List.mem_of_mem_drop hx)
  · exact h
theorem clr_ok {s : PS} {M : Int} (h : POk s M) (hw : s.wr = 0) : POk (clrP s).s (M + 1) := by
  have hM := h.mono (show M ≤ M + 1 by omega)
  have h3 := h.c3
  unfold clrP
  split
  · exact ⟨Nat.zero_le _, h.nx, by show s.wr ≤ 0; omega, fun _ => hw, hM.c1, hM.c2, ⟨by show 0 ≤ s.ct.st + 1; omega, by show s.ct.st + 1 ≤ _; omega⟩, hM.c4, hM.n, h.xl⟩
  · exact ⟨by show 1 ≤ 6; decide, h.nx, by show s.wr ≤ 0; omega, fun _ => hw, hM.c1, hM.c2, ⟨by show 0 ≤ s.ct.st + 1; omega, by show s.ct.st + 1 ≤ _; omega⟩, hM.c4, hM.n, h.xl⟩
theorem clr_bt (s : PS) : (clrP s).s.bt = [] := by unfold clrP; split <;> rfl
theorem stp_ok {s : PS} {rs : List Bool} {M : Int} (h : POk s M) (hb : BtOk s.bt) : POk (stpP s rs).s (M + 1) ∧ BtOk (stpP s rs).s.bt := by
  have hM := h.mono (show M ≤ M + 1 by omega)
  have h1 := h.c1
  have h2 := h.c2
  have h3 := h.c3
  have h4 := h.c4
  have hn := h.n
  have hph := h.ph
  unfold stpP
  split
  · exact ⟨hM, hb⟩
  · rename_i e0
    split
    · rename_i e1
      have hw : s.wr = 0 := h.w2 (by omega)
      unfold gatP
      split
      · exact ⟨clr_ok h hw, by rw [clr_bt]; exact btOk_nil⟩
      · refine ⟨⟨?_, h.nx, by show s.wr ≤ _; omega, fun _ => hw, hM.c1, hM.c2, ⟨by show 0 ≤ s.ct.st + 1; omega, by show s.ct.st + 1 ≤ _; omega⟩, hM.c4, hM.n, h.xl⟩, btOk_add hb _ _ _⟩
        show (if _ then 2 else 1) ≤ 6
        split <;> decide
    · rename_i e1
      split
      · rename_i e5
        have hw : s.wr = 0 := h.w2 (by omega)
        unfold waiP
        split
        · exact ⟨⟨h.nx, h.nx, h.w1, fun _ => hw, hM.c1, hM.c2, ⟨by show 0 ≤ s.ct.st + 1; omega, by show s.ct.st + 1 ≤ _; omega⟩, hM.c4, hM.n, h.xl⟩, hb⟩
        · exact ⟨⟨h.ph, h.nx, h.w1, fun _ => hw, hM.c1, hM.c2, hM.c3, ⟨by show 0 ≤ s.ct.wa + 1; omega, by show s.ct.wa + 1 ≤ _; omega⟩, hM.n, h.xl⟩, hb⟩
      · rename_i e5
        split
        · rename_i e6
          exact ⟨clr_ok h (h.w2 (by omega)), by rw [clr_bt]; exact btOk_nil⟩
        · rename_i e6
          unfold wriP
          split
          · unfold sndP
            split
            · refine ⟨⟨by show 5 ≤ 6; decide, ?_, Nat.zero_le _, fun _ => rfl, hM.c1, ⟨by show 0 ≤ s.ct.ro + 1; omega, by show s.ct.ro + 1 ≤ _; omega⟩, ⟨by show 0 ≤ s.ct.st + 1; omega, by show s.ct.st + 1 ≤ _; omega⟩, hM.c4, ⟨by show 0 ≤ s.n + 1; omega, by show s.n + 1 ≤ _; omega⟩, h.xl⟩, hb⟩
              show nxP s.ph ≤ 6
              unfold nxP
              split
              · decide
              · split <;> decide
            · exact ⟨hM, hb⟩
          · rename_i x hx
            have hlt : s.wr < s.bt.length := (List.getElem?_eq_some_iff.1 hx).1
            split
            · rename_i hf
              refine ⟨⟨h.ph, h.nx, Nat.succ_le_of_lt hlt, fun hh => absurd (show 2 ≤ s.ph ∧ s.ph ≤ 4 by omega) hh, ⟨by show 0 ≤ s.ct.wr + 1; omega, by show s.ct.wr + 1 ≤ _; omega⟩, hM.c2, ⟨by show 0 ≤ s.ct.st + 1; omega, by show s.ct.st + 1 ≤ _; omega⟩, hM.c4, hM.n, ?_⟩, hb⟩
              show (putA s.xs _ _).length ≤ 65536
              have hfit : (pieceP s.ph x).1.toNat + (pieceP s.ph x).2.length ≤ s.xs.length := by obtain ⟨q1, q2⟩ := hf; omega
              rw [putA_len hfit]
              exact h.xl
            · exact ⟨hM, hb⟩
end Go.Proofs.Ytekggimgobeggaa

/- turnable, slices.Clone, Start. -/
namespace Go.Proofs.Ytekggimgobeggaa
open Go.RowKit Go.Sort

/-- may these be turned, the site ahead ending at e -/
def mayF (size : Int) : Int → List Si → Bool
  | _, [] => true
  | e, x :: l => if x.at_ < e ∨ size - 5 < x.at_ ∨ x.to_ < 0 ∨ 65536 < x.to_ ∨ x.to_ - (x.at_ + 5) < -4096 ∨ 4096 < x.to_ - (x.at_ + 5) then false else mayF size (x.at_ + 5) l
theorem mayF_no {size e : Int} {L : List Si} {k : Nat} (hk : k < L.length) (h : L[k].at_ < e ∨ size - 5 < L[k].at_ ∨ L[k].to_ < 0 ∨ 65536 < L[k].to_ ∨ L[k].to_ - (L[k].at_ + 5) < -4096 ∨ 4096 < L[k].to_ - (L[k].at_ + 5)) : mayF size e (L.drop k) = false := by
  rw [List.drop_eq_getElem_cons hk, mayF, if_pos h]
theorem mayF_yes {size e : Int} {L : List Si} {k : Nat} (hk : k < L.length) (h : ¬ (L[k].at_ < e ∨ size - 5 < L[k].at_ ∨ L[k].to_ < 0 ∨ 65536 < L[k].to_ ∨ L[k].to_ - (L[k].at_ + 5) < -4096 ∨ 4096 < L[k].to_ - (L[k].at_ + 5))) : mayF size e (L.drop k) = mayF size (L[k].at_ + 5) (L.drop (k + 1)) := by
  rw [List.drop_eq_getElem_cons hk, mayF, if_neg h]
set_option maxRecDepth 20000 in
set_option maxHeartbeats 2000000 in
theorem turn_any (p : Option Addr) (n c : Nat) (L : List Si) (size : Int) (w : World) (hn : L.length = n) (hn6 : n ≤ 9223372036854775807) (hr : Row3 w p (L.map siV)) (z0 : 0 ≤ size) (z1 : size ≤ 65536) :
    Calls Try.prog 48 #[.slice p n c, .int .i64 size] w fun E w' => E = .returned (.bool (mayF size 0 L)) ∧ Below w.heap.size w w' := by
  have HL := Hid.in hn
  have H1 := Hid.in hr
  obtain ⟨t, ht⟩ : ∃ t, t = mayF size 0 L := ⟨_, rfl⟩
  rw [← ht]
  have HT := Hid.in ht
  clear hn hr ht
  go_enter Try.func48, Try.ntmps48
  go_wp2_with fail
  go_loopw [5, 11] (fun ve vi wr => ∃ (k : Nat) (e : Int), vi = .int .i64 k ∧ ve = .int .i64 e ∧ k ≤ n ∧ 0 ≤ e ∧ e ≤ 65536 ∧ t = mayF size e (L.drop k) ∧ Below w.heap.size w wr) (fun _ vi _ => n - (intOf vi).toNat)
  case atStart => exact ⟨0, 0, rfl, rfl, Nat.zero_le _, Int.le_refl _, by decide, HT.out, below_self _⟩
  case round =>
    obtain ⟨k, e, rfl, rfl, hk, e0, e1, htk, hb⟩ := hrel
    clear HT
    have HTK := Hid.in htk
    have HB := Hid.in hb
    clear htk hb
    by_cases hlt : k < n
    · have hk1 : k < L.length := by rw [HL.out]; exact hlt
      obtain ⟨b, o, rfl, hc⟩ := (H1.out.below HB.out) (by rw [List.length_map]; omega)
      obtain ⟨c0, c1, c2⟩ := cells3 hc k (by rw [List.length_map]; exact hk1)
      simp only [List.getElem_map, siV] at c0 c1 c2
      clear hc
      by_cases hbad : L[k].at_ < e ∨ size - 5 < L[k].at_ ∨ L[k].to_ < 0 ∨ 65536 < L[k].to_ ∨ L[k].to_ - (L[k].at_ + 5) < -4096 ∨ 4096 < L[k].to_ - (L[k].at_ + 5)
      · have HF : Hid (t = false) := by rw [HTK.out]; exact mayF_no hk1 hbad
        clear HTK
        generalize L[k] = x at *
        obtain ⟨xk, xa, xt⟩ := x
        simp only at c0 c1 c2 hbad
        by_cases g1 : xa < e
        · clear hbad
          go_wp2_with fail
          go_ret
          exact ⟨by rw [HF.out]; rfl, below_alloc HB.out _⟩
        · by_cases g2 : size - 5 < xa
          · clear hbad
            go_wp2_with fail
            go_ret
            exact ⟨by rw [HF.out]; rfl, below_alloc HB.out _⟩
          · by_cases g3 : xt < 0
            · clear hbad
              go_wp2_with fail
              go_ret
              exact ⟨by rw [HF.out]; rfl, below_alloc HB.out _⟩
            · by_cases g4 : 65536 < xt
              · clear hbad
                go_wp2_with fail
                go_ret
                exact ⟨by rw [HF.out]; rfl, below_alloc HB.out _⟩
              · by_cases g5 : xt - (xa + 5) < -4096
                · clear hbad
                  go_wp2_with fail
                  go_ret
                  exact ⟨by rw [HF.out]; rfl, below_alloc HB.out _⟩
                · have g6 : 4096 < xt - (xa + 5) := by omega
                  clear hbad
                  go_wp2_with fail
                  go_ret
                  exact ⟨by rw [HF.out]; rfl, below_alloc HB.out _⟩
      · have HF : Hid (t = mayF size (L[k].at_ + 5) (L.drop (k + 1))) := by rw [HTK.out]; exact mayF_yes hk1 hbad
        clear HTK
        generalize L[k] = x at *
        obtain ⟨xk, xa, xt⟩ := x
        simp only at c0 c1 c2 hbad HF
        have g1 : ¬ xa < e := by omega
        have g2 : ¬ size - 5 < xa := by omega
        have g3 : ¬ xt < 0 := by omega
        have g4 : ¬ 65536 < xt := by omega
        have g5 : ¬ xt - (xa + 5) < -4096 := by omega
        have g6 : ¬ 4096 < xt - (xa + 5) := by omega
        clear hbad
        go_wp2_with fail
        go_roundw
        case rel => exact ⟨k + 1, xa + 5, by go_num, rfl, by omega, by omega, by omega, HF.out, below_alloc HB.out _⟩
        case measure => simp [intOf]; omega
    · have HF : Hid (t = true) := by rw [HTK.out, List.drop_of_length_le (by rw [HL.out]; omega)]; exact rfl
      have hkn : k = n := by omega
      subst hkn
      clear HTK
      go_wp2_with fail
      go_ret
      exact ⟨by rw [HF.out]; rfl, HB.out⟩
end Go.Proofs.Ytekggimgobeggaa

/- slices.Clone, Start. -/
namespace Go.Proofs.Ytekggimgobeggaa
open Go.RowKit Go.Sort

theorem one_c3 (L : List Si) : ∀ u ∈ c3 (L.map siV), u.oneCell' = true := by rw [c3_siV]; exact one_siR L
theorem row3_news {w : World} {p : Option Addr} {L : List Si} (h : Row3 w p (L.map siV)) {ad : Addr} (hp : p = some ad) : ∀ j u, (c3 (L.map siV))[j]? = some u → w.cell? (ad.add j) = some u := by
  intro j u hj
  have hl : j < (c3 (L.map siV)).length := (List.getElem?_eq_some_iff.1 hj).1
  rw [c3_len] at hl
  obtain ⟨b, o, e, hc⟩ := h (by omega)
  rw [hp] at e
  injection e with e
  subst e
  rw [Go.WideShapes.add_plain]
  have h1 := hc (j / 3) (by omega) (j % 3) (Nat.mod_lt _ (by decide))
  have h2 := c3_at (L.map siV) (j / 3) (by omega) (j % 3) (Nat.mod_lt _ (by decide))
  rw [show j / 3 * 3 + j % 3 = j by omega, hj] at h2
  show w.cell? ⟨b, o + j, none⟩ = _
  rw [show o + j = o + j / 3 * 3 + j % 3 by omega, h1, h2]
/-- append of a whole list of sites to an empty one -/
theorem push_all {ops : Array Oper} {rest : List Oper} {o : Oper} {a : Act} {Q : Exit → Act → World → Prop} (w : World) (hgd : o.guard = none) (s x : Operand)
    (ho : o.op = .call { callee := .builtin .append, args := #[s, x], argTypes := #[49, 49] }) (B : Nat) (v : Value) (hs : a.eval s = v) (hown : TOwn 48 w B v [])
    (ad : Addr) (c : Nat) (L : List Si) (hx : a.eval x = .slice (some ad) L.length c) (hr : Row3 w (some ad) (L.map siV)) (hby : L.length * 24 ≤ 140737488355328) (hB : B ≤ w.heap.size)
    (h : ∀ v' w', TOwn 48 w' B v' (L.map siV) → (∀ w0, Below B w0 w → Below B w0 w') → wpList Try.prog ops Q rest (a.put o.dst v') w') :
    wpList Try.prog ops Q (o :: rest) a w := by
  obtain ⟨hu, z, hzc, hinfo⟩ := Try.elemSite
  obtain ⟨i0, hi, hz0, hz1, hz2⟩ := info_parts hinfo
  refine wpList_append_own w hgd s x 49 ho B 48 i0 z 3 24 hu hi hz0 hz1 hz2 hzc (by decide) v 0 (c3 []) hs hown ad L.length c (c3 (L.map siV)) hx (by rw [c3_len, List.length_map]) (row3_news hr rfl) (one_c3 L) (by unfold maxLen; omega) (by omega) hB ?_
  intro v' w' h2 h3 _
  refine h v' w' ?_ (fun w0 hb => hb.grown h3 hB fun k hk => (World.ownsRow.lt hown k hk).1)
  unfold TOwn
  rw [List.length_map]
  simpa [c3] using h2
theorem nil_yes (c : Nat) (W : World) : (binOp .eql 49 (.slice none 0 c) (.slice none 0 0)).run Try.prog W = .ok (.bool true) W := by kernel_rfl
theorem nil_no (ad : Addr) (n c : Nat) (W : World) : (binOp .eql 49 (.slice (some ad) n c) (.slice none 0 0)).run Try.prog W = .ok (.bool false) W := by kernel_rfl
set_option maxRecDepth 20000 in
set_option maxHeartbeats 1000000 in
theorem clone_any (p : Option Addr) (c : Nat) (L : List Si) (w : World) (hn : L.length * 24 ≤ 140737488355328) (hp : p = none → L = []) (hr : Row3 w p (L.map siV)) :
    Calls Try.prog 50 #[.slice p L.length c] w fun E w' => ∃ v, E = .returned v ∧ TOwn 48 w' w.heap.size v (L.map siV) ∧ Below w.heap.size w w' := by
  cases p with
  | none =>
    obtain rfl := hp rfl
    clear hn hr hp
    have hnl := fun W => nil_yes c W
    go_enter Try.func50, Try.ntmps50
    go_wp2_with fail
    go_ret
    exact ⟨_, rfl, TOwn.nil _ _ _, below_self _⟩
  | some ad =>
    have H1 := Hid.in hr
    clear hp hr
    have HO : Hid (TOwn 48 (w.alloc (.cells #[] 48)) w.heap.size (.slice (some ⟨w.heap.size, 0, none⟩) 0 0) []) :=
      ⟨rfl, .inr ⟨w.heap.size, 0, #[], rfl, Nat.le_refl _, Blk.new w 48 #[], Nat.le_refl _, Nat.zero_le _, rfl, rfl⟩⟩
    have H2 := Hid.in (H1.out.below (new_alloc w (.cells #[] 48)))
    have hnl := fun W => nil_no ad L.length c W
    go_enter Try.func50, Try.ntmps50
    go_wp2_with (refine push_all _ rfl _ _ rfl w.heap.size _ rfl HO.out ad c L rfl H2.out hn (by simp) ?_; intro v5 w5 hT5 hb5; have HT5 := Hid.in hT5; have HB5 := Hid.in (hb5 w (new_alloc w _)); clear hT5 hb5)
    go_ret
    exact ⟨_, rfl, HT5.out, HB5.out⟩
/-- what Start leaves and answers -/
def strP (s : PS) (L : List Si) (up : Bool) : PS × Int :=
  if s.ph ≠ 0 then (s, 310) else if mayF s.xs.length 0 L = true then ({ s with left := L, up := up, ph := 1, ct := ⟨L.length, 0, 0, 1, 0⟩ }, 0) else (s, 2)
theorem pat8 (mq rq bq : Nat) (lp vp : Option Addr) (lc vc : Nat) (s : PS) (L : List Si) (up : Bool) : ((((((((patA mq rq bq lp lc s).setIfInBounds 3 (.slice vp L.length vc)).setIfInBounds 4 (.bool up)).setIfInBounds 5 (.int .u8 1)).setIfInBounds 8 (.int .i64 L.length)).setIfInBounds 9 (.int .i64 0)).setIfInBounds 10 (.int .i64 0)).setIfInBounds 11 (.int .i64 1)).setIfInBounds 12 (.int .i64 0) = patA mq rq bq vp vc { s with left := L, up := up, ph := 1, ct := ⟨L.length, 0, 0, 1, 0⟩ } := by
  simp [patA]
def SrIs (w : World) (B pq mq mg rq bq : Nat) (a : PS × Int) : Ending → World → Prop := fun e w' => ∃ lp lc, e = .returned (.int .i64 a.2) ∧ PA w' B pq mq mg rq bq lp lc a.1 ∧ Keeps (GP pq mg rq bq) w w'
set_option maxRecDepth 20000 in
set_option maxHeartbeats 2000000 in
theorem pstart_any (B pq mq mg rq bq : Nat) (lp : Option Addr) (lc : Nat) (s : PS) (p : Option Addr) (c : Nat) (L : List Si) (up : Bool) (w : World) (h : PA w B pq mq mg rq bq lp lc s) (hB : B ≤ w.heap.size) (hxl : s.xs.length ≤ 65536) (hn : L.length * 24 ≤ 140737488355328) (hp : p = none → L = []) (hr : Row3 w p (L.map siV)) :
    Calls Try.prog 13 #[.pointer (some ⟨pq, 0, none⟩), .slice p L.length c, .bool up] w (SrIs w B pq mq mg rq bq (strP s L up)) := by
  have hnn := pnone_no pq bq w (h.c 2 rfl)
  have c5 : w.cell? ⟨pq, 5, none⟩ = some (.int .u8 s.ph) := h.c 5 rfl
  have c0 : w.cell? ⟨pq, 0, none⟩ = some (.pointer (some ⟨mq, 0, none⟩)) := h.c 0 rfl
  have HP := Hid.in h
  by_cases h0 : s.ph = 0
  · rw [h0] at c5
    have hlen := mlen_any mq mg B s.xs w h.mem
    have hturn := turn_any p L.length c L s.xs.length w rfl (by omega) hr (by omega) (by omega)
    cases hm : mayF s.xs.length 0 L
    · rw [hm] at hturn
      have HR : Hid (∀ w', Below w.heap.size w w' → SrIs w B pq mq mg rq bq (strP s L up) (.returned (.int .i64 2)) w') := fun w' hb => by
        unfold strP; rw [if_neg (fun hh => hh h0), if_neg (by rw [hm]; decide)]
        exact ⟨lp, lc, rfl, HP.out.below hb, Keeps.ofBelow hb⟩
      generalize SrIs w B pq mq mg rq bq (strP s L up) = R at *
      clear h hr hp hn hm
      go_enter Try.func13, Try.ntmps13
      go_wp2_with (go_at_call 40; refine Hid.out ?_)
      refine Lib.hid ?_
      refine hnn.mono ?_
      rintro e w1 ⟨rfl, hw⟩
      rw [hw]
      clear hw w1 hnn
      go_wp2_with (go_at_call 49; refine Hid.out ?_)
      refine Lib.hid ?_
      refine hlen.mono ?_
      rintro e w1 ⟨rfl, hw⟩
      rw [hw]
      clear hw w1 hlen
      go_wp2_with (go_at_call 48; refine Hid.out ?_)
      refine Lib.hid ?_
      refine hturn.mono ?_
      rintro e w1 ⟨rfl, hb⟩
      have HB1 := Hid.in hb
      clear hb hturn
      go_wp2_with fail
      exact HR.out _ HB1.out
    · rw [hm] at hturn
      have HR : Hid (∀ w' lp' lc', PA w' B pq mq mg rq bq lp' lc' { s with left := L, up := up, ph := 1, ct := ⟨L.length, 0, 0, 1, 0⟩ } → Keeps (GP pq mg rq bq) w w' → SrIs w B pq mq mg rq bq (strP s L up) (.returned (.int .i64 0)) w') := fun w' lp' lc' hP hk => by
        unfold strP; rw [if_neg (fun hh => hh h0), if_pos hm]
        exact ⟨lp', lc', rfl, hP, hk⟩
      generalize SrIs w B pq mq mg rq bq (strP s L up) = R at *
      have H1 := Hid.in hr
      clear h hr hm
      go_enter Try.func13, Try.ntmps13
      go_wp2_with (go_at_call 40; refine Hid.out ?_)
      refine Lib.hid ?_
      refine hnn.mono ?_
      rintro e w1 ⟨rfl, hw⟩
      rw [hw]
      clear hw w1 hnn
      go_wp2_with (go_at_call 49; refine Hid.out ?_)
      refine Lib.hid ?_
      refine hlen.mono ?_
      rintro e w1 ⟨rfl, hw⟩
      rw [hw]
      clear hw w1 hlen
      go_wp2_with (go_at_call 48; refine Hid.out ?_)
      refine Lib.hid ?_
      refine hturn.mono ?_
      rintro e w1 ⟨rfl, hb⟩
      have HB1 := Hid.in hb
      have HP1 := Hid.in (HP.out.below hb)
      clear hb hturn HP
      go_wp2_with (go_at_call 50; refine Hid.out ?_)
      refine Lib.hid ?_
      refine (clone_any p c L w1 hn hp (H1.out.below HB1.out)).mono ?_
      rintro e w2 ⟨v, rfl, ht, hb⟩
      have HB2 := Hid.in (below_step HB1.out hb)
      have HP2 := Hid.in (HP1.out.below hb)
      obtain ⟨vp, vc, hv, hvl, hvm, hrow⟩ := ht.rowS
      subst hv
      have HRW : Hid (RowS w2 B vp L) := fun h00 => by
        obtain ⟨b, o, cur, e, hBb, hbb, hc⟩ := hrow h00
        exact ⟨b, o, cur, e, Nat.le_trans (Nat.le_trans hB HB1.out.size) hBb, hbb, hc⟩
      clear hb ht HP1 HB1 hrow c0 c5
      have c3 : w2.cell? ⟨pq, 3, none⟩ = some (.slice lp s.left.length lc) := HP2.out.c 3 rfl
      have c4 : w2.cell? ⟨pq, 4, none⟩ = some (.bool s.up) := HP2.out.c 4 rfl
      have c5 : w2.cell? ⟨pq, 5, none⟩ = some (.int .u8 s.ph) := HP2.out.c 5 rfl
      have c8 : w2.cell? ⟨pq, 8, none⟩ = some (.int .i64 s.ct.si) := HP2.out.c 8 rfl
      have c9 : w2.cell? ⟨pq, 9, none⟩ = some (.int .i64 s.ct.wr) := HP2.out.c 9 rfl
      have c10 : w2.cell? ⟨pq, 10, none⟩ = some (.int .i64 s.ct.ro) := HP2.out.c 10 rfl
      have c11 : w2.cell? ⟨pq, 11, none⟩ = some (.int .i64 s.ct.st) := HP2.out.c 11 rfl
      have c12 : w2.cell? ⟨pq, 12, none⟩ = some (.int .i64 s.ct.wa) := HP2.out.c 12 rfl
      have f3 := HP2.out.f 3
      have f4 := HP2.out.f 4
      have f5 := HP2.out.f 5
      have f8 := HP2.out.f 8
      have f9 := HP2.out.f 9
      have f10 := HP2.out.f 10
      have f11 := HP2.out.f 11
      have f12 := HP2.out.f 12
      go_wp2_with fail
      have hg := ((((((((grown_setCell w2 pq 3 (.slice vp L.length vc)).trans (grown_setCell _ pq 4 (.bool up))).trans (grown_setCell _ pq 5 (.int .u8 1))).trans (grown_setCell _ pq 8 (.int .i64 L.length))).trans (grown_setCell _ pq 9 (.int .i64 0))).trans (grown_setCell _ pq 10 (.int .i64 0))).trans (grown_setCell _ pq 11 (.int .i64 1))).trans (grown_setCell _ pq 12 (.int .i64 0)))
      have hb8 := ((((((((HP2.out.pat.set 3 (.slice vp L.length vc)).set 4 (.bool up)).set 5 (.int .u8 1)).set 8 (.int .i64 L.length)).set 9 (.int .i64 0)).set 10 (.int .i64 0)).set 11 (.int .i64 1)).set 12 (.int .i64 0))
      rw [pat8] at hb8
      exact HR.out _ vp vc (HP2.out.setP (s' := { s with left := L, up := up, ph := 1, ct := ⟨L.length, 0, 0, 1, 0⟩ }) hb8 hg HRW.out hvl hvm rfl rfl rfl rfl) ((Keeps.ofBelow HB2.out).trans' (keepsP hg))
  · have HR : Hid (SrIs w B pq mq mg rq bq (strP s L up) (.returned (.int .i64 310)) w) := by
      unfold strP; rw [if_pos h0]; exact ⟨lp, lc, rfl, h, Keeps.refl _ _⟩
    generalize SrIs w B pq mq mg rq bq (strP s L up) = R at *
    clear h hr HP
    have g0 : ¬ (s.ph : Int) = 0 := by omega
    go_enter Try.func13, Try.ntmps13
    go_wp2_with (go_at_call 40; refine Hid.out ?_)
    refine Lib.hid ?_
    refine hnn.mono ?_
    rintro e w1 ⟨rfl, hw⟩
    rw [hw]
    clear hw hnn
    go_wp2_with fail
    exact HR.out
end Go.Proofs.Ytekggimgobeggaa

/- missing, New, Phase, Counts, Find, Copy. -/
namespace Go.Proofs.Ytekggimgobeggaa
open Go.RowKit Go.Sort

/-- no memory -/
def NoM (w : World) (p : Option Addr) : Prop := p = none ∨ ∃ q, p = some ⟨q, 0, none⟩ ∧ w.cell? ⟨q, 0, none⟩ = some (.bool false)
theorem mnone_any {w : World} {p : Option Addr} (h : NoM w p) : Calls Try.prog 55 #[.pointer p] w fun e w' => e = .returned (.bool true) ∧ w' = w := by
  rcases h with rfl | ⟨q, rfl, hc⟩
  · exact mnone_nil w
  · exact mnone_zero q w hc
set_option maxHeartbeats 1000000 in
theorem mread_none {w : World} {p : Option Addr} (h : NoM w p) (a n : Int) : Calls Try.prog 84 #[.pointer p, .int .i64 a, .int .i64 n] w fun e w' => e = .returned (.tuple #[.slice none 0 0, .int .i64 1]) ∧ w' = w := by
  have hn := mnone_any h
  clear h
  go_enter Try.func84, Try.ntmps84
  go_wp2_with (go_at_call 55; refine Hid.out ?_)
  refine Lib.hid ?_
  refine hn.mono ?_
  rintro e w1 ⟨rfl, hw⟩
  rw [hw]
  clear hw
  go_wp2_with fail
  go_ret2
  exact ⟨rfl, rfl⟩
set_option maxRecDepth 20000 in
set_option maxHeartbeats 1000000 in
theorem missing_no {w : World} {B mq mg rq : Nat} {xs : List Int} {fs : List Bool} {n : Int} (hm : Mem w B mq mg xs) (hr : Rnd w rq fs n) (hxl : xs.length ≤ 65536) :
    Calls Try.prog 52 #[.pointer (some ⟨mq, 0, none⟩), .pointer (some ⟨rq, 0, none⟩)] w fun e w' => e = .returned (.bool false) ∧ Below w.heap.size w w' := by
  have hrd := read_ok mq mg B 0 0 xs w hm (by omega) hxl
  have HR := Hid.in hr
  clear hm hr
  go_enter Try.func52, Try.ntmps52
  go_wp2_with (go_at_call 84; refine Hid.out ?_)
  refine Lib.hid ?_
  refine hrd.mono ?_
  rintro e w1 ⟨k, rfl, -, hb⟩
  have HB1 := Hid.in hb
  have HR1 := Hid.in (HR.out.below hb)
  clear hb hrd HR
  go_wp2_with (go_at_call 18; refine Hid.out ?_)
  refine Lib.hid ?_
  refine (rcopy_any rq fs n w1 HR1.out).mono ?_
  rintro e w2 ⟨rfl, -, hb⟩
  have HB2 := Hid.in (below_step HB1.out hb)
  clear hb
  go_wp2_with fail
  go_ret
  exact ⟨rfl, HB2.out⟩
set_option maxRecDepth 20000 in
set_option maxHeartbeats 1000000 in
theorem missing_m {w : World} {p : Option Addr} (h : NoM w p) (v : Value) :
    Calls Try.prog 52 #[.pointer p, v] w fun e w' => e = .returned (.bool true) ∧ Below w.heap.size w w' := by
  have hrd := mread_none h 0 0
  clear h
  go_enter Try.func52, Try.ntmps52
  go_wp2_with (go_at_call 84; refine Hid.out ?_)
  refine Lib.hid ?_
  refine hrd.mono ?_
  rintro e w1 ⟨rfl, hw⟩
  rw [hw]
  clear hw
  go_wp2_with fail
  go_ret
  exact ⟨rfl, below_self _⟩
set_option maxRecDepth 20000 in
set_option maxHeartbeats 1000000 in
theorem missing_r {w : World} {B mq mg : Nat} {xs : List Int} {p : Option Addr} (hm : Mem w B mq mg xs) (hr : NoR w p) (hxl : xs.length ≤ 65536) :
    Calls Try.prog 52 #[.pointer (some ⟨mq, 0, none⟩), .pointer p] w fun e w' => e = .returned (.bool true) ∧ Below w.heap.size w w' := by
  have hrd := read_ok mq mg B 0 0 xs w hm (by omega) hxl
  have HR := Hid.in hr
  clear hm hr
  go_enter Try.func52, Try.ntmps52
  go_wp2_with (go_at_call 84; refine Hid.out ?_)
  refine Lib.hid ?_
  refine hrd.mono ?_
  rintro e w1 ⟨k, rfl, -, hb⟩
  have HB1 := Hid.in hb
  have HR1 : Hid (NoR w1 p) := by
    rcases HR.out with rfl | ⟨q, rfl, hc⟩
    · exact .inl rfl
    · exact .inr ⟨q, rfl, (hb.cell (p := ⟨q, 0, none⟩) (cell_lt hc)).trans hc⟩
  clear hb hrd HR
  go_wp2_with (go_at_call 18; refine Hid.out ?_)
  refine Lib.hid ?_
  refine (ncopy HR1.out).mono ?_
  rintro e w2 ⟨rfl, hw⟩
  rw [hw]
  clear hw
  go_wp2_with fail
  go_ret
  exact ⟨rfl, HB1.out⟩
/-- a patcher that New makes -/
def newP (xs : List Int) (fs : List Bool) (n : Int) : PS := ⟨[], false, 0, 0, 0, ⟨0, 0, 0, 0, 0⟩, [], xs, fs, n⟩
set_option maxRecDepth 20000 in
set_option maxHeartbeats 1000000 in
theorem pnew_ok {w : World} {B mq mg rq : Nat} {xs : List Int} {fs : List Bool} {n : Int} (hm : Mem w B mq mg xs) (hr : Rnd w rq fs n) (hxl : xs.length ≤ 65536) (hB : B ≤ rq) (hBw : B ≤ w.heap.size) :
    Calls Try.prog 15 #[.pointer (some ⟨mq, 0, none⟩), .pointer (some ⟨rq, 0, none⟩)] w fun e w' => ∃ pq bq, e = .returned (.tuple #[.pointer (some ⟨pq, 0, none⟩), .int .i64 0]) ∧ PA w' B pq mq mg rq bq none 0 (newP xs fs n) ∧ Below w.heap.size w w' ∧ w.heap.size ≤ pq ∧ w.heap.size ≤ bq := by
  have hms := missing_no hm hr hxl
  have HM := Hid.in hm
  have HR := Hid.in hr
  clear hm hr
  go_enter Try.func15, Try.ntmps15
  go_wp2_with (go_at_call 52; refine Hid.out ?_)
  refine Lib.hid ?_
  refine hms.mono ?_
  rintro e w1 ⟨rfl, hb⟩
  have HB1 := Hid.in hb
  have HM1 := Hid.in (HM.out.below hb)
  have HR1 := Hid.in (HR.out.below hb)
  clear hb hms HM HR
  go_wp2_with (go_at_call 53; refine Hid.out ?_)
  refine Lib.hid ?_
  refine (bnew_any w1).mono ?_
  rintro e w2 ⟨rfl, hb2, hl2⟩
  have HT2 := Hid.in hb2
  have HB2 := Hid.in (below_step HB1.out hl2)
  have HM2 := Hid.in (HM1.out.below hl2)
  have HR2 := Hid.in (HR1.out.below hl2)
  have HZ : Hid (w.heap.size ≤ w1.heap.size) := HB1.out.size
  have HZ2 : Hid (w.heap.size ≤ w2.heap.size) := HB2.out.size
  clear hb2 hl2 HB1 HM1 HR1
  go_wp2_with fail
  go_ret2
  refine ⟨w2.heap.size, w1.heap.size, rfl, ?_, below_alloc HB2.out _, HZ2.out, HZ.out⟩
  have hl := new_alloc w2 (.cells (patA mq rq w1.heap.size none 0 (newP xs fs n)) 99)
  exact ⟨Blk.new w2 99 (patA mq rq w1.heap.size none 0 (newP xs fs n)), RowS.nil _ _ _, Nat.le_refl _, Nat.zero_le _, HM2.out.below hl, HR2.out.below hl, HT2.out.below hl, Nat.le_trans hBw HZ2.out, hB, Nat.le_trans hBw HZ.out⟩
set_option maxHeartbeats 1000000 in
theorem pnew_no {w : World} {v u : Value} (h : Calls Try.prog 52 #[v, u] w fun e w' => e = .returned (.bool true) ∧ Below w.heap.size w w') :
    Calls Try.prog 15 #[v, u] w fun e w' => e = .returned (.tuple #[.pointer none, .int .i64 1]) ∧ Below w.heap.size w w' := by
  go_enter Try.func15, Try.ntmps15
  go_wp2_with (go_at_call 52; refine Hid.out ?_)
  refine Lib.hid ?_
  refine h.mono ?_
  rintro e w1 ⟨rfl, hb⟩
  have HB1 := Hid.in hb
  clear hb h
  go_wp2_with fail
  go_ret2
  exact ⟨rfl, HB1.out⟩
set_option maxHeartbeats 1000000 in
theorem pphase_any {w : World} {B pq mq mg rq bq : Nat} {lp : Option Addr} {lc : Nat} {s : PS} (h : PA w B pq mq mg rq bq lp lc s) :
    Calls Try.prog 9 #[.pointer (some ⟨pq, 0, none⟩)] w fun e w' => e = .returned (.int .u8 s.ph) ∧ w' = w := by
  have hnn := pnone_no pq bq w (h.c 2 rfl)
  have c5 : w.cell? ⟨pq, 5, none⟩ = some (.int .u8 s.ph) := h.c 5 rfl
  clear h
  go_enter Try.func9, Try.ntmps9
  go_wp2_with (go_at_call 40; refine Hid.out ?_)
  refine Lib.hid ?_
  refine hnn.mono ?_
  rintro e w1 ⟨rfl, hw⟩
  rw [hw]
  clear hw
  go_wp2_with fail
  go_ret
  exact ⟨rfl, rfl⟩
abbrev ctA (c : Ct) : Array Value := #[.int .i64 c.si, .int .i64 c.wr, .int .i64 c.ro, .int .i64 c.st, .int .i64 c.wa]
theorem res12 {tmps : Array Value} {W : World} {R : Nat} {c : Ct} (h : Blk W R 45 (ctA c)) (h2 : tmps.getD 2 undef = .pointer (some ⟨R, 0, none⟩)) :
    (results Try.f12 tmps).run Try.prog W = .ok (.agg (ctA c)) W := by
  have hld := run_loadVar_mid (P := Try.prog) W R 0 45 (ctA c).toList _ h.range Try.underlying45 rfl (by kernel_rfl)
  simp only [Array.getD_eq_getD_getElem?] at h2
  simp [results, asAddr, hld, h2]
set_option maxHeartbeats 1000000 in
theorem pcounts_any {w : World} {B pq mq mg rq bq : Nat} {lp : Option Addr} {lc : Nat} {s : PS} (h : PA w B pq mq mg rq bq lp lc s) :
    Calls Try.prog 12 #[.pointer (some ⟨pq, 0, none⟩)] w fun e w' => e = .returned (.agg (ctA s.ct)) ∧ Below w.heap.size w w' := by
  obtain ⟨w1, hw1⟩ : ∃ w1, w1 = w.alloc (.cells #[.int .i64 0, .int .i64 0, .int .i64 0, .int .i64 0, .int .i64 0] 45) := ⟨_, rfl⟩
  have h1 : PA w1 B pq mq mg rq bq lp lc s := by rw [hw1]; exact h.below (new_alloc _ _)
  have HX : Hid (Blk w1 w.heap.size 45 #[.int .i64 0, .int .i64 0, .int .i64 0, .int .i64 0, .int .i64 0]) := by rw [hw1]; exact Blk.new _ _ _
  have HB : Hid (Below w.heap.size w w1) := by rw [hw1]; exact new_alloc _ _
  have hnn := pnone_no pq bq w1 (h1.c 2 rfl)
  have c8 : w1.cell? ⟨pq, 8, none⟩ = some (.int .i64 s.ct.si) := h1.c 8 rfl
  have c9 : w1.cell? ⟨pq, 9, none⟩ = some (.int .i64 s.ct.wr) := h1.c 9 rfl
  have c10 : w1.cell? ⟨pq, 10, none⟩ = some (.int .i64 s.ct.ro) := h1.c 10 rfl
  have c11 : w1.cell? ⟨pq, 11, none⟩ = some (.int .i64 s.ct.st) := h1.c 11 rfl
  have c12 : w1.cell? ⟨pq, 12, none⟩ = some (.int .i64 s.ct.wa) := h1.c 12 rfl
  have HW := Hid.in hw1
  clear h h1 hw1
  go_enter Try.func12, Try.ntmps12
  go_wp2_with (go_at_call 40; refine Hid.out ?_)
  refine Lib.hid ?_
  rw [← HW.out]
  refine hnn.mono ?_
  rintro e w2 ⟨rfl, hw⟩
  rw [hw]
  clear hw hnn
  go_wp2_with (refine step_store_blk HX.out rfl 45 _ _ rfl rfl rfl (ctA s.ct) rfl (by kernel_rfl) rfl (by kernel_rfl) ?_; intro w3 hb3 hg3; refine Hid.out ?_)
  refine Lib.hid ?_
  have HB3 := Hid.in hb3
  have HG3 := Hid.in (HB.out.trans (below_grown hg3 (Nat.le_refl _) HB.out.size))
  clear hb3 hg3
  go_wp2_with fail
  exact bodyPost_ret (v := .agg (ctA s.ct)) (res12 HB3.out rfl) rfl ⟨rfl, HG3.out⟩
end Go.Proofs.Ytekggimgobeggaa

/- Find, Copy. -/
namespace Go.Proofs.Ytekggimgobeggaa
open Go.RowKit Go.Sort

/-- where a site's new instruction leads -/
def leadS (x : Si) : Int := if x.key = 1 then x.to_ else x.at_ + 5
/-- what Find answers -/
def fndP (L : List Si) (a : Int) : Int × Bool := if fndB L a = true then (leadS (L.getD (fndI L a) ⟨0, 0, 0⟩), true) else (0, false)
set_option maxRecDepth 20000 in
set_option maxHeartbeats 1000000 in
theorem leads_any (x : Si) (w : World) (hx : SiB x) : Calls Try.prog 58 #[.agg (siA x)] w fun e w' => e = .returned (.int .u32 (leadS x)) ∧ Below w.heap.size w w' := by
  obtain ⟨k, a, t⟩ := x
  obtain ⟨a0, a1, t0, t1⟩ := hx
  simp only at a0 a1 t0 t1
  by_cases hk : k = 1
  · subst hk
    have HN : Hid (leadS ⟨1, a, t⟩ = t) := if_pos rfl
    have hz : IntKind.u32.wrap t = t := by rw [IntKind.wrap_u32]; omega
    go_enter Try.func58, Try.ntmps58
    go_wp2_with fail
    go_ret
    exact ⟨by rw [HN.out]; rfl, new_alloc _ _⟩
  · have HN : Hid (leadS ⟨k, a, t⟩ = a + 5) := if_neg hk
    have hz : IntKind.u32.wrap (a + 5) = a + 5 := by rw [IntKind.wrap_u32]; omega
    go_enter Try.func58, Try.ntmps58
    go_wp2_with fail
    go_ret
    exact ⟨by rw [HN.out]; rfl, new_alloc _ _⟩
theorem fnd_in {A : List Si} {a : Int} (h : fndB A a = true) : fndI A a < A.length := by
  unfold fndI
  rw [if_pos h]
  obtain ⟨i, hi, e⟩ := (fndB_iff A a).1 h
  exact List.findIdx_lt_length.2 ⟨A[i], List.getElem_mem hi, by simpa using e⟩
set_option maxRecDepth 20000 in
set_option maxHeartbeats 1000000 in
theorem pfind_any {w : World} {B pq mq mg rq bq : Nat} {lp : Option Addr} {lc : Nat} {s : PS} (h : PA w B pq mq mg rq bq lp lc s) (hb : BtOk s.bt) (a : Int) (a0 : 0 ≤ a) (a1 : a ≤ 4294967295) :
    Calls Try.prog 19 #[.pointer (some ⟨pq, 0, none⟩), .int .u32 a] w fun e w' => e = .returned (.tuple #[.int .u32 (fndP s.bt a).1, .bool (fndP s.bt a).2]) ∧ Below w.heap.size w w' := by
  have hnn := pnone_no pq bq w (h.c 2 rfl)
  have c2 : w.cell? ⟨pq, 2, none⟩ = some (.pointer (some ⟨bq, 0, none⟩)) := h.c 2 rfl
  have hf := bfind_any bq s.bt a w h.bat
  have HP := Hid.in h
  have HSB : Hid (∀ i (hi : i < s.bt.length), SiB s.bt[i]) := fun i hi => hb.sib h.bat.srt i hi
  clear h hb
  cases hfb : fndB s.bt a
  · rw [hfb] at hf
    have HV : Hid (fndP s.bt a = (0, false)) := if_neg (by rw [hfb]; decide)
    obtain ⟨va, vb, hv⟩ : ∃ va vb, fndP s.bt a = (va, vb) := ⟨_, _, rfl⟩
    rw [hv] at HV ⊢
    have HV2 := HV.out
    simp only [Prod.mk.injEq] at HV2
    obtain ⟨rfl, rfl⟩ := HV2
    clear hv HV hfb
    go_enter Try.func19, Try.ntmps19
    go_wp2_with (go_at_call 40; refine Hid.out ?_)
    refine Lib.hid ?_
    refine hnn.mono ?_
    rintro e w1 ⟨rfl, hw⟩
    rw [hw]
    clear hw w1 hnn
    go_wp2_with (go_at_call 57; refine Hid.out ?_)
    refine Lib.hid ?_
    refine hf.mono ?_
    rintro e w1 ⟨rfl, nn, hw⟩
    have HB : Hid (Below w.heap.size w w1) := by rw [hw]; exact below_draws (below_self _) _
    clear hw hf
    generalize fndI s.bt a = fi at *
    go_wp2_with fail
    go_ret2
    exact ⟨rfl, HB.out⟩
  · rw [hfb] at hf
    have hfl := fnd_in hfb
    obtain ⟨x, hx⟩ : ∃ x, x = s.bt[fndI s.bt a] := ⟨_, rfl⟩
    have HV : Hid (fndP s.bt a = (leadS x, true)) := by
      show fndP s.bt a = _
      unfold fndP
      rw [if_pos hfb, hx]
      simp [List.getD, hfl]
    have HXB : Hid (SiB x) := by rw [hx]; exact HSB.out _ hfl
    generalize fndI s.bt a = fi at *
    rw [HV.out]
    clear HV hfb HSB
    go_enter Try.func19, Try.ntmps19
    go_wp2_with (go_at_call 40; refine Hid.out ?_)
    refine Lib.hid ?_
    refine hnn.mono ?_
    rintro e w1 ⟨rfl, hw⟩
    rw [hw]
    clear hw w1 hnn
    go_wp2_with (go_at_call 57; refine Hid.out ?_)
    refine Lib.hid ?_
    refine hf.mono ?_
    rintro e w1 ⟨rfl, nn, hw⟩
    have HB : Hid (Below w.heap.size w w1) := by rw [hw]; exact below_draws (below_self _) _
    have HP1 := Hid.in (HP.out.below HB.out)
    have c2' : w1.cell? ⟨pq, 2, none⟩ = some (.pointer (some ⟨bq, 0, none⟩)) := HP1.out.c 2 rfl
    clear hw hf HP c2
    go_wp2_with (go_at_call 59; refine Hid.out ?_)
    refine Lib.hid ?_
    refine (ball_any bq s.bt w1 HP1.out.bat).mono ?_
    rintro e w2 ⟨v, rfl, ht, hb2⟩
    obtain ⟨p1, q1, hv, -, -, hrow⟩ := ht.rowS
    subst hv
    have HB2 := Hid.in (below_step HB.out hb2)
    obtain ⟨b, o, cur, rfl, -, -, hc⟩ := hrow (by omega)
    have d0 : w2.cell? ⟨b, o + fi * 3, none⟩ = some (.int .i64 x.key) := by have := hc fi hfl 0 (by decide); rw [← hx] at this; exact this
    have d1 : w2.cell? ⟨b, o + fi * 3 + 1, none⟩ = some (.int .i64 x.at_) := by have := hc fi hfl 1 (by decide); rw [← hx] at this; exact this
    have d2 : w2.cell? ⟨b, o + fi * 3 + 2, none⟩ = some (.int .i64 x.to_) := by have := hc fi hfl 2 (by decide); rw [← hx] at this; exact this
    clear ht hb2 hc hrow hx HP1 HB c2'
    go_wp2_with (go_at_call 58; refine Hid.out ?_)
    refine Lib.hid ?_
    refine (leads_any x w2 HXB.out).mono ?_
    rintro e w3 ⟨rfl, hb3⟩
    have HB3 := Hid.in (below_step HB2.out hb3)
    clear hb3
    go_wp2_with fail
    go_ret2
    exact ⟨rfl, HB3.out⟩
end Go.Proofs.Ytekggimgobeggaa
