/- Texts put together: QSink, RMkB. -/
import Derived.Test.YtkianldkbfjehaaGreatDoorKzzg
import Derived.Test.YtkianldkbfjehaaGreatDoorMp
import Derived.Test.YtkianldkbfjehaaGreatDoorKzzf
import Derived.Deep.RegionHeld3
import Derived.BigQuiet
import Derived.Deep.QuietTactic

/- A region that draws its order: operations that only read are taken first; behind those that wait for all of them nothing need be kept. -/
namespace Go.Proofs.YtkianldkbfjehaaGreatDoor
open Go.RowKit Go.Sort

section
variable {P : Program} {ops : Array Oper} {md : Region.Mode} {S : World → Prop} {Q : Exit → Act → World → Prop} {ex : List Nat}
/-- whatever order is picked, and every operation but those of ex keeps S -/
def wpAnyG (P : Program) (md : Region.Mode) (ops : Array Oper) (Q : Exit → Act → World → Prop) (S : World → Prop) (ex : List Nat) : Nat → Array Bool → Act → World → Prop
  | 0, listed, a, w => Region.ready md ops listed = [] ∧ Q .normal a w
  | fuel + 1, listed, a, w =>
    (Region.ready md ops listed = [] → Q .normal a w) ∧
    ∀ i ∈ Region.ready md ops listed, wpOp P ops Q i (fun a' w' => (ex.contains i = false → S w → S w') ∧ wpAnyG P md ops Q S ex fuel (listed.setIfInBounds i true) a' w') a w
theorem wpAny_of_G : ∀ (fuel : Nat) (listed : Array Bool) (a : Act) (w : World), wpAnyG P md ops Q S ex fuel listed a w → wpAny P md ops Q fuel listed a w
  | 0, _, _, _, h => h
  | fuel + 1, _, _, _, h => ⟨h.1, fun i hi => wpOp_mono (fun a' w' h' => wpAny_of_G fuel _ a' w' h'.2) (h.2 i hi)⟩
/-- what has come up: with each operation those that it waits for -/
def Closed (md : Region.Mode) (ops : Array Oper) (listed : Array Bool) : Prop := ∀ j o, ops[j]? = some o → listed.getD j false = true → ∀ e ∈ o.after, Region.binds md e = true → listed.getD e.on false = true
theorem Closed.set {listed : Array Bool} {j : Nat} (h : Closed md ops listed) (hj : j ∈ Region.ready md ops listed) : Closed md ops (listed.setIfInBounds j true) := by
  intro k o ho hk e he hb
  obtain ⟨h0, oj, hoj, hall⟩ := mem_ready.1 hj
  by_cases hjk : j = k
  · subst hjk
    rw [hoj] at ho
    injection ho with ho
    subst ho
    exact getD_set_true (hall e he hb)
  · rw [getD_set_ne false hjk] at hk
    exact getD_set_true (h k o ho hk e he hb)
theorem Closed.start (m : Nat) : Closed md ops (Array.replicate m false) := fun j o _ hj => by
  have : (Array.replicate m false).getD j false = false := by
    simp only [Array.getD_eq_getD_getElem?, Array.getElem?_replicate]
    split <;> rfl
  rw [this] at hj
  cases hj
/-- operation n waits for i -/
def waits (md : Region.Mode) (ops : Array Oper) (i : Nat) : Nat → Nat → Bool
  | 0, _ => false
  | f + 1, n => match ops[n]? with
    | none => false
    | some o => o.after.toList.any fun e => Region.binds md e && (e.on == i || waits md ops i f e.on)
theorem waits_listed {listed : Array Bool} {i : Nat} (hc : Closed md ops listed) : ∀ (f n : Nat), waits md ops i f n = true → (∀ o, ops[n]? = some o → ∀ e ∈ o.after, Region.binds md e = true → listed.getD e.on false = true) → listed.getD i false = true
  | 0, _, h, _ => by simp [waits] at h
  | f + 1, n, h, hd => by
    unfold waits at h
    cases ho : ops[n]? with
    | none => rw [ho] at h; simp at h
    | some o =>
      rw [ho] at h
      simp only [List.any_eq_true, Bool.and_eq_true, Bool.or_eq_true, beq_iff_eq] at h
      obtain ⟨e, he', hb, h1 | h1⟩ := h
      all_goals have he : e ∈ o.after := by simpa using he'
      · rw [← h1]; exact hd o ho e he hb
      · exact waits_listed hc f e.on h1 (fun o' ho' => hc e.on o' ho' (hd o ho e he hb))
theorem waits_not {listed : Array Bool} {i n f : Nat} (hc : Closed md ops listed) (h : waits md ops i f n = true) (hn : n ∈ Region.ready md ops listed) (hi : i ∈ Region.ready md ops listed) : False := by
  obtain ⟨_, o, ho, hall⟩ := mem_ready.1 hn
  have h1 := waits_listed hc f n h (fun o' ho' => by rw [ho] at ho'; injection ho' with ho'; subst ho'; exact hall)
  have h2 := (mem_ready.1 hi).1
  rcases Nat.lt_or_ge i listed.size with h' | h'
  · simp [h'] at h1 h2; rw [h1] at h2; cases h2
  · simp [Array.getElem?_eq_none h'] at h1
theorem wpAnyG_first {T : World → Prop} {i : Nat} {oi : Oper} {v : Value} (hi : ops[i]? = some oi) (hsel : ∀ (j : Nat) (o : Oper) cs b, ops[j]? = some o → o.op ≠ .select cs b)
    (hQ : ∀ c a w, Q (.panic c) (a.put oi.dst v) w → Q (.panic c) a w)
    (hT : ∀ (listed : Array Bool) (j : Nat) (w w' : World), Closed md ops listed → j ∈ Region.ready md ops listed → i ∈ Region.ready md ops listed → T w → (ex.contains j = false → S w → S w') → T w') :
    ∀ (fuel : Nat) (listed : Array Bool) (a : Act) (w : World), Closed md ops listed →
      (∀ j oj, ops[j]? = some oj → j ≠ i → listed.getD j true = false → (∀ e ∈ oj.after, Region.binds md e = true → e.on ≠ i) → oi.apart ops oj = true) →
      i ∈ Region.ready md ops listed → YieldsIf P ops T oi v a → T w →
      wpAnyG P md ops Q S ex fuel (listed.setIfInBounds i true) (a.put oi.dst v) w → wpAnyG P md ops Q S ex (fuel + 1) listed a w := by
  intro fuel
  induction fuel with
  | zero =>
    intro listed a w hc _ hr hy hS H
    refine ⟨fun h => (by rw [h] at hr; cases hr), fun j hj => ?_⟩
    by_cases hji : j = i
    · subst hji; exact hy.wpOp hi hS ⟨fun _ h => h, H⟩
    · have := ready_mono hj hji
      rw [H.1] at this
      cases this
  | succ fuel ih =>
    intro listed a w hc hfree hr hy hS H
    refine ⟨fun h => (by rw [h] at hr; cases hr), fun j hj => ?_⟩
    by_cases hji : j = i
    · subst hji; exact hy.wpOp hi hS ⟨fun _ h => h, H⟩
    · have h1 := H.2 j (ready_mono hj hji)
      obtain ⟨hjun, oj, hoj, hall⟩ := mem_ready.1 hj
      have hnot : ∀ e ∈ oj.after, Region.binds md e = true → e.on ≠ i := fun e he hb heq => by
        have h1 := hall e he hb
        have h0 := (mem_ready.1 hr).1
        rw [heq] at h1
        rcases Nat.lt_or_ge i listed.size with h' | h'
        · simp [h'] at h0 h1; rw [h0] at h1; cases h1
        · simp [Array.getElem?_eq_none h'] at h1
      have h2 := wpOp_putIf hoj (hfree j oj hoj hji hjun hnot) (fun cs b => hsel i oi cs b hi) (fun cs b => hsel j oj cs b hoj) hQ hy h1
      have hfree' : ∀ k ok, ops[k]? = some ok → k ≠ i → (listed.setIfInBounds j true).getD k true = false →
          (∀ e ∈ ok.after, Region.binds md e = true → e.on ≠ i) → oi.apart ops ok = true := fun k ok hk hki hun hno => by
        refine hfree k ok hk hki ?_ hno
        by_cases hjk : j = k
        · subst hjk; exact hjun
        · rw [getD_set_ne true hjk] at hun; exact hun
      refine wpOp_mono (fun a' w' h3 => ⟨h3.2.1, ih (listed.setIfInBounds j true) a' w' (hc.set hj) hfree' (ready_mono hr (Ne.symm hji)) h3.1 (hT listed j w w' hc hj hr hS h3.2.1) ?_⟩) h2
      rw [Array.setIfInBounds_comm _ _ hji]
      exact h3.2.2
/-- the operations that are taken first, in the order of the list -/
def pickUp (md : Region.Mode) (ops : Array Oper) (ex : List Nat) : List Nat → Array Bool → Bool
  | [], _ => true
  | i :: is, listed => (Region.ready md ops listed).contains i && Region.free md ops listed i && (ex.all fun n => waits md ops i ops.size n) && pickUp md ops ex is (listed.setIfInBounds i true)
def picked : List Nat → Array Bool → Array Bool
  | [], listed => listed
  | i :: is, listed => picked is (listed.setIfInBounds i true)
theorem Closed.picked {ex : List Nat} : ∀ (is : List Nat) (listed : Array Bool), pickUp md ops ex is listed = true → Closed md ops listed → Closed md ops (picked is listed)
  | [], _, _, h => h
  | i :: is, listed, hB, h => by
    simp only [pickUp, Bool.and_eq_true] at hB
    exact Closed.picked is _ hB.2 (h.set (by simpa using hB.1.1.1))
theorem wpAnyG_pick (hs : Region.noSelect ops = true) (hQ : ∀ c a d v w, Q (.panic c) (Act.put a d v) w → Q (.panic c) a w) (m : Nat) :
    ∀ (is : List Nat) (l : List Oper) (listed : Array Bool) (a : Act) (w : World), is.length = l.length → (∀ j, j < l.length → l[j]? = (is[j]?).bind fun i => ops[i]?) → l.all plainOp = true → pickUp md ops ex is listed = true → Closed md ops listed → S w →
      wpQuiet P ops S (fun a' => ∀ w', S w' → wpAnyG P md ops Q S ex m (picked is listed) a' w') l a → wpAnyG P md ops Q S ex (l.length + m) listed a w
  | [], [], _, _, w, _, _, _, _, _, hC, h => by
    have := h w hC
    rw [List.length_nil, Nat.zero_add]
    exact this
  | [], _ :: _, _, _, _, hl, _, _, _, _, _, _ => by simp at hl
  | _ :: _, [], _, _, _, hl, _, _, _, _, _, _ => by simp at hl
  | i :: is, o :: l, listed, a, w, hlen, hl, hp, hB, hcl, hC, h => by
    have h0 : ops[i]? = some o := by simpa using (hl 0 (by simp)).symm
    simp only [pickUp, Bool.and_eq_true] at hB
    obtain ⟨⟨⟨hr, hf⟩, hw⟩, hB'⟩ := hB
    rw [List.all_cons, Bool.and_eq_true] at hp
    have hst : qOp P ops S i (wpQuiet P ops S (fun a' => ∀ w', S w' → wpAnyG P md ops Q S ex m (picked (i :: is) listed) a' w') l) a := by unfold qOp; simp only [h0]; exact h
    obtain ⟨v, hy, hK⟩ := yieldsIn_of_qOp h0 hst
    have hri : i ∈ Region.ready md ops listed := by simpa using hr
    rw [List.length_cons, show l.length + 1 + m = l.length + m + 1 by omega]
    refine wpAnyG_first (T := S) h0 (Region.noSelect_spec hs) (fun c a w => hQ c a _ _ w) (fun listed' j w0 w' hc hj hi' hS0 hx => ?_) (l.length + m) listed a w hcl (Region.free_spec h0 hf) hri (yieldsIf_of_plain hp.1 hy) hC
      (wpAnyG_pick hs hQ m is l _ _ w (by simpa using hlen) (fun j hj => by have := hl (j + 1) (by simpa using hj); simpa using this) hp.2 hB' (hcl.set hri) hC hK)
    cases hxj : ex.contains j with
    | false => exact hx hxj hS0
    | true =>
      have hm : j ∈ ex := by simpa using hxj
      exact (waits_not hc (List.all_eq_true.1 hw j hm) hj hi').elim
/-- **the first n operations only read, in the worlds in which of what was there nothing has turned; the rest in whatever order; behind those of ex nothing is kept** -/
theorem wp_region_sink (n : Nat) (ex : List Nat) (m : Nat) {id : Nat} {a : Act} {w : World} {l : List Oper} (hm : P.follows .mixedOrders = true) (hs : Region.noSelect l.toArray = true) (hn : (l.length == n + m) = true) (hp : (l.take n).all plainOp = true)
    (hB : pickUp .any l.toArray ex (List.range n) (Array.replicate l.length false) = true) (hQ : ∀ c a d v w, Q (.panic c) (Act.put a d v) w → Q (.panic c) a w)
    (h : wpQuiet P l.toArray (fun w' => ∃ p : Regrown, w' = grow (redrawn w p.d) p.os) (fun a' => ∀ w', (∃ p : Regrown, w' = grow (redrawn w p.d) p.os) → wpAnyG P .any l.toArray Q (fun w' => ∃ p : Regrown, w' = grow (redrawn w p.d) p.os) ex m (picked (List.range n) (Array.replicate l.length false)) a' w') (l.take n) a) :
    (Code.region id l.toArray true).wp P Q a w := by
  have hn' : l.length = n + m := by simpa using hn
  have hl : (l.take n).length = n := by rw [List.length_take]; omega
  have := wpAnyG_pick (P := P) (md := .any) (S := fun w' => ∃ p : Regrown, w' = grow (redrawn w p.d) p.os) (Q := Q) (ex := ex) hs hQ m (List.range n) (l.take n) (Array.replicate l.length false) a { w with drawn := w.drawn + 1 } (by rw [hl, List.length_range])
    (fun j hj => by rw [hl] at hj; simp [hj]) hp hB (Closed.start _) ⟨⟨w.drawn + 1, #[]⟩, by rw [grow_empty]; rfl⟩ h
  refine wp_region_any hm (wpAny_of_G (S := fun w' => ∃ p : Regrown, w' = grow (redrawn w p.d) p.os) (ex := ex) _ _ _ _ ?_)
  rw [hl, ← hn'] at this
  simpa using this
/-- one operation alone may come up -/
theorem wpAnyG_one {i : Nat} {o : Oper} {fuel : Nat} {listed : Array Bool} {a : Act} {w : World} (hr : Region.ready md ops listed = [i]) (ho : ops[i]? = some o)
    (h : ∀ K' : Act → World → Prop, Shut (∀ a w, S w → (S w → wpAnyG P md ops Q S ex fuel (listed.setIfInBounds i true) a w) → K' a w) → if Region.wanted o (yielded ops a.tmps) = true then Oper.wp P o a w K' Q else K' (a.put o.dst undef) w) :
    wpAnyG P md ops Q S ex (fuel + 1) listed a w := by
  refine ⟨fun h0 => absurd (hr ▸ h0) (by simp), fun j hj => ?_⟩
  rw [hr] at hj
  obtain rfl : j = i := by simpa using hj
  exact wpOp_step ho (fun K' hK => h K' (fun a w hS hW => hK a w ⟨fun _ _ => hS, hW hS⟩))
/-- .. and nothing is kept behind it -/
theorem wpAnyG_last {i : Nat} {o : Oper} {fuel : Nat} {listed : Array Bool} {a : Act} {w : World} (hr : Region.ready md ops listed = [i]) (ho : ops[i]? = some o) (hx : ex.contains i = true)
    (h : ∀ K' : Act → World → Prop, Shut (∀ a w, wpAnyG P md ops Q S ex fuel (listed.setIfInBounds i true) a w → K' a w) → if Region.wanted o (yielded ops a.tmps) = true then Oper.wp P o a w K' Q else K' (a.put o.dst undef) w) :
    wpAnyG P md ops Q S ex (fuel + 1) listed a w := by
  refine ⟨fun h0 => absurd (hr ▸ h0) (by simp), fun j hj => ?_⟩
  rw [hr] at hj
  obtain rfl : j = i := by simpa using hj
  exact wpOp_step ho (fun K' hK => h K' (fun a w hW => hK a w ⟨(fun e _ => by rw [hx] at e; cases e), hW⟩))
/-- an operation that no world turns is taken -/
theorem wpAnyG_takeW {i : Nat} {oi : Oper} {v : Value} {fuel : Nat} {listed : Array Bool} {a : Act} {w : World} (hi : ops[i]? = some oi) (hs : Region.noSelect ops = true) (hf : Region.free md ops listed i = true) (hr : (Region.ready md ops listed).contains i = true)
    (hQ : ∀ c a w, Q (.panic c) (a.put oi.dst v) w → Q (.panic c) a w) (hc : Closed md ops listed) (hw : Region.wanted oi (yielded ops a.tmps) = true) (hy : ∀ w, (execOp a.eval oi).run P w = .ok (.value v) w)
    (h : wpAnyG P md ops Q S ex fuel (listed.setIfInBounds i true) (a.put oi.dst v) w) : wpAnyG P md ops Q S ex (fuel + 1) listed a w :=
  wpAnyG_first (T := fun _ => True) hi (Region.noSelect_spec hs) hQ (fun _ _ _ _ _ _ _ _ _ => trivial) fuel listed a w hc (Region.free_spec hi hf) (by simpa using hr) (.inl ⟨hw, fun w _ => hy w⟩) trivial h
theorem wpAnyG_done {listed : Array Bool} {a : Act} {w : World} (hr : Region.ready md ops listed = []) (h : Q .normal a w) : ∀ fuel, wpAnyG P md ops Q S ex fuel listed a w
  | 0 => ⟨hr, h⟩
  | _ + 1 => ⟨fun _ => h, by rw [hr]; simp⟩
end

end Go.Proofs.YtkianldkbfjehaaGreatDoor

/- switchyardref06.Make, for every list of items. -/
namespace Go.Proofs.YtkianldkbfjehaaGreatDoor
open Go.RowKit

theorem wrap_small {a : Int} (h1 : -9223372036854775808 ≤ a) (h2 : a ≤ 9223372036854775807) : IntKind.i64.wrap a = a := by
  rw [IntKind.wrap_i64]; omega
theorem mid_len (xs : List Src) (k : Nat) : (midO xs k).sy.length ≤ xs.length ∧ (midO xs k).fx.length ≤ xs.length ∧ (midO xs k).mk_.length ≤ xs.length := by
  have ht : (xs.take k).length ≤ xs.length := by rw [List.length_take]; omega
  refine ⟨Nat.le_trans (sys_len _ _ _ ?_) ht, Nat.le_trans (fxs_len _ _) ht, Nat.le_trans (mks_len _ _) ht⟩
  rw [List.length_take, List.length_take, places_length]

set_option maxRecDepth 20000 in
set_option maxHeartbeats 40000000 in
theorem refMake_go (p : Option Addr) (n c : Nat) (xs : List Src) (w : World) (hn : xs.length = n) (hx : Items w p xs) (hl : layE xs = 0) :
    Calls Tryz.prog 9 #[.slice p n c] w (MakeIs xs w) := by
  obtain ⟨hck, hend⟩ := layE_ok hl
  obtain ⟨hl4, hmay⟩ := check_good hck
  have hn4 : n ≤ 4096 := by omega
  have hC := refCheck_any p n c xs (w.alloc (.cells noObj 29)) hn (by omega) (hx.below (new_alloc w _))
  have hP := fun W hX => refPlaces_any p n c xs W hn (by omega) hX
  have hY := fun W hX => refBytes_any p n c xs W hn (by omega) hX
  have hLb := fun W s hX => label_any p n c s xs W hn (by omega) hX
  have hpl : (placesL 0 xs).1.length = n := by rw [places_length, hn]
  have HLN : Hid ((nums (ints (placesL 0 xs).1)).length = n) := by
    rw [show (nums (ints (placesL 0 xs).1)).length = (placesL 0 xs).1.length by simp [nums, ints], hpl]; exact rfl
  have HPG : Hid (∀ k, k < n → (nums (ints (placesL 0 xs).1))[k]? = some (.int .i64 ((placesL 0 (xs.take k)).2 : Nat))) := fun k hk => by
    have := place_get xs 0 k (by omega)
    simp [nums, ints, this]
  have HPL : Hid (∀ k, (placesL 0 (xs.take k)).2 ≤ 65536) := fun k => Nat.le_trans (place_le xs 0 k) hend
  have h3 : placesI xs = ints (placesL 0 xs).1 := by unfold placesI; rw [if_pos hl]
  have h4 : bytesI xs = bytesL 0 xs := by unfold bytesI; rw [if_pos hl]
  have HX := Hid.in hx
  have HN := Hid.in hn
  have HMAY := Hid.in hmay
  have hB0 := Hid.in (Blk.new w 29 noObj)
  have HG1 : Hid (∀ i, dupAt 0 [] xs = some i → makeE xs = (170, i)) := fun i e => by unfold makeE; rw [if_neg (by rw [hck]; simp), if_neg (by rw [hl]; simp), e]
  have HG2 : Hid (dupAt 0 [] xs = none → ∀ i, undAt 0 (labN xs) xs = some i → makeE xs = (171, i)) := fun d i e => by
    unfold makeE; rw [if_neg (by rw [hck]; simp), if_neg (by rw [hl]; simp), d]; simp only; rw [e]
  have HG3 : Hid (dupAt 0 [] xs = none → undAt 0 (labN xs) xs = none → makeE xs = (0, 0)) := fun d e => by
    unfold makeE; rw [if_neg (by rw [hck]; simp), if_neg (by rw [hl]; simp), d]; simp only; rw [e]
  rw [hck] at hC
  unfold PlacesIs at hP
  rw [hl, h3] at hP
  unfold BytesIs at hY
  rw [hl, h4] at hY
  clear hck hl h3 h4 hmay hl4 hend hn hx hpl
  generalize (checkL xs).2 = r2 at *
  generalize nums (ints (placesL 0 xs).1) = pls at *
  generalize endI xs = r3 at *
  go_enter Tryz.func9, Tryz.ntmps9
  go_upto_region 10 with (first
    | (go_at_call 27; refine hC.mono ?_; rintro E w1 ⟨rfl, hb1⟩; have HK1 := Hid.in (hB0.out.grow hb1); have HB1 := Hid.in (below_step (new_alloc w _) hb1); clear hb1)
    | (go_at_call 28; refine (hP _ (HX.out.below HB1.out)).mono ?_; rintro E w2 ⟨v2, rfl, hv2, hb2⟩; obtain ⟨p2, c2, hpv, hr2, -, -⟩ := hv2.slice; rw [HLN.out] at hpv; subst hpv; have HR2 := Hid.in hr2; have HK2 := Hid.in (HK1.out.grow hb2); have HB2 := Hid.in (below_step HB1.out hb2); clear hb2 hv2 hr2)
    | (go_at_call 29; refine (hY _ (HX.out.below HB2.out)).mono ?_; rintro E w3 ⟨v3, rfl, hO3, hb3⟩; obtain ⟨p3, n3, c3, hv3⟩ := hO3.isSlice; subst hv3; have HO3 := Hid.in hO3; have HC3 := Hid.in hb3; clear hO3 hb3))
  clear hC hP hY hB0 HK1 HB1
  have HX2 := Hid.in (HX.out.below HB2.out)
  have HX3 := Hid.in (HX2.out.below HC3.out)
  have HK3 := Hid.in (HK2.out.grow HC3.out)
  have HB3 := Hid.in (below_step HB2.out HC3.out)
  have hL3 := fun s => hLb w3 s HX3.out
  go_wp2_with fail
  go_loop [10] (fun vi => ∃ k : Nat, vi = .int .i64 k ∧ k ≤ n ∧ dupAt 0 [] xs = dupAt k (labN (xs.take k)) (xs.drop k)) (fun vi => n - (intOf vi).toNat)
  case atStart => exact ⟨0, rfl, Nat.zero_le _, rfl⟩
  case round =>
    obtain ⟨k, rfl, hk, hrs⟩ := hrel
    have HRS := Hid.in hrs
    clear hrs
    by_cases hlt : k < n
    · as_aux_lemma =>
        have hkl : k < xs.length := by rw [HN.out]; exact hlt
        obtain ⟨b, o, rfl, hc⟩ := HX3.out (by omega)
        obtain ⟨qd, cq, hRg, -, hfit⟩ := hc k hkl
        have HGO := Hid.in (dup_go xs k hkl)
        have HHT := Hid.in (dup_hit xs k hkl)
        have i0 : w3.cell? ⟨b, o + k * 9, none⟩ = some (.int .u8 xs[k].k) := hRg 0 _ rfl
        have i1 : w3.cell? ⟨b, o + k * 9 + 1, none⟩ = some (.string xs[k].name) := hRg 1 _ rfl
        clear hc hRg hfit
        have hL4 := hL3 xs[k].name
        clear hL3 hLb
        generalize labR xs[k].name 0 xs = lr at *
        generalize xs[k] = y at *
        by_cases h1 : y.k = 1
        · rw [h1] at i0
          by_cases he : lr = k
          · have HV : Hid (dupAt 0 [] xs = dupAt (k + 1) (labN (xs.take (k + 1))) (xs.drop (k + 1))) := by
              have : dupAt 0 [] xs = dupAt (k + 1) (labN (xs.take (k + 1))) (xs.drop (k + 1)) := by rw [HRS.out, HGO.out (fun _ => he)]
              exact this
            subst he
            clear h1
            go_wp2_with (go_at_call 30; refine hL4.mono ?_; rintro E W ⟨rfl, rfl⟩)
            go_round
            case rel => exact ⟨k + 1, by go_num, by omega, HV.out⟩
            case measure => simp [intOf]; omega
          · have HV : Hid (makeE xs = (170, k)) := HG1.out k (by rw [HRS.out, HHT.out h1 he])
            have hb1 : (lr != (k : Int)) = true := by simpa using he
            have hb2 : decide (lr = (k : Int)) = false := decide_eq_false he
            clear h1
            go_wp2_with (first
              | (go_at_call 30; refine hL4.mono ?_; rintro E W ⟨rfl, rfl⟩)
              | (refine step_store_blk HK3.out rfl 29 (.tmp 2) (.tmp 72) rfl rfl rfl noObj rfl Tryz.sz29 rfl noObj_one ?_; intro w4 hK4 hg4; have HK4 := Hid.in hK4; have HG4 := Hid.in hg4; clear hK4 hg4))
            have hld := HK4.out.load 29 _ Tryz.underlying29 rfl Tryz.sz29
            exact bodyPost_ret (v := .tuple #[.agg noObj, .int .i64 170, .int .i64 k]) (by simp [results, Tryz.results9, asAddr, hld]) rfl (makeIs_err HV.out (by decide) (HB3.out.grown HG4.out HB3.out.size (fun k hk => by cases hk; exact Nat.le_refl _)))
        · have HV : Hid (dupAt 0 [] xs = dupAt (k + 1) (labN (xs.take (k + 1))) (xs.drop (k + 1))) := by
            have : dupAt 0 [] xs = dupAt (k + 1) (labN (xs.take (k + 1))) (xs.drop (k + 1)) := by rw [HRS.out, HGO.out (fun e => absurd e h1)]
            exact this
          have hb1 : (y.k == 1) = false := by simpa using h1
          go_wp2_with fail
          go_round
          case rel => exact ⟨k + 1, by go_num, by omega, HV.out⟩
          case measure => simp [intOf]; omega
    · have HD : Hid (dupAt 0 [] xs = none) := by
        have : dupAt 0 [] xs = none := by rw [HRS.out, List.drop_eq_nil_of_le (by rw [HN.out]; omega)]; rfl
        exact this
      clear HRS HG1
      go_wp2_with fail
      go_loop [11] (fun vi => ∃ k : Nat, vi = .int .i64 k ∧ k ≤ n ∧ undAt 0 (labN xs) xs = undAt k (labN xs) (xs.drop k)) (fun vi => n - (intOf vi).toNat)
      case atStart => exact ⟨0, rfl, Nat.zero_le _, rfl⟩
      case round =>
        clear hk hlt
        obtain ⟨k, rfl, hk, hrs⟩ := hrel
        have HRS := Hid.in hrs
        clear hrs
        by_cases hlt : k < n
        · as_aux_lemma =>
            have hkl : k < xs.length := by rw [HN.out]; exact hlt
            obtain ⟨b, o, rfl, hc⟩ := HX3.out (by omega)
            obtain ⟨qd, cq, hRg, -, hfit⟩ := hc k hkl
            have HGO := Hid.in (und_go xs k hkl)
            have HHT := Hid.in (und_hit xs k hkl)
            have i0 : w3.cell? ⟨b, o + k * 9, none⟩ = some (.int .u8 xs[k].k) := hRg 0 _ rfl
            have i1 : w3.cell? ⟨b, o + k * 9 + 1, none⟩ = some (.string xs[k].name) := hRg 1 _ rfl
            clear hc hRg hfit
            have hL4 := hL3 xs[k].name
            clear hL3 hLb
            generalize labR xs[k].name 0 xs = lr at *
            generalize xs[k] = y at *
            by_cases h1 : y.k = 7
            · rw [h1] at i0
              by_cases he : lr < 0
              · have HV : Hid (makeE xs = (171, k)) := HG2.out HD.out k (by rw [HRS.out, HHT.out h1 he])
                clear h1
                go_wp2_with (first
                  | (go_at_call 30; refine hL4.mono ?_; rintro E W ⟨rfl, rfl⟩)
                  | (refine step_store_blk HK3.out rfl 29 (.tmp 2) (.tmp 96) rfl rfl rfl noObj rfl Tryz.sz29 rfl noObj_one ?_; intro w4 hK4 hg4; have HK4 := Hid.in hK4; have HG4 := Hid.in hg4; clear hK4 hg4))
                have hld := HK4.out.load 29 _ Tryz.underlying29 rfl Tryz.sz29
                exact bodyPost_ret (v := .tuple #[.agg noObj, .int .i64 171, .int .i64 k]) (by simp [results, Tryz.results9, asAddr, hld]) rfl (makeIs_err HV.out (by decide) (HB3.out.grown HG4.out HB3.out.size (fun k hk => by cases hk; exact Nat.le_refl _)))
              · have HV : Hid (undAt 0 (labN xs) xs = undAt (k + 1) (labN xs) (xs.drop (k + 1))) := by
                  have : undAt 0 (labN xs) xs = undAt (k + 1) (labN xs) (xs.drop (k + 1)) := by rw [HRS.out, HGO.out (fun _ => he)]
                  exact this
                have hb2 : decide (lr < 0) = false := decide_eq_false he
                clear h1
                go_wp2_with (go_at_call 30; refine hL4.mono ?_; rintro E W ⟨rfl, rfl⟩)
                go_round
                case rel => exact ⟨k + 1, by go_num, by omega, HV.out⟩
                case measure => simp [intOf]; omega
            · have HV : Hid (undAt 0 (labN xs) xs = undAt (k + 1) (labN xs) (xs.drop (k + 1))) := by
                have : undAt 0 (labN xs) xs = undAt (k + 1) (labN xs) (xs.drop (k + 1)) := by rw [HRS.out, HGO.out (fun e => absurd e h1)]
                exact this
              have hb1 : (y.k == 7) = false := by simpa using h1
              go_wp2_with fail
              go_round
              case rel => exact ⟨k + 1, by go_num, by omega, HV.out⟩
              case measure => simp [intOf]; omega
        · have HU : Hid (undAt 0 (labN xs) xs = none) := by
            have : undAt 0 (labN xs) xs = none := by rw [HRS.out, List.drop_eq_nil_of_le (by rw [HN.out]; omega)]; rfl
            exact this
          have HME : Hid (makeE xs = (0, 0)) := HG3.out HD.out HU.out
          clear HRS HG2 HG3 HD HU hL3 hLb HX3 HK3 HB3
          go_upto_region 21 with (refine step_store_new rfl 29 (.tmp 12) (.tmp 99) rfl rfl rfl #[.slice p3 n3 c3, .slice none 0 0, .slice none 0 0, .slice none 0 0] rfl Tryz.sz29 rfl (obj_one rfl rfl rfl rfl) ?_)
          have HW4 : Hid (WantAt (w3.alloc (.cells #[.slice p3 n3 c3, .slice none 0 0, .slice none 0 0, .slice none 0 0] 29)) w2.heap.size w3.heap.size (midO xs 0) (.slice p3 n3 c3) (.slice none 0 0) (.slice none 0 0) (.slice none 0 0)) := by
            refine ⟨Blk.new w3 29 _, ?_, HC3.out.size⟩
            rw [mid_zero]
            exact ⟨HO3.out.below (new_alloc w3 _), TOwn.nil _ _ _, TOwn.nil _ _ _, TOwn.nil _ _ _⟩
          have HB4 : Hid (Below w2.heap.size w2 (w3.alloc (.cells #[.slice p3 n3 c3, .slice none 0 0, .slice none 0 0, .slice none 0 0] 29))) := below_alloc HC3.out _
          have HLG : Hid (w2.heap.size ≤ w3.heap.size) := HC3.out.size
          generalize w3.alloc (.cells #[.slice p3 n3 c3, .slice none 0 0, .slice none 0 0, .slice none 0 0] 29) = w4 at *
          generalize w3.heap.size = gw at *
          clear HO3 HC3 hlt hk
          go_wp2_with fail
          go_loopw [13] (fun vi wr => ∃ (k : Nat) (vb vs vf vm : Value), vi = .int .i64 k ∧ k ≤ n ∧ WantAt wr w2.heap.size gw (midO xs k) vb vs vf vm ∧ Below w2.heap.size w2 wr) (fun vi _ => n - (intOf vi).toNat)
          case atStart => exact ⟨0, _, _, _, _, rfl, Nat.zero_le _, HW4.out, HB4.out⟩
          case round =>
            clear HW4 HB4
            obtain ⟨k, vb, vs, vf, vm, rfl, hk, hW, hB⟩ := hrel
            have HW := Hid.in hW
            have HB := Hid.in hB
            obtain ⟨pb, nb, cb, hvb⟩ := hW.own.b.isSlice
            obtain ⟨ps, ns, cs, hvs⟩ := hW.own.s.isSlice
            obtain ⟨pf, nf, cf, hvf⟩ := hW.own.f.isSlice
            obtain ⟨pm, nm, cm, hvm⟩ := hW.own.m.isSlice
            subst hvb hvs hvf hvm
            clear hW hB
            by_cases hlt : k < n
            · as_aux_lemma =>
                have hkl : k < xs.length := by rw [HN.out]; exact hlt
                obtain ⟨b, o, hp, hc⟩ := (HX2.out.below HB.out) (by omega)
                subst hp
                obtain ⟨q, cq, hR, hrow, hfit⟩ := hc k hkl
                obtain ⟨bp, op, hp2, hcp⟩ := HR2.out (by rw [HLN.out]; omega)
                subst hp2
                have hpk2 : w2.cell? ⟨bp, op + k, none⟩ = some (.int .i64 ((placesL 0 (xs.take k)).2 : Nat)) := (hcp k (by rw [HLN.out]; exact hlt)).trans (HPG.out k hlt)
                have pk : wr.cell? ⟨bp, op + k, none⟩ = some (.int .i64 ((placesL 0 (xs.take k)).2 : Nat)) := (HB.out.cell (cell_lt hpk2)).trans hpk2
                have hbp : bp < w2.heap.size := cell_lt hpk2
                have HPK2 := Hid.in hpk2
                clear hpk2
                have HML := Hid.in (fun e => mid_label hkl e (HMAY.out _ (List.getElem_mem hkl)))
                have HMM := Hid.in (fun e => mid_mark hkl e (HMAY.out _ (List.getElem_mem hkl)))
                have HMF := Hid.in (fun kd e => mid_fix hkl (HMAY.out _ (List.getElem_mem hkl)) (kd := kd) e)
                have HMO := Hid.in (mid_other hkl)
                have HFA := Hid.in (fun e => form_ask (HMAY.out _ (List.getElem_mem hkl)) e)
                have HOP := Hid.in ((may_names (HMAY.out _ (List.getElem_mem hkl))).op0)
                have hpa := HPL.out k
                have HR := Hid.in hR
                obtain ⟨hln1, hln2, hln3⟩ := mid_len xs k
                rw [HN.out] at hln1 hln2 hln3
                have HL1 : Hid ((midO xs k).sy.length ≤ 1048576) := Nat.le_trans hln1 (by omega)
                have HL2 : Hid ((midO xs k).fx.length ≤ 1048576) := Nat.le_trans hln2 (by omega)
                have HL3 : Hid ((midO xs k).mk_.length ≤ 1048576) := Nat.le_trans hln3 (by omega)
                clear hln1 hln2 hln3
                clear hc hcp hR hrow hfit
                generalize (placesL 0 (xs.take k)).2 = pa at *
                have HY : Hid (xs[k] = xs[k]) := rfl
                generalize xs[k] = y at *
                clear HY
                generalize midO xs k = mo at *
                go_upto_region 25 with (first
                  | (refine step_load_at HR.out rfl 57 (.tmp 108) rfl rfl _ Tryz.underlying57 rfl Tryz.sz57 ?_)
                  | (refine step_store_new rfl 57 (.tmp 14) (.tmp 109) rfl rfl rfl (cellsOf y (.slice q y.d.length cq)) rfl Tryz.sz57 rfl (cells_one _ _ _ _) ?_))
                have HK5 : Hid (Blk (wr.alloc (.cells (cellsOf y (.slice q y.d.length cq)) 57)) wr.heap.size 57 (cellsOf y (.slice q y.d.length cq))) := Blk.new wr 57 _
                have HC5 : Hid (Below wr.heap.size wr (wr.alloc (.cells (cellsOf y (.slice q y.d.length cq)) 57))) := new_alloc wr _
                have HW5 := Hid.in (HW.out.grow HC5.out)
                have HB5 := Hid.in (below_step HB.out HC5.out)
                have p5 : (wr.alloc (.cells (cellsOf y (.slice q y.d.length cq)) 57)).cell? ⟨bp, op + k, none⟩ = some (.int .i64 (pa : Nat)) := (HC5.out.cell (cell_lt pk)).trans pk
                generalize wr.alloc (.cells (cellsOf y (.slice q y.d.length cq)) 57) = w5 at *
                have hgw : gw < wr.heap.size := HW.out.box.lt
                have HLT5 : Hid (wr.heap.size < w5.heap.size) := HK5.out.lt
                generalize wr.heap.size = g14 at *
                clear pk HC5 HR HW HB
                have t0 : w5.cell? ⟨g14, 0, none⟩ = some (.int .u8 y.k) := HK5.out.cell 0
                have t1 : w5.cell? ⟨g14, 1, none⟩ = some (.string y.name) := HK5.out.cell 1
                have t2 : w5.cell? ⟨g14, 2, none⟩ = some (.string y.tg) := HK5.out.cell 2
                have t3 : w5.cell? ⟨g14, 3, none⟩ = some (.int .u8 y.o) := HK5.out.cell 3
                by_cases h1 : y.k = 1
                · as_aux_lemma =>
                    rw [h1] at t0
                    have HML' := Hid.in (HML.out h1)
                    clear HML HMM HMF HMO HFA HOP HX HPG HPL HMAY HLN HR2 HK2
                    go_upto_region 27 with fail
                    go_region_held3 (fun W => W.cell? ⟨g14, 1, none⟩ = some (.string y.name) ∧ W.cell? ⟨bp, op + k, none⟩ = some (.int .i64 (pa : Nat))) (go_keep) (fail)
                    have HC6 : Hid (Below w5.heap.size w5 ((w5.alloc (.cells #[.string y.name, .int .i64 (pa : Nat), .bool false] 36)).drew)) := below_draws (new_alloc w5 _) 1
                    have HS6 : Hid (Blk ((w5.alloc (.cells #[.string y.name, .int .i64 (pa : Nat), .bool false] 36)).drew) w5.heap.size 36 #[.string y.name, .int .i64 (pa : Nat), .bool false]) := Blk.new w5 36 _
                    generalize (w5.alloc (.cells #[.string y.name, .int .i64 (pa : Nat), .bool false] 36)).drew = w6 at *
                    clear t0 t1 t2 t3 p5
                    go_wp2_with fail
                    go_loopw [16] (fun vq wq => ∃ q : Nat, vq = .int .i64 q ∧ q ≤ n ∧ Blk wq w5.heap.size 36 #[.string y.name, .int .i64 (pa : Nat), .bool (inB y.name (gloN (xs.take q)))] ∧ Below w5.heap.size w5 wq) (fun vq _ => n - (intOf vq).toNat)
                    case atStart => exact ⟨0, rfl, Nat.zero_le _, HS6.out, HC6.out⟩
                    case round =>
                      clear HS6 HC6
                      obtain ⟨j, rfl, hj, hS, hC⟩ := hrel
                      have HS := Hid.in hS
                      have HC := Hid.in hC
                      clear hS hC
                      have hLT5 := HLT5.out
                      have d1 : ¬ g14 = w5.heap.size := by omega
                      have d2 : ¬ w5.heap.size = g14 := by omega
                      by_cases hjl : j < n
                      · as_aux_lemma =>
                          have hjx : j < xs.length := by rw [HN.out]; exact hjl
                          obtain ⟨b', o', hbo, hc⟩ := (HX2.out.below (below_step HB5.out HC.out)) (by omega)
                          obtain ⟨rfl, rfl⟩ : b = b' ∧ o = o' := by injection hbo with h; injection h with h h'; exact ⟨h, h'⟩
                          obtain ⟨q', cq', hR, -, -⟩ := hc j hjx
                          have hbl : b < w2.heap.size := by
                            obtain ⟨b', o', hbo, hc⟩ := HX2.out (by omega)
                            obtain ⟨rfl, rfl⟩ : b = b' ∧ o = o' := by injection hbo with h; injection h with h h'; exact ⟨h, h'⟩
                            obtain ⟨q', cq', hR, -, -⟩ := hc j hjx
                            exact cell_lt (hR 0 _ rfl)
                          have hs2 := HB5.out.size
                          have d3 : ¬ b = w5.heap.size := by omega
                          have d4 : ¬ w5.heap.size = b := by omega
                          have i0 : wr.cell? ⟨b, o + j * 9, none⟩ = some (.int .u8 xs[j].k) := hR 0 _ rfl
                          have i1 : wr.cell? ⟨b, o + j * 9 + 1, none⟩ = some (.string xs[j].name) := hR 1 _ rfl
                          have t1 : wr.cell? ⟨g14, 1, none⟩ = some (.string y.name) := (HK5.out.grow HC.out).cell 1
                          have s2 : wr.cell? ⟨w5.heap.size, 2, none⟩ = some (.bool (inB y.name (gloN (xs.take j)))) := HS.out.cell 2
                          have f2 := HS.out.free 2
                          have HGO := Hid.in (glo_go y.name xs j hjx)
                          clear hc hR hbo
                          generalize xs[j] = z at *
                          generalize inB y.name (gloN (xs.take j)) = gl at *
                          go_upto_region 31 with fail
                          have i0r := fun d os => cell_regrown i0 d os
                          have i1r := fun d os => cell_regrown i1 d os
                          have t1r := fun d os => cell_regrown t1 d os
                          have s2r := fun d os => cell_regrown s2 d os
                          cases gl with
                          | true =>
                            have HGO' : Hid (inB y.name (gloN (xs.take (j + 1))) = true) := by
                              have := HGO.out
                              rw [Bool.true_or] at this
                              exact this
                            refine wp_region_noPanic ?_
                            refine wp_region_sink 21 [21] 1 (by kernel_rfl) (by kernel_rfl) (by kernel_rfl) (by kernel_rfl) (by kernel_rfl) (fun _ _ _ _ _ h => h) ?_
                            simp only [List.take_succ_cons, List.take_zero]
                            iterate 21 (go_big_quiet_step (fail))
                            refine wpQuiet_nil ?_
                            rintro _ ⟨⟨dq, osq⟩, rfl⟩
                            have hbq : Below wr.heap.size wr (Go.Sort.grow (redrawn wr dq) osq) := below_regrown wr dq osq
                            generalize Go.Sort.grow (redrawn wr dq) osq = w17 at hbq ⊢
                            clear i0r i1r t1r s2r i0 i1 t1
                            have s2' : w17.cell? ⟨w5.heap.size, 2, none⟩ = some (.bool true) := (HS.out.grow hbq).cell 2
                            have f2' := (HS.out.grow hbq).free 2
                            refine wpAnyG_last (i := 21) (by kernel_rfl) rfl rfl (fun K hK => ?_)
                            go_simp
                            refine hK.out _ _ ?_
                            clear hK K
                            refine wpAnyG_done (by kernel_rfl) ?_ _
                            refine NoPanic.normal ?_
                            have HS7 : Hid (Blk (w17.setCell ⟨w5.heap.size, 2, none⟩ (.bool true)) w5.heap.size 36 #[.string y.name, .int .i64 (pa : Nat), .bool true]) := (HS.out.grow hbq).set 2 (.bool true)
                            have HC7 : Hid (Below w5.heap.size w5 (w17.setCell ⟨w5.heap.size, 2, none⟩ (.bool true))) := below_set (below_step HC.out hbq) w5.heap.size 2 _ (Nat.le_refl _) (below_step HC.out hbq).size
                            generalize w17.setCell ⟨w5.heap.size, 2, none⟩ (.bool true) = w18 at *
                            go_wp2_with fail
                            go_roundw
                            case rel => exact ⟨j + 1, by go_num, by omega, by rw [HGO'.out]; exact HS7.out, HC7.out⟩
                            case measure => simp [intOf]; omega
                          | false =>
                            rw [Bool.false_or] at HGO
                            by_cases hz7 : z.k = 7
                            · rw [hz7] at i0
                              by_cases hzn : z.name = y.name
                              · rw [hzn] at i1
                                clear i0r i1r
                                have i0r := fun d os => cell_regrown i0 d os
                                have i1r := fun d os => cell_regrown i1 d os
                                have HGO' : Hid (inB y.name (gloN (xs.take (j + 1))) = true) := by
                                  have := HGO.out
                                  rw [decide_eq_true ⟨hz7, hzn⟩] at this
                                  exact this
                                refine wp_region_noPanic ?_
                                refine wp_region_sink 21 [21] 1 (by kernel_rfl) (by kernel_rfl) (by kernel_rfl) (by kernel_rfl) (by kernel_rfl) (fun _ _ _ _ _ h => h) ?_
                                simp only [List.take_succ_cons, List.take_zero]
                                iterate 21 (go_big_quiet_step (fail))
                                refine wpQuiet_nil ?_
                                rintro _ ⟨⟨dq, osq⟩, rfl⟩
                                have hbq : Below wr.heap.size wr (Go.Sort.grow (redrawn wr dq) osq) := below_regrown wr dq osq
                                generalize Go.Sort.grow (redrawn wr dq) osq = w17 at hbq ⊢
                                clear i0r i1r t1r s2r i0 i1 t1
                                have s2' : w17.cell? ⟨w5.heap.size, 2, none⟩ = some (.bool false) := (HS.out.grow hbq).cell 2
                                have f2' := (HS.out.grow hbq).free 2
                                refine wpAnyG_last (i := 21) (by kernel_rfl) rfl rfl (fun K hK => ?_)
                                go_simp
                                refine hK.out _ _ ?_
                                clear hK K
                                refine wpAnyG_done (by kernel_rfl) ?_ _
                                refine NoPanic.normal ?_
                                have HS7 : Hid (Blk (w17.setCell ⟨w5.heap.size, 2, none⟩ (.bool true)) w5.heap.size 36 #[.string y.name, .int .i64 (pa : Nat), .bool true]) := (HS.out.grow hbq).set 2 (.bool true)
                                have HC7 : Hid (Below w5.heap.size w5 (w17.setCell ⟨w5.heap.size, 2, none⟩ (.bool true))) := below_set (below_step HC.out hbq) w5.heap.size 2 _ (Nat.le_refl _) (below_step HC.out hbq).size
                                generalize w17.setCell ⟨w5.heap.size, 2, none⟩ (.bool true) = w18 at *
                                go_wp2_with fail
                                go_roundw
                                case rel => exact ⟨j + 1, by go_num, by omega, by rw [HGO'.out]; exact HS7.out, HC7.out⟩
                                case measure => simp [intOf]; omega
                              · have hsl := text_ne3 hzn
                                have hsb : (z.name.toList == y.name.toList) = false := by simpa using hsl
                                have hsd : decide (z.name.toList = y.name.toList) = false := decide_eq_false hsl
                                clear i0r
                                have i0r := fun d os => cell_regrown i0 d os
                                have HGO' : Hid (inB y.name (gloN (xs.take (j + 1))) = false) := by
                                  have := HGO.out
                                  rw [decide_eq_false (fun e => hzn e.2)] at this
                                  exact this
                                refine wp_region_noPanic ?_
                                refine wp_region_sink 21 [21] 1 (by kernel_rfl) (by kernel_rfl) (by kernel_rfl) (by kernel_rfl) (by kernel_rfl) (fun _ _ _ _ _ h => h) ?_
                                simp only [List.take_succ_cons, List.take_zero]
                                iterate 21 (go_big_quiet_step (fail))
                                refine wpQuiet_nil ?_
                                rintro _ ⟨⟨dq, osq⟩, rfl⟩
                                have hbq : Below wr.heap.size wr (Go.Sort.grow (redrawn wr dq) osq) := below_regrown wr dq osq
                                generalize Go.Sort.grow (redrawn wr dq) osq = w17 at hbq ⊢
                                clear i0r i1r t1r s2r i0 i1 t1
                                have s2' : w17.cell? ⟨w5.heap.size, 2, none⟩ = some (.bool false) := (HS.out.grow hbq).cell 2
                                have f2' := (HS.out.grow hbq).free 2
                                refine wpAnyG_last (i := 21) (by kernel_rfl) rfl rfl (fun K hK => ?_)
                                go_simp
                                refine hK.out _ _ ?_
                                clear hK K
                                refine wpAnyG_done (by kernel_rfl) ?_ _
                                refine NoPanic.normal ?_
                                have HS7 : Hid (Blk (w17.setCell ⟨w5.heap.size, 2, none⟩ (.bool false)) w5.heap.size 36 #[.string y.name, .int .i64 (pa : Nat), .bool false]) := (HS.out.grow hbq).set 2 (.bool false)
                                have HC7 : Hid (Below w5.heap.size w5 (w17.setCell ⟨w5.heap.size, 2, none⟩ (.bool false))) := below_set (below_step HC.out hbq) w5.heap.size 2 _ (Nat.le_refl _) (below_step HC.out hbq).size
                                generalize w17.setCell ⟨w5.heap.size, 2, none⟩ (.bool false) = w18 at *
                                go_wp2_with fail
                                go_roundw
                                case rel => exact ⟨j + 1, by go_num, by omega, by rw [HGO'.out]; exact HS7.out, HC7.out⟩
                                case measure => simp [intOf]; omega
                            · have hb7 : (z.k == 7) = false := by simpa using hz7
                              have hd7 : decide (z.k = 7) = false := decide_eq_false hz7
                              have HGO' : Hid (inB y.name (gloN (xs.take (j + 1))) = false) := by
                                have := HGO.out
                                rw [decide_eq_false (fun e => hz7 e.1)] at this
                                exact this
                              refine wp_region_noPanic ?_
                              refine wp_region_sink 21 [21] 1 (by kernel_rfl) (by kernel_rfl) (by kernel_rfl) (by kernel_rfl) (by kernel_rfl) (fun _ _ _ _ _ h => h) ?_
                              simp only [List.take_succ_cons, List.take_zero]
                              iterate 21 (go_big_quiet_step (fail))
                              refine wpQuiet_nil ?_
                              rintro _ ⟨⟨dq, osq⟩, rfl⟩
                              have hbq : Below wr.heap.size wr (Go.Sort.grow (redrawn wr dq) osq) := below_regrown wr dq osq
                              generalize Go.Sort.grow (redrawn wr dq) osq = w17 at hbq ⊢
                              clear i0r i1r t1r s2r i0 i1 t1
                              have s2' : w17.cell? ⟨w5.heap.size, 2, none⟩ = some (.bool false) := (HS.out.grow hbq).cell 2
                              have f2' := (HS.out.grow hbq).free 2
                              refine wpAnyG_last (i := 21) (by kernel_rfl) rfl rfl (fun K hK => ?_)
                              go_simp
                              refine hK.out _ _ ?_
                              clear hK K
                              refine wpAnyG_done (by kernel_rfl) ?_ _
                              refine NoPanic.normal ?_
                              have HS7 : Hid (Blk (w17.setCell ⟨w5.heap.size, 2, none⟩ (.bool false)) w5.heap.size 36 #[.string y.name, .int .i64 (pa : Nat), .bool false]) := (HS.out.grow hbq).set 2 (.bool false)
                              have HC7 : Hid (Below w5.heap.size w5 (w17.setCell ⟨w5.heap.size, 2, none⟩ (.bool false))) := below_set (below_step HC.out hbq) w5.heap.size 2 _ (Nat.le_refl _) (below_step HC.out hbq).size
                              generalize w17.setCell ⟨w5.heap.size, 2, none⟩ (.bool false) = w18 at *
                              go_wp2_with fail
                              go_roundw
                              case rel => exact ⟨j + 1, by go_num, by omega, by rw [HGO'.out]; exact HS7.out, HC7.out⟩
                              case measure => simp [intOf]; omega
                      · have hje : j = n := by omega
                        have HGL : Hid (inB y.name (gloN (xs.take j)) = inB y.name (gloN xs)) := by
                          have : inB y.name (gloN (xs.take j)) = inB y.name (gloN xs) := by rw [hje, ← HN.out, List.take_length]
                          exact this
                        rw [HGL.out] at HS
                        clear HGL
                        generalize inB y.name (gloN xs) = gl at *
                        have HWq := Hid.in (HW5.out.grow HC.out)
                        have HBq := Hid.in (below_step HB5.out HC.out)
                        have u0 : wr.cell? ⟨w5.heap.size, 0, none⟩ = some (.string y.name) := HS.out.cell 0
                        have u1 : wr.cell? ⟨w5.heap.size, 1, none⟩ = some (.int .i64 (pa : Nat)) := HS.out.cell 1
                        have u2 : wr.cell? ⟨w5.heap.size, 2, none⟩ = some (.bool gl) := HS.out.cell 2
                        have g1 : wr.cell? ⟨gw, 1, none⟩ = some (.slice ps ns cs) := HWq.out.box.cell 1
                        clear HX2 HPK2
                        go_wp2_with (at_builtin; refine tpush Tryz.elemSym _ rfl _ _ rfl w2.heap.size (.slice ps ns cs) (mo.sy.map syV) rfl (HWq.out.own.s.alloc _) ⟨wr.heap.size, 0, none⟩ 1 (.string y.name, .int .i64 (pa : Nat), .bool gl) ⟨rfl, rfl, rfl⟩ rfl (news3 wr (.string y.name, .int .i64 (pa : Nat), .bool gl) 36) (by rw [List.length_map]; exact HL1.out) (by decide) (by have := HBq.out.size; simp; omega) ?_; intro v4 w7 ho4 hg4 hb4; obtain ⟨p4, n4, c4, hv4⟩ := ho4.isSlice; subst hv4; have ho4' : TOwn 36 w7 w2.heap.size (.slice p4 n4 c4) ((mo.sy ++ [(⟨y.name, (pa : Nat), gl⟩ : Sy)]).map syV) := (by rw [List.map_append]; exact ho4); have HW7 := Hid.in (HWq.out.grow (new_alloc wr (.cells #[.string y.name, .int .i64 (pa : Nat), .bool gl] 36))); have HK7 := Hid.in (HW7.out.box.kept hg4 (blk_not_row HW7.out.own.s HW7.out.box (by decide))); have x1 : w7.cell? ⟨gw, 1, none⟩ = some (.slice ps ns cs) := HK7.out.cell 1; have z1 := HK7.out.free 1; have HB7 := Hid.in (hb4 w2 (below_alloc HBq.out _)); have HW8 := Hid.in (HW7.out.setS ho4' hg4); clear ho4 ho4' hg4 hb4)
                        have HB8 := Hid.in (below_set HB7.out gw 1 (.slice p4 n4 c4) HLG.out HB7.out.size)
                        generalize w7.setCell ⟨gw, 1, none⟩ (.slice p4 n4 c4) = w8 at *
                        go_roundw
                        case rel => exact ⟨k + 1, _, _, _, _, by go_num, by omega, by rw [HML'.out]; exact HW8.out, HB8.out⟩
                        case measure => simp [intOf]; omega
                · by_cases h3 : y.k = 3
                  · as_aux_lemma =>
                      have hb1 : (y.k == 1) = false := by simpa using h1
                      rw [h3] at t0
                      have m3 : w5.cell? ⟨gw, 3, none⟩ = some (.slice pm nm cm) := HW5.out.box.cell 3
                      have HMM' := Hid.in (HMM.out h3)
                      clear HML HMM HMF HMO HFA HOP HX HX2 HPG HPL HMAY HLN HR2 HK2
                      go_upto_region 34 with fail
                      have t1r := fun d os => cell_regrown t1 d os
                      have t2r := fun d os => cell_regrown t2 d os
                      have p5r := fun d os => cell_regrown p5 d os
                      have m3r := fun d os => cell_regrown m3 d os
                      refine wp_region_noPanic ?_
                      refine wp_region_sink 10 [12, 13, 14] 5 (by kernel_rfl) (by kernel_rfl) (by kernel_rfl) (by kernel_rfl) (by kernel_rfl) (fun _ _ _ _ _ h => h) ?_
                      simp only [List.take_succ_cons, List.take_zero]
                      iterate 10 (go_big_quiet_step (fail))
                      refine wpQuiet_nil ?_
                      rintro _ ⟨⟨dq, osq⟩, rfl⟩
                      have hbq : Below w5.heap.size w5 (Go.Sort.grow (redrawn w5 dq) osq) := below_regrown w5 dq osq
                      generalize Go.Sort.grow (redrawn w5 dq) osq = w17 at hbq ⊢
                      clear t1r t2r p5r m3r t0 t1 t2 t3 p5 m3
                      have HWq := Hid.in (HW5.out.grow hbq)
                      have HBq := Hid.in (below_step HB5.out hbq)
                      refine wpAnyG_one (i := 10) (by kernel_rfl) rfl (fun K hK => ?_)
                      go_simp
                      refine hK.out _ _ (regrown_of_below hbq) (fun _ => ?_)
                      clear hK K
                      refine wpAnyG_one (i := 11) (by kernel_rfl) rfl (fun K hK => ?_)
                      go_simp
                      refine hK.out _ _ (regrown_of_below (below_alloc hbq _)) (fun _ => ?_)
                      clear hK K
                      refine wpAnyG_last (i := 12) (by kernel_rfl) rfl rfl (fun K hK => ?_)
                      refine step_tpush Tryz.elemMark _ (by rfl) _ _ (by rfl) w2.heap.size (.slice pm nm cm) (mo.mk_.map mkV) (by rfl) (HWq.out.own.m.alloc _) ⟨w17.heap.size, 0, none⟩ 1 (.int .i64 (pa : Nat), .string y.name, .string y.tg) ⟨rfl, rfl, rfl⟩ (by rfl) (news3 _ _ _) (by rw [List.length_map]; exact HL3.out) (by decide) (by have := HBq.out.size; simp; omega) ?_
                      intro g7 c7 w7 hT7 hg7 hb7
                      have HW6 := Hid.in (HWq.out.grow (new_alloc w17 (.cells #[.int .i64 (pa : Nat), .string y.name, .string y.tg] 41)))
                      have HK7 := Hid.in (HW6.out.box.kept hg7 (blk_not_row HW6.out.own.m HW6.out.box (by decide)))
                      have HB7 := Hid.in (hb7 w2 (below_alloc HBq.out _))
                      have x3 : w7.cell? ⟨gw, 3, none⟩ = some (.slice pm nm cm) := HK7.out.cell 3
                      have z3 := HK7.out.free 3
                      have hT8 : TOwn 41 w7 w2.heap.size (.slice (some ⟨g7, 0, none⟩) ((mo.mk_.map mkV).length + 1) c7) ((mo.mk_ ++ [(⟨(pa : Nat), y.name, y.tg⟩ : Mk)]).map mkV) := by rw [List.map_append]; exact hT7
                      rw [List.length_map] at hT8
                      have HW8 := Hid.in (HW6.out.setM hT8 hg7)
                      clear hT7 hT8 hg7 hb7
                      refine hK.out _ _ ?_
                      clear hK K
                      refine wpAnyG_last (i := 13) (by kernel_rfl) rfl rfl (fun K hK => ?_)
                      go_simp
                      refine hK.out _ _ ?_
                      clear hK K
                      refine wpAnyG_last (i := 14) (by kernel_rfl) rfl rfl (fun K hK => ?_)
                      go_simp
                      refine hK.out _ _ ?_
                      clear hK K
                      refine wpAnyG_done (by kernel_rfl) ?_ _
                      refine NoPanic.normal ?_
                      have HB8 := Hid.in (below_set HB7.out gw 3 (.slice (some ⟨g7, 0, none⟩) (mo.mk_.length + 1) c7) HLG.out HB7.out.size)
                      generalize w7.setCell ⟨gw, 3, none⟩ (.slice (some ⟨g7, 0, none⟩) (mo.mk_.length + 1) c7) = w8 at *
                      go_wp2_with fail
                      go_roundw
                      case rel => exact ⟨k + 1, _, _, _, _, by go_num, by omega, by rw [HMM'.out]; exact HW8.out, HB8.out⟩
                      case measure => simp [intOf]; omega
                  · by_cases h2 : y.k = 2
                    · as_aux_lemma =>
                        have hb1 : (y.k == 1) = false := by simpa using h1
                        have hb3 : (y.k == 3) = false := by simpa using h3
                        obtain ⟨on, ho, ho1, ho2, hsz, hask⟩ := HFA.out h2
                        have HSZ := Hid.in (hsz pa)
                        have HASK := Hid.in hask
                        have hln := lenN_in on ho1 ho2
                        have hFm := fun W => form_yes on W ho1 ho2
                        rw [h2] at t0
                        rw [ho] at t3
                        have HO := Hid.in ho
                        clear ho hsz hask HML HMM HFA HOP HX HX2 HPG HPL HMAY HLN HR2 HK2
                        go_upto_region 37 with (go_at_call 31; refine (hFm _).mono ?_; rintro E w6 ⟨rfl, hb6⟩; have HC6 := Hid.in hb6; clear hb6)
                        clear hFm t0 t1 t2 t3
                        have HC7 : Hid (Below w5.heap.size w5 (w6.alloc (.cells #[.int .u8 (fb on), .int .i64 (lenN on : Nat), .bool (hA on), .bool (hB on), .bool (hM on), .bool (hD on)] 70))) := below_alloc HC6.out _
                        have HF7 : Hid (Blk (w6.alloc (.cells #[.int .u8 (fb on), .int .i64 (lenN on : Nat), .bool (hA on), .bool (hB on), .bool (hM on), .bool (hD on)] 70)) w6.heap.size 70 #[.int .u8 (fb on), .int .i64 (lenN on : Nat), .bool (hA on), .bool (hB on), .bool (hM on), .bool (hD on)]) := Blk.new w6 70 _
                        generalize w6.alloc (.cells #[.int .u8 (fb on), .int .i64 (lenN on : Nat), .bool (hA on), .bool (hB on), .bool (hM on), .bool (hD on)] 70) = w7 at *
                        generalize w6.heap.size = g17 at *
                        clear HC6
                        have HW7 := Hid.in (HW5.out.grow HC7.out)
                        have HB7 := Hid.in (below_step HB5.out HC7.out)
                        have HK7 := Hid.in (HK5.out.grow HC7.out)
                        have p7 : w7.cell? ⟨bp, op + k, none⟩ = some (.int .i64 (pa : Nat)) := (HC7.out.cell (cell_lt p5)).trans p5
                        have t1 : w7.cell? ⟨g14, 1, none⟩ = some (.string y.name) := HK7.out.cell 1
                        have f1 : w7.cell? ⟨g17, 1, none⟩ = some (.int .i64 (lenN on : Nat)) := HF7.out.cell 1
                        clear HW5 HB5 HK5 HC7 p5 HPK2
                        by_cases hne : y.name = noText
                        · have HV : Hid (midO xs (k + 1) = mo) := by
                            rcases HASK.out with ⟨_, e⟩ | ⟨e, _⟩
                            · exact HMO.out h1 h3 e
                            · exact absurd hne e
                          rw [hne] at t1
                          clear hne
                          unfold noText at t1
                          go_wp2_with fail
                          go_roundw
                          case rel => exact ⟨k + 1, _, _, _, _, by go_num, by omega, by rw [HV.out]; exact HW7.out, HB7.out⟩
                          case measure => simp [intOf]; omega
                        · have HK : Hid (askK y.o = some (if hD on = true then 2 else 1)) := by
                            rcases HASK.out with ⟨e, _⟩ | ⟨_, e⟩
                            · exact absurd e hne
                            · exact e
                          have hsz0 : 0 < y.name.size := by
                            rcases Nat.eq_zero_or_pos y.name.size with h | h
                            · exact absurd (ByteArray.ext (Array.eq_empty_of_size_eq_zero h)) hne
                            · exact h
                          obtain ⟨hsl, hse⟩ := text_full y.name hsz0
                          have hw1 : IntKind.i64.wrap ((pa : Int) + (lenN on : Nat)) = (pa : Int) + (lenN on : Nat) := wrap_small (by omega) (by omega)
                          have hw2 : IntKind.i64.wrap ((pa : Int) + (lenN on : Nat) - 4) = (pa : Int) + (lenN on : Nat) - 4 := wrap_small (by omega) (by omega)
                          clear hne HMO HASK
                          go_upto_region 38 with fail
                          go_region_held3 (fun W => W.cell? ⟨g14, 1, none⟩ = some (.string y.name) ∧ W.cell? ⟨g17, 1, none⟩ = some (.int .i64 (lenN on : Nat)) ∧ W.cell? ⟨bp, op + k, none⟩ = some (.int .i64 (pa : Nat))) (go_keep) (fail)
                          have HC8 : Hid (Below w7.heap.size w7 ((w7.alloc (.cells #[.int .u8 1, .int .i64 ((pa : Int) + (lenN on : Nat) - 4), .string y.name] 39)).drew)) := below_draws (new_alloc w7 _) 1
                          have HS8 : Hid (Blk ((w7.alloc (.cells #[.int .u8 1, .int .i64 ((pa : Int) + (lenN on : Nat) - 4), .string y.name] 39)).drew) w7.heap.size 39 #[.int .u8 1, .int .i64 ((pa : Int) + (lenN on : Nat) - 4), .string y.name]) := Blk.new w7 39 _
                          generalize (w7.alloc (.cells #[.int .u8 1, .int .i64 ((pa : Int) + (lenN on : Nat) - 4), .string y.name] 39)).drew = w8 at *
                          clear t1 f1 p7
                          have f5 : w8.cell? ⟨g17, 5, none⟩ = some (.bool (hD on)) := (HF7.out.grow HC8.out).cell 5
                          cases hd : hD on with
                          | true =>
                            rw [hd] at f5
                            have b0 : w8.cell? ⟨w7.heap.size, 0, none⟩ = some (.int .u8 1) := HS8.out.cell 0
                            have z0 := HS8.out.free 0
                            go_upto_region 41 with fail
                            have HSW : Hid (Blk (w8.setCell ⟨w7.heap.size, 0, none⟩ (.int .u8 2)) w7.heap.size 39 #[.int .u8 2, .int .i64 ((pa : Int) + (lenN on : Nat) - 4), .string y.name]) := HS8.out.set 0 (.int .u8 2)
                            have HCW : Hid (Below w7.heap.size w7 (w8.setCell ⟨w7.heap.size, 0, none⟩ (.int .u8 2))) := below_set HC8.out w7.heap.size 0 _ (Nat.le_refl _) HC8.out.size
                            generalize w8.setCell ⟨w7.heap.size, 0, none⟩ (.int .u8 2) = w9 at *
                            clear b0 z0 f5
                            have HMF' : Hid (midO xs (k + 1) = ⟨mo.bs, mo.sy, mo.fx ++ [(⟨2, ((pa : Int) + (lenN on : Nat) - 4), y.name⟩ : Fx)], mo.mk_⟩) := by
                              have e := HMF.out 2 (by rw [HK.out, hd]; rfl)
                              rw [HSZ.out] at e
                              have e2 : ((pa + lenN on : Nat) : Int) - 4 = ((pa : Int) + (lenN on : Nat) - 4) := by omega
                              rw [e2] at e
                              exact e
                            have HWq := Hid.in (HW7.out.grow HCW.out)
                            have HBq := Hid.in (below_step HB7.out HCW.out)
                            have u0 : w9.cell? ⟨w7.heap.size, 0, none⟩ = some (.int .u8 2) := HSW.out.cell 0
                            have u1 : w9.cell? ⟨w7.heap.size, 1, none⟩ = some (.int .i64 ((pa : Int) + (lenN on : Nat) - 4)) := HSW.out.cell 1
                            have u2 : w9.cell? ⟨w7.heap.size, 2, none⟩ = some (.string y.name) := HSW.out.cell 2
                            have g2 : w9.cell? ⟨gw, 2, none⟩ = some (.slice pf nf cf) := HWq.out.box.cell 2
                            go_wp2_with (at_builtin; refine tpush Tryz.elemFix _ rfl _ _ rfl w2.heap.size (.slice pf nf cf) (mo.fx.map fxV) rfl (HWq.out.own.f.alloc _) ⟨w9.heap.size, 0, none⟩ 1 (.int .u8 2, .int .i64 ((pa : Int) + (lenN on : Nat) - 4), .string y.name) ⟨rfl, rfl, rfl⟩ rfl (news3 w9 (.int .u8 2, .int .i64 ((pa : Int) + (lenN on : Nat) - 4), .string y.name) 39) (by rw [List.length_map]; exact HL2.out) (by decide) (by have := HBq.out.size; simp; omega) ?_; intro v4 wz ho4 hg4 hb4; obtain ⟨p4, n4, c4, hv4⟩ := ho4.isSlice; subst hv4; have ho4' : TOwn 39 wz w2.heap.size (.slice p4 n4 c4) ((mo.fx ++ [(⟨2, ((pa : Int) + (lenN on : Nat) - 4), y.name⟩ : Fx)]).map fxV) := (by rw [List.map_append]; exact ho4); have HWz := Hid.in (HWq.out.grow (new_alloc w9 (.cells #[.int .u8 2, .int .i64 ((pa : Int) + (lenN on : Nat) - 4), .string y.name] 39))); have HKz := Hid.in (HWz.out.box.kept hg4 (blk_not_row HWz.out.own.f HWz.out.box (by decide))); have x1 : wz.cell? ⟨gw, 2, none⟩ = some (.slice pf nf cf) := HKz.out.cell 2; have z1 := HKz.out.free 2; have HBz := Hid.in (hb4 w2 (below_alloc HBq.out _)); have HWy := Hid.in (HWz.out.setF ho4' hg4); clear ho4 ho4' hg4 hb4)
                            have HBy := Hid.in (below_set HBz.out gw 2 (.slice p4 n4 c4) HLG.out HBz.out.size)
                            generalize wz.setCell ⟨gw, 2, none⟩ (.slice p4 n4 c4) = wy at *
                            go_roundw
                            case rel => exact ⟨k + 1, _, _, _, _, by go_num, by omega, by rw [HMF'.out]; exact HWy.out, HBy.out⟩
                            case measure => simp [intOf]; omega
                          | false =>
                            rw [hd] at f5
                            go_upto_region 41 with fail
                            have HSW := HS8
                            have HCW := HC8
                            clear f5
                            have HMF' : Hid (midO xs (k + 1) = ⟨mo.bs, mo.sy, mo.fx ++ [(⟨1, ((pa : Int) + (lenN on : Nat) - 4), y.name⟩ : Fx)], mo.mk_⟩) := by
                              have e := HMF.out 1 (by rw [HK.out, hd]; rfl)
                              rw [HSZ.out] at e
                              have e2 : ((pa + lenN on : Nat) : Int) - 4 = ((pa : Int) + (lenN on : Nat) - 4) := by omega
                              rw [e2] at e
                              exact e
                            have HWq := Hid.in (HW7.out.grow HCW.out)
                            have HBq := Hid.in (below_step HB7.out HCW.out)
                            have u0 : w8.cell? ⟨w7.heap.size, 0, none⟩ = some (.int .u8 1) := HSW.out.cell 0
                            have u1 : w8.cell? ⟨w7.heap.size, 1, none⟩ = some (.int .i64 ((pa : Int) + (lenN on : Nat) - 4)) := HSW.out.cell 1
                            have u2 : w8.cell? ⟨w7.heap.size, 2, none⟩ = some (.string y.name) := HSW.out.cell 2
                            have g2 : w8.cell? ⟨gw, 2, none⟩ = some (.slice pf nf cf) := HWq.out.box.cell 2
                            go_wp2_with (at_builtin; refine tpush Tryz.elemFix _ rfl _ _ rfl w2.heap.size (.slice pf nf cf) (mo.fx.map fxV) rfl (HWq.out.own.f.alloc _) ⟨w8.heap.size, 0, none⟩ 1 (.int .u8 1, .int .i64 ((pa : Int) + (lenN on : Nat) - 4), .string y.name) ⟨rfl, rfl, rfl⟩ rfl (news3 w8 (.int .u8 1, .int .i64 ((pa : Int) + (lenN on : Nat) - 4), .string y.name) 39) (by rw [List.length_map]; exact HL2.out) (by decide) (by have := HBq.out.size; simp; omega) ?_; intro v4 wz ho4 hg4 hb4; obtain ⟨p4, n4, c4, hv4⟩ := ho4.isSlice; subst hv4; have ho4' : TOwn 39 wz w2.heap.size (.slice p4 n4 c4) ((mo.fx ++ [(⟨1, ((pa : Int) + (lenN on : Nat) - 4), y.name⟩ : Fx)]).map fxV) := (by rw [List.map_append]; exact ho4); have HWz := Hid.in (HWq.out.grow (new_alloc w8 (.cells #[.int .u8 1, .int .i64 ((pa : Int) + (lenN on : Nat) - 4), .string y.name] 39))); have HKz := Hid.in (HWz.out.box.kept hg4 (blk_not_row HWz.out.own.f HWz.out.box (by decide))); have x1 : wz.cell? ⟨gw, 2, none⟩ = some (.slice pf nf cf) := HKz.out.cell 2; have z1 := HKz.out.free 2; have HBz := Hid.in (hb4 w2 (below_alloc HBq.out _)); have HWy := Hid.in (HWz.out.setF ho4' hg4); clear ho4 ho4' hg4 hb4)
                            have HBy := Hid.in (below_set HBz.out gw 2 (.slice p4 n4 c4) HLG.out HBz.out.size)
                            generalize wz.setCell ⟨gw, 2, none⟩ (.slice p4 n4 c4) = wy at *
                            go_roundw
                            case rel => exact ⟨k + 1, _, _, _, _, by go_num, by omega, by rw [HMF'.out]; exact HWy.out, HBy.out⟩
                            case measure => simp [intOf]; omega
                    · as_aux_lemma =>
                        have HV : Hid (midO xs (k + 1) = mo) := HMO.out h1 h3 (by rw [HOP.out h2]; rfl)
                        have hb1 : (y.k == 1) = false := by simpa using h1
                        have hb3 : (y.k == 3) = false := by simpa using h3
                        have hb2 : (y.k == 2) = false := by simpa using h2
                        go_wp2_with fail
                        go_roundw
                        case rel => exact ⟨k + 1, _, _, _, _, by go_num, by omega, by rw [HV.out]; exact HW5.out, HB5.out⟩
                        case measure => simp [intOf]; omega
            · obtain rfl : k = n := by omega
              have HE : Hid (midO xs k = makeO xs) := by
                have e := HME.out
                have : midO xs k = makeO xs := by
                  conv => lhs; rw [← HN.out]
                  rw [mid_end]
                  unfold makeO
                  rw [e]; rfl
                exact this
              rw [HE.out] at HW
              have HKR := Hid.in (HK2.out.grow HB.out)
              have a0 : wr.cell? ⟨gw, 0, none⟩ = some (.slice pb nb cb) := HW.out.box.cell 0
              have a1 : wr.cell? ⟨gw, 1, none⟩ = some (.slice ps ns cs) := HW.out.box.cell 1
              have a2 : wr.cell? ⟨gw, 2, none⟩ = some (.slice pf nf cf) := HW.out.box.cell 2
              have a3 : wr.cell? ⟨gw, 3, none⟩ = some (.slice pm nm cm) := HW.out.box.cell 3
              go_wp2_with (refine step_store_blk HKR.out rfl 29 (.tmp 2) (.tmp 202) rfl rfl rfl #[.slice pb nb cb, .slice ps ns cs, .slice pf nf cf, .slice pm nm cm] rfl Tryz.sz29 rfl (obj_one rfl rfl rfl rfl) ?_; intro w9 hK9 hg9; have HK9 := Hid.in hK9; have HG9 := Hid.in hg9; clear hK9 hg9)
              have hld := HK9.out.load 29 _ Tryz.underlying29 rfl Tryz.sz29
              have hBB := below_step HB2.out HB.out
              have hB9 := hBB.grown HG9.out hBB.size (fun k hk => by cases hk; exact Nat.le_refl _)
              have hO := HW.out.own
              have hO9 : ObOwn w9 w2.heap.size (makeO xs) (.slice pb nb cb) (.slice ps ns cs) (.slice pf nf cf) (.slice pm nm cm) := ⟨kept_row hO.b HG9.out (row_not_blk hO.b HKR.out (by decide)), kept_row hO.s HG9.out (row_not_blk hO.s HKR.out (by decide)), kept_row hO.f HG9.out (row_not_blk hO.f HKR.out (by decide)), kept_row hO.m HG9.out (row_not_blk hO.m HKR.out (by decide))⟩
              exact bodyPost_ret (v := .tuple #[.agg #[.slice pb nb cb, .slice ps ns cs, .slice pf nf cf, .slice pm nm cm], .int .i64 0, .int .i64 0]) (by simp [results, Tryz.results9, asAddr, hld]) rfl ⟨⟨_, _, _, _, by rw [HME.out]; rfl, hO9.lower HB2.out.size⟩, hB9⟩

theorem refMake_any (p : Option Addr) (n c : Nat) (xs : List Src) (w : World) (hn : xs.length = n) (hn6 : n ≤ 1048576) (hx : Items w p xs) : Calls Tryz.prog 9 #[.slice p n c] w (MakeIs xs w) := by
  by_cases hck : (checkL xs).1 ≠ 0
  · refine (refMake_bad p n c xs w hn hn6 hx hck).mono ?_
    rintro E w' ⟨rfl, hb⟩
    exact makeIs_err (by unfold makeE; rw [if_pos hck]) hck hb
  · by_cases hl : layE xs ≠ 0
    · refine (refMake_long p n c xs w hn hn6 hx (by omega) hl).mono ?_
      rintro E w' ⟨rfl, hb⟩
      exact makeIs_err (i := 0) (by unfold makeE; rw [if_neg hck, if_pos hl]) hl hb
    · exact refMake_go p n c xs w hn hx (by omega)

end Go.Proofs.YtkianldkbfjehaaGreatDoor
