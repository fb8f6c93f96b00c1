/- Texts put together: QThen, QSink, WatF. -/
import Derived.Test.YtgblohjdiheemaaGreatKaa
import Derived.Lib.QuietBelow
import Derived.Deep.RegionHeld3
import Derived.BigQuiet
import Derived.Test.YtgblohjdiheemaaGreatKam
import Derived.Test.YtgblohjdiheemaaGreatKan

/- A region that draws its order: its first operations only read; what stands behind them may make memory. -/
namespace Go.Proofs.YtgblohjdiheemaaGreat
open Go.RowKit Go.Sort

/-- an operation whose answer is a value -/
def plainOp (o : Oper) : Bool := match o.op with
  | .move _ | .assign _ | .pick _ _ _ | .load _ _ | .binOp _ _ _ _ _ | .unOp _ _ _ | .slice _ _ _ _ _ | .fieldAddr _ _ _ | .field _ _ _ | .indexAddr _ _ _ | .index _ _ _ | .extract _ _ | .convert _ _ _ | .nilCheck _ | .lookup _ _ _ _ => true
  | .call c => match c.callee with
    | .builtin .len => true
    | _ => false
  | _ => false
theorem value_only {P : Program} (s : Sem Value) (w w' : World) (n : Next) (h : (do pure (.value (← s)) : Sem Next).run P w = .ok n w') : ∃ v, n = .value v := by
  rw [Sem.run_bind] at h
  cases hs : s.run P w with
  | ok x w1 =>
    rw [hs] at h
    simp only [Result.andThen_ok, Sem.run_pure] at h
    injection h with h1 h2
    exact ⟨x, h1.symm⟩
  | halt x w1 =>
    rw [hs] at h
    simp [Result.andThen] at h
theorem plain_value {P : Program} {o : Oper} (hp : plainOp o = true) {ρ : Operand → Value} {w w' : World} {n : Next} (h : (execOp ρ o).run P w = .ok n w') : ∃ v, n = .value v := by
  unfold plainOp at hp
  unfold execOp at h
  obtain ⟨dst, op, ty, pos, aft, gd⟩ := o
  cases op <;> simp only at hp h
  case move => injection h with h1 _; exact ⟨_, h1.symm⟩
  case assign => injection h with h1 _; exact ⟨_, h1.symm⟩
  case pick c x y =>
    rw [Sem.run_bind] at h
    cases hs : (asBool (ρ c)).run P w with
    | ok b w1 =>
      rw [hs] at h
      simp only [Result.andThen_ok, Sem.run_pure] at h
      injection h with h1 _
      exact ⟨_, h1.symm⟩
    | halt x w1 =>
      rw [hs] at h
      simp [Result.andThen] at h
  case nilCheck x =>
    split at h
    · simp [runtimePanic] at h
    · simp [runtimePanic] at h
    · simp [runtimePanic] at h
    · split at h
      · simp [runtimePanic] at h
      · rename_i t w0 _
        simp only [Sem.run_bind] at h
        generalize Sem.run P program w = R0 at h
        cases R0 with
        | halt x w1 => simp [Result.andThen] at h
        | ok p w1 =>
          simp only [Result.andThen_ok] at h
          generalize Sem.run P _ w1 = R1 at h
          cases R1 with
          | halt x w2 => simp [Result.andThen] at h
          | ok b w2 =>
            simp only [Result.andThen_ok] at h
            split at h
            · simp [Result.andThen] at h
            · simp at h; exact ⟨_, h.1.symm⟩
      · simp at h; exact ⟨_, h.1.symm⟩
    · simp at h; exact ⟨_, h.1.symm⟩
  case call c =>
    cases hc : c.callee with
    | builtin b =>
      rw [hc] at hp
      cases b <;> simp at hp
      simp only [resolve, hc, pure_bind, invoke, builtin] at h
      exact value_only _ _ _ _ h
    | _ => rw [hc] at hp; simp at hp
  all_goals first
    | exact value_only _ _ _ _ h
    | (cases hp; done)

section
variable {P : Program} {ops : Array Oper} {md : Region.Mode} {C : World → Prop} {Q : Exit → Act → World → Prop}
theorem yieldsIf_of_plain {o : Oper} {v : Value} {a : Act} (hp : plainOp o = true) (h : YieldsIn P ops C o v a) : YieldsIf P ops C o v a := by
  rcases h with ⟨hw, hv⟩ | h
  · refine .inl ⟨hw, fun w hC => ?_⟩
    have h1 := hv w hC
    unfold Oper.quietAt at h1
    cases hr : (execOp a.eval o).run P w with
    | ok n w' =>
      obtain ⟨u, rfl⟩ := plain_value hp hr
      rw [hr] at h1
      obtain ⟨rfl, rfl⟩ := h1
      rfl
    | halt x w' =>
      rw [hr] at h1
      exact h1.elim
  · exact .inr h
/-- the first n operations come up in the order of the text -/
def lexUp (md : Region.Mode) (ops : Array Oper) : Nat → Nat → Array Bool → Bool
  | 0, _, _ => true
  | n + 1, k, listed => (Region.ready md ops listed).contains k && Region.free md ops listed k && lexUp md ops n (k + 1) (listed.setIfInBounds k true)
def listedUp : Nat → Nat → Array Bool → Array Bool
  | 0, _, listed => listed
  | n + 1, k, listed => listedUp n (k + 1) (listed.setIfInBounds k true)
theorem wpAnyH_lex (hs : Region.noSelect ops = true) (hQ : ∀ c a d v w, Q (.panic c) (Act.put a d v) w → Q (.panic c) a w) (m : Nat) :
    ∀ (l : List Oper) (k : Nat) (listed : Array Bool) (a : Act) (w : World), (∀ j, j < l.length → l[j]? = ops[k + j]?) → l.all plainOp = true → lexUp md ops l.length k listed = true → C w →
      wpQuiet P ops C (fun a' => ∀ w', C w' → wpAnyH P md ops Q C m (listedUp l.length k listed) a' w') l a → wpAnyH P md ops Q C (l.length + m) listed a w
  | [], _, _, _, w, _, _, _, hC, h => by
    have := h w hC
    rw [List.length_nil, Nat.zero_add]
    exact this
  | o :: l, k, listed, a, w, hl, hp, hB, hC, h => by
    have h0 : ops[k]? = some o := by simpa using (hl 0 (by simp)).symm
    simp only [List.length_cons, lexUp, Bool.and_eq_true] at hB
    obtain ⟨⟨hr, hf⟩, hB'⟩ := hB
    rw [List.all_cons, Bool.and_eq_true] at hp
    have hst : qOp P ops C k (wpQuiet P ops C (fun a' => ∀ w', C w' → wpAnyH P md ops Q C m (listedUp (o :: l).length k listed) a' w') l) a := by unfold qOp; simp only [h0]; exact h
    obtain ⟨v, hy, hK⟩ := yieldsIn_of_qOp h0 hst
    rw [List.length_cons, show l.length + 1 + m = l.length + m + 1 by omega]
    exact wpAnyH_take h0 hs hf hr (fun c a w => hQ c a _ _ w) (yieldsIf_of_plain hp.1 hy) hC
      (wpAnyH_lex hs hQ m l (k + 1) _ _ w (fun j hj => by have := hl (j + 1) (by simpa using hj); simpa [Nat.add_assoc, Nat.add_comm 1 j] using this) hp.2 hB' hC hK)
/-- **the first n operations only read; the rest in whatever order** -/
theorem wp_region_first (n m : Nat) {id : Nat} {a : Act} {w : World} {l : List Oper} (hm : P.follows .mixedOrders = true) (hs : Region.noSelect l.toArray = true) (hn : (l.length == n + m) = true) (hp : (l.take n).all plainOp = true)
    (hB : lexUp .any l.toArray n 0 (Array.replicate l.length false) = true) (hQ : ∀ c a d v w, Q (.panic c) (Act.put a d v) w → Q (.panic c) a w) (hC : C { w with drawn := w.drawn + 1 })
    (h : wpQuiet P l.toArray C (fun a' => ∀ w', C w' → wpAnyH P .any l.toArray Q C m (listedUp n 0 (Array.replicate l.length false)) a' w') (l.take n) a) :
    (Code.region id l.toArray true).wp P Q a w := by
  refine wp_region_held (S := C) hm ?_
  have hn' : l.length = n + m := by simpa using hn
  have hl : (l.take n).length = n := by rw [List.length_take]; omega
  have := wpAnyH_lex (P := P) (md := .any) (C := C) (Q := Q) hs hQ m (l.take n) 0 (Array.replicate l.length false) a _ (fun j hj => by rw [hl] at hj; simp [hj]) hp (by rw [hl]; exact hB) hC (by rw [hl]; exact h)
  rw [hl, ← hn'] at this
  simpa using this
/-- .. at the worlds in which of what was there nothing has turned -/
theorem wp_region_first_below (n m : Nat) {id : Nat} {a : Act} {w : World} {l : List Oper} (hm : P.follows .mixedOrders = true) (hs : Region.noSelect l.toArray = true) (hn : (l.length == n + m) = true) (hp : (l.take n).all plainOp = true)
    (hB : lexUp .any l.toArray n 0 (Array.replicate l.length false) = true) (hQ : ∀ c a d v w, Q (.panic c) (Act.put a d v) w → Q (.panic c) a w)
    (h : wpQuiet P l.toArray (fun w' => ∃ p : Regrown, w' = grow (redrawn w p.d) p.os) (fun a' => ∀ w', (∃ p : Regrown, w' = grow (redrawn w p.d) p.os) → wpAnyH P .any l.toArray Q (fun w' => ∃ p : Regrown, w' = grow (redrawn w p.d) p.os) m (listedUp n 0 (Array.replicate l.length false)) a' w') (l.take n) a) :
    (Code.region id l.toArray true).wp P Q a w :=
  wp_region_first n m hm hs hn hp hB hQ ⟨⟨w.drawn + 1, #[]⟩, by rw [grow_empty]; rfl⟩ h
/-- one operation alone may come up -/
theorem wpAnyH_one {S : World → Prop} {i : Nat} {o : Oper} {fuel : Nat} {listed : Array Bool} {a : Act} {w : World} (hr : Region.ready md ops listed = [i]) (ho : ops[i]? = some o)
    (h : ∀ K' : Act → World → Prop, Shut (∀ a w, S w → (S w → wpAnyH P md ops Q S fuel (listed.setIfInBounds i true) a w) → K' a w) → if Region.wanted o (yielded ops a.tmps) = true then Oper.wp P o a w K' Q else K' (a.put o.dst undef) w) :
    wpAnyH P md ops Q S (fuel + 1) listed a w :=
  wpAnyH_ready hr (by simp) (AllReadyH.cons ho h AllReadyH.nil)
end

end Go.Proofs.YtgblohjdiheemaaGreat

/- A region that draws its order: operations that only read are taken first; behind those that wait for all of them nothing need be kept. -/
namespace Go.Proofs.YtgblohjdiheemaaGreat
open Go.RowKit Go.Sort

section
variable {P : Program} {ops : Array Oper} {md : Region.Mode} {S : World → Prop} {Q : Exit → Act → World → Prop} {ex : List Nat}
/-- whatever order is picked, and every operation but those of ex keeps S -/
def wpAnyG (P : Program) (md : Region.Mode) (ops : Array Oper) (Q : Exit → Act → World → Prop) (S : World → Prop) (ex : List Nat) : Nat → Array Bool → Act → World → Prop
  | 0, listed, a, w => Region.ready md ops listed = [] ∧ Q .normal a w
  | fuel + 1, listed, a, w =>
    (Region.ready md ops listed = [] → Q .normal a w) ∧
    ∀ i ∈ Region.ready md ops listed, wpOp P ops Q i (fun a' w' => (ex.contains i = false → S w → S w') ∧ wpAnyG P md ops Q S ex fuel (listed.setIfInBounds i true) a' w') a w
theorem wpAny_of_G : ∀ (fuel : Nat) (listed : Array Bool) (a : Act) (w : World), wpAnyG P md ops Q S ex fuel listed a w → wpAny P md ops Q fuel listed a w
  | 0, _, _, _, h => h
  | fuel + 1, _, _, _, h => ⟨h.1, fun i hi => wpOp_mono (fun a' w' h' => wpAny_of_G fuel _ a' w' h'.2) (h.2 i hi)⟩
/-- what has come up: with each operation those that it waits for -/
def Closed (md : Region.Mode) (ops : Array Oper) (listed : Array Bool) : Prop := ∀ j o, ops[j]? = some o → listed.getD j false = true → ∀ e ∈ o.after, Region.binds md e = true → listed.getD e.on false = true
theorem Closed.set {listed : Array Bool} {j : Nat} (h : Closed md ops listed) (hj : j ∈ Region.ready md ops listed) : Closed md ops (listed.setIfInBounds j true) := by
  intro k o ho hk e he hb
  obtain ⟨h0, oj, hoj, hall⟩ := mem_ready.1 hj
  by_cases hjk : j = k
  · subst hjk
    rw [hoj] at ho
    injection ho with ho
    subst ho
    exact getD_set_true (hall e he hb)
  · rw [getD_set_ne false hjk] at hk
    exact getD_set_true (h k o ho hk e he hb)
theorem Closed.start (m : Nat) : Closed md ops (Array.replicate m false) := fun j o _ hj => by
  have : (Array.replicate m false).getD j false = false := by
    simp only [Array.getD_eq_getD_getElem?, Array.getElem?_replicate]
    split <;> rfl
  rw [this] at hj
  cases hj
/-- operation n waits for i -/
def waits (md : Region.Mode) (ops : Array Oper) (i : Nat) : Nat → Nat → Bool
  | 0, _ => false
  | f + 1, n => match ops[n]? with
    | none => false
    | some o => o.after.toList.any fun e => Region.binds md e && (e.on == i || waits md ops i f e.on)
theorem waits_listed {listed : Array Bool} {i : Nat} (hc : Closed md ops listed) : ∀ (f n : Nat), waits md ops i f n = true → (∀ o, ops[n]? = some o → ∀ e ∈ o.after, Region.binds md e = true → listed.getD e.on false = true) → listed.getD i false = true
  | 0, _, h, _ => by simp [waits] at h
  | f + 1, n, h, hd => by
    unfold waits at h
    cases ho : ops[n]? with
    | none => rw [ho] at h; simp at h
    | some o =>
      rw [ho] at h
      simp only [List.any_eq_true, Bool.and_eq_true, Bool.or_eq_true, beq_iff_eq] at h
      obtain ⟨e, he', hb, h1 | h1⟩ := h
      all_goals have he : e ∈ o.after := by simpa using he'
      · rw [← h1]; exact hd o ho e he hb
      · exact waits_listed hc f e.on h1 (fun o' ho' => hc e.on o' ho' (hd o ho e he hb))
theorem waits_not {listed : Array Bool} {i n f : Nat} (hc : Closed md ops listed) (h : waits md ops i f n = true) (hn : n ∈ Region.ready md ops listed) (hi : i ∈ Region.ready md ops listed) : False := by
  obtain ⟨_, o, ho, hall⟩ := mem_ready.1 hn
  have h1 := waits_listed hc f n h (fun o' ho' => by rw [ho] at ho'; injection ho' with ho'; subst ho'; exact hall)
  have h2 := (mem_ready.1 hi).1
  rcases Nat.lt_or_ge i listed.size with h' | h'
  · simp [h'] at h1 h2; rw [h1] at h2; cases h2
  · simp [Array.getElem?_eq_none h'] at h1
theorem wpAnyG_first {T : World → Prop} {i : Nat} {oi : Oper} {v : Value} (hi : ops[i]? = some oi) (hsel : ∀ (j : Nat) (o : Oper) cs b, ops[j]? = some o → o.op ≠ .select cs b)
    (hQ : ∀ c a w, Q (.panic c) (a.put oi.dst v) w → Q (.panic c) a w)
    (hT : ∀ (listed : Array Bool) (j : Nat) (w w' : World), Closed md ops listed → j ∈ Region.ready md ops listed → i ∈ Region.ready md ops listed → T w → (ex.contains j = false → S w → S w') → T w') :
    ∀ (fuel : Nat) (listed : Array Bool) (a : Act) (w : World), Closed md ops listed →
      (∀ j oj, ops[j]? = some oj → j ≠ i → listed.getD j true = false → (∀ e ∈ oj.after, Region.binds md e = true → e.on ≠ i) → oi.apart ops oj = true) →
      i ∈ Region.ready md ops listed → YieldsIf P ops T oi v a → T w →
      wpAnyG P md ops Q S ex fuel (listed.setIfInBounds i true) (a.put oi.dst v) w → wpAnyG P md ops Q S ex (fuel + 1) listed a w := by
  intro fuel
  induction fuel with
  | zero =>
    intro listed a w hc _ hr hy hS H
    refine ⟨fun h => (by rw [h] at hr; cases hr), fun j hj => ?_⟩
    by_cases hji : j = i
    · subst hji; exact hy.wpOp hi hS ⟨fun _ h => h, H⟩
    · have := ready_mono hj hji
      rw [H.1] at this
      cases this
  | succ fuel ih =>
    intro listed a w hc hfree hr hy hS H
    refine ⟨fun h => (by rw [h] at hr; cases hr), fun j hj => ?_⟩
    by_cases hji : j = i
    · subst hji; exact hy.wpOp hi hS ⟨fun _ h => h, H⟩
    · have h1 := H.2 j (ready_mono hj hji)
      obtain ⟨hjun, oj, hoj, hall⟩ := mem_ready.1 hj
      have hnot : ∀ e ∈ oj.after, Region.binds md e = true → e.on ≠ i := fun e he hb heq => by
        have h1 := hall e he hb
        have h0 := (mem_ready.1 hr).1
        rw [heq] at h1
        rcases Nat.lt_or_ge i listed.size with h' | h'
        · simp [h'] at h0 h1; rw [h0] at h1; cases h1
        · simp [Array.getElem?_eq_none h'] at h1
      have h2 := wpOp_putIf hoj (hfree j oj hoj hji hjun hnot) (fun cs b => hsel i oi cs b hi) (fun cs b => hsel j oj cs b hoj) hQ hy h1
      have hfree' : ∀ k ok, ops[k]? = some ok → k ≠ i → (listed.setIfInBounds j true).getD k true = false →
          (∀ e ∈ ok.after, Region.binds md e = true → e.on ≠ i) → oi.apart ops ok = true := fun k ok hk hki hun hno => by
        refine hfree k ok hk hki ?_ hno
        by_cases hjk : j = k
        · subst hjk; exact hjun
        · rw [getD_set_ne true hjk] at hun; exact hun
      refine wpOp_mono (fun a' w' h3 => ⟨h3.2.1, ih (listed.setIfInBounds j true) a' w' (hc.set hj) hfree' (ready_mono hr (Ne.symm hji)) h3.1 (hT listed j w w' hc hj hr hS h3.2.1) ?_⟩) h2
      rw [Array.setIfInBounds_comm _ _ hji]
      exact h3.2.2
/-- the operations that are taken first, in the order of the list -/
def pickUp (md : Region.Mode) (ops : Array Oper) (ex : List Nat) : List Nat → Array Bool → Bool
  | [], _ => true
  | i :: is, listed => (Region.ready md ops listed).contains i && Region.free md ops listed i && (ex.all fun n => waits md ops i ops.size n) && pickUp md ops ex is (listed.setIfInBounds i true)
def picked : List Nat → Array Bool → Array Bool
  | [], listed => listed
  | i :: is, listed => picked is (listed.setIfInBounds i true)
theorem Closed.picked {ex : List Nat} : ∀ (is : List Nat) (listed : Array Bool), pickUp md ops ex is listed = true → Closed md ops listed → Closed md ops (picked is listed)
  | [], _, _, h => h
  | i :: is, listed, hB, h => by
    simp only [pickUp, Bool.and_eq_true] at hB
    exact Closed.picked is _ hB.2 (h.set (by simpa using hB.1.1.1))
theorem wpAnyG_pick (hs : Region.noSelect ops = true) (hQ : ∀ c a d v w, Q (.panic c) (Act.put a d v) w → Q (.panic c) a w) (m : Nat) :
    ∀ (is : List Nat) (l : List Oper) (listed : Array Bool) (a : Act) (w : World), is.length = l.length → (∀ j, j < l.length → l[j]? = (is[j]?).bind fun i => ops[i]?) → l.all plainOp = true → pickUp md ops ex is listed = true → Closed md ops listed → S w →
      wpQuiet P ops S (fun a' => ∀ w', S w' → wpAnyG P md ops Q S ex m (picked is listed) a' w') l a → wpAnyG P md ops Q S ex (l.length + m) listed a w
  | [], [], _, _, w, _, _, _, _, _, hC, h => by
    have := h w hC
    rw [List.length_nil, Nat.zero_add]
    exact this
  | [], _ :: _, _, _, _, hl, _, _, _, _, _, _ => by simp at hl
  | _ :: _, [], _, _, _, hl, _, _, _, _, _, _ => by simp at hl
  | i :: is, o :: l, listed, a, w, hlen, hl, hp, hB, hcl, hC, h => by
    have h0 : ops[i]? = some o := by simpa using (hl 0 (by simp)).symm
    simp only [pickUp, Bool.and_eq_true] at hB
    obtain ⟨⟨⟨hr, hf⟩, hw⟩, hB'⟩ := hB
    rw [List.all_cons, Bool.and_eq_true] at hp
    have hst : qOp P ops S i (wpQuiet P ops S (fun a' => ∀ w', S w' → wpAnyG P md ops Q S ex m (picked (i :: is) listed) a' w') l) a := by unfold qOp; simp only [h0]; exact h
    obtain ⟨v, hy, hK⟩ := yieldsIn_of_qOp h0 hst
    have hri : i ∈ Region.ready md ops listed := by simpa using hr
    rw [List.length_cons, show l.length + 1 + m = l.length + m + 1 by omega]
    refine wpAnyG_first (T := S) h0 (Region.noSelect_spec hs) (fun c a w => hQ c a _ _ w) (fun listed' j w0 w' hc hj hi' hS0 hx => ?_) (l.length + m) listed a w hcl (Region.free_spec h0 hf) hri (yieldsIf_of_plain hp.1 hy) hC
      (wpAnyG_pick hs hQ m is l _ _ w (by simpa using hlen) (fun j hj => by have := hl (j + 1) (by simpa using hj); simpa using this) hp.2 hB' (hcl.set hri) hC hK)
    cases hxj : ex.contains j with
    | false => exact hx hxj hS0
    | true =>
      have hm : j ∈ ex := by simpa using hxj
      exact (waits_not hc (List.all_eq_true.1 hw j hm) hj hi').elim
/-- **the first n operations only read, in the worlds in which of what was there nothing has turned; the rest in whatever order; behind those of ex nothing is kept** -/
theorem wp_region_sink (n : Nat) (ex : List Nat) (m : Nat) {id : Nat} {a : Act} {w : World} {l : List Oper} (hm : P.follows .mixedOrders = true) (hs : Region.noSelect l.toArray = true) (hn : (l.length == n + m) = true) (hp : (l.take n).all plainOp = true)
    (hB : pickUp .any l.toArray ex (List.range n) (Array.replicate l.length false) = true) (hQ : ∀ c a d v w, Q (.panic c) (Act.put a d v) w → Q (.panic c) a w)
    (h : wpQuiet P l.toArray (fun w' => ∃ p : Regrown, w' = grow (redrawn w p.d) p.os) (fun a' => ∀ w', (∃ p : Regrown, w' = grow (redrawn w p.d) p.os) → wpAnyG P .any l.toArray Q (fun w' => ∃ p : Regrown, w' = grow (redrawn w p.d) p.os) ex m (picked (List.range n) (Array.replicate l.length false)) a' w') (l.take n) a) :
    (Code.region id l.toArray true).wp P Q a w := by
  have hn' : l.length = n + m := by simpa using hn
  have hl : (l.take n).length = n := by rw [List.length_take]; omega
  have := wpAnyG_pick (P := P) (md := .any) (S := fun w' => ∃ p : Regrown, w' = grow (redrawn w p.d) p.os) (Q := Q) (ex := ex) hs hQ m (List.range n) (l.take n) (Array.replicate l.length false) a { w with drawn := w.drawn + 1 } (by rw [hl, List.length_range])
    (fun j hj => by rw [hl] at hj; simp [hj]) hp hB (Closed.start _) ⟨⟨w.drawn + 1, #[]⟩, by rw [grow_empty]; rfl⟩ h
  refine wp_region_any hm (wpAny_of_G (S := fun w' => ∃ p : Regrown, w' = grow (redrawn w p.d) p.os) (ex := ex) _ _ _ _ ?_)
  rw [hl, ← hn'] at this
  simpa using this
/-- one operation alone may come up -/
theorem wpAnyG_one {i : Nat} {o : Oper} {fuel : Nat} {listed : Array Bool} {a : Act} {w : World} (hr : Region.ready md ops listed = [i]) (ho : ops[i]? = some o)
    (h : ∀ K' : Act → World → Prop, Shut (∀ a w, S w → (S w → wpAnyG P md ops Q S ex fuel (listed.setIfInBounds i true) a w) → K' a w) → if Region.wanted o (yielded ops a.tmps) = true then Oper.wp P o a w K' Q else K' (a.put o.dst undef) w) :
    wpAnyG P md ops Q S ex (fuel + 1) listed a w := by
  refine ⟨fun h0 => absurd (hr ▸ h0) (by simp), fun j hj => ?_⟩
  rw [hr] at hj
  obtain rfl : j = i := by simpa using hj
  exact wpOp_step ho (fun K' hK => h K' (fun a w hS hW => hK a w ⟨fun _ _ => hS, hW hS⟩))
/-- .. and nothing is kept behind it -/
theorem wpAnyG_last {i : Nat} {o : Oper} {fuel : Nat} {listed : Array Bool} {a : Act} {w : World} (hr : Region.ready md ops listed = [i]) (ho : ops[i]? = some o) (hx : ex.contains i = true)
    (h : ∀ K' : Act → World → Prop, Shut (∀ a w, wpAnyG P md ops Q S ex fuel (listed.setIfInBounds i true) a w → K' a w) → if Region.wanted o (yielded ops a.tmps) = true then Oper.wp P o a w K' Q else K' (a.put o.dst undef) w) :
    wpAnyG P md ops Q S ex (fuel + 1) listed a w := by
  refine ⟨fun h0 => absurd (hr ▸ h0) (by simp), fun j hj => ?_⟩
  rw [hr] at hj
  obtain rfl : j = i := by simpa using hj
  exact wpOp_step ho (fun K' hK => h K' (fun a w hW => hK a w ⟨(fun e _ => by rw [hx] at e; cases e), hW⟩))
/-- an operation that no world turns is taken -/
theorem wpAnyG_takeW {i : Nat} {oi : Oper} {v : Value} {fuel : Nat} {listed : Array Bool} {a : Act} {w : World} (hi : ops[i]? = some oi) (hs : Region.noSelect ops = true) (hf : Region.free md ops listed i = true) (hr : (Region.ready md ops listed).contains i = true)
    (hQ : ∀ c a w, Q (.panic c) (a.put oi.dst v) w → Q (.panic c) a w) (hc : Closed md ops listed) (hw : Region.wanted oi (yielded ops a.tmps) = true) (hy : ∀ w, (execOp a.eval oi).run P w = .ok (.value v) w)
    (h : wpAnyG P md ops Q S ex fuel (listed.setIfInBounds i true) (a.put oi.dst v) w) : wpAnyG P md ops Q S ex (fuel + 1) listed a w :=
  wpAnyG_first (T := fun _ => True) hi (Region.noSelect_spec hs) hQ (fun _ _ _ _ _ _ _ _ _ => trivial) fuel listed a w hc (Region.free_spec hi hf) (by simpa using hr) (.inl ⟨hw, fun w _ => hy w⟩) trivial h
theorem wpAnyG_done {listed : Array Bool} {a : Act} {w : World} (hr : Region.ready md ops listed = []) (h : Q .normal a w) : ∀ fuel, wpAnyG P md ops Q S ex fuel listed a w
  | 0 => ⟨hr, h⟩
  | _ + 1 => ⟨fun _ => h, by rw [hr]; simp⟩
end

end Go.Proofs.YtgblohjdiheemaaGreat

/- Ours: watch.Views. -/
namespace Go.Proofs.YtgblohjdiheemaaGreat
open Go.RowKit Go.Maps Go.Sort

theorem cntC_le_all (si : List Si) (L M : List Fv) : ∀ h i, (ctJ si L M h i).o + (ctJ si L M h i).n ≤ M.length := fun _ _ => cntC_le _ _ _ _
theorem regrown_block {w : World} {b : Nat} (hb : b < w.heap.size) (d : Nat) (os : Array Obj) : (Go.Sort.grow (redrawn w d) os).heap[b]? = w.heap[b]? := (below_regrown w d os).block b hb
/-- P23.1 -/
def viewsA (m : IM) (L : List Fv) : List Vw := if okI m = true then viewsL m.si L else []
set_option maxRecDepth 20000 in
set_option maxHeartbeats 8000000 in
theorem views_any (m : IM) (pb pk ps pu : Option Addr) (nb cb nk ck ns cs nu cu : Nat) (p : Option Addr) (n c : Nat) (L : List Fv) (w : World) (hI : ImIn w m pb pk ps pu nb cb nk ck ns cs nu cu) (hn : L.length = n) (hn2 : n ≤ 1000000) (hr : KRow fE w p L) (hok : ∀ x ∈ L, FvOk x) :
    Calls Tryz.prog 9 #[.agg (imA pb pk ps pu nb cb nk ck ns cs nu cu), .slice p n c] w fun e w' => ∃ v, e = .returned v ∧ KOwn fW 39 w' w.heap.size v (viewsA m L) ∧ Below w.heap.size w w' := by
  have HI := Hid.in hI
  have HN := Hid.in hn
  have HR := Hid.in hr
  have HOK := Hid.in hok
  have HA0 := Hid.in (Blk.new w 27 (imA pb pk ps pu nb cb nk ck ns cs nu cu))
  have HB0 := Hid.in (new_alloc w (.cells (imA pb pk ps pu nb cb nk ck ns cs nu cu) 27))
  clear hI hn hr hok
  cases ho : okI m with
  | false =>
    have HV : Hid (viewsA m L = []) := by show viewsA m L = []; unfold viewsA; rw [if_neg (by rw [ho]; simp)]
    rw [HV.out]
    have hc := iright_any m pb pk ps pu nb cb nk ck ns cs nu cu _ (HI.out.below HB0.out)
    rw [ho] at hc
    go_enter Tryz.func9, Tryz.ntmps9
    go_upto_region 1 with fail
    generalize w.alloc (.cells (imA pb pk ps pu nb cb nk ck ns cs nu cu) 27) = w0 at *
    have a0 : w0.cell? ⟨w.heap.size, 0, none⟩ = some (.slice pb nb cb) := HA0.out.cell 0
    have a1 : w0.cell? ⟨w.heap.size, 1, none⟩ = some (.slice pk nk ck) := HA0.out.cell 1
    have a2 : w0.cell? ⟨w.heap.size, 2, none⟩ = some (.slice ps ns cs) := HA0.out.cell 2
    have a3 : w0.cell? ⟨w.heap.size, 3, none⟩ = some (.slice pu nu cu) := HA0.out.cell 3
    go_wp2_with (go_at_call 31; refine Hid.out ?_)
    refine Lib.hid ?_
    (with_reducible refine hc.mono ?_)
    rintro e w1 ⟨rfl, hb⟩
    have HB1 := Hid.in (below_step HB0.out hb)
    clear hc hb a0 a1 a2 a3
    go_wp2_with fail
    go_ret
    exact ⟨_, rfl, KOwn.nil _ _ _ _, HB1.out⟩
  | true =>
    have HV : Hid (viewsA m L = viewsL m.si L) := by show viewsA m L = _; unfold viewsA; rw [if_pos ho]
    rw [HV.out]
    have HONE := Hid.in (okI_one ho).1
    have HLEN := Hid.in (okI_one ho).2.1
    have HSOK := Hid.in (okI_one ho).2.2
    have hc := iright_any m pb pk ps pu nb cb nk ck ns cs nu cu _ (HI.out.below HB0.out)
    rw [ho] at hc
    clear ho HV
    go_enter Tryz.func9, Tryz.ntmps9
    go_upto_region 1 with fail
    generalize w.alloc (.cells (imA pb pk ps pu nb cb nk ck ns cs nu cu) 27) = w0 at *
    have a0 : w0.cell? ⟨w.heap.size, 0, none⟩ = some (.slice pb nb cb) := HA0.out.cell 0
    have a1 : w0.cell? ⟨w.heap.size, 1, none⟩ = some (.slice pk nk ck) := HA0.out.cell 1
    have a2 : w0.cell? ⟨w.heap.size, 2, none⟩ = some (.slice ps ns cs) := HA0.out.cell 2
    have a3 : w0.cell? ⟨w.heap.size, 3, none⟩ = some (.slice pu nu cu) := HA0.out.cell 3
    go_wp2_with (go_at_call 31; refine Hid.out ?_)
    refine Lib.hid ?_
    (with_reducible refine hc.mono ?_)
    rintro e w1 ⟨rfl, hb⟩
    have HB1 := Hid.in (below_step HB0.out hb)
    have HA1 := Hid.in (HA0.out.grow hb)
    clear hc hb a0 a1 a2 a3 HA0 HB0
    have a2 : w1.cell? ⟨w.heap.size, 2, none⟩ = some (.slice ps ns cs) := HA1.out.cell 2
    have hS := sitesBy_any ps ns cs m.si w1 HI.out.ls (by rw [← HI.out.ls]; have := HLEN.out; omega) (HI.out.rs.below HB1.out) (fun s hs => (HSOK.out s hs).1)
    go_wp2_with (go_at_call 32; refine Hid.out ?_)
    refine Lib.hid ?_
    (with_reducible refine hS.mono ?_)
    rintro e w2 ⟨gs, rfl, hgs, hms, hb⟩
    have HB2 := Hid.in (below_step HB1.out hb)
    have HA2 := Hid.in (HA1.out.grow hb)
    have HMS := Hid.in hms
    have hC := lastCalls_any p n c L w2 HN.out (by omega) (HR.out.below HB2.out) HOK.out
    clear hS hb hms hgs HB1 HA1 a2
    go_wp2_with (go_at_call 33; refine Hid.out ?_)
    refine Lib.hid ?_
    (with_reducible refine hC.mono ?_)
    rintro e w3 ⟨gc, mc, rfl, hgc, hmc, hb⟩
    have HB3 := Hid.in (below_step HB2.out hb)
    have HA3 := Hid.in (HA2.out.grow hb)
    have HMS3 := Hid.in (HMS.out.below hb)
    have HMC := Hid.in hmc
    clear hC hb hmc hgc HB2 HA2 HMS
    have hmm := @run_makeMap Tryz.prog
    go_upto_region 5 with fail
    have HM0 : Hid (MapK mV (w3.alloc (.map #[] 0)) w3.heap.size 0 (vwF m.si L [])) := (MapK.made mV w3).congrAll (vwF_nil _ _).symm
    have HB4 := Hid.in (new_alloc w3 (.map #[] 0))
    clear hmm
    generalize w3.alloc (.map #[] 0) = w4 at *
    go_wp2_with fail
    go_loopw [25] (fun vi wr => ∃ j : Nat, vi = .int .i64 j ∧ j ≤ n ∧ (∃ k, k ≤ j ∧ MapK mV wr w3.heap.size k (vwF m.si L (L.take j))) ∧ Below w3.heap.size w3 wr) (fun vi _ => n - (intOf vi).toNat)
    case atStart => exact ⟨0, rfl, Nat.zero_le _, ⟨0, Nat.le_refl _, HM0.out⟩, HB4.out⟩
    case round =>
      obtain ⟨j, rfl, hj, ⟨k, hkj, hM⟩, hB⟩ := hrel
      have HM := Hid.in hM
      have HB := Hid.in hB
      clear hM hB HM0 HB4
      by_cases hlt : j < n
      · have hjL : j < L.length := by rw [HN.out]; exact hlt
        have HRr : Hid (KRow fE wr p L) := HR.out.below (HB3.out.trans (HB.out.mono HB3.out.size))
        obtain ⟨b, o, rfl, hc⟩ := ev7 HRr.out (by omega)
        obtain ⟨c0, c1, c2, c3, c4, c5, c6⟩ := hc j hjL
        have hx := HOK.out _ (List.getElem_mem hjL)
        have HT := Hid.in (take_snoc L j hjL)
        have HCL := Hid.in (cntC_le_all m.si L (L.take j))
        have HTL : Hid ((L.take j).length ≤ j) := by show _ ≤ _; rw [List.length_take]; omega
        generalize L[j] = x at *
        have g1 : decide ((j : Int) < (n : Int)) = true := decide_eq_true (by omega)
        have w9 : IntKind.i64.wrap ((j : Int) + 1) = (j : Int) + 1 := by rw [IntKind.wrap_i64]; omega
        have hxn := new_alloc wr (.cells (evA x) 34)
        have HB1 := Hid.in (below_step HB.out hxn)
        have HM1 := Hid.in (HM.out.below hxn)
        have HE1 := Hid.in (Blk.new wr 34 (evA x))
        have HDx := Hid.in (fun W => deed_any x W)
        have HPx : Hid (dd x = 0 → vwF m.si L (L.take (j + 1)) = vwF m.si L (L.take j)) := fun e => by rw [HT.out]; exact vwF_skip (.inl e)
        have HQx : Hid (sitM m.si ns x.p = none → vwF m.si L (L.take (j + 1)) = vwF m.si L (L.take j)) := fun e => by
          rw [HT.out]
          refine vwF_skip (.inr fun i hi => ?_)
          exact sitM_none ns x.p e i (by rw [← HI.out.ls]; exact hi)
        have HUx : Hid (dd x ≠ 0 → ∀ z, sitM m.si ns x.p = some z → ∃ i : Nat, z = i ∧ i < m.si.length ∧ upd (vwF m.si L (L.take j)) ⟨x.h, i⟩ (withV (ctV (ctJ m.si L (L.take j) x.h i)) (nwB (callL L (m.si.getD i default).key) (dd x))) = vwF m.si L (L.take (j + 1)) ∧ (vwF m.si L (L.take j) ⟨x.h, i⟩).getD ⟨0, 0, 0, 0, false⟩ = ctV (ctJ m.si L (L.take j) x.h i)) := fun hd z hz => by
          obtain ⟨i, hi, e1, e2⟩ := sitM_some ns x.p z hz
          have hi' : i < m.si.length := by rw [HI.out.ls]; exact hi
          have hg := vwF_get m.si L (L.take j) x.h i hi'
          have hp := vwF_put (L := L) (M := L.take j) HONE.out hd i hi' e2
          rw [hg, ← HT.out] at hp
          exact ⟨i, e1, hi', hp, hg⟩
        have HLKs := Hid.in (fun (W : World) hW => ((HMS3.out.below HB1.out).look x.p hx.p W hW).1)
        have HSz : Hid (gs < (wr.alloc (.cells (evA x) 34)).heap.size) := (HMS3.out.below HB1.out).lt
        clear hc HRr HT hxn HB
        go_upto_region 8 with fail
        generalize wr.alloc (.cells (evA x) 34) = wE at *
        have d0 : wE.cell? ⟨wr.heap.size, 0, none⟩ = some (.int .u8 x.k) := HE1.out.cell 0
        have d1 : wE.cell? ⟨wr.heap.size, 1, none⟩ = some (.int .i64 x.st) := HE1.out.cell 1
        have d2 : wE.cell? ⟨wr.heap.size, 2, none⟩ = some (.int .i64 x.h) := HE1.out.cell 2
        have d3 : wE.cell? ⟨wr.heap.size, 3, none⟩ = some (.int .i64 x.p) := HE1.out.cell 3
        have d4 : wE.cell? ⟨wr.heap.size, 4, none⟩ = some (.int .u8 x.o) := HE1.out.cell 4
        have d5 : wE.cell? ⟨wr.heap.size, 5, none⟩ = some (.int .i64 x.ky) := HE1.out.cell 5
        have d6 : wE.cell? ⟨wr.heap.size, 6, none⟩ = some (.int .i64 x.n) := HE1.out.cell 6
        have hdd := HDx.out wE
        go_wp2_with (go_at_call 34; refine Hid.out ?_)
        refine Lib.hid ?_
        (with_reducible refine hdd.mono ?_)
        rintro e w6 ⟨rfl, hb⟩
        have HB6 := Hid.in (below_step HB1.out hb)
        have HM6 := Hid.in (HM1.out.below hb)
        have HE6 := Hid.in (HE1.out.grow hb)
        have hl := HLKs.out w6 (hb.block gs HSz.out)
        have HDu := Hid.in (dd_u8 x)
        clear hdd hb d0 d1 d2 d3 d4 d5 d6 HB1 HM1 HE1 HDx HLKs HSz c0 c1 c2 c3 c4 c5 c6
        have d3 : w6.cell? ⟨wr.heap.size, 3, none⟩ = some (.int .i64 x.p) := HE6.out.cell 3
        by_cases h0 : dd x = 0
        · have HE := Hid.in (HPx.out h0)
          rw [h0]
          cases hs : sitM m.si ns x.p with
          | none =>
            rw [hs] at hl
            have hl' : (Instr.lookup 71 (.map (some gs)) (.int .i64 x.p) true).run Tryz.prog w6 = .ok (.tuple #[.int .i64 0, .bool false]) w6 := hl
            clear hl hs HPx HQx HUx h0
            go_wp2_with fail
            go_roundw
            case rel => exact ⟨j + 1, by go_num, by omega, ⟨k, by omega, by rw [HE.out]; exact HM6.out⟩, HB6.out⟩
            case measure => simp [intOf]; omega
          | some z =>
            rw [hs] at hl
            have hl' : (Instr.lookup 71 (.map (some gs)) (.int .i64 x.p) true).run Tryz.prog w6 = .ok (.tuple #[.int .i64 z, .bool true]) w6 := hl
            clear hl hs HPx HQx HUx h0
            go_wp2_with fail
            go_roundw
            case rel => exact ⟨j + 1, by go_num, by omega, ⟨k, by omega, by rw [HE.out]; exact HM6.out⟩, HB6.out⟩
            case measure => simp [intOf]; omega
        · have e0 : (dd x == 0) = false := by simpa using h0
          cases hs : sitM m.si ns x.p with
          | none =>
            have HE := Hid.in (HQx.out hs)
            rw [hs] at hl
            have hl' : (Instr.lookup 71 (.map (some gs)) (.int .i64 x.p) true).run Tryz.prog w6 = .ok (.tuple #[.int .i64 0, .bool false]) w6 := hl
            clear hl hs HPx HQx HUx h0
            generalize dd x = d at *
            go_wp2_with fail
            go_roundw
            case rel => exact ⟨j + 1, by go_num, by omega, ⟨k, by omega, by rw [HE.out]; exact HM6.out⟩, HB6.out⟩
            case measure => simp [intOf]; omega
          | some z =>
            obtain ⟨i, rfl, hi, hput, hget⟩ := HUx.out h0 z hs
            rw [hs] at hl
            have hl' : (Instr.lookup 71 (.map (some gs)) (.int .i64 x.p) true).run Tryz.prog w6 = .ok (.tuple #[.int .i64 i, .bool true]) w6 := hl
            clear hl hs HPx HQx HUx h0
            have d2 : w6.cell? ⟨wr.heap.size, 2, none⟩ = some (.int .i64 x.h) := HE6.out.cell 2
            have HS0 : Hid (Row3 w6 ps (m.si.map siV)) := HI.out.rs.below (HB3.out.trans (HB6.out.mono HB3.out.size))
            obtain ⟨sb, so, rfl, hsc⟩ := HS0.out.at3 (by omega)
            obtain ⟨s0, -, -⟩ := hsc i hi
            have hkey : i64P (m.si[i]).key := (HSOK.out _ (List.getElem_mem hi)).2
            have ekey : (m.si.getD i default).key = (m.si[i]).key := by simp [List.getD, hi]
            have hct := HCL.out x.h i
            rw [ekey] at hput
            generalize (m.si[i]).key = key at *
            have HKEY := Hid.in hkey
            have HPUT := Hid.in hput
            have HGET := Hid.in hget
            have HCT : Hid ((ctJ m.si L (L.take j) x.h i).o ≤ 1000000 ∧ (ctJ m.si L (L.take j) x.h i).n ≤ 1000000) := by
              have := HTL.out
              exact ⟨by omega, by omega⟩
            have HIV : Hid (viOk ⟨x.h, i⟩) := ⟨hx.h, by show i64P (i : Int); unfold i64P; have := HLEN.out; omega⟩
            have q1 : decide ((i : Int) < 0) = false := decide_eq_false (by omega)
            have q2 : decide ((ns : Int) ≤ (i : Int)) = false := decide_eq_false (by have := HI.out.ls; omega)
            have q3 : (0 : Int) ≤ (i : Int) := by omega
            have q4 : (i : Int) < (ns : Int) := by have := HI.out.ls; omega
            have HA6 := Hid.in (HA3.out.grow HB6.out)
            clear hput hget hkey ekey hct hsc HCL
            generalize ctJ m.si L (L.take j) x.h i = ct at *
            have hbn := new_alloc w6 (.cells #[.int .i64 x.h, .int .i64 i] 80)
            have HB7 := Hid.in (below_step HB6.out hbn)
            have HM7 := Hid.in (HM6.out.below hbn)
            have HV7 := Hid.in (Blk.new w6 80 #[.int .i64 x.h, .int .i64 i])
            have HA7 := Hid.in (HA6.out.grow hbn)
            have s7 := (hbn.cell (p := ⟨sb, so + i * 3, none⟩) (cell_lt s0)).trans s0
            go_upto_region 12 with fail
            clear hbn s0 d2 d3 hl'
            generalize w6.alloc (.cells #[.int .i64 x.h, .int .i64 i] 80) = w7 at *
            have HLK : Hid (∀ W : World, W.heap[w3.heap.size]? = w7.heap[w3.heap.size]? → (Instr.lookup 75 (.map (some w3.heap.size)) (.agg #[.int .i64 x.h, .int .i64 i]) false).run Tryz.prog W = .ok (.agg (vwA (ctV ct))) W) := fun W hW => by
              have h := (HM7.out.look ⟨x.h, i⟩ HIV.out W hW).2
              have hZ : mV.zero = ⟨0, 0, 0, 0, false⟩ := rfl
              rw [hZ, HGET.out] at h
              exact h
            have v0 := fun d os => cell_regrown (HV7.out.cell 0 : w7.cell? ⟨w6.heap.size, 0, none⟩ = some (.int .i64 x.h)) d os
            have v1 := fun d os => cell_regrown (HV7.out.cell 1 : w7.cell? ⟨w6.heap.size, 1, none⟩ = some (.int .i64 i)) d os
            have v2 := fun d os => cell_regrown (HA7.out.cell 2 : w7.cell? ⟨w.heap.size, 2, none⟩ = some (.slice (some ⟨sb, so, none⟩) ns cs)) d os
            have v3 := fun d os => cell_regrown s7 d os
            have v4 := fun d os => HLK.out _ (regrown_block HM7.out.lt d os)
            clear s7
            refine wp_region_noPanic ?_
            refine wp_region_sink 13 [15] 3 (by kernel_rfl) (by kernel_rfl) (by kernel_rfl) (by kernel_rfl) (by kernel_rfl) (fun _ _ _ _ _ h => h) ?_
            simp only [List.take_succ_cons, List.take_zero]
            iterate 13 (go_big_quiet_step (fail))
            refine wpQuiet_nil ?_
            rintro _ ⟨⟨dq, osq⟩, rfl⟩
            have HQ := Hid.in (below_regrown w7 dq osq)
            generalize Go.Sort.grow (redrawn w7 dq) osq = w8 at HQ ⊢
            clear v0 v1 v2 v3 v4 HLK q1 q2 q3 q4
            have HB8 := Hid.in (below_step HB7.out HQ.out)
            have HM8 := Hid.in (HM7.out.below HQ.out)
            have hnw := isNew_any w8 gc mc (callL L) (HMC.out.below HB8.out) (dd x) key HKEY.out
            refine wpAnyG_one (i := 13) (by kernel_rfl) rfl (fun K hK => ?_)
            go_simp
            go_at_call 36
            refine hnw.mono ?_
            rintro e w9 ⟨rfl, rfl⟩
            refine hK.out _ _ (regrown_of_below HQ.out) (fun _ => ?_)
            clear hK K hnw
            have hwi := fun bb => with_any (ctV ct) bb w9 ⟨by show (0 : Int) ≤ (ct.o : Int); omega, by show (ct.o : Int) ≤ 1000000; have := HCT.out; omega⟩ ⟨by show (0 : Int) ≤ (ct.n : Int); omega, by show (ct.n : Int) ≤ 1000000; have := HCT.out; omega⟩
            refine wpAnyG_one (i := 14) (by kernel_rfl) rfl (fun K hK => ?_)
            go_simp
            go_at_call 35
            refine (hwi _).mono ?_
            rintro e w10 ⟨rfl, hb⟩
            have HQ2 := Hid.in (below_step HQ.out hb)
            refine hK.out _ _ (regrown_of_below HQ2.out) (fun _ => ?_)
            clear hK K hwi
            obtain ⟨w11, hrun, hM11, hg11⟩ := (HM8.out.below hb).put ⟨x.h, i⟩ HIV.out (withV (ctV ct) (nwB (callL L key) (dd x))) (by omega)
            have HB10 := Hid.in (below_step HB8.out hb)
            have HB11 := Hid.in (HB10.out.grown hg11 HB10.out.size (fun k' ek => by cases ek; exact Nat.le_refl _))
            have HM11 := Hid.in hM11
            have hrun' : (Instr.mapUpdate 75 (.map (some w3.heap.size)) (.agg #[.int .i64 x.h, .int .i64 i]) (vwV (withV (ctV ct) (nwB (callL L key) (dd x))))).run Tryz.prog w10 = .ok () w11 := hrun
            clear hrun hM11 hg11 hb
            refine wpAnyG_last (i := 15) (by kernel_rfl) rfl rfl (fun K hK => ?_)
            go_simp
            refine hK.out _ _ ?_
            clear hK K
            refine wpAnyG_done (by kernel_rfl) ?_ _
            refine NoPanic.normal ?_
            clear hrun'
            go_wp2_with fail
            go_roundw
            case rel =>
              refine ⟨j + 1, by go_num, by omega, ⟨k + 1, by omega, ?_⟩, HB11.out⟩
              rw [← HPUT.out]
              exact HM11.out
            case measure => simp [intOf]; omega
      · obtain rfl : j = n := by omega
        have HL : Hid (vwF m.si L (L.take j) = vwF m.si L L) := by show _ = _; rw [List.take_of_length_le (by rw [HN.out]; exact Nat.le_refl _)]
        have hO := inOrder_any w3.heap.size k _ wr HM.out (by omega)
        go_wp2_with (go_at_call 37; refine Hid.out ?_)
        refine Lib.hid ?_
        (with_reducible refine hO.mono ?_)
        rintro e w5 ⟨v, ss, rfl, hs1, hs2, hs3, hb⟩
        have HO5 := Hid.in hs3
        have HS1 := Hid.in hs1
        have HS2 := Hid.in hs2
        have HB5 := Hid.in (below_step HB.out hb)
        clear hO hs1 hs2 hs3 hb
        go_wp2_with fail
        go_ret
        refine ⟨_, rfl, ?_, HB3.out.trans (HB5.out.mono HB3.out.size)⟩
        have e := views_order (si := m.si) HOK.out (Nat.le_trans HLEN.out (by decide)) HS1.out (fun x => by rw [← HL.out]; exact HS2.out x)
        rw [← e, ← HL.out]
        exact HO5.out.lower (Nat.le_trans HB3.out.size HB.out.size)
end Go.Proofs.YtgblohjdiheemaaGreat
