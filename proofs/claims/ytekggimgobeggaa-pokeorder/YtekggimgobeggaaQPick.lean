/- A region that draws its order: operations that read what S says are picked first, wherever they stand; behind the operations of ex, which wait for all of these, nothing need be kept. -/
import Derived.Test.YtekggimgobeggaaQSink
namespace Go.Proofs.Ytekggimgobeggaa
open Go.RowKit Go.Sort

theorem wp_region_pick {P : Program} {Q : Exit → Act → World → Prop} (S : World → Prop) (is ex : List Nat) (m : Nat) (ps : List Oper) {id : Nat} {a : Act} {w : World} {l : List Oper} (hm : P.follows .mixedOrders = true) (hs : Region.noSelect l.toArray = true)
    (hn : (l.length == ps.length + m) = true) (hi : is.length = ps.length) (hps : ∀ j, j < ps.length → ps[j]? = (is[j]?).bind fun i => l.toArray[i]?) (hp : ps.all plainOp = true)
    (hB : pickUp .any l.toArray ex is (Array.replicate l.length false) = true) (hQ : ∀ c a d v w, Q (.panic c) (Act.put a d v) w → Q (.panic c) a w) (hS : S w.drew)
    (h : wpQuiet P l.toArray S (fun a' => ∀ w', S w' → wpAnyG P .any l.toArray Q S ex m (picked is (Array.replicate l.length false)) a' w') ps a) :
    (Code.region id l.toArray true).wp P Q a w := by
  have hn' : l.length = ps.length + m := by simpa using hn
  have := wpAnyG_pick (P := P) (md := .any) (S := S) (Q := Q) (ex := ex) hs hQ m is ps (Array.replicate l.length false) a w.drew hi hps hp hB (Closed.start _) hS h
  refine wp_region_any hm (wpAny_of_G (S := S) (ex := ex) _ _ _ _ ?_)
  rw [← hn'] at this
  simpa using this

/-- two operations may come up -/
theorem wpAnyG_two {P : Program} {md : Region.Mode} {ops : Array Oper} {Q : Exit → Act → World → Prop} {S : World → Prop} {ex : List Nat} {i j : Nat} {oi oj : Oper} {fuel : Nat} {listed : Array Bool} {a : Act} {w : World} (hr : Region.ready md ops listed = [i, j]) (hi : ops[i]? = some oi) (hj : ops[j]? = some oj)
    (h1 : ∀ K' : Act → World → Prop, Shut (∀ a w, S w → (S w → wpAnyG P md ops Q S ex fuel (listed.setIfInBounds i true) a w) → K' a w) → if Region.wanted oi (yielded ops a.tmps) = true then Oper.wp P oi a w K' Q else K' (a.put oi.dst undef) w)
    (h2 : ∀ K' : Act → World → Prop, Shut (∀ a w, S w → (S w → wpAnyG P md ops Q S ex fuel (listed.setIfInBounds j true) a w) → K' a w) → if Region.wanted oj (yielded ops a.tmps) = true then Oper.wp P oj a w K' Q else K' (a.put oj.dst undef) w) :
    wpAnyG P md ops Q S ex (fuel + 1) listed a w := by
  refine ⟨fun h0 => absurd (hr ▸ h0) (by simp), fun k hk => ?_⟩
  rw [hr] at hk
  simp only [List.mem_cons, List.not_mem_nil, or_false] at hk
  rcases hk with rfl | rfl
  · exact wpOp_step hi (fun K' hK => h1 K' (fun a w hS hW => hK a w ⟨fun _ _ => hS, hW hS⟩))
  · exact wpOp_step hj (fun K' hK => h2 K' (fun a w hS hW => hK a w ⟨fun _ _ => hS, hW hS⟩))

section
variable {P : Program} {ops : Array Oper} {md : Region.Mode} {S : World → Prop} {Q : Exit → Act → World → Prop} {ex : List Nat}
/-- an operation that reads what S says is taken, the world stays as it is -/
theorem wpAnyG_takeS {i : Nat} {oi : Oper} {v : Value} {fuel : Nat} {listed : Array Bool} {a : Act} {w : World} (hi : ops[i]? = some oi) (hs : Region.noSelect ops = true) (hf : Region.free md ops listed i = true) (hr : (Region.ready md ops listed).contains i = true) (hx : (ex.all fun n => waits md ops i ops.size n) = true)
    (hQ : ∀ c a d v w, Q (.panic c) (Act.put a d v) w → Q (.panic c) a w) (hc : Closed md ops listed) (hw : Region.wanted oi (yielded ops a.tmps) = true) (hS : S w) (hy : ∀ w, S w → (execOp a.eval oi).run P w = .ok (.value v) w)
    (h : wpAnyG P md ops Q S ex fuel (listed.setIfInBounds i true) (a.put oi.dst v) w) : wpAnyG P md ops Q S ex (fuel + 1) listed a w :=
  wpAnyG_first (T := S) hi (Region.noSelect_spec hs) (fun c a w => hQ c a oi.dst v w) (fun l j w w' hcl hj hir hT hk => hk (by
    cases e : ex.contains j
    · rfl
    · have hw' := List.all_eq_true.1 hx j (by simpa using e)
      exact (waits_not hcl hw' hj hir).elim) hT) fuel listed a w hc (Region.free_spec hi hf) (by simpa using hr) (.inl ⟨hw, hy⟩) hS h
theorem wp_region_G (S : World → Prop) (ex : List Nat) {id : Nat} {a : Act} {w : World} {l : List Oper} (hm : P.follows .mixedOrders = true) (h : wpAnyG P .any l.toArray Q S ex l.length (Array.replicate l.length false) a w.drew) : (Code.region id l.toArray true).wp P Q a w := by
  refine wp_region_any hm (wpAny_of_G (S := S) (ex := ex) _ _ _ _ ?_)
  simpa using h
end

end Go.Proofs.Ytekggimgobeggaa
