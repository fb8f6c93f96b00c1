/- What switchyardkit.mark and ApartInts answer, for lists that lie apart (or are nil). -/
import Derived.Test.YtnmcdkhfjkpklaaGApartS
import Derived.Deep.RegionHeld3
import Derived.Deep.QuietTactic
import Derived.BigQuiet
namespace Go.Proofs.Ytnmcdkhfjkpklaa
open Go.RowKit

/-- the mark of place i in list k -/
def mi (k i : Nat) : Int := 1000003 * ((k : Int) + 7) + (i : Int)
def miV (k i : Nat) : Value := .int .i64 (mi k i)
theorem Try.info22 : (Try.prog.info? 22).map (fun i => (i.zero, i.size, i.bytes)) = some (some (.slice none 0 0), 1, 24) := by kernel_rfl

set_option maxHeartbeats 400000 in
theorem mark_any (k i : Nat) (w : World) (hk : k ≤ 1000) (hi : i ≤ 281474976710656) :
    Calls Try.prog 41 #[.int .i64 k, .int .i64 i] w fun e w' => e = .returned (.int .i64 (mi k i)) ∧ w' = w := by
  go_enter Try.func41, Try.ntmps41
  go_wp2
  go_ret
  exact ⟨rfl, rfl⟩

theorem news_one (w : World) (z : Value) (T : TypeId) : ∀ j u, [z][j]? = some u → (w.alloc (.cells #[z] T)).cell? ((⟨w.heap.size, 0, none⟩ : Addr).add j) = some u := cell_one_new _ _ _

/-- 'append(g, z)' within the room -/
theorem gfits {ops : Array Oper} {rest : List Oper} {o : Oper} {a : Act} {Q : Exit → Act → World → Prop} {t T : TypeId} {by_ : Nat} (he : Elem t T by_) (w : World) (hgd : o.guard = none) (s x : Operand)
    (ho : o.op = .call { callee := .builtin .append, args := #[s, x], argTypes := #[t, t] }) (B g k cap : Nat) (xs : List Value) (hs : a.eval s = .slice (some ⟨g, 0, none⟩) k cap) (hk : xs.length = k) (hown : GOwn T w B g cap xs)
    (ad : Addr) (m : Nat) (z : Value) (hz1 : z.oneCell' = true) (hx : a.eval x = .slice (some ad) 1 m) (hnews : ∀ j u, [z][j]? = some u → w.cell? (ad.add j) = some u) (hroom : k + 1 ≤ cap)
    (h : ∀ w', GOwn T w' B g cap (xs ++ [z]) → w.grownBy w' (some g) → wpList Try.prog ops Q rest (a.put o.dst (.slice (some ⟨g, 0, none⟩) (k + 1) cap)) w') :
    wpList Try.prog ops Q (o :: rest) a w := by
  obtain ⟨hu, z0, hzc, hinfo⟩ := he
  obtain ⟨i0, hi, hz0, hz2, hz3⟩ := info_parts hinfo
  subst hk
  refine wpList_append_fits w hgd s x t ho B T i0 1 hu hi hz2 g xs.length cap xs hs hown ad 1 m [z] hx rfl hnews (fun u hu => ?_) hroom fun w' h1 h2 => h w' ?_ h2
  · rw [List.mem_singleton] at hu
    subst hu
    exact hz1
  · unfold GOwn
    rw [List.length_append]
    exact h1

/-- 'append(g, z)' without room: a new block -/
theorem ggrows {ops : Array Oper} {rest : List Oper} {o : Oper} {a : Act} {Q : Exit → Act → World → Prop} {t T : TypeId} {by_ : Nat} (he : Elem t T by_) (w : World) (hgd : o.guard = none) (s x : Operand)
    (ho : o.op = .call { callee := .builtin .append, args := #[s, x], argTypes := #[t, t] }) (B k cap : Nat) (q : Option Nat) (xs : List Value) (hs : a.eval s = .slice (q.map fun b => ⟨b, 0, none⟩) k cap) (hk : xs.length = k) (hown : GOwnV T w B (sl q k cap) xs)
    (ad : Addr) (m : Nat) (z : Value) (hz1 : z.oneCell' = true) (hx : a.eval x = .slice (some ad) 1 m) (hnews : ∀ j u, [z][j]? = some u → w.cell? (ad.add j) = some u) (hfull : cap < k + 1) (hlen : k + 1 ≤ 140737488355328) (hby : (k + 1) * by_ ≤ 140737488355328)
    (h : ∀ g' cap' w', GOwn T w' w.heap.size g' cap' (xs ++ [z]) → w.grownBy w' none → wpList Try.prog ops Q rest (a.put o.dst (.slice (some ⟨g', 0, none⟩) (k + 1) cap')) w') :
    wpList Try.prog ops Q (o :: rest) a w := by
  obtain ⟨hu, z0, hzc, hinfo⟩ := he
  obtain ⟨i0, hi, hz0, hz2, hz3⟩ := info_parts hinfo
  subst hk
  refine wpList_append_grows w hgd s x t ho T i0 z0 1 by_ hu hi hz0 hz2 hz3 hzc (by decide) _ xs.length cap xs hs (fun e => ?_) (by simp) (fun b e j u hj => ?_) ad 1 m [z] hx rfl hnews (fun u hu => ?_) hfull (by unfold maxLen; omega) hby fun v' w' h1 h2 => ?_
  · cases q with
    | some g => cases e
    | none =>
      rcases hown.shape with ⟨e2, e3⟩ | ⟨g, cap', e2, _⟩
      · injection e2 with _ e4 e5; exact ⟨e4, e5⟩
      · simp [sl] at e2
  · cases q with
    | none => cases e
    | some g =>
      cases e
      have hjl : j < xs.length := by
        rcases Nat.lt_or_ge j xs.length with h | h
        · exact h
        · rw [List.getElem?_eq_none h] at hj; cases hj
      rw [← hj, ← hown.full.2.cell j hjl, Go.WideShapes.add_plain, Nat.zero_add]
  · rw [List.mem_singleton] at hu
    subst hu
    exact hz1
  · have hv : GOwnV T w' w.heap.size v' (xs ++ [z]) := by
      unfold GOwnV
      rw [List.length_append]
      exact h1
    rcases hv.shape with ⟨_, e⟩ | ⟨g', cap', e, ho'⟩
    · simp at e
    · subst e
      rw [List.length_append]
      exact h g' cap' w' ho' h2

end Go.Proofs.Ytnmcdkhfjkpklaa
