/- Copying sites; insert, All, Add. -/
import Derived.Test.YtekggimgobeggaaBatB
import Derived.Test.YtekggimgobeggaaW3
import Derived.Test.YtekggimgobeggaaQSink
import Derived.Laws.MakeOwn
namespace Go.Proofs.Ytekggimgobeggaa
open Go.RowKit Go.Sort

section
variable {P : Program}
theorem run_copy_wide (w : World) (dT sT ty elem : TypeId) (k g o dLen dCap : Nat) (a : Addr) (sLen sCap m : Nat) (cur : Array Value) (t : TypeId) (cs : List Value)
    (hu : P.underlying dT = some (.slice elem)) (hs : (P.info? elem).map (·.size) = some k)
    (hg : w.heap[g]? = some (.cells cur t (0, 0))) (hm : Nat.min sLen dLen = m) (hn : cs.length = m * k)
    (hsrc : ∀ j v, cs[j]? = some v → w.cell? (a.add j) = some v) (hfit : o + cs.length ≤ cur.size) (h1 : ∀ v ∈ cs, v.oneCell' = true) :
    (Builtin.copy_ #[dT, sT] ty #[.slice (some ⟨g, o, none⟩) dLen dCap, .slice (some a) sLen sCap]).run P w =
      .ok (goInt m) (w.setRow g (cur.toList.take o ++ cs ++ cur.toList.drop (o + cs.length)).toArray) := by
  have hl := run_loadCells_list (P := P) w a cs hsrc
  have hst := run_storeCells_at P g o t cs 0 cur w hg (by simpa using hfit) h1
  cases hq : P.info? elem with
  | none => simp [hq] at hs
  | some i =>
    have hi : i.size = k := by simpa [hq] using hs
    simp [Builtin.copy_, run_underlying hu, Builtin.lenOf, Builtin.firstCells, sizeOf, typeInfo, hq, hi, hm, ← hn, hl, hst]
theorem run_copy_wide0 (w : World) (dT sT ty elem : TypeId) (k : Nat) (d a : Option Addr) (dLen dCap sLen sCap : Nat) (hu : P.underlying dT = some (.slice elem)) (hs : (P.info? elem).map (·.size) = some k) (hn : Nat.min sLen dLen = 0) :
    (Builtin.copy_ #[dT, sT] ty #[.slice d dLen dCap, .slice a sLen sCap]).run P w = .ok (goInt 0) w := by
  cases hq : P.info? elem with
  | none => simp [hq] at hs
  | some i =>
    have hl : ∀ (x : Addr), (loadCells x 0).run P w = .ok #[] w := fun x => by simpa using run_loadCells_list (P := P) w x [] (by simp)
    cases d <;> cases a <;> simp [Builtin.copy_, run_underlying hu, Builtin.lenOf, Builtin.firstCells, sizeOf, typeInfo, hq, hn, storeCells, hl]
end
theorem grown_setRow (w : World) (g : Nat) (cs : Array Value) : w.grownBy (w.setRow g cs) (some g) :=
  ⟨rfl, rfl, rfl, by simp [World.setRow], fun k _ hk => setRow_other w g k cs (fun e => hk (by rw [e]))⟩
theorem Try.size48 : (Try.prog.info? 48).map (·.size) = some 3 := by kernel_rfl
theorem Try.under49 : Try.prog.underlying 49 = some (.slice 48) := by kernel_rfl
/-- copy of sites -/
theorem step_copy_sites {ops : Array Oper} {o : Oper} {A : Act} {w : World} {K : Act → World → Prop} {Q : Exit → Act → World → Prop} {E : Prop} (hgd : o.guard = none) (d s : Operand) (ho : o.op = .call { callee := .builtin .copy, args := #[d, s], argTypes := #[49, 49] })
    {g : Nat} {T : TypeId} {c : Array Value} (hB : Blk w g T c) (off m : Nat) (cs : List Value) (dp sp : Option Addr) (dl dc sl sc : Nat) (hd : A.eval d = .slice dp dl dc) (hs : A.eval s = .slice sp sl sc) (hm : Nat.min sl dl = m) (hn : cs.length = m * 3)
    (hpos : 0 < m → dp = some ⟨g, off, none⟩ ∧ ∃ ad, sp = some ad ∧ ∀ j v, cs[j]? = some v → w.cell? (ad.add j) = some v) (hfit : off + cs.length ≤ c.size) (h1 : ∀ v ∈ cs, v.oneCell' = true)
    (h : ∀ w', Hid (Blk w' g T (splice c.toList off cs).toArray) → Hid (w.grownBy w' (some g)) → K (A.put o.dst (goInt m)) w') :
    if Region.wanted o (yielded ops A.tmps) = true then Oper.wp Try.prog o A w K Q else E := by
  have hw : Region.wanted o (yielded ops A.tmps) = true := by simp [Region.wanted, hgd]
  rw [if_pos hw]
  by_cases h0 : m = 0
  · subst h0
    obtain rfl : cs = [] := List.eq_nil_of_length_eq_zero (by simpa using hn)
    have hrun := run_copy_wide0 (P := Try.prog) w 49 49 o.type 48 3 dp sp dl dc sl sc Try.under49 Try.size48 hm
    have h' := h w (show Blk _ _ _ _ by simpa [splice] using hB) (World.grownBy.refl w _)
    unfold Oper.wp
    simp [execOp, ho, resolve, invoke, builtin, hd, hs, hrun, Result.andThen]
    exact h'
  · obtain ⟨rfl, ad, rfl, hsrc⟩ := hpos (by omega)
    have hrun := run_copy_wide (P := Try.prog) w 49 49 o.type 48 3 g off dl dc ad sl sc m c T cs Try.under49 Try.size48 hB hm hn hsrc hfit h1
    have h' := h (w.setRow g (splice c.toList off cs).toArray) (show Blk _ _ _ _ by unfold Blk; simpa [splice] using setRow_heap w g _ (splice c.toList off cs).toArray T _ hB) (grown_setRow w g _)
    unfold Oper.wp
    simp [execOp, ho, resolve, invoke, builtin, hd, hs, hrun, Result.andThen]
    exact h'
/-- b.sites[m:] -/
theorem arr_lo (q m : Nat) (hm : m ≤ 4) (W : World) : (Instr.sliceAt 139 (.pointer (some ⟨q, 2, none⟩)) (some (.int .i64 m)) none none).run Try.prog W = .ok (.slice (some ⟨q, if m = 4 then 2 else 2 + m * 3, none⟩) (4 - m) (4 - m)) W := by
  rcases (by omega : m = 0 ∨ m = 1 ∨ m = 2 ∨ m = 3 ∨ m = 4) with rfl | rfl | rfl | rfl | rfl <;> kernel_rfl
/-- b.sites[m:n] -/
theorem arr_mid (q m n : Nat) (hmn : m ≤ n) (hn : n ≤ 4) (W : World) : (Instr.sliceAt 139 (.pointer (some ⟨q, 2, none⟩)) (some (.int .i64 m)) (some (.int .i64 n)) none).run Try.prog W = .ok (.slice (some ⟨q, if m = 4 then 2 else 2 + m * 3, none⟩) (n - m) (4 - m)) W := by
  rcases (by omega : n = 0 ∨ n = 1 ∨ n = 2 ∨ n = 3 ∨ n = 4) with rfl | rfl | rfl | rfl | rfl <;> rcases (by omega : m = 0 ∨ m = 1 ∨ m = 2 ∨ m = 3 ∨ m = 4) with rfl | rfl | rfl | rfl | rfl <;> first | omega | kernel_rfl
/-- b.sites[:n] -/
theorem arr_hi (q n : Nat) (hn : n ≤ 4) (W : World) : (Instr.sliceAt 139 (.pointer (some ⟨q, 2, none⟩)) none (some (.int .i64 n)) none).run Try.prog W = .ok (.slice (some ⟨q, 2, none⟩) n 4) W := by
  rcases (by omega : n = 0 ∨ n = 1 ∨ n = 2 ∨ n = 3 ∨ n = 4) with rfl | rfl | rfl | rfl | rfl <;> kernel_rfl

theorem Blk.setAt {w : World} {g : Nat} {T : TypeId} {c : Array Value} (h : Blk w g T c) (o : Nat) (vs : List Value) (hf : o + vs.length ≤ c.size) : Blk (w.setCells g o vs) g T (splice c.toList o vs).toArray := by
  obtain ⟨c2, h1, h2⟩ := Blk.some_after g T vs o w c h
  have hl : (splice c.toList o vs).length = c.size := by rw [length_splice _ _ _ (by simpa using hf)]; simp
  have : c2 = (splice c.toList o vs).toArray := by
    apply Array.ext (by simp; omega)
    intro i hi hi'
    have hc2 : (w.setCells g o vs).cell? ⟨g, i, none⟩ = some c2[i] := by rw [h1.cell]; simp [hi]
    have hic : i < c.size := by omega
    by_cases hin : o ≤ i ∧ i < o + vs.length
    · have := World.cell?_setCells_in g vs o w (fun j hj => by rw [h.cell]; simp; omega) (i - o) (by omega)
      rw [show o + (i - o) = i by omega, hc2] at this
      injection this with this
      rw [this]
      simp only [splice, List.getElem_toArray]
      rw [List.getElem_append_right (by simp; omega), List.getElem_append_left (by simp; omega)]
      congr 1
      simp; omega
    · have := World.cell?_setCells_out g vs o w ⟨g, i, none⟩ (fun j hj => by simp; omega)
      rw [hc2, h.cell] at this
      simp only [splice, List.getElem_toArray]
      have e : c[i]? = some c[i] := by simp [hic]
      rw [e] at this
      injection this with this
      rw [this]
      rcases Nat.lt_or_ge i o with h3 | h3
      · rw [List.getElem_append_left (by simp; omega)]; simp
      · rw [List.getElem_append_right (by simp; omega), List.getElem_append_right (by simp; omega)]
        simp only [List.getElem_drop, Array.getElem_toList]
        congr 1
        simp; omega
  rw [← this]; exact h1
end Go.Proofs.Ytekggimgobeggaa
