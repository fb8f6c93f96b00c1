/- What switchyardkit.markByte and ApartBytes answer, for lists that lie apart. -/
import Derived.Test.YtmhdiicljnjmcaaApartA
import Derived.Deep.QuietTactic
import Derived.BigQuiet
namespace Go.Proofs.Ytmhdiicljnjmcaa
open Go.RowKit

/-- the mark of place i in list k -/
def mb (k i : Nat) : Int := IntKind.u64.wrap ((1000003 * ((k : Int) + 7) + (i : Int)) * 11400714819323198485) / 72057594037927936 % 256
def mkL (k m : Nat) : List Int := (List.range m).map (mb k)
theorem mkL_length (k m : Nat) : (mkL k m).length = m := by simp [mkL]
theorem mkL_succ (k m : Nat) : mkL k (m + 1) = mkL k m ++ [mb k m] := by simp [mkL, List.range_succ]
theorem mkL_getD (k m i : Nat) (h : i < m) : (mkL k m).getD i 0 = mb k i := by simp [mkL, List.getD, h]

set_option maxHeartbeats 400000 in
theorem markByte_any (k i : Nat) (w : World) (hk : k ≤ 1000) (hi : i ≤ 281474976710656) :
    Calls Try.prog 32 #[.int .i64 k, .int .i64 i] w fun e w' => e = .returned (.int .u8 (mb k i)) ∧ w' = w := by
  go_enter Try.func32, Try.ntmps32
  go_wp2
  go_ret
  exact ⟨rfl, rfl⟩

/-- list k, its first i places marked -/
def part (xs : List Int) (k i : Nat) : List Int := mkL k i ++ xs.drop i
theorem part_zero (xs : List Int) (k : Nat) : part xs k 0 = xs := by simp [part, mkL]
theorem part_end (xs : List Int) (k n : Nat) (h : xs.length = n) : part xs k n = mkL k n := by simp [part, h]
theorem part_length (xs : List Int) (k i n : Nat) (h : xs.length = n) (hi : i ≤ n) : (part xs k i).length = n := by simp [part, mkL_length, h]; omega
theorem part_step (xs : List Int) (k i n : Nat) (h : xs.length = n) (hi : i < n) : (part xs k i).set i (mb k i) = part xs k (i + 1) := by
  unfold part
  have hl : (mkL k i).length = i := mkL_length k i
  rw [List.set_append_right _ _ (by omega), hl, Nat.sub_self, mkL_succ, List.append_assoc, List.drop_eq_getElem_cons (by omega : i < xs.length)]
  rfl

/-- what the lists hold in the first loop: those before k are marked, k up to i -/
def ctAt (xs : Nat → List Int) (n : Nat → Nat) (k i j : Nat) : List Int := if j < k then mkL j (n j) else if j = k then part (xs j) j i else xs j
theorem ctAt_zero (xs : Nat → List Int) (n : Nat → Nat) (k j : Nat) : ctAt xs n k 0 j = if j < k then mkL j (n j) else xs j := by
  unfold ctAt
  by_cases h : j < k
  · rw [if_pos h, if_pos h]
  · rw [if_neg h, if_neg h]
    split
    · exact part_zero ..
    · rfl
theorem ctAt_next (xs : Nat → List Int) (n : Nat → Nat) (k j : Nat) (h : (xs k).length = n k) : ctAt xs n k (n k) j = ctAt xs n (k + 1) 0 j := by
  rw [ctAt_zero]
  unfold ctAt
  by_cases h1 : j < k
  · rw [if_pos h1, if_pos (by omega)]
  · rw [if_neg h1]
    by_cases h2 : j = k
    · subst h2
      rw [if_pos rfl, if_pos (by omega), part_end _ _ _ h]
    · rw [if_neg h2, if_neg (by omega)]

/-- the first loop's state -/
structure St1 (w : World) (K B L G : Nat) (g c n : Nat → Nat) (ct : Nat → List Int) (wr : World) : Prop where
  own : AllOwn wr B K g c ct
  tab : TabOf wr L K (fun k => .slice (some ⟨g k, 0, none⟩) (n k) (c k))
  gs : TabOf wr G K (fun _ => .slice none 0 0)
  keeps : Keeps (fun b => ∃ k, k < K ∧ b = g k) w wr

theorem St1.mark {w wr : World} {K B L G : Nat} {g c n : Nat → Nat} {xs : Nat → List Int} {k i : Nat} (h : St1 w K B L G g c n (fun j => ctAt xs n k i j) wr) (ha : Apart K g) (hk : k < K) (hx : (xs k).length = n k) (hi : i < n k) :
    St1 w K B L G g c n (fun j => ctAt xs n k (i + 1) j) (wr.setCell ⟨g k, i, none⟩ (.int .u8 (mb k i))) := by
  have ho := h.own k hk
  refine ⟨h.own.store ha k i hk _ ?_ (fun j hj => ?_), h.tab.store_other _ _ _ (h.tab.ne ho), h.gs.store_other _ _ _ (h.gs.ne ho), h.keeps.setCell _ _ _ (.inl ⟨k, hk, rfl⟩)⟩
  · simp only [ctAt, Nat.lt_irrefl, if_false, if_true]
    exact (part_step (xs k) k i (n k) hx hi).symm
  · simp [ctAt, hj]
theorem St1.drew {w wr : World} {K B L G : Nat} {g c n : Nat → Nat} {ct : Nat → List Int} (h : St1 w K B L G g c n ct wr) : St1 w K B L G g c n ct wr.drew := ⟨h.own.drew, h.tab.drew, h.gs.drew, h.keeps.drew⟩

theorem news_one (w : World) (z : Int) : ∀ j u, (byts [z])[j]? = some u → (w.alloc (.cells #[.int .u8 z] 5)).cell? ((⟨w.heap.size, 0, none⟩ : Addr).add j) = some u := cell_one_new _ _ _

/-- 'append(g, z)' within the room -/
theorem wp_fits {ops : Array Oper} {rest : List Oper} {o : Oper} {a : Act} {Q : Exit → Act → World → Prop} (w : World) (hgd : o.guard = none) (s x : Operand)
    (ho : o.op = .call { callee := .builtin .append, args := #[s, x], argTypes := #[25, 25] }) (B g k cap : Nat) (xs : List Int) (hs : a.eval s = .slice (some ⟨g, 0, none⟩) k cap) (hk : xs.length = k) (hown : Own w B g cap xs)
    (ad : Addr) (m : Nat) (z : Int) (hx : a.eval x = .slice (some ad) 1 m) (hnews : ∀ j u, (byts [z])[j]? = some u → w.cell? (ad.add j) = some u) (hroom : k + 1 ≤ cap)
    (h : ∀ w', Own w' B g cap (xs ++ [z]) → w.grownBy w' (some g) → wpList Try.prog ops Q rest (a.put o.dst (.slice (some ⟨g, 0, none⟩) (k + 1) cap)) w') :
    wpList Try.prog ops Q (o :: rest) a w := by
  obtain ⟨i0, hi, hz0, hz1, hz2⟩ := info_parts Try.info5
  subst hk
  refine wpList_append_fits w hgd s x 25 ho B 5 i0 1 Try.underlying25 hi hz1 g xs.length cap (byts xs) hs hown ad 1 m (byts [z]) hx rfl hnews (fun u hu => ?_) hroom fun w' h1 h2 => h w' ?_ h2
  · simp only [byts, List.map_cons, List.map_nil, List.mem_singleton] at hu
    subst hu
    rfl
  · unfold Own
    rw [List.length_append]
    simpa [byts] using h1

/-- 'append(g, z)' without room: a new block -/
theorem wp_grows {ops : Array Oper} {rest : List Oper} {o : Oper} {a : Act} {Q : Exit → Act → World → Prop} (w : World) (hgd : o.guard = none) (s x : Operand)
    (ho : o.op = .call { callee := .builtin .append, args := #[s, x], argTypes := #[25, 25] }) (B g k cap : Nat) (xs : List Int) (hs : a.eval s = .slice (some ⟨g, 0, none⟩) k cap) (hk : xs.length = k) (hown : Own w B g cap xs)
    (ad : Addr) (m : Nat) (z : Int) (hx : a.eval x = .slice (some ad) 1 m) (hnews : ∀ j u, (byts [z])[j]? = some u → w.cell? (ad.add j) = some u) (hfull : cap < k + 1) (hlen : k + 1 ≤ 140737488355328)
    (h : ∀ g' cap' w', Own w' w.heap.size g' cap' (xs ++ [z]) → w.grownBy w' none → wpList Try.prog ops Q rest (a.put o.dst (.slice (some ⟨g', 0, none⟩) (k + 1) cap')) w') :
    wpList Try.prog ops Q (o :: rest) a w := by
  obtain ⟨i0, hi, hz0, hz1, hz2⟩ := info_parts Try.info5
  subst hk
  refine wpList_append_grows w hgd s x 25 ho 5 i0 (.int .u8 0) 1 1 Try.underlying25 hi hz0 hz1 hz2 rfl (by decide) (some ⟨g, 0, none⟩) xs.length cap (byts xs) hs (fun e => by cases e) (by simp) (fun b e j u hj => ?_) ad 1 m (byts [z]) hx rfl hnews (fun u hu => ?_) hfull (by unfold maxLen; omega) (by omega) fun v' w' h1 h2 => ?_
  · cases e
    have hjl : j < xs.length := by
      rcases Nat.lt_or_ge j xs.length with h | h
      · exact h
      · rw [List.getElem?_eq_none (by simpa using h)] at hj; cases hj
    rw [getD_byts xs j hjl] at hj
    rw [← hj, ← hown.cell j hjl, Go.WideShapes.add_plain, Nat.zero_add]
  · simp only [byts, List.map_cons, List.map_nil, List.mem_singleton] at hu
    subst hu
    rfl
  · have hv : OwnV w' w.heap.size v' (xs ++ [z]) := by
      unfold OwnV
      rw [List.length_append]
      simpa [byts] using h1
    rcases hv.shape with ⟨_, e⟩ | ⟨g', cap', e, ho'⟩
    · simp at e
    · subst e
      rw [List.length_append]
      exact h g' cap' w' ho' h2

/-- the second loop's state: the lists before k have grown -/
structure St2 (w : World) (K B L G : Nat) (g c n : Nat → Nat) (k : Nat) (ub uc : Nat → Nat) (wr : World) : Prop where
  own : AllOwn wr B K g c (fun j => mkL j (n j))
  tab : TabOf wr L K (fun k => .slice (some ⟨g k, 0, none⟩) (n k) (c k))
  gs : TabOf wr G K (fun i => if i < k then .slice (some ⟨ub i, 0, none⟩) (n i + 64) (uc i) else .slice none 0 0)
  us : ∀ i, i < k → Own wr B (ub i) (uc i) (mkL i (n i + 64))
  sep : ∀ i, i < k → ∀ j, j < K → i ≠ j → ub i ≠ g j
  keeps : Keeps (fun b => ∃ k, k < K ∧ b = g k) w wr

theorem St1.next {w wr : World} {K B L G : Nat} {g c n : Nat → Nat} {xs : Nat → List Int} (h : St1 w K B L G g c n (fun j => ctAt xs n K 0 j) wr) : St2 w K B L G g c n 0 (fun _ => 0) (fun _ => 0) wr :=
  ⟨fun j hj => by have := h.own j hj; simpa only [ctAt_zero, if_pos hj] using this, h.tab, by simpa using h.gs, fun i hi => absurd hi (Nat.not_lt_zero i), fun i hi => absurd hi (Nat.not_lt_zero i), h.keeps⟩

/-- .. and while list k grows: it stands in block gb, with j marks more -/
structure St2i (w : World) (K B L G : Nat) (g c n : Nat → Nat) (k : Nat) (ub uc : Nat → Nat) (gb gc j : Nat) (wr : World) : Prop where
  st : St2 w K B L G g c n k ub uc wr
  cur : Own wr B gb gc (mkL k (n k + j))
  sepg : ∀ i, i < K → i ≠ k → gb ≠ g i
  sepu : ∀ i, i < k → ub i ≠ gb
  same : gb = g k ∨ w.heap.size ≤ gb

theorem St2.start {w wr : World} {K B L G : Nat} {g c n : Nat → Nat} {k : Nat} {ub uc : Nat → Nat} (h : St2 w K B L G g c n k ub uc wr) (ha : Apart K g) (hk : k < K) : St2i w K B L G g c n k ub uc (g k) (c k) 0 wr :=
  ⟨h, h.own k hk, fun i hi hne => ha k i hk hi (Ne.symm hne), fun i hi => h.sep i hi k hk (by omega), .inl rfl⟩

theorem St2i.fits {w wr w1 : World} {K B L G : Nat} {g c n : Nat → Nat} {k : Nat} {ub uc : Nat → Nat} {gb gc j : Nat} (h : St2i w K B L G g c n k ub uc gb gc j wr) (hk : k < K) (hg : wr.grownBy w1 (some gb)) (ho : Own w1 B gb gc (mkL k (n k + j) ++ [mb k (n k + j)])) :
    St2i w K B L G g c n k ub uc gb gc (j + 1) w1 := by
  have hneg : ∀ i, i < K → i ≠ k → some (g i) ≠ some gb := fun i hi hne e => h.sepg i hi hne (Option.some.inj e).symm
  have hneu : ∀ i, i < k → some (ub i) ≠ some gb := fun i hi e => h.sepu i hi (Option.some.inj e)
  refine ⟨⟨fun i hi => ?_, h.st.tab.kept hg (fun e => h.st.tab.ne h.cur (Option.some.inj e)), h.st.gs.kept hg (fun e => h.st.gs.ne h.cur (Option.some.inj e)), fun i hi => (h.st.us i hi).kept hg (hneu i hi), h.st.sep, h.st.keeps.grown hg (fun b e => ?_)⟩, ?_, h.sepg, h.sepu, h.same⟩
  · by_cases e : i = k
    · subst e
      by_cases eb : gb = g i
      · have hc := (h.st.own i hi).caps (eb ▸ h.cur)
        have hf := ho.front
        have hsp : mkL i (n i + j) = mkL i (n i) ++ (mkL i (n i + j)).drop (n i) := by
          have ht : (mkL i (n i + j)).take (n i) = mkL i (n i) := by
            simp [mkL, ← List.map_take, List.take_range]
          rw [← ht, List.take_append_drop]
        rw [hsp] at hf
        have hf2 := hf.front
        rw [eb] at hf2
        rw [hc]
        exact hf2
      · exact (h.st.own i hi).kept hg (fun e => eb (Option.some.inj e).symm)
    · exact (h.st.own i hi).kept hg (hneg i hi e)
  · cases e
    rcases h.same with e | e
    · exact .inl ⟨k, hk, e⟩
    · exact .inr e
  · rw [show n k + (j + 1) = n k + j + 1 by omega, mkL_succ]
    exact ho

theorem St2i.grows {w wr w1 : World} {K B L G : Nat} {g c n : Nat → Nat} {k : Nat} {ub uc : Nat → Nat} {gb gc j gb' gc' B' : Nat} (h : St2i w K B L G g c n k ub uc gb gc j wr) (hg : wr.grownBy w1 none) (hB : wr.heap.size ≤ B') (ho : Own w1 B' gb' gc' (mkL k (n k + j) ++ [mb k (n k + j)])) :
    St2i w K B L G g c n k ub uc gb' gc' (j + 1) w1 := by
  have hb := ho.base
  have hlt := h.cur.lt
  have hbase := h.cur.base
  refine ⟨⟨h.st.own.kept hg (fun _ _ => by simp), h.st.tab.kept hg (by simp), h.st.gs.kept hg (by simp), fun i hi => (h.st.us i hi).kept hg (by simp), h.st.sep, h.st.keeps.grown hg (fun _ e => by cases e)⟩, ?_, fun i hi _ e => ?_, fun i hi e => ?_, .inr (Nat.le_trans h.st.keeps.size (by omega))⟩
  · rw [show n k + (j + 1) = n k + j + 1 by omega, mkL_succ]
    exact ho.lower (by omega)
  · have := (h.st.own i hi).lt; omega
  · have := (h.st.us i hi).lt; omega

theorem St2i.alloc {w wr : World} {K B L G : Nat} {g c n : Nat → Nat} {k : Nat} {ub uc : Nat → Nat} {gb gc j : Nat} (h : St2i w K B L G g c n k ub uc gb gc j wr) (o : Obj) : St2i w K B L G g c n k ub uc gb gc j (wr.alloc o) := by
  have hg := World.grownBy_alloc wr o none
  exact ⟨⟨h.st.own.kept hg (fun _ _ => by simp), h.st.tab.kept hg (by simp), h.st.gs.kept hg (by simp), fun i hi => (h.st.us i hi).kept hg (by simp), h.st.sep, h.st.keeps.grown hg (fun _ e => by cases e)⟩, h.cur.kept hg (by simp), h.sepg, h.sepu, h.same⟩

theorem St2i.done {w wr : World} {K B L G : Nat} {g c n : Nat → Nat} {k : Nat} {ub uc : Nat → Nat} {gb gc : Nat} (h : St2i w K B L G g c n k ub uc gb gc 64 wr) (hG : w.heap.size ≤ G) (hL : L < w.heap.size) :
    St2 w K B L G g c n (k + 1) (fun i => if i = k then gb else ub i) (fun i => if i = k then gc else uc i) (wr.setCell ⟨G, k, none⟩ (.slice (some ⟨gb, 0, none⟩) (n k + 64) gc)) := by
  refine ⟨h.st.own.store_other _ _ _ (fun j hj => (h.st.gs.ne (h.st.own j hj)).symm), ?_, ?_, fun i hi => ?_, fun i hi j hj hne => ?_, h.st.keeps.setCell _ _ _ (.inr hG)⟩
  · exact h.st.tab.store_other _ _ _ (by omega)
  · have := h.st.gs.store k (.slice (some ⟨gb, 0, none⟩) (n k + 64) gc)
    have e : (fun i => if i = k then Value.slice (some ⟨gb, 0, none⟩) (n k + 64) gc else if i < k then Value.slice (some ⟨ub i, 0, none⟩) (n i + 64) (uc i) else .slice none 0 0) = fun i => if i < k + 1 then Value.slice (some ⟨if i = k then gb else ub i, 0, none⟩) (n i + 64) (if i = k then gc else uc i) else .slice none 0 0 := by
      funext i
      by_cases e : i = k
      · subst e; simp
      · by_cases hi : i < k
        · simp [e, hi, show i < k + 1 by omega]
        · simp [e, hi, show ¬ i < k + 1 by omega]
    rw [e] at this
    exact this
  · by_cases e : i = k
    · subst e
      simp only [if_true]
      exact h.cur.store_other _ _ _ (h.st.gs.ne h.cur).symm
    · simp only [e, if_false]
      exact (h.st.us i (by omega)).store_other _ _ _ (h.st.gs.ne (h.st.us i (by omega))).symm
  · by_cases e : i = k
    · subst e
      simp only [if_true]
      exact h.sepg j hj (Ne.symm hne)
    · simp only [e, if_false]
      exact h.st.sep i (by omega) j hj hne

set_option maxHeartbeats 2000000 in
theorem apart_any (K B L : Nat) (g c n : Nat → Nat) (xs : Nat → List Int) (w : World) (hK : K ≤ 1000) (hap : Apart K g) (hx : ∀ k, k < K → (xs k).length = n k) (hn : ∀ k, k < K → n k ≤ 140737488351360)
    (hown : AllOwn w B K g c xs) (htab : TabOf w L K (fun k => .slice (some ⟨g k, 0, none⟩) (n k) (c k))) :
    Calls Try.prog 25 #[.slice (some ⟨L, 0, none⟩) K K] w fun e w' => e = .returned (.bool true) ∧ Keeps (fun b => ∃ k, k < K ∧ b = g k) w w' := by
  obtain ⟨i0, hi, hz0, hz1, hz2⟩ := info_parts Try.info25
  have HX : Hid (∀ k, k < K → (xs k).length = n k) := hx
  have HN : Hid (∀ k, k < K → n k ≤ 140737488351360) := hn
  clear hx hn
  go_enter Try.func25, Try.ntmps25
  go_wp2_with (at_make; refine wpList_make_full _ rfl _ _ 47 rfl _ 25 i0 (.slice none 0 0) 1 Try.underlying47 hi hz0 hz1 _ _ _ _ K rfl rfl rfl rfl (by rw [hz2]; omega) (by unfold maxLen; omega) (Nat.le_refl _) ?_; intro w1 hmk hgrow; have hst : St1 w K B L w.heap.size g c n (fun j => ctAt xs n 0 0 j) w1 := ⟨fun j hj => by rw [ctAt_zero, if_neg (Nat.not_lt_zero j)]; exact (hown j hj).kept hgrow (by simp), htab.kept hgrow (by simp), TabOf.made hmk, (Keeps.refl _ _).grown hgrow (by simp)⟩; clear hmk hgrow)
  have hGs : w.heap.size = w.heap.size := rfl
  generalize hG : w.heap.size = G at hst ⊢
  clear hGs
  have hGle : w.heap.size ≤ G := by omega
  have hLlt : L < w.heap.size := htab.lt
  clear hG hown htab
  go_loopw [4] (fun kv wr => ∃ k : Nat, k ≤ K ∧ kv = .int .i64 k ∧ St1 w K B L G g c n (fun j => ctAt xs n k 0 j) wr) (fun kv _ => K - (intOf kv).toNat)
  case atStart => exact ⟨0, Nat.zero_le _, rfl, hst⟩
  case round =>
    obtain ⟨k, hk, rfl, hs⟩ := hrel
    clear hst
    by_cases hlt : k < K
    · go_wp2
      go_loopw [5] (fun iv wr => ∃ i : Nat, i ≤ n k ∧ iv = .int .i64 i ∧ St1 w K B L G g c n (fun j => ctAt xs n k i j) wr) (fun iv _ => n k - (intOf iv).toNat)
      case atStart => exact ⟨0, Nat.zero_le _, rfl, hs⟩
      case round =>
        obtain ⟨i, hik, rfl, hs2⟩ := hrel
        clear hs
        have cl := hs2.tab.cell k hlt
        have hnk := HN.out k hlt
        by_cases hi2 : i < n k
        · have ho := hs2.own k hlt
          have hct : ctAt xs n k i k = part (xs k) k i := by simp [ctAt]
          rw [hct] at ho
          have hpl := part_length (xs k) k i (n k) (HX.out k hlt) hik
          have cg := ho.cell i (by omega)
          have fg := ho.free i
          have hne : L ≠ g k := hs2.tab.ne ho
          have q0 : (0 : Int) ≤ (k : Int) := by omega
          have q1 : (k : Int) < (K : Int) := by omega
          have q2 : (0 : Int) ≤ (i : Int) := by omega
          have q3 : (i : Int) < (n k : Int) := by omega
          clear ho hct hpl
          have hk2 : (wr.setCell ⟨g k, i, none⟩ (.int .u8 (mb k i))).cell? ⟨L, k, none⟩ = some (.slice (some ⟨g k, 0, none⟩) (n k) (c k)) := (hs2.mark hap hlt (HX.out k hlt) hi2).tab.cell k hlt
          have hs3 := (hs2.mark hap hlt (HX.out k hlt) hi2).drew
          go_wp2_with fail
          go_region_held3 (fun w' => w'.cell? ⟨L, k, none⟩ = some (.slice (some ⟨g k, 0, none⟩) (n k) (c k))) (first | go_keep | exact hk2) ((go_at_call 32; refine (markByte_any k i _ (by omega) (by omega)).mono ?_; rintro e w' ⟨rfl, rfl⟩))
          all_goals
            clear hs2 hk2 cl cg fg
            go_wp2
            go_roundw
            case rel => exact ⟨i + 1, by omega, by go_num, hs3⟩
            case measure => simp [intOf]; omega
        · have hs4 : St1 w K B L G g c n (fun j => ctAt xs n (k + 1) 0 j) wr := by
            obtain rfl : i = n k := by omega
            have e : (fun j => ctAt xs n k (n k) j) = fun j => ctAt xs n (k + 1) 0 j := funext fun j => ctAt_next xs n k j (HX.out k hlt)
            rw [← e]
            exact hs2
          clear hs2
          go_wp2
          go_roundw
          case rel => exact ⟨k + 1, by omega, by go_num, hs4⟩
          case measure => simp [intOf]; omega
    · have hs0 : St2 w K B L G g c n 0 (fun _ => 0) (fun _ => 0) wr := by
        have hkK : k = K := by omega
        rw [hkK] at hs
        exact hs.next
      clear hs
      go_wp2
      go_loopw [6] (fun kv wr => ∃ (k : Nat) (ub uc : Nat → Nat), k ≤ K ∧ kv = .int .i64 k ∧ St2 w K B L G g c n k ub uc wr) (fun kv _ => K - (intOf kv).toNat)
      case atStart => exact ⟨0, _, _, Nat.zero_le _, rfl, hs0⟩
      case round =>
        obtain ⟨k2, ub, uc, hk2, rfl, hs⟩ := hrel
        clear hs0
        by_cases hlt2 : k2 < K
        · have cl := hs.tab.cell k2 hlt2
          have hs1 := hs.start hap hlt2
          have hnk := HN.out k2 hlt2
          clear hs
          go_wp2
          go_loopw [7, 8] (fun gv jv wr => ∃ j gb gc : Nat, j ≤ 64 ∧ jv = .int .i64 j ∧ gv = .slice (some ⟨gb, 0, none⟩) (n k2 + j) gc ∧ St2i w K B L G g c n k2 ub uc gb gc j wr) (fun _ jv _ => 64 - (intOf jv).toNat)
          case atStart => exact ⟨0, _, _, Nat.zero_le _, rfl, rfl, hs1⟩
          case round =>
            obtain ⟨j, gb, gc, hj, rfl, rfl, hs2⟩ := hrel
            clear hs1 cl
            have cl := hs2.st.tab.cell k2 hlt2
            by_cases hj2 : j < 64
            · have hsa := fun o => hs2.alloc o
              have hml := mkL_length k2 (n k2 + j)
              have HC : Hid (∀ wx, Calls Try.prog 32 #[.int .i64 k2, .int .i64 ((n k2 : Int) + (j : Int))] wx fun e w' => e = .returned (.int .u8 (mb k2 (n k2 + j))) ∧ w' = wx) := fun wx => by
                have := markByte_any k2 (n k2 + j) wx (by omega) (by omega)
                simpa using this
              by_cases hroom : n k2 + j + 1 ≤ gc
              · go_wp2_with (first | (go_at_call 32; refine (HC.out _).mono ?_; rintro e w' ⟨rfl, rfl⟩) | (at_builtin; refine wp_fits _ rfl _ _ rfl B gb (n k2 + j) gc (mkL k2 (n k2 + j)) rfl hml (hsa _).cur ⟨_, 0, none⟩ 1 (mb k2 (n k2 + j)) rfl (news_one _ _) hroom ?_; intro w2 ho2 hg2; have hs3 := (hsa _).fits hlt2 hg2 ho2))
                go_roundw
                case rel => exact ⟨j + 1, gb, gc, by omega, by go_num, by rw [show n k2 + (j + 1) = n k2 + j + 1 by omega], hs3⟩
                case measure => simp [intOf]; omega
              · go_wp2_with (first | (go_at_call 32; refine (HC.out _).mono ?_; rintro e w' ⟨rfl, rfl⟩) | (at_builtin; refine wp_grows _ rfl _ _ rfl B gb (n k2 + j) gc (mkL k2 (n k2 + j)) rfl hml (hsa _).cur ⟨_, 0, none⟩ 1 (mb k2 (n k2 + j)) rfl (news_one _ _) (by omega) (by omega) ?_; intro gb2 gc2 w2 ho2 hg2; have hs3 := (hsa _).grows hg2 (Nat.le_refl _) ho2))
                go_roundw
                case rel => exact ⟨j + 1, gb2, gc2, by omega, by go_num, by rw [show n k2 + (j + 1) = n k2 + j + 1 by omega], hs3⟩
                case measure => simp [intOf]; omega
            · obtain rfl : j = 64 := by omega
              have cg := hs2.st.gs.cell k2 hlt2
              have fg := hs2.st.gs.free k2
              rw [if_neg (Nat.lt_irrefl k2)] at cg
              have hs3 := hs2.done hGle hLlt
              clear hs2
              go_wp2
              go_roundw
              case rel => exact ⟨k2 + 1, _, _, by omega, by go_num, hs3⟩
              case measure => simp [intOf]; omega
        · have hkK : k2 = K := by omega
          rw [hkK] at hs
          clear hkK
          go_wp2
          obtain ⟨w0, rfl⟩ : ∃ w0 : World, w0 = wr := ⟨_, rfl⟩
          go_loopw [10] (fun kv wx => ∃ k m : Nat, k ≤ K ∧ kv = .int .i64 k ∧ Hid (wx = w0.drewN m)) (fun kv _ => K - (intOf kv).toNat)
          case atStart => exact ⟨0, 0, Nat.zero_le _, rfl, rfl⟩
          case round =>
            obtain ⟨k3, m, hk3, rfl, HW⟩ := hrel
            by_cases hlt3 : k3 < K
            · have cl : wr.cell? ⟨L, k3, none⟩ = some (.slice (some ⟨g k3, 0, none⟩) (n k3) (c k3)) := by rw [HW.out]; exact hs.tab.cell k3 hlt3
              have cg0 := hs.gs.cell k3 hlt3
              rw [if_pos hlt3] at cg0
              have cg : wr.cell? ⟨G, k3, none⟩ = some (.slice (some ⟨ub k3, 0, none⟩) (n k3 + 64) (uc k3)) := by rw [HW.out]; exact cg0
              have hnk := HN.out k3 hlt3
              have hou := hs.us k3 hlt3
              have hov := hs.own k3 hlt3
              go_wp2
              go_loopw [11] (fun iv wx => ∃ i m : Nat, i ≤ n k3 + 64 ∧ iv = .int .i64 i ∧ Hid (wx = w0.drewN m)) (fun iv _ => n k3 + 64 - (intOf iv).toNat)
              case atStart => exact ⟨0, m, Nat.zero_le _, rfl, HW⟩
              case round =>
                obtain ⟨i, m2, hi3, rfl, HV⟩ := hrel
                clear cl cg HW
                have cl : wr.cell? ⟨L, k3, none⟩ = some (.slice (some ⟨g k3, 0, none⟩) (n k3) (c k3)) := by rw [HV.out]; exact hs.tab.cell k3 hlt3
                have cg : wr.cell? ⟨G, k3, none⟩ = some (.slice (some ⟨ub k3, 0, none⟩) (n k3 + 64) (uc k3)) := by rw [HV.out]; exact cg0
                by_cases hi4 : i < n k3 + 64
                · have cu0 := hou.cell i (by rw [mkL_length]; exact hi4)
                  rw [mkL_getD k3 _ i hi4] at cu0
                  have cu : wr.cell? ⟨ub k3, i, none⟩ = some (.int .u8 (mb k3 i)) := by rw [HV.out]; exact cu0
                  have HC : Hid (∀ wx, Calls Try.prog 32 #[.int .i64 k3, .int .i64 i] wx fun e w' => e = .returned (.int .u8 (mb k3 i)) ∧ w' = wx) := fun wx => markByte_any k3 i wx (by omega) (by omega)
                  have hmm : (mb k3 i != mb k3 i) = false := by simp
                  by_cases hi5 : i < n k3
                  · have cv0 := hov.cell i (by rw [mkL_length]; exact hi5)
                    rw [mkL_getD k3 _ i hi5] at cv0
                    have cv : wr.cell? ⟨g k3, i, none⟩ = some (.int .u8 (mb k3 i)) := by rw [HV.out]; exact cv0
                    have hi6 : (i : Int) < (n k3 : Int) := by omega
                    clear cu0 cv0 cg0
                    generalize mb k3 i = z at *
                    go_wp2
                    go_quiet ((go_at_call 32; exact Calls.quiet_of_same (HC.out _)))
                    go_wp2
                    go_roundw
                    case rel => exact ⟨i + 1, m2 + nq, by omega, by go_num, by rw [HV.out]; exact World.drewN_drewN ..⟩
                    case measure => simp [intOf]; omega
                  · have hd : decide ((i : Int) < (n k3 : Int)) = false := by simp; omega
                    clear cu0 cg0
                    generalize mb k3 i = z at *
                    go_wp2
                    go_quiet ((go_at_call 32; exact Calls.quiet_of_same (HC.out _)))
                    go_wp2
                    go_roundw
                    case rel => exact ⟨i + 1, m2 + nq, by omega, by go_num, by rw [HV.out]; exact World.drewN_drewN ..⟩
                    case measure => simp [intOf]; omega
                · go_wp2
                  go_roundw
                  case rel => exact ⟨k3 + 1, m2, by omega, by go_num, HV⟩
                  case measure => simp [intOf]; omega
            · go_wp2
              go_ret
              exact ⟨rfl, by rw [HW.out]; exact hs.keeps.drewN _⟩

end Go.Proofs.Ytmhdiicljnjmcaa
