/- CachePlays: lines, a memory, the bytes that it should hold and the granules that should be held, side by side. -/
import Derived.Test.YtndgcfbndlahbaaRTk
import Derived.Test.YtndgcfbndlahbaaOldW
import Derived.Test.YtndgcfbndlahbaaOpenS
namespace Go.Proofs.Ytndgcfbndlahbaa
open Go.RowKit Go.Maps

theorem row_keeps {G : Nat → Prop} {w w' : World} {B m n : Nat} {T : TypeId} {v : Value} {cs : List Value} (h : w.ownsRow B T m v n cs) (hk : Keeps G w w') (hG : ∀ g c cur, v = .slice (some ⟨g, 0, none⟩) n c → w.heap[g]? = some (.cells cur T (0, 0)) → ¬ G g) : w'.ownsRow B T m v n cs := by
  obtain ⟨h0, h1⟩ := h
  refine ⟨h0, h1.imp id ?_⟩
  rintro ⟨g, cap, cur, e1, e2, e3, e4⟩
  exact ⟨g, cap, cur, e1, e2, (hk.block g (Array.getElem?_eq_some_iff.1 e3).1 (hG g cap cur e1 e3)).trans e3, e4⟩
theorem row_lower {w : World} {B B' m n : Nat} {T : TypeId} {v : Value} {cs : List Value} (h : w.ownsRow B T m v n cs) (hB : B' ≤ B) : w.ownsRow B' T m v n cs := by
  obtain ⟨h0, h1⟩ := h
  refine ⟨h0, h1.imp id ?_⟩
  rintro ⟨g, cap, cur, e1, e2, e3, e4⟩
  exact ⟨g, cap, cur, e1, Nat.le_trans hB e2, e3, e4⟩

structure CSt (w0 w : World) (q mg : Nat) (v8 : Value) (l b : Nat) (v9 : Value) (L R : List Ln) (xs ys : List Int) : Prop where
  bel : Below w0.heap.size w0 w
  lin : LinAt w w0.heap.size l b L
  mem : Mem w w0.heap.size q mg xs
  own : OwnV w w0.heap.size v8 ys
  ref : LOwn 43 w w0.heap.size v9 R
  far : ∀ g n c, v8 = .slice (some ⟨g, 0, none⟩) n c → g ≠ mg

section
variable {w0 w w' : World} {q mg l b : Nat} {v8 v9 : Value} {L R : List Ln} {xs ys : List Int}
theorem CSt.below (h : CSt w0 w q mg v8 l b v9 L R xs ys) (hb : Below w.heap.size w w') : CSt w0 w' q mg v8 l b v9 L R xs ys :=
  ⟨below_step h.bel hb, h.lin.below hb, h.mem.below hb, h.own.below hb, h.ref.below hb, h.far⟩
theorem CSt.drewN (h : CSt w0 w q mg v8 l b v9 L R xs ys) (n : Nat) : CSt w0 (w.drewN n) q mg v8 l b v9 L R xs ys :=
  ⟨below_draws h.bel n, h.lin.drewN n, h.mem.drewN n, h.own.drewN n, h.ref.drewN n, h.far⟩
/-- the lines' map has changed, or other lines take their place -/
theorem CSt.swap (h : CSt w0 w q mg v8 l b v9 L R xs ys) {l' b' : Nat} {L' : List Ln} (hl : LinAt w' w0.heap.size l' b' L') (hk : Keeps (fun j => j = b) w w') : CSt w0 w' q mg v8 l' b' v9 L' R xs ys := by
  obtain ⟨es, c, e⟩ := h.lin.isMap
  refine ⟨below_take h.bel hk h.lin.hb (Nat.le_refl _), hl, h.mem.lines ⟨es, c, e⟩ hk, row_keeps h.own hk fun g _ cur _ e2 e3 => ?_, row_keeps h.ref hk fun g _ cur _ e2 e3 => ?_, h.far⟩
  · have e3 : g = b := e3
    rw [e3, e] at e2; cases e2
  · have e3 : g = b := e3
    rw [e3, e] at e2; cases e2
/-- the list beside them is another -/
theorem CSt.newref (h : CSt w0 w q mg v8 l b v9 L R xs ys) {v : Value} {R' : List Ln} (ho : LOwn 43 w w0.heap.size v R') : CSt w0 w q mg v8 l b v L R' xs ys :=
  ⟨h.bel, h.lin, h.mem, h.own, ho, h.far⟩
/-- memory is written -/
theorem CSt.written (h : CSt w0 w q mg v8 l b v9 L R xs ys) {zs : List Int} (hm : Mem w' w0.heap.size q mg zs) (hk : Keeps (fun j => j = mg) w w') : CSt w0 w' q mg v8 l b v9 L R zs ys := by
  have e := h.mem.own.block rfl
  refine ⟨below_take h.bel hk h.mem.own.base (Nat.le_refl _), h.lin.mem h.mem hk, hm, row_keeps h.own hk fun g c cur e1 e2 => h.far g _ c e1, row_keeps h.ref hk fun g _ cur _ e2 e3 => ?_, h.far⟩
  have e3 : g = mg := e3
  rw [e3, e] at e2; cases e2
theorem splice_take {cur : List Value} {n a : Nat} {ys zs : List Int} (h : cur.take n = byts ys) (hn : ys.length = n) (hf : a + zs.length ≤ n) : (splice cur a (byts zs)).take n = byts (putA ys a zs) := by
  have hc : n ≤ cur.length := by have := congrArg List.length h; simp at this; omega
  rw [← putA_splice, ← h]
  have hl : (byts zs).length = zs.length := by simp
  unfold splice
  apply List.ext_getElem?
  intro i
  simp only [List.getElem?_take, List.getElem?_append, List.getElem?_drop, List.length_take, hl]
  split
  · rw [show min a cur.length = a by omega, show min a (min n cur.length) = a by omega]
    split
    · rfl
    · split
      · rfl
      · rw [if_pos (by omega)]
  · rename_i hi
    rw [if_neg (by omega), if_neg (by omega), if_neg (by omega)]
/-- the bytes beside memory are written -/
theorem CSt.over (h : CSt w0 w q mg v8 l b v9 L R xs ys) {g c a : Nat} {zs : List Int} {cur : Array Value} (e8 : v8 = .slice (some ⟨g, 0, none⟩) ys.length c) (hg : w.heap[g]? = some (.cells cur 5 (0, 0))) (hf : a + zs.length ≤ ys.length)
    (hw : w'.heap[g]? = some (.cells (splice cur.toList a (byts zs)).toArray 5 (0, 0))) (hk : Keeps (fun j => j = g) w w') : CSt w0 w' q mg v8 l b v9 L R xs (putA ys a zs) := by
  have ho : Own w w0.heap.size g c ys := by have := h.own; rw [e8] at this; exact this
  obtain ⟨cur', a1, a2, a3, a4, a5, a6⟩ := ho.parts
  rw [a2] at hg
  obtain rfl : cur' = cur := by injection hg with e; injection e
  have hl := h.lin.blk
  obtain ⟨es, c', e⟩ := h.lin.isMap
  refine ⟨below_take h.bel hk a1 (Nat.le_refl _), h.lin.keeps hk (fun e2 => ?_) (fun e2 => ?_), h.mem.keeps hk (fun e2 => ?_) (fun e2 => h.far g _ c e8 (Eq.symm e2)), ?_, row_keeps h.ref hk fun g' _ cur _ e2 e3 => ?_, h.far⟩
  · have e2 : l = g := e2
    have h2 : w.heap[l]? = _ := hl
    rw [e2, a2] at h2; cases h2
  · have e2 : b = g := e2
    rw [e2, a2] at e; cases e
  · have e2 : q = g := e2
    have h2 := h.mem.blk
    rw [e2, a2] at h2; cases h2
  · have hlen : (putA ys a zs).length = ys.length := putA_len hf
    have hsz : (splice cur'.toList a (byts zs)).length = cur'.size := by
      unfold splice
      have h1 : (byts zs).length = zs.length := by simp
      have h2 : cur'.toList.length = cur'.size := Array.length_toList
      simp only [List.length_append, List.length_take, List.length_drop, h1, h2]
      omega
    have := (Own.mk (B := w0.heap.size) (xs := putA ys a zs) a1 hw (by rw [hlen]; exact a3) a4 (by rw [List.size_toArray, hsz]; exact a5) (by rw [List.toList_toArray, hlen]; exact splice_take a6 rfl hf)).val
    rw [hlen, ← e8] at this
    exact this
  · have e3 : g' = g := e3
    rw [e3, a2] at e2; cases e2
end

/-- what a list of granules may hold -/
def LnW (L : List Ln) : Prop := ∀ x ∈ L, i64W x.g ∧ F8 x.f
theorem granF8 {xs : List Int} (h : Byt xs) (k : Nat) : F8 (granF xs k) := ⟨h _, h _, h _, h _⟩
theorem findL_mem {L : List Ln} {g : Int} {f : F4} (h : findL L g = some f) : ∃ x ∈ L, x.f = f := by
  unfold findL at h
  rw [Option.map_eq_some_iff] at h
  obtain ⟨x, h1, h2⟩ := h
  exact ⟨x, List.mem_of_find?_eq_some h1, h2⟩
theorem takR_held {L : List Ln} {xs : List Int} {g : Int} {f : F4} (h : findL L g = some f) : takR L xs g true = ⟨f, true, 0, L⟩ := by unfold takR; rw [h]
theorem takR_in {L : List Ln} {xs : List Int} {g : Int} {hold : Bool} (h : ((findL L g).isSome && hold) = false) (hg : 0 ≤ g ∧ g < 16384) : takR L xs g hold = ⟨granF xs g.toNat, false, 0, takL g (granF xs g.toNat) L⟩ := by
  unfold takR
  split
  · rename_i f e; simp [e] at h
  · rw [if_pos hg]
theorem takR_out {L : List Ln} {xs : List Int} {g : Int} {hold : Bool} (h : ((findL L g).isSome && hold) = false) (hg : ¬ (0 ≤ g ∧ g < 16384)) : takR L xs g hold = ⟨zF, false, 2, L⟩ := by
  unfold takR
  split
  · rename_i f e; simp [e] at h
  · rw [if_neg hg]
theorem takR_cases (L : List Ln) (g : Int) (hold : Bool) : (∃ f, findL L g = some f ∧ hold = true) ∨ ((findL L g).isSome && hold) = false := by
  cases h : findL L g with
  | none => exact .inr rfl
  | some f =>
    cases hold with
    | true => exact .inl ⟨f, rfl, rfl⟩
    | false => exact .inr rfl
theorem takR_ok {L : List Ln} {xs : List Int} {g : Int} {hold : Bool} (h : LnW L) (hx : Byt xs) (hg : i64W g) : F8 (takR L xs g hold).f ∧ LnW (takR L xs g hold).L ∧ (takR L xs g hold).L.length ≤ L.length + 1 := by
  rcases takR_cases L g hold with ⟨f, hf, rfl⟩ | hno
  · rw [takR_held hf]
    obtain ⟨x, hx1, rfl⟩ := findL_mem hf
    exact ⟨(h x hx1).2, h, Nat.le_succ _⟩
  · by_cases hi : 0 ≤ g ∧ g < 16384
    · rw [takR_in hno hi]
      refine ⟨granF8 hx _, fun y hy => ?_, takL_len _ _ _⟩
      rcases takL_mem hy with rfl | hy
      · exact ⟨hg, granF8 hx _⟩
      · exact h y hy
    · rw [takR_out hno hi]
      exact ⟨⟨⟨Int.le_refl 0, by show (0 : Int) ≤ 255; decide⟩, ⟨Int.le_refl 0, by show (0 : Int) ≤ 255; decide⟩, ⟨Int.le_refl 0, by show (0 : Int) ≤ 255; decide⟩, ⟨Int.le_refl 0, by show (0 : Int) ≤ 255; decide⟩⟩, h, Nat.le_succ _⟩

/-- Take, whatever it answers -/
theorem take_any {w0 w : World} {q mg l b : Nat} {v8 v9 : Value} {L R : List Ln} {xs ys : List Int} (h : CSt w0 w q mg v8 l b v9 L R xs ys) (hl : L.length ≤ 1048576) (g : Int) (hold : Bool) (hg : i64W g) :
    Calls Try.prog 9 #[.pointer (some ⟨l, 0, none⟩), .pointer (some ⟨q, 0, none⟩), .int .i64 g, .bool hold] w fun e w' => e = .returned (.tuple #[fV (takR L xs g hold).f, .bool (takR L xs g hold).is, .int .i64 (takR L xs g hold).e]) ∧ CSt w0 w' q mg v8 l b v9 (takR L xs g hold).L R xs ys ∧ Keeps (fun j => j = b) w w' := by
  rcases takR_cases L g hold with ⟨f, hf, rfl⟩ | hno
  · rw [takR_held hf]
    by_cases hi : 0 ≤ g ∧ g < 16384
    · obtain ⟨k, rfl⟩ := Int.eq_ofNat_of_zero_le hi.1
      refine (take_held _ l b L _ _ 0 k f w h.lin hg hf (by decide) (gran_is h.mem (k := k) (by omega))).mono ?_
      rintro e w' ⟨rfl, hb⟩
      exact ⟨rfl, h.below hb, Keeps.ofBelow hb⟩
    · refine (take_held _ l b L _ _ 2 g f w h.lin hg hf (by decide) (gran_is_bad h.mem (by omega))).mono ?_
      rintro e w' ⟨rfl, hb⟩
      exact ⟨rfl, h.below hb, Keeps.ofBelow hb⟩
  · by_cases hi : 0 ≤ g ∧ g < 16384
    · rw [takR_in hno hi]
      obtain ⟨k, rfl⟩ := Int.eq_ofNat_of_zero_le hi.1
      refine (take_new _ l b L _ (granF xs k) k hold w h.lin hl hg hno (gran_is h.mem (k := k) (by omega))).mono ?_
      rintro e w' ⟨rfl, hl', hk⟩
      exact ⟨rfl, h.swap hl' hk, hk⟩
    · rw [takR_out hno hi]
      refine (take_err _ l b L _ zF 2 g hold w h.lin hg hno (by decide) (by decide) (gran_is_bad h.mem (by omega))).mono ?_
      rintro e w' ⟨rfl, hb⟩
      exact ⟨rfl, h.below hb, Keeps.ofBelow hb⟩

/-- the reference's -/
theorem rtake_any {w0 w : World} {q mg l b m d n c : Nat} {p8 p9 : Option Addr} {L R : List Ln} {xs ys : List Int} (h : CSt w0 w q mg (.slice p8 m d) l b (.slice p9 n c) L R xs ys) (hr : Ris R) (hl : R.length ≤ 1000000) (hy : ys.length ≤ 65536) (g : Int) (hold : Bool) :
    Calls Try.prog 10 #[.slice p9 n c, .slice p8 m d, .int .i64 g, .bool hold] w fun e w' => ∃ p' c', e = .returned (.tuple #[.slice p' (takR R ys g hold).L.length c', fV (takR R ys g hold).f, .bool (takR R ys g hold).is, .int .i64 (takR R ys g hold).e]) ∧ LOwn 43 w' w0.heap.size (.slice p' (takR R ys g hold).L.length c') (takR R ys g hold).L ∧ Below w.heap.size w w' := by
  obtain ⟨p9', c9', e9, -, -, hrow⟩ := h.ref.row5
  obtain ⟨p8', c8', e8, hrow8, -⟩ := h.own.slice
  injection e9 with e1 e2 e3
  injection e8 with f1 f2 f3
  subst e1 e2 e3 f1 f2 f3
  rcases takR_cases R g hold with ⟨f, hf, rfl⟩ | hno
  · rw [takR_held hf]
    refine (rtake_held p9 p8 _ c _ d R g f w rfl (by omega) hrow hf).mono ?_
    rintro e w' ⟨rfl, hb⟩
    exact ⟨_, _, rfl, h.ref.below hb, hb⟩
  · by_cases hi : 0 ≤ g ∧ g < 16384
    · rw [takR_in hno hi]
      obtain ⟨k, rfl⟩ := Int.eq_ofNat_of_zero_le hi.1
      refine (rtake_new p9 p8 _ c _ d R ys k hold w hr rfl hl hrow rfl hy hrow8 hno (by omega)).mono ?_
      rintro e w' ⟨v, rfl, ho, hb⟩
      obtain ⟨p', c', rfl, -⟩ := ho.row5
      exact ⟨_, _, rfl, row_lower ho h.bel.size, hb⟩
    · rw [takR_out hno hi]
      refine (rtake_err p9 p8 _ c _ d R g hold w rfl (by omega) hrow hno (by omega)).mono ?_
      rintro e w' ⟨rfl, hb⟩
      exact ⟨_, _, rfl, h.ref.below hb, hb⟩

theorem fidx_pos (L : List Ln) (g : Int) : decide (0 ≤ fidx L g) = (findL L g).isSome := by
  rcases fidx_find L g with ⟨k, hk, h1, h2⟩ | ⟨h1, h2⟩
  · rw [h1, h2]; simp
  · rw [h1, h2]; decide

/-- copy, over the bytes beside memory, in a region that draws -/
theorem step_copy_own {w0 w : World} {q mg l b n c8 : Nat} {p8 r : Option Addr} {v9 : Value} {L R : List Ln} {xs ys zs : List Int} (hst : CSt w0 w q mg (.slice p8 n c8) l b v9 L R xs ys) (hrow : Row w r zs) (a : Nat) (hf : a + zs.length ≤ ys.length)
    {ops : Array Oper} {o : Oper} {A : Act} {K : Act → World → Prop} {Q : Exit → Act → World → Prop} {E : Prop} (hgd : o.guard = none) (d s : Operand) (ho : o.op = .call { callee := .builtin .copy, args := #[d, s], argTypes := #[22, 22] })
    (dp : Option Addr) (dl dc sc : Nat) (hd : A.eval d = .slice dp dl dc) (hdl : dl = ys.length - a) (hdp : 0 < zs.length → ∀ g, p8 = some ⟨g, 0, none⟩ → dp = some ⟨g, a, none⟩) (hs : A.eval s = .slice r zs.length sc)
    (h : ∀ w', Hid (CSt w0 w' q mg (.slice p8 n c8) l b v9 L R xs (putA ys a zs)) → Hid (∀ ob T cs, T ≠ 5 → Blk w ob T cs → Blk w' ob T cs) → K (A.put o.dst (goInt zs.length)) w') :
    if Region.wanted o (yielded ops A.tmps) = true then Oper.wp Try.prog o A w K Q else E := by
  have hw : Region.wanted o (yielded ops A.tmps) = true := by simp [Region.wanted, hgd]
  rw [if_pos hw]
  by_cases h0 : zs.length = 0
  · obtain rfl : zs = [] := List.eq_nil_of_length_eq_zero h0
    have hrun := run_copy_none (P := Try.prog) w 22 22 o.type 5 dp r dl dc 0 sc Try.underlying22 Try.size5 (Nat.zero_min _)
    have h' := h w (by rw [show putA ys a [] = ys by simp [putA]]; exact hst) (fun _ _ _ _ h => h)
    unfold Oper.wp
    simp [execOp, ho, resolve, invoke, builtin, hd, hs, hrun, Result.andThen]
    exact h'
  · rcases hst.own.shape with ⟨e, rfl⟩ | ⟨g, cap, e, hown⟩
    · have h2 : ([] : List Int).length = 0 := rfl
      omega
    · injection e with e1 e2 e3
      subst e1 e2 e3
      obtain ⟨cur, a1, a2, a3, a4, a5, a6⟩ := hown.parts
      obtain ⟨ad, rfl, hsrc⟩ := hrow.src (by omega)
      have e4 := hdp (by omega) g rfl
      subst e4
      have hl1 : (byts zs).length = zs.length := by simp
      have hrun := run_copy_row (P := Try.prog) w 22 22 o.type 5 g a dl dc ad zs.length sc cur 5 (byts zs) Try.underlying22 Try.size5 a2 (by rw [hl1, hdl]; exact (Nat.min_eq_left (by omega)).symm) hsrc (by rw [hl1]; omega) (one_byts zs)
      rw [hl1, List.append_assoc] at hrun
      have hk : Keeps (fun j => j = g) w (w.setRow g (cur.toList.take a ++ (byts zs ++ cur.toList.drop (a + zs.length))).toArray) := ⟨rfl, rfl, rfl, by simp [World.setRow], fun k _ hk => setRow_other w g k _ hk⟩
      have h' := h _ (hst.over (g := g) (c := c8) (a := a) (zs := zs) (cur := cur) rfl a2 hf (by rw [setRow_heap w g _ _ 5 _ a2]; simp [splice]) hk) (fun ob T cs hT hB => (hk.block ob hB.lt (fun e => by
        have e : ob = g := e
        have h2 : w.heap[ob]? = _ := hB
        rw [e, a2] at h2
        injection h2 with h2
        injection h2 with _ h2
        exact hT h2.symm)).trans hB)
      unfold Oper.wp
      simp [execOp, ho, resolve, invoke, builtin, hd, hs, hrun, Result.andThen]
      exact h'

end Go.Proofs.Ytndgcfbndlahbaa
