/- What the law WordsSpares answers: true, for every text up to a size. -/
import Derived.Test.YtaabdffplfifkaaDoorApartTT
import Derived.Test.YtaabdffplfifkaaDoorWLines
import Derived.Test.YtaabdffplfifkaaDoorAwake3
namespace Go.Proofs.YtaabdffplfifkaaDoor
open Go.RowKit

theorem GOwnV.split {T : TypeId} {w : World} {B n : Nat} {v : Value} {vs : List Value} (h : GOwnV T w B v vs) (hn : vs.length = n) :
    ∃ p c, v = .slice (ptr p) n c ∧ GOwnV T w B (sl p n c) vs ∧ ∀ g, p = some g → B ≤ g ∧ g < w.heap.size := by
  subst hn
  rcases h.shape with ⟨rfl, rfl⟩ | ⟨g, cap, rfl, ho⟩
  · exact ⟨none, 0, rfl, GOwnV.nil _ _ _, fun g e => by cases e⟩
  · exact ⟨some g, cap, rfl, ho.val, fun g' e => by cases e; exact ⟨ho.base, ho.lt⟩⟩
theorem GOwnV.rowP {T : TypeId} {w : World} {B n c : Nat} {p : Option Nat} {vs : List Value} (h : GOwnV T w B (sl p n c) vs) : GRow w (ptr p) vs := by
  obtain ⟨p', c', e, r, -, -⟩ := h.slice
  rw [sl_ptr] at e
  injection e with e1 _ _
  rw [e1]; exact r
theorem GOwnV.keeps {T : TypeId} {G : Nat → Prop} {w w' : World} {B n c : Nat} {p : Option Nat} {vs : List Value} (h : GOwnV T w B (sl p n c) vs) (hk : Keeps G w w') (hne : ∀ g, p = some g → ¬ G g) : GOwnV T w' B (sl p n c) vs := by
  cases p with
  | none =>
    rcases h.shape with ⟨e, rfl⟩ | ⟨g, cap, e, ho⟩
    · rw [e]; exact GOwnV.nil _ _ _
    · simp [sl] at e
  | some g =>
    obtain ⟨hn, ho⟩ := h.full
    obtain ⟨cur, h1, h2, h3, h4, h5, h6⟩ := ho.parts
    subst hn
    exact (GOwn.mk h1 (by rw [hk.block g ho.lt (hne g rfl)]; exact h2) h3 h4 h5 h6).val
theorem GOwnV.ne {T T' : TypeId} (hT : T ≠ T') {w : World} {B B' n m c d : Nat} {p q : Option Nat} {vs us : List Value} (h : GOwnV T w B (sl p n c) vs) (h' : GOwnV T' w B' (sl q m d) us) (g : Nat) (e : p = some g) : q ≠ some g := fun e' => by
  subst e e'
  obtain ⟨_, _, h2, _⟩ := h.full.2.parts
  obtain ⟨_, _, h3, _⟩ := h'.full.2.parts
  rw [h2] at h3
  injection h3 with h3
  injection h3 with _ h3
  exact hT h3

theorem apart2 {p q : Option Nat} {l r l' r' : Nat} (h : ∀ g, p = some g → l ≤ g ∧ g < r) (h' : ∀ g, q = some g → l' ≤ g ∧ g < r') (hd : r ≤ l' ∨ r' ≤ l) : p = none ∨ p ≠ q := by
  cases p with
  | none => exact .inl rfl
  | some g => exact .inr fun e => by have := h g rfl; have := h' g e.symm; omega

def four {α : Type} (a b c d : α) (k : Nat) : α := if k = 0 then a else if k = 1 then b else if k = 2 then c else d
def two {α : Type} (a b : α) (k : Nat) : α := if k = 0 then a else b
theorem four_apart {a b c d : Option Nat} {n0 n1 n2 n3 n4 : Nat} (ha : ∀ g, a = some g → n0 ≤ g ∧ g < n1) (hb : ∀ g, b = some g → n1 ≤ g ∧ g < n2) (hc : ∀ g, c = some g → n2 ≤ g ∧ g < n3) (hd : ∀ g, d = some g → n3 ≤ g ∧ g < n4) (h1 : n1 ≤ n2) (h2 : n2 ≤ n3) : Apart 4 (four a b c d) := by
  intro i j hi hj hne
  rcases (show i = 0 ∨ i = 1 ∨ i = 2 ∨ i = 3 by omega) with r | r | r | r <;> rcases (show j = 0 ∨ j = 1 ∨ j = 2 ∨ j = 3 by omega) with s | s | s | s <;> subst r <;> subst s <;> first | exact absurd rfl hne | skip
  · exact apart2 ha hb (by omega)
  · exact apart2 ha hc (by omega)
  · exact apart2 ha hd (by omega)
  · exact apart2 hb ha (by omega)
  · exact apart2 hb hc (by omega)
  · exact apart2 hb hd (by omega)
  · exact apart2 hc ha (by omega)
  · exact apart2 hc hb (by omega)
  · exact apart2 hc hd (by omega)
  · exact apart2 hd ha (by omega)
  · exact apart2 hd hb (by omega)
  · exact apart2 hd hc (by omega)
theorem two_apart {a b : Option Nat} {n0 n1 n2 n3 : Nat} (ha : ∀ g, a = some g → n0 ≤ g ∧ g < n1) (hb : ∀ g, b = some g → n2 ≤ g ∧ g < n3) (h1 : n1 ≤ n2) : Apart 2 (two a b) := by
  intro i j hi hj hne
  rcases (show i = 0 ∨ i = 1 by omega) with r | r <;> rcases (show j = 0 ∨ j = 1 by omega) with s | s <;> subst r <;> subst s <;> first | exact absurd rfl hne | skip
  · exact apart2 ha hb (by omega)
  · exact apart2 hb ha (by omega)
theorem four_own {w : World} {B n m ca cb cc cd : Nat} {a b c d : Option Nat} {x y : List Value} (ha : GOwnV 9 w B (sl a n ca) x) (hb : GOwnV 9 w B (sl b n cb) x) (hc : GOwnV 9 w B (sl c m cc) y) (hd : GOwnV 9 w B (sl d m cd) y) :
    AllOwn 9 w B 4 (four a b c d) (four n n m m) (four ca cb cc cd) (four x x y y) := by
  intro j hj
  rcases (show j = 0 ∨ j = 1 ∨ j = 2 ∨ j = 3 by omega) with r | r | r | r <;> subst r
  · exact ha
  · exact hb
  · exact hc
  · exact hd
theorem two_own {w : World} {B m cx cy : Nat} {a b : Option Nat} {x : List Value} (ha : GOwnV 3 w B (sl a m cx) x) (hb : GOwnV 3 w B (sl b m cy) x) : AllOwn 3 w B 2 (two a b) (two m m) (two cx cy) (two x x) := by
  intro j hj
  rcases (show j = 0 ∨ j = 1 by omega) with r | r <;> subst r
  · exact ha
  · exact hb
theorem four_mem {a b c d : Option Nat} {g : Nat} (h : GSet 4 (four a b c d) g) : a = some g ∨ b = some g ∨ c = some g ∨ d = some g := by
  obtain ⟨k, hk, e⟩ := h
  rcases (show k = 0 ∨ k = 1 ∨ k = 2 ∨ k = 3 by omega) with r | r | r | r <;> subst r
  · exact .inl e
  · exact .inr (.inl e)
  · exact .inr (.inr (.inl e))
  · exact .inr (.inr (.inr e))
theorem two_mem {a b : Option Nat} {g : Nat} (h : GSet 2 (two a b) g) : a = some g ∨ b = some g := by
  obtain ⟨k, hk, e⟩ := h
  rcases (show k = 0 ∨ k = 1 by omega) with r | r <;> subst r
  · exact .inl e
  · exact .inr e
theorem four_tab (w : World) (a b c d : Option Nat) (n m ca cb cc cd : Nat) :
    TabOf 24 (w.alloc (.cells #[.slice (ptr a) n ca, .slice (ptr b) n cb, .slice (ptr c) m cc, .slice (ptr d) m cd] 24)) w.heap.size 4 (fun k => sl (four a b c d k) (four n n m m k) (four ca cb cc cd k)) := by
  unfold TabOf
  rw [heap_alloc_new]
  rfl
theorem two_tab (w : World) (a b : Option Nat) (m cx cy : Nat) :
    TabOf 27 (w.alloc (.cells #[.slice (ptr a) m cx, .slice (ptr b) m cy] 27)) w.heap.size 2 (fun k => sl (two a b k) (two m m k) (two cx cy k)) := by
  unfold TabOf
  rw [heap_alloc_new]
  rfl
theorem four_len {x y : List Value} {n m : Nat} (hx : x.length = n) (hy : y.length = m) (k : Nat) : (four x x y y k).length = four n n m m k := by
  unfold four; split
  · exact hx
  · split
    · exact hx
    · split <;> exact hy
theorem two_len {x : List Value} {n : Nat} (hx : x.length = n) (k : Nat) : (two x x k).length = two n n k := by
  unfold two; split <;> exact hx
theorem four_le {n m M : Nat} (hn : n ≤ M) (hm : m ≤ M) (k : Nat) : four n n m m k ≤ M := by
  unfold four; split
  · exact hn
  · split
    · exact hn
    · split <;> exact hm
theorem two_le {n M : Nat} (hn : n ≤ M) (k : Nat) : two n n k ≤ M := by unfold two; split <;> exact hn

set_option maxRecDepth 100000 in
set_option maxHeartbeats 4000000 in
theorem sparesWalk (s : ByteArray) (w : World) (hs : s.size ≤ 1048576) :
    Calls Tryd.prog 8 #[.string s] w fun e w' => e = .returned (.bool true) ∧ Below w.heap.size w w' := by
  have hF := fun w => fields_any s w (by omega)
  have hL := fun w => lines_any s w (by omega)
  have hl1 : (fTexts (fieldsL s.data.toList)).length ≤ 1048577 := by
    rw [texts_len]; unfold fieldsL
    have := fldL_length (ahead s.data.toList) 0 none
    have := ahead_le s.data.toList
    have := Lib.size_eq s
    omega
  have hl2 : (fCols (fieldsL s.data.toList)).length ≤ 1048577 := by
    rw [cols_len]; rw [texts_len] at hl1; exact hl1
  have hl3 : (texts (linesL s.data.toList)).length ≤ 1048577 := by
    have := linesL_length s.data.toList
    have := Lib.size_eq s
    simp [texts]; omega
  generalize fTexts (fieldsL s.data.toList) = xs at *
  generalize fCols (fieldsL s.data.toList) = zs at *
  generalize texts (linesL s.data.toList) = ls at *
  obtain ⟨n, hn⟩ : ∃ n, ls.length = n := ⟨_, rfl⟩
  obtain ⟨m, hm⟩ : ∃ m, xs.length = m := ⟨_, rfl⟩
  obtain ⟨k, hk⟩ : ∃ k, zs.length = k := ⟨_, rfl⟩
  rw [hm] at hl1
  rw [hk] at hl2
  rw [hn] at hl3
  have HSn : Hid ((strs ls).length = n) := by show (strs ls).length = n; rw [List.length_map]; exact hn
  have HSm : Hid ((strs xs).length = m) := by show (strs xs).length = m; rw [List.length_map]; exact hm
  have HSk : Hid ((nums zs).length = k) := by show (nums zs).length = k; rw [List.length_map]; exact hk
  have HNn : Hid (ls.length = n) := hn
  have HNm : Hid (xs.length = m) := hm
  clear hn hm hk
  go_enter Tryd.func8, Tryd.ntmps8
  go_wp2_with fail
  refine (hL _).mono ?_
  rintro e w1 ⟨va, rfl, oa1, hb1⟩
  obtain ⟨pa, ca, rfl, oa, ia⟩ := oa1.split HSn.out
  have hz1 := hb1.size
  clear oa1
  go_wp2_with fail
  refine (hL _).mono ?_
  rintro e w2 ⟨vb, rfl, ob1, hbl⟩
  obtain ⟨pb, cb, rfl, ob, ib⟩ := ob1.split HSn.out
  have hz2 := hbl.size
  have oa2 := oa.below hbl
  have hb2 := below_step hb1 hbl
  clear ob1 oa hb1 hbl
  go_wp2_with fail
  refine (hF _).mono ?_
  rintro e w3 ⟨vc, vx, rfl, oc1, ox1, hbl⟩
  obtain ⟨pc, cc, rfl, oc, ic⟩ := oc1.split HSm.out
  obtain ⟨px, cx, rfl, ox, ix⟩ := ox1.split HSk.out
  have hz3 := hbl.size
  have oa3 := oa2.below hbl
  have ob3 := ob.below hbl
  have hb3 := below_step hb2 hbl
  clear oc1 ox1 oa2 ob hb2 hbl
  go_wp2_with fail
  refine (hF _).mono ?_
  rintro e w4 ⟨vd, vy, rfl, od1, oy1, hbl⟩
  obtain ⟨pd, cd, rfl, od, id⟩ := od1.split HSm.out
  obtain ⟨py, cy, rfl, oy, iy⟩ := oy1.split HSk.out
  have hz4 := hbl.size
  have oa4 := oa3.below hbl
  have ob4 := ob3.below hbl
  have oc4 := oc.below hbl
  have ox4 := ox.below hbl
  have hb4 := below_step hb3 hbl
  clear od1 oy1 oa3 ob3 oc ox hb3 hbl
  go_wp2_with fail
  refine (sameTexts_self (ptr pa) (ptr pb) n ca cb ls _ (by omega) HNn.out oa4.rowP ob4.rowP).mono ?_
  rintro e w5 ⟨rfl, m5, rfl⟩
  go_wp2_with fail
  refine (sameTexts_self (ptr pc) (ptr pd) m cc cd xs _ (by omega) HNm.out (oc4.rowP.drewN m5) (od.rowP.drewN m5)).mono ?_
  rintro e w6 ⟨rfl, m6, rfl⟩
  have oa6 := (oa4.drewN m5).drewN m6
  have ob6 := (ob4.drewN m5).drewN m6
  have oc6 := (oc4.drewN m5).drewN m6
  have od6 := (od.drewN m5).drewN m6
  have ox6 := (ox4.drewN m5).drewN m6
  have oy6 := (oy.drewN m5).drewN m6
  have hb6 := below_draws (below_draws hb4 m5) m6
  have hz6 : ((w4.drewN m5).drewN m6).heap.size = w4.heap.size := rfl
  clear oa4 ob4 oc4 od ox4 oy hb4
  generalize (w4.drewN m5).drewN m6 = w7 at *
  go_wp2_with fail
  refine (copyTexts_any (ptr pa) n ca ls _ HNn.out (by omega) oa6.rowP).mono ?_
  rintro e w8 ⟨vw, rfl, ow1, hbl⟩
  obtain ⟨pw, cw, rfl, ow, iw⟩ := ow1.split HSn.out
  have hz8 := hbl.size
  have oa8 := oa6.below hbl
  have ob8 := ob6.below hbl
  have oc8 := oc6.below hbl
  have od8 := od6.below hbl
  have ox8 := ox6.below hbl
  have oy8 := oy6.below hbl
  have hb8 := below_step hb6 hbl
  clear ow1 oa6 ob6 oc6 od6 ox6 oy6 hb6 hbl
  go_wp2_with fail
  refine (copyTexts_any (ptr pc) m cc xs _ HNm.out (by omega) oc8.rowP).mono ?_
  rintro e w9 ⟨vt, rfl, ot1, hbl⟩
  obtain ⟨pt, ct, rfl, ot, it⟩ := ot1.split HSm.out
  have hz9 := hbl.size
  have oa9 := (oa8.below hbl).lowerV (Nat.le_refl w.heap.size)
  have ob9 := (ob8.below hbl).lowerV (B' := w.heap.size) (by omega)
  have oc9 := (oc8.below hbl).lowerV (B' := w.heap.size) (by omega)
  have od9 := (od8.below hbl).lowerV (B' := w.heap.size) (by omega)
  have ox9 := (ox8.below hbl).lowerV (B' := w.heap.size) (by omega)
  have oy9 := (oy8.below hbl).lowerV (B' := w.heap.size) (by omega)
  have ow9 := ow.below hbl
  have hb9 := below_step hb8 hbl
  clear ot1 oa8 ob8 oc8 od8 ox8 oy8 ow hb8 hbl
  have HAP : Hid (Apart 4 (four pa pb pc pd)) := four_apart ia ib ic id (by omega) (by omega)
  have HAI : Hid (Apart 2 (two px py)) := two_apart ix iy (by omega)
  have HIN : Hid (∀ g, GSet 4 (four pa pb pc pd) g → w.heap.size ≤ g ∧ g < w7.heap.size) := fun g h => by
    rcases four_mem h with e | e | e | e
    · have := ia g e; omega
    · have := ib g e; omega
    · have := ic g e; omega
    · have := id g e; omega
  have HII : Hid (∀ g, GSet 2 (two px py) g → w.heap.size ≤ g ∧ g < w7.heap.size) := fun g h => by
    rcases two_mem h with e | e
    · have := ix g e; omega
    · have := iy g e; omega
  have HX4 : Hid (∀ g, px = some g → ¬ GSet 4 (four pa pb pc pd) g) := fun g e h => by
    rcases four_mem h with e' | e' | e' | e'
    · exact GOwnV.ne (by decide) ox9 oa9 g e e'
    · exact GOwnV.ne (by decide) ox9 ob9 g e e'
    · exact GOwnV.ne (by decide) ox9 oc9 g e e'
    · exact GOwnV.ne (by decide) ox9 od9 g e e'
  have HY4 : Hid (∀ g, py = some g → ¬ GSet 4 (four pa pb pc pd) g) := fun g e h => by
    rcases four_mem h with e' | e' | e' | e'
    · exact GOwnV.ne (by decide) oy9 oa9 g e e'
    · exact GOwnV.ne (by decide) oy9 ob9 g e e'
    · exact GOwnV.ne (by decide) oy9 oc9 g e e'
    · exact GOwnV.ne (by decide) oy9 od9 g e e'
  have HAL : Hid (AllOwn 9 w9 w.heap.size 4 (four pa pb pc pd) (four n n m m) (four ca cb cc cd) (four (strs ls) (strs ls) (strs xs) (strs xs))) := four_own oa9 ob9 oc9 od9
  have HW : Hid (∀ g, pw = some g → w7.heap.size ≤ g) := fun g e => (iw g e).1
  have HT : Hid (∀ g, pt = some g → w7.heap.size ≤ g) := fun g e => by have := (it g e).1; omega
  have hzw : w.heap.size ≤ w9.heap.size := hb9.size
  clear ia ib ic id ix iy iw it oa9 ob9 oc9 od9
  go_wp2_with fail
  refine (apartTexts_any 4 w.heap.size w9.heap.size (four pa pb pc pd) (four n n m m) (four ca cb cc cd) (four (strs ls) (strs ls) (strs xs) (strs xs)) _ (by decide) HAP.out (fun k _ => four_len HSn.out HSm.out k) (fun k _ => four_le (by omega) (by omega) k) (by simp; omega) (fun j hj => (HAL.out j hj).below (new_alloc _ _)) (four_tab w9 pa pb pc pd n m ca cb cc cd)).mono ?_
  rintro e w10 ⟨rfl, hk10⟩
  have ox10 := (ox9.below (new_alloc w9 _)).keeps hk10 HX4.out
  have oy10 := (oy9.below (new_alloc w9 _)).keeps hk10 HY4.out
  have ow10 := (ow9.below (new_alloc w9 _)).keeps hk10 (fun g e h => by have := HW.out g e; have := (HIN.out g h).2; omega)
  have ot10 := (ot.below (new_alloc w9 _)).keeps hk10 (fun g e h => by have := HT.out g e; have := (HIN.out g h).2; omega)
  have hb10 : Below w.heap.size w w10 := (below_alloc hb9 _).trans (hk10.below (by simp; omega) (fun j h => (HIN.out j h).1))
  have hzv : w.heap.size ≤ w10.heap.size := hb10.size
  clear ox9 oy9 ow9 ot hk10 hb9 HAL HAP HX4 HY4 HIN hzw
  have HAJ : Hid (AllOwn 3 w10 w.heap.size 2 (two px py) (two k k) (two cx cy) (two (nums zs) (nums zs))) := two_own ox10 oy10
  clear ox10 oy10
  go_wp2_with fail
  refine (apartInts_any 2 w.heap.size w10.heap.size (two px py) (two k k) (two cx cy) (two (nums zs) (nums zs)) _ (by decide) HAI.out (fun j _ => two_len HSk.out j) (fun j _ => two_le (by omega) j) (by simp; omega) (fun j hj => (HAJ.out j hj).below (new_alloc _ _)) (two_tab w10 px py k cx cy)).mono ?_
  rintro e w11 ⟨rfl, hk11⟩
  have ow11 := (ow10.below (new_alloc w10 _)).keeps hk11 (fun g e h => by have := HW.out g e; have := (HII.out g h).2; omega)
  have ot11 := (ot10.below (new_alloc w10 _)).keeps hk11 (fun g e h => by have := HT.out g e; have := (HII.out g h).2; omega)
  have hb11 : Below w.heap.size w w11 := (below_alloc hb10 _).trans (hk11.below (by simp; omega) (fun j h => (HII.out j h).1))
  clear ow10 ot10 hk11 hb10 HAJ HAI HII HW HT
  go_wp2_with fail
  refine (hF _).mono ?_
  rintro e w12 ⟨ve, vz, rfl, oe1, oz1, hbl⟩
  obtain ⟨pe, ce, rfl, oe, -⟩ := oe1.split HSm.out
  have ow12 := ow11.below hbl
  have ot12 := ot11.below hbl
  have hb12 := below_step hb11 hbl
  clear oe1 oz1 ow11 ot11 hb11 hbl
  go_wp2_with fail
  refine (hL _).mono ?_
  rintro e w13 ⟨vl, rfl, ol1, hbl⟩
  obtain ⟨pl, cl, rfl, ol, -⟩ := ol1.split HSn.out
  have ow13 := ow12.below hbl
  have ot13 := ot12.below hbl
  have oe13 := oe.below hbl
  have hb13 := below_step hb12 hbl
  clear ol1 ow12 ot12 oe hb12 hbl
  go_wp2_with fail
  refine (sameTexts_self (ptr pl) (ptr pw) n cl cw ls _ (by omega) HNn.out ol.rowP ow13.rowP).mono ?_
  rintro e w14 ⟨rfl, m14, rfl⟩
  go_wp2_with fail
  refine (sameTexts_self (ptr pe) (ptr pt) m ce ct xs _ (by omega) HNm.out (oe13.rowP.drewN m14) (ot13.rowP.drewN m14)).mono ?_
  rintro e w15 ⟨rfl, m15, rfl⟩
  have hb15 := below_draws (below_draws hb13 m14) m15
  clear ol ow13 ot13 oe13 hb13
  generalize (w13.drewN m14).drewN m15 = w16 at *
  go_wp2_with fail
  refine (awake_any _).mono ?_
  rintro e w17 ⟨rfl, hbl⟩
  go_wp2_with fail
  go_ret
  exact ⟨rfl, below_step hb15 hbl⟩

end Go.Proofs.YtaabdffplfifkaaDoor
