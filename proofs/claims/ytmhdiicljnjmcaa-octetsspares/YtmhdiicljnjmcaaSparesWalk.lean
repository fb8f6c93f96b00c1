/- What the law OctetsSpares answers: true, for every slice of bytes, every number. -/
import Derived.Test.YtmhdiicljnjmcaaApartB
import Derived.Test.YtmhdiicljnjmcaaUnhex
import Derived.Deep.AppendLies
namespace Go.Proofs.Ytmhdiicljnjmcaa
open Go.RowKit

theorem OwnV.keeps {G : Nat → Prop} {w w' : World} {B : Nat} {v : Value} {xs : List Int} (h : OwnV w B v xs) (hk : Keeps G w w') (hne : ∀ j, G j → j < B) : OwnV w' B v xs := by
  rcases h.shape with ⟨rfl, rfl⟩ | ⟨g, cap, rfl, ho⟩
  · exact OwnV.nil _ _
  · obtain ⟨cur, h1, h2, h3, h4, h5, h6⟩ := ho.parts
    exact (Own.mk h1 (by rw [hk.block g ho.lt (fun hg => by have := hne g hg; omega)]; exact h2) h3 h4 h5 h6).val

/-- five lists: the program's answers, and what was handed in -/
def five (a b c d e : Nat) (k : Nat) : Nat := if k = 0 then a else if k = 1 then b else if k = 2 then c else if k = 3 then d else e
def fiveL (x y : List Int) (k : Nat) : List Int := if k < 2 then x else y
theorem five_apart {a b c d e : Nat} (h1 : e < a) (h2 : a < b) (h3 : b < c) (h4 : c < d) : Apart 5 (five a b c d e) := by
  intro i j hi hj hne
  rcases (show i = 0 ∨ i = 1 ∨ i = 2 ∨ i = 3 ∨ i = 4 by omega) with r | r | r | r | r <;> rcases (show j = 0 ∨ j = 1 ∨ j = 2 ∨ j = 3 ∨ j = 4 by omega) with s | s | s | s | s <;> subst r <;> subst s <;> simp [five] at hne ⊢ <;> omega
theorem five_own {w : World} {B a b c d e N ce : Nat} {x y : List Int} (ha : Own w B a N x) (hb : Own w B b N x) (hc : Own w B c N y) (hd : Own w B d N y) (he : Own w B e ce y) :
    AllOwn w B 5 (five a b c d e) (five N N N N ce) (fiveL x y) := by
  intro j hj
  rcases (show j = 0 ∨ j = 1 ∨ j = 2 ∨ j = 3 ∨ j = 4 by omega) with r | r | r | r | r <;> subst r
  · exact ha
  · exact hb
  · exact hc
  · exact hd
  · exact he
theorem five_mem {a b c d e j : Nat} (h : ∃ k, k < 5 ∧ j = five a b c d e k) : j = a ∨ j = b ∨ j = c ∨ j = d ∨ j = e := by
  obtain ⟨k, hk, rfl⟩ := h
  rcases (show k = 0 ∨ k = 1 ∨ k = 2 ∨ k = 3 ∨ k = 4 by omega) with r | r | r | r | r <;> subst r <;> simp [five]
theorem five_tab (w : World) (a b c d e N ce : Nat) :
    TabOf (w.alloc (.cells #[.slice (some ⟨a, 0, none⟩) N N, .slice (some ⟨b, 0, none⟩) N N, .slice (some ⟨c, 0, none⟩) N N, .slice (some ⟨d, 0, none⟩) N N, .slice (some ⟨e, 0, none⟩) N ce] 25)) w.heap.size 5
      (fun k => .slice (some ⟨five a b c d e k, 0, none⟩) ((fun _ => N) k) (five N N N N ce k)) := by
  unfold TabOf
  rw [heap_alloc_new]
  rfl

set_option maxHeartbeats 800000 in
theorem lawSpares_any (p : Option Addr) (n c : Nat) (v : Int) (xs : List Int) (w : World) (hx : xs.length = n) (hn : n ≤ 140737488351232) (hr : Row w p xs) (hb : Byt xs) (hv : 0 ≤ v ∧ v ≤ 4294967295) :
    Calls Try.prog 8 #[.slice p n c, .int .u32 v] w fun e w' => e = .returned (.bool true) ∧ Below w.heap.size w w' := by
  obtain ⟨fl, hfl⟩ : ∃ fl, xs ++ [1, 2, 3, 4] = fl := ⟨_, rfl⟩
  have hflen : fl.length = n + 4 := by rw [← hfl, List.length_append, hx]; rfl
  have hfb : Byt fl := fun i => by
    rw [← hfl]
    by_cases hi : i < xs.length
    · simp only [List.getD, List.getElem?_append_left hi]; exact hb i
    · simp only [List.getD, List.getElem?_append_right (show xs.length ≤ i by omega)]
      exact byt_of [1, 2, 3, 4] (by decide) _
  have hxl : (putL fl n v).length = n + 4 := by rw [putL_length, hflen]
  have hxb : Byt (putL fl n v) := putL_byt hfb (by omega) hv
  have hS : (strOfNums (hexL fl)).size = 2 * (n + 4) := by rw [strOfNums_size, hexL_length, hflen]
  have HCp : Hid (∀ q cp wx, Row wx q fl → Calls Try.prog 12 #[.slice q (n + 4) cp, .int .i64 n, .int .u32 v] wx fun e w' => ∃ g, e = .returned (.tuple #[.slice (some ⟨g, 0, none⟩) (n + 4) (n + 4), .int .i64 0]) ∧ Own w' wx.heap.size g (n + 4) (putL fl n v) ∧ Below wx.heap.size wx w') := fun q cp wx h => by
    have := put32_ex q (n + 4) cp n v fl wx hflen (by omega) h hv (by omega) (by omega)
    rwa [Int.toNat_natCast] at this
  have HCh : Hid (∀ q cp wx, Row wx q fl → Calls Try.prog 20 #[.slice q (n + 4) cp] wx fun e w' => e = .returned (.string (strOfNums (hexL fl))) ∧ Below wx.heap.size wx w') := fun q cp wx h => hex_any q (n + 4) cp fl wx hflen (by omega) h hfb
  have HCu : Hid (∀ wx, Calls Try.prog 13 #[.string (strOfNums (hexL fl))] wx fun e w' => ∃ g, e = .returned (.tuple #[.slice (some ⟨g, 0, none⟩) (n + 4) (n + 4), .bool true]) ∧ Own w' wx.heap.size g (n + 4) fl ∧ Below wx.heap.size wx w') := fun wx => by
    have h := unhex_yes (strOfNums (hexL fl)) wx (by omega) (by rw [codes_str (hexL_byt hfb)]; exact hexL_good hfb)
    rwa [codes_str (hexL_byt hfb), unhexB_hexL hfb, hS, show 2 * (n + 4) / 2 = n + 4 by omega] at h
  have HX : Hid (xs.length = n) := hx
  have HF : Hid (xs ++ [1, 2, 3, 4] = fl) := hfl
  have HL : Hid (fl.length = n + 4) := hflen
  have HXL : Hid ((putL fl n v).length = n + 4) := hxl
  clear hx hfl hflen hxl hS
  generalize strOfNums (hexL fl) = st at *
  generalize putL fl n v = xl at *
  go_enter Try.func8, Try.ntmps8
  go_wp2_with fail
  refine (copy_any p n c xs _ HX.out (by omega) hr).mono ?_
  rintro e w1 ⟨u, rfl, hown, hb1⟩
  have hsz := hb1.size
  go_wp2_with (at_builtin; refine wp_push _ rfl _ _ rfl w.heap.size _ xs rfl (hown.alloc _) ⟨w1.heap.size, 0, none⟩ 4 4 [1, 2, 3, 4] rfl rfl (World.news_of_block (cs := #[.int .u8 1, .int .u8 2, .int .u8 3, .int .u8 4]) (t := 5) (fr := (0, 0)) (heap_alloc_new w1 _)) (by rw [HX.out]; omega) (by simp; omega) ?_; intro v' w2 hown2 _hgrow hbel hnil; rw [HF.out] at hown2; obtain ⟨gf, cf, hv2, ho2⟩ := hown2.held (fun h => by have := (hnil.1 h).2; omega); have hb2 := hbel _ (below_alloc hb1 _); rw [HL.out] at hv2; rw [hv2]; clear hown2 hbel hnil hv2 hown hb1 hsz)
  have hr2 := hr.below hb2
  have hg2 := ho2.lt
  refine (HCp.out _ _ _ ho2.row).mono ?_
  rintro e w3 ⟨gx, rfl, ox3, hbl⟩
  have of3 := ho2.below hbl
  have hx3 := ox3.base
  have hg3 := ox3.lt
  have hb3 := below_step hb2 hbl
  clear hbl hb2 ho2 hr2
  go_wp2_with fail
  refine (HCp.out _ _ _ of3.row).mono ?_
  rintro e w4 ⟨gy, rfl, oy4, hbl⟩
  have of4 := of3.below hbl
  have ox4 := ox3.below hbl
  have hx4 := oy4.base
  have hg4 := oy4.lt
  have hb4 := below_step hb3 hbl
  clear hbl hb3 of3 ox3
  go_wp2_with fail
  refine (HCh.out _ _ _ of4.row).mono ?_
  rintro e w5 ⟨rfl, hbl⟩
  have of5 := of4.below hbl
  have ox5 := ox4.below hbl
  have oy5 := oy4.below hbl
  have hz5 := hbl.size
  have hb5 := below_step hb4 hbl
  clear hbl hb4 of4 ox4 oy4
  go_wp2_with fail
  refine (HCu.out _).mono ?_
  rintro e w6 ⟨gp, rfl, op6, hbl⟩
  have of6 := of5.below hbl
  have ox6 := ox5.below hbl
  have oy6 := oy5.below hbl
  have hx6 := op6.base
  have hg6 := op6.lt
  have hb6 := below_step hb5 hbl
  clear hbl hb5 of5 ox5 oy5
  go_wp2_with fail
  refine (HCh.out _ _ _ of6.row).mono ?_
  rintro e w7 ⟨rfl, hbl⟩
  have of7 := of6.below hbl
  have ox7 := ox6.below hbl
  have oy7 := oy6.below hbl
  have op7 := op6.below hbl
  have hz7 := hbl.size
  have hb7 := below_step hb6 hbl
  clear hbl hb6 of6 ox6 oy6 op6
  go_wp2_with fail
  refine (HCu.out _).mono ?_
  rintro e w8 ⟨gq, rfl, oq8, hbl⟩
  have of8 := of7.below hbl
  have ox8 := ox7.below hbl
  have oy8 := oy7.below hbl
  have op8 := op7.below hbl
  have hx8 := oq8.base
  have hg8 := oq8.lt
  have hb8 := below_step hb7 hbl
  clear hbl hb7 of7 ox7 oy7 op7
  go_wp2_with fail
  refine (same_any _ _ _ _ _ _ xl xl _ HXL.out HXL.out ox8.row oy8.row hxb hxb).mono ?_
  rw [sameB_self]
  rintro e w9 ⟨rfl, rfl⟩
  go_wp2_with fail
  refine (same_any _ _ _ _ _ _ fl fl _ HL.out HL.out op8.row oq8.row hfb hfb).mono ?_
  rw [sameB_self]
  rintro e w9 ⟨rfl, rfl⟩
  go_wp2_with fail
  refine (copy_any _ (n + 4) _ xl _ HXL.out (by omega) ox8.row).mono ?_
  rintro e w10 ⟨wv, rfl, hwas, hbl⟩
  obtain ⟨qw, cw, hwv, hwr, hwn⟩ := hwas.slice
  rw [HXL.out] at hwv
  rw [hwv]
  rw [hwv] at hwas
  clear hwr hwn hwv
  have of10 := of8.below hbl
  have ox10 := ox8.below hbl
  have oy10 := oy8.below hbl
  have op10 := op8.below hbl
  have oq10 := oq8.below hbl
  have hb10 := below_step hb8 hbl
  clear hbl hb8 of8 ox8 oy8 op8 oq8
  have hwsz := hb10.size
  have hfb0 := of10.base
  have hall : AllOwn w10 w.heap.size 5 (five gx gy gp gq gf) (five (n + 4) (n + 4) (n + 4) (n + 4) cf) (fiveL xl fl) := five_own (ox10.raise (by omega)) (oy10.raise (by omega)) (op10.raise (by omega)) (oq10.raise (by omega)) of10
  have hapt : Apart 5 (five gx gy gp gq gf) := five_apart (by omega) (by omega) (by omega) (by omega)
  have hmem : ∀ j, (∃ k, k < 5 ∧ j = five gx gy gp gq gf k) → w.heap.size ≤ j ∧ j < w9.heap.size := fun j h => by
    rcases five_mem h with e | e | e | e | e <;> omega
  have HM : Hid (∀ j, (∃ k, k < 5 ∧ j = five gx gy gp gq gf k) → w.heap.size ≤ j ∧ j < w9.heap.size) := hmem
  have hfl2 : ∀ k, k < 5 → (fiveL xl fl k).length = n + 4 := fun k _ => by
    unfold fiveL
    split
    · exact HXL.out
    · exact HL.out
  have HFL : Hid (∀ k, k < 5 → (fiveL xl fl k).length = n + 4) := hfl2
  have HAP : Hid (Apart 5 (five gx gy gp gq gf)) := hapt
  have HAL : Hid (AllOwn w10 w.heap.size 5 (five gx gy gp gq gf) (five (n + 4) (n + 4) (n + 4) (n + 4) cf) (fiveL xl fl)) := hall
  clear hmem hfl2 hapt hall of10 ox10 oy10 op10 oq10
  go_wp2_with fail
  refine (apart_any 5 w.heap.size w10.heap.size (five gx gy gp gq gf) (five (n + 4) (n + 4) (n + 4) (n + 4) cf) (fun _ => n + 4) (fiveL xl fl) _ (by decide) HAP.out HFL.out (fun _ _ => by omega) (fun j hj => (HAL.out j hj).below (new_alloc _ _)) (five_tab w10 gx gy gp gq gf (n + 4) cf)).mono ?_
  rintro e w11 ⟨rfl, hk⟩
  have hwas11 := (hwas.below (new_alloc w10 _)).keeps hk (fun j h => (HM.out j h).2)
  have hb11 : Below w.heap.size w w11 := (below_alloc hb10 _).trans (hk.below (by simp; omega) (fun j h => (HM.out j h).1))
  have hr11 := hr.below hb11
  clear hk hwas hb10 HAL HAP HFL HM
  go_wp2_with fail
  refine (copy_any p n c xs _ HX.out (by omega) hr11).mono ?_
  rintro e w12 ⟨u2, rfl, hown, hbl⟩
  have hsz := hbl.size
  clear hr11
  go_wp2_with (at_builtin; refine wp_push _ rfl _ _ rfl w11.heap.size _ xs rfl (hown.alloc _) ⟨w12.heap.size, 0, none⟩ 4 4 [1, 2, 3, 4] rfl rfl (World.news_of_block (cs := #[.int .u8 1, .int .u8 2, .int .u8 3, .int .u8 4]) (t := 5) (fr := (0, 0)) (heap_alloc_new w12 _)) (by rw [HX.out]; omega) (by simp; omega) ?_; intro v' w13 hown2 _hgrow2 hbel hnil; rw [HF.out] at hown2; obtain ⟨gf2, cf2, hv2, ho2⟩ := hown2.held (fun h => by have := (hnil.1 h).2; omega); have hb13 := hbel _ ((below_self w11).trans (hbl.alloc hsz _)); rw [HL.out] at hv2; rw [hv2]; clear hown2 hbel hnil hv2 hown)
  have hwas13 := hwas11.below hb13
  have hb14 := below_step hb11 hb13
  clear hb13 hwas11 hb11 hbl hsz
  refine (HCp.out _ _ _ ho2.row).mono ?_
  rintro e w15 ⟨gz, rfl, oz, hbl⟩
  have hwas15 := hwas13.below hbl
  have hb15 := below_step hb14 hbl
  have hrw : Row w15 qw xl := by
    obtain ⟨q9, c9, hq9, hrw, _⟩ := hwas15.slice
    simp only [Value.slice.injEq] at hq9
    rw [hq9.1]
    exact hrw
  clear hbl hwas13 hb14 ho2 hwas15
  go_wp2_with fail
  refine (same_any _ _ _ _ _ _ xl xl _ HXL.out HXL.out oz.row hrw hxb hxb).mono ?_
  rw [sameB_self]
  rintro e w16 ⟨rfl, rfl⟩
  go_wp2_with fail
  refine (awake_any _).mono ?_
  rintro e w17 ⟨rfl, hbl⟩
  go_wp2
  go_ret
  exact ⟨rfl, below_step hb15 hbl⟩

end Go.Proofs.Ytmhdiicljnjmcaa
