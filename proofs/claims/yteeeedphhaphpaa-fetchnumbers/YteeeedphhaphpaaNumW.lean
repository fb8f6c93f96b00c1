/- FetchNumbers: the chapter's examples. -/
import Derived.Test.YteeeedphhaphpaaFetM
namespace Go.Proofs.Yteeeedphhaphpaa
open Go.RowKit Go.Maps

set_option maxHeartbeats 400000 in
theorem step_none (mp lp p : Option Addr) (pc n c : Nat) (hold : Bool) (w : World) (ht : Calls Try.prog 28 #[.pointer mp, .pointer lp] w fun E w' => E = .returned (.bool false) ∧ Below w.heap.size w w') :
    Calls Try.prog 9 #[.pointer mp, .pointer lp, .int .u32 pc, .slice p n c, .bool hold] w fun e w' => e = .returned (.tuple #[.slice none 0 0, .int .i64 0, .bool false, .int .i64 1]) ∧ Below w.heap.size w w' := by
  go_enter Try.func9, Try.ntmps9
  go_wp2_with (go_at_call 28; refine Hid.out ?_)
  refine Lib.hid ?_
  refine ht.mono ?_
  rintro e w1 ⟨rfl, hb1⟩
  have HB := Hid.in hb1
  clear hb1 ht
  go_wp2_with fail
  refine bodyPost_ret (v := .tuple #[.slice none 0 0, .int .i64 0, .bool false, .int .i64 1]) (by simp [results, Try.results9, go_sem]) rfl ⟨rfl, HB.out⟩
theorem there_nomem {B l b : Nat} {L : List Ln} {mp : Option Addr} {w : World} (hl : LinAt w B l b L) (hm : NoMem w mp) : Calls Try.prog 28 #[.pointer mp, .pointer (some ⟨l, 0, none⟩)] w fun E w' => E = .returned (.bool false) ∧ Below w.heap.size w w' :=
  there_of _ _ zF false 1 w (take_nomem _ l b L _ zF (-1) false w hl (gran_is_none hm (-1)))
theorem there_nolin {mp lp : Option Addr} {w : World} (hn : ∀ W, Below w.heap.size w W → Calls Try.prog 34 #[.pointer lp] W fun e w' => e = .returned (.bool true) ∧ w' = W) : Calls Try.prog 28 #[.pointer mp, .pointer lp] w fun E w' => E = .returned (.bool false) ∧ Below w.heap.size w w' :=
  there_of _ _ zF false 1 w (take_none mp lp (-1) false w hn)

def nb : List Int := [144, 144, 144, 144, 144, 144, 233]
def nl : List Ln := [⟨1, ⟨144, 144, 233, 0⟩⟩]
theorem nb1 : stpR [] nb 6 [] false = ⟨[233, 0], 1, false, 0, nl⟩ := by kernel_rfl
theorem nb2 : stpR nl nb 6 [233, 0] false = ⟨[], 0, false, 210, nl⟩ := by kernel_rfl
theorem nb3 : stpR nl nb 7 [] false = ⟨[], 0, false, 210, nl⟩ := by kernel_rfl
theorem nb4 : stpR nl nb 0 [144] false = ⟨[], 0, false, 2, nl⟩ := by kernel_rfl
theorem nb5 : stpR nl nb 4294967295 [] false = ⟨[], 0, false, 210, nl⟩ := by kernel_rfl
theorem nb6 : stpR nl [] 0 [] false = ⟨[], 0, false, 210, nl⟩ := by kernel_rfl
theorem nd1 : doneB [255] = true := by kernel_rfl
theorem nd2 : doneB [116, 1, 2, 3, 4] = false := by kernel_rfl

set_option maxRecDepth 8000 in
set_option maxHeartbeats 2000000 in
theorem numbers_walk (w : World) : Calls Try.prog 3 #[] w fun e w' => e = .returned (.bool true) ∧ Below w.heap.size w w' := by
  go_enter Try.func3, Try.ntmps3
  go_upto_region 2 with (first
    | (refine wp_lit rfl 7 _ rfl nb rfl (by decide) (by decide) rfl ?_; intro w1 g1 HO1 HB1)
    | (go_at_call 8; refine (made_any _ 7 7 nb w1 rfl (by decide) (by decide) HO1.out.row).mono ?_; rintro e w2 ⟨q, mg, l, b, pw, cw, rfl, hst, -, -, -⟩; have HT : Hid (FSt w1 w2 q mg l b [] nb) := hst; clear hst HO1))
  have h9 := HT.out.step 6 0 none [] false (by decide) (by decide) (by decide) (by decide) (fun h => absurd h (Nat.lt_irrefl 0))
  rw [nb1] at h9
  dsimp only [List.length_cons, List.length_nil, Nat.zero_add, Nat.reduceAdd] at h9
  go_wp2_with (go_at_call 9; refine Hid.out ?_)
  refine Lib.hid ?_
  refine h9.mono ?_
  rintro e w3 ⟨pa, ca, rfl, hra, -, ht, -⟩
  clear HT h9
  have HT := Hid.in ht
  have HR := Hid.in hra
  clear ht hra
  have h9 := HT.out.step 6 ca pa [233, 0] false (by decide) (by decide) (by decide) (by decide) HR.out
  rw [nb2] at h9
  dsimp only [List.length_cons, List.length_nil, Nat.zero_add, Nat.reduceAdd] at h9
  go_wp2_with (go_at_call 9; refine Hid.out ?_)
  refine Lib.hid ?_
  refine h9.mono ?_
  rintro e w4 ⟨p4, cp4, rfl, -, -, ht, hk⟩
  have HT' := Hid.in ht
  have HR' := Hid.in (hk _ _ HR.out)
  clear HT HR h9 ht hk
  have HT := HT'
  have HR := HR'
  clear HT' HR' 
  have h9 := HT.out.step 7 0 none [] false (by decide) (by decide) (by decide) (by decide) (fun h => absurd h (Nat.lt_irrefl 0))
  rw [nb3] at h9
  dsimp only [List.length_cons, List.length_nil, Nat.zero_add, Nat.reduceAdd] at h9
  go_wp2_with (go_at_call 9; refine Hid.out ?_)
  refine Lib.hid ?_
  refine h9.mono ?_
  rintro e w5 ⟨p5, cp5, rfl, -, -, ht, hk⟩
  have HT' := Hid.in ht
  have HR' := Hid.in (hk _ _ HR.out)
  clear HT HR h9 ht hk
  have HT := HT'
  have HR := HR'
  clear HT' HR' 
  have hn_ := new_alloc w5 (.cells #[.int .u8 144] 5)
  have hr_ : Row (w5.alloc (.cells #[.int .u8 144] 5)) (some ⟨w5.heap.size, 0, none⟩) [144] := (Own.lit w5 [144] (by unfold maxLen; decide)).row
  have HT' := Hid.in (HT.out.below hn_)
  have HR' := Hid.in (HR.out.below hn_)
  clear HT HR hn_
  have HT := HT'
  have HR := HR'
  clear HT' HR' 
  have h9 := HT.out.step 0 1 (some ⟨w5.heap.size, 0, none⟩) [144] false (by decide) (by decide) (by decide) (by decide) hr_
  rw [nb4] at h9
  dsimp only [List.length_cons, List.length_nil, Nat.zero_add, Nat.reduceAdd] at h9
  go_wp2_with (go_at_call 9; refine Hid.out ?_)
  refine Lib.hid ?_
  refine h9.mono ?_
  clear hr_
  rintro e w6 ⟨p6, cp6, rfl, -, -, ht, hk⟩
  have HT' := Hid.in ht
  have HR' := Hid.in (hk _ _ HR.out)
  clear HT HR h9 ht hk
  have HT := HT'
  have HR := HR'
  clear HT' HR' 
  have h9 := HT.out.step 4294967295 0 none [] false (by decide) (by decide) (by decide) (by decide) (fun h => absurd h (Nat.lt_irrefl 0))
  rw [nb5] at h9
  dsimp only [List.length_cons, List.length_nil, Nat.zero_add, Nat.reduceAdd] at h9
  go_wp2_with (go_at_call 9; refine Hid.out ?_)
  refine Lib.hid ?_
  refine h9.mono ?_
  rintro e w7 ⟨p7, cp7, rfl, -, -, ht, hk⟩
  have HT' := Hid.in ht
  have HR' := Hid.in (hk _ _ HR.out)
  clear HT HR h9 ht hk
  have HT := HT'
  have HR := HR'
  clear HT' HR' 
  go_wp2_with (go_at_call 10; refine Hid.out ?_)
  refine Lib.hid ?_
  refine (new_ok none 0 0 [] w7 rfl (by decide) (fun h => absurd h (Nat.lt_irrefl 0))).mono ?_
  rintro e w8 ⟨q8, g8, rfl, hm8, hb8⟩
  have HT' := Hid.in (HT.out.below hb8)
  have HR' := Hid.in (HR.out.below hb8)
  have HM8 := Hid.in hm8
  clear HT HR hb8 hm8
  have HT := HT'
  have HR := HR'
  clear HT' HR'
  have h9 := step_any _ _ q8 g8 l b 0 0 none nl [] [] false w8 HT.out.lin HM8.out (by decide) (by decide) (by decide) (by decide) (fun h => absurd h (Nat.lt_irrefl 0))
  rw [nb6] at h9
  dsimp only [List.length_nil] at h9
  go_wp2_with (go_at_call 9; refine Hid.out ?_)
  refine Lib.hid ?_
  refine h9.mono ?_
  rintro e w9 ⟨v9, rfl, ho9, hl9, hk9⟩
  obtain ⟨p9, c9, rfl, -, -⟩ := ho9.slice
  have HT' := Hid.in (HT.out.swap hl9 hk9)
  have HR' := Hid.in (HR.out.lines HT.out.lin.isMap hk9)
  clear HT HR h9 ho9 hl9 hk9 HM8
  have HT := HT'
  have HR := HR'
  clear HT' HR' 
  have h9 := step_none none (some ⟨l, 0, none⟩) none 0 0 0 false w9 (there_nomem HT.out.lin (noMem_nil _))
  go_wp2_with (go_at_call 9; refine Hid.out ?_)
  refine Lib.hid ?_
  refine h9.mono ?_
  rintro e wa ⟨rfl, hb_⟩
  have HT' := Hid.in (HT.out.below hb_)
  have HR' := Hid.in (HR.out.below hb_)
  clear HT HR h9 hb_
  have HT := HT'
  have HR := HR'
  clear HT' HR' 
  have h9 := step_none (some ⟨q, 0, none⟩) none none 0 0 0 false wa (there_nolin fun W _ => lnone_nil W)
  go_wp2_with (go_at_call 9; refine Hid.out ?_)
  refine Lib.hid ?_
  refine h9.mono ?_
  rintro e wb ⟨rfl, hb_⟩
  have HT' := Hid.in (HT.out.below hb_)
  have HR' := Hid.in (HR.out.below hb_)
  clear HT HR h9 hb_
  have HT := HT'
  have HR := HR'
  clear HT' HR' 
  have hn1 := new_alloc wb (.cells #[.bool false, .slice none 0 0] 34)
  have hk1 := Blk.new wb 34 #[.bool false, .slice none 0 0]
  have hn2 := new_alloc (wb.alloc (.cells #[.bool false, .slice none 0 0] 34)) (.cells #[.int .u8 144] 5)
  have hk2 := hk1.grow hn2
  have HT' := Hid.in ((HT.out.below hn1).below hn2)
  have HR' := Hid.in ((HR.out.below hn1).below hn2)
  clear HT HR hn1 hn2 hk1
  have HT := HT'
  have HR := HR'
  clear HT' HR'
  have h9 := fun (p : Option Addr) => step_none (some ⟨wb.heap.size, 0, none⟩) (some ⟨l, 0, none⟩) p 0 1 1 false ((wb.alloc (.cells #[.bool false, .slice none 0 0] 34)).alloc (.cells #[.int .u8 144] 5)) (there_nomem HT.out.lin (noMem_zero hk2))
  clear hk2
  go_wp2_with (go_at_call 9; refine Hid.out ?_)
  refine Lib.hid ?_
  refine (h9 _).mono ?_
  rintro e wc ⟨rfl, hb_⟩
  have HT' := Hid.in (HT.out.below hb_)
  have HR' := Hid.in (HR.out.below hb_)
  clear HT HR h9 hb_
  have HT := HT'
  have HR := HR'
  clear HT' HR'
  have hn1 := new_alloc wc (.cells #[.map none] 37)
  have hk1 := Blk.new wc 37 #[.map none]
  have hn2 := new_alloc (wc.alloc (.cells #[.map none] 37)) (.cells #[.int .u8 144] 5)
  have hk2 := hk1.grow hn2
  have HT' := Hid.in ((HT.out.below hn1).below hn2)
  have HR' := Hid.in ((HR.out.below hn1).below hn2)
  clear HT HR hn1 hn2 hk1
  have HT := HT'
  have HR := HR'
  clear HT' HR'
  have h9 := fun (p : Option Addr) => step_none (some ⟨q, 0, none⟩) (some ⟨wc.heap.size, 0, none⟩) p 0 1 1 false ((wc.alloc (.cells #[.map none] 37)).alloc (.cells #[.int .u8 144] 5)) (there_nolin fun W hW => lnone_zero _ W ((hk2.grow hW).cell 0))
  clear hk2
  go_wp2_with (go_at_call 9; refine Hid.out ?_)
  refine Lib.hid ?_
  refine (h9 _).mono ?_
  rintro e wd ⟨rfl, hb_⟩
  have HT' := Hid.in (HT.out.below hb_)
  have HR' := Hid.in (HR.out.below hb_)
  clear HT HR h9 hb_
  have HT := HT'
  have HR := HR'
  clear HT' HR'
  have hn_ := new_alloc wd (.cells #[.int .u8 233, .int .u8 0] 5)
  have hr_ : Row (wd.alloc (.cells #[.int .u8 233, .int .u8 0] 5)) (some ⟨wd.heap.size, 0, none⟩) [233, 0] := (Own.lit wd [233, 0] (by unfold maxLen; decide)).row
  have HT' := Hid.in (HT.out.below hn_)
  have HR' := Hid.in (HR.out.below hn_)
  clear HT HR hn_
  have HT := HT'
  have HR := HR'
  clear HT' HR'
  have h11 := sameBytes_any pa (some ⟨wd.heap.size, 0, none⟩) 2 ca 2 2 [233, 0] [233, 0] _ rfl rfl (by decide) HR.out hr_
  rw [sameB_self] at h11
  go_wp2_with (go_at_call 11; refine Hid.out ?_)
  refine Lib.hid ?_
  refine h11.mono ?_
  rintro e we ⟨rfl, me, rfl⟩
  have HT' := Hid.in (HT.out.drewN me)
  have HR' := Hid.in (HR.out.drewN me)
  clear HT HR h11 hr_
  have HT := HT'
  have HR := HR'
  clear HT' HR'
  generalize (wd.alloc (.cells #[.int .u8 233, .int .u8 0] 5)).drewN me = we at *
  have h12 := next_any 1 pa 2 ca we (by decide) (by decide)
  rw [show (1 + 2) / 4 = 0 from rfl] at h12
  go_wp2_with (go_at_call 12; refine Hid.out ?_)
  refine Lib.hid ?_
  refine h12.mono ?_
  rintro e wf ⟨rfl, hw_⟩
  rw [hw_]
  clear h12 hw_
  have hn_ := new_alloc we (.cells #[.int .u8 1, .int .u8 2, .int .u8 3] 5)
  have hr_ : Row (we.alloc (.cells #[.int .u8 1, .int .u8 2, .int .u8 3] 5)) (some ⟨we.heap.size, 0, none⟩) [1, 2, 3] := (Own.lit we [1, 2, 3] (by unfold maxLen; decide)).row
  have HT' := Hid.in (HT.out.below hn_)
  have HR' := Hid.in (HR.out.below hn_)
  clear HT HR hn_
  have HT := HT'
  have HR := HR'
  clear HT' HR'
  have h12 := fun p => next_any 1 p 3 3 (we.alloc (.cells #[.int .u8 1, .int .u8 2, .int .u8 3] 5)) (by decide) (by decide)
  rw [show (1 + 3) / 4 = 1 from rfl] at h12
  go_wp2_with (go_at_call 12; refine Hid.out ?_)
  refine Lib.hid ?_
  refine (h12 _).mono ?_
  rintro e wf ⟨rfl, rfl⟩
  clear h12 hr_
  generalize we.alloc (.cells #[.int .u8 1, .int .u8 2, .int .u8 3] 5) = wg at *
  have hn_ := new_alloc wg (.cells #[.int .u8 1, .int .u8 2, .int .u8 3, .int .u8 4] 5)
  have hr_ : Row (wg.alloc (.cells #[.int .u8 1, .int .u8 2, .int .u8 3, .int .u8 4] 5)) (some ⟨wg.heap.size, 0, none⟩) [1, 2, 3, 4] := (Own.lit wg [1, 2, 3, 4] (by unfold maxLen; decide)).row
  have HT' := Hid.in (HT.out.below hn_)
  have HR' := Hid.in (HR.out.below hn_)
  clear HT HR hn_
  have HT := HT'
  have HR := HR'
  clear HT' HR'
  have h12 := fun p => next_any 4294967295 p 4 4 (wg.alloc (.cells #[.int .u8 1, .int .u8 2, .int .u8 3, .int .u8 4] 5)) (by decide) (by decide)
  rw [show (4294967295 + 4) / 4 = 1073741824 from rfl] at h12
  go_wp2_with (go_at_call 12; refine Hid.out ?_)
  refine Lib.hid ?_
  refine (h12 _).mono ?_
  rintro e wf ⟨rfl, rfl⟩
  clear h12 hr_
  generalize wg.alloc (.cells #[.int .u8 1, .int .u8 2, .int .u8 3, .int .u8 4] 5) = wh at *
  have h13 := done_any none 0 0 [] wh rfl (by decide) (fun h => absurd h (Nat.lt_irrefl 0))
  rw [done_nil] at h13
  go_wp2_with (go_at_call 13; refine Hid.out ?_)
  refine Lib.hid ?_
  refine h13.mono ?_
  rintro e wi ⟨rfl, hb_⟩
  have HT' := Hid.in (HT.out.below hb_)
  have HR' := Hid.in (HR.out.below hb_)
  clear HT HR h13 hb_
  have HT := HT'
  have HR := HR'
  clear HT' HR'
  have hn_ := new_alloc wi (.cells #[.int .u8 255] 5)
  have hr_ : Row (wi.alloc (.cells #[.int .u8 255] 5)) (some ⟨wi.heap.size, 0, none⟩) [255] := (Own.lit wi [255] (by unfold maxLen; decide)).row
  have HT' := Hid.in (HT.out.below hn_)
  have HR' := Hid.in (HR.out.below hn_)
  clear HT HR hn_
  have HT := HT'
  have HR := HR'
  clear HT' HR'
  have h13 := done_any (some ⟨wi.heap.size, 0, none⟩) 1 1 [255] _ rfl (by decide) hr_
  rw [nd1] at h13
  go_wp2_with (go_at_call 13; refine Hid.out ?_)
  refine Lib.hid ?_
  refine h13.mono ?_
  rintro e wj ⟨rfl, hb_⟩
  have HT' := Hid.in (HT.out.below hb_)
  have HR' := Hid.in (HR.out.below hb_)
  clear HT HR h13 hb_ hr_
  have HT := HT'
  have HR := HR'
  clear HT' HR'
  have hn_ := new_alloc wj (.cells #[.int .u8 116, .int .u8 1, .int .u8 2, .int .u8 3, .int .u8 4] 5)
  have hr_ : Row (wj.alloc (.cells #[.int .u8 116, .int .u8 1, .int .u8 2, .int .u8 3, .int .u8 4] 5)) (some ⟨wj.heap.size, 0, none⟩) [116, 1, 2, 3, 4] := (Own.lit wj [116, 1, 2, 3, 4] (by unfold maxLen; decide)).row
  have HT' := Hid.in (HT.out.below hn_)
  have HR' := Hid.in (HR.out.below hn_)
  clear HT HR hn_
  have HT := HT'
  have HR := HR'
  clear HT' HR'
  have h13 := done_any (some ⟨wj.heap.size, 0, none⟩) 5 5 [116, 1, 2, 3, 4] _ rfl (by decide) hr_
  rw [nd2] at h13
  go_wp2_with (go_at_call 13; refine Hid.out ?_)
  refine Lib.hid ?_
  refine h13.mono ?_
  rintro e wk ⟨rfl, hb_⟩
  have HT' := Hid.in (HT.out.below hb_)
  have HR' := Hid.in (HR.out.below hb_)
  clear HT HR h13 hb_ hr_
  have HT := HT'
  have HR := HR'
  clear HT' HR'
  have h14 := all_any _ l b _ wk HT.out.lin (by decide) (fun x hx => by unfold nl at hx; rw [List.mem_singleton] at hx; subst hx; unfold i64W; dsimp only; omega)
  go_wp2_with (go_at_call 14; refine Hid.out ?_)
  refine Lib.hid ?_
  refine h14.mono ?_
  rintro e wl ⟨v9, rfl, ho9, hb9⟩
  obtain ⟨p9, c9, rfl, -, -, -⟩ := ho9.row5
  have HB9 := Hid.in (below_step HB1.out (below_step HT.out.bel hb9))
  clear ho9 hb9 h14 HT HR
  rw [show nl.length = 1 from rfl]
  go_wp2_with (go_at_call 15; refine Hid.out ?_)
  refine Lib.hid ?_
  refine (awake_any _).mono ?_
  rintro e wm ⟨rfl, hba⟩
  have HBa := Hid.in (below_step HB9.out hba)
  clear hba HB9
  go_wp2_with fail
  go_ret
  exact ⟨rfl, HBa.out⟩

end Go.Proofs.Yteeeedphhaphpaa
