/- What the law's numbers ask for, reckoned; the units that it builds, in memory. -/
import Derived.Test.YtnmcdkhfjkpklaaAwkW
import Derived.Test.YtnmcdkhfjkpklaaBhdL
import Derived.Test.YtnmcdkhfjkpklaaStaL
import Derived.Laws.OwnMore
import Derived.Deep.OwnRows
namespace Go.Proofs.Ytnmcdkhfjkpklaa
open Go.RowKit

def tabTwo : List Sy := [⟨⟨#[97]⟩, 0, true⟩, ⟨⟨#[98]⟩, 5, false⟩, ⟨⟨#[98]⟩, 9, true⟩, ⟨⟨#[99]⟩, 11, false⟩]
theorem find_b : findG tabTwo ⟨#[98]⟩ = some 9 := by kernel_rfl
theorem find_c : findG tabTwo ⟨#[99]⟩ = none := by kernel_rfl
theorem res_1a : resL [twoA, twoB] 1 ⟨#[97]⟩ = (0, 0) := by kernel_rfl
theorem res_0c : resL [twoA, twoB] 0 ⟨#[99]⟩ = (0, 171) := by kernel_rfl
theorem res_2a : resL [twoA, twoB] 2 ⟨#[97]⟩ = (0, 2) := by kernel_rfl
theorem res_na : resL [twoA, twoB] (-1) ⟨#[97]⟩ = (0, 2) := by kernel_rfl
def symA3 : Sy := ⟨⟨#[97]⟩, 3, true⟩
def twoB2 : Ob := ⟨[0, 0, 0], [symB1, symA3], [], []⟩
theorem tab_twice : tabL [twoA, twoB2] = noTab 170 1 := by kernel_rfl
theorem res_twice : resL [twoA, twoB2] 5 ⟨#[97]⟩ = (0, 170) := by kernel_rfl
def noOb : Ob := ⟨[], [], [], []⟩
def bigOb (n : Nat) : Ob := ⟨List.replicate n 0, [], [], []⟩
def farOb (s : ByteArray) (g : Bool) : Ob := ⟨[], [⟨s, 0, g⟩], [], []⟩
def badOb : Ob := ⟨[0], [⟨⟨#[49]⟩, 0, false⟩], [], []⟩
theorem tab_17 : tabL (List.replicate 17 noOb) = noTab 3 0 := by kernel_rfl
theorem tab_16 : tabL (List.replicate 16 noOb) = ⟨List.replicate 16 0, [], 0, 0⟩ := by kernel_rfl
theorem tab_far1 : tabL [farOb ⟨#[97]⟩ true, noOb, farOb ⟨#[97]⟩ true] = noTab 170 2 := by kernel_rfl
theorem tab_far2 : (tabL [noOb, farOb ⟨#[97]⟩ true, farOb ⟨#[97]⟩ false]).e = 0 := by kernel_rfl
theorem tab_bad3 : tabL [twoA, twoB, farOb ⟨#[49]⟩ false] = noTab 2 2 := by kernel_rfl
theorem find_a2 : findG [⟨⟨#[97]⟩, 1, true⟩, ⟨⟨#[97]⟩, 2, true⟩] ⟨#[97]⟩ = some 1 := by kernel_rfl
theorem ok_no : okO noOb = true := by kernel_rfl
theorem ok_badOb : okO badOb = false := by kernel_rfl
theorem ok_big (n : Nat) (h : n ≤ 65536) : okO (bigOb n) = true := by
  unfold okO bigOb
  simp only [List.length_replicate, List.length_nil, rsL, rfL, rmL, Bool.and_true, decide_eq_true_eq]
  exact ⟨h, by decide, by decide, by decide⟩
theorem go_ok {i e : Nat} {ss : List Nat} {ts : List Sy} {o : Ob} {os : List Ob} (h1 : okO o = true) (h2 : nextS e + o.bs.length ≤ 65536) (h3 : dupS (gloS ts) o.sy = false) : tabGo i e ss ts (o :: os) = tabGo (i + 1) (nextS e + o.bs.length) (ss ++ [nextS e]) (ts ++ o.sy.map (movS (nextS e))) os := by
  conv => lhs; unfold tabGo
  rw [if_neg (by rw [h1]; decide), if_neg (by omega), if_neg (by rw [h3]; decide)]
theorem go_long {i e : Nat} {ss : List Nat} {ts : List Sy} {o : Ob} {os : List Ob} (h1 : okO o = true) (h2 : 65536 < nextS e + o.bs.length) : tabGo i e ss ts (o :: os) = noTab 3 i := by
  conv => lhs; unfold tabGo
  rw [if_neg (by rw [h1]; decide), if_pos (by omega)]
theorem go_bad {i e : Nat} {ss : List Nat} {ts : List Sy} {o : Ob} {os : List Ob} (h1 : okO o = false) : tabGo i e ss ts (o :: os) = noTab 2 i := by
  conv => lhs; unfold tabGo
  rw [if_pos h1]
theorem big_len (n : Nat) : (bigOb n).bs.length = n := List.length_replicate
theorem next0 : nextS 0 = 0 := rfl
theorem tab_full3 (n : Nat) (h : n = 65533) : tabL [bigOb n, noOb, bigOb 1] = noTab 3 2 := by
  unfold tabL
  rw [if_neg (by show ¬ (3 > 16); decide), go_ok (ok_big n (by omega)) (by rw [big_len, next0]; omega) rfl, go_ok ok_no (by rw [big_len, next0]; show nextS (0 + n) + 0 ≤ 65536; unfold nextS; omega) rfl, go_long (ok_big 1 (by decide)) ?_]
  rw [big_len, big_len, next0]
  show 65536 < nextS (nextS (0 + n) + 0) + 1
  unfold nextS
  omega
theorem tab_full2 (n : Nat) (h : n = 65533) : tabL [bigOb n, noOb] = ⟨[0, 65536], [], 0, 0⟩ := by
  unfold tabL
  rw [if_neg (by show ¬ (2 > 16); decide), go_ok (ok_big n (by omega)) (by rw [big_len, next0]; omega) rfl, go_ok ok_no (by rw [big_len, next0]; show nextS (0 + n) + 0 ≤ 65536; unfold nextS; omega) rfl]
  rw [big_len, next0]
  show (⟨([] ++ [0]) ++ [nextS (0 + n)], _, 0, 0⟩ : Tab) = _
  rw [show nextS (0 + n) = 65536 by unfold nextS; omega]
  rfl
theorem tab_v (n : Nat) (h : n = 65536) : tabL [bigOb n, badOb] = noTab 2 1 := by
  unfold tabL
  rw [if_neg (by show ¬ (2 > 16); decide), go_ok (ok_big n (by omega)) (by rw [big_len, next0]; omega) rfl, go_bad ok_badOb]

theorem max_le {n : Nat} (h : n ≤ 65536) : n ≤ maxLen := Nat.le_trans h (by unfold maxLen; decide)
theorem in_no (w : World) : ObIn w noOb none none none none 0 0 0 0 0 0 0 0 :=
  ⟨rfl, rfl, rfl, rfl, Nat.le_refl _, le0, le0, le0, le0, fun h => absurd h (Nat.lt_irrefl 0), Row3.nil _ _, Row3.nil _ _, Row3.nil _ _, ⟨byt_zeros 0, fun _ h => (nomatch h), fun _ h => (nomatch h), fun _ h => (nomatch h)⟩⟩
theorem in_big {w : World} {g n : Nat} {Z : Array Value} (hb : Blk w g 5 Z) (hZ : Z.toList = List.replicate n (.int .u8 0)) (hn : n ≤ 65536) : ObIn w (bigOb n) (some ⟨g, 0, none⟩) none none none n n 0 0 0 0 0 0 :=
  ⟨big_len n, rfl, rfl, rfl, Nat.le_refl _, max_le hn, le0, le0, le0, row_zeros hb hZ, Row3.nil _ _, Row3.nil _ _, Row3.nil _ _, ⟨byt_zeros n, fun _ h => (nomatch h), fun _ h => (nomatch h), fun _ h => (nomatch h)⟩⟩
theorem row3_one {w : World} {g : Nat} {T : TypeId} {a : Sy} (h : Blk w g T #[.string a.name, .int .i64 a.at_, .bool a.g]) : Row3 w (some ⟨g, 0, none⟩) ([a].map syV) := fun _ => ⟨g, 0, rfl, fun i hi j hj => by
  have : i = 0 := by simp at hi; exact hi
  subst this
  match j, hj with
  | 0, _ => exact h.cell 0
  | 1, _ => exact h.cell 1
  | 2, _ => exact h.cell 2⟩
theorem le1 : 1 ≤ maxLen := by unfold maxLen; decide
theorem symF_far (s : ByteArray) (hs : s.size = 1) (g : Bool) : SyF ⟨s, 0, g⟩ := ⟨by show s.size ≤ maxLen; rw [hs]; exact le1, by show i64P 0; unfold i64P; decide⟩
theorem in_far {w : World} {g : Nat} {s : ByteArray} {b : Bool} (hs : s.size = 1) (hb : Blk w g 34 #[.string s, .int .i64 0, .bool b]) : ObIn w (farOb s b) none (some ⟨g, 0, none⟩) none none 0 0 1 1 0 0 0 0 :=
  ⟨rfl, rfl, rfl, rfl, Nat.le_refl _, le0, le1, le0, le0, fun h => absurd h (Nat.lt_irrefl 0), row3_one (a := ⟨s, 0, b⟩) hb, Row3.nil _ _, Row3.nil _ _, ⟨byt_zeros 0, fun x hx => by rw [List.mem_singleton.1 hx]; exact symF_far s hs b, fun _ h => (nomatch h), fun _ h => (nomatch h)⟩⟩
theorem in_badOb {w : World} {g g' : Nat} {Z : Array Value} (hb : Blk w g 5 Z) (hZ : Z.toList = List.replicate 1 (.int .u8 0)) (hs : Blk w g' 34 #[.string ⟨#[49]⟩, .int .i64 0, .bool false]) : ObIn w badOb (some ⟨g, 0, none⟩) (some ⟨g', 0, none⟩) none none 1 1 1 1 0 0 0 0 :=
  ⟨rfl, rfl, rfl, rfl, Nat.le_refl _, le1, le1, le0, le0, row_zeros (n := 1) hb hZ, row3_one (a := ⟨⟨#[49]⟩, 0, false⟩) hs, Row3.nil _ _, Row3.nil _ _, ⟨byt_zeros 1, fun x hx => by rw [List.mem_singleton.1 hx]; exact symF_far ⟨#[49]⟩ rfl false, fun _ h => (nomatch h), fun _ h => (nomatch h)⟩⟩
/-- three units, two units, in one row -/
theorem units_3 {w : World} {g : Nat} {x y z : Ob} {pb ps pf pm qb qs qf qm rb rs rf rm : Option Addr} {cb cs cf cm db ds df dm eb es ef em : Nat}
    (hb : Blk w g 39 #[.slice pb x.bs.length cb, .slice ps x.sy.length cs, .slice pf x.fx.length cf, .slice pm x.mk_.length cm, .slice qb y.bs.length db, .slice qs y.sy.length ds, .slice qf y.fx.length df, .slice qm y.mk_.length dm, .slice rb z.bs.length eb, .slice rs z.sy.length es, .slice rf z.fx.length ef, .slice rm z.mk_.length em])
    (hx : ObIn w x pb ps pf pm x.bs.length cb x.sy.length cs x.fx.length cf x.mk_.length cm) (hy : ObIn w y qb qs qf qm y.bs.length db y.sy.length ds y.fx.length df y.mk_.length dm) (hz : ObIn w z rb rs rf rm z.bs.length eb z.sy.length es z.fx.length ef z.mk_.length em) : Units w (some ⟨g, 0, none⟩) [x, y, z] := fun _ => ⟨g, 0, rfl, fun i hi => by
  match i, hi with
  | 0, _ => exact ⟨_, _, _, _, _, _, _, _, ⟨hb.cell 0, hb.cell 1, hb.cell 2, hb.cell 3⟩, hx⟩
  | 1, _ => exact ⟨_, _, _, _, _, _, _, _, ⟨hb.cell 4, hb.cell 5, hb.cell 6, hb.cell 7⟩, hy⟩
  | 2, _ => exact ⟨_, _, _, _, _, _, _, _, ⟨hb.cell 8, hb.cell 9, hb.cell 10, hb.cell 11⟩, hz⟩⟩
theorem units_2 {w : World} {g : Nat} {x y : Ob} {pb ps pf pm qb qs qf qm : Option Addr} {cb cs cf cm db ds df dm : Nat}
    (hb : Blk w g 39 #[.slice pb x.bs.length cb, .slice ps x.sy.length cs, .slice pf x.fx.length cf, .slice pm x.mk_.length cm, .slice qb y.bs.length db, .slice qs y.sy.length ds, .slice qf y.fx.length df, .slice qm y.mk_.length dm])
    (hx : ObIn w x pb ps pf pm x.bs.length cb x.sy.length cs x.fx.length cf x.mk_.length cm) (hy : ObIn w y qb qs qf qm y.bs.length db y.sy.length ds y.fx.length df y.mk_.length dm) : Units w (some ⟨g, 0, none⟩) [x, y] := fun _ => ⟨g, 0, rfl, fun i hi => by
  match i, hi with
  | 0, _ => exact ⟨_, _, _, _, _, _, _, _, ⟨hb.cell 0, hb.cell 1, hb.cell 2, hb.cell 3⟩, hx⟩
  | 1, _ => exact ⟨_, _, _, _, _, _, _, _, ⟨hb.cell 4, hb.cell 5, hb.cell 6, hb.cell 7⟩, hy⟩⟩
theorem Units.ahead {w : World} {p : Option Addr} {A B : List Ob} (h : Units w p (A ++ B)) : Units w p A := fun h0 => by
  obtain ⟨b, o, e, hc⟩ := h (by rw [List.length_append]; omega)
  refine ⟨b, o, e, fun i hi => ?_⟩
  have := hc i (by rw [List.length_append]; omega)
  rw [List.getElem_append_left hi] at this
  exact this
theorem made_no (n j : Nat) (h : j < n) : (madeCells noObj n)[j]? = some (.slice none 0 0) := by
  have hj : j % 4 < 4 := Nat.mod_lt _ (by decide)
  have e : (madeCells noObj n)[j]? = some (noObj[j % 4]!) := by
    unfold madeCells
    rw [Array.getElem?_map]
    simp [h]
  rw [e]
  congr 1
  match hm : j % 4, hj with
  | 0, _ => rfl
  | 1, _ => rfl
  | 2, _ => rfl
  | 3, _ => rfl
theorem units_made {w : World} {g k n : Nat} {Z : Array Value} (hb : Blk w g 39 Z) (hZ : ∀ j, j < n → Z[j]? = some (.slice none 0 0)) (hk : k * 4 ≤ n) : Units w (some ⟨g, 0, none⟩) (List.replicate k noOb) := fun _ => ⟨g, 0, rfl, fun i hi => by
  rw [List.length_replicate] at hi
  rw [List.getElem_replicate]
  refine ⟨none, none, none, none, 0, 0, 0, 0, ⟨?_, ?_, ?_, ?_⟩, in_no w⟩
  · rw [Nat.zero_add]; exact (hb.cell _).trans (hZ _ (by omega))
  · rw [Nat.zero_add]; exact (hb.cell _).trans (hZ _ (by omega))
  · rw [Nat.zero_add]; exact (hb.cell _).trans (hZ _ (by omega))
  · rw [Nat.zero_add]; exact (hb.cell _).trans (hZ _ (by omega))⟩
theorem run_mk35 (n : Nat) (h : n ≤ 65536) (W : World) : (Instr.makeSlice 35 (.int .i64 (n : Int)) (.int .i64 (n : Int))).run Try.prog W = .ok (.slice (some ⟨W.heap.size, 0, none⟩) n n) (W.alloc (.cells (madeCells #[.int .u8 0] n) 5)) :=
  run_make_row' 35 5 (.int .u8 0) 1 Try.underlying35 (by kernel_rfl) rfl .i64 .i64 n (by omega) (by omega) W
theorem run_mk27 (W : World) : (Instr.makeSlice 27 (.int .i64 17) (.int .i64 17)).run Try.prog W = .ok (.slice (some ⟨W.heap.size, 0, none⟩) 17 17) (W.alloc (.cells (madeCells noObj 68) 39)) := by
  obtain ⟨hu, z, hzc, hinfo⟩ := Try.elemOb
  have hz : z = .agg noObj := by
    have h2 : (Try.prog.info? 39).map (fun i => (i.zero, i.size, i.bytes)) = some (some (.agg noObj), 4, 96) := by kernel_rfl
    rw [h2] at hinfo
    simp only [Option.some.injEq, Prod.mk.injEq] at hinfo
    exact hinfo.1.symm
  subst hz
  obtain ⟨i0, hi, hz0, hz1, hz2⟩ := info_parts hinfo
  have := run_make (P := Try.prog) W 27 39 i0 (.agg noObj) hu hi hz0 .i64 .i64 17 17 (by decide) (by decide) (by rw [hz2]; decide) (by decide)
  rw [hz1] at this
  exact this

end Go.Proofs.Ytnmcdkhfjkpklaa
