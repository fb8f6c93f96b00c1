/- What switchyardlaw11.does answers of a write, and of any call. -/
import Derived.Test.YtammbaamkechhaaDoes
namespace Go.Proofs.Ytammbaamkechhaa
open Go.RowKit

theorem Keeps.far {G : Nat → Prop} {a b c : World} {h : Nat} (k : Keeps G a b) (k2 : Keeps (fun x => x = h) b c) (hh : a.heap.size ≤ h) : Keeps G a c :=
  ⟨k2.os.trans k.os, k2.tape.trans k.tape, k2.output.trans k.output, Nat.le_trans k.size k2.size, fun j hj hn => (k2.block j (Nat.lt_of_lt_of_le hj k.size) (fun e => by have e2 : j = h := e; omega)).trans (k.block j hj hn)⟩
theorem Keeps.cell {G : Nat → Prop} {w w' : World} (hk : Keeps G w w') {b o : Nat} {v : Value} (h : w.cell? ⟨b, o, none⟩ = some v) (hb : ¬ G b) : w'.cell? ⟨b, o, none⟩ = some v := by
  have h1 := hk.block b (cell_lt h) hb
  simp only [World.cell?, h1] at h ⊢
  exact h
theorem Own.keeps {G : Nat → Prop} {w w' : World} {B g cap : Nat} {xs : List Int} (h : Own w B g cap xs) (hk : Keeps G w w') (hg : ¬ G g) : Own w' B g cap xs := by
  obtain ⟨cur, h1, h2, h3, h4, h5, h6⟩ := h.parts
  exact Own.mk h1 (by rw [hk.block g h.lt hg]; exact h2) h3 h4 h5 h6
theorem Byt.putA {xs ys : List Int} {a : Nat} (hx : Byt xs) (hy : Byt ys) (h : a + ys.length ≤ xs.length) : Byt (putA xs a ys) := fun i => by
  by_cases hi : a ≤ i ∧ i - a < ys.length
  · rw [putA_get xs ys a i h hi.1 hi.2]; exact hy _
  · rw [putA_not xs ys a i h (by omega)]; exact hx _

theorem Sl.drewN {w : World} {p : Option Addr} {c : Nat} {xs : List Int} (h : Sl w p c xs) (n : Nat) : Sl (w.drewN n) p c xs := ⟨h.row.drewN n, h.le, h.cap, h.nil⟩

set_option maxHeartbeats 4000000 in
theorem does_write_out (q g B : Nat) (p r : Option Addr) (c d : Nat) (xs ys : List Int) (on a n : Int) (W : World) (hm : Mem W B q g xs) (hs : Sl W p c xs) (hby : Byt xs) (hlen : xs.length ≤ 65536) (hry : Row W r ys) (hyl : ys.length ≤ 140737488351232) (ho : ¬ (0 ≤ a ∧ a ≤ (xs.length : Int) - ys.length)) :
    Calls Try.prog 20 #[.pointer (some ⟨q, 0, none⟩), .slice p xs.length c, opV 2 on a n r ys.length d] W fun e w' => ∃ p' c' xs', e = .returned (.tuple #[.slice p' xs'.length c', .bool true]) ∧ Did W w' B q g p c xs p' c' xs' := by
  have HD := Hid.in (fun w' hb => Did.same (w' := w') hm hs hby hb)
  have HB0 := Hid.in (new_alloc W (opC 2 on a n r ys.length d))
  have HM := Hid.in (hm.below HB0.out)
  have hr1 := hry.below HB0.out
  have HO := Hid.in ho
  have HRY := Hid.in (fun W' (hb : Below W.heap.size W W') => hry.below hb)
  clear hm hs hby ho hry
  go_enter Try.func20, Try.ntmps20
  go_wp2_with (first
    | (go_at_call 15; refine (lent_any r ys.length d ys _ rfl hyl hr1).mono ?_; rintro e w1 ⟨g1, cap, rfl, ho1, hb⟩; have c2 := op_cell 2 on a n r ys.length d hb 2; have c4 := op_cell 2 on a n r ys.length d hb 4; rw [show #[Value.int .i64 2, .int .i64 on, .int .i64 a, .int .i64 n, .slice r ys.length d][2]? = some (.int .i64 a) from rfl] at c2; rw [show #[Value.int .i64 2, .int .i64 on, .int .i64 a, .int .i64 n, .slice r ys.length d][4]? = some (.slice r ys.length d) from rfl] at c4; have HO1 := Hid.in ho1; have HM1 := Hid.in (HM.out.below hb); have HB1 := Hid.in (below_step HB0.out hb); have HG1 := Hid.in (Nat.le_trans HB0.out.size ho1.base); have hr2 := HRY.out _ (below_step HB0.out hb); clear ho1 hb HM hr1)
    | (go_at_call 11; refine (write_out q g B ys.length cap _ a xs _ HM1.out (by omega) HO.out).mono ?_; rintro e w2 ⟨rfl, rfl⟩)
    | (go_at_call 27; refine (refWrite_out p r c xs.length d ys.length a _ (by omega) (by omega) HO.out).mono ?_; rintro e w3 ⟨rfl, rfl⟩)
    | (go_at_call 17; refine (kept_any r g1 ys.length cap d _ ys _ rfl hyl HO1.out hr2).mono ?_; rintro e w4 ⟨rfl, m4, hw4⟩; have HO4 : Hid (Own w4 _ g1 cap (ys ++ [77, 78])) := (by rw [hw4]; exact HO1.out.drewN _); have HB4 : Hid (Below W.heap.size W w4) := (by rw [hw4]; exact below_draws HB1.out _); clear hw4 HO1 HM1 hr2 c2 c4)
    | (go_at_call 18; refine (over_any g1 ys.length cap _ _ w4 hyl (by simp) HO4.out).mono ?_; rintro e w5 ⟨rfl, hk⟩; have HB5 := Hid.in (HB4.out.trans (hk.below HB4.out.size (fun j hj => by subst hj; exact HG1.out))); clear hk HO4))
  go_ret2
  exact ⟨p, c, xs, by simp, HD.out _ HB5.out⟩

set_option maxHeartbeats 4000000 in
theorem does_write_ok (q g B : Nat) (p r : Option Addr) (c d a : Nat) (xs ys : List Int) (on n : Int) (W : World) (hm : Mem W B q g xs) (hs : Sl W p c xs) (hby : Byt xs) (hbyy : Byt ys) (hlen : xs.length ≤ 65536) (hry : Row W r ys) (hyl : ys.length ≤ 140737488351232) (hop : 0 < xs.length → Off (fun b => b = g) p) (hor : 0 < ys.length → Off (fun b => b = g) r) (hfit : a + ys.length ≤ xs.length) :
    Calls Try.prog 20 #[.pointer (some ⟨q, 0, none⟩), .slice p xs.length c, opV 2 on a n r ys.length d] W fun e w' => ∃ p' c' xs', e = .returned (.tuple #[.slice p' xs'.length c', .bool true]) ∧ Did W w' B q g p c xs p' c' xs' := by
  have HB0 := Hid.in (new_alloc W (opC 2 on a n r ys.length d))
  have HM := Hid.in (hm.below HB0.out)
  have HGW := Hid.in hm.own.lt
  have HQW := Hid.in hm.lt
  have HBZ := Hid.in (hby.putA hbyy hfit)
  have hr1 := hry.below HB0.out
  have HRY := Hid.in (fun W' (hb : Keeps (fun b => b = g) W W') => hry.keeps hb hor)
  have HRX := Hid.in (fun W' (hb : Keeps (fun b => b = g) W W') => hs.row.keeps hb hop)
  have HZL := Hid.in (putA_len hfit)
  clear hm hs hby hbyy hry
  go_enter Try.func20, Try.ntmps20
  go_wp2_with (first
    | (go_at_call 15; refine (lent_any r ys.length d ys _ rfl hyl hr1).mono ?_; rintro e w1 ⟨g1, cap, rfl, ho1, hb⟩; have c2 := op_cell 2 on a n r ys.length d hb 2; have c4 := op_cell 2 on a n r ys.length d hb 4; rw [show #[Value.int .i64 2, .int .i64 on, .int .i64 a, .int .i64 n, .slice r ys.length d][2]? = some (.int .i64 a) from rfl] at c2; rw [show #[Value.int .i64 2, .int .i64 on, .int .i64 a, .int .i64 n, .slice r ys.length d][4]? = some (.slice r ys.length d) from rfl] at c4; have HO1 := Hid.in ho1; have HM1 := Hid.in (HM.out.below hb); have HK1 : Hid (Keeps (fun b => b = g) W w1) := .ofBelow (below_step HB0.out hb); have HG1 := Hid.in (Nat.le_trans HB0.out.size ho1.base); clear ho1 hb HM hr1)
    | (go_at_call 11; refine (write_ok q g B a cap _ xs ys w1 HM1.out HO1.out.front.row hfit hlen).mono ?_; rintro e w2 ⟨rfl, hm2, hk⟩; have hne1 : ¬ g1 = g := (fun e => by have h1 := HG1.out; have h2 := HGW.out; omega); have hneW : ¬ W.heap.size = g := (fun e => by have h2 := HGW.out; omega); have c2' := hk.cell c2 hneW; have c4' := hk.cell c4 hneW; have HO2 := Hid.in (HO1.out.keeps hk hne1); have HM2 := Hid.in hm2; have HK2 := Hid.in (HK1.out.trans hk); have hrx := HRX.out _ (HK1.out.trans hk); have hry2 := HRY.out _ (HK1.out.trans hk); have HN1 := Hid.in hne1; clear hm2 hk HM1 HO1 HK1 c2 c4 hne1 hneW)
    | (go_at_call 27; refine (refWrite_ok p r c d a xs ys w2 hrx hry2 hlen hfit).mono ?_; rintro e w3 ⟨v3, rfl, ho3, hb⟩; have c43 := (hb.cell (p := ⟨W.heap.size, 4, none⟩) (cell_lt c4')).trans c4'; have HO3 := Hid.in (HO2.out.below hb); have HM3 := Hid.in (HM2.out.below hb); have hk3 := HK2.out.trans (Keeps.ofBelow hb); have HK3 := Hid.in hk3; have hry3 := HRY.out _ hk3; obtain ⟨p3, d3, hv3, hs3, hof3⟩ := ho3.sl; subst hv3; have HS3 := Hid.in hs3; have HF3 := Hid.in (fun b o e => Nat.le_trans HK2.out.size (hof3 b o e)); have HF4 := Hid.in (fun b o e => Nat.lt_of_lt_of_le HO2.out.lt (hof3 b o e)); clear ho3 hb hs3 hof3 HO2 HM2 HK2 hrx hry2 c2' c4' hk3)
    | (go_at_call 17; refine (kept_any r g1 ys.length cap d _ ys _ rfl hyl HO3.out hry3).mono ?_; rintro e w4 ⟨rfl, m4, hw4⟩; have HO4 : Hid (Own w4 _ g1 cap (ys ++ [77, 78])) := (by rw [hw4]; exact HO3.out.drewN _); have HM4 : Hid (Mem w4 B q g (putA xs a ys)) := (by rw [hw4]; exact HM3.out.drewN _); have HS4 : Hid (Sl w4 p3 d3 (putA xs a ys)) := (by rw [hw4]; exact Hid.in (HS3.out.drewN m4)); have HK4 : Hid (Keeps (fun b => b = g) W w4) := (by rw [hw4]; exact HK3.out.drewN _); clear hw4 HO3 HM3 HS3 HK3 hry3 c43)
    | (go_at_call 18; refine (over_any g1 ys.length cap _ _ w4 hyl (by simp) HO4.out).mono ?_; rintro e w5 ⟨rfl, hk⟩; have HM5 := Hid.in (HM4.out.keeps hk (fun e => by have e2 : q = g1 := e; have h1 := HG1.out; have h2 := HQW.out; omega) (fun e => HN1.out e.symm)); have HS5 := Hid.in (HS4.out.keeps hk (fun _ b o e1 e2 => by have e3 : b = g1 := e2; have := HF4.out b o e1; omega)); have HK5 := Hid.in (HK4.out.far hk HG1.out); clear hk HO4 HM4 HS4 HK4))
  go_ret2
  exact ⟨p3, d3, putA xs a ys, by simp, HZL.out, HBZ.out, HM5.out, HK5.out, HS5.out, .inr HF3.out⟩

theorem does_any (q g B : Nat) (p r : Option Addr) (c d : Nat) (xs ys : List Int) (k on a n : Int) (W : World) (hn : n ≤ 9223372036854775807) (hm : Mem W B q g xs) (hs : Sl W p c xs) (hby : Byt xs) (hbyy : Byt ys) (hlen : xs.length ≤ 65536) (hry : Row W r ys) (hyl : ys.length ≤ 140737488351232) (hop : 0 < xs.length → Off (fun b => b = g) p) (hor : 0 < ys.length → Off (fun b => b = g) r) :
    Calls Try.prog 20 #[.pointer (some ⟨q, 0, none⟩), .slice p xs.length c, opV k on a n r ys.length d] W fun e w' => ∃ p' c' xs', e = .returned (.tuple #[.slice p' xs'.length c', .bool true]) ∧ Did W w' B q g p c xs p' c' xs' := by
  by_cases k1 : k = 1
  · subst k1; exact does_read q g B p r c _ d xs on a n W hn hm hs hby hlen
  by_cases k2 : k = 2
  · subst k2
    by_cases ho : 0 ≤ a ∧ a ≤ (xs.length : Int) - ys.length
    · obtain ⟨x, rfl⟩ := Int.eq_ofNat_of_zero_le ho.1
      exact does_write_ok q g B p r c d x xs ys on n W hm hs hby hbyy hlen hry hyl hop hor (by omega)
    · exact does_write_out q g B p r c d xs ys on a n W hm hs hby hlen hry hyl ho
  by_cases k3 : k = 3
  · subst k3; exact does_gran q g B p r c _ d xs on a n W hm hs hby hlen
  by_cases k4 : k = 4
  · subst k4; exact does_bytes q g B p r c _ d xs on a n W hm hs hby hlen
  by_cases k5 : k = 5
  · subst k5; exact does_len q g B p r c _ d xs on a n W hm hs hby
  exact does_else q g B p r c _ d xs k on a n W ⟨k1, k2, k3, k4, k5⟩ hm hs hby

end Go.Proofs.Ytammbaamkechhaa
