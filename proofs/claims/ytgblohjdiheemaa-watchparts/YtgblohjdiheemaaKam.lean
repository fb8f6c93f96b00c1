/- Texts put together: CpyU, IRgK, IRgQ, SrtL, SrtW. -/
import Derived.Test.YtgblohjdiheemaaKal
import Derived.Test.YtgblohjdiheemaaKaf
import Derived.Test.YtgblohjdiheemaaKad
import Derived.Deep.RegionHeld3
import Derived.Test.YtgblohjdiheemaaKab
import Derived.Test.YtgblohjdiheemaaKah
import Derived.Test.YtgblohjdiheemaaKaj

/- switchyardkit.CopyObject, of lists as great as an argument may be. -/
namespace Go.Proofs.Ytgblohjdiheemaa
open Go.RowKit

abbrev noObj : Array Value := #[.slice none 0 0, .slice none 0 0, .slice none 0 0, .slice none 0 0]
theorem Try.sz97 : (Try.prog.info? 97).map (·.size) = some noObj.size := by kernel_rfl
theorem Blk.load {w : World} {g : Nat} {T : TypeId} {c : Array Value} (hB : Blk w g T c) (t : TypeId) (d : TypeDesc) (hu : Try.prog.underlying t = some d) (hd : d.isRow = true) (hi : (Try.prog.info? t).map (·.size) = some c.size) :
    (loadVar t ⟨g, 0, none⟩).run Try.prog w = .ok (.agg c) w := by
  have := run_loadVar_mid (P := Try.prog) w g 0 t c.toList d hB.range hu hd (by rw [hi, Array.length_toList])
  simpa using this
theorem TOwn.far {T : TypeId} {w : World} {B g : Nat} {v : Value} {L : List V3} (h : TOwn T w B v L) (hg : g < B) : v = .slice none 0 0 ∨ v.ownBlock ≠ some g := by
  rcases h.2 with ⟨e1, _⟩ | ⟨g', cap, cur, e1, e2, _⟩
  · exact .inl e1
  · refine .inr ?_
    rw [e1]
    simp only [Value.ownBlock]
    intro ee
    injection ee with ee
    have : g' = g := ee
    omega
theorem TOwn.lower {T : TypeId} {w : World} {B B' : Nat} {v : Value} {L : List V3} (h : TOwn T w B v L) (hB : B' ≤ B) : TOwn T w B' v L := by
  obtain ⟨h0, h1⟩ := h
  refine ⟨h0, h1.imp id ?_⟩
  rintro ⟨g, cap, cur, e1, e2, e3⟩
  exact ⟨g, cap, cur, e1, Nat.le_trans hB e2, e3⟩
/-- an object that a call has made: its lists in blocks of its own -/
structure ObOwn (w : World) (B : Nat) (o : Ob) (vb vs vf vm : Value) : Prop where
  b : OwnV w B vb o.bs
  s : TOwn 92 w B vs (o.sy.map syV)
  f : TOwn 119 w B vf (o.fx.map fxV)
  m : TOwn 122 w B vm (o.mk_.map mkV)
theorem ObOwn.below {w w' : World} {B : Nat} {o : Ob} {vb vs vf vm : Value} (h : ObOwn w B o vb vs vf vm) (hb : Below w.heap.size w w') : ObOwn w' B o vb vs vf vm := ⟨h.b.below hb, h.s.below hb, h.f.below hb, h.m.below hb⟩
theorem OwnV.low {w : World} {B B' : Nat} {v : Value} {xs : List Int} (h : OwnV w B v xs) (hB : B' ≤ B) : OwnV w B' v xs := by
  rcases h.shape with ⟨rfl, rfl⟩ | ⟨g, cap, rfl, ho⟩
  · exact OwnV.nil _ _
  · exact ho.lower hB
theorem ObOwn.lower {w : World} {B B' : Nat} {o : Ob} {vb vs vf vm : Value} (h : ObOwn w B o vb vs vf vm) (hB : B' ≤ B) : ObOwn w B' o vb vs vf vm := ⟨h.b.low hB, h.s.lower hB, h.f.lower hB, h.m.lower hB⟩
theorem OwnV.slice2 {w : World} {B : Nat} {v : Value} {xs : List Int} (h : OwnV w B v xs) : ∃ p cap, v = .slice p xs.length cap ∧ Row w p xs ∧ xs.length ≤ cap ∧ cap ≤ maxLen := by
  rcases h.shape with ⟨rfl, rfl⟩ | ⟨g, cap, rfl, ho⟩
  · exact ⟨none, 0, rfl, fun h => absurd h (Nat.lt_irrefl 0), Nat.le_refl _, Nat.zero_le _⟩
  · obtain ⟨cur, _, _, h3, h4, _⟩ := ho.parts
    exact ⟨_, cap, rfl, ho.row, h3, h4⟩
/-- .. seen as one in memory -/
theorem ObOwn.inn {w : World} {B : Nat} {o : Ob} {vb vs vf vm : Value} (h : ObOwn w B o vb vs vf vm) (hf : ObF o) :
    ∃ pb ps pf pm cb cs cf cm, (vb = .slice pb o.bs.length cb ∧ vs = .slice ps o.sy.length cs ∧ vf = .slice pf o.fx.length cf ∧ vm = .slice pm o.mk_.length cm) ∧ ObIn w o pb ps pf pm o.bs.length cb o.sy.length cs o.fx.length cf o.mk_.length cm := by
  obtain ⟨pb, cb, e1, r1, k1, m1⟩ := h.b.slice2
  obtain ⟨ps, cs, e2, k2, m2, r2⟩ := h.s.row3
  obtain ⟨pf, cf, e3, k3, m3, r3⟩ := h.f.row3
  obtain ⟨pm, cm, e4, k4, m4, r4⟩ := h.m.row3
  rw [List.length_map] at e2 k2 e3 k3 e4 k4
  exact ⟨pb, ps, pf, pm, cb, cs, cf, cm, ⟨e1, e2, e3, e4⟩, ⟨rfl, rfl, rfl, rfl, k1, m1, Nat.le_trans k2 m2, Nat.le_trans k3 m3, Nat.le_trans k4 m4, r1, r2, r3, r4, hf⟩⟩

theorem OwnV.keptFar {w w' : World} {B g : Nat} {v : Value} {xs : List Int} (h : OwnV w B v xs) (hg : w.grownBy w' (some g)) (hB : g < B) : OwnV w' B v xs := by
  rcases h.shape with ⟨rfl, rfl⟩ | ⟨g', cap, rfl, ho⟩
  · exact OwnV.nil _ _
  · refine World.ownsRow.kept h hg (.inr (fun e => ?_))
    have e' : some g' = some g := e
    injection e' with e'
    have := ho.base
    omega

/-- 'append(l, x)', as far as memory goes -/
theorem tpushV {ops : Array Oper} {rest : List Oper} {o : Oper} {a : Act} {Q : Exit → Act → World → Prop} {t T : TypeId} {by_ : Nat} (he : Elem3 t T by_) (w : World) (hgd : o.guard = none) (s x : Operand)
    (ho : o.op = .call { callee := .builtin .append, args := #[s, x], argTypes := #[t, t] }) (B : Nat) (v : Value) (L : List V3) (hs : a.eval s = v) (hown : TOwn T w B v L)
    (ad : Addr) (c : Nat) (q : V3) (hq : one3 q) (hx : a.eval x = .slice (some ad) 1 c) (hnews : ∀ j u, (l3 q)[j]? = some u → w.cell? (ad.add j) = some u)
    (hlen : L.length ≤ 4398046511000) (hby : (L.length + 1) * by_ ≤ 140737488355328) (hB : B ≤ w.heap.size)
    (h : ∀ v' w', TOwn T w' B v' (L ++ [q]) → w.grownBy w' v.ownBlock → (∀ w0, Below B w0 w → Below B w0 w') → wpList Try.prog ops Q rest (a.put o.dst v') w') :
    wpList Try.prog ops Q (o :: rest) a w := by
  obtain ⟨hu, z, hzc, hinfo⟩ := he
  obtain ⟨i0, hi, hz0, hz1, hz2⟩ := info_parts hinfo
  refine wpList_append_own w hgd s x t ho B T i0 z 3 by_ hu hi hz0 hz1 hz2 hzc (by decide) v L.length (c3 L) hs hown ad 1 c (l3 q) hx rfl hnews (one3_mem hq) (by unfold maxLen; omega) hby hB ?_
  intro v' w' h2 h3 _
  refine h v' w' ?_ h3 (fun w0 hb => hb.grown h3 hB fun k hk => (World.ownsRow.lt hown k hk).1)
  unfold TOwn
  rw [List.length_append, c3_two]
  have e : c3 [q] = l3 q := by simp [c3]
  rw [e]
  exact h2

end Go.Proofs.Ytgblohjdiheemaa

/- image.rightKeys: names, and none twice. -/
namespace Go.Proofs.Ytgblohjdiheemaa
open Go.RowKit

abbrev strV (ks : List ByteArray) : List Value := ks.map Value.string
theorem strV_cell {w : World} {p : Option Addr} {ks : List ByteArray} (h : GRow w p (strV ks)) (h0 : 0 < ks.length) : ∃ b o, p = some ⟨b, o, none⟩ ∧ ∀ i (hi : i < ks.length), w.cell? ⟨b, o + i, none⟩ = some (.string ks[i]) := by
  obtain ⟨b, o, e, hc⟩ := h (by simpa using h0)
  refine ⟨b, o, e, fun i hi => ?_⟩
  have := hc i (by simpa using hi)
  simpa [hi] using this

theorem keys_fit {ks : List ByteArray} (h : ∀ k ∈ ks, k.size ≤ maxLen) : ObF ⟨[], ks.map keySy, [], []⟩ :=
  ⟨fun i => by simp, fun s hs => by
    obtain ⟨k, hk, rfl⟩ := List.mem_map.1 hs
    exact ⟨h k hk, by show i64P 0; unfold i64P; omega⟩, fun f hf => absurd hf List.not_mem_nil, fun f hf => absurd hf List.not_mem_nil⟩

set_option maxRecDepth 20000 in
set_option maxHeartbeats 1000000 in
theorem rightKeys_any (p : Option Addr) (n c : Nat) (ks : List ByteArray) (w : World) (hn : ks.length = n) (hn6 : n ≤ 64) (hsz : ∀ k ∈ ks, k.size ≤ maxLen) (h1 : GRow w p (strV ks)) :
    Calls Try.prog 27 #[.slice p n c] w fun E w' => E = .returned (.bool (keysB ks)) ∧ Below w.heap.size w w' := by
  have HL := Hid.in hn
  have H1 := Hid.in h1
  have HS := Hid.in hsz
  have HK : Hid (okO ⟨[], ks.map keySy, [], []⟩ = keysB ks) := by
    have : okO ⟨[], ks.map keySy, [], []⟩ = keysB ks := by rw [keys_ok, decide_eq_true (by omega), Bool.true_and]
    exact this
  clear hn h1 hsz
  go_enter Try.func27, Try.ntmps27
  go_wp2_with fail
  go_loopw [3, 5, 8] (fun v _ vi wr => ∃ k : Nat, vi = .int .i64 k ∧ k ≤ n ∧ TOwn 92 wr w.heap.size v ((ks.take k).map fun s => syV (keySy s)) ∧ Below w.heap.size w wr) (fun _ _ vi _ => n - (intOf vi).toNat)
  case atStart => exact ⟨0, rfl, Nat.zero_le _, TOwn.nil _ _ _, below_self _⟩
  case round =>
    obtain ⟨k, rfl, hk, hT, hb⟩ := hrel
    have HT := Hid.in hT
    have HB := Hid.in hb
    have hlen : ((ks.take k).map fun s => syV (keySy s)).length = k := by rw [List.length_map, List.length_take, HL.out]; omega
    obtain ⟨pv, cv, hv, hv1, hv2, -⟩ := hT.shape
    rw [hlen] at hv hv1
    subst hv
    have HLEN := Hid.in hlen
    clear hT hb hlen
    by_cases hlt : k < n
    · have hk1 : k < ks.length := by rw [HL.out]; exact hlt
      obtain ⟨b, o, rfl, hc⟩ := strV_cell (H1.out.below HB.out) (by omega)
      have c0 := hc k hk1
      have HTK : Hid (((ks.take (k + 1)).map fun s => syV (keySy s)) = ((ks.take k).map fun s => syV (keySy s)) ++ [syV (keySy ks[k])]) := by
        rw [List.take_succ_eq_append_getElem hk1, List.map_append]; exact rfl
      clear hc
      generalize ((ks.take k).map fun s => syV (keySy s)) = LQ at *
      generalize ks[k] = x at *
      have hl1 : LQ.length ≤ 4398046511000 := by have := HLEN.out; omega
      have hl2 : (LQ.length + 1) * 32 ≤ 140737488355328 := by have := HLEN.out; omega
      go_wp2_with (refine tpushV Try.elemSym _ rfl _ _ rfl w.heap.size _ LQ rfl (HT.out.alloc _) ⟨wr.heap.size, 0, none⟩ 1 (.string x, .int .i64 0, .bool false) ⟨rfl, rfl, rfl⟩ rfl (news3 _ _ _) hl1 hl2 (by have := HB.out.size; simp; omega) ?_; intro v5 w5 hT5 hg5 hb5; have HT5 := Hid.in hT5; have HB5 := Hid.in (hb5 w (below_alloc HB.out _)); clear hT5 hg5 hb5)
      go_roundw
      case rel => exact ⟨k + 1, by go_num, by omega, by rw [HTK.out]; exact HT5.out, HB5.out⟩
      case measure => simp [intOf]; omega
    · have hkn : k = n := by omega
      subst hkn
      have HR : Hid (((ks.take k).map fun s => syV (keySy s)) = (ks.map keySy).map syV) := by
        rw [List.take_of_length_le (by rw [HL.out]; exact Nat.le_refl _), List.map_map]; exact rfl
      rw [HR.out] at HT
      obtain ⟨pr, cr, er, _, hcr, hrow⟩ := HT.out.row3
      obtain ⟨rfl, rfl⟩ : pv = pr ∧ cv = cr := by cases er; exact ⟨rfl, rfl⟩
      have HIN : Hid (ObIn wr ⟨[], ks.map keySy, [], []⟩ none pv none none 0 0 k cv 0 0 0 0) :=
        ⟨rfl, by rw [List.length_map]; exact HL.out, rfl, rfl, Nat.le_refl _, Nat.zero_le _, by unfold maxLen; omega, Nat.zero_le _, Nat.zero_le _, fun h => absurd h (Nat.lt_irrefl 0), hrow, Row3.nil _ _, Row3.nil _ _, keys_fit HS.out⟩
      clear hrow er
      go_wp2_with (go_at_call 39; refine (oright_any ⟨[], ks.map keySy, [], []⟩ none pv none none 0 0 k cv 0 0 0 0 wr HIN.out).mono ?_; rintro e w2 ⟨rfl, hb2⟩; rw [HK.out])
      go_ret
      exact ⟨rfl, below_step HB.out hb2⟩
end Go.Proofs.Ytgblohjdiheemaa

/- image.quietSites, image.rightUnits. -/
namespace Go.Proofs.Ytgblohjdiheemaa
open Go.RowKit

abbrev imA (pb pk ps pu : Option Addr) (nb cb nk ck ns cs nu cu : Nat) : Array Value := #[.slice pb nb cb, .slice pk nk ck, .slice ps ns cs, .slice pu nu cu]
abbrev intV (un : List Int) : List Value := un.map (Value.int .i64)
/-- an image in memory, whoever made it -/
structure ImIn (w : World) (m : IM) (pb pk ps pu : Option Addr) (nb cb nk ck ns cs nu cu : Nat) : Prop where
  lb : m.bs.length = nb
  lk : m.ks.length = nk
  ls : m.si.length = ns
  lu : m.un.length = nu
  kb : nb ≤ cb
  mb : cb ≤ 9223372036854775807
  mc : nk ≤ 140737488355328
  ms : ns ≤ 140737488355328
  mu : nu ≤ 140737488355328
  rb : Row w pb m.bs
  rk : GRow w pk (strV m.ks)
  rs : Row3 w ps (m.si.map siV)
  ru : GRow w pu (intV m.un)
  byt : Byt m.bs
  ksz : ∀ k ∈ m.ks, k.size ≤ maxLen
  uns : ∀ u ∈ m.un, i64P u
theorem ImIn.below {w w' : World} {m : IM} {pb pk ps pu : Option Addr} {nb cb nk ck ns cs nu cu : Nat} (h : ImIn w m pb pk ps pu nb cb nk ck ns cs nu cu) (hb : Below w.heap.size w w') : ImIn w' m pb pk ps pu nb cb nk ck ns cs nu cu :=
  { h with rb := h.rb.below hb, rk := h.rk.below hb, rs := h.rs.below hb, ru := h.ru.below hb }

theorem slice_lo (q : Option Addr) (n5 d5 m : Nat) (W : World) (h : m ≤ n5) : (Instr.sliceAt 25 (.slice q n5 d5) (some (.int .i64 m)) none none).run Try.prog W = .ok (.slice (if d5 = m then q else q.map (·.add (m * 1))) (n5 - m) (d5 - m)) W := by
  have h0 : (0 : Int) ≤ (m : Int) := by omega
  have h1 : (m : Int) ≤ (n5 : Int) := by omega
  simp [Instr.sliceAt, Instr.slice, Instr.sliceBounds, go_sem, h0, h1]
theorem slice_lo' (q : Option Addr) (n5 d5 m : Nat) (W : World) (h : m ≤ n5) : (Instr.slice 25 (.slice q n5 d5) (some (.int .i64 m)) none none).run Try.prog W = .ok (.slice (if d5 = m then q else q.map (·.add (m * 1))) (n5 - m) (d5 - m)) W := by
  rw [← slice_lo q n5 d5 m W h]
  simp [Instr.sliceAt, go_sem]
/-- b[k:] -/
theorem slice_from {w : World} {p : Option Addr} {n c k : Nat} {xs : List Int} (h : Row w p xs) (hn : xs.length = n) (hc : n ≤ c) (hk : k ≤ n) :
    ∃ p', (∀ W, (Instr.sliceAt 25 (.slice p n c) (some (.int .i64 k)) none none).run Try.prog W = .ok (.slice p' (n - k) (c - k)) W) ∧ (∀ W, (Instr.slice 25 (.slice p n c) (some (.int .i64 k)) none none).run Try.prog W = .ok (.slice p' (n - k) (c - k)) W) ∧ Row w p' (xs.drop k) ∧ (p = none → p' = none) ∧ (p' = none → p = none) := by
  refine ⟨_, fun W => slice_lo p n c k W hk, fun W => slice_lo' p n c k W hk, ?_, ?_, ?_⟩
  · by_cases e : c = k
    · intro h0; rw [List.length_drop] at h0; omega
    · rw [if_neg e]
      by_cases h0 : 0 < xs.length
      · obtain ⟨b, o, rfl, _⟩ := h h0
        rw [Nat.mul_one, Option.map_some]
        rw [show (⟨b, o, none⟩ : Addr).add k = ⟨b, o + k, none⟩ from Go.WideShapes.add_plain _ _ _]
        exact h.dropAt k
      · intro h1; rw [List.length_drop] at h1; omega
  · rintro rfl; split <;> rfl
  · intro e
    cases p with
    | none => rfl
    | some a => split at e <;> simp at e

set_option maxRecDepth 20000 in
set_option maxHeartbeats 1000000 in
theorem quietSites_any (m : IM) (pb pk ps pu : Option Addr) (nb cb nk ck ns cs nu cu : Nat) (w : World) (h : ImIn w m pb pk ps pu nb cb nk ck ns cs nu cu) (hat : ∀ s ∈ m.si, 0 ≤ s.at_ ∧ s.at_ ≤ 65531) :
    Calls Try.prog 28 #[.agg (imA pb pk ps pu nb cb nk ck ns cs nu cu)] w fun E w' => E = .returned (.bool (quietB m.bs m.si)) ∧ Below w.heap.size w w' := by
  have H := Hid.in h
  have HAT := Hid.in hat
  have hns := h.ms
  have hcb := h.mb
  have hkb := h.kb
  clear h hat
  obtain ⟨r, hrr⟩ : ∃ r, quietB m.bs m.si = r := ⟨_, rfl⟩
  rw [hrr]
  have HRR := Hid.in hrr
  clear hrr
  have HK0 : Hid (Blk (w.alloc (.cells (imA pb pk ps pu nb cb nk ck ns cs nu cu) 29)) w.heap.size 29 (imA pb pk ps pu nb cb nk ck ns cs nu cu)) := Blk.new _ _ _
  have HB0 : Hid (Below w.heap.size w (w.alloc (.cells (imA pb pk ps pu nb cb nk ck ns cs nu cu) 29))) := new_alloc _ _
  go_enter Try.func28, Try.ntmps28
  go_wp2_with (go_at_call 40; refine (quiet_any _).mono ?_; rintro e w1 ⟨q, cap, rfl, hq, hb1⟩; have HQ := Hid.in hq; have HK1 := Hid.in (HK0.out.grow hb1); have HB1 := Hid.in (below_step HB0.out hb1); have k0 : w1.cell? ⟨w.heap.size, 0, none⟩ = some (.slice pb nb cb) := HK1.out.cell 0; have k2 : w1.cell? ⟨w.heap.size, 2, none⟩ = some (.slice ps ns cs) := HK1.out.cell 2; clear hq hb1)
  have HI := Hid.in (H.out.below HB1.out)
  clear HK0 HB0
  go_loopw [10] (fun vi wr => ∃ j : Nat, vi = .int .i64 j ∧ j ≤ ns ∧ (∀ i (hi : i < m.si.length), i < j → stB m.bs m.si[i].at_ quiet = true) ∧ Below w1.heap.size w1 wr) (fun vi _ => ns - (intOf vi).toNat)
  case atStart => exact ⟨0, rfl, Nat.zero_le _, fun i _ h => absurd h (Nat.not_lt_zero _), below_self w1⟩
  case round =>
    obtain ⟨j, rfl, hj, hgo, hb⟩ := hrel
    have HGO := Hid.in hgo
    have HB := Hid.in hb
    clear hgo hb
    by_cases hlt : j < ns
    · have hjT : j < m.si.length := by rw [HI.out.ls]; exact hlt
      obtain ⟨b, o, rfl, hcc⟩ := ((HI.out.below HB.out).rs).at3 (by omega)
      have c0 := (hcc j hjT).1
      have c1 := (hcc j hjT).2.1
      have c2 := (hcc j hjT).2.2
      have hA := HAT.out _ (List.getElem_mem hjT)
      have HX2 := Hid.in (below_alloc HB.out (.cells #[.int .i64 m.si[j].key, .int .i64 m.si[j].at_, .int .i64 m.si[j].to_] 37))
      have HKx := Hid.in (HK1.out.grow HX2.out)
      have HQx := Hid.in (HQ.out.below HX2.out)
      have HIx := Hid.in (HI.out.below HX2.out)
      have b0 : (wr.alloc (.cells #[.int .i64 m.si[j].key, .int .i64 m.si[j].at_, .int .i64 m.si[j].to_] 37)).cell? ⟨w.heap.size, 0, none⟩ = some (.slice pb nb cb) := HKx.out.cell 0
      clear hcc
      obtain ⟨a, ha⟩ : ∃ a : Nat, m.si[j].at_ = a := ⟨m.si[j].at_.toNat, by omega⟩
      have HS : Hid (stB m.bs m.si[j].at_ quiet = stB m.bs (a : Int) quiet) := by
        have : stB m.bs m.si[j].at_ quiet = stB m.bs (a : Int) quiet := by rw [ha]
        exact this
      rw [ha] at hA
      by_cases hle : a ≤ nb
      · obtain ⟨p', e1, e2, hrow, -, -⟩ := slice_from HIx.out.rb HI.out.lb hkb hle
        have hcl := hasPrefix_any p' (some ⟨q, 0, none⟩) (nb - a) (cb - a) 5 cap (m.bs.drop a) quiet _ (by rw [List.length_drop, HI.out.lb]) rfl (by omega) (by omega) (by omega) hrow HQx.out.row (HI.out.byt.drop a) byt_quiet
        rw [← st_pre (by rw [HI.out.lb]; exact hle)] at hcl
        cases hs : stB m.bs (a : Int) quiet with
        | true =>
          have HG2 : Hid (∀ i (hi : i < m.si.length), i < j + 1 → stB m.bs m.si[i].at_ quiet = true) := fun i hi h => by
            by_cases e : i = j
            · subst e; rw [HS.out]; exact hs
            · exact HGO.out i hi (by omega)
          rw [hs] at hcl
          clear hs HS hrow HKx HIx HQx
          generalize m.si[j].key = x0 at *
          generalize m.si[j].to_ = x2 at *
          generalize m.si[j].at_ = x1 at *
          subst ha
          go_wp2_with (go_at_call 41; refine hcl.mono ?_; rintro e w2 ⟨rfl, rfl⟩)
          go_roundw
          case rel => exact ⟨j + 1, by go_num, by omega, HG2.out, HX2.out⟩
          case measure => simp [intOf]; omega
        | false =>
          have HE : Hid (r = false) := by
            have : r = false := by rw [← HRR.out]; exact all_no hjT (HS.out.trans hs)
            exact this
          rw [hs] at hcl
          clear hs HS hrow HKx HIx HQx
          generalize m.si[j].key = x0 at *
          generalize m.si[j].to_ = x2 at *
          generalize m.si[j].at_ = x1 at *
          subst ha
          go_wp2_with (go_at_call 41; refine hcl.mono ?_; rintro e w2 ⟨rfl, rfl⟩)
          go_ret
          exact ⟨by rw [HE.out]; rfl, below_step HB1.out HX2.out⟩
      · have HE : Hid (r = false) := by
          have : r = false := by rw [← HRR.out]; exact all_no hjT (HS.out.trans (st_far (by rw [HI.out.lb]; omega)))
          exact this
        have hd : decide ((nb : Int) < (a : Int)) = true := decide_eq_true (by omega)
        clear HS HKx HIx HQx
        generalize m.si[j].key = x0 at *
        generalize m.si[j].to_ = x2 at *
        generalize m.si[j].at_ = x1 at *
        subst ha
        go_wp2_with fail
        go_ret
        exact ⟨by rw [HE.out]; rfl, below_step HB1.out HX2.out⟩
    · have HE : Hid (r = true) := by
        have : r = true := by rw [← HRR.out]; exact all_yes fun i hi => HGO.out i hi (by rw [HI.out.ls] at hi; omega)
        exact this
      go_wp2_with fail
      go_ret
      exact ⟨by rw [HE.out]; rfl, below_step HB1.out HB.out⟩

theorem intV_cell {w : World} {p : Option Addr} {un : List Int} (h : GRow w p (intV un)) (h0 : 0 < un.length) : ∃ b o, p = some ⟨b, o, none⟩ ∧ ∀ i (hi : i < un.length), w.cell? ⟨b, o + i, none⟩ = some (.int .i64 un[i]) := by
  obtain ⟨b, o, e, hc⟩ := h (by simpa using h0)
  refine ⟨b, o, e, fun i hi => ?_⟩
  have := hc i (by simpa using hi)
  simpa [hi] using this
theorem unP_at {n : Nat} {un : List Int} {i : Nat} (hi : i < un.length) : unP n un i = decide (lastU un i ≤ un[i] ∧ un[i] % 4 = 0 ∧ un[i] ≤ n) := by
  unfold unP
  rw [List.getD_eq_getElem?_getD, List.getElem?_eq_getElem hi]; rfl
theorem lastU_succ {un : List Int} {i : Nat} (hi : i < un.length) : lastU un (i + 1) = un[i] := by
  unfold lastU
  rw [if_neg (by omega), Nat.add_sub_cancel, List.getD_eq_getElem?_getD, List.getElem?_eq_getElem hi]; rfl

set_option maxRecDepth 20000 in
set_option maxHeartbeats 1000000 in
theorem rightUnits_any (m : IM) (pb pk ps pu : Option Addr) (nb cb nk ck ns cs nu cu : Nat) (w : World) (h : ImIn w m pb pk ps pu nb cb nk ck ns cs nu cu) :
    Calls Try.prog 29 #[.agg (imA pb pk ps pu nb cb nk ck ns cs nu cu)] w fun E w' => E = .returned (.bool (unitsB m.bs.length m.un)) ∧ Below w.heap.size w w' := by
  have H := Hid.in h
  have hnu := h.mu
  have hcb := h.mb
  have hkb := h.kb
  clear h
  obtain ⟨r, hrr⟩ : ∃ r, unitsB m.bs.length m.un = r := ⟨_, rfl⟩
  rw [hrr]
  have HRR := Hid.in hrr
  clear hrr
  have HK0 : Hid (Blk (w.alloc (.cells (imA pb pk ps pu nb cb nk ck ns cs nu cu) 29)) w.heap.size 29 (imA pb pk ps pu nb cb nk ck ns cs nu cu)) := Blk.new _ _ _
  have HB0 : Hid (Below w.heap.size w (w.alloc (.cells (imA pb pk ps pu nb cb nk ck ns cs nu cu) 29))) := new_alloc _ _
  have HI := Hid.in (H.out.below HB0.out)
  have k0 : (w.alloc (.cells (imA pb pk ps pu nb cb nk ck ns cs nu cu) 29)).cell? ⟨w.heap.size, 0, none⟩ = some (.slice pb nb cb) := HK0.out.cell 0
  have k3 : (w.alloc (.cells (imA pb pk ps pu nb cb nk ck ns cs nu cu) 29)).cell? ⟨w.heap.size, 3, none⟩ = some (.slice pu nu cu) := HK0.out.cell 3
  by_cases h16 : nu ≤ 16
  · have q1 : decide ((16 : Int) < (nu : Int)) = false := decide_eq_false (by omega)
    by_cases h0 : 0 < nu
    · have q2 : decide ((0 : Int) < (nu : Int)) = true := decide_eq_true (by omega)
      obtain ⟨b, o, rfl, hc⟩ := intV_cell HI.out.ru (by rw [HI.out.lu]; exact h0)
      have HC := Hid.in hc
      have c0 := hc 0 (by rw [HI.out.lu]; exact h0)
      rw [Nat.add_zero] at c0
      have hu0 : m.un.getD 0 0 = m.un[0]'(by rw [HI.out.lu]; exact h0) := by rw [List.getD_eq_getElem?_getD, List.getElem?_eq_getElem (by rw [HI.out.lu]; exact h0)]; rfl
      have HU := Hid.in hu0
      have HUI := Hid.in (HI.out.uns _ (List.getElem_mem (show 0 < m.un.length by rw [HI.out.lu]; exact h0)))
      generalize hx : m.un[0]'(by rw [HI.out.lu]; exact h0) = x at *
      have HX := Hid.in hx
      clear hc hu0 hx
      by_cases hz : x = 0
      · have q3 : decide (x = 0) = true := decide_eq_true hz
        have HF : Hid (r = (List.range m.un.length).all (unP m.bs.length m.un)) := by
          have : r = (List.range m.un.length).all (unP m.bs.length m.un) := by
            rw [← HRR.out]; unfold unitsB
            rw [decide_eq_true (by rw [HI.out.lu, HU.out]; exact ⟨h16, hz⟩), Bool.true_and]
          exact this
        subst hz
        clear HC HX HUI HU
        go_enter Try.func29, Try.ntmps29
        go_wp2_with fail
        go_loopw [3, 5, 26] (fun vl _ vi wr => ∃ j : Nat, vi = .int .i64 j ∧ j ≤ nu ∧ vl = .int .i64 (lastU m.un j) ∧ 0 ≤ lastU m.un j ∧ (∀ i, i < j → unP m.bs.length m.un i = true) ∧ Below (w.alloc (.cells (imA pb pk ps (some ⟨b, o, none⟩) nb cb nk ck ns cs nu cu) 29)).heap.size (w.alloc (.cells (imA pb pk ps (some ⟨b, o, none⟩) nb cb nk ck ns cs nu cu) 29)) wr) (fun _ _ vi _ => nu - (intOf vi).toNat)
        case atStart => exact ⟨0, rfl, Nat.zero_le _, rfl, Int.le_refl _, fun i h => absurd h (Nat.not_lt_zero _), below_self _⟩
        case round =>
          obtain ⟨j, rfl, hj, rfl, hl0, hgo, hb⟩ := hrel
          have HGO := Hid.in hgo
          have HB := Hid.in hb
          clear hgo hb
          by_cases hlt : j < nu
          · have hjT : j < m.un.length := by rw [HI.out.lu]; exact hlt
            have hIx := HI.out.below HB.out
            obtain ⟨b', o', e', hcc⟩ := intV_cell hIx.ru (by rw [HI.out.lu]; exact h0)
            obtain ⟨rfl, rfl⟩ : b = b' ∧ o = o' := by cases e'; exact ⟨rfl, rfl⟩
            have cj := hcc j hjT
            have b0 : wr.cell? ⟨w.heap.size, 0, none⟩ = some (.slice pb nb cb) := (HK0.out.grow HB.out).cell 0
            have hu := HI.out.uns _ (List.getElem_mem hjT)
            unfold i64P at hu
            have HP : Hid (unP m.bs.length m.un j = decide (lastU m.un j ≤ m.un[j] ∧ m.un[j] % 4 = 0 ∧ m.un[j] ≤ nb)) := by
              have := unP_at (n := m.bs.length) hjT
              rw [HI.out.lb] at this
              rw [HI.out.lb]
              exact this
            have HLS := Hid.in (lastU_succ hjT)
            clear hcc e' hIx
            generalize m.un[j] = x at *
            generalize lastU m.un j = l at *
            by_cases g1 : x < l
            · have HE : Hid (r = false) := by
                have : r = false := by rw [HF.out]; exact range_no hjT (HP.out.trans (decide_eq_false (by omega)))
                exact this
              have q4 : decide (x < l) = true := decide_eq_true g1
              clear HP HLS HF HRR HGO
              go_wp2_with fail
              go_ret
              exact ⟨by rw [HE.out]; rfl, below_step HB0.out HB.out⟩
            · have q4 : decide (x < l) = false := decide_eq_false g1
              have ht : x.tmod 4 = x % 4 := Int.tmod_eq_emod_of_nonneg (by omega)
              by_cases g2 : x % 4 = 0
              · have q5 : x.tmod 4 = 0 := ht.trans g2
                clear ht
                by_cases g3 : x ≤ nb
                · have q6 : decide ((nb : Int) < x) = false := decide_eq_false (by omega)
                  have HG2 : Hid (∀ i, i < j + 1 → unP m.bs.length m.un i = true) := fun i h => by
                    by_cases e : i = j
                    · subst e; exact HP.out.trans (decide_eq_true ⟨by omega, g2, g3⟩)
                    · exact HGO.out i (by omega)
                  clear HP HF HRR HGO
                  go_wp2_with fail
                  go_roundw
                  case rel => exact ⟨j + 1, by go_num, by omega, by rw [HLS.out], by rw [HLS.out]; omega, HG2.out, HB.out⟩
                  case measure => simp [intOf]; omega
                · have HE : Hid (r = false) := by
                    have : r = false := by rw [HF.out]; exact range_no hjT (HP.out.trans (decide_eq_false (by omega)))
                    exact this
                  have q6 : decide ((nb : Int) < x) = true := decide_eq_true (by omega)
                  clear HP HLS HF HRR HGO
                  go_wp2_with fail
                  go_ret
                  exact ⟨by rw [HE.out]; rfl, below_step HB0.out HB.out⟩
              · have HE : Hid (r = false) := by
                  have : r = false := by rw [HF.out]; exact range_no hjT (HP.out.trans (decide_eq_false (by omega)))
                  exact this
                have q5 : decide (x.tmod 4 = 0) = false := decide_eq_false (by rw [ht]; exact g2)
                clear HP HLS HF HRR HGO
                go_wp2_with fail
                go_ret
                exact ⟨by rw [HE.out]; rfl, below_step HB0.out HB.out⟩
          · have HE : Hid (r = true) := by
              have : r = true := by rw [HF.out]; exact range_yes fun i hi => HGO.out i (by rw [HI.out.lu] at hi; omega)
              exact this
            go_wp2_with fail
            go_ret
            exact ⟨by rw [HE.out]; rfl, below_step HB0.out HB.out⟩
      · have HF : Hid (r = false) := by
          have : r = false := by
            rw [← HRR.out]; unfold unitsB
            rw [decide_eq_false (by rw [HU.out]; exact fun h => hz h.2), Bool.false_and]
          exact this
        have q3 : decide (x = 0) = false := decide_eq_false hz
        go_enter Try.func29, Try.ntmps29
        go_wp2_with fail
        go_ret
        exact ⟨by rw [HF.out]; rfl, HB0.out⟩
    · have HF : Hid (r = true) := by
        have : r = true := by
          have e : m.un = [] := List.eq_nil_of_length_eq_zero (by rw [HI.out.lu]; omega)
          rw [← HRR.out, e]; rfl
        exact this
      obtain rfl : nu = 0 := by omega
      go_enter Try.func29, Try.ntmps29
      go_wp2_with fail
      go_loopw [3, 5, 26] (fun _ _ vi wr => vi = .int .i64 0 ∧ Below w.heap.size w wr) (fun _ _ _ _ => 0)
      case atStart => exact ⟨rfl, HB0.out⟩
      case round =>
        obtain ⟨rfl, hb⟩ := hrel
        go_wp2_with fail
        go_ret
        exact ⟨by rw [HF.out]; rfl, hb⟩
  · have HF : Hid (r = false) := by
      have : r = false := by
        rw [← HRR.out]; unfold unitsB
        rw [decide_eq_false (by rw [HI.out.lu]; exact fun h => h16 h.1), Bool.false_and]
      exact this
    have q1 : decide ((16 : Int) < (nu : Int)) = true := decide_eq_true (by omega)
    go_enter Try.func29, Try.ntmps29
    go_wp2_with fail
    go_ret
    exact ⟨by rw [HF.out]; rfl, HB0.out⟩
end Go.Proofs.Ytgblohjdiheemaa

/- Sorted, and apart: what sites.Right asks for, in the words of the code. -/
namespace Go.Proofs.Ytgblohjdiheemaa
open Go.RowKit

def nsB (T : List Si) : Bool := decide (∀ i, i < T.length - 1 → ltS (T.getD (i + 1) ⟨0, 0, 0⟩) (T.getD i ⟨0, 0, 0⟩) = false)
theorem getD_si {T : List Si} {i : Nat} (h : i < T.length) : T.getD i ⟨0, 0, 0⟩ = T[i] := by simp [List.getD, h]

/-- no two places share a byte -/
def apP (L : List Int) : Prop := L.Pairwise fun a b => ¬ (b - a < 5 ∧ a - b < 5)
instance (L : List Int) : Decidable (apP L) := inferInstanceAs (Decidable (L.Pairwise _))

theorem lt_asym {a b : Si} (h : ltS a b = true) : ltS b a = false := by
  unfold ltS at *
  simp only [decide_eq_true_eq] at h
  exact decide_eq_false (by omega)
theorem lt_of_not {a b : Si} (h : ltS b a = false) (hd : a.at_ ≠ b.at_) : ltS a b = true := by
  unfold ltS at *
  simp only [decide_eq_false_iff_not] at h
  exact decide_eq_true (by omega)

theorem ns_pair {T : List Si} (ha : apP (T.map (·.at_))) : nsB T = true ↔ T.Pairwise fun a b => ltS a b = true := by
  have hd : ∀ i j (hi : i < T.length) (hj : j < T.length), i < j → T[i].at_ ≠ T[j].at_ := by
    intro i j hi hj hij e
    have := List.pairwise_iff_getElem.1 ha i j (by simpa using hi) (by simpa using hj) hij
    simp only [List.getElem_map] at this
    omega
  unfold nsB
  rw [decide_eq_true_eq]
  constructor
  · intro h
    have hc : ∀ i (hi : i + 1 < T.length), ltS T[i] T[i + 1] = true := by
      intro i hi
      have := h i (by omega)
      rw [getD_si hi, getD_si (by omega)] at this
      exact lt_of_not this (hd i (i + 1) (by omega) hi (by omega))
    have hg : ∀ d i (hi : i + (d + 1) < T.length), ltS T[i] T[i + (d + 1)] = true := by
      intro d
      induction d with
      | zero => exact fun i hi => hc i hi
      | succ d ih => exact fun i hi => ltS_trans (ih i (by omega)) (hc (i + (d + 1)) hi)
    refine List.pairwise_iff_getElem.2 fun i j hi hj hij => ?_
    obtain ⟨d, rfl⟩ : ∃ d, j = i + (d + 1) := ⟨j - i - 1, by omega⟩
    exact hg d i hj
  · intro h i hi'
    have hi : i + 1 < T.length := by omega
    rw [getD_si hi, getD_si (by omega)]
    exact lt_asym (List.pairwise_iff_getElem.1 h i (i + 1) (by omega) hi (by omega))

theorem right_eq (T : List Si) (n : Int) : rightS T n = (decide (0 ≤ n ∧ n ≤ 64 ∧ T.length ≤ 256) && T.all (siteB n) && (nsB T && decide (apP (T.map (·.at_))))) := by
  have hap : (T.Pairwise fun a b => ¬ (b.at_ - a.at_ < 5 ∧ a.at_ - b.at_ < 5)) ↔ apP (T.map (·.at_)) := by unfold apP; rw [List.pairwise_map]
  unfold rightS
  rw [show decide (T.Pairwise fun a b => ¬ (b.at_ - a.at_ < 5 ∧ a.at_ - b.at_ < 5)) = decide (apP (T.map (·.at_))) from decide_eq_decide.2 hap]
  by_cases h : apP (T.map (·.at_))
  · rw [decide_eq_true h, Bool.and_true, Bool.and_true]
    congr 1
    have := ns_pair h
    cases hn : nsB T with
    | true => exact decide_eq_true (this.1 hn)
    | false => exact decide_eq_false fun hp => by rw [this.2 hp] at hn; cases hn
  · rw [decide_eq_false h, Bool.and_false, Bool.and_false, Bool.and_false]

/-- of a sorted list of places: neighbours tell all -/
def adjB (P : List Int) : Bool := decide (∀ i, i < P.length - 1 → ¬ P.getD (i + 1) 0 - P.getD i 0 < 5)
theorem adj_ap {P : List Int} (hs : P.Pairwise fun a b => a ≤ b) : adjB P = decide (apP P) := by
  unfold adjB
  refine decide_eq_decide.2 ⟨fun h => ?_, fun h i hi' => ?_⟩
  · have hc : ∀ i (hi : i + 1 < P.length), P[i] + 5 ≤ P[i + 1] := by
      intro i hi
      have := h i (by omega)
      simp only [List.getD, List.getElem?_eq_getElem hi, List.getElem?_eq_getElem (show i < P.length by omega), Option.getD_some] at this
      omega
    refine List.pairwise_iff_getElem.2 fun i j hi hj hij => ?_
    obtain ⟨d, rfl⟩ : ∃ d, j = i + (d + 1) := ⟨j - i - 1, by omega⟩
    have h1 := hc i (by omega)
    have h2 : P[i + 1] ≤ P[i + (d + 1)] := by
      by_cases e : d = 0
      · subst e; exact Int.le_refl _
      · exact List.pairwise_iff_getElem.1 hs (i + 1) (i + (d + 1)) (by omega) hj (by omega)
    omega
  · have hi : i + 1 < P.length := by omega
    have h1 := List.pairwise_iff_getElem.1 h i (i + 1) (by omega) hi (by omega)
    have h2 := List.pairwise_iff_getElem.1 hs i (i + 1) (by omega) hi (by omega)
    simp only [List.getD, List.getElem?_eq_getElem hi, List.getElem?_eq_getElem (show i < P.length by omega), Option.getD_some]
    omega
theorem ap_perm {L P : List Int} (h : L.Perm P) : apP L ↔ apP P :=
  h.pairwise_iff (fun {a b} hab => by omega)

end Go.Proofs.Ytgblohjdiheemaa

/- rightSite, slices.IsSortedFunc, the reference's Of and Sorted. -/
namespace Go.Proofs.Ytgblohjdiheemaa
open Go.RowKit

set_option maxHeartbeats 1000000 in
theorem rightSite_any (s : Si) (n : Int) (w : World) : Calls Try.prog 35 #[sV s, .int .i64 n] w fun e w' => e = .returned (.bool (siteB n s)) ∧ Below w.heap.size w w' := by
  by_cases hall : 0 ≤ s.key ∧ s.key < n ∧ 0 ≤ s.at_ ∧ s.at_ ≤ 65531 ∧ 0 ≤ s.to_ ∧ s.to_ ≤ 65536
  · have hR := fun W => inReach_any s W ⟨by omega, by omega, by omega, by omega⟩
    have HF : Hid (siteB n s = !farS s) := by
      have : siteB n s = !farS s := by unfold siteB; rw [decide_eq_true hall, Bool.true_and]
      exact this
    rw [HF.out]
    generalize farS s = f at *
    clear HF
    obtain ⟨sk, sa, st⟩ := s
    obtain ⟨h1, h2, h3, h4, h5, h6⟩ := hall
    dsimp only at h1 h2 h3 h4 h5 h6
    go_enter Try.func35, Try.ntmps35
    go_wp2_with (go_at_call 46; refine (hR _).mono ?_; rintro e w1 ⟨rfl, hb⟩; have HB := Hid.in (below_step (new_alloc w _) hb); clear hb)
    go_ret
    exact ⟨rfl, HB.out⟩
  · have HF : Hid (siteB n s = false) := by
      have : siteB n s = false := by unfold siteB; rw [decide_eq_false hall, Bool.false_and]
      exact this
    rw [HF.out]
    clear HF
    obtain ⟨sk, sa, st⟩ := s
    dsimp only at hall
    rcases (by omega : sk < 0 ∨ (0 ≤ sk ∧ n ≤ sk) ∨ (0 ≤ sk ∧ sk < n ∧ sa < 0) ∨ (0 ≤ sk ∧ sk < n ∧ 0 ≤ sa ∧ 65531 < sa) ∨ (0 ≤ sk ∧ sk < n ∧ 0 ≤ sa ∧ sa ≤ 65531 ∧ st < 0) ∨ (0 ≤ sk ∧ sk < n ∧ 0 ≤ sa ∧ sa ≤ 65531 ∧ 0 ≤ st ∧ 65536 < st)) with h1 | ⟨h1, h2⟩ | ⟨h1, h2, h3⟩ | ⟨h1, h2, h3, h4⟩ | ⟨h1, h2, h3, h4, h5⟩ | ⟨h1, h2, h3, h4, h5, h6⟩
    all_goals
      clear hall
      go_enter Try.func35, Try.ntmps35
      go_wp2_with fail
      go_ret
      exact ⟨ret_bool (by simp), new_alloc _ _⟩

theorem cmpS_neg {s t : Si} (h : ltS s t = true) : cmpS s t < 0 := by
  have := cmpS_lt s t
  rw [h] at this
  simpa using this
theorem cmpS_nneg {s t : Si} (h : ltS s t = false) : ¬ cmpS s t < 0 := by
  have := cmpS_lt s t
  rw [h] at this
  simpa using this

set_option maxRecDepth 4000 in
set_option maxHeartbeats 2000000 in
theorem isSorted_any (p : Option Addr) (n c : Nat) (T : List Si) (w : World) (hn : T.length = n) (hn6 : n ≤ 140737488355328) (hr : Row3 w p (T.map siV)) :
    Calls Try.prog 36 #[.slice p n c, .func (Fn.func 37) #[] #[]] w fun E w' => E = .returned (.bool (nsB T)) ∧ Below w.heap.size w w' := by
  have hC := fun s t W => byKey_any s t W
  have HN := Hid.in hn
  have HR := Hid.in hr
  clear hn hr
  obtain ⟨r, hrr⟩ : ∃ r, nsB T = r := ⟨_, rfl⟩
  rw [hrr]
  have HRR := Hid.in hrr
  clear hrr
  have hwn : IntKind.i64.wrap ((n : Int) - 1) = (n : Int) - 1 := by rw [IntKind.wrap_i64]; omega
  go_enter Try.func36, Try.ntmps36
  go_wp2_with fail
  go_loopw [5] (fun vi wr => ∃ k : Int, vi = .int .i64 k ∧ -1 ≤ k ∧ k ≤ (n : Int) - 1 ∧ (∀ j : Nat, j + 1 < T.length → k < (j : Int) + 1 → ltS (T.getD (j + 1) ⟨0, 0, 0⟩) (T.getD j ⟨0, 0, 0⟩) = false) ∧ Below w.heap.size w wr) (fun vi _ => (intOf vi).toNat)
  case atStart => exact ⟨(n : Int) - 1, rfl, by omega, by omega, fun j h1 h2 => by rw [HN.out] at h1; omega, below_self w⟩
  case round =>
    obtain ⟨k, rfl, hk0, hk1, hgo, hb⟩ := hrel
    have HGO := Hid.in hgo
    have HB := Hid.in hb
    clear hgo hb
    by_cases hlt : 0 < k
    · obtain ⟨m, rfl⟩ : ∃ m : Nat, k = (m : Int) + 1 := ⟨(k - 1).toNat, by omega⟩
      have hm1 : m + 1 < T.length := by rw [HN.out]; omega
      have hm0 : m < T.length := by omega
      obtain ⟨b, o, rfl, hcc⟩ := (HR.out.below HB.out).at3 (by omega)
      have c0 := (hcc (m + 1) hm1).1
      have c1 := (hcc (m + 1) hm1).2.1
      have c2 := (hcc (m + 1) hm1).2.2
      have d0 := (hcc m hm0).1
      have d1 := (hcc m hm0).2.1
      have d2 := (hcc m hm0).2.2
      have hcl := hC T[m + 1] T[m] wr.drew
      dsimp only [sV] at hcl
      have hw1 : IntKind.i64.wrap ((m : Int) + 1 - 1) = (m : Int) := by rw [IntKind.wrap_i64]; omega
      have hw2 : ((m : Int) + 1).toNat = m + 1 := by omega
      have hw3 : IntKind.i64.wrap (m : Int) = (m : Int) := by rw [IntKind.wrap_i64]; omega
      have hb0 : (0 : Int) ≤ (m : Int) + 1 := by omega
      have hb1 : (m : Int) + 1 < (n : Int) := by omega
      have hb2 : m < n := by omega
      clear hcc hC
      cases hl : ltS T[m + 1] T[m] with
      | true =>
        have hneg := cmpS_neg hl
        have HE : Hid (r = false) := by
          have : nsB T = false := by
            unfold nsB
            refine decide_eq_false fun h => ?_
            have := h m (by omega)
            rw [getD_si hm1, getD_si hm0, hl] at this
            cases this
          rw [← HRR.out, this]; exact rfl
        generalize cmpS T[m + 1] T[m] = cc at *
        generalize T[m + 1].key = x0 at *
        generalize T[m + 1].at_ = x1 at *
        generalize T[m + 1].to_ = x2 at *
        generalize T[m].key = y0 at *
        generalize T[m].at_ = y1 at *
        generalize T[m].to_ = y2 at *
        clear hl
        go_wp2_with fail
        go_region_law (go_simp; go_at_call 37; (with_reducible refine hcl.mono ?_); rintro e w1 ⟨rfl, q, os, hw⟩; have HB1 : Hid (Below w.heap.size w w1) := (by rw [hw]; exact below_step HB.out (below_step (below_draws (below_self wr) 1) (grow_below _ _ _))); clear hw)
        all_goals
          go_wp2
          go_ret
          exact ⟨by rw [HE.out]; rfl, HB1.out⟩
      | false =>
        have hneg := cmpS_nneg hl
        have HG2 : Hid (∀ j : Nat, j + 1 < T.length → (m : Int) < (j : Int) + 1 → ltS (T.getD (j + 1) ⟨0, 0, 0⟩) (T.getD j ⟨0, 0, 0⟩) = false) := fun j h1 h2 => by
          by_cases e : j = m
          · subst e; rw [getD_si hm1, getD_si hm0]; exact hl
          · exact HGO.out j h1 (by omega)
        generalize cmpS T[m + 1] T[m] = cc at *
        generalize T[m + 1].key = x0 at *
        generalize T[m + 1].at_ = x1 at *
        generalize T[m + 1].to_ = x2 at *
        generalize T[m].key = y0 at *
        generalize T[m].at_ = y1 at *
        generalize T[m].to_ = y2 at *
        clear hl
        go_wp2_with fail
        go_region_law (go_simp; go_at_call 37; (with_reducible refine hcl.mono ?_); rintro e w1 ⟨rfl, q, os, hw⟩; have HB1 : Hid (Below w.heap.size w w1) := (by rw [hw]; exact below_step HB.out (below_step (below_draws (below_self wr) 1) (grow_below _ _ _))); clear hw)
        all_goals
          go_wp2
          go_roundw
          case rel => exact ⟨m, by first | rfl | go_num, by omega, by omega, HG2.out, HB1.out⟩
          case measure => simp [intOf]
    · have HE : Hid (r = true) := by
        have : nsB T = true := by
          unfold nsB
          exact decide_eq_true fun j h1 => HGO.out j (by omega) (by omega)
        rw [← HRR.out, this]; exact rfl
      go_wp2_with fail
      go_ret
      exact ⟨by rw [HE.out]; rfl, HB.out⟩

end Go.Proofs.Ytgblohjdiheemaa
