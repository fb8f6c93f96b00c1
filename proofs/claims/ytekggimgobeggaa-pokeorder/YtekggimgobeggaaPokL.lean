/- The patcher as lists: what Step leaves and tells. -/
import Derived.Test.YtekggimgobeggaaBatL
import Derived.Test.YtekggimgobeggaaRnd
import Derived.Test.YtekggimgobeggaaMem2
import Derived.Test.YtekggimgobeggaaEnc
import Derived.Test.YtekggimgobeggaaW7
namespace Go.Proofs.Ytekggimgobeggaa
open Go.RowKit

/-- what is counted -/
structure Ct where
  si : Int
  wr : Int
  ro : Int
  st : Int
  wa : Int
deriving DecidableEq
/-- a patcher with what it stands upon -/
structure PS where
  left : List Si
  up : Bool
  ph : Nat
  wr : Nat
  nx : Nat
  ct : Ct
  bt : List Si
  xs : List Int
  fs : List Bool
  n : Int
deriving DecidableEq
/-- what a step answers: the state then, events, whether the switch returns, the error -/
structure SA where
  s : PS
  ev : List Ev
  back : Bool
  e : Int
def PS.step (s : PS) : PS := { s with ct := { s.ct with st := s.ct.st + 1 } }
def clrP (s : PS) : SA :=
  if s.left.length = 0 then ⟨{ s with bt := [], left := [], ph := 0 }.step, [], true, 0⟩
  else ⟨{ s with bt := [], ph := 1 }.step, [], false, 0⟩
def gatP (s : PS) : SA :=
  match s.left with
  | [] => clrP s
  | x :: l => ⟨{ s with bt := addR s.bt x.at_ x.to_ s.up, left := l, ph := if (addR s.bt x.at_ x.to_ s.up).length = 4 ∨ l.length = 0 then 2 else 1 }.step, [], false, 0⟩
def waiP (s : PS) : SA :=
  if ovr s.fs = true then ⟨{ s with ph := s.nx }.step, [], false, 0⟩ else ⟨{ s with ct := { s.ct with wa := s.ct.wa + 1 } }, [], false, 0⟩
def sndP (s : PS) (rs : List Bool) (nx : Nat) : SA :=
  if rs.length = s.fs.length ∧ ovr s.fs = true then ⟨{ s with ph := 5, nx := nx, wr := 0, fs := rs, n := s.n + 1, ct := { s.ct with ro := s.ct.ro + 1, st := s.ct.st + 1 } }, [⟨11, 0, 0, 0, s.n + 1⟩], false, 0⟩
  else ⟨s, [], false, 2⟩
/-- the new instruction's bytes -/
def newB (x : Si) : List Int := if x.key = 1 then encL 11 0 0 (x.to_ - (x.at_ + 5)) else encL 3 0 0 0
/-- a piece of a site in a phase: where, and what -/
def pieceP (ph : Nat) (x : Si) : Int × List Int :=
  if ph = 2 then (x.at_, [204]) else if ph = 3 then (x.at_ + 1, (newB x).drop 1) else (x.at_, (newB x).take 1)
def nxP (ph : Nat) : Nat := if ph = 2 then 3 else if ph = 3 then 4 else 6
def wriP (s : PS) (rs : List Bool) : SA :=
  match s.bt[s.wr]? with
  | none => sndP s rs (nxP s.ph)
  | some x =>
    if 0 ≤ (pieceP s.ph x).1 ∧ (pieceP s.ph x).1 ≤ (s.xs.length : Int) - (pieceP s.ph x).2.length then
      ⟨{ s with xs := putA s.xs (pieceP s.ph x).1.toNat (pieceP s.ph x).2, wr := s.wr + 1, ct := { s.ct with wr := s.ct.wr + 1, st := s.ct.st + 1 } }, [⟨10, 0, (pieceP s.ph x).1, 0, (pieceP s.ph x).2.length⟩], false, 0⟩
    else ⟨s, [], false, 2⟩
def stpP (s : PS) (rs : List Bool) : SA :=
  if s.ph = 0 then ⟨s, [], false, 0⟩
  else if s.ph = 1 then gatP s
  else if s.ph = 5 then waiP s
  else if s.ph = 6 then clrP s
  else wriP s rs
/-- what holds of each patcher -/
structure POk (s : PS) (M : Int) : Prop where
  ph : s.ph ≤ 6
  nx : s.nx ≤ 6
  w1 : s.wr ≤ s.bt.length
  w2 : ¬ (2 ≤ s.ph ∧ s.ph ≤ 4) → s.wr = 0
  c1 : 0 ≤ s.ct.wr ∧ s.ct.wr ≤ M
  c2 : 0 ≤ s.ct.ro ∧ s.ct.ro ≤ M
  c3 : 0 ≤ s.ct.st ∧ s.ct.st ≤ M
  c4 : 0 ≤ s.ct.wa ∧ s.ct.wa ≤ M
  n : 0 ≤ s.n ∧ s.n ≤ M
  xl : s.xs.length ≤ 65536
end Go.Proofs.Ytekggimgobeggaa
