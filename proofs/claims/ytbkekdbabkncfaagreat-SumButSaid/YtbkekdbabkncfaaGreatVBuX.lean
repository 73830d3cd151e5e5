/- Three questions: all, those before one, those after: every case of it. -/
import Derived.Test.YtbkekdbabkncfaaGreatW7

namespace Go.Proofs.YtbkekdbabkncfaaGreat
open Go.RowKit Go.Maps

def qW (lo hi : Int) : Que := ⟨[⟨0, lo, hi⟩], 1, 1, 1⟩
def butT (n : Nat) : List Sub := (List.range n).map fun (i : Nat) => ⟨7 * (i : Int), [(i : Int), 0]⟩
def butF (k : Nat) : Que := if k = 0 then qW 1 0 else qW 0 ((k : Int) - 1)
def butA (k : Nat) : Que := qW ((k : Int) + 1) 1000000
def butQ (n k : Nat) : List Que := [qW 0 (n : Int), butF k, butA k]
def eqB (n : Nat) (qs : List Que) : List Eqn := eqnL ((butT n).map plS) qs.length 0 qs
def ledB (n : Nat) (qs : List Que) : List Led := solL [] (eqB n qs)
def idsB (n : Nat) : List Int := (List.range n).map fun (i : Nat) => 7 * (i : Int)
def okB (n : Nat) (qs : List Que) : Bool := solB [] (eqB n qs) && (ledB n qs).all fun x => decide (x.at_ < n)
def caseB (n k : Nat) : Bool :=
  okB n (butQ n k) && okB n [butF k, butA k] && okB n [butA k]
  && decide (fndI (idsB n) (7 * (k : Int)) = some k)
  && howB (ledB n (butQ n k)) k
  && decide ((howE (ledB n (butQ n k)) k).map (fun x => (clrL 1 x.e.ps, mltL (clrL 1 x.e.ps) x.e.ps)) = some (1, [1, if k = 0 then 0 else -1, if k + 1 = n then 0 else -1]))
  && hideB (ledB n [butF k, butA k]) n k
  && (hidF (ledB n [butF k, butA k]) k).isSome
  && decide (dedL (idsB n) (ledB n [butA k]) = if k + 2 = n then [7 * ((k : Int) + 1)] else [])
def allB : Bool := (List.range 17).all fun n => (List.range n).all fun k => caseB n k
set_option maxRecDepth 100000 in
theorem all_but : allB = true := by decide +kernel
end Go.Proofs.YtbkekdbabkncfaaGreat
