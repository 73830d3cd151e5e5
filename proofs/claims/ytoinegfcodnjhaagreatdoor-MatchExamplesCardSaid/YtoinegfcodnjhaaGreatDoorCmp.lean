/- How much two records agree, or the error: the reference's. -/
import Derived.Test.YtoinegfcodnjhaaGreatDoorChecks
import Derived.Test.YtoinegfcodnjhaaGreatDoorCompr
namespace Go.Proofs.YtoinegfcodnjhaaGreatDoor
open Go.RowKit

def cmpE (u : Rul) (r s : Rec) : Int := if rulesB u.l u.d u.y u.t = false then 10 else if recB r = false ∨ recB s = false then 11 else 0
def cmpM (u : Rul) (r s : Rec) : Mat := if cmpE u r s = 0 then matF u r s else ⟨0, 0, 0, 0, 0⟩
theorem cmpM_bad {u : Rul} {r s : Rec} (h : cmpE u r s ≠ 0) : cmpM u r s = ⟨0, 0, 0, 0, 0⟩ := if_neg h
theorem cmpM_good {u : Rul} {r s : Rec} (h : cmpE u r s = 0) : cmpM u r s = matF u r s := if_pos h

end Go.Proofs.YtoinegfcodnjhaaGreatDoor
