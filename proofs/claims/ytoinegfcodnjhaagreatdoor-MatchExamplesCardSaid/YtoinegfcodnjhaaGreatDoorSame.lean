/- Two records that read alike are the same. -/
import Derived.Test.YtoinegfcodnjhaaGreatDoorTwin
namespace Go.Proofs.YtoinegfcodnjhaaGreatDoor
open Go.RowKit

theorem below_drewN {B : Nat} {a w : World} (h : Below B a w) (n : Nat) : Below B a (w.drewN n) := ⟨h.os, h.tape, h.output, h.size, h.block⟩

end Go.Proofs.YtoinegfcodnjhaaGreatDoor
