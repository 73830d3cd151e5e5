/- How much two records agree, or the error: the reference's. -/
import Derived.Test.YtbkmfomdhjhkpaaGreatChecks
import Derived.Test.YtbkmfomdhjhkpaaGreatCompr
namespace Go.Proofs.YtbkmfomdhjhkpaaGreat
open Go.RowKit

def cmpE (u : Rul) (r s : Rec) : Int := if rulesB u.l u.d u.y u.t = false then 10 else if recB r = false ∨ recB s = false then 11 else 0
def cmpM (u : Rul) (r s : Rec) : Mat := if cmpE u r s = 0 then matF u r s else ⟨0, 0, 0, 0, 0⟩
theorem cmpM_bad {u : Rul} {r s : Rec} (h : cmpE u r s ≠ 0) : cmpM u r s = ⟨0, 0, 0, 0, 0⟩ := if_neg h
theorem cmpM_good {u : Rul} {r s : Rec} (h : cmpE u r s = 0) : cmpM u r s = matF u r s := if_pos h

theorem refRules_below (l d y t : Int) (w : World) : Calls Tryz.prog 20 #[.agg #[.int .i64 l, .int .i64 d, .int .i64 y, .int .i64 t]] w fun e w' => e = .returned (.bool (rulesB l d y t)) ∧ Below w.heap.size w w' :=
  (refRules_any l d y t w).mono fun _ _ ⟨h1, h2⟩ => ⟨h1, h2 ▸ (Below.refl _ _).alloc (Nat.le_refl _) _⟩

end Go.Proofs.YtbkmfomdhjhkpaaGreat
