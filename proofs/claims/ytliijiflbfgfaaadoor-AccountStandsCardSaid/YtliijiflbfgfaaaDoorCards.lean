/-
  DERIVED. GIVEN WITH THE SEED: THE CARDS: each row of YtliijiflbfgfaaaDoorRows.lean that lists a variable, with what it lists TIED to the program's text (the seventh form; the later family's looks); each row that meets fmt, with fmt's text TOLD by the authors' own Lean function (tested against real Go, not proved from fmt's source: count such statements apart). THE CARD IS WHAT COUNTS. Prove the row's statement (the work); the ties are given (YtliijiflbfgfaaaDoorTie.lean); close each card by the builder's one call (the guide's Derived/Test/ToyasCard.lean, 'card_holds'). Laid BY PROGRAM, IN A SANDBOX (cutbox-door.mjs). By AI agents, Wed Nov 11 2026. No macro, syntax, notation, axiom, sorry.
-/
import Derived.Test.YtliijiflbfgfaaaDoorRows
import GoSem.ClaimSeven
namespace Go.Proofs.YtliijiflbfgfaaaDoor
namespace Rows

/-- THE TIED CARD OF 'goodnamelaw03.AccountStands'. -/
def accountStandsCard : Claim7 := { stood := { row := accountStandsRow, standIns := [], harness := (true, "36314cee1e901279d1467c871350f442a40d9c36640a69416cc32dc99ff01b22"), looks := false }, kinds := [], alts := [], laidByText := true, laidKinds := [.data], laidTests := true, laidLooks := .later }
def AccountStandsCardSaid : Prop := Claim7.holds Tryd.pinned (.plain (OpenSpec.ofChange accountStandsSpec)) accountStandsCard

/-- THE SECOND FORM's CARD OF 'goodnamelaw03.AccountStands'. -/
def accountStandsUptoCard : Claim7 := { stood := { row := accountStandsUptoRow, standIns := [], harness := (true, "36314cee1e901279d1467c871350f442a40d9c36640a69416cc32dc99ff01b22"), looks := false }, kinds := [], alts := [], laidByText := true, laidKinds := [.data], laidTests := true, laidLooks := .later }
def AccountStandsUptoCardSaid : Prop := Claim7.holds Tryd.pinned (.plain (OpenSpec.upto accountStandsSpec)) accountStandsUptoCard
end Rows
end Go.Proofs.YtliijiflbfgfaaaDoor
