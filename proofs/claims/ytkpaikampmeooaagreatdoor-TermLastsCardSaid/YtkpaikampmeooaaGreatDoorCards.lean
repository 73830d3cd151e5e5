/-
  DERIVED. GIVEN WITH THE SEED: THE CARDS: each row of YtkpaikampmeooaaGreatDoorRows.lean that lists a variable, with what it lists TIED to the program's text (the seventh form; the later family's looks); each row that meets fmt, with fmt's text TOLD by the authors' own Lean function (tested against real Go, not proved from fmt's source: count such statements apart). THE CARD IS WHAT COUNTS. Prove the row's statement (the work); the ties are given (YtkpaikampmeooaaGreatDoorTie.lean); close each card by the builder's one call (the guide's Derived/Test/ToyasCard.lean, 'card_holds'). Laid BY PROGRAM, IN A SANDBOX (cutbox-door.mjs). By AI agents, Wed Nov 11 2026. No macro, syntax, notation, axiom, sorry.
-/
import Derived.Test.YtkpaikampmeooaaGreatDoorRows
import GoSem.ClaimSeven
namespace Go.Proofs.YtkpaikampmeooaaGreatDoor
namespace Rows

/-- THE TIED CARD OF 'goodnamelaw04.TermLasts'. -/
def termLastsCard : Claim7 := { stood := { row := termLastsRow, standIns := [], harness := (true, "318b62e00729481cbacdc429a2e40d14a9595318b1469a7edcf1348a19da1b38"), looks := false }, kinds := [], alts := [], laidByText := true, laidKinds := [.data], laidTests := true, laidLooks := .later }
def TermLastsCardSaid : Prop := Claim7.holds Tryz.pinned (.plain (OpenSpec.ofChange termLastsSpec)) termLastsCard

/-- THE SECOND FORM's CARD OF 'goodnamelaw04.TermLasts'. -/
def termLastsUptoCard : Claim7 := { stood := { row := termLastsUptoRow, standIns := [], harness := (true, "318b62e00729481cbacdc429a2e40d14a9595318b1469a7edcf1348a19da1b38"), looks := false }, kinds := [], alts := [], laidByText := true, laidKinds := [.data], laidTests := true, laidLooks := .later }
def TermLastsUptoCardSaid : Prop := Claim7.holds Tryz.pinned (.plain (OpenSpec.upto termLastsSpec)) termLastsUptoCard
end Rows
end Go.Proofs.YtkpaikampmeooaaGreatDoor
