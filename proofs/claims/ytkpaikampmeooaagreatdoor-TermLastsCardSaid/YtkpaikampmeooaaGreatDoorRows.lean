/-
  NARROWER THAN 'FOR EVERY INPUT', by the rows' own cells (each row's printed sentence says how): TermLasts: laid.
  DERIVED. THE GIVEN ROWS OF THIS SEAT. 1 by the template 'for every input the law returns true; each argument reads behind the call as it read before'; 0 by the template 'total and deterministic' (their statements: YtkpaikampmeooaaGreatDoorTotals.lean).
  GIVEN WITH THE SEED: the statements are not yours to turn. If you find one false, say at which input.
  Laid BY PROGRAM, IN A SANDBOX (cutbox-rows.mjs): the forced cells as the released guide's own fill.sh prints them over the translation c15f6345a5ef23e7… (all of the seat's roots in one cut). By AI agents, Wed Nov 11 2026. No macro, syntax, notation, axiom, sorry.
-/
import Derived.Test.YtkpaikampmeooaaGreatDoorChecked
import GoSem.Claim
import GoSem.ClaimJoined
import GoSem.ClaimMapViews
import Derived.JoinedTies
import Derived.KernelRfl
namespace Go.Proofs.YtkpaikampmeooaaGreatDoor
/- THE CELL 'sum', in the pinned program and in every row, IS THE sha256 OF THE DUMP (.gsa) THAT YtkpaikampmeooaaGreatDoorProg.lean LOADS. Nothing in Lean hashes anything: it is a label: what it is worth is what the hold of that sum in a sandbox is worth. -/
noncomputable def Tryz.pinned : Pinned := { name := "ytkpaikampmeooaagreatdoor", sum := "c15f6345a5ef23e709fd3aa58a1cc76bae331085b7736d51adb641919c18d747", checked := Tryz.checked }
namespace Rows
def none {H : Type} : Left H := { results := [], args := [] }

/- WHAT THE LISTED PACKAGE-LEVEL VARIABLES READ AS WHEN THE CALL BEGINS. Each datum BY PROGRAM (the guide's laid-datum.mjs) off the statement by which the dump's own 'gosem.cut.vars' lays the variable. In a bare row this is a premise. The card (YtkpaikampmeooaaGreatDoorCards.lean) ties it to the program's text. -/
def laid_goodname_account_needs {H : Type} : DataW H := .agg [.agg [.lit (.int .i64 0), .lit (.int .i64 0), .lit (.bool false)], .agg [.lit (.int .i64 100000), .lit (.int .i64 0), .lit (.bool false)], .agg [.lit (.int .i64 100000), .lit (.int .i64 1000000000000), .lit (.bool false)], .agg [.lit (.int .i64 100000), .lit (.int .i64 1000000000000), .lit (.bool false)], .agg [.lit (.int .i64 100000), .lit (.int .i64 1000000000000), .lit (.bool false)], .agg [.lit (.int .i64 100000), .lit (.int .i64 10000), .lit (.bool false)], .agg [.lit (.int .i64 100000), .lit (.int .i64 1000000000000), .lit (.bool false)], .agg [.lit (.int .i64 100000), .lit (.int .i64 0), .lit (.bool false)], .agg [.lit (.int .i64 100000), .lit (.int .i64 1000000000000), .lit (.bool true)], .agg [.lit (.int .i64 0), .lit (.int .i64 0), .lit (.bool true)]]

/-- 'goodnamelaw04.TermLasts': WHATEVER THE INPUT: true; the input reads as it did. -/
def termLastsSpec : ChangeSpec := { name := "termLasts", fn := fun _ => fun
  | [d1, d2, d3, d4, d5] => { results := [.lit (.bool true)], args := [d1, d2, d3, d4, d5] }
  | _ => none }
def termLastsRow : OpenClaim := { program := "ytkpaikampmeooaagreatdoor", sum := "c15f6345a5ef23e709fd3aa58a1cc76bae331085b7736d51adb641919c18d747", func := "goodname/goodnamelaw04.TermLasts", spec := "termLasts", unfollowed := true, recurses := true, named := ["goodname/account.needs"], plainKeys := false, apart := false, laid := [("goodname/account.needs", laid_goodname_account_needs)] }
def TermLastsSaid : Prop := termLastsRow.holds Tryz.pinned (OpenSpec.ofChange termLastsSpec)

/-- ITS FALSE NEIGHBOUR: 'it returns false'. Refute it at one input. -/
def termLastsWrong : ChangeSpec := { name := "termLasts", fn := fun _ => fun
  | [d1, d2, d3, d4, d5] => { results := [.lit (.bool false)], args := [d1, d2, d3, d4, d5] }
  | _ => none }
def TermLastsWrongFalsely : Prop := termLastsRow.holds Tryz.pinned (OpenSpec.ofChange termLastsWrong)

/- THE SECOND FORM. 'bulk': how many values and letters a reading holds, each counted each time it is reached (what is shared counts as often as it is met; a slice's spare places count too). A statement '..UptoSaid' is the law's where the arguments, and the package variables that the reading takes, are together of bulk at most 1048576: NARROWER than '..Said'. Prove '..Said' where nothing that the law and all that it calls make is longer than what came in: it says more and counts as full. Else prove '..UptoSaid'. A law counts once. -/
mutual
def uptoBulk {H : Type} : DataW H → Nat
  | .lit (.string bytes) => bytes.length + 1
  | .lit _ => 1
  | .nil => 1
  | .ptr d => uptoBulk d + 1
  | .slice elems spare => uptoBulkAll elems + uptoBulkAll spare + 1
  | .agg parts => uptoBulkAll parts + 1
  | .iface _ d => uptoBulk d + 1
  | .map entries => uptoBulkEntries entries + 1
  | .held _ => 1
def uptoBulkAll {H : Type} : List (DataW H) → Nat
  | [] => 0
  | d :: r => uptoBulk d + uptoBulkAll r
def uptoBulkEntries {H : Type} : List (Lit × DataW H) → Nat
  | [] => 0
  | x :: r => uptoBulkEntry x + uptoBulkEntries r
def uptoBulkEntry {H : Type} : Lit × DataW H → Nat
  | (.string bytes, d) => bytes.length + uptoBulk d + 1
  | (_, d) => uptoBulk d + 1
 end
def uptoSmall : (H : Type) → List (DataW H) → Bool := fun _ ds => decide (uptoBulkAll ds ≤ 1048576)
def OpenSpec.upto (s : _root_.Go.ChangeSpec) : _root_.Go.OpenSpec := { _root_.Go.OpenSpec.ofChange s with cond := some uptoSmall }

/-- 'goodnamelaw04.TermLasts', WHERE WHAT IT READS IS OF BULK AT MOST 1048576: true; the input reads as it did. -/
def termLastsUptoRow : OpenClaim := { program := "ytkpaikampmeooaagreatdoor", sum := "c15f6345a5ef23e709fd3aa58a1cc76bae331085b7736d51adb641919c18d747", func := "goodname/goodnamelaw04.TermLasts", spec := "termLasts", unfollowed := true, recurses := true, named := ["goodname/account.needs"], plainKeys := false, apart := false, laid := [("goodname/account.needs", laid_goodname_account_needs)], narrowed := true }
def TermLastsUptoSaid : Prop := termLastsUptoRow.holds Tryz.pinned (OpenSpec.upto termLastsSpec)

end Rows
end Go.Proofs.YtkpaikampmeooaaGreatDoor
