/-
  No cell of these rows narrows 'for every input' (looked for: loops, veiled, ifaces, maps, wideKeys, modest, calm, conditions, laid).
  DERIVED. THE GIVEN ROWS OF THIS SEAT. 7 by the template 'for every input the law returns true; each argument reads behind the call as it read before'; 0 by the template 'total and deterministic' (their statements: YtbkmfomdhjhkpaaGreatTotals.lean).
  GIVEN WITH THE SEED: the statements are not yours to turn. If you find one false, say at which input.
  Laid BY PROGRAM, IN A SANDBOX (cutbox-rows.mjs): the forced cells as the released guide's own fill.sh prints them over the translation b0108c2cdb3c072f… (all of the seat's roots in one cut). By AI agents, Wed Nov 11 2026. No macro, syntax, notation, axiom, sorry.
-/
import Derived.Test.YtbkmfomdhjhkpaaGreatChecked
import GoSem.Claim
import GoSem.ClaimJoined
import GoSem.ClaimMapViews
import Derived.JoinedTies
import Derived.KernelRfl
namespace Go.Proofs.YtbkmfomdhjhkpaaGreat
/- THE CELL 'sum', in the pinned program and in every row, IS THE sha256 OF THE DUMP (.gsa) THAT YtbkmfomdhjhkpaaGreatProg.lean LOADS. Nothing in Lean hashes anything: it is a label: what it is worth is what the hold of that sum in a sandbox is worth. -/
noncomputable def Tryz.pinned : Pinned := { name := "ytbkmfomdhjhkpaagreat", sum := "b0108c2cdb3c072fb7e1d8d505524730c78979cd84ac5236f64ab03a2feb75f8", checked := Tryz.checked }
namespace Rows
def none {H : Type} : Left H := { results := [], args := [] }

/-- 'goodnamelaw01.MatchLists': WHATEVER THE INPUT: true; the input reads as it did. -/
def matchListsSpec : ChangeSpec := { name := "matchLists", fn := fun _ => fun
  | [d1, d2, d3] => { results := [.lit (.bool true)], args := [d1, d2, d3] }
  | _ => none }
def matchListsRow : OpenClaim := { program := "ytbkmfomdhjhkpaagreat", sum := "b0108c2cdb3c072fb7e1d8d505524730c78979cd84ac5236f64ab03a2feb75f8", func := "goodname/goodnamelaw01.MatchLists", spec := "matchLists", unfollowed := true, recurses := true, plainKeys := false, apart := false }
def MatchListsSaid : Prop := matchListsRow.holds Tryz.pinned (OpenSpec.ofChange matchListsSpec)

/-- ITS FALSE NEIGHBOUR: 'it returns false'. Refute it at one input. -/
def matchListsWrong : ChangeSpec := { name := "matchLists", fn := fun _ => fun
  | [d1, d2, d3] => { results := [.lit (.bool false)], args := [d1, d2, d3] }
  | _ => none }
def MatchListsWrongFalsely : Prop := matchListsRow.holds Tryz.pinned (OpenSpec.ofChange matchListsWrong)

/-- 'goodnamelaw01.MatchTrue': WHATEVER THE INPUT: true; the input reads as it did. -/
def matchTrueSpec : ChangeSpec := { name := "matchTrue", fn := fun _ => fun
  | [d1, d2, d3] => { results := [.lit (.bool true)], args := [d1, d2, d3] }
  | _ => none }
def matchTrueRow : OpenClaim := { program := "ytbkmfomdhjhkpaagreat", sum := "b0108c2cdb3c072fb7e1d8d505524730c78979cd84ac5236f64ab03a2feb75f8", func := "goodname/goodnamelaw01.MatchTrue", spec := "matchTrue", unfollowed := true, recurses := true, plainKeys := false, apart := false }
def MatchTrueSaid : Prop := matchTrueRow.holds Tryz.pinned (OpenSpec.ofChange matchTrueSpec)

/-- ITS FALSE NEIGHBOUR: 'it returns false'. Refute it at one input. -/
def matchTrueWrong : ChangeSpec := { name := "matchTrue", fn := fun _ => fun
  | [d1, d2, d3] => { results := [.lit (.bool false)], args := [d1, d2, d3] }
  | _ => none }
def MatchTrueWrongFalsely : Prop := matchTrueRow.holds Tryz.pinned (OpenSpec.ofChange matchTrueWrong)

/-- 'goodnamelaw01.MatchApart': WHATEVER THE INPUT: true; the input reads as it did. -/
def matchApartSpec : ChangeSpec := { name := "matchApart", fn := fun _ => fun
  | [d1, d2, d3] => { results := [.lit (.bool true)], args := [d1, d2, d3] }
  | _ => none }
def matchApartRow : OpenClaim := { program := "ytbkmfomdhjhkpaagreat", sum := "b0108c2cdb3c072fb7e1d8d505524730c78979cd84ac5236f64ab03a2feb75f8", func := "goodname/goodnamelaw01.MatchApart", spec := "matchApart", unfollowed := true, recurses := true, plainKeys := false, apart := false }
def MatchApartSaid : Prop := matchApartRow.holds Tryz.pinned (OpenSpec.ofChange matchApartSpec)

/-- ITS FALSE NEIGHBOUR: 'it returns false'. Refute it at one input. -/
def matchApartWrong : ChangeSpec := { name := "matchApart", fn := fun _ => fun
  | [d1, d2, d3] => { results := [.lit (.bool false)], args := [d1, d2, d3] }
  | _ => none }
def MatchApartWrongFalsely : Prop := matchApartRow.holds Tryz.pinned (OpenSpec.ofChange matchApartWrong)

/-- 'goodnamelaw01.MatchEdits': WHATEVER THE INPUT: true; the input reads as it did. -/
def matchEditsSpec : ChangeSpec := { name := "matchEdits", fn := fun _ => fun
  | [d1, d2, d3, d4] => { results := [.lit (.bool true)], args := [d1, d2, d3, d4] }
  | _ => none }
def matchEditsRow : OpenClaim := { program := "ytbkmfomdhjhkpaagreat", sum := "b0108c2cdb3c072fb7e1d8d505524730c78979cd84ac5236f64ab03a2feb75f8", func := "goodname/goodnamelaw01.MatchEdits", spec := "matchEdits", unfollowed := true, recurses := true, plainKeys := false, apart := false }
def MatchEditsSaid : Prop := matchEditsRow.holds Tryz.pinned (OpenSpec.ofChange matchEditsSpec)

/-- ITS FALSE NEIGHBOUR: 'it returns false'. Refute it at one input. -/
def matchEditsWrong : ChangeSpec := { name := "matchEdits", fn := fun _ => fun
  | [d1, d2, d3, d4] => { results := [.lit (.bool false)], args := [d1, d2, d3, d4] }
  | _ => none }
def MatchEditsWrongFalsely : Prop := matchEditsRow.holds Tryz.pinned (OpenSpec.ofChange matchEditsWrong)

/-- 'goodnamelaw01.MatchMore': WHATEVER THE INPUT: true; the input reads as it did. -/
def matchMoreSpec : ChangeSpec := { name := "matchMore", fn := fun _ => fun
  | [d1, d2, d3, d4] => { results := [.lit (.bool true)], args := [d1, d2, d3, d4] }
  | _ => none }
def matchMoreRow : OpenClaim := { program := "ytbkmfomdhjhkpaagreat", sum := "b0108c2cdb3c072fb7e1d8d505524730c78979cd84ac5236f64ab03a2feb75f8", func := "goodname/goodnamelaw01.MatchMore", spec := "matchMore", unfollowed := true, recurses := true, plainKeys := false, apart := false }
def MatchMoreSaid : Prop := matchMoreRow.holds Tryz.pinned (OpenSpec.ofChange matchMoreSpec)

/-- ITS FALSE NEIGHBOUR: 'it returns false'. Refute it at one input. -/
def matchMoreWrong : ChangeSpec := { name := "matchMore", fn := fun _ => fun
  | [d1, d2, d3, d4] => { results := [.lit (.bool false)], args := [d1, d2, d3, d4] }
  | _ => none }
def MatchMoreWrongFalsely : Prop := matchMoreRow.holds Tryz.pinned (OpenSpec.ofChange matchMoreWrong)

/-- 'goodnamelaw01.MatchPairs': WHATEVER THE INPUT: true; the input reads as it did. -/
def matchPairsSpec : ChangeSpec := { name := "matchPairs", fn := fun _ => fun
  | [d1, d2, d3] => { results := [.lit (.bool true)], args := [d1, d2, d3] }
  | _ => none }
def matchPairsRow : OpenClaim := { program := "ytbkmfomdhjhkpaagreat", sum := "b0108c2cdb3c072fb7e1d8d505524730c78979cd84ac5236f64ab03a2feb75f8", func := "goodname/goodnamelaw01.MatchPairs", spec := "matchPairs", unfollowed := true, recurses := true, plainKeys := false, apart := false }
def MatchPairsSaid : Prop := matchPairsRow.holds Tryz.pinned (OpenSpec.ofChange matchPairsSpec)

/-- ITS FALSE NEIGHBOUR: 'it returns false'. Refute it at one input. -/
def matchPairsWrong : ChangeSpec := { name := "matchPairs", fn := fun _ => fun
  | [d1, d2, d3] => { results := [.lit (.bool false)], args := [d1, d2, d3] }
  | _ => none }
def MatchPairsWrongFalsely : Prop := matchPairsRow.holds Tryz.pinned (OpenSpec.ofChange matchPairsWrong)

/-- 'goodnamelaw01.MatchHomes': WHATEVER THE INPUT: true; the input reads as it did. -/
def matchHomesSpec : ChangeSpec := { name := "matchHomes", fn := fun _ => fun
  | [d1, d2, d3] => { results := [.lit (.bool true)], args := [d1, d2, d3] }
  | _ => none }
def matchHomesRow : OpenClaim := { program := "ytbkmfomdhjhkpaagreat", sum := "b0108c2cdb3c072fb7e1d8d505524730c78979cd84ac5236f64ab03a2feb75f8", func := "goodname/goodnamelaw01.MatchHomes", spec := "matchHomes", unfollowed := true, recurses := true, plainKeys := false, apart := false }
def MatchHomesSaid : Prop := matchHomesRow.holds Tryz.pinned (OpenSpec.ofChange matchHomesSpec)

/-- ITS FALSE NEIGHBOUR: 'it returns false'. Refute it at one input. -/
def matchHomesWrong : ChangeSpec := { name := "matchHomes", fn := fun _ => fun
  | [d1, d2, d3] => { results := [.lit (.bool false)], args := [d1, d2, d3] }
  | _ => none }
def MatchHomesWrongFalsely : Prop := matchHomesRow.holds Tryz.pinned (OpenSpec.ofChange matchHomesWrong)

/- THE SECOND FORM. 'bulk': how many values and letters a reading holds, each counted each time it is reached (what is shared counts as often as it is met; a slice's spare places count too). A statement '..UptoSaid' is the law's where the arguments, and the package variables that the reading takes, are together of bulk at most 1048576: NARROWER than '..Said'. Prove '..Said' where nothing that the law and all that it calls make is longer than what came in: it says more and counts as full. Else prove '..UptoSaid'. A law counts once. -/
mutual
def uptoBulk {H : Type} : DataW H → Nat
  | .lit (.string bytes) => bytes.length + 1
  | .lit _ => 1
  | .nil => 1
  | .ptr d => uptoBulk d + 1
  | .slice elems spare => uptoBulkAll elems + uptoBulkAll spare + 1
  | .agg parts => uptoBulkAll parts + 1
  | .iface _ d => uptoBulk d + 1
  | .map entries => uptoBulkEntries entries + 1
  | .held _ => 1
def uptoBulkAll {H : Type} : List (DataW H) → Nat
  | [] => 0
  | d :: r => uptoBulk d + uptoBulkAll r
def uptoBulkEntries {H : Type} : List (Lit × DataW H) → Nat
  | [] => 0
  | x :: r => uptoBulkEntry x + uptoBulkEntries r
def uptoBulkEntry {H : Type} : Lit × DataW H → Nat
  | (.string bytes, d) => bytes.length + uptoBulk d + 1
  | (_, d) => uptoBulk d + 1
 end
def uptoSmall : (H : Type) → List (DataW H) → Bool := fun _ ds => decide (uptoBulkAll ds ≤ 1048576)
def OpenSpec.upto (s : _root_.Go.ChangeSpec) : _root_.Go.OpenSpec := { _root_.Go.OpenSpec.ofChange s with cond := some uptoSmall }

/-- 'goodnamelaw01.MatchLists', WHERE WHAT IT READS IS OF BULK AT MOST 1048576: true; the input reads as it did. -/
def matchListsUptoRow : OpenClaim := { program := "ytbkmfomdhjhkpaagreat", sum := "b0108c2cdb3c072fb7e1d8d505524730c78979cd84ac5236f64ab03a2feb75f8", func := "goodname/goodnamelaw01.MatchLists", spec := "matchLists", unfollowed := true, recurses := true, plainKeys := false, apart := false, narrowed := true }
def MatchListsUptoSaid : Prop := matchListsUptoRow.holds Tryz.pinned (OpenSpec.upto matchListsSpec)

/-- 'goodnamelaw01.MatchTrue', WHERE WHAT IT READS IS OF BULK AT MOST 1048576: true; the input reads as it did. -/
def matchTrueUptoRow : OpenClaim := { program := "ytbkmfomdhjhkpaagreat", sum := "b0108c2cdb3c072fb7e1d8d505524730c78979cd84ac5236f64ab03a2feb75f8", func := "goodname/goodnamelaw01.MatchTrue", spec := "matchTrue", unfollowed := true, recurses := true, plainKeys := false, apart := false, narrowed := true }
def MatchTrueUptoSaid : Prop := matchTrueUptoRow.holds Tryz.pinned (OpenSpec.upto matchTrueSpec)

/-- 'goodnamelaw01.MatchApart', WHERE WHAT IT READS IS OF BULK AT MOST 1048576: true; the input reads as it did. -/
def matchApartUptoRow : OpenClaim := { program := "ytbkmfomdhjhkpaagreat", sum := "b0108c2cdb3c072fb7e1d8d505524730c78979cd84ac5236f64ab03a2feb75f8", func := "goodname/goodnamelaw01.MatchApart", spec := "matchApart", unfollowed := true, recurses := true, plainKeys := false, apart := false, narrowed := true }
def MatchApartUptoSaid : Prop := matchApartUptoRow.holds Tryz.pinned (OpenSpec.upto matchApartSpec)

/-- 'goodnamelaw01.MatchEdits', WHERE WHAT IT READS IS OF BULK AT MOST 1048576: true; the input reads as it did. -/
def matchEditsUptoRow : OpenClaim := { program := "ytbkmfomdhjhkpaagreat", sum := "b0108c2cdb3c072fb7e1d8d505524730c78979cd84ac5236f64ab03a2feb75f8", func := "goodname/goodnamelaw01.MatchEdits", spec := "matchEdits", unfollowed := true, recurses := true, plainKeys := false, apart := false, narrowed := true }
def MatchEditsUptoSaid : Prop := matchEditsUptoRow.holds Tryz.pinned (OpenSpec.upto matchEditsSpec)

/-- 'goodnamelaw01.MatchMore', WHERE WHAT IT READS IS OF BULK AT MOST 1048576: true; the input reads as it did. -/
def matchMoreUptoRow : OpenClaim := { program := "ytbkmfomdhjhkpaagreat", sum := "b0108c2cdb3c072fb7e1d8d505524730c78979cd84ac5236f64ab03a2feb75f8", func := "goodname/goodnamelaw01.MatchMore", spec := "matchMore", unfollowed := true, recurses := true, plainKeys := false, apart := false, narrowed := true }
def MatchMoreUptoSaid : Prop := matchMoreUptoRow.holds Tryz.pinned (OpenSpec.upto matchMoreSpec)

/-- 'goodnamelaw01.MatchPairs', WHERE WHAT IT READS IS OF BULK AT MOST 1048576: true; the input reads as it did. -/
def matchPairsUptoRow : OpenClaim := { program := "ytbkmfomdhjhkpaagreat", sum := "b0108c2cdb3c072fb7e1d8d505524730c78979cd84ac5236f64ab03a2feb75f8", func := "goodname/goodnamelaw01.MatchPairs", spec := "matchPairs", unfollowed := true, recurses := true, plainKeys := false, apart := false, narrowed := true }
def MatchPairsUptoSaid : Prop := matchPairsUptoRow.holds Tryz.pinned (OpenSpec.upto matchPairsSpec)

/-- 'goodnamelaw01.MatchHomes', WHERE WHAT IT READS IS OF BULK AT MOST 1048576: true; the input reads as it did. -/
def matchHomesUptoRow : OpenClaim := { program := "ytbkmfomdhjhkpaagreat", sum := "b0108c2cdb3c072fb7e1d8d505524730c78979cd84ac5236f64ab03a2feb75f8", func := "goodname/goodnamelaw01.MatchHomes", spec := "matchHomes", unfollowed := true, recurses := true, plainKeys := false, apart := false, narrowed := true }
def MatchHomesUptoSaid : Prop := matchHomesUptoRow.holds Tryz.pinned (OpenSpec.upto matchHomesSpec)

end Rows
end Go.Proofs.YtbkmfomdhjhkpaaGreat
