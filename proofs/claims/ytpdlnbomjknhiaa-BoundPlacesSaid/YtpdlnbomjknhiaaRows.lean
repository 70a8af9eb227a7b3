/-
  No cell of these rows narrows 'for every input' (looked for: loops, veiled, ifaces, maps, wideKeys, modest, calm, conditions, laid).
  DERIVED. THE GIVEN ROWS OF THIS SEAT. 4 by the template 'for every input the law returns true; each argument reads behind the call as it read before'; 0 by the template 'total and deterministic' (their statements: YtpdlnbomjknhiaaTotals.lean).
  GIVEN WITH THE SEED: the statements are not yours to turn. If you find one false, say at which input.
  Laid BY PROGRAM, IN A SANDBOX (cutbox-rows.mjs): the forced cells as the released guide's own fill.sh prints them over the translation 954eae2175687da9… (all of the seat's roots in one cut). By AI agents, Wed Nov 11 2026. No macro, syntax, notation, axiom, sorry.
-/
import Derived.Test.YtpdlnbomjknhiaaChecked
import GoSem.Claim
import GoSem.ClaimJoined
import GoSem.ClaimMapViews
import Derived.JoinedTies
import Derived.KernelRfl
namespace Go.Proofs.Ytpdlnbomjknhiaa
/- THE CELL 'sum', in the pinned program and in every row, IS THE sha256 OF THE DUMP (.gsa) THAT YtpdlnbomjknhiaaProg.lean LOADS. Nothing in Lean hashes anything: it is a label: what it is worth is what the hold of that sum in a sandbox is worth. -/
noncomputable def Try.pinned : Pinned := { name := "ytpdlnbomjknhiaa", sum := "954eae2175687da942914a50aff0d3a6818bc6c6882ab1335ec7eeae916ee04c", checked := Try.checked }
namespace Rows
def none {H : Type} : Left H := { results := [], args := [] }

/-- 'sheavelaw07.BoundPlaces': WHATEVER THE INPUT: true; the input reads as it did. -/
def boundPlacesSpec : ChangeSpec := { name := "boundPlaces", fn := fun _ => fun
  | [d1, d2] => { results := [.lit (.bool true)], args := [d1, d2] }
  | _ => none }
def boundPlacesRow : OpenClaim := { program := "ytpdlnbomjknhiaa", sum := "954eae2175687da942914a50aff0d3a6818bc6c6882ab1335ec7eeae916ee04c", func := "sheave/sheavelaw07.BoundPlaces", spec := "boundPlaces", unfollowed := true, recurses := true, apart := false }
def BoundPlacesSaid : Prop := boundPlacesRow.holds Try.pinned (OpenSpec.ofChange boundPlacesSpec)

/-- ITS FALSE NEIGHBOUR: 'it returns false'. Refute it at one input. -/
def boundPlacesWrong : ChangeSpec := { name := "boundPlaces", fn := fun _ => fun
  | [d1, d2] => { results := [.lit (.bool false)], args := [d1, d2] }
  | _ => none }
def BoundPlacesWrongFalsely : Prop := boundPlacesRow.holds Try.pinned (OpenSpec.ofChange boundPlacesWrong)

/-- 'sheavelaw07.BoundCuts': WHATEVER THE INPUT: true; the input reads as it did. -/
def boundCutsSpec : ChangeSpec := { name := "boundCuts", fn := fun _ => fun
  | [d1, d2] => { results := [.lit (.bool true)], args := [d1, d2] }
  | _ => none }
def boundCutsRow : OpenClaim := { program := "ytpdlnbomjknhiaa", sum := "954eae2175687da942914a50aff0d3a6818bc6c6882ab1335ec7eeae916ee04c", func := "sheave/sheavelaw07.BoundCuts", spec := "boundCuts", unfollowed := true, recurses := true, apart := false }
def BoundCutsSaid : Prop := boundCutsRow.holds Try.pinned (OpenSpec.ofChange boundCutsSpec)

/-- ITS FALSE NEIGHBOUR: 'it returns false'. Refute it at one input. -/
def boundCutsWrong : ChangeSpec := { name := "boundCuts", fn := fun _ => fun
  | [d1, d2] => { results := [.lit (.bool false)], args := [d1, d2] }
  | _ => none }
def BoundCutsWrongFalsely : Prop := boundCutsRow.holds Try.pinned (OpenSpec.ofChange boundCutsWrong)

/-- 'sheavelaw07.BoundWhole': WHATEVER THE INPUT: true; the input reads as it did. -/
def boundWholeSpec : ChangeSpec := { name := "boundWhole", fn := fun _ => fun
  | [d1, d2] => { results := [.lit (.bool true)], args := [d1, d2] }
  | _ => none }
def boundWholeRow : OpenClaim := { program := "ytpdlnbomjknhiaa", sum := "954eae2175687da942914a50aff0d3a6818bc6c6882ab1335ec7eeae916ee04c", func := "sheave/sheavelaw07.BoundWhole", spec := "boundWhole", unfollowed := true, recurses := true, apart := false }
def BoundWholeSaid : Prop := boundWholeRow.holds Try.pinned (OpenSpec.ofChange boundWholeSpec)

/-- ITS FALSE NEIGHBOUR: 'it returns false'. Refute it at one input. -/
def boundWholeWrong : ChangeSpec := { name := "boundWhole", fn := fun _ => fun
  | [d1, d2] => { results := [.lit (.bool false)], args := [d1, d2] }
  | _ => none }
def BoundWholeWrongFalsely : Prop := boundWholeRow.holds Try.pinned (OpenSpec.ofChange boundWholeWrong)

/-- 'sheavelaw07.BoundWays': WHATEVER THE INPUT: true; the input reads as it did. -/
def boundWaysSpec : ChangeSpec := { name := "boundWays", fn := fun _ => fun
  | [d] => { results := [.lit (.bool true)], args := [d] }
  | _ => none }
def boundWaysRow : OpenClaim := { program := "ytpdlnbomjknhiaa", sum := "954eae2175687da942914a50aff0d3a6818bc6c6882ab1335ec7eeae916ee04c", func := "sheave/sheavelaw07.BoundWays", spec := "boundWays", unfollowed := true, recurses := true, apart := false }
def BoundWaysSaid : Prop := boundWaysRow.holds Try.pinned (OpenSpec.ofChange boundWaysSpec)

/-- ITS FALSE NEIGHBOUR: 'it returns false'. Refute it at one input. -/
def boundWaysWrong : ChangeSpec := { name := "boundWays", fn := fun _ => fun
  | [d] => { results := [.lit (.bool false)], args := [d] }
  | _ => none }
def BoundWaysWrongFalsely : Prop := boundWaysRow.holds Try.pinned (OpenSpec.ofChange boundWaysWrong)

/- THE SECOND FORM. 'bulk': how many values and letters a reading holds, each counted each time it is reached (what is shared counts as often as it is met; a slice's spare places count too). A statement '..UptoSaid' is the law's where the arguments, and the package variables that the reading takes, are together of bulk at most 1048576: NARROWER than '..Said'. Prove '..Said' where nothing that the law and all that it calls make is longer than what came in: it says more and counts as full. Else prove '..UptoSaid'. A law counts once. -/
mutual
def uptoBulk {H : Type} : DataW H → Nat
  | .lit (.string bytes) => bytes.length + 1
  | .lit _ => 1
  | .nil => 1
  | .ptr d => uptoBulk d + 1
  | .slice elems spare => uptoBulkAll elems + uptoBulkAll spare + 1
  | .agg parts => uptoBulkAll parts + 1
  | .iface _ d => uptoBulk d + 1
  | .map entries => uptoBulkEntries entries + 1
  | .held _ => 1
def uptoBulkAll {H : Type} : List (DataW H) → Nat
  | [] => 0
  | d :: r => uptoBulk d + uptoBulkAll r
def uptoBulkEntries {H : Type} : List (Lit × DataW H) → Nat
  | [] => 0
  | x :: r => uptoBulkEntry x + uptoBulkEntries r
def uptoBulkEntry {H : Type} : Lit × DataW H → Nat
  | (.string bytes, d) => bytes.length + uptoBulk d + 1
  | (_, d) => uptoBulk d + 1
 end
def uptoSmall : (H : Type) → List (DataW H) → Bool := fun _ ds => decide (uptoBulkAll ds ≤ 1048576)
def OpenSpec.upto (s : _root_.Go.ChangeSpec) : _root_.Go.OpenSpec := { _root_.Go.OpenSpec.ofChange s with cond := some uptoSmall }

/-- 'sheavelaw07.BoundPlaces', WHERE WHAT IT READS IS OF BULK AT MOST 1048576: true; the input reads as it did. -/
def boundPlacesUptoRow : OpenClaim := { program := "ytpdlnbomjknhiaa", sum := "954eae2175687da942914a50aff0d3a6818bc6c6882ab1335ec7eeae916ee04c", func := "sheave/sheavelaw07.BoundPlaces", spec := "boundPlaces", unfollowed := true, recurses := true, apart := false, narrowed := true }
def BoundPlacesUptoSaid : Prop := boundPlacesUptoRow.holds Try.pinned (OpenSpec.upto boundPlacesSpec)

/-- 'sheavelaw07.BoundCuts', WHERE WHAT IT READS IS OF BULK AT MOST 1048576: true; the input reads as it did. -/
def boundCutsUptoRow : OpenClaim := { program := "ytpdlnbomjknhiaa", sum := "954eae2175687da942914a50aff0d3a6818bc6c6882ab1335ec7eeae916ee04c", func := "sheave/sheavelaw07.BoundCuts", spec := "boundCuts", unfollowed := true, recurses := true, apart := false, narrowed := true }
def BoundCutsUptoSaid : Prop := boundCutsUptoRow.holds Try.pinned (OpenSpec.upto boundCutsSpec)

/-- 'sheavelaw07.BoundWhole', WHERE WHAT IT READS IS OF BULK AT MOST 1048576: true; the input reads as it did. -/
def boundWholeUptoRow : OpenClaim := { program := "ytpdlnbomjknhiaa", sum := "954eae2175687da942914a50aff0d3a6818bc6c6882ab1335ec7eeae916ee04c", func := "sheave/sheavelaw07.BoundWhole", spec := "boundWhole", unfollowed := true, recurses := true, apart := false, narrowed := true }
def BoundWholeUptoSaid : Prop := boundWholeUptoRow.holds Try.pinned (OpenSpec.upto boundWholeSpec)

/-- 'sheavelaw07.BoundWays', WHERE WHAT IT READS IS OF BULK AT MOST 1048576: true; the input reads as it did. -/
def boundWaysUptoRow : OpenClaim := { program := "ytpdlnbomjknhiaa", sum := "954eae2175687da942914a50aff0d3a6818bc6c6882ab1335ec7eeae916ee04c", func := "sheave/sheavelaw07.BoundWays", spec := "boundWays", unfollowed := true, recurses := true, apart := false, narrowed := true }
def BoundWaysUptoSaid : Prop := boundWaysUptoRow.holds Try.pinned (OpenSpec.upto boundWaysSpec)

end Rows
end Go.Proofs.Ytpdlnbomjknhiaa
