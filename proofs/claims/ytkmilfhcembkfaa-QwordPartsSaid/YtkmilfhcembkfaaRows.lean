/-
  No cell of these rows narrows 'for every input' (looked for: loops, veiled, ifaces, maps, wideKeys, modest, calm, conditions, laid).
  DERIVED. THE GIVEN ROWS OF THIS SEAT. 4 by the template 'for every input the law returns true; each argument reads behind the call as it read before'; 0 by the template 'total and deterministic' (their statements: YtkmilfhcembkfaaTotals.lean).
  GIVEN WITH THE SEED: the statements are not yours to turn. If you find one false, say at which input.
  Laid BY PROGRAM, IN A SANDBOX (cutbox-rows.mjs): the forced cells as the released guide's own fill.sh prints them over the translation e4c49920e4321a3c… (all of the seat's roots in one cut). By AI agents, Wed Nov 11 2026. No macro, syntax, notation, axiom, sorry.
-/
import Derived.Test.YtkmilfhcembkfaaChecked
import GoSem.Claim
import GoSem.ClaimJoined
import GoSem.ClaimMapViews
import Derived.JoinedTies
import Derived.KernelRfl
namespace Go.Proofs.Ytkmilfhcembkfaa
/- THE CELL 'sum', in the pinned program and in every row, IS THE sha256 OF THE DUMP (.gsa) THAT YtkmilfhcembkfaaProg.lean LOADS. Nothing in Lean hashes anything: it is a label: what it is worth is what the hold of that sum in a sandbox is worth. -/
noncomputable def Try.pinned : Pinned := { name := "ytkmilfhcembkfaa", sum := "e4c49920e4321a3c31a85c7ef3693290b89305da8efe0351ece162e20593e35b", checked := Try.checked }
namespace Rows
def none {H : Type} : Left H := { results := [], args := [] }

/-- 'sheavelaw20.QwordLays': WHATEVER THE INPUT: true; the input reads as it did. -/
def qwordLaysSpec : ChangeSpec := { name := "qwordLays", fn := fun _ => fun
  | [d1, d2] => { results := [.lit (.bool true)], args := [d1, d2] }
  | _ => none }
def qwordLaysRow : OpenClaim := { program := "ytkmilfhcembkfaa", sum := "e4c49920e4321a3c31a85c7ef3693290b89305da8efe0351ece162e20593e35b", func := "sheave/sheavelaw20.QwordLays", spec := "qwordLays", inPlace := ["internal/bytealg.IndexByteString"], apart := false }
def QwordLaysSaid : Prop := qwordLaysRow.holds Try.pinned (OpenSpec.ofChange qwordLaysSpec)

/-- ITS FALSE NEIGHBOUR: 'it returns false'. Refute it at one input. -/
def qwordLaysWrong : ChangeSpec := { name := "qwordLays", fn := fun _ => fun
  | [d1, d2] => { results := [.lit (.bool false)], args := [d1, d2] }
  | _ => none }
def QwordLaysWrongFalsely : Prop := qwordLaysRow.holds Try.pinned (OpenSpec.ofChange qwordLaysWrong)

/-- 'sheavelaw20.QwordReads': WHATEVER THE INPUT: true; the input reads as it did. -/
def qwordReadsSpec : ChangeSpec := { name := "qwordReads", fn := fun _ => fun
  | [d] => { results := [.lit (.bool true)], args := [d] }
  | _ => none }
def qwordReadsRow : OpenClaim := { program := "ytkmilfhcembkfaa", sum := "e4c49920e4321a3c31a85c7ef3693290b89305da8efe0351ece162e20593e35b", func := "sheave/sheavelaw20.QwordReads", spec := "qwordReads", inPlace := ["internal/bytealg.IndexByteString"], apart := false }
def QwordReadsSaid : Prop := qwordReadsRow.holds Try.pinned (OpenSpec.ofChange qwordReadsSpec)

/-- ITS FALSE NEIGHBOUR: 'it returns false'. Refute it at one input. -/
def qwordReadsWrong : ChangeSpec := { name := "qwordReads", fn := fun _ => fun
  | [d] => { results := [.lit (.bool false)], args := [d] }
  | _ => none }
def QwordReadsWrongFalsely : Prop := qwordReadsRow.holds Try.pinned (OpenSpec.ofChange qwordReadsWrong)

/-- 'sheavelaw20.QwordBack': WHATEVER THE INPUT: true; the input reads as it did. -/
def qwordBackSpec : ChangeSpec := { name := "qwordBack", fn := fun _ => fun
  | [d] => { results := [.lit (.bool true)], args := [d] }
  | _ => none }
def qwordBackRow : OpenClaim := { program := "ytkmilfhcembkfaa", sum := "e4c49920e4321a3c31a85c7ef3693290b89305da8efe0351ece162e20593e35b", func := "sheave/sheavelaw20.QwordBack", spec := "qwordBack", inPlace := ["internal/bytealg.IndexByteString"], apart := false }
def QwordBackSaid : Prop := qwordBackRow.holds Try.pinned (OpenSpec.ofChange qwordBackSpec)

/-- ITS FALSE NEIGHBOUR: 'it returns false'. Refute it at one input. -/
def qwordBackWrong : ChangeSpec := { name := "qwordBack", fn := fun _ => fun
  | [d] => { results := [.lit (.bool false)], args := [d] }
  | _ => none }
def QwordBackWrongFalsely : Prop := qwordBackRow.holds Try.pinned (OpenSpec.ofChange qwordBackWrong)

/-- 'sheavelaw20.QwordParts': WHATEVER THE INPUT: true; the input reads as it did. -/
def qwordPartsSpec : ChangeSpec := { name := "qwordParts", fn := fun _ => fun
  | [d1, d2] => { results := [.lit (.bool true)], args := [d1, d2] }
  | _ => none }
def qwordPartsRow : OpenClaim := { program := "ytkmilfhcembkfaa", sum := "e4c49920e4321a3c31a85c7ef3693290b89305da8efe0351ece162e20593e35b", func := "sheave/sheavelaw20.QwordParts", spec := "qwordParts", inPlace := ["internal/bytealg.IndexByteString"], apart := false }
def QwordPartsSaid : Prop := qwordPartsRow.holds Try.pinned (OpenSpec.ofChange qwordPartsSpec)

/-- ITS FALSE NEIGHBOUR: 'it returns false'. Refute it at one input. -/
def qwordPartsWrong : ChangeSpec := { name := "qwordParts", fn := fun _ => fun
  | [d1, d2] => { results := [.lit (.bool false)], args := [d1, d2] }
  | _ => none }
def QwordPartsWrongFalsely : Prop := qwordPartsRow.holds Try.pinned (OpenSpec.ofChange qwordPartsWrong)

/- THE SECOND FORM. 'bulk': how many values and letters a reading holds, each counted each time it is reached (what is shared counts as often as it is met; a slice's spare places count too). A statement '..UptoSaid' is the law's where the arguments, and the package variables that the reading takes, are together of bulk at most 1048576: NARROWER than '..Said'. Prove '..Said' where nothing that the law and all that it calls make is longer than what came in: it says more and counts as full. Else prove '..UptoSaid'. A law counts once. -/
mutual
def uptoBulk {H : Type} : DataW H → Nat
  | .lit (.string bytes) => bytes.length + 1
  | .lit _ => 1
  | .nil => 1
  | .ptr d => uptoBulk d + 1
  | .slice elems spare => uptoBulkAll elems + uptoBulkAll spare + 1
  | .agg parts => uptoBulkAll parts + 1
  | .iface _ d => uptoBulk d + 1
  | .map entries => uptoBulkEntries entries + 1
  | .held _ => 1
def uptoBulkAll {H : Type} : List (DataW H) → Nat
  | [] => 0
  | d :: r => uptoBulk d + uptoBulkAll r
def uptoBulkEntries {H : Type} : List (Lit × DataW H) → Nat
  | [] => 0
  | x :: r => uptoBulkEntry x + uptoBulkEntries r
def uptoBulkEntry {H : Type} : Lit × DataW H → Nat
  | (.string bytes, d) => bytes.length + uptoBulk d + 1
  | (_, d) => uptoBulk d + 1
 end
def uptoSmall : (H : Type) → List (DataW H) → Bool := fun _ ds => decide (uptoBulkAll ds ≤ 1048576)
def OpenSpec.upto (s : _root_.Go.ChangeSpec) : _root_.Go.OpenSpec := { _root_.Go.OpenSpec.ofChange s with cond := some uptoSmall }

/-- 'sheavelaw20.QwordLays', WHERE WHAT IT READS IS OF BULK AT MOST 1048576: true; the input reads as it did. -/
def qwordLaysUptoRow : OpenClaim := { program := "ytkmilfhcembkfaa", sum := "e4c49920e4321a3c31a85c7ef3693290b89305da8efe0351ece162e20593e35b", func := "sheave/sheavelaw20.QwordLays", spec := "qwordLays", inPlace := ["internal/bytealg.IndexByteString"], apart := false, narrowed := true }
def QwordLaysUptoSaid : Prop := qwordLaysUptoRow.holds Try.pinned (OpenSpec.upto qwordLaysSpec)

/-- 'sheavelaw20.QwordReads', WHERE WHAT IT READS IS OF BULK AT MOST 1048576: true; the input reads as it did. -/
def qwordReadsUptoRow : OpenClaim := { program := "ytkmilfhcembkfaa", sum := "e4c49920e4321a3c31a85c7ef3693290b89305da8efe0351ece162e20593e35b", func := "sheave/sheavelaw20.QwordReads", spec := "qwordReads", inPlace := ["internal/bytealg.IndexByteString"], apart := false, narrowed := true }
def QwordReadsUptoSaid : Prop := qwordReadsUptoRow.holds Try.pinned (OpenSpec.upto qwordReadsSpec)

/-- 'sheavelaw20.QwordBack', WHERE WHAT IT READS IS OF BULK AT MOST 1048576: true; the input reads as it did. -/
def qwordBackUptoRow : OpenClaim := { program := "ytkmilfhcembkfaa", sum := "e4c49920e4321a3c31a85c7ef3693290b89305da8efe0351ece162e20593e35b", func := "sheave/sheavelaw20.QwordBack", spec := "qwordBack", inPlace := ["internal/bytealg.IndexByteString"], apart := false, narrowed := true }
def QwordBackUptoSaid : Prop := qwordBackUptoRow.holds Try.pinned (OpenSpec.upto qwordBackSpec)

/-- 'sheavelaw20.QwordParts', WHERE WHAT IT READS IS OF BULK AT MOST 1048576: true; the input reads as it did. -/
def qwordPartsUptoRow : OpenClaim := { program := "ytkmilfhcembkfaa", sum := "e4c49920e4321a3c31a85c7ef3693290b89305da8efe0351ece162e20593e35b", func := "sheave/sheavelaw20.QwordParts", spec := "qwordParts", inPlace := ["internal/bytealg.IndexByteString"], apart := false, narrowed := true }
def QwordPartsUptoSaid : Prop := qwordPartsUptoRow.holds Try.pinned (OpenSpec.upto qwordPartsSpec)

end Rows
end Go.Proofs.Ytkmilfhcembkfaa
