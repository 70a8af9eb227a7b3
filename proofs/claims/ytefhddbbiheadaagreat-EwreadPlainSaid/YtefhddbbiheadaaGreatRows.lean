/-
  No cell of these rows narrows 'for every input' (looked for: loops, veiled, ifaces, maps, wideKeys, modest, calm, conditions, laid).
  DERIVED. THE GIVEN ROWS OF THIS SEAT. 4 by the template 'for every input the law returns true; each argument reads behind the call as it read before'; 0 by the template 'total and deterministic' (their statements: YtefhddbbiheadaaGreatTotals.lean).
  GIVEN WITH THE SEED: the statements are not yours to turn. If you find one false, say at which input.
  Laid BY PROGRAM, IN A SANDBOX (cutbox-rows.mjs): the forced cells as the released guide's own fill.sh prints them over the translation 09f99d93d72d52e8… (all of the seat's roots in one cut). By AI agents, Wed Nov 11 2026. No macro, syntax, notation, axiom, sorry.
-/
import Derived.Test.YtefhddbbiheadaaGreatChecked
import GoSem.Claim
import GoSem.ClaimJoined
import GoSem.ClaimMapViews
import Derived.JoinedTies
import Derived.KernelRfl
namespace Go.Proofs.YtefhddbbiheadaaGreat
/- THE CELL 'sum', in the pinned program and in every row, IS THE sha256 OF THE DUMP (.gsa) THAT YtefhddbbiheadaaGreatProg.lean LOADS. Nothing in Lean hashes anything: it is a label: what it is worth is what the hold of that sum in a sandbox is worth. -/
noncomputable def Tryz.pinned : Pinned := { name := "ytefhddbbiheadaagreat", sum := "09f99d93d72d52e88a0e465ad8d003ff2df6eab06984d4f37d97ee7d9b33791a", checked := Tryz.checked }
namespace Rows
def none {H : Type} : Left H := { results := [], args := [] }

/-- 'sheavelaw33.EwreadReads': WHATEVER THE INPUT: true; the input reads as it did. -/
def ewreadReadsSpec : ChangeSpec := { name := "ewreadReads", fn := fun _ => fun
  | [d] => { results := [.lit (.bool true)], args := [d] }
  | _ => none }
def ewreadReadsRow : OpenClaim := { program := "ytefhddbbiheadaagreat", sum := "09f99d93d72d52e88a0e465ad8d003ff2df6eab06984d4f37d97ee7d9b33791a", func := "sheave/sheavelaw33.EwreadReads", spec := "ewreadReads", inPlace := ["internal/bytealg.IndexByteString", "internal/bytealg.IndexByte", "internal/bytealg.Index"], unfollowed := true, recurses := true, named := ["internal/bytealg.MaxLen"], apart := false }
def EwreadReadsSaid : Prop := ewreadReadsRow.holds Tryz.pinned (OpenSpec.ofChange ewreadReadsSpec)

/-- ITS FALSE NEIGHBOUR: 'it returns false'. Refute it at one input. -/
def ewreadReadsWrong : ChangeSpec := { name := "ewreadReads", fn := fun _ => fun
  | [d] => { results := [.lit (.bool false)], args := [d] }
  | _ => none }
def EwreadReadsWrongFalsely : Prop := ewreadReadsRow.holds Tryz.pinned (OpenSpec.ofChange ewreadReadsWrong)

/-- 'sheavelaw33.EwreadParts': WHATEVER THE INPUT: true; the input reads as it did. -/
def ewreadPartsSpec : ChangeSpec := { name := "ewreadParts", fn := fun _ => fun
  | [d] => { results := [.lit (.bool true)], args := [d] }
  | _ => none }
def ewreadPartsRow : OpenClaim := { program := "ytefhddbbiheadaagreat", sum := "09f99d93d72d52e88a0e465ad8d003ff2df6eab06984d4f37d97ee7d9b33791a", func := "sheave/sheavelaw33.EwreadParts", spec := "ewreadParts", inPlace := ["internal/bytealg.IndexByteString", "internal/bytealg.IndexByte", "internal/bytealg.Index"], unfollowed := true, recurses := true, named := ["internal/bytealg.MaxLen"], apart := false }
def EwreadPartsSaid : Prop := ewreadPartsRow.holds Tryz.pinned (OpenSpec.ofChange ewreadPartsSpec)

/-- ITS FALSE NEIGHBOUR: 'it returns false'. Refute it at one input. -/
def ewreadPartsWrong : ChangeSpec := { name := "ewreadParts", fn := fun _ => fun
  | [d] => { results := [.lit (.bool false)], args := [d] }
  | _ => none }
def EwreadPartsWrongFalsely : Prop := ewreadPartsRow.holds Tryz.pinned (OpenSpec.ofChange ewreadPartsWrong)

/-- 'sheavelaw33.EwreadShort': WHATEVER THE INPUT: true; the input reads as it did. -/
def ewreadShortSpec : ChangeSpec := { name := "ewreadShort", fn := fun _ => fun
  | [d] => { results := [.lit (.bool true)], args := [d] }
  | _ => none }
def ewreadShortRow : OpenClaim := { program := "ytefhddbbiheadaagreat", sum := "09f99d93d72d52e88a0e465ad8d003ff2df6eab06984d4f37d97ee7d9b33791a", func := "sheave/sheavelaw33.EwreadShort", spec := "ewreadShort", inPlace := ["internal/bytealg.IndexByteString", "internal/bytealg.IndexByte", "internal/bytealg.Index"], unfollowed := true, recurses := true, named := ["internal/bytealg.MaxLen"], apart := false }
def EwreadShortSaid : Prop := ewreadShortRow.holds Tryz.pinned (OpenSpec.ofChange ewreadShortSpec)

/-- ITS FALSE NEIGHBOUR: 'it returns false'. Refute it at one input. -/
def ewreadShortWrong : ChangeSpec := { name := "ewreadShort", fn := fun _ => fun
  | [d] => { results := [.lit (.bool false)], args := [d] }
  | _ => none }
def EwreadShortWrongFalsely : Prop := ewreadShortRow.holds Tryz.pinned (OpenSpec.ofChange ewreadShortWrong)

/-- 'sheavelaw33.EwreadPlain': WHATEVER THE INPUT: true; the input reads as it did. -/
def ewreadPlainSpec : ChangeSpec := { name := "ewreadPlain", fn := fun _ => fun
  | [d] => { results := [.lit (.bool true)], args := [d] }
  | _ => none }
def ewreadPlainRow : OpenClaim := { program := "ytefhddbbiheadaagreat", sum := "09f99d93d72d52e88a0e465ad8d003ff2df6eab06984d4f37d97ee7d9b33791a", func := "sheave/sheavelaw33.EwreadPlain", spec := "ewreadPlain", inPlace := ["internal/bytealg.IndexByteString", "internal/bytealg.IndexByte", "internal/bytealg.Index"], unfollowed := true, recurses := true, named := ["internal/bytealg.MaxLen"], apart := false }
def EwreadPlainSaid : Prop := ewreadPlainRow.holds Tryz.pinned (OpenSpec.ofChange ewreadPlainSpec)

/-- ITS FALSE NEIGHBOUR: 'it returns false'. Refute it at one input. -/
def ewreadPlainWrong : ChangeSpec := { name := "ewreadPlain", fn := fun _ => fun
  | [d] => { results := [.lit (.bool false)], args := [d] }
  | _ => none }
def EwreadPlainWrongFalsely : Prop := ewreadPlainRow.holds Tryz.pinned (OpenSpec.ofChange ewreadPlainWrong)

/- THE SECOND FORM. 'bulk': how many values and letters a reading holds, each counted each time it is reached (what is shared counts as often as it is met; a slice's spare places count too). A statement '..UptoSaid' is the law's where the arguments, and the package variables that the reading takes, are together of bulk at most 1048576: NARROWER than '..Said'. Prove '..Said' where nothing that the law and all that it calls make is longer than what came in: it says more and counts as full. Else prove '..UptoSaid'. A law counts once. -/
mutual
def uptoBulk {H : Type} : DataW H → Nat
  | .lit (.string bytes) => bytes.length + 1
  | .lit _ => 1
  | .nil => 1
  | .ptr d => uptoBulk d + 1
  | .slice elems spare => uptoBulkAll elems + uptoBulkAll spare + 1
  | .agg parts => uptoBulkAll parts + 1
  | .iface _ d => uptoBulk d + 1
  | .map entries => uptoBulkEntries entries + 1
  | .held _ => 1
def uptoBulkAll {H : Type} : List (DataW H) → Nat
  | [] => 0
  | d :: r => uptoBulk d + uptoBulkAll r
def uptoBulkEntries {H : Type} : List (Lit × DataW H) → Nat
  | [] => 0
  | x :: r => uptoBulkEntry x + uptoBulkEntries r
def uptoBulkEntry {H : Type} : Lit × DataW H → Nat
  | (.string bytes, d) => bytes.length + uptoBulk d + 1
  | (_, d) => uptoBulk d + 1
 end
def uptoSmall : (H : Type) → List (DataW H) → Bool := fun _ ds => decide (uptoBulkAll ds ≤ 1048576)
def OpenSpec.upto (s : _root_.Go.ChangeSpec) : _root_.Go.OpenSpec := { _root_.Go.OpenSpec.ofChange s with cond := some uptoSmall }

/-- 'sheavelaw33.EwreadReads', WHERE WHAT IT READS IS OF BULK AT MOST 1048576: true; the input reads as it did. -/
def ewreadReadsUptoRow : OpenClaim := { program := "ytefhddbbiheadaagreat", sum := "09f99d93d72d52e88a0e465ad8d003ff2df6eab06984d4f37d97ee7d9b33791a", func := "sheave/sheavelaw33.EwreadReads", spec := "ewreadReads", inPlace := ["internal/bytealg.IndexByteString", "internal/bytealg.IndexByte", "internal/bytealg.Index"], unfollowed := true, recurses := true, named := ["internal/bytealg.MaxLen"], apart := false, narrowed := true }
def EwreadReadsUptoSaid : Prop := ewreadReadsUptoRow.holds Tryz.pinned (OpenSpec.upto ewreadReadsSpec)

/-- 'sheavelaw33.EwreadParts', WHERE WHAT IT READS IS OF BULK AT MOST 1048576: true; the input reads as it did. -/
def ewreadPartsUptoRow : OpenClaim := { program := "ytefhddbbiheadaagreat", sum := "09f99d93d72d52e88a0e465ad8d003ff2df6eab06984d4f37d97ee7d9b33791a", func := "sheave/sheavelaw33.EwreadParts", spec := "ewreadParts", inPlace := ["internal/bytealg.IndexByteString", "internal/bytealg.IndexByte", "internal/bytealg.Index"], unfollowed := true, recurses := true, named := ["internal/bytealg.MaxLen"], apart := false, narrowed := true }
def EwreadPartsUptoSaid : Prop := ewreadPartsUptoRow.holds Tryz.pinned (OpenSpec.upto ewreadPartsSpec)

/-- 'sheavelaw33.EwreadShort', WHERE WHAT IT READS IS OF BULK AT MOST 1048576: true; the input reads as it did. -/
def ewreadShortUptoRow : OpenClaim := { program := "ytefhddbbiheadaagreat", sum := "09f99d93d72d52e88a0e465ad8d003ff2df6eab06984d4f37d97ee7d9b33791a", func := "sheave/sheavelaw33.EwreadShort", spec := "ewreadShort", inPlace := ["internal/bytealg.IndexByteString", "internal/bytealg.IndexByte", "internal/bytealg.Index"], unfollowed := true, recurses := true, named := ["internal/bytealg.MaxLen"], apart := false, narrowed := true }
def EwreadShortUptoSaid : Prop := ewreadShortUptoRow.holds Tryz.pinned (OpenSpec.upto ewreadShortSpec)

/-- 'sheavelaw33.EwreadPlain', WHERE WHAT IT READS IS OF BULK AT MOST 1048576: true; the input reads as it did. -/
def ewreadPlainUptoRow : OpenClaim := { program := "ytefhddbbiheadaagreat", sum := "09f99d93d72d52e88a0e465ad8d003ff2df6eab06984d4f37d97ee7d9b33791a", func := "sheave/sheavelaw33.EwreadPlain", spec := "ewreadPlain", inPlace := ["internal/bytealg.IndexByteString", "internal/bytealg.IndexByte", "internal/bytealg.Index"], unfollowed := true, recurses := true, named := ["internal/bytealg.MaxLen"], apart := false, narrowed := true }
def EwreadPlainUptoSaid : Prop := ewreadPlainUptoRow.holds Tryz.pinned (OpenSpec.upto ewreadPlainSpec)

end Rows
end Go.Proofs.YtefhddbbiheadaaGreat
