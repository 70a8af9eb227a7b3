/-
  No cell of these rows narrows 'for every input' (looked for: loops, veiled, ifaces, maps, wideKeys, modest, calm, conditions, laid).
  DERIVED. THE GIVEN ROWS OF THIS SEAT. 3 by the template 'for every input the law returns true; each argument reads behind the call as it read before'; 0 by the template 'total and deterministic' (their statements: YtglhjamfbaidoaaTotals.lean).
  GIVEN WITH THE SEED: the statements are not yours to turn. If you find one false, say at which input.
  Laid BY PROGRAM, IN A SANDBOX (cutbox-rows.mjs): the forced cells as the released guide's own fill.sh prints them over the translation 1040ab1ad79d9660… (all of the seat's roots in one cut). By AI agents, Wed Nov 11 2026. No macro, syntax, notation, axiom, sorry.
-/
import Derived.Test.YtglhjamfbaidoaaChecked
import GoSem.Claim
import GoSem.ClaimJoined
import GoSem.ClaimMapViews
import Derived.JoinedTies
import Derived.KernelRfl
namespace Go.Proofs.Ytglhjamfbaidoaa
/- THE CELL 'sum', in the pinned program and in every row, IS THE sha256 OF THE DUMP (.gsa) THAT YtglhjamfbaidoaaProg.lean LOADS. Nothing in Lean hashes anything: it is a label: what it is worth is what the hold of that sum in a sandbox is worth. -/
noncomputable def Try.pinned : Pinned := { name := "ytglhjamfbaidoaa", sum := "1040ab1ad79d96606960d592c98d0b8f2bcbcda49a20ac54492b4b62a7d1a5ca", checked := Try.checked }
namespace Rows
def none {H : Type} : Left H := { results := [], args := [] }

/-- 'sheavelaw15.BlooseReads': WHATEVER THE INPUT: true; the input reads as it did. -/
def blooseReadsSpec : ChangeSpec := { name := "blooseReads", fn := fun _ => fun
  | [d] => { results := [.lit (.bool true)], args := [d] }
  | _ => none }
def blooseReadsRow : OpenClaim := { program := "ytglhjamfbaidoaa", sum := "1040ab1ad79d96606960d592c98d0b8f2bcbcda49a20ac54492b4b62a7d1a5ca", func := "sheave/sheavelaw15.BlooseReads", spec := "blooseReads", inPlace := ["internal/bytealg.IndexByte", "internal/bytealg.Index", "internal/bytealg.IndexByteString"], unfollowed := true, recurses := true, named := ["internal/bytealg.MaxLen"], apart := false }
def BlooseReadsSaid : Prop := blooseReadsRow.holds Try.pinned (OpenSpec.ofChange blooseReadsSpec)

/-- ITS FALSE NEIGHBOUR: 'it returns false'. Refute it at one input. -/
def blooseReadsWrong : ChangeSpec := { name := "blooseReads", fn := fun _ => fun
  | [d] => { results := [.lit (.bool false)], args := [d] }
  | _ => none }
def BlooseReadsWrongFalsely : Prop := blooseReadsRow.holds Try.pinned (OpenSpec.ofChange blooseReadsWrong)

/-- 'sheavelaw15.BlooseStrict': WHATEVER THE INPUT: true; the input reads as it did. -/
def blooseStrictSpec : ChangeSpec := { name := "blooseStrict", fn := fun _ => fun
  | [d] => { results := [.lit (.bool true)], args := [d] }
  | _ => none }
def blooseStrictRow : OpenClaim := { program := "ytglhjamfbaidoaa", sum := "1040ab1ad79d96606960d592c98d0b8f2bcbcda49a20ac54492b4b62a7d1a5ca", func := "sheave/sheavelaw15.BlooseStrict", spec := "blooseStrict", inPlace := ["internal/bytealg.IndexByte", "internal/bytealg.Index", "internal/bytealg.IndexByteString"], unfollowed := true, recurses := true, named := ["internal/bytealg.MaxLen"], apart := false }
def BlooseStrictSaid : Prop := blooseStrictRow.holds Try.pinned (OpenSpec.ofChange blooseStrictSpec)

/-- ITS FALSE NEIGHBOUR: 'it returns false'. Refute it at one input. -/
def blooseStrictWrong : ChangeSpec := { name := "blooseStrict", fn := fun _ => fun
  | [d] => { results := [.lit (.bool false)], args := [d] }
  | _ => none }
def BlooseStrictWrongFalsely : Prop := blooseStrictRow.holds Try.pinned (OpenSpec.ofChange blooseStrictWrong)

/-- 'sheavelaw15.BlooseBetween': WHATEVER THE INPUT: true; the input reads as it did. -/
def blooseBetweenSpec : ChangeSpec := { name := "blooseBetween", fn := fun _ => fun
  | [d1, d2, d3] => { results := [.lit (.bool true)], args := [d1, d2, d3] }
  | _ => none }
def blooseBetweenRow : OpenClaim := { program := "ytglhjamfbaidoaa", sum := "1040ab1ad79d96606960d592c98d0b8f2bcbcda49a20ac54492b4b62a7d1a5ca", func := "sheave/sheavelaw15.BlooseBetween", spec := "blooseBetween", inPlace := ["internal/bytealg.IndexByte", "internal/bytealg.Index", "internal/bytealg.IndexByteString"], unfollowed := true, recurses := true, named := ["internal/bytealg.MaxLen"], apart := false }
def BlooseBetweenSaid : Prop := blooseBetweenRow.holds Try.pinned (OpenSpec.ofChange blooseBetweenSpec)

/-- ITS FALSE NEIGHBOUR: 'it returns false'. Refute it at one input. -/
def blooseBetweenWrong : ChangeSpec := { name := "blooseBetween", fn := fun _ => fun
  | [d1, d2, d3] => { results := [.lit (.bool false)], args := [d1, d2, d3] }
  | _ => none }
def BlooseBetweenWrongFalsely : Prop := blooseBetweenRow.holds Try.pinned (OpenSpec.ofChange blooseBetweenWrong)

/- THE SECOND FORM. 'bulk': how many values and letters a reading holds, each counted each time it is reached (what is shared counts as often as it is met; a slice's spare places count too). A statement '..UptoSaid' is the law's where the arguments, and the package variables that the reading takes, are together of bulk at most 1048576: NARROWER than '..Said'. Prove '..Said' where nothing that the law and all that it calls make is longer than what came in: it says more and counts as full. Else prove '..UptoSaid'. A law counts once. -/
mutual
def uptoBulk {H : Type} : DataW H → Nat
  | .lit (.string bytes) => bytes.length + 1
  | .lit _ => 1
  | .nil => 1
  | .ptr d => uptoBulk d + 1
  | .slice elems spare => uptoBulkAll elems + uptoBulkAll spare + 1
  | .agg parts => uptoBulkAll parts + 1
  | .iface _ d => uptoBulk d + 1
  | .map entries => uptoBulkEntries entries + 1
  | .held _ => 1
def uptoBulkAll {H : Type} : List (DataW H) → Nat
  | [] => 0
  | d :: r => uptoBulk d + uptoBulkAll r
def uptoBulkEntries {H : Type} : List (Lit × DataW H) → Nat
  | [] => 0
  | x :: r => uptoBulkEntry x + uptoBulkEntries r
def uptoBulkEntry {H : Type} : Lit × DataW H → Nat
  | (.string bytes, d) => bytes.length + uptoBulk d + 1
  | (_, d) => uptoBulk d + 1
 end
def uptoSmall : (H : Type) → List (DataW H) → Bool := fun _ ds => decide (uptoBulkAll ds ≤ 1048576)
def OpenSpec.upto (s : _root_.Go.ChangeSpec) : _root_.Go.OpenSpec := { _root_.Go.OpenSpec.ofChange s with cond := some uptoSmall }

/-- 'sheavelaw15.BlooseReads', WHERE WHAT IT READS IS OF BULK AT MOST 1048576: true; the input reads as it did. -/
def blooseReadsUptoRow : OpenClaim := { program := "ytglhjamfbaidoaa", sum := "1040ab1ad79d96606960d592c98d0b8f2bcbcda49a20ac54492b4b62a7d1a5ca", func := "sheave/sheavelaw15.BlooseReads", spec := "blooseReads", inPlace := ["internal/bytealg.IndexByte", "internal/bytealg.Index", "internal/bytealg.IndexByteString"], unfollowed := true, recurses := true, named := ["internal/bytealg.MaxLen"], apart := false, narrowed := true }
def BlooseReadsUptoSaid : Prop := blooseReadsUptoRow.holds Try.pinned (OpenSpec.upto blooseReadsSpec)

/-- 'sheavelaw15.BlooseStrict', WHERE WHAT IT READS IS OF BULK AT MOST 1048576: true; the input reads as it did. -/
def blooseStrictUptoRow : OpenClaim := { program := "ytglhjamfbaidoaa", sum := "1040ab1ad79d96606960d592c98d0b8f2bcbcda49a20ac54492b4b62a7d1a5ca", func := "sheave/sheavelaw15.BlooseStrict", spec := "blooseStrict", inPlace := ["internal/bytealg.IndexByte", "internal/bytealg.Index", "internal/bytealg.IndexByteString"], unfollowed := true, recurses := true, named := ["internal/bytealg.MaxLen"], apart := false, narrowed := true }
def BlooseStrictUptoSaid : Prop := blooseStrictUptoRow.holds Try.pinned (OpenSpec.upto blooseStrictSpec)

/-- 'sheavelaw15.BlooseBetween', WHERE WHAT IT READS IS OF BULK AT MOST 1048576: true; the input reads as it did. -/
def blooseBetweenUptoRow : OpenClaim := { program := "ytglhjamfbaidoaa", sum := "1040ab1ad79d96606960d592c98d0b8f2bcbcda49a20ac54492b4b62a7d1a5ca", func := "sheave/sheavelaw15.BlooseBetween", spec := "blooseBetween", inPlace := ["internal/bytealg.IndexByte", "internal/bytealg.Index", "internal/bytealg.IndexByteString"], unfollowed := true, recurses := true, named := ["internal/bytealg.MaxLen"], apart := false, narrowed := true }
def BlooseBetweenUptoSaid : Prop := blooseBetweenUptoRow.holds Try.pinned (OpenSpec.upto blooseBetweenSpec)

end Rows
end Go.Proofs.Ytglhjamfbaidoaa
