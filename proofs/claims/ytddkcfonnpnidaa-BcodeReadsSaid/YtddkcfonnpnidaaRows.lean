/-
  No cell of these rows narrows 'for every input' (looked for: loops, veiled, ifaces, maps, wideKeys, modest, calm, conditions, laid).
  DERIVED. THE GIVEN ROWS OF THIS SEAT. 3 by the template 'for every input the law returns true; each argument reads behind the call as it read before'; 0 by the template 'total and deterministic' (their statements: YtddkcfonnpnidaaTotals.lean).
  GIVEN WITH THE SEED: the statements are not yours to turn. If you find one false, say at which input.
  Laid BY PROGRAM, IN A SANDBOX (cutbox-rows.mjs): the forced cells as the released guide's own fill.sh prints them over the translation 8bf70263fb3beb6d… (all of the seat's roots in one cut). By AI agents, Wed Nov 11 2026. No macro, syntax, notation, axiom, sorry.
-/
import Derived.Test.YtddkcfonnpnidaaChecked
import GoSem.Claim
import GoSem.ClaimJoined
import GoSem.ClaimMapViews
import Derived.JoinedTies
import Derived.KernelRfl
namespace Go.Proofs.Ytddkcfonnpnidaa
/- THE CELL 'sum', in the pinned program and in every row, IS THE sha256 OF THE DUMP (.gsa) THAT YtddkcfonnpnidaaProg.lean LOADS. Nothing in Lean hashes anything: it is a label: what it is worth is what the hold of that sum in a sandbox is worth. -/
noncomputable def Try.pinned : Pinned := { name := "ytddkcfonnpnidaa", sum := "8bf70263fb3beb6d2f69efac9e83d5ddba2e223874ea78c8aa6aa6e6614de4a9", checked := Try.checked }
namespace Rows
def none {H : Type} : Left H := { results := [], args := [] }

/-- 'sheavelaw14.BcodeDigits': WHATEVER THE INPUT: true; the input reads as it did. -/
def bcodeDigitsSpec : ChangeSpec := { name := "bcodeDigits", fn := fun _ => fun
  | [d1, d2] => { results := [.lit (.bool true)], args := [d1, d2] }
  | _ => none }
def bcodeDigitsRow : OpenClaim := { program := "ytddkcfonnpnidaa", sum := "8bf70263fb3beb6d2f69efac9e83d5ddba2e223874ea78c8aa6aa6e6614de4a9", func := "sheave/sheavelaw14.BcodeDigits", spec := "bcodeDigits", inPlace := ["internal/bytealg.IndexByteString"], apart := false }
def BcodeDigitsSaid : Prop := bcodeDigitsRow.holds Try.pinned (OpenSpec.ofChange bcodeDigitsSpec)

/-- ITS FALSE NEIGHBOUR: 'it returns false'. Refute it at one input. -/
def bcodeDigitsWrong : ChangeSpec := { name := "bcodeDigits", fn := fun _ => fun
  | [d1, d2] => { results := [.lit (.bool false)], args := [d1, d2] }
  | _ => none }
def BcodeDigitsWrongFalsely : Prop := bcodeDigitsRow.holds Try.pinned (OpenSpec.ofChange bcodeDigitsWrong)

/-- 'sheavelaw14.BcodeReads': WHATEVER THE INPUT: true; the input reads as it did. -/
def bcodeReadsSpec : ChangeSpec := { name := "bcodeReads", fn := fun _ => fun
  | [d] => { results := [.lit (.bool true)], args := [d] }
  | _ => none }
def bcodeReadsRow : OpenClaim := { program := "ytddkcfonnpnidaa", sum := "8bf70263fb3beb6d2f69efac9e83d5ddba2e223874ea78c8aa6aa6e6614de4a9", func := "sheave/sheavelaw14.BcodeReads", spec := "bcodeReads", inPlace := ["internal/bytealg.IndexByteString"], apart := false }
def BcodeReadsSaid : Prop := bcodeReadsRow.holds Try.pinned (OpenSpec.ofChange bcodeReadsSpec)

/-- ITS FALSE NEIGHBOUR: 'it returns false'. Refute it at one input. -/
def bcodeReadsWrong : ChangeSpec := { name := "bcodeReads", fn := fun _ => fun
  | [d] => { results := [.lit (.bool false)], args := [d] }
  | _ => none }
def BcodeReadsWrongFalsely : Prop := bcodeReadsRow.holds Try.pinned (OpenSpec.ofChange bcodeReadsWrong)

/-- 'sheavelaw14.BcodeBack': WHATEVER THE INPUT: true; the input reads as it did. -/
def bcodeBackSpec : ChangeSpec := { name := "bcodeBack", fn := fun _ => fun
  | [d] => { results := [.lit (.bool true)], args := [d] }
  | _ => none }
def bcodeBackRow : OpenClaim := { program := "ytddkcfonnpnidaa", sum := "8bf70263fb3beb6d2f69efac9e83d5ddba2e223874ea78c8aa6aa6e6614de4a9", func := "sheave/sheavelaw14.BcodeBack", spec := "bcodeBack", inPlace := ["internal/bytealg.IndexByteString"], apart := false }
def BcodeBackSaid : Prop := bcodeBackRow.holds Try.pinned (OpenSpec.ofChange bcodeBackSpec)

/-- ITS FALSE NEIGHBOUR: 'it returns false'. Refute it at one input. -/
def bcodeBackWrong : ChangeSpec := { name := "bcodeBack", fn := fun _ => fun
  | [d] => { results := [.lit (.bool false)], args := [d] }
  | _ => none }
def BcodeBackWrongFalsely : Prop := bcodeBackRow.holds Try.pinned (OpenSpec.ofChange bcodeBackWrong)

/- THE SECOND FORM. 'bulk': how many values and letters a reading holds, each counted each time it is reached (what is shared counts as often as it is met; a slice's spare places count too). A statement '..UptoSaid' is the law's where the arguments, and the package variables that the reading takes, are together of bulk at most 1048576: NARROWER than '..Said'. Prove '..Said' where nothing that the law and all that it calls make is longer than what came in: it says more and counts as full. Else prove '..UptoSaid'. A law counts once. -/
mutual
def uptoBulk {H : Type} : DataW H → Nat
  | .lit (.string bytes) => bytes.length + 1
  | .lit _ => 1
  | .nil => 1
  | .ptr d => uptoBulk d + 1
  | .slice elems spare => uptoBulkAll elems + uptoBulkAll spare + 1
  | .agg parts => uptoBulkAll parts + 1
  | .iface _ d => uptoBulk d + 1
  | .map entries => uptoBulkEntries entries + 1
  | .held _ => 1
def uptoBulkAll {H : Type} : List (DataW H) → Nat
  | [] => 0
  | d :: r => uptoBulk d + uptoBulkAll r
def uptoBulkEntries {H : Type} : List (Lit × DataW H) → Nat
  | [] => 0
  | x :: r => uptoBulkEntry x + uptoBulkEntries r
def uptoBulkEntry {H : Type} : Lit × DataW H → Nat
  | (.string bytes, d) => bytes.length + uptoBulk d + 1
  | (_, d) => uptoBulk d + 1
 end
def uptoSmall : (H : Type) → List (DataW H) → Bool := fun _ ds => decide (uptoBulkAll ds ≤ 1048576)
def OpenSpec.upto (s : _root_.Go.ChangeSpec) : _root_.Go.OpenSpec := { _root_.Go.OpenSpec.ofChange s with cond := some uptoSmall }

/-- 'sheavelaw14.BcodeDigits', WHERE WHAT IT READS IS OF BULK AT MOST 1048576: true; the input reads as it did. -/
def bcodeDigitsUptoRow : OpenClaim := { program := "ytddkcfonnpnidaa", sum := "8bf70263fb3beb6d2f69efac9e83d5ddba2e223874ea78c8aa6aa6e6614de4a9", func := "sheave/sheavelaw14.BcodeDigits", spec := "bcodeDigits", inPlace := ["internal/bytealg.IndexByteString"], apart := false, narrowed := true }
def BcodeDigitsUptoSaid : Prop := bcodeDigitsUptoRow.holds Try.pinned (OpenSpec.upto bcodeDigitsSpec)

/-- 'sheavelaw14.BcodeReads', WHERE WHAT IT READS IS OF BULK AT MOST 1048576: true; the input reads as it did. -/
def bcodeReadsUptoRow : OpenClaim := { program := "ytddkcfonnpnidaa", sum := "8bf70263fb3beb6d2f69efac9e83d5ddba2e223874ea78c8aa6aa6e6614de4a9", func := "sheave/sheavelaw14.BcodeReads", spec := "bcodeReads", inPlace := ["internal/bytealg.IndexByteString"], apart := false, narrowed := true }
def BcodeReadsUptoSaid : Prop := bcodeReadsUptoRow.holds Try.pinned (OpenSpec.upto bcodeReadsSpec)

/-- 'sheavelaw14.BcodeBack', WHERE WHAT IT READS IS OF BULK AT MOST 1048576: true; the input reads as it did. -/
def bcodeBackUptoRow : OpenClaim := { program := "ytddkcfonnpnidaa", sum := "8bf70263fb3beb6d2f69efac9e83d5ddba2e223874ea78c8aa6aa6e6614de4a9", func := "sheave/sheavelaw14.BcodeBack", spec := "bcodeBack", inPlace := ["internal/bytealg.IndexByteString"], apart := false, narrowed := true }
def BcodeBackUptoSaid : Prop := bcodeBackUptoRow.holds Try.pinned (OpenSpec.upto bcodeBackSpec)

end Rows
end Go.Proofs.Ytddkcfonnpnidaa
