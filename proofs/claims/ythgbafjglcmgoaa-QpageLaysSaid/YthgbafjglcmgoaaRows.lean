/-
  No cell of these rows narrows 'for every input' (looked for: loops, veiled, ifaces, maps, wideKeys, modest, calm, conditions, laid).
  DERIVED. THE GIVEN ROWS OF THIS SEAT. 4 by the template 'for every input the law returns true; each argument reads behind the call as it read before'; 0 by the template 'total and deterministic' (their statements: YthgbafjglcmgoaaTotals.lean).
  GIVEN WITH THE SEED: the statements are not yours to turn. If you find one false, say at which input.
  Laid BY PROGRAM, IN A SANDBOX (cutbox-rows.mjs): the forced cells as the released guide's own fill.sh prints them over the translation 4b875bda4e6aacd8… (all of the seat's roots in one cut). By AI agents, Wed Nov 11 2026. No macro, syntax, notation, axiom, sorry.
-/
import Derived.Test.YthgbafjglcmgoaaChecked
import GoSem.Claim
import GoSem.ClaimJoined
import GoSem.ClaimMapViews
import Derived.JoinedTies
import Derived.KernelRfl
namespace Go.Proofs.Ythgbafjglcmgoaa
/- THE CELL 'sum', in the pinned program and in every row, IS THE sha256 OF THE DUMP (.gsa) THAT YthgbafjglcmgoaaProg.lean LOADS. Nothing in Lean hashes anything: it is a label: what it is worth is what the hold of that sum in a sandbox is worth. -/
noncomputable def Try.pinned : Pinned := { name := "ythgbafjglcmgoaa", sum := "4b875bda4e6aacd87bdca031edac4c7a88a1c47f1b7796d1b2b4c90544383c8f", checked := Try.checked }
namespace Rows
def none {H : Type} : Left H := { results := [], args := [] }

/-- 'sheavelaw18.QpageLays': WHATEVER THE INPUT: true; the input reads as it did. -/
def qpageLaysSpec : ChangeSpec := { name := "qpageLays", fn := fun _ => fun
  | [d1, d2, d3] => { results := [.lit (.bool true)], args := [d1, d2, d3] }
  | _ => none }
def qpageLaysRow : OpenClaim := { program := "ythgbafjglcmgoaa", sum := "4b875bda4e6aacd87bdca031edac4c7a88a1c47f1b7796d1b2b4c90544383c8f", func := "sheave/sheavelaw18.QpageLays", spec := "qpageLays", inPlace := ["internal/bytealg.IndexByteString", "internal/bytealg.IndexByte", "internal/bytealg.Index", "internal/bytealg.Count"], unfollowed := true, recurses := true, named := ["internal/bytealg.MaxLen"], apart := false }
def QpageLaysSaid : Prop := qpageLaysRow.holds Try.pinned (OpenSpec.ofChange qpageLaysSpec)

/-- ITS FALSE NEIGHBOUR: 'it returns false'. Refute it at one input. -/
def qpageLaysWrong : ChangeSpec := { name := "qpageLays", fn := fun _ => fun
  | [d1, d2, d3] => { results := [.lit (.bool false)], args := [d1, d2, d3] }
  | _ => none }
def QpageLaysWrongFalsely : Prop := qpageLaysRow.holds Try.pinned (OpenSpec.ofChange qpageLaysWrong)

/-- 'sheavelaw18.QpageChecks': WHATEVER THE INPUT: true; the input reads as it did. -/
def qpageChecksSpec : ChangeSpec := { name := "qpageChecks", fn := fun _ => fun
  | [d] => { results := [.lit (.bool true)], args := [d] }
  | _ => none }
def qpageChecksRow : OpenClaim := { program := "ythgbafjglcmgoaa", sum := "4b875bda4e6aacd87bdca031edac4c7a88a1c47f1b7796d1b2b4c90544383c8f", func := "sheave/sheavelaw18.QpageChecks", spec := "qpageChecks", inPlace := ["internal/bytealg.IndexByteString", "internal/bytealg.IndexByte", "internal/bytealg.Index", "internal/bytealg.Count"], unfollowed := true, recurses := true, named := ["internal/bytealg.MaxLen"], apart := false }
def QpageChecksSaid : Prop := qpageChecksRow.holds Try.pinned (OpenSpec.ofChange qpageChecksSpec)

/-- ITS FALSE NEIGHBOUR: 'it returns false'. Refute it at one input. -/
def qpageChecksWrong : ChangeSpec := { name := "qpageChecks", fn := fun _ => fun
  | [d] => { results := [.lit (.bool false)], args := [d] }
  | _ => none }
def QpageChecksWrongFalsely : Prop := qpageChecksRow.holds Try.pinned (OpenSpec.ofChange qpageChecksWrong)

/-- 'sheavelaw18.QpageRight': WHATEVER THE INPUT: true; the input reads as it did. -/
def qpageRightSpec : ChangeSpec := { name := "qpageRight", fn := fun _ => fun
  | [d] => { results := [.lit (.bool true)], args := [d] }
  | _ => none }
def qpageRightRow : OpenClaim := { program := "ythgbafjglcmgoaa", sum := "4b875bda4e6aacd87bdca031edac4c7a88a1c47f1b7796d1b2b4c90544383c8f", func := "sheave/sheavelaw18.QpageRight", spec := "qpageRight", inPlace := ["internal/bytealg.IndexByteString", "internal/bytealg.IndexByte", "internal/bytealg.Index", "internal/bytealg.Count"], unfollowed := true, recurses := true, named := ["internal/bytealg.MaxLen"], apart := false }
def QpageRightSaid : Prop := qpageRightRow.holds Try.pinned (OpenSpec.ofChange qpageRightSpec)

/-- ITS FALSE NEIGHBOUR: 'it returns false'. Refute it at one input. -/
def qpageRightWrong : ChangeSpec := { name := "qpageRight", fn := fun _ => fun
  | [d] => { results := [.lit (.bool false)], args := [d] }
  | _ => none }
def QpageRightWrongFalsely : Prop := qpageRightRow.holds Try.pinned (OpenSpec.ofChange qpageRightWrong)

/-- 'sheavelaw18.QpageBreaks': WHATEVER THE INPUT: true; the input reads as it did. -/
def qpageBreaksSpec : ChangeSpec := { name := "qpageBreaks", fn := fun _ => fun
  | [d] => { results := [.lit (.bool true)], args := [d] }
  | _ => none }
def qpageBreaksRow : OpenClaim := { program := "ythgbafjglcmgoaa", sum := "4b875bda4e6aacd87bdca031edac4c7a88a1c47f1b7796d1b2b4c90544383c8f", func := "sheave/sheavelaw18.QpageBreaks", spec := "qpageBreaks", inPlace := ["internal/bytealg.IndexByteString", "internal/bytealg.IndexByte", "internal/bytealg.Index", "internal/bytealg.Count"], unfollowed := true, recurses := true, named := ["internal/bytealg.MaxLen"], apart := false }
def QpageBreaksSaid : Prop := qpageBreaksRow.holds Try.pinned (OpenSpec.ofChange qpageBreaksSpec)

/-- ITS FALSE NEIGHBOUR: 'it returns false'. Refute it at one input. -/
def qpageBreaksWrong : ChangeSpec := { name := "qpageBreaks", fn := fun _ => fun
  | [d] => { results := [.lit (.bool false)], args := [d] }
  | _ => none }
def QpageBreaksWrongFalsely : Prop := qpageBreaksRow.holds Try.pinned (OpenSpec.ofChange qpageBreaksWrong)

/- THE SECOND FORM. 'bulk': how many values and letters a reading holds, each counted each time it is reached (what is shared counts as often as it is met; a slice's spare places count too). A statement '..UptoSaid' is the law's where the arguments, and the package variables that the reading takes, are together of bulk at most 1048576: NARROWER than '..Said'. Prove '..Said' where nothing that the law and all that it calls make is longer than what came in: it says more and counts as full. Else prove '..UptoSaid'. A law counts once. -/
mutual
def uptoBulk {H : Type} : DataW H → Nat
  | .lit (.string bytes) => bytes.length + 1
  | .lit _ => 1
  | .nil => 1
  | .ptr d => uptoBulk d + 1
  | .slice elems spare => uptoBulkAll elems + uptoBulkAll spare + 1
  | .agg parts => uptoBulkAll parts + 1
  | .iface _ d => uptoBulk d + 1
  | .map entries => uptoBulkEntries entries + 1
  | .held _ => 1
def uptoBulkAll {H : Type} : List (DataW H) → Nat
  | [] => 0
  | d :: r => uptoBulk d + uptoBulkAll r
def uptoBulkEntries {H : Type} : List (Lit × DataW H) → Nat
  | [] => 0
  | x :: r => uptoBulkEntry x + uptoBulkEntries r
def uptoBulkEntry {H : Type} : Lit × DataW H → Nat
  | (.string bytes, d) => bytes.length + uptoBulk d + 1
  | (_, d) => uptoBulk d + 1
 end
def uptoSmall : (H : Type) → List (DataW H) → Bool := fun _ ds => decide (uptoBulkAll ds ≤ 1048576)
def OpenSpec.upto (s : _root_.Go.ChangeSpec) : _root_.Go.OpenSpec := { _root_.Go.OpenSpec.ofChange s with cond := some uptoSmall }

/-- 'sheavelaw18.QpageLays', WHERE WHAT IT READS IS OF BULK AT MOST 1048576: true; the input reads as it did. -/
def qpageLaysUptoRow : OpenClaim := { program := "ythgbafjglcmgoaa", sum := "4b875bda4e6aacd87bdca031edac4c7a88a1c47f1b7796d1b2b4c90544383c8f", func := "sheave/sheavelaw18.QpageLays", spec := "qpageLays", inPlace := ["internal/bytealg.IndexByteString", "internal/bytealg.IndexByte", "internal/bytealg.Index", "internal/bytealg.Count"], unfollowed := true, recurses := true, named := ["internal/bytealg.MaxLen"], apart := false, narrowed := true }
def QpageLaysUptoSaid : Prop := qpageLaysUptoRow.holds Try.pinned (OpenSpec.upto qpageLaysSpec)

/-- 'sheavelaw18.QpageChecks', WHERE WHAT IT READS IS OF BULK AT MOST 1048576: true; the input reads as it did. -/
def qpageChecksUptoRow : OpenClaim := { program := "ythgbafjglcmgoaa", sum := "4b875bda4e6aacd87bdca031edac4c7a88a1c47f1b7796d1b2b4c90544383c8f", func := "sheave/sheavelaw18.QpageChecks", spec := "qpageChecks", inPlace := ["internal/bytealg.IndexByteString", "internal/bytealg.IndexByte", "internal/bytealg.Index", "internal/bytealg.Count"], unfollowed := true, recurses := true, named := ["internal/bytealg.MaxLen"], apart := false, narrowed := true }
def QpageChecksUptoSaid : Prop := qpageChecksUptoRow.holds Try.pinned (OpenSpec.upto qpageChecksSpec)

/-- 'sheavelaw18.QpageRight', WHERE WHAT IT READS IS OF BULK AT MOST 1048576: true; the input reads as it did. -/
def qpageRightUptoRow : OpenClaim := { program := "ythgbafjglcmgoaa", sum := "4b875bda4e6aacd87bdca031edac4c7a88a1c47f1b7796d1b2b4c90544383c8f", func := "sheave/sheavelaw18.QpageRight", spec := "qpageRight", inPlace := ["internal/bytealg.IndexByteString", "internal/bytealg.IndexByte", "internal/bytealg.Index", "internal/bytealg.Count"], unfollowed := true, recurses := true, named := ["internal/bytealg.MaxLen"], apart := false, narrowed := true }
def QpageRightUptoSaid : Prop := qpageRightUptoRow.holds Try.pinned (OpenSpec.upto qpageRightSpec)

/-- 'sheavelaw18.QpageBreaks', WHERE WHAT IT READS IS OF BULK AT MOST 1048576: true; the input reads as it did. -/
def qpageBreaksUptoRow : OpenClaim := { program := "ythgbafjglcmgoaa", sum := "4b875bda4e6aacd87bdca031edac4c7a88a1c47f1b7796d1b2b4c90544383c8f", func := "sheave/sheavelaw18.QpageBreaks", spec := "qpageBreaks", inPlace := ["internal/bytealg.IndexByteString", "internal/bytealg.IndexByte", "internal/bytealg.Index", "internal/bytealg.Count"], unfollowed := true, recurses := true, named := ["internal/bytealg.MaxLen"], apart := false, narrowed := true }
def QpageBreaksUptoSaid : Prop := qpageBreaksUptoRow.holds Try.pinned (OpenSpec.upto qpageBreaksSpec)

end Rows
end Go.Proofs.Ythgbafjglcmgoaa
