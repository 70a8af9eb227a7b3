/-
  No cell of these rows narrows 'for every input' (looked for: loops, veiled, ifaces, maps, wideKeys, modest, calm, conditions, laid).
  DERIVED. THE GIVEN ROWS OF THIS SEAT. 4 by the template 'for every input the law returns true; each argument reads behind the call as it read before'; 0 by the template 'total and deterministic' (their statements: YtckeejhbfamebaaTotals.lean).
  GIVEN WITH THE SEED: the statements are not yours to turn. If you find one false, say at which input.
  Laid BY PROGRAM, IN A SANDBOX (cutbox-rows.mjs): the forced cells as the released guide's own fill.sh prints them over the translation 02b0c630e210b0bf… (all of the seat's roots in one cut). By AI agents, Wed Nov 11 2026. No macro, syntax, notation, axiom, sorry.
-/
import Derived.Test.YtckeejhbfamebaaChecked
import GoSem.Claim
import GoSem.ClaimJoined
import GoSem.ClaimMapViews
import Derived.JoinedTies
import Derived.KernelRfl
namespace Go.Proofs.Ytckeejhbfamebaa
/- THE CELL 'sum', in the pinned program and in every row, IS THE sha256 OF THE DUMP (.gsa) THAT YtckeejhbfamebaaProg.lean LOADS. Nothing in Lean hashes anything: it is a label: what it is worth is what the hold of that sum in a sandbox is worth. -/
noncomputable def Try.pinned : Pinned := { name := "ytckeejhbfamebaa", sum := "02b0c630e210b0bf0dbb9f6c9837425cb333c5f83a718c654e98e04880fe0060", checked := Try.checked }
namespace Rows
def none {H : Type} : Left H := { results := [], args := [] }

/-- 'sheavelaw21.PctLays': WHATEVER THE INPUT: true; the input reads as it did. -/
def pctLaysSpec : ChangeSpec := { name := "pctLays", fn := fun _ => fun
  | [d1, d2] => { results := [.lit (.bool true)], args := [d1, d2] }
  | _ => none }
def pctLaysRow : OpenClaim := { program := "ytckeejhbfamebaa", sum := "02b0c630e210b0bf0dbb9f6c9837425cb333c5f83a718c654e98e04880fe0060", func := "sheave/sheavelaw21.PctLays", spec := "pctLays", inPlace := ["internal/bytealg.IndexByteString"], apart := false }
def PctLaysSaid : Prop := pctLaysRow.holds Try.pinned (OpenSpec.ofChange pctLaysSpec)

/-- ITS FALSE NEIGHBOUR: 'it returns false'. Refute it at one input. -/
def pctLaysWrong : ChangeSpec := { name := "pctLays", fn := fun _ => fun
  | [d1, d2] => { results := [.lit (.bool false)], args := [d1, d2] }
  | _ => none }
def PctLaysWrongFalsely : Prop := pctLaysRow.holds Try.pinned (OpenSpec.ofChange pctLaysWrong)

/-- 'sheavelaw21.PctReads': WHATEVER THE INPUT: true; the input reads as it did. -/
def pctReadsSpec : ChangeSpec := { name := "pctReads", fn := fun _ => fun
  | [d] => { results := [.lit (.bool true)], args := [d] }
  | _ => none }
def pctReadsRow : OpenClaim := { program := "ytckeejhbfamebaa", sum := "02b0c630e210b0bf0dbb9f6c9837425cb333c5f83a718c654e98e04880fe0060", func := "sheave/sheavelaw21.PctReads", spec := "pctReads", inPlace := ["internal/bytealg.IndexByteString"], apart := false }
def PctReadsSaid : Prop := pctReadsRow.holds Try.pinned (OpenSpec.ofChange pctReadsSpec)

/-- ITS FALSE NEIGHBOUR: 'it returns false'. Refute it at one input. -/
def pctReadsWrong : ChangeSpec := { name := "pctReads", fn := fun _ => fun
  | [d] => { results := [.lit (.bool false)], args := [d] }
  | _ => none }
def PctReadsWrongFalsely : Prop := pctReadsRow.holds Try.pinned (OpenSpec.ofChange pctReadsWrong)

/-- 'sheavelaw21.PctUnquotes': WHATEVER THE INPUT: true; the input reads as it did. -/
def pctUnquotesSpec : ChangeSpec := { name := "pctUnquotes", fn := fun _ => fun
  | [d] => { results := [.lit (.bool true)], args := [d] }
  | _ => none }
def pctUnquotesRow : OpenClaim := { program := "ytckeejhbfamebaa", sum := "02b0c630e210b0bf0dbb9f6c9837425cb333c5f83a718c654e98e04880fe0060", func := "sheave/sheavelaw21.PctUnquotes", spec := "pctUnquotes", inPlace := ["internal/bytealg.IndexByteString"], apart := false }
def PctUnquotesSaid : Prop := pctUnquotesRow.holds Try.pinned (OpenSpec.ofChange pctUnquotesSpec)

/-- ITS FALSE NEIGHBOUR: 'it returns false'. Refute it at one input. -/
def pctUnquotesWrong : ChangeSpec := { name := "pctUnquotes", fn := fun _ => fun
  | [d] => { results := [.lit (.bool false)], args := [d] }
  | _ => none }
def PctUnquotesWrongFalsely : Prop := pctUnquotesRow.holds Try.pinned (OpenSpec.ofChange pctUnquotesWrong)

/-- 'sheavelaw21.PctBack': WHATEVER THE INPUT: true; the input reads as it did. -/
def pctBackSpec : ChangeSpec := { name := "pctBack", fn := fun _ => fun
  | [d1, d2] => { results := [.lit (.bool true)], args := [d1, d2] }
  | _ => none }
def pctBackRow : OpenClaim := { program := "ytckeejhbfamebaa", sum := "02b0c630e210b0bf0dbb9f6c9837425cb333c5f83a718c654e98e04880fe0060", func := "sheave/sheavelaw21.PctBack", spec := "pctBack", inPlace := ["internal/bytealg.IndexByteString"], apart := false }
def PctBackSaid : Prop := pctBackRow.holds Try.pinned (OpenSpec.ofChange pctBackSpec)

/-- ITS FALSE NEIGHBOUR: 'it returns false'. Refute it at one input. -/
def pctBackWrong : ChangeSpec := { name := "pctBack", fn := fun _ => fun
  | [d1, d2] => { results := [.lit (.bool false)], args := [d1, d2] }
  | _ => none }
def PctBackWrongFalsely : Prop := pctBackRow.holds Try.pinned (OpenSpec.ofChange pctBackWrong)

/- THE SECOND FORM. 'bulk': how many values and letters a reading holds, each counted each time it is reached (what is shared counts as often as it is met; a slice's spare places count too). A statement '..UptoSaid' is the law's where the arguments, and the package variables that the reading takes, are together of bulk at most 1048576: NARROWER than '..Said'. Prove '..Said' where nothing that the law and all that it calls make is longer than what came in: it says more and counts as full. Else prove '..UptoSaid'. A law counts once. -/
mutual
def uptoBulk {H : Type} : DataW H → Nat
  | .lit (.string bytes) => bytes.length + 1
  | .lit _ => 1
  | .nil => 1
  | .ptr d => uptoBulk d + 1
  | .slice elems spare => uptoBulkAll elems + uptoBulkAll spare + 1
  | .agg parts => uptoBulkAll parts + 1
  | .iface _ d => uptoBulk d + 1
  | .map entries => uptoBulkEntries entries + 1
  | .held _ => 1
def uptoBulkAll {H : Type} : List (DataW H) → Nat
  | [] => 0
  | d :: r => uptoBulk d + uptoBulkAll r
def uptoBulkEntries {H : Type} : List (Lit × DataW H) → Nat
  | [] => 0
  | x :: r => uptoBulkEntry x + uptoBulkEntries r
def uptoBulkEntry {H : Type} : Lit × DataW H → Nat
  | (.string bytes, d) => bytes.length + uptoBulk d + 1
  | (_, d) => uptoBulk d + 1
 end
def uptoSmall : (H : Type) → List (DataW H) → Bool := fun _ ds => decide (uptoBulkAll ds ≤ 1048576)
def OpenSpec.upto (s : _root_.Go.ChangeSpec) : _root_.Go.OpenSpec := { _root_.Go.OpenSpec.ofChange s with cond := some uptoSmall }

/-- 'sheavelaw21.PctLays', WHERE WHAT IT READS IS OF BULK AT MOST 1048576: true; the input reads as it did. -/
def pctLaysUptoRow : OpenClaim := { program := "ytckeejhbfamebaa", sum := "02b0c630e210b0bf0dbb9f6c9837425cb333c5f83a718c654e98e04880fe0060", func := "sheave/sheavelaw21.PctLays", spec := "pctLays", inPlace := ["internal/bytealg.IndexByteString"], apart := false, narrowed := true }
def PctLaysUptoSaid : Prop := pctLaysUptoRow.holds Try.pinned (OpenSpec.upto pctLaysSpec)

/-- 'sheavelaw21.PctReads', WHERE WHAT IT READS IS OF BULK AT MOST 1048576: true; the input reads as it did. -/
def pctReadsUptoRow : OpenClaim := { program := "ytckeejhbfamebaa", sum := "02b0c630e210b0bf0dbb9f6c9837425cb333c5f83a718c654e98e04880fe0060", func := "sheave/sheavelaw21.PctReads", spec := "pctReads", inPlace := ["internal/bytealg.IndexByteString"], apart := false, narrowed := true }
def PctReadsUptoSaid : Prop := pctReadsUptoRow.holds Try.pinned (OpenSpec.upto pctReadsSpec)

/-- 'sheavelaw21.PctUnquotes', WHERE WHAT IT READS IS OF BULK AT MOST 1048576: true; the input reads as it did. -/
def pctUnquotesUptoRow : OpenClaim := { program := "ytckeejhbfamebaa", sum := "02b0c630e210b0bf0dbb9f6c9837425cb333c5f83a718c654e98e04880fe0060", func := "sheave/sheavelaw21.PctUnquotes", spec := "pctUnquotes", inPlace := ["internal/bytealg.IndexByteString"], apart := false, narrowed := true }
def PctUnquotesUptoSaid : Prop := pctUnquotesUptoRow.holds Try.pinned (OpenSpec.upto pctUnquotesSpec)

/-- 'sheavelaw21.PctBack', WHERE WHAT IT READS IS OF BULK AT MOST 1048576: true; the input reads as it did. -/
def pctBackUptoRow : OpenClaim := { program := "ytckeejhbfamebaa", sum := "02b0c630e210b0bf0dbb9f6c9837425cb333c5f83a718c654e98e04880fe0060", func := "sheave/sheavelaw21.PctBack", spec := "pctBack", inPlace := ["internal/bytealg.IndexByteString"], apart := false, narrowed := true }
def PctBackUptoSaid : Prop := pctBackUptoRow.holds Try.pinned (OpenSpec.upto pctBackSpec)

end Rows
end Go.Proofs.Ytckeejhbfamebaa
