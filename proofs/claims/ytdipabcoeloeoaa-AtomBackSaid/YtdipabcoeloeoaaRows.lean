/-
  No cell of these rows narrows 'for every input' (looked for: loops, veiled, ifaces, maps, wideKeys, modest, calm, conditions, laid).
  DERIVED. THE GIVEN ROWS OF THIS SEAT. 4 by the template 'for every input the law returns true; each argument reads behind the call as it read before'; 0 by the template 'total and deterministic' (their statements: YtdipabcoeloeoaaTotals.lean).
  GIVEN WITH THE SEED: the statements are not yours to turn. If you find one false, say at which input.
  Laid BY PROGRAM, IN A SANDBOX (cutbox-rows.mjs): the forced cells as the released guide's own fill.sh prints them over the translation 22b40220b7f97b13… (all of the seat's roots in one cut). By AI agents, Wed Nov 11 2026. No macro, syntax, notation, axiom, sorry.
-/
import Derived.Test.YtdipabcoeloeoaaChecked
import GoSem.Claim
import GoSem.ClaimJoined
import GoSem.ClaimMapViews
import Derived.JoinedTies
import Derived.KernelRfl
namespace Go.Proofs.Ytdipabcoeloeoaa
/- THE CELL 'sum', in the pinned program and in every row, IS THE sha256 OF THE DUMP (.gsa) THAT YtdipabcoeloeoaaProg.lean LOADS. Nothing in Lean hashes anything: it is a label: what it is worth is what the hold of that sum in a sandbox is worth. -/
noncomputable def Try.pinned : Pinned := { name := "ytdipabcoeloeoaa", sum := "22b40220b7f97b130de3139e35b22ebc7e003624c56b32974fd283963231a89d", checked := Try.checked }
namespace Rows
def none {H : Type} : Left H := { results := [], args := [] }

/-- 'sheavelaw28.AtomGaps': WHATEVER THE INPUT: true; the input reads as it did. -/
def atomGapsSpec : ChangeSpec := { name := "atomGaps", fn := fun _ => fun
  | [d1, d2, d3] => { results := [.lit (.bool true)], args := [d1, d2, d3] }
  | _ => none }
def atomGapsRow : OpenClaim := { program := "ytdipabcoeloeoaa", sum := "22b40220b7f97b130de3139e35b22ebc7e003624c56b32974fd283963231a89d", func := "sheave/sheavelaw28.AtomGaps", spec := "atomGaps", inPlace := ["internal/bytealg.IndexByteString"], apart := false }
def AtomGapsSaid : Prop := atomGapsRow.holds Try.pinned (OpenSpec.ofChange atomGapsSpec)

/-- ITS FALSE NEIGHBOUR: 'it returns false'. Refute it at one input. -/
def atomGapsWrong : ChangeSpec := { name := "atomGaps", fn := fun _ => fun
  | [d1, d2, d3] => { results := [.lit (.bool false)], args := [d1, d2, d3] }
  | _ => none }
def AtomGapsWrongFalsely : Prop := atomGapsRow.holds Try.pinned (OpenSpec.ofChange atomGapsWrong)

/-- 'sheavelaw28.AtomTakes': WHATEVER THE INPUT: true; the input reads as it did. -/
def atomTakesSpec : ChangeSpec := { name := "atomTakes", fn := fun _ => fun
  | [d1, d2] => { results := [.lit (.bool true)], args := [d1, d2] }
  | _ => none }
def atomTakesRow : OpenClaim := { program := "ytdipabcoeloeoaa", sum := "22b40220b7f97b130de3139e35b22ebc7e003624c56b32974fd283963231a89d", func := "sheave/sheavelaw28.AtomTakes", spec := "atomTakes", inPlace := ["internal/bytealg.IndexByteString"], apart := false }
def AtomTakesSaid : Prop := atomTakesRow.holds Try.pinned (OpenSpec.ofChange atomTakesSpec)

/-- ITS FALSE NEIGHBOUR: 'it returns false'. Refute it at one input. -/
def atomTakesWrong : ChangeSpec := { name := "atomTakes", fn := fun _ => fun
  | [d1, d2] => { results := [.lit (.bool false)], args := [d1, d2] }
  | _ => none }
def AtomTakesWrongFalsely : Prop := atomTakesRow.holds Try.pinned (OpenSpec.ofChange atomTakesWrong)

/-- 'sheavelaw28.AtomBack': WHATEVER THE INPUT: true; the input reads as it did. -/
def atomBackSpec : ChangeSpec := { name := "atomBack", fn := fun _ => fun
  | [d1, d2] => { results := [.lit (.bool true)], args := [d1, d2] }
  | _ => none }
def atomBackRow : OpenClaim := { program := "ytdipabcoeloeoaa", sum := "22b40220b7f97b130de3139e35b22ebc7e003624c56b32974fd283963231a89d", func := "sheave/sheavelaw28.AtomBack", spec := "atomBack", inPlace := ["internal/bytealg.IndexByteString"], apart := false }
def AtomBackSaid : Prop := atomBackRow.holds Try.pinned (OpenSpec.ofChange atomBackSpec)

/-- ITS FALSE NEIGHBOUR: 'it returns false'. Refute it at one input. -/
def atomBackWrong : ChangeSpec := { name := "atomBack", fn := fun _ => fun
  | [d1, d2] => { results := [.lit (.bool false)], args := [d1, d2] }
  | _ => none }
def AtomBackWrongFalsely : Prop := atomBackRow.holds Try.pinned (OpenSpec.ofChange atomBackWrong)

/-- 'sheavelaw28.AtomWays': WHATEVER THE INPUT: true; the input reads as it did. -/
def atomWaysSpec : ChangeSpec := { name := "atomWays", fn := fun _ => fun
  | [d1, d2] => { results := [.lit (.bool true)], args := [d1, d2] }
  | _ => none }
def atomWaysRow : OpenClaim := { program := "ytdipabcoeloeoaa", sum := "22b40220b7f97b130de3139e35b22ebc7e003624c56b32974fd283963231a89d", func := "sheave/sheavelaw28.AtomWays", spec := "atomWays", inPlace := ["internal/bytealg.IndexByteString"], apart := false }
def AtomWaysSaid : Prop := atomWaysRow.holds Try.pinned (OpenSpec.ofChange atomWaysSpec)

/-- ITS FALSE NEIGHBOUR: 'it returns false'. Refute it at one input. -/
def atomWaysWrong : ChangeSpec := { name := "atomWays", fn := fun _ => fun
  | [d1, d2] => { results := [.lit (.bool false)], args := [d1, d2] }
  | _ => none }
def AtomWaysWrongFalsely : Prop := atomWaysRow.holds Try.pinned (OpenSpec.ofChange atomWaysWrong)

/- THE SECOND FORM. 'bulk': how many values and letters a reading holds, each counted each time it is reached (what is shared counts as often as it is met; a slice's spare places count too). A statement '..UptoSaid' is the law's where the arguments, and the package variables that the reading takes, are together of bulk at most 1048576: NARROWER than '..Said'. Prove '..Said' where nothing that the law and all that it calls make is longer than what came in: it says more and counts as full. Else prove '..UptoSaid'. A law counts once. -/
mutual
def uptoBulk {H : Type} : DataW H → Nat
  | .lit (.string bytes) => bytes.length + 1
  | .lit _ => 1
  | .nil => 1
  | .ptr d => uptoBulk d + 1
  | .slice elems spare => uptoBulkAll elems + uptoBulkAll spare + 1
  | .agg parts => uptoBulkAll parts + 1
  | .iface _ d => uptoBulk d + 1
  | .map entries => uptoBulkEntries entries + 1
  | .held _ => 1
def uptoBulkAll {H : Type} : List (DataW H) → Nat
  | [] => 0
  | d :: r => uptoBulk d + uptoBulkAll r
def uptoBulkEntries {H : Type} : List (Lit × DataW H) → Nat
  | [] => 0
  | x :: r => uptoBulkEntry x + uptoBulkEntries r
def uptoBulkEntry {H : Type} : Lit × DataW H → Nat
  | (.string bytes, d) => bytes.length + uptoBulk d + 1
  | (_, d) => uptoBulk d + 1
 end
def uptoSmall : (H : Type) → List (DataW H) → Bool := fun _ ds => decide (uptoBulkAll ds ≤ 1048576)
def OpenSpec.upto (s : _root_.Go.ChangeSpec) : _root_.Go.OpenSpec := { _root_.Go.OpenSpec.ofChange s with cond := some uptoSmall }

/-- 'sheavelaw28.AtomGaps', WHERE WHAT IT READS IS OF BULK AT MOST 1048576: true; the input reads as it did. -/
def atomGapsUptoRow : OpenClaim := { program := "ytdipabcoeloeoaa", sum := "22b40220b7f97b130de3139e35b22ebc7e003624c56b32974fd283963231a89d", func := "sheave/sheavelaw28.AtomGaps", spec := "atomGaps", inPlace := ["internal/bytealg.IndexByteString"], apart := false, narrowed := true }
def AtomGapsUptoSaid : Prop := atomGapsUptoRow.holds Try.pinned (OpenSpec.upto atomGapsSpec)

/-- 'sheavelaw28.AtomTakes', WHERE WHAT IT READS IS OF BULK AT MOST 1048576: true; the input reads as it did. -/
def atomTakesUptoRow : OpenClaim := { program := "ytdipabcoeloeoaa", sum := "22b40220b7f97b130de3139e35b22ebc7e003624c56b32974fd283963231a89d", func := "sheave/sheavelaw28.AtomTakes", spec := "atomTakes", inPlace := ["internal/bytealg.IndexByteString"], apart := false, narrowed := true }
def AtomTakesUptoSaid : Prop := atomTakesUptoRow.holds Try.pinned (OpenSpec.upto atomTakesSpec)

/-- 'sheavelaw28.AtomBack', WHERE WHAT IT READS IS OF BULK AT MOST 1048576: true; the input reads as it did. -/
def atomBackUptoRow : OpenClaim := { program := "ytdipabcoeloeoaa", sum := "22b40220b7f97b130de3139e35b22ebc7e003624c56b32974fd283963231a89d", func := "sheave/sheavelaw28.AtomBack", spec := "atomBack", inPlace := ["internal/bytealg.IndexByteString"], apart := false, narrowed := true }
def AtomBackUptoSaid : Prop := atomBackUptoRow.holds Try.pinned (OpenSpec.upto atomBackSpec)

/-- 'sheavelaw28.AtomWays', WHERE WHAT IT READS IS OF BULK AT MOST 1048576: true; the input reads as it did. -/
def atomWaysUptoRow : OpenClaim := { program := "ytdipabcoeloeoaa", sum := "22b40220b7f97b130de3139e35b22ebc7e003624c56b32974fd283963231a89d", func := "sheave/sheavelaw28.AtomWays", spec := "atomWays", inPlace := ["internal/bytealg.IndexByteString"], apart := false, narrowed := true }
def AtomWaysUptoSaid : Prop := atomWaysUptoRow.holds Try.pinned (OpenSpec.upto atomWaysSpec)

end Rows
end Go.Proofs.Ytdipabcoeloeoaa
