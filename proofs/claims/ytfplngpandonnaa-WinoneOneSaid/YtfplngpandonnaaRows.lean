/-
  No cell of these rows narrows 'for every input' (looked for: loops, veiled, ifaces, maps, wideKeys, modest, calm, conditions, laid).
  DERIVED. THE GIVEN ROWS OF THIS SEAT. 3 by the template 'for every input the law returns true; each argument reads behind the call as it read before'; 0 by the template 'total and deterministic' (their statements: YtfplngpandonnaaTotals.lean).
  GIVEN WITH THE SEED: the statements are not yours to turn. If you find one false, say at which input.
  Laid BY PROGRAM, IN A SANDBOX (cutbox-rows.mjs): the forced cells as the released guide's own fill.sh prints them over the translation c97fff3dee222856… (all of the seat's roots in one cut). By AI agents, Wed Nov 11 2026. No macro, syntax, notation, axiom, sorry.
-/
import Derived.Test.YtfplngpandonnaaChecked
import GoSem.Claim
import GoSem.ClaimJoined
import GoSem.ClaimMapViews
import Derived.JoinedTies
import Derived.KernelRfl
namespace Go.Proofs.Ytfplngpandonnaa
/- THE CELL 'sum', in the pinned program and in every row, IS THE sha256 OF THE DUMP (.gsa) THAT YtfplngpandonnaaProg.lean LOADS. Nothing in Lean hashes anything: it is a label: what it is worth is what the hold of that sum in a sandbox is worth. -/
noncomputable def Try.pinned : Pinned := { name := "ytfplngpandonnaa", sum := "c97fff3dee222856e6f4e0ae53635b7f7c928ca936b3897224691bb26920645c", checked := Try.checked }
namespace Rows
def none {H : Type} : Left H := { results := [], args := [] }

/-- 'sheavelaw10.WinoneOne': WHATEVER THE INPUT: true; the input reads as it did. -/
def winoneOneSpec : ChangeSpec := { name := "winoneOne", fn := fun _ => fun
  | [d1, d2] => { results := [.lit (.bool true)], args := [d1, d2] }
  | _ => none }
def winoneOneRow : OpenClaim := { program := "ytfplngpandonnaa", sum := "c97fff3dee222856e6f4e0ae53635b7f7c928ca936b3897224691bb26920645c", func := "sheave/sheavelaw10.WinoneOne", spec := "winoneOne", apart := false }
def WinoneOneSaid : Prop := winoneOneRow.holds Try.pinned (OpenSpec.ofChange winoneOneSpec)

/-- ITS FALSE NEIGHBOUR: 'it returns false'. Refute it at one input. -/
def winoneOneWrong : ChangeSpec := { name := "winoneOne", fn := fun _ => fun
  | [d1, d2] => { results := [.lit (.bool false)], args := [d1, d2] }
  | _ => none }
def WinoneOneWrongFalsely : Prop := winoneOneRow.holds Try.pinned (OpenSpec.ofChange winoneOneWrong)

/-- 'sheavelaw10.WinoneTexts': WHATEVER THE INPUT: true; the input reads as it did. -/
def winoneTextsSpec : ChangeSpec := { name := "winoneTexts", fn := fun _ => fun
  | [d1, d2] => { results := [.lit (.bool true)], args := [d1, d2] }
  | _ => none }
def winoneTextsRow : OpenClaim := { program := "ytfplngpandonnaa", sum := "c97fff3dee222856e6f4e0ae53635b7f7c928ca936b3897224691bb26920645c", func := "sheave/sheavelaw10.WinoneTexts", spec := "winoneTexts", apart := false }
def WinoneTextsSaid : Prop := winoneTextsRow.holds Try.pinned (OpenSpec.ofChange winoneTextsSpec)

/-- ITS FALSE NEIGHBOUR: 'it returns false'. Refute it at one input. -/
def winoneTextsWrong : ChangeSpec := { name := "winoneTexts", fn := fun _ => fun
  | [d1, d2] => { results := [.lit (.bool false)], args := [d1, d2] }
  | _ => none }
def WinoneTextsWrongFalsely : Prop := winoneTextsRow.holds Try.pinned (OpenSpec.ofChange winoneTextsWrong)

/-- 'sheavelaw10.WinoneBack': WHATEVER THE INPUT: true; the input reads as it did. -/
def winoneBackSpec : ChangeSpec := { name := "winoneBack", fn := fun _ => fun
  | [d1, d2] => { results := [.lit (.bool true)], args := [d1, d2] }
  | _ => none }
def winoneBackRow : OpenClaim := { program := "ytfplngpandonnaa", sum := "c97fff3dee222856e6f4e0ae53635b7f7c928ca936b3897224691bb26920645c", func := "sheave/sheavelaw10.WinoneBack", spec := "winoneBack", apart := false }
def WinoneBackSaid : Prop := winoneBackRow.holds Try.pinned (OpenSpec.ofChange winoneBackSpec)

/-- ITS FALSE NEIGHBOUR: 'it returns false'. Refute it at one input. -/
def winoneBackWrong : ChangeSpec := { name := "winoneBack", fn := fun _ => fun
  | [d1, d2] => { results := [.lit (.bool false)], args := [d1, d2] }
  | _ => none }
def WinoneBackWrongFalsely : Prop := winoneBackRow.holds Try.pinned (OpenSpec.ofChange winoneBackWrong)

/- THE SECOND FORM. 'bulk': how many values and letters a reading holds, each counted each time it is reached (what is shared counts as often as it is met; a slice's spare places count too). A statement '..UptoSaid' is the law's where the arguments, and the package variables that the reading takes, are together of bulk at most 1048576: NARROWER than '..Said'. Prove '..Said' where nothing that the law and all that it calls make is longer than what came in: it says more and counts as full. Else prove '..UptoSaid'. A law counts once. -/
mutual
def uptoBulk {H : Type} : DataW H → Nat
  | .lit (.string bytes) => bytes.length + 1
  | .lit _ => 1
  | .nil => 1
  | .ptr d => uptoBulk d + 1
  | .slice elems spare => uptoBulkAll elems + uptoBulkAll spare + 1
  | .agg parts => uptoBulkAll parts + 1
  | .iface _ d => uptoBulk d + 1
  | .map entries => uptoBulkEntries entries + 1
  | .held _ => 1
def uptoBulkAll {H : Type} : List (DataW H) → Nat
  | [] => 0
  | d :: r => uptoBulk d + uptoBulkAll r
def uptoBulkEntries {H : Type} : List (Lit × DataW H) → Nat
  | [] => 0
  | x :: r => uptoBulkEntry x + uptoBulkEntries r
def uptoBulkEntry {H : Type} : Lit × DataW H → Nat
  | (.string bytes, d) => bytes.length + uptoBulk d + 1
  | (_, d) => uptoBulk d + 1
 end
def uptoSmall : (H : Type) → List (DataW H) → Bool := fun _ ds => decide (uptoBulkAll ds ≤ 1048576)
def OpenSpec.upto (s : _root_.Go.ChangeSpec) : _root_.Go.OpenSpec := { _root_.Go.OpenSpec.ofChange s with cond := some uptoSmall }

/-- 'sheavelaw10.WinoneOne', WHERE WHAT IT READS IS OF BULK AT MOST 1048576: true; the input reads as it did. -/
def winoneOneUptoRow : OpenClaim := { program := "ytfplngpandonnaa", sum := "c97fff3dee222856e6f4e0ae53635b7f7c928ca936b3897224691bb26920645c", func := "sheave/sheavelaw10.WinoneOne", spec := "winoneOne", apart := false, narrowed := true }
def WinoneOneUptoSaid : Prop := winoneOneUptoRow.holds Try.pinned (OpenSpec.upto winoneOneSpec)

/-- 'sheavelaw10.WinoneTexts', WHERE WHAT IT READS IS OF BULK AT MOST 1048576: true; the input reads as it did. -/
def winoneTextsUptoRow : OpenClaim := { program := "ytfplngpandonnaa", sum := "c97fff3dee222856e6f4e0ae53635b7f7c928ca936b3897224691bb26920645c", func := "sheave/sheavelaw10.WinoneTexts", spec := "winoneTexts", apart := false, narrowed := true }
def WinoneTextsUptoSaid : Prop := winoneTextsUptoRow.holds Try.pinned (OpenSpec.upto winoneTextsSpec)

/-- 'sheavelaw10.WinoneBack', WHERE WHAT IT READS IS OF BULK AT MOST 1048576: true; the input reads as it did. -/
def winoneBackUptoRow : OpenClaim := { program := "ytfplngpandonnaa", sum := "c97fff3dee222856e6f4e0ae53635b7f7c928ca936b3897224691bb26920645c", func := "sheave/sheavelaw10.WinoneBack", spec := "winoneBack", apart := false, narrowed := true }
def WinoneBackUptoSaid : Prop := winoneBackUptoRow.holds Try.pinned (OpenSpec.upto winoneBackSpec)

end Rows
end Go.Proofs.Ytfplngpandonnaa
