/-
  No cell of these rows narrows 'for every input' (looked for: loops, veiled, ifaces, maps, wideKeys, modest, calm, conditions, laid).
  DERIVED. THE GIVEN ROWS OF THIS SEAT. 4 by the template 'for every input the law returns true; each argument reads behind the call as it read before'; 0 by the template 'total and deterministic' (their statements: YteihhadcmmdidaaTotals.lean).
  GIVEN WITH THE SEED: the statements are not yours to turn. If you find one false, say at which input.
  Laid BY PROGRAM, IN A SANDBOX (cutbox-rows.mjs): the forced cells as the released guide's own fill.sh prints them over the translation ee995bd92c7e4280… (all of the seat's roots in one cut). By AI agents, Wed Nov 11 2026. No macro, syntax, notation, axiom, sorry.
-/
import Derived.Test.YteihhadcmmdidaaChecked
import GoSem.Claim
import GoSem.ClaimJoined
import GoSem.ClaimMapViews
import Derived.JoinedTies
import Derived.KernelRfl
namespace Go.Proofs.Yteihhadcmmdidaa
/- THE CELL 'sum', in the pinned program and in every row, IS THE sha256 OF THE DUMP (.gsa) THAT YteihhadcmmdidaaProg.lean LOADS. Nothing in Lean hashes anything: it is a label: what it is worth is what the hold of that sum in a sandbox is worth. -/
noncomputable def Try.pinned : Pinned := { name := "yteihhadcmmdidaa", sum := "ee995bd92c7e4280b74f91b7af6204f4f3fe06807b4e1e9f6a5641033d0ff80f", checked := Try.checked }
namespace Rows
def none {H : Type} : Left H := { results := [], args := [] }

/-- 'sheavelaw06.UnitsLays': WHATEVER THE INPUT: true; the input reads as it did. -/
def unitsLaysSpec : ChangeSpec := { name := "unitsLays", fn := fun _ => fun
  | [d1, d2] => { results := [.lit (.bool true)], args := [d1, d2] }
  | _ => none }
def unitsLaysRow : OpenClaim := { program := "yteihhadcmmdidaa", sum := "ee995bd92c7e4280b74f91b7af6204f4f3fe06807b4e1e9f6a5641033d0ff80f", func := "sheave/sheavelaw06.UnitsLays", spec := "unitsLays", unfollowed := true, recurses := true, apart := false }
def UnitsLaysSaid : Prop := unitsLaysRow.holds Try.pinned (OpenSpec.ofChange unitsLaysSpec)

/-- ITS FALSE NEIGHBOUR: 'it returns false'. Refute it at one input. -/
def unitsLaysWrong : ChangeSpec := { name := "unitsLays", fn := fun _ => fun
  | [d1, d2] => { results := [.lit (.bool false)], args := [d1, d2] }
  | _ => none }
def UnitsLaysWrongFalsely : Prop := unitsLaysRow.holds Try.pinned (OpenSpec.ofChange unitsLaysWrong)

/-- 'sheavelaw06.UnitsReads': WHATEVER THE INPUT: true; the input reads as it did. -/
def unitsReadsSpec : ChangeSpec := { name := "unitsReads", fn := fun _ => fun
  | [d] => { results := [.lit (.bool true)], args := [d] }
  | _ => none }
def unitsReadsRow : OpenClaim := { program := "yteihhadcmmdidaa", sum := "ee995bd92c7e4280b74f91b7af6204f4f3fe06807b4e1e9f6a5641033d0ff80f", func := "sheave/sheavelaw06.UnitsReads", spec := "unitsReads", unfollowed := true, recurses := true, apart := false }
def UnitsReadsSaid : Prop := unitsReadsRow.holds Try.pinned (OpenSpec.ofChange unitsReadsSpec)

/-- ITS FALSE NEIGHBOUR: 'it returns false'. Refute it at one input. -/
def unitsReadsWrong : ChangeSpec := { name := "unitsReads", fn := fun _ => fun
  | [d] => { results := [.lit (.bool false)], args := [d] }
  | _ => none }
def UnitsReadsWrongFalsely : Prop := unitsReadsRow.holds Try.pinned (OpenSpec.ofChange unitsReadsWrong)

/-- 'sheavelaw06.UnitsOctets': WHATEVER THE INPUT: true; the input reads as it did. -/
def unitsOctetsSpec : ChangeSpec := { name := "unitsOctets", fn := fun _ => fun
  | [d1, d2] => { results := [.lit (.bool true)], args := [d1, d2] }
  | _ => none }
def unitsOctetsRow : OpenClaim := { program := "yteihhadcmmdidaa", sum := "ee995bd92c7e4280b74f91b7af6204f4f3fe06807b4e1e9f6a5641033d0ff80f", func := "sheave/sheavelaw06.UnitsOctets", spec := "unitsOctets", unfollowed := true, recurses := true, apart := false }
def UnitsOctetsSaid : Prop := unitsOctetsRow.holds Try.pinned (OpenSpec.ofChange unitsOctetsSpec)

/-- ITS FALSE NEIGHBOUR: 'it returns false'. Refute it at one input. -/
def unitsOctetsWrong : ChangeSpec := { name := "unitsOctets", fn := fun _ => fun
  | [d1, d2] => { results := [.lit (.bool false)], args := [d1, d2] }
  | _ => none }
def UnitsOctetsWrongFalsely : Prop := unitsOctetsRow.holds Try.pinned (OpenSpec.ofChange unitsOctetsWrong)

/-- 'sheavelaw06.UnitsBack': WHATEVER THE INPUT: true; the input reads as it did. -/
def unitsBackSpec : ChangeSpec := { name := "unitsBack", fn := fun _ => fun
  | [d1, d2] => { results := [.lit (.bool true)], args := [d1, d2] }
  | _ => none }
def unitsBackRow : OpenClaim := { program := "yteihhadcmmdidaa", sum := "ee995bd92c7e4280b74f91b7af6204f4f3fe06807b4e1e9f6a5641033d0ff80f", func := "sheave/sheavelaw06.UnitsBack", spec := "unitsBack", unfollowed := true, recurses := true, apart := false }
def UnitsBackSaid : Prop := unitsBackRow.holds Try.pinned (OpenSpec.ofChange unitsBackSpec)

/-- ITS FALSE NEIGHBOUR: 'it returns false'. Refute it at one input. -/
def unitsBackWrong : ChangeSpec := { name := "unitsBack", fn := fun _ => fun
  | [d1, d2] => { results := [.lit (.bool false)], args := [d1, d2] }
  | _ => none }
def UnitsBackWrongFalsely : Prop := unitsBackRow.holds Try.pinned (OpenSpec.ofChange unitsBackWrong)

/- THE SECOND FORM. 'bulk': how many values and letters a reading holds, each counted each time it is reached (what is shared counts as often as it is met; a slice's spare places count too). A statement '..UptoSaid' is the law's where the arguments, and the package variables that the reading takes, are together of bulk at most 1048576: NARROWER than '..Said'. Prove '..Said' where nothing that the law and all that it calls make is longer than what came in: it says more and counts as full. Else prove '..UptoSaid'. A law counts once. -/
mutual
def uptoBulk {H : Type} : DataW H → Nat
  | .lit (.string bytes) => bytes.length + 1
  | .lit _ => 1
  | .nil => 1
  | .ptr d => uptoBulk d + 1
  | .slice elems spare => uptoBulkAll elems + uptoBulkAll spare + 1
  | .agg parts => uptoBulkAll parts + 1
  | .iface _ d => uptoBulk d + 1
  | .map entries => uptoBulkEntries entries + 1
  | .held _ => 1
def uptoBulkAll {H : Type} : List (DataW H) → Nat
  | [] => 0
  | d :: r => uptoBulk d + uptoBulkAll r
def uptoBulkEntries {H : Type} : List (Lit × DataW H) → Nat
  | [] => 0
  | x :: r => uptoBulkEntry x + uptoBulkEntries r
def uptoBulkEntry {H : Type} : Lit × DataW H → Nat
  | (.string bytes, d) => bytes.length + uptoBulk d + 1
  | (_, d) => uptoBulk d + 1
 end
def uptoSmall : (H : Type) → List (DataW H) → Bool := fun _ ds => decide (uptoBulkAll ds ≤ 1048576)
def OpenSpec.upto (s : _root_.Go.ChangeSpec) : _root_.Go.OpenSpec := { _root_.Go.OpenSpec.ofChange s with cond := some uptoSmall }

/-- 'sheavelaw06.UnitsLays', WHERE WHAT IT READS IS OF BULK AT MOST 1048576: true; the input reads as it did. -/
def unitsLaysUptoRow : OpenClaim := { program := "yteihhadcmmdidaa", sum := "ee995bd92c7e4280b74f91b7af6204f4f3fe06807b4e1e9f6a5641033d0ff80f", func := "sheave/sheavelaw06.UnitsLays", spec := "unitsLays", unfollowed := true, recurses := true, apart := false, narrowed := true }
def UnitsLaysUptoSaid : Prop := unitsLaysUptoRow.holds Try.pinned (OpenSpec.upto unitsLaysSpec)

/-- 'sheavelaw06.UnitsReads', WHERE WHAT IT READS IS OF BULK AT MOST 1048576: true; the input reads as it did. -/
def unitsReadsUptoRow : OpenClaim := { program := "yteihhadcmmdidaa", sum := "ee995bd92c7e4280b74f91b7af6204f4f3fe06807b4e1e9f6a5641033d0ff80f", func := "sheave/sheavelaw06.UnitsReads", spec := "unitsReads", unfollowed := true, recurses := true, apart := false, narrowed := true }
def UnitsReadsUptoSaid : Prop := unitsReadsUptoRow.holds Try.pinned (OpenSpec.upto unitsReadsSpec)

/-- 'sheavelaw06.UnitsOctets', WHERE WHAT IT READS IS OF BULK AT MOST 1048576: true; the input reads as it did. -/
def unitsOctetsUptoRow : OpenClaim := { program := "yteihhadcmmdidaa", sum := "ee995bd92c7e4280b74f91b7af6204f4f3fe06807b4e1e9f6a5641033d0ff80f", func := "sheave/sheavelaw06.UnitsOctets", spec := "unitsOctets", unfollowed := true, recurses := true, apart := false, narrowed := true }
def UnitsOctetsUptoSaid : Prop := unitsOctetsUptoRow.holds Try.pinned (OpenSpec.upto unitsOctetsSpec)

/-- 'sheavelaw06.UnitsBack', WHERE WHAT IT READS IS OF BULK AT MOST 1048576: true; the input reads as it did. -/
def unitsBackUptoRow : OpenClaim := { program := "yteihhadcmmdidaa", sum := "ee995bd92c7e4280b74f91b7af6204f4f3fe06807b4e1e9f6a5641033d0ff80f", func := "sheave/sheavelaw06.UnitsBack", spec := "unitsBack", unfollowed := true, recurses := true, apart := false, narrowed := true }
def UnitsBackUptoSaid : Prop := unitsBackUptoRow.holds Try.pinned (OpenSpec.upto unitsBackSpec)

end Rows
end Go.Proofs.Yteihhadcmmdidaa
