/-
  No cell of these rows narrows 'for every input' (looked for: loops, veiled, ifaces, maps, wideKeys, modest, calm, conditions, laid).
  DERIVED. THE GIVEN ROWS OF THIS SEAT. 4 by the template 'for every input the law returns true; each argument reads behind the call as it read before'; 0 by the template 'total and deterministic' (their statements: YtjkkhfnphfgihaaTotals.lean).
  GIVEN WITH THE SEED: the statements are not yours to turn. If you find one false, say at which input.
  Laid BY PROGRAM, IN A SANDBOX (cutbox-rows.mjs): the forced cells as the released guide's own fill.sh prints them over the translation d0f7cd9e68868af7… (all of the seat's roots in one cut). By AI agents, Wed Nov 11 2026. No macro, syntax, notation, axiom, sorry.
-/
import Derived.Test.YtjkkhfnphfgihaaChecked
import GoSem.Claim
import GoSem.ClaimJoined
import GoSem.ClaimMapViews
import Derived.JoinedTies
import Derived.KernelRfl
namespace Go.Proofs.Ytjkkhfnphfgihaa
/- THE CELL 'sum', in the pinned program and in every row, IS THE sha256 OF THE DUMP (.gsa) THAT YtjkkhfnphfgihaaProg.lean LOADS. Nothing in Lean hashes anything: it is a label: what it is worth is what the hold of that sum in a sandbox is worth. -/
noncomputable def Try.pinned : Pinned := { name := "ytjkkhfnphfgihaa", sum := "d0f7cd9e68868af7259c1c5a3d1b0d431fbafa997ecd846803dc9696e3eaa282", checked := Try.checked }
namespace Rows
def none {H : Type} : Left H := { results := [], args := [] }

/-- 'sheavelaw05.UtfallLays': WHATEVER THE INPUT: true; the input reads as it did. -/
def utfallLaysSpec : ChangeSpec := { name := "utfallLays", fn := fun _ => fun
  | [d] => { results := [.lit (.bool true)], args := [d] }
  | _ => none }
def utfallLaysRow : OpenClaim := { program := "ytjkkhfnphfgihaa", sum := "d0f7cd9e68868af7259c1c5a3d1b0d431fbafa997ecd846803dc9696e3eaa282", func := "sheave/sheavelaw05.UtfallLays", spec := "utfallLays", unfollowed := true, recurses := true, apart := false }
def UtfallLaysSaid : Prop := utfallLaysRow.holds Try.pinned (OpenSpec.ofChange utfallLaysSpec)

/-- ITS FALSE NEIGHBOUR: 'it returns false'. Refute it at one input. -/
def utfallLaysWrong : ChangeSpec := { name := "utfallLays", fn := fun _ => fun
  | [d] => { results := [.lit (.bool false)], args := [d] }
  | _ => none }
def UtfallLaysWrongFalsely : Prop := utfallLaysRow.holds Try.pinned (OpenSpec.ofChange utfallLaysWrong)

/-- 'sheavelaw05.UtfallReads': WHATEVER THE INPUT: true; the input reads as it did. -/
def utfallReadsSpec : ChangeSpec := { name := "utfallReads", fn := fun _ => fun
  | [d] => { results := [.lit (.bool true)], args := [d] }
  | _ => none }
def utfallReadsRow : OpenClaim := { program := "ytjkkhfnphfgihaa", sum := "d0f7cd9e68868af7259c1c5a3d1b0d431fbafa997ecd846803dc9696e3eaa282", func := "sheave/sheavelaw05.UtfallReads", spec := "utfallReads", unfollowed := true, recurses := true, apart := false }
def UtfallReadsSaid : Prop := utfallReadsRow.holds Try.pinned (OpenSpec.ofChange utfallReadsSpec)

/-- ITS FALSE NEIGHBOUR: 'it returns false'. Refute it at one input. -/
def utfallReadsWrong : ChangeSpec := { name := "utfallReads", fn := fun _ => fun
  | [d] => { results := [.lit (.bool false)], args := [d] }
  | _ => none }
def UtfallReadsWrongFalsely : Prop := utfallReadsRow.holds Try.pinned (OpenSpec.ofChange utfallReadsWrong)

/-- 'sheavelaw05.UtfallBack': WHATEVER THE INPUT: true; the input reads as it did. -/
def utfallBackSpec : ChangeSpec := { name := "utfallBack", fn := fun _ => fun
  | [d1, d2] => { results := [.lit (.bool true)], args := [d1, d2] }
  | _ => none }
def utfallBackRow : OpenClaim := { program := "ytjkkhfnphfgihaa", sum := "d0f7cd9e68868af7259c1c5a3d1b0d431fbafa997ecd846803dc9696e3eaa282", func := "sheave/sheavelaw05.UtfallBack", spec := "utfallBack", unfollowed := true, recurses := true, apart := false }
def UtfallBackSaid : Prop := utfallBackRow.holds Try.pinned (OpenSpec.ofChange utfallBackSpec)

/-- ITS FALSE NEIGHBOUR: 'it returns false'. Refute it at one input. -/
def utfallBackWrong : ChangeSpec := { name := "utfallBack", fn := fun _ => fun
  | [d1, d2] => { results := [.lit (.bool false)], args := [d1, d2] }
  | _ => none }
def UtfallBackWrongFalsely : Prop := utfallBackRow.holds Try.pinned (OpenSpec.ofChange utfallBackWrong)

/-- 'sheavelaw05.UtfallMends': WHATEVER THE INPUT: true; the input reads as it did. -/
def utfallMendsSpec : ChangeSpec := { name := "utfallMends", fn := fun _ => fun
  | [d] => { results := [.lit (.bool true)], args := [d] }
  | _ => none }
def utfallMendsRow : OpenClaim := { program := "ytjkkhfnphfgihaa", sum := "d0f7cd9e68868af7259c1c5a3d1b0d431fbafa997ecd846803dc9696e3eaa282", func := "sheave/sheavelaw05.UtfallMends", spec := "utfallMends", unfollowed := true, recurses := true, apart := false }
def UtfallMendsSaid : Prop := utfallMendsRow.holds Try.pinned (OpenSpec.ofChange utfallMendsSpec)

/-- ITS FALSE NEIGHBOUR: 'it returns false'. Refute it at one input. -/
def utfallMendsWrong : ChangeSpec := { name := "utfallMends", fn := fun _ => fun
  | [d] => { results := [.lit (.bool false)], args := [d] }
  | _ => none }
def UtfallMendsWrongFalsely : Prop := utfallMendsRow.holds Try.pinned (OpenSpec.ofChange utfallMendsWrong)

/- THE SECOND FORM. 'bulk': how many values and letters a reading holds, each counted each time it is reached (what is shared counts as often as it is met; a slice's spare places count too). A statement '..UptoSaid' is the law's where the arguments, and the package variables that the reading takes, are together of bulk at most 1048576: NARROWER than '..Said'. Prove '..Said' where nothing that the law and all that it calls make is longer than what came in: it says more and counts as full. Else prove '..UptoSaid'. A law counts once. -/
mutual
def uptoBulk {H : Type} : DataW H → Nat
  | .lit (.string bytes) => bytes.length + 1
  | .lit _ => 1
  | .nil => 1
  | .ptr d => uptoBulk d + 1
  | .slice elems spare => uptoBulkAll elems + uptoBulkAll spare + 1
  | .agg parts => uptoBulkAll parts + 1
  | .iface _ d => uptoBulk d + 1
  | .map entries => uptoBulkEntries entries + 1
  | .held _ => 1
def uptoBulkAll {H : Type} : List (DataW H) → Nat
  | [] => 0
  | d :: r => uptoBulk d + uptoBulkAll r
def uptoBulkEntries {H : Type} : List (Lit × DataW H) → Nat
  | [] => 0
  | x :: r => uptoBulkEntry x + uptoBulkEntries r
def uptoBulkEntry {H : Type} : Lit × DataW H → Nat
  | (.string bytes, d) => bytes.length + uptoBulk d + 1
  | (_, d) => uptoBulk d + 1
 end
def uptoSmall : (H : Type) → List (DataW H) → Bool := fun _ ds => decide (uptoBulkAll ds ≤ 1048576)
def OpenSpec.upto (s : _root_.Go.ChangeSpec) : _root_.Go.OpenSpec := { _root_.Go.OpenSpec.ofChange s with cond := some uptoSmall }

/-- 'sheavelaw05.UtfallLays', WHERE WHAT IT READS IS OF BULK AT MOST 1048576: true; the input reads as it did. -/
def utfallLaysUptoRow : OpenClaim := { program := "ytjkkhfnphfgihaa", sum := "d0f7cd9e68868af7259c1c5a3d1b0d431fbafa997ecd846803dc9696e3eaa282", func := "sheave/sheavelaw05.UtfallLays", spec := "utfallLays", unfollowed := true, recurses := true, apart := false, narrowed := true }
def UtfallLaysUptoSaid : Prop := utfallLaysUptoRow.holds Try.pinned (OpenSpec.upto utfallLaysSpec)

/-- 'sheavelaw05.UtfallReads', WHERE WHAT IT READS IS OF BULK AT MOST 1048576: true; the input reads as it did. -/
def utfallReadsUptoRow : OpenClaim := { program := "ytjkkhfnphfgihaa", sum := "d0f7cd9e68868af7259c1c5a3d1b0d431fbafa997ecd846803dc9696e3eaa282", func := "sheave/sheavelaw05.UtfallReads", spec := "utfallReads", unfollowed := true, recurses := true, apart := false, narrowed := true }
def UtfallReadsUptoSaid : Prop := utfallReadsUptoRow.holds Try.pinned (OpenSpec.upto utfallReadsSpec)

/-- 'sheavelaw05.UtfallBack', WHERE WHAT IT READS IS OF BULK AT MOST 1048576: true; the input reads as it did. -/
def utfallBackUptoRow : OpenClaim := { program := "ytjkkhfnphfgihaa", sum := "d0f7cd9e68868af7259c1c5a3d1b0d431fbafa997ecd846803dc9696e3eaa282", func := "sheave/sheavelaw05.UtfallBack", spec := "utfallBack", unfollowed := true, recurses := true, apart := false, narrowed := true }
def UtfallBackUptoSaid : Prop := utfallBackUptoRow.holds Try.pinned (OpenSpec.upto utfallBackSpec)

/-- 'sheavelaw05.UtfallMends', WHERE WHAT IT READS IS OF BULK AT MOST 1048576: true; the input reads as it did. -/
def utfallMendsUptoRow : OpenClaim := { program := "ytjkkhfnphfgihaa", sum := "d0f7cd9e68868af7259c1c5a3d1b0d431fbafa997ecd846803dc9696e3eaa282", func := "sheave/sheavelaw05.UtfallMends", spec := "utfallMends", unfollowed := true, recurses := true, apart := false, narrowed := true }
def UtfallMendsUptoSaid : Prop := utfallMendsUptoRow.holds Try.pinned (OpenSpec.upto utfallMendsSpec)

end Rows
end Go.Proofs.Ytjkkhfnphfgihaa
