/-
  No cell of these rows narrows 'for every input' (looked for: loops, veiled, ifaces, maps, wideKeys, modest, calm, conditions, laid).
  DERIVED. THE GIVEN ROWS OF THIS SEAT. 4 by the template 'for every input the law returns true; each argument reads behind the call as it read before'; 0 by the template 'total and deterministic' (their statements: YtnhojfejiipamaaTotals.lean).
  GIVEN WITH THE SEED: the statements are not yours to turn. If you find one false, say at which input.
  Laid BY PROGRAM, IN A SANDBOX (cutbox-rows.mjs): the forced cells as the released guide's own fill.sh prints them over the translation 941bddd24c1044f7… (all of the seat's roots in one cut). By AI agents, Wed Nov 11 2026. No macro, syntax, notation, axiom, sorry.
-/
import Derived.Test.YtnhojfejiipamaaChecked
import GoSem.Claim
import GoSem.ClaimJoined
import GoSem.ClaimMapViews
import Derived.JoinedTies
import Derived.KernelRfl
namespace Go.Proofs.Ytnhojfejiipamaa
/- THE CELL 'sum', in the pinned program and in every row, IS THE sha256 OF THE DUMP (.gsa) THAT YtnhojfejiipamaaProg.lean LOADS. Nothing in Lean hashes anything: it is a label: what it is worth is what the hold of that sum in a sandbox is worth. -/
noncomputable def Try.pinned : Pinned := { name := "ytnhojfejiipamaa", sum := "941bddd24c1044f7ad3d058641e5fdbcf5ebf786eed3dcd8e2afd5012d89dc99", checked := Try.checked }
namespace Rows
def none {H : Type} : Left H := { results := [], args := [] }

/-- 'sheavelaw12.ReperHas': WHATEVER THE INPUT: true; the input reads as it did. -/
def reperHasSpec : ChangeSpec := { name := "reperHas", fn := fun _ => fun
  | [d1, d2] => { results := [.lit (.bool true)], args := [d1, d2] }
  | _ => none }
def reperHasRow : OpenClaim := { program := "ytnhojfejiipamaa", sum := "941bddd24c1044f7ad3d058641e5fdbcf5ebf786eed3dcd8e2afd5012d89dc99", func := "sheave/sheavelaw12.ReperHas", spec := "reperHas", unfollowed := true, recurses := true, apart := false }
def ReperHasSaid : Prop := reperHasRow.holds Try.pinned (OpenSpec.ofChange reperHasSpec)

/-- ITS FALSE NEIGHBOUR: 'it returns false'. Refute it at one input. -/
def reperHasWrong : ChangeSpec := { name := "reperHas", fn := fun _ => fun
  | [d1, d2] => { results := [.lit (.bool false)], args := [d1, d2] }
  | _ => none }
def ReperHasWrongFalsely : Prop := reperHasRow.holds Try.pinned (OpenSpec.ofChange reperHasWrong)

/-- 'sheavelaw12.ReperSelects': WHATEVER THE INPUT: true; the input reads as it did. -/
def reperSelectsSpec : ChangeSpec := { name := "reperSelects", fn := fun _ => fun
  | [d1, d2] => { results := [.lit (.bool true)], args := [d1, d2] }
  | _ => none }
def reperSelectsRow : OpenClaim := { program := "ytnhojfejiipamaa", sum := "941bddd24c1044f7ad3d058641e5fdbcf5ebf786eed3dcd8e2afd5012d89dc99", func := "sheave/sheavelaw12.ReperSelects", spec := "reperSelects", unfollowed := true, recurses := true, apart := false }
def ReperSelectsSaid : Prop := reperSelectsRow.holds Try.pinned (OpenSpec.ofChange reperSelectsSpec)

/-- ITS FALSE NEIGHBOUR: 'it returns false'. Refute it at one input. -/
def reperSelectsWrong : ChangeSpec := { name := "reperSelects", fn := fun _ => fun
  | [d1, d2] => { results := [.lit (.bool false)], args := [d1, d2] }
  | _ => none }
def ReperSelectsWrongFalsely : Prop := reperSelectsRow.holds Try.pinned (OpenSpec.ofChange reperSelectsWrong)

/-- 'sheavelaw12.ReperParts': WHATEVER THE INPUT: true; the input reads as it did. -/
def reperPartsSpec : ChangeSpec := { name := "reperParts", fn := fun _ => fun
  | [d1, d2] => { results := [.lit (.bool true)], args := [d1, d2] }
  | _ => none }
def reperPartsRow : OpenClaim := { program := "ytnhojfejiipamaa", sum := "941bddd24c1044f7ad3d058641e5fdbcf5ebf786eed3dcd8e2afd5012d89dc99", func := "sheave/sheavelaw12.ReperParts", spec := "reperParts", unfollowed := true, recurses := true, apart := false }
def ReperPartsSaid : Prop := reperPartsRow.holds Try.pinned (OpenSpec.ofChange reperPartsSpec)

/-- ITS FALSE NEIGHBOUR: 'it returns false'. Refute it at one input. -/
def reperPartsWrong : ChangeSpec := { name := "reperParts", fn := fun _ => fun
  | [d1, d2] => { results := [.lit (.bool false)], args := [d1, d2] }
  | _ => none }
def ReperPartsWrongFalsely : Prop := reperPartsRow.holds Try.pinned (OpenSpec.ofChange reperPartsWrong)

/-- 'sheavelaw12.ReperSizes': WHATEVER THE INPUT: true; the input reads as it did. -/
def reperSizesSpec : ChangeSpec := { name := "reperSizes", fn := fun _ => fun
  | [d] => { results := [.lit (.bool true)], args := [d] }
  | _ => none }
def reperSizesRow : OpenClaim := { program := "ytnhojfejiipamaa", sum := "941bddd24c1044f7ad3d058641e5fdbcf5ebf786eed3dcd8e2afd5012d89dc99", func := "sheave/sheavelaw12.ReperSizes", spec := "reperSizes", unfollowed := true, recurses := true, apart := false }
def ReperSizesSaid : Prop := reperSizesRow.holds Try.pinned (OpenSpec.ofChange reperSizesSpec)

/-- ITS FALSE NEIGHBOUR: 'it returns false'. Refute it at one input. -/
def reperSizesWrong : ChangeSpec := { name := "reperSizes", fn := fun _ => fun
  | [d] => { results := [.lit (.bool false)], args := [d] }
  | _ => none }
def ReperSizesWrongFalsely : Prop := reperSizesRow.holds Try.pinned (OpenSpec.ofChange reperSizesWrong)

/- THE SECOND FORM. 'bulk': how many values and letters a reading holds, each counted each time it is reached (what is shared counts as often as it is met; a slice's spare places count too). A statement '..UptoSaid' is the law's where the arguments, and the package variables that the reading takes, are together of bulk at most 1048576: NARROWER than '..Said'. Prove '..Said' where nothing that the law and all that it calls make is longer than what came in: it says more and counts as full. Else prove '..UptoSaid'. A law counts once. -/
mutual
def uptoBulk {H : Type} : DataW H → Nat
  | .lit (.string bytes) => bytes.length + 1
  | .lit _ => 1
  | .nil => 1
  | .ptr d => uptoBulk d + 1
  | .slice elems spare => uptoBulkAll elems + uptoBulkAll spare + 1
  | .agg parts => uptoBulkAll parts + 1
  | .iface _ d => uptoBulk d + 1
  | .map entries => uptoBulkEntries entries + 1
  | .held _ => 1
def uptoBulkAll {H : Type} : List (DataW H) → Nat
  | [] => 0
  | d :: r => uptoBulk d + uptoBulkAll r
def uptoBulkEntries {H : Type} : List (Lit × DataW H) → Nat
  | [] => 0
  | x :: r => uptoBulkEntry x + uptoBulkEntries r
def uptoBulkEntry {H : Type} : Lit × DataW H → Nat
  | (.string bytes, d) => bytes.length + uptoBulk d + 1
  | (_, d) => uptoBulk d + 1
 end
def uptoSmall : (H : Type) → List (DataW H) → Bool := fun _ ds => decide (uptoBulkAll ds ≤ 1048576)
def OpenSpec.upto (s : _root_.Go.ChangeSpec) : _root_.Go.OpenSpec := { _root_.Go.OpenSpec.ofChange s with cond := some uptoSmall }

/-- 'sheavelaw12.ReperHas', WHERE WHAT IT READS IS OF BULK AT MOST 1048576: true; the input reads as it did. -/
def reperHasUptoRow : OpenClaim := { program := "ytnhojfejiipamaa", sum := "941bddd24c1044f7ad3d058641e5fdbcf5ebf786eed3dcd8e2afd5012d89dc99", func := "sheave/sheavelaw12.ReperHas", spec := "reperHas", unfollowed := true, recurses := true, apart := false, narrowed := true }
def ReperHasUptoSaid : Prop := reperHasUptoRow.holds Try.pinned (OpenSpec.upto reperHasSpec)

/-- 'sheavelaw12.ReperSelects', WHERE WHAT IT READS IS OF BULK AT MOST 1048576: true; the input reads as it did. -/
def reperSelectsUptoRow : OpenClaim := { program := "ytnhojfejiipamaa", sum := "941bddd24c1044f7ad3d058641e5fdbcf5ebf786eed3dcd8e2afd5012d89dc99", func := "sheave/sheavelaw12.ReperSelects", spec := "reperSelects", unfollowed := true, recurses := true, apart := false, narrowed := true }
def ReperSelectsUptoSaid : Prop := reperSelectsUptoRow.holds Try.pinned (OpenSpec.upto reperSelectsSpec)

/-- 'sheavelaw12.ReperParts', WHERE WHAT IT READS IS OF BULK AT MOST 1048576: true; the input reads as it did. -/
def reperPartsUptoRow : OpenClaim := { program := "ytnhojfejiipamaa", sum := "941bddd24c1044f7ad3d058641e5fdbcf5ebf786eed3dcd8e2afd5012d89dc99", func := "sheave/sheavelaw12.ReperParts", spec := "reperParts", unfollowed := true, recurses := true, apart := false, narrowed := true }
def ReperPartsUptoSaid : Prop := reperPartsUptoRow.holds Try.pinned (OpenSpec.upto reperPartsSpec)

/-- 'sheavelaw12.ReperSizes', WHERE WHAT IT READS IS OF BULK AT MOST 1048576: true; the input reads as it did. -/
def reperSizesUptoRow : OpenClaim := { program := "ytnhojfejiipamaa", sum := "941bddd24c1044f7ad3d058641e5fdbcf5ebf786eed3dcd8e2afd5012d89dc99", func := "sheave/sheavelaw12.ReperSizes", spec := "reperSizes", unfollowed := true, recurses := true, apart := false, narrowed := true }
def ReperSizesUptoSaid : Prop := reperSizesUptoRow.holds Try.pinned (OpenSpec.upto reperSizesSpec)

end Rows
end Go.Proofs.Ytnhojfejiipamaa
