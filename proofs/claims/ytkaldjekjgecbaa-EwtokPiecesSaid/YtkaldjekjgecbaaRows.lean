/-
  No cell of these rows narrows 'for every input' (looked for: loops, veiled, ifaces, maps, wideKeys, modest, calm, conditions, laid).
  DERIVED. THE GIVEN ROWS OF THIS SEAT. 3 by the template 'for every input the law returns true; each argument reads behind the call as it read before'; 0 by the template 'total and deterministic' (their statements: YtkaldjekjgecbaaTotals.lean).
  GIVEN WITH THE SEED: the statements are not yours to turn. If you find one false, say at which input.
  Laid BY PROGRAM, IN A SANDBOX (cutbox-rows.mjs): the forced cells as the released guide's own fill.sh prints them over the translation b324bc6b6eec4291… (all of the seat's roots in one cut). By AI agents, Wed Nov 11 2026. No macro, syntax, notation, axiom, sorry.
-/
import Derived.Test.YtkaldjekjgecbaaChecked
import GoSem.Claim
import GoSem.ClaimJoined
import GoSem.ClaimMapViews
import Derived.JoinedTies
import Derived.KernelRfl
namespace Go.Proofs.Ytkaldjekjgecbaa
/- THE CELL 'sum', in the pinned program and in every row, IS THE sha256 OF THE DUMP (.gsa) THAT YtkaldjekjgecbaaProg.lean LOADS. Nothing in Lean hashes anything: it is a label: what it is worth is what the hold of that sum in a sandbox is worth. -/
noncomputable def Try.pinned : Pinned := { name := "ytkaldjekjgecbaa", sum := "b324bc6b6eec42916e014e6eb541bf0b6fcfd14e47a88c0546eb6081082d110c", checked := Try.checked }
namespace Rows
def none {H : Type} : Left H := { results := [], args := [] }

/-- 'sheavelaw32.EwtokPieces': WHATEVER THE INPUT: true; the input reads as it did. -/
def ewtokPiecesSpec : ChangeSpec := { name := "ewtokPieces", fn := fun _ => fun
  | [d] => { results := [.lit (.bool true)], args := [d] }
  | _ => none }
def ewtokPiecesRow : OpenClaim := { program := "ytkaldjekjgecbaa", sum := "b324bc6b6eec42916e014e6eb541bf0b6fcfd14e47a88c0546eb6081082d110c", func := "sheave/sheavelaw32.EwtokPieces", spec := "ewtokPieces", inPlace := ["internal/bytealg.IndexByte", "internal/bytealg.Index", "internal/bytealg.IndexByteString"], unfollowed := true, recurses := true, named := ["internal/bytealg.MaxLen"], apart := false }
def EwtokPiecesSaid : Prop := ewtokPiecesRow.holds Try.pinned (OpenSpec.ofChange ewtokPiecesSpec)

/-- ITS FALSE NEIGHBOUR: 'it returns false'. Refute it at one input. -/
def ewtokPiecesWrong : ChangeSpec := { name := "ewtokPieces", fn := fun _ => fun
  | [d] => { results := [.lit (.bool false)], args := [d] }
  | _ => none }
def EwtokPiecesWrongFalsely : Prop := ewtokPiecesRow.holds Try.pinned (OpenSpec.ofChange ewtokPiecesWrong)

/-- 'sheavelaw32.EwtokHidden': WHATEVER THE INPUT: true; the input reads as it did. -/
def ewtokHiddenSpec : ChangeSpec := { name := "ewtokHidden", fn := fun _ => fun
  | [d] => { results := [.lit (.bool true)], args := [d] }
  | _ => none }
def ewtokHiddenRow : OpenClaim := { program := "ytkaldjekjgecbaa", sum := "b324bc6b6eec42916e014e6eb541bf0b6fcfd14e47a88c0546eb6081082d110c", func := "sheave/sheavelaw32.EwtokHidden", spec := "ewtokHidden", inPlace := ["internal/bytealg.IndexByte", "internal/bytealg.Index", "internal/bytealg.IndexByteString"], unfollowed := true, recurses := true, named := ["internal/bytealg.MaxLen"], apart := false }
def EwtokHiddenSaid : Prop := ewtokHiddenRow.holds Try.pinned (OpenSpec.ofChange ewtokHiddenSpec)

/-- ITS FALSE NEIGHBOUR: 'it returns false'. Refute it at one input. -/
def ewtokHiddenWrong : ChangeSpec := { name := "ewtokHidden", fn := fun _ => fun
  | [d] => { results := [.lit (.bool false)], args := [d] }
  | _ => none }
def EwtokHiddenWrongFalsely : Prop := ewtokHiddenRow.holds Try.pinned (OpenSpec.ofChange ewtokHiddenWrong)

/-- 'sheavelaw32.EwtokWhole': WHATEVER THE INPUT: true; the input reads as it did. -/
def ewtokWholeSpec : ChangeSpec := { name := "ewtokWhole", fn := fun _ => fun
  | [d] => { results := [.lit (.bool true)], args := [d] }
  | _ => none }
def ewtokWholeRow : OpenClaim := { program := "ytkaldjekjgecbaa", sum := "b324bc6b6eec42916e014e6eb541bf0b6fcfd14e47a88c0546eb6081082d110c", func := "sheave/sheavelaw32.EwtokWhole", spec := "ewtokWhole", inPlace := ["internal/bytealg.IndexByte", "internal/bytealg.Index", "internal/bytealg.IndexByteString"], unfollowed := true, recurses := true, named := ["internal/bytealg.MaxLen"], apart := false }
def EwtokWholeSaid : Prop := ewtokWholeRow.holds Try.pinned (OpenSpec.ofChange ewtokWholeSpec)

/-- ITS FALSE NEIGHBOUR: 'it returns false'. Refute it at one input. -/
def ewtokWholeWrong : ChangeSpec := { name := "ewtokWhole", fn := fun _ => fun
  | [d] => { results := [.lit (.bool false)], args := [d] }
  | _ => none }
def EwtokWholeWrongFalsely : Prop := ewtokWholeRow.holds Try.pinned (OpenSpec.ofChange ewtokWholeWrong)

/- THE SECOND FORM. 'bulk': how many values and letters a reading holds, each counted each time it is reached (what is shared counts as often as it is met; a slice's spare places count too). A statement '..UptoSaid' is the law's where the arguments, and the package variables that the reading takes, are together of bulk at most 1048576: NARROWER than '..Said'. Prove '..Said' where nothing that the law and all that it calls make is longer than what came in: it says more and counts as full. Else prove '..UptoSaid'. A law counts once. -/
mutual
def uptoBulk {H : Type} : DataW H → Nat
  | .lit (.string bytes) => bytes.length + 1
  | .lit _ => 1
  | .nil => 1
  | .ptr d => uptoBulk d + 1
  | .slice elems spare => uptoBulkAll elems + uptoBulkAll spare + 1
  | .agg parts => uptoBulkAll parts + 1
  | .iface _ d => uptoBulk d + 1
  | .map entries => uptoBulkEntries entries + 1
  | .held _ => 1
def uptoBulkAll {H : Type} : List (DataW H) → Nat
  | [] => 0
  | d :: r => uptoBulk d + uptoBulkAll r
def uptoBulkEntries {H : Type} : List (Lit × DataW H) → Nat
  | [] => 0
  | x :: r => uptoBulkEntry x + uptoBulkEntries r
def uptoBulkEntry {H : Type} : Lit × DataW H → Nat
  | (.string bytes, d) => bytes.length + uptoBulk d + 1
  | (_, d) => uptoBulk d + 1
 end
def uptoSmall : (H : Type) → List (DataW H) → Bool := fun _ ds => decide (uptoBulkAll ds ≤ 1048576)
def OpenSpec.upto (s : _root_.Go.ChangeSpec) : _root_.Go.OpenSpec := { _root_.Go.OpenSpec.ofChange s with cond := some uptoSmall }

/-- 'sheavelaw32.EwtokPieces', WHERE WHAT IT READS IS OF BULK AT MOST 1048576: true; the input reads as it did. -/
def ewtokPiecesUptoRow : OpenClaim := { program := "ytkaldjekjgecbaa", sum := "b324bc6b6eec42916e014e6eb541bf0b6fcfd14e47a88c0546eb6081082d110c", func := "sheave/sheavelaw32.EwtokPieces", spec := "ewtokPieces", inPlace := ["internal/bytealg.IndexByte", "internal/bytealg.Index", "internal/bytealg.IndexByteString"], unfollowed := true, recurses := true, named := ["internal/bytealg.MaxLen"], apart := false, narrowed := true }
def EwtokPiecesUptoSaid : Prop := ewtokPiecesUptoRow.holds Try.pinned (OpenSpec.upto ewtokPiecesSpec)

/-- 'sheavelaw32.EwtokHidden', WHERE WHAT IT READS IS OF BULK AT MOST 1048576: true; the input reads as it did. -/
def ewtokHiddenUptoRow : OpenClaim := { program := "ytkaldjekjgecbaa", sum := "b324bc6b6eec42916e014e6eb541bf0b6fcfd14e47a88c0546eb6081082d110c", func := "sheave/sheavelaw32.EwtokHidden", spec := "ewtokHidden", inPlace := ["internal/bytealg.IndexByte", "internal/bytealg.Index", "internal/bytealg.IndexByteString"], unfollowed := true, recurses := true, named := ["internal/bytealg.MaxLen"], apart := false, narrowed := true }
def EwtokHiddenUptoSaid : Prop := ewtokHiddenUptoRow.holds Try.pinned (OpenSpec.upto ewtokHiddenSpec)

/-- 'sheavelaw32.EwtokWhole', WHERE WHAT IT READS IS OF BULK AT MOST 1048576: true; the input reads as it did. -/
def ewtokWholeUptoRow : OpenClaim := { program := "ytkaldjekjgecbaa", sum := "b324bc6b6eec42916e014e6eb541bf0b6fcfd14e47a88c0546eb6081082d110c", func := "sheave/sheavelaw32.EwtokWhole", spec := "ewtokWhole", inPlace := ["internal/bytealg.IndexByte", "internal/bytealg.Index", "internal/bytealg.IndexByteString"], unfollowed := true, recurses := true, named := ["internal/bytealg.MaxLen"], apart := false, narrowed := true }
def EwtokWholeUptoSaid : Prop := ewtokWholeUptoRow.holds Try.pinned (OpenSpec.upto ewtokWholeSpec)

end Rows
end Go.Proofs.Ytkaldjekjgecbaa
