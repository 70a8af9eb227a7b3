/-
  No cell of these rows narrows 'for every input' (looked for: loops, veiled, ifaces, maps, wideKeys, modest, calm, conditions, laid).
  DERIVED. THE GIVEN ROWS OF THIS SEAT. 4 by the template 'for every input the law returns true; each argument reads behind the call as it read before'; 0 by the template 'total and deterministic' (their statements: YtplceogclmgnnaaGreatTotals.lean).
  GIVEN WITH THE SEED: the statements are not yours to turn. If you find one false, say at which input.
  Laid BY PROGRAM, IN A SANDBOX (cutbox-rows.mjs): the forced cells as the released guide's own fill.sh prints them over the translation 1b1c36316f1327f3… (all of the seat's roots in one cut). By AI agents, Wed Nov 11 2026. No macro, syntax, notation, axiom, sorry.
-/
import Derived.Test.YtplceogclmgnnaaGreatChecked
import GoSem.Claim
import GoSem.ClaimJoined
import GoSem.ClaimMapViews
import Derived.JoinedTies
import Derived.KernelRfl
namespace Go.Proofs.YtplceogclmgnnaaGreat
/- THE CELL 'sum', in the pinned program and in every row, IS THE sha256 OF THE DUMP (.gsa) THAT YtplceogclmgnnaaGreatProg.lean LOADS. Nothing in Lean hashes anything: it is a label: what it is worth is what the hold of that sum in a sandbox is worth. -/
noncomputable def Tryz.pinned : Pinned := { name := "ytplceogclmgnnaagreat", sum := "1b1c36316f1327f301ac8a561639c9d43057b5131d2eb90be533f3b213a732b9", checked := Tryz.checked }
namespace Rows
def none {H : Type} : Left H := { results := [], args := [] }

/-- 'sheavelaw29.EwformParses': WHATEVER THE INPUT: true; the input reads as it did. -/
def ewformParsesSpec : ChangeSpec := { name := "ewformParses", fn := fun _ => fun
  | [d] => { results := [.lit (.bool true)], args := [d] }
  | _ => none }
def ewformParsesRow : OpenClaim := { program := "ytplceogclmgnnaagreat", sum := "1b1c36316f1327f301ac8a561639c9d43057b5131d2eb90be533f3b213a732b9", func := "sheave/sheavelaw29.EwformParses", spec := "ewformParses", inPlace := ["internal/bytealg.IndexByte", "internal/bytealg.Index", "internal/bytealg.IndexByteString"], unfollowed := true, recurses := true, named := ["internal/bytealg.MaxLen"], apart := false }
def EwformParsesSaid : Prop := ewformParsesRow.holds Tryz.pinned (OpenSpec.ofChange ewformParsesSpec)

/-- ITS FALSE NEIGHBOUR: 'it returns false'. Refute it at one input. -/
def ewformParsesWrong : ChangeSpec := { name := "ewformParses", fn := fun _ => fun
  | [d] => { results := [.lit (.bool false)], args := [d] }
  | _ => none }
def EwformParsesWrongFalsely : Prop := ewformParsesRow.holds Tryz.pinned (OpenSpec.ofChange ewformParsesWrong)

/-- 'sheavelaw29.EwformReads': WHATEVER THE INPUT: true; the input reads as it did. -/
def ewformReadsSpec : ChangeSpec := { name := "ewformReads", fn := fun _ => fun
  | [d] => { results := [.lit (.bool true)], args := [d] }
  | _ => none }
def ewformReadsRow : OpenClaim := { program := "ytplceogclmgnnaagreat", sum := "1b1c36316f1327f301ac8a561639c9d43057b5131d2eb90be533f3b213a732b9", func := "sheave/sheavelaw29.EwformReads", spec := "ewformReads", inPlace := ["internal/bytealg.IndexByte", "internal/bytealg.Index", "internal/bytealg.IndexByteString"], unfollowed := true, recurses := true, named := ["internal/bytealg.MaxLen"], apart := false }
def EwformReadsSaid : Prop := ewformReadsRow.holds Tryz.pinned (OpenSpec.ofChange ewformReadsSpec)

/-- ITS FALSE NEIGHBOUR: 'it returns false'. Refute it at one input. -/
def ewformReadsWrong : ChangeSpec := { name := "ewformReads", fn := fun _ => fun
  | [d] => { results := [.lit (.bool false)], args := [d] }
  | _ => none }
def EwformReadsWrongFalsely : Prop := ewformReadsRow.holds Tryz.pinned (OpenSpec.ofChange ewformReadsWrong)

/-- 'sheavelaw29.EwformLays': WHATEVER THE INPUT: true; the input reads as it did. -/
def ewformLaysSpec : ChangeSpec := { name := "ewformLays", fn := fun _ => fun
  | [d1, d2, d3] => { results := [.lit (.bool true)], args := [d1, d2, d3] }
  | _ => none }
def ewformLaysRow : OpenClaim := { program := "ytplceogclmgnnaagreat", sum := "1b1c36316f1327f301ac8a561639c9d43057b5131d2eb90be533f3b213a732b9", func := "sheave/sheavelaw29.EwformLays", spec := "ewformLays", inPlace := ["internal/bytealg.IndexByte", "internal/bytealg.Index", "internal/bytealg.IndexByteString"], unfollowed := true, recurses := true, named := ["internal/bytealg.MaxLen"], apart := false }
def EwformLaysSaid : Prop := ewformLaysRow.holds Tryz.pinned (OpenSpec.ofChange ewformLaysSpec)

/-- ITS FALSE NEIGHBOUR: 'it returns false'. Refute it at one input. -/
def ewformLaysWrong : ChangeSpec := { name := "ewformLays", fn := fun _ => fun
  | [d1, d2, d3] => { results := [.lit (.bool false)], args := [d1, d2, d3] }
  | _ => none }
def EwformLaysWrongFalsely : Prop := ewformLaysRow.holds Tryz.pinned (OpenSpec.ofChange ewformLaysWrong)

/-- 'sheavelaw29.EwformBack': WHATEVER THE INPUT: true; the input reads as it did. -/
def ewformBackSpec : ChangeSpec := { name := "ewformBack", fn := fun _ => fun
  | [d1, d2, d3] => { results := [.lit (.bool true)], args := [d1, d2, d3] }
  | _ => none }
def ewformBackRow : OpenClaim := { program := "ytplceogclmgnnaagreat", sum := "1b1c36316f1327f301ac8a561639c9d43057b5131d2eb90be533f3b213a732b9", func := "sheave/sheavelaw29.EwformBack", spec := "ewformBack", inPlace := ["internal/bytealg.IndexByte", "internal/bytealg.Index", "internal/bytealg.IndexByteString"], unfollowed := true, recurses := true, named := ["internal/bytealg.MaxLen"], apart := false }
def EwformBackSaid : Prop := ewformBackRow.holds Tryz.pinned (OpenSpec.ofChange ewformBackSpec)

/-- ITS FALSE NEIGHBOUR: 'it returns false'. Refute it at one input. -/
def ewformBackWrong : ChangeSpec := { name := "ewformBack", fn := fun _ => fun
  | [d1, d2, d3] => { results := [.lit (.bool false)], args := [d1, d2, d3] }
  | _ => none }
def EwformBackWrongFalsely : Prop := ewformBackRow.holds Tryz.pinned (OpenSpec.ofChange ewformBackWrong)

/- THE SECOND FORM. 'bulk': how many values and letters a reading holds, each counted each time it is reached (what is shared counts as often as it is met; a slice's spare places count too). A statement '..UptoSaid' is the law's where the arguments, and the package variables that the reading takes, are together of bulk at most 1048576: NARROWER than '..Said'. Prove '..Said' where nothing that the law and all that it calls make is longer than what came in: it says more and counts as full. Else prove '..UptoSaid'. A law counts once. -/
mutual
def uptoBulk {H : Type} : DataW H → Nat
  | .lit (.string bytes) => bytes.length + 1
  | .lit _ => 1
  | .nil => 1
  | .ptr d => uptoBulk d + 1
  | .slice elems spare => uptoBulkAll elems + uptoBulkAll spare + 1
  | .agg parts => uptoBulkAll parts + 1
  | .iface _ d => uptoBulk d + 1
  | .map entries => uptoBulkEntries entries + 1
  | .held _ => 1
def uptoBulkAll {H : Type} : List (DataW H) → Nat
  | [] => 0
  | d :: r => uptoBulk d + uptoBulkAll r
def uptoBulkEntries {H : Type} : List (Lit × DataW H) → Nat
  | [] => 0
  | x :: r => uptoBulkEntry x + uptoBulkEntries r
def uptoBulkEntry {H : Type} : Lit × DataW H → Nat
  | (.string bytes, d) => bytes.length + uptoBulk d + 1
  | (_, d) => uptoBulk d + 1
 end
def uptoSmall : (H : Type) → List (DataW H) → Bool := fun _ ds => decide (uptoBulkAll ds ≤ 1048576)
def OpenSpec.upto (s : _root_.Go.ChangeSpec) : _root_.Go.OpenSpec := { _root_.Go.OpenSpec.ofChange s with cond := some uptoSmall }

/-- 'sheavelaw29.EwformParses', WHERE WHAT IT READS IS OF BULK AT MOST 1048576: true; the input reads as it did. -/
def ewformParsesUptoRow : OpenClaim := { program := "ytplceogclmgnnaagreat", sum := "1b1c36316f1327f301ac8a561639c9d43057b5131d2eb90be533f3b213a732b9", func := "sheave/sheavelaw29.EwformParses", spec := "ewformParses", inPlace := ["internal/bytealg.IndexByte", "internal/bytealg.Index", "internal/bytealg.IndexByteString"], unfollowed := true, recurses := true, named := ["internal/bytealg.MaxLen"], apart := false, narrowed := true }
def EwformParsesUptoSaid : Prop := ewformParsesUptoRow.holds Tryz.pinned (OpenSpec.upto ewformParsesSpec)

/-- 'sheavelaw29.EwformReads', WHERE WHAT IT READS IS OF BULK AT MOST 1048576: true; the input reads as it did. -/
def ewformReadsUptoRow : OpenClaim := { program := "ytplceogclmgnnaagreat", sum := "1b1c36316f1327f301ac8a561639c9d43057b5131d2eb90be533f3b213a732b9", func := "sheave/sheavelaw29.EwformReads", spec := "ewformReads", inPlace := ["internal/bytealg.IndexByte", "internal/bytealg.Index", "internal/bytealg.IndexByteString"], unfollowed := true, recurses := true, named := ["internal/bytealg.MaxLen"], apart := false, narrowed := true }
def EwformReadsUptoSaid : Prop := ewformReadsUptoRow.holds Tryz.pinned (OpenSpec.upto ewformReadsSpec)

/-- 'sheavelaw29.EwformLays', WHERE WHAT IT READS IS OF BULK AT MOST 1048576: true; the input reads as it did. -/
def ewformLaysUptoRow : OpenClaim := { program := "ytplceogclmgnnaagreat", sum := "1b1c36316f1327f301ac8a561639c9d43057b5131d2eb90be533f3b213a732b9", func := "sheave/sheavelaw29.EwformLays", spec := "ewformLays", inPlace := ["internal/bytealg.IndexByte", "internal/bytealg.Index", "internal/bytealg.IndexByteString"], unfollowed := true, recurses := true, named := ["internal/bytealg.MaxLen"], apart := false, narrowed := true }
def EwformLaysUptoSaid : Prop := ewformLaysUptoRow.holds Tryz.pinned (OpenSpec.upto ewformLaysSpec)

/-- 'sheavelaw29.EwformBack', WHERE WHAT IT READS IS OF BULK AT MOST 1048576: true; the input reads as it did. -/
def ewformBackUptoRow : OpenClaim := { program := "ytplceogclmgnnaagreat", sum := "1b1c36316f1327f301ac8a561639c9d43057b5131d2eb90be533f3b213a732b9", func := "sheave/sheavelaw29.EwformBack", spec := "ewformBack", inPlace := ["internal/bytealg.IndexByte", "internal/bytealg.Index", "internal/bytealg.IndexByteString"], unfollowed := true, recurses := true, named := ["internal/bytealg.MaxLen"], apart := false, narrowed := true }
def EwformBackUptoSaid : Prop := ewformBackUptoRow.holds Tryz.pinned (OpenSpec.upto ewformBackSpec)

end Rows
end Go.Proofs.YtplceogclmgnnaaGreat
