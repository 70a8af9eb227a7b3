/-
  NARROWER THAN 'FOR EVERY INPUT', by the rows' own cells (each row's printed sentence says how): QreadReads: laid · QreadLines: laid · QreadBack: laid · QreadShort: laid.
  DERIVED. THE GIVEN ROWS OF THIS SEAT. 4 by the template 'for every input the law returns true; each argument reads behind the call as it read before'; 0 by the template 'total and deterministic' (their statements: YtpdoehdmeojmkaaDoorTotals.lean).
  GIVEN WITH THE SEED: the statements are not yours to turn. If you find one false, say at which input.
  Laid BY PROGRAM, IN A SANDBOX (cutbox-rows.mjs): the forced cells as the released guide's own fill.sh prints them over the translation ee66ffc1145fbd1a… (all of the seat's roots in one cut). By AI agents, Wed Nov 11 2026. No macro, syntax, notation, axiom, sorry.
-/
import Derived.Test.YtpdoehdmeojmkaaDoorChecked
import GoSem.PinnedTables
import GoSem.Claim
import GoSem.ClaimJoined
import GoSem.ClaimMapViews
import Derived.JoinedTies
import Derived.KernelRfl
namespace Go.Proofs.YtpdoehdmeojmkaaDoor
/- THE CELL 'sum', in the pinned program and in every row, IS THE sha256 OF THE DUMP (.gsa) THAT YtpdoehdmeojmkaaDoorProg.lean LOADS. Nothing in Lean hashes anything: it is a label: what it is worth is what the hold of that sum in a sandbox is worth. -/
noncomputable def Tryd.pinned : Pinned := { name := "ytpdoehdmeojmkaadoor", sum := "ee66ffc1145fbd1a8581f73621cc8b08562ca631ec7e5c11cf108feea7f21032", checked := Tryd.checked }
namespace Rows
def none {H : Type} : Left H := { results := [], args := [] }

/- WHAT THE LISTED PACKAGE-LEVEL VARIABLES READ AS WHEN THE CALL BEGINS. Each datum BY PROGRAM (the guide's laid-datum.mjs) off the statement by which the dump's own 'gosem.cut.vars' lays the variable. In a bare row this is a premise. The card (YtpdoehdmeojmkaaDoorCards.lean) ties it to the program's text. -/
def laid_unicode_utf8_acceptRanges {H : Type} : DataW H := .agg [.agg [.lit (.int .u8 128), .lit (.int .u8 191)], .agg [.lit (.int .u8 160), .lit (.int .u8 191)], .agg [.lit (.int .u8 128), .lit (.int .u8 159)], .agg [.lit (.int .u8 144), .lit (.int .u8 191)], .agg [.lit (.int .u8 128), .lit (.int .u8 143)], .agg [.lit (.int .u8 0), .lit (.int .u8 0)], .agg [.lit (.int .u8 0), .lit (.int .u8 0)], .agg [.lit (.int .u8 0), .lit (.int .u8 0)], .agg [.lit (.int .u8 0), .lit (.int .u8 0)], .agg [.lit (.int .u8 0), .lit (.int .u8 0)], .agg [.lit (.int .u8 0), .lit (.int .u8 0)], .agg [.lit (.int .u8 0), .lit (.int .u8 0)], .agg [.lit (.int .u8 0), .lit (.int .u8 0)], .agg [.lit (.int .u8 0), .lit (.int .u8 0)], .agg [.lit (.int .u8 0), .lit (.int .u8 0)], .agg [.lit (.int .u8 0), .lit (.int .u8 0)]]
/-- One of Go's own tables, pinned by name: the form's constant. -/
def laid_unicode_utf8_first : DataW Unit := Go.Pinned.utf8First

/-- 'sheavelaw19.QreadReads': WHATEVER THE INPUT: true; the input reads as it did. -/
def qreadReadsSpec : ChangeSpec := { name := "qreadReads", fn := fun _ => fun
  | [d] => { results := [.lit (.bool true)], args := [d] }
  | _ => none }
def qreadReadsRow : OpenClaim := { program := "ytpdoehdmeojmkaadoor", sum := "ee66ffc1145fbd1a8581f73621cc8b08562ca631ec7e5c11cf108feea7f21032", func := "sheave/sheavelaw19.QreadReads", spec := "qreadReads", inPlace := ["internal/bytealg.IndexByteString", "internal/bytealg.IndexByte", "internal/bytealg.Index", "internal/bytealg.IndexString", "internal/bytealg.Count"], unfollowed := true, recurses := true, named := ["internal/bytealg.MaxLen", "unicode/utf8.first", "unicode/utf8.acceptRanges"], apart := false, laid := [("unicode/utf8.acceptRanges", laid_unicode_utf8_acceptRanges), ("unicode/utf8.first", laid_unicode_utf8_first)] }
def QreadReadsSaid : Prop := qreadReadsRow.holds Tryd.pinned (OpenSpec.ofChange qreadReadsSpec)

/-- ITS FALSE NEIGHBOUR: 'it returns false'. Refute it at one input. -/
def qreadReadsWrong : ChangeSpec := { name := "qreadReads", fn := fun _ => fun
  | [d] => { results := [.lit (.bool false)], args := [d] }
  | _ => none }
def QreadReadsWrongFalsely : Prop := qreadReadsRow.holds Tryd.pinned (OpenSpec.ofChange qreadReadsWrong)

/-- 'sheavelaw19.QreadLines': WHATEVER THE INPUT: true; the input reads as it did. -/
def qreadLinesSpec : ChangeSpec := { name := "qreadLines", fn := fun _ => fun
  | [d] => { results := [.lit (.bool true)], args := [d] }
  | _ => none }
def qreadLinesRow : OpenClaim := { program := "ytpdoehdmeojmkaadoor", sum := "ee66ffc1145fbd1a8581f73621cc8b08562ca631ec7e5c11cf108feea7f21032", func := "sheave/sheavelaw19.QreadLines", spec := "qreadLines", inPlace := ["internal/bytealg.IndexByteString", "internal/bytealg.IndexByte", "internal/bytealg.Index", "internal/bytealg.IndexString", "internal/bytealg.Count"], unfollowed := true, recurses := true, named := ["internal/bytealg.MaxLen", "unicode/utf8.first", "unicode/utf8.acceptRanges"], apart := false, laid := [("unicode/utf8.acceptRanges", laid_unicode_utf8_acceptRanges), ("unicode/utf8.first", laid_unicode_utf8_first)] }
def QreadLinesSaid : Prop := qreadLinesRow.holds Tryd.pinned (OpenSpec.ofChange qreadLinesSpec)

/-- ITS FALSE NEIGHBOUR: 'it returns false'. Refute it at one input. -/
def qreadLinesWrong : ChangeSpec := { name := "qreadLines", fn := fun _ => fun
  | [d] => { results := [.lit (.bool false)], args := [d] }
  | _ => none }
def QreadLinesWrongFalsely : Prop := qreadLinesRow.holds Tryd.pinned (OpenSpec.ofChange qreadLinesWrong)

/-- 'sheavelaw19.QreadBack': WHATEVER THE INPUT: true; the input reads as it did. -/
def qreadBackSpec : ChangeSpec := { name := "qreadBack", fn := fun _ => fun
  | [d] => { results := [.lit (.bool true)], args := [d] }
  | _ => none }
def qreadBackRow : OpenClaim := { program := "ytpdoehdmeojmkaadoor", sum := "ee66ffc1145fbd1a8581f73621cc8b08562ca631ec7e5c11cf108feea7f21032", func := "sheave/sheavelaw19.QreadBack", spec := "qreadBack", inPlace := ["internal/bytealg.IndexByteString", "internal/bytealg.IndexByte", "internal/bytealg.Index", "internal/bytealg.IndexString", "internal/bytealg.Count"], unfollowed := true, recurses := true, named := ["internal/bytealg.MaxLen", "unicode/utf8.first", "unicode/utf8.acceptRanges"], apart := false, laid := [("unicode/utf8.acceptRanges", laid_unicode_utf8_acceptRanges), ("unicode/utf8.first", laid_unicode_utf8_first)] }
def QreadBackSaid : Prop := qreadBackRow.holds Tryd.pinned (OpenSpec.ofChange qreadBackSpec)

/-- ITS FALSE NEIGHBOUR: 'it returns false'. Refute it at one input. -/
def qreadBackWrong : ChangeSpec := { name := "qreadBack", fn := fun _ => fun
  | [d] => { results := [.lit (.bool false)], args := [d] }
  | _ => none }
def QreadBackWrongFalsely : Prop := qreadBackRow.holds Tryd.pinned (OpenSpec.ofChange qreadBackWrong)

/-- 'sheavelaw19.QreadShort': WHATEVER THE INPUT: true; the input reads as it did. -/
def qreadShortSpec : ChangeSpec := { name := "qreadShort", fn := fun _ => fun
  | [d] => { results := [.lit (.bool true)], args := [d] }
  | _ => none }
def qreadShortRow : OpenClaim := { program := "ytpdoehdmeojmkaadoor", sum := "ee66ffc1145fbd1a8581f73621cc8b08562ca631ec7e5c11cf108feea7f21032", func := "sheave/sheavelaw19.QreadShort", spec := "qreadShort", inPlace := ["internal/bytealg.IndexByteString", "internal/bytealg.IndexByte", "internal/bytealg.Index", "internal/bytealg.IndexString", "internal/bytealg.Count"], unfollowed := true, recurses := true, named := ["internal/bytealg.MaxLen", "unicode/utf8.first", "unicode/utf8.acceptRanges"], apart := false, laid := [("unicode/utf8.acceptRanges", laid_unicode_utf8_acceptRanges), ("unicode/utf8.first", laid_unicode_utf8_first)] }
def QreadShortSaid : Prop := qreadShortRow.holds Tryd.pinned (OpenSpec.ofChange qreadShortSpec)

/-- ITS FALSE NEIGHBOUR: 'it returns false'. Refute it at one input. -/
def qreadShortWrong : ChangeSpec := { name := "qreadShort", fn := fun _ => fun
  | [d] => { results := [.lit (.bool false)], args := [d] }
  | _ => none }
def QreadShortWrongFalsely : Prop := qreadShortRow.holds Tryd.pinned (OpenSpec.ofChange qreadShortWrong)

/- THE SECOND FORM. 'bulk': how many values and letters a reading holds, each counted each time it is reached (what is shared counts as often as it is met; a slice's spare places count too). A statement '..UptoSaid' is the law's where the arguments, and the package variables that the reading takes, are together of bulk at most 1048576: NARROWER than '..Said'. Prove '..Said' where nothing that the law and all that it calls make is longer than what came in: it says more and counts as full. Else prove '..UptoSaid'. A law counts once. -/
mutual
def uptoBulk {H : Type} : DataW H → Nat
  | .lit (.string bytes) => bytes.length + 1
  | .lit _ => 1
  | .nil => 1
  | .ptr d => uptoBulk d + 1
  | .slice elems spare => uptoBulkAll elems + uptoBulkAll spare + 1
  | .agg parts => uptoBulkAll parts + 1
  | .iface _ d => uptoBulk d + 1
  | .map entries => uptoBulkEntries entries + 1
  | .held _ => 1
def uptoBulkAll {H : Type} : List (DataW H) → Nat
  | [] => 0
  | d :: r => uptoBulk d + uptoBulkAll r
def uptoBulkEntries {H : Type} : List (Lit × DataW H) → Nat
  | [] => 0
  | x :: r => uptoBulkEntry x + uptoBulkEntries r
def uptoBulkEntry {H : Type} : Lit × DataW H → Nat
  | (.string bytes, d) => bytes.length + uptoBulk d + 1
  | (_, d) => uptoBulk d + 1
 end
def uptoSmall : (H : Type) → List (DataW H) → Bool := fun _ ds => decide (uptoBulkAll ds ≤ 1048576)
def OpenSpec.upto (s : _root_.Go.ChangeSpec) : _root_.Go.OpenSpec := { _root_.Go.OpenSpec.ofChange s with cond := some uptoSmall }

/-- 'sheavelaw19.QreadReads', WHERE WHAT IT READS IS OF BULK AT MOST 1048576: true; the input reads as it did. -/
def qreadReadsUptoRow : OpenClaim := { program := "ytpdoehdmeojmkaadoor", sum := "ee66ffc1145fbd1a8581f73621cc8b08562ca631ec7e5c11cf108feea7f21032", func := "sheave/sheavelaw19.QreadReads", spec := "qreadReads", inPlace := ["internal/bytealg.IndexByteString", "internal/bytealg.IndexByte", "internal/bytealg.Index", "internal/bytealg.IndexString", "internal/bytealg.Count"], unfollowed := true, recurses := true, named := ["internal/bytealg.MaxLen", "unicode/utf8.first", "unicode/utf8.acceptRanges"], apart := false, laid := [("unicode/utf8.acceptRanges", laid_unicode_utf8_acceptRanges), ("unicode/utf8.first", laid_unicode_utf8_first)], narrowed := true }
def QreadReadsUptoSaid : Prop := qreadReadsUptoRow.holds Tryd.pinned (OpenSpec.upto qreadReadsSpec)

/-- 'sheavelaw19.QreadLines', WHERE WHAT IT READS IS OF BULK AT MOST 1048576: true; the input reads as it did. -/
def qreadLinesUptoRow : OpenClaim := { program := "ytpdoehdmeojmkaadoor", sum := "ee66ffc1145fbd1a8581f73621cc8b08562ca631ec7e5c11cf108feea7f21032", func := "sheave/sheavelaw19.QreadLines", spec := "qreadLines", inPlace := ["internal/bytealg.IndexByteString", "internal/bytealg.IndexByte", "internal/bytealg.Index", "internal/bytealg.IndexString", "internal/bytealg.Count"], unfollowed := true, recurses := true, named := ["internal/bytealg.MaxLen", "unicode/utf8.first", "unicode/utf8.acceptRanges"], apart := false, laid := [("unicode/utf8.acceptRanges", laid_unicode_utf8_acceptRanges), ("unicode/utf8.first", laid_unicode_utf8_first)], narrowed := true }
def QreadLinesUptoSaid : Prop := qreadLinesUptoRow.holds Tryd.pinned (OpenSpec.upto qreadLinesSpec)

/-- 'sheavelaw19.QreadBack', WHERE WHAT IT READS IS OF BULK AT MOST 1048576: true; the input reads as it did. -/
def qreadBackUptoRow : OpenClaim := { program := "ytpdoehdmeojmkaadoor", sum := "ee66ffc1145fbd1a8581f73621cc8b08562ca631ec7e5c11cf108feea7f21032", func := "sheave/sheavelaw19.QreadBack", spec := "qreadBack", inPlace := ["internal/bytealg.IndexByteString", "internal/bytealg.IndexByte", "internal/bytealg.Index", "internal/bytealg.IndexString", "internal/bytealg.Count"], unfollowed := true, recurses := true, named := ["internal/bytealg.MaxLen", "unicode/utf8.first", "unicode/utf8.acceptRanges"], apart := false, laid := [("unicode/utf8.acceptRanges", laid_unicode_utf8_acceptRanges), ("unicode/utf8.first", laid_unicode_utf8_first)], narrowed := true }
def QreadBackUptoSaid : Prop := qreadBackUptoRow.holds Tryd.pinned (OpenSpec.upto qreadBackSpec)

/-- 'sheavelaw19.QreadShort', WHERE WHAT IT READS IS OF BULK AT MOST 1048576: true; the input reads as it did. -/
def qreadShortUptoRow : OpenClaim := { program := "ytpdoehdmeojmkaadoor", sum := "ee66ffc1145fbd1a8581f73621cc8b08562ca631ec7e5c11cf108feea7f21032", func := "sheave/sheavelaw19.QreadShort", spec := "qreadShort", inPlace := ["internal/bytealg.IndexByteString", "internal/bytealg.IndexByte", "internal/bytealg.Index", "internal/bytealg.IndexString", "internal/bytealg.Count"], unfollowed := true, recurses := true, named := ["internal/bytealg.MaxLen", "unicode/utf8.first", "unicode/utf8.acceptRanges"], apart := false, laid := [("unicode/utf8.acceptRanges", laid_unicode_utf8_acceptRanges), ("unicode/utf8.first", laid_unicode_utf8_first)], narrowed := true }
def QreadShortUptoSaid : Prop := qreadShortUptoRow.holds Tryd.pinned (OpenSpec.upto qreadShortSpec)

end Rows
end Go.Proofs.YtpdoehdmeojmkaaDoor
