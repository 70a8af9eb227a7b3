/-
  No cell of these rows narrows 'for every input' (looked for: loops, veiled, ifaces, maps, wideKeys, modest, calm, conditions, laid).
  DERIVED. THE GIVEN ROWS OF THIS SEAT. 4 by the template 'for every input the law returns true; each argument reads behind the call as it read before'; 0 by the template 'total and deterministic' (their statements: YtfmbpcjmpggodaaTotals.lean).
  GIVEN WITH THE SEED: the statements are not yours to turn. If you find one false, say at which input.
  Laid BY PROGRAM, IN A SANDBOX (cutbox-rows.mjs): the forced cells as the released guide's own fill.sh prints them over the translation 40514f5725aeabba… (all of the seat's roots in one cut). By AI agents, Wed Nov 11 2026. No macro, syntax, notation, axiom, sorry.
-/
import Derived.Test.YtfmbpcjmpggodaaChecked
import GoSem.Claim
import GoSem.ClaimJoined
import GoSem.ClaimMapViews
import Derived.JoinedTies
import Derived.KernelRfl
namespace Go.Proofs.Ytfmbpcjmpggodaa
/- THE CELL 'sum', in the pinned program and in every row, IS THE sha256 OF THE DUMP (.gsa) THAT YtfmbpcjmpggodaaProg.lean LOADS. Nothing in Lean hashes anything: it is a label: what it is worth is what the hold of that sum in a sandbox is worth. -/
noncomputable def Try.pinned : Pinned := { name := "ytfmbpcjmpggodaa", sum := "40514f5725aeabbacd8f3d09bbc60ca8cf1db96777c41e33eaeab6caccedf88a", checked := Try.checked }
namespace Rows
def none {H : Type} : Left H := { results := [], args := [] }

/-- 'sheavelaw04.UtfoneOctets': WHATEVER THE INPUT: true; the input reads as it did. -/
def utfoneOctetsSpec : ChangeSpec := { name := "utfoneOctets", fn := fun _ => fun
  | [d1, d2, d3] => { results := [.lit (.bool true)], args := [d1, d2, d3] }
  | _ => none }
def utfoneOctetsRow : OpenClaim := { program := "ytfmbpcjmpggodaa", sum := "40514f5725aeabbacd8f3d09bbc60ca8cf1db96777c41e33eaeab6caccedf88a", func := "sheave/sheavelaw04.UtfoneOctets", spec := "utfoneOctets", apart := false }
def UtfoneOctetsSaid : Prop := utfoneOctetsRow.holds Try.pinned (OpenSpec.ofChange utfoneOctetsSpec)

/-- ITS FALSE NEIGHBOUR: 'it returns false'. Refute it at one input. -/
def utfoneOctetsWrong : ChangeSpec := { name := "utfoneOctets", fn := fun _ => fun
  | [d1, d2, d3] => { results := [.lit (.bool false)], args := [d1, d2, d3] }
  | _ => none }
def UtfoneOctetsWrongFalsely : Prop := utfoneOctetsRow.holds Try.pinned (OpenSpec.ofChange utfoneOctetsWrong)

/-- 'sheavelaw04.UtfoneTakes': WHATEVER THE INPUT: true; the input reads as it did. -/
def utfoneTakesSpec : ChangeSpec := { name := "utfoneTakes", fn := fun _ => fun
  | [d] => { results := [.lit (.bool true)], args := [d] }
  | _ => none }
def utfoneTakesRow : OpenClaim := { program := "ytfmbpcjmpggodaa", sum := "40514f5725aeabbacd8f3d09bbc60ca8cf1db96777c41e33eaeab6caccedf88a", func := "sheave/sheavelaw04.UtfoneTakes", spec := "utfoneTakes", apart := false }
def UtfoneTakesSaid : Prop := utfoneTakesRow.holds Try.pinned (OpenSpec.ofChange utfoneTakesSpec)

/-- ITS FALSE NEIGHBOUR: 'it returns false'. Refute it at one input. -/
def utfoneTakesWrong : ChangeSpec := { name := "utfoneTakes", fn := fun _ => fun
  | [d] => { results := [.lit (.bool false)], args := [d] }
  | _ => none }
def UtfoneTakesWrongFalsely : Prop := utfoneTakesRow.holds Try.pinned (OpenSpec.ofChange utfoneTakesWrong)

/-- 'sheavelaw04.UtfoneBack': WHATEVER THE INPUT: true; the input reads as it did. -/
def utfoneBackSpec : ChangeSpec := { name := "utfoneBack", fn := fun _ => fun
  | [d1, d2] => { results := [.lit (.bool true)], args := [d1, d2] }
  | _ => none }
def utfoneBackRow : OpenClaim := { program := "ytfmbpcjmpggodaa", sum := "40514f5725aeabbacd8f3d09bbc60ca8cf1db96777c41e33eaeab6caccedf88a", func := "sheave/sheavelaw04.UtfoneBack", spec := "utfoneBack", apart := false }
def UtfoneBackSaid : Prop := utfoneBackRow.holds Try.pinned (OpenSpec.ofChange utfoneBackSpec)

/-- ITS FALSE NEIGHBOUR: 'it returns false'. Refute it at one input. -/
def utfoneBackWrong : ChangeSpec := { name := "utfoneBack", fn := fun _ => fun
  | [d1, d2] => { results := [.lit (.bool false)], args := [d1, d2] }
  | _ => none }
def UtfoneBackWrongFalsely : Prop := utfoneBackRow.holds Try.pinned (OpenSpec.ofChange utfoneBackWrong)

/-- 'sheavelaw04.UtfoneOne': WHATEVER THE INPUT: true; the input reads as it did. -/
def utfoneOneSpec : ChangeSpec := { name := "utfoneOne", fn := fun _ => fun
  | [d1, d2] => { results := [.lit (.bool true)], args := [d1, d2] }
  | _ => none }
def utfoneOneRow : OpenClaim := { program := "ytfmbpcjmpggodaa", sum := "40514f5725aeabbacd8f3d09bbc60ca8cf1db96777c41e33eaeab6caccedf88a", func := "sheave/sheavelaw04.UtfoneOne", spec := "utfoneOne", apart := false }
def UtfoneOneSaid : Prop := utfoneOneRow.holds Try.pinned (OpenSpec.ofChange utfoneOneSpec)

/-- ITS FALSE NEIGHBOUR: 'it returns false'. Refute it at one input. -/
def utfoneOneWrong : ChangeSpec := { name := "utfoneOne", fn := fun _ => fun
  | [d1, d2] => { results := [.lit (.bool false)], args := [d1, d2] }
  | _ => none }
def UtfoneOneWrongFalsely : Prop := utfoneOneRow.holds Try.pinned (OpenSpec.ofChange utfoneOneWrong)

/- THE SECOND FORM. 'bulk': how many values and letters a reading holds, each counted each time it is reached (what is shared counts as often as it is met; a slice's spare places count too). A statement '..UptoSaid' is the law's where the arguments, and the package variables that the reading takes, are together of bulk at most 1048576: NARROWER than '..Said'. Prove '..Said' where nothing that the law and all that it calls make is longer than what came in: it says more and counts as full. Else prove '..UptoSaid'. A law counts once. -/
mutual
def uptoBulk {H : Type} : DataW H → Nat
  | .lit (.string bytes) => bytes.length + 1
  | .lit _ => 1
  | .nil => 1
  | .ptr d => uptoBulk d + 1
  | .slice elems spare => uptoBulkAll elems + uptoBulkAll spare + 1
  | .agg parts => uptoBulkAll parts + 1
  | .iface _ d => uptoBulk d + 1
  | .map entries => uptoBulkEntries entries + 1
  | .held _ => 1
def uptoBulkAll {H : Type} : List (DataW H) → Nat
  | [] => 0
  | d :: r => uptoBulk d + uptoBulkAll r
def uptoBulkEntries {H : Type} : List (Lit × DataW H) → Nat
  | [] => 0
  | x :: r => uptoBulkEntry x + uptoBulkEntries r
def uptoBulkEntry {H : Type} : Lit × DataW H → Nat
  | (.string bytes, d) => bytes.length + uptoBulk d + 1
  | (_, d) => uptoBulk d + 1
 end
def uptoSmall : (H : Type) → List (DataW H) → Bool := fun _ ds => decide (uptoBulkAll ds ≤ 1048576)
def OpenSpec.upto (s : _root_.Go.ChangeSpec) : _root_.Go.OpenSpec := { _root_.Go.OpenSpec.ofChange s with cond := some uptoSmall }

/-- 'sheavelaw04.UtfoneOctets', WHERE WHAT IT READS IS OF BULK AT MOST 1048576: true; the input reads as it did. -/
def utfoneOctetsUptoRow : OpenClaim := { program := "ytfmbpcjmpggodaa", sum := "40514f5725aeabbacd8f3d09bbc60ca8cf1db96777c41e33eaeab6caccedf88a", func := "sheave/sheavelaw04.UtfoneOctets", spec := "utfoneOctets", apart := false, narrowed := true }
def UtfoneOctetsUptoSaid : Prop := utfoneOctetsUptoRow.holds Try.pinned (OpenSpec.upto utfoneOctetsSpec)

/-- 'sheavelaw04.UtfoneTakes', WHERE WHAT IT READS IS OF BULK AT MOST 1048576: true; the input reads as it did. -/
def utfoneTakesUptoRow : OpenClaim := { program := "ytfmbpcjmpggodaa", sum := "40514f5725aeabbacd8f3d09bbc60ca8cf1db96777c41e33eaeab6caccedf88a", func := "sheave/sheavelaw04.UtfoneTakes", spec := "utfoneTakes", apart := false, narrowed := true }
def UtfoneTakesUptoSaid : Prop := utfoneTakesUptoRow.holds Try.pinned (OpenSpec.upto utfoneTakesSpec)

/-- 'sheavelaw04.UtfoneBack', WHERE WHAT IT READS IS OF BULK AT MOST 1048576: true; the input reads as it did. -/
def utfoneBackUptoRow : OpenClaim := { program := "ytfmbpcjmpggodaa", sum := "40514f5725aeabbacd8f3d09bbc60ca8cf1db96777c41e33eaeab6caccedf88a", func := "sheave/sheavelaw04.UtfoneBack", spec := "utfoneBack", apart := false, narrowed := true }
def UtfoneBackUptoSaid : Prop := utfoneBackUptoRow.holds Try.pinned (OpenSpec.upto utfoneBackSpec)

/-- 'sheavelaw04.UtfoneOne', WHERE WHAT IT READS IS OF BULK AT MOST 1048576: true; the input reads as it did. -/
def utfoneOneUptoRow : OpenClaim := { program := "ytfmbpcjmpggodaa", sum := "40514f5725aeabbacd8f3d09bbc60ca8cf1db96777c41e33eaeab6caccedf88a", func := "sheave/sheavelaw04.UtfoneOne", spec := "utfoneOne", apart := false, narrowed := true }
def UtfoneOneUptoSaid : Prop := utfoneOneUptoRow.holds Try.pinned (OpenSpec.upto utfoneOneSpec)

end Rows
end Go.Proofs.Ytfmbpcjmpggodaa
