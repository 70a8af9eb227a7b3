/-
  No cell of these rows narrows 'for every input' (looked for: loops, veiled, ifaces, maps, wideKeys, modest, calm, conditions, laid).
  DERIVED. THE GIVEN ROWS OF THIS SEAT. 3 by the template 'for every input the law returns true; each argument reads behind the call as it read before'; 0 by the template 'total and deterministic' (their statements: YtdglnpkkfkagaaaGreatTotals.lean).
  GIVEN WITH THE SEED: the statements are not yours to turn. If you find one false, say at which input.
  Laid BY PROGRAM, IN A SANDBOX (cutbox-rows.mjs): the forced cells as the released guide's own fill.sh prints them over the translation 2b10d63cdefd69fd… (all of the seat's roots in one cut). By AI agents, Wed Nov 11 2026. No macro, syntax, notation, axiom, sorry.
-/
import Derived.Test.YtdglnpkkfkagaaaGreatChecked
import GoSem.Claim
import GoSem.ClaimJoined
import GoSem.ClaimMapViews
import Derived.JoinedTies
import Derived.KernelRfl
namespace Go.Proofs.YtdglnpkkfkagaaaGreat
/- THE CELL 'sum', in the pinned program and in every row, IS THE sha256 OF THE DUMP (.gsa) THAT YtdglnpkkfkagaaaGreatProg.lean LOADS. Nothing in Lean hashes anything: it is a label: what it is worth is what the hold of that sum in a sandbox is worth. -/
noncomputable def Tryz.pinned : Pinned := { name := "ytdglnpkkfkagaaagreat", sum := "2b10d63cdefd69fd0e7ac05797bc8dac432dc34faa16093d6cf4f7762f6d02a2", checked := Tryz.checked }
namespace Rows
def none {H : Type} : Left H := { results := [], args := [] }

/-- 'sheavelaw31.EwcutCuts': WHATEVER THE INPUT: true; the input reads as it did. -/
def ewcutCutsSpec : ChangeSpec := { name := "ewcutCuts", fn := fun _ => fun
  | [d1, d2] => { results := [.lit (.bool true)], args := [d1, d2] }
  | _ => none }
def ewcutCutsRow : OpenClaim := { program := "ytdglnpkkfkagaaagreat", sum := "2b10d63cdefd69fd0e7ac05797bc8dac432dc34faa16093d6cf4f7762f6d02a2", func := "sheave/sheavelaw31.EwcutCuts", spec := "ewcutCuts", inPlace := ["internal/bytealg.IndexByteString", "internal/bytealg.MakeNoZero"], unfollowed := true, recurses := true, apart := false }
def EwcutCutsSaid : Prop := ewcutCutsRow.holds Tryz.pinned (OpenSpec.ofChange ewcutCutsSpec)

/-- ITS FALSE NEIGHBOUR: 'it returns false'. Refute it at one input. -/
def ewcutCutsWrong : ChangeSpec := { name := "ewcutCuts", fn := fun _ => fun
  | [d1, d2] => { results := [.lit (.bool false)], args := [d1, d2] }
  | _ => none }
def EwcutCutsWrongFalsely : Prop := ewcutCutsRow.holds Tryz.pinned (OpenSpec.ofChange ewcutCutsWrong)

/-- 'sheavelaw31.EwcutWords': WHATEVER THE INPUT: true; the input reads as it did. -/
def ewcutWordsSpec : ChangeSpec := { name := "ewcutWords", fn := fun _ => fun
  | [d1, d2] => { results := [.lit (.bool true)], args := [d1, d2] }
  | _ => none }
def ewcutWordsRow : OpenClaim := { program := "ytdglnpkkfkagaaagreat", sum := "2b10d63cdefd69fd0e7ac05797bc8dac432dc34faa16093d6cf4f7762f6d02a2", func := "sheave/sheavelaw31.EwcutWords", spec := "ewcutWords", inPlace := ["internal/bytealg.IndexByteString", "internal/bytealg.MakeNoZero"], unfollowed := true, recurses := true, apart := false }
def EwcutWordsSaid : Prop := ewcutWordsRow.holds Tryz.pinned (OpenSpec.ofChange ewcutWordsSpec)

/-- ITS FALSE NEIGHBOUR: 'it returns false'. Refute it at one input. -/
def ewcutWordsWrong : ChangeSpec := { name := "ewcutWords", fn := fun _ => fun
  | [d1, d2] => { results := [.lit (.bool false)], args := [d1, d2] }
  | _ => none }
def EwcutWordsWrongFalsely : Prop := ewcutWordsRow.holds Tryz.pinned (OpenSpec.ofChange ewcutWordsWrong)

/-- 'sheavelaw31.EwcutRead': WHATEVER THE INPUT: true; the input reads as it did. -/
def ewcutReadSpec : ChangeSpec := { name := "ewcutRead", fn := fun _ => fun
  | [d1, d2] => { results := [.lit (.bool true)], args := [d1, d2] }
  | _ => none }
def ewcutReadRow : OpenClaim := { program := "ytdglnpkkfkagaaagreat", sum := "2b10d63cdefd69fd0e7ac05797bc8dac432dc34faa16093d6cf4f7762f6d02a2", func := "sheave/sheavelaw31.EwcutRead", spec := "ewcutRead", inPlace := ["internal/bytealg.IndexByteString", "internal/bytealg.MakeNoZero"], unfollowed := true, recurses := true, apart := false }
def EwcutReadSaid : Prop := ewcutReadRow.holds Tryz.pinned (OpenSpec.ofChange ewcutReadSpec)

/-- ITS FALSE NEIGHBOUR: 'it returns false'. Refute it at one input. -/
def ewcutReadWrong : ChangeSpec := { name := "ewcutRead", fn := fun _ => fun
  | [d1, d2] => { results := [.lit (.bool false)], args := [d1, d2] }
  | _ => none }
def EwcutReadWrongFalsely : Prop := ewcutReadRow.holds Tryz.pinned (OpenSpec.ofChange ewcutReadWrong)

/- THE SECOND FORM. 'bulk': how many values and letters a reading holds, each counted each time it is reached (what is shared counts as often as it is met; a slice's spare places count too). A statement '..UptoSaid' is the law's where the arguments, and the package variables that the reading takes, are together of bulk at most 1048576: NARROWER than '..Said'. Prove '..Said' where nothing that the law and all that it calls make is longer than what came in: it says more and counts as full. Else prove '..UptoSaid'. A law counts once. -/
mutual
def uptoBulk {H : Type} : DataW H → Nat
  | .lit (.string bytes) => bytes.length + 1
  | .lit _ => 1
  | .nil => 1
  | .ptr d => uptoBulk d + 1
  | .slice elems spare => uptoBulkAll elems + uptoBulkAll spare + 1
  | .agg parts => uptoBulkAll parts + 1
  | .iface _ d => uptoBulk d + 1
  | .map entries => uptoBulkEntries entries + 1
  | .held _ => 1
def uptoBulkAll {H : Type} : List (DataW H) → Nat
  | [] => 0
  | d :: r => uptoBulk d + uptoBulkAll r
def uptoBulkEntries {H : Type} : List (Lit × DataW H) → Nat
  | [] => 0
  | x :: r => uptoBulkEntry x + uptoBulkEntries r
def uptoBulkEntry {H : Type} : Lit × DataW H → Nat
  | (.string bytes, d) => bytes.length + uptoBulk d + 1
  | (_, d) => uptoBulk d + 1
 end
def uptoSmall : (H : Type) → List (DataW H) → Bool := fun _ ds => decide (uptoBulkAll ds ≤ 1048576)
def OpenSpec.upto (s : _root_.Go.ChangeSpec) : _root_.Go.OpenSpec := { _root_.Go.OpenSpec.ofChange s with cond := some uptoSmall }

/-- 'sheavelaw31.EwcutCuts', WHERE WHAT IT READS IS OF BULK AT MOST 1048576: true; the input reads as it did. -/
def ewcutCutsUptoRow : OpenClaim := { program := "ytdglnpkkfkagaaagreat", sum := "2b10d63cdefd69fd0e7ac05797bc8dac432dc34faa16093d6cf4f7762f6d02a2", func := "sheave/sheavelaw31.EwcutCuts", spec := "ewcutCuts", inPlace := ["internal/bytealg.IndexByteString", "internal/bytealg.MakeNoZero"], unfollowed := true, recurses := true, apart := false, narrowed := true }
def EwcutCutsUptoSaid : Prop := ewcutCutsUptoRow.holds Tryz.pinned (OpenSpec.upto ewcutCutsSpec)

/-- 'sheavelaw31.EwcutWords', WHERE WHAT IT READS IS OF BULK AT MOST 1048576: true; the input reads as it did. -/
def ewcutWordsUptoRow : OpenClaim := { program := "ytdglnpkkfkagaaagreat", sum := "2b10d63cdefd69fd0e7ac05797bc8dac432dc34faa16093d6cf4f7762f6d02a2", func := "sheave/sheavelaw31.EwcutWords", spec := "ewcutWords", inPlace := ["internal/bytealg.IndexByteString", "internal/bytealg.MakeNoZero"], unfollowed := true, recurses := true, apart := false, narrowed := true }
def EwcutWordsUptoSaid : Prop := ewcutWordsUptoRow.holds Tryz.pinned (OpenSpec.upto ewcutWordsSpec)

/-- 'sheavelaw31.EwcutRead', WHERE WHAT IT READS IS OF BULK AT MOST 1048576: true; the input reads as it did. -/
def ewcutReadUptoRow : OpenClaim := { program := "ytdglnpkkfkagaaagreat", sum := "2b10d63cdefd69fd0e7ac05797bc8dac432dc34faa16093d6cf4f7762f6d02a2", func := "sheave/sheavelaw31.EwcutRead", spec := "ewcutRead", inPlace := ["internal/bytealg.IndexByteString", "internal/bytealg.MakeNoZero"], unfollowed := true, recurses := true, apart := false, narrowed := true }
def EwcutReadUptoSaid : Prop := ewcutReadUptoRow.holds Tryz.pinned (OpenSpec.upto ewcutReadSpec)

end Rows
end Go.Proofs.YtdglnpkkfkagaaaGreat
