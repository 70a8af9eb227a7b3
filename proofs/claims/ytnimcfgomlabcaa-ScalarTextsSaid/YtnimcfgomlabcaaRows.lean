/-
  No cell of these rows narrows 'for every input' (looked for: loops, veiled, ifaces, maps, wideKeys, modest, calm, conditions, laid).
  DERIVED. THE GIVEN ROWS OF THIS SEAT. 4 by the template 'for every input the law returns true; each argument reads behind the call as it read before'; 0 by the template 'total and deterministic' (their statements: YtnimcfgomlabcaaTotals.lean).
  GIVEN WITH THE SEED: the statements are not yours to turn. If you find one false, say at which input.
  Laid BY PROGRAM, IN A SANDBOX (cutbox-rows.mjs): the forced cells as the released guide's own fill.sh prints them over the translation ab16e86f98cbcd9a… (all of the seat's roots in one cut). By AI agents, Wed Nov 11 2026. No macro, syntax, notation, axiom, sorry.
-/
import Derived.Test.YtnimcfgomlabcaaChecked
import GoSem.Claim
import GoSem.ClaimJoined
import GoSem.ClaimMapViews
import Derived.JoinedTies
import Derived.KernelRfl
namespace Go.Proofs.Ytnimcfgomlabcaa
/- THE CELL 'sum', in the pinned program and in every row, IS THE sha256 OF THE DUMP (.gsa) THAT YtnimcfgomlabcaaProg.lean LOADS. Nothing in Lean hashes anything: it is a label: what it is worth is what the hold of that sum in a sandbox is worth. -/
noncomputable def Try.pinned : Pinned := { name := "ytnimcfgomlabcaa", sum := "ab16e86f98cbcd9a58f4b9bf08cc050b492100b60126b145a8fb899463c04d05", checked := Try.checked }
namespace Rows
def none {H : Type} : Left H := { results := [], args := [] }

/-- 'sheavelaw03.ScalarOne': WHATEVER THE INPUT: true; the input reads as it did. -/
def scalarOneSpec : ChangeSpec := { name := "scalarOne", fn := fun _ => fun
  | [d] => { results := [.lit (.bool true)], args := [d] }
  | _ => none }
def scalarOneRow : OpenClaim := { program := "ytnimcfgomlabcaa", sum := "ab16e86f98cbcd9a58f4b9bf08cc050b492100b60126b145a8fb899463c04d05", func := "sheave/sheavelaw03.ScalarOne", spec := "scalarOne", unfollowed := true, recurses := true, apart := false }
def ScalarOneSaid : Prop := scalarOneRow.holds Try.pinned (OpenSpec.ofChange scalarOneSpec)

/-- ITS FALSE NEIGHBOUR: 'it returns false'. Refute it at one input. -/
def scalarOneWrong : ChangeSpec := { name := "scalarOne", fn := fun _ => fun
  | [d] => { results := [.lit (.bool false)], args := [d] }
  | _ => none }
def ScalarOneWrongFalsely : Prop := scalarOneRow.holds Try.pinned (OpenSpec.ofChange scalarOneWrong)

/-- 'sheavelaw03.ScalarTexts': WHATEVER THE INPUT: true; the input reads as it did. -/
def scalarTextsSpec : ChangeSpec := { name := "scalarTexts", fn := fun _ => fun
  | [d] => { results := [.lit (.bool true)], args := [d] }
  | _ => none }
def scalarTextsRow : OpenClaim := { program := "ytnimcfgomlabcaa", sum := "ab16e86f98cbcd9a58f4b9bf08cc050b492100b60126b145a8fb899463c04d05", func := "sheave/sheavelaw03.ScalarTexts", spec := "scalarTexts", unfollowed := true, recurses := true, apart := false }
def ScalarTextsSaid : Prop := scalarTextsRow.holds Try.pinned (OpenSpec.ofChange scalarTextsSpec)

/-- ITS FALSE NEIGHBOUR: 'it returns false'. Refute it at one input. -/
def scalarTextsWrong : ChangeSpec := { name := "scalarTexts", fn := fun _ => fun
  | [d] => { results := [.lit (.bool false)], args := [d] }
  | _ => none }
def ScalarTextsWrongFalsely : Prop := scalarTextsRow.holds Try.pinned (OpenSpec.ofChange scalarTextsWrong)

/-- 'sheavelaw03.ScalarChecks': WHATEVER THE INPUT: true; the input reads as it did. -/
def scalarChecksSpec : ChangeSpec := { name := "scalarChecks", fn := fun _ => fun
  | [d1, d2] => { results := [.lit (.bool true)], args := [d1, d2] }
  | _ => none }
def scalarChecksRow : OpenClaim := { program := "ytnimcfgomlabcaa", sum := "ab16e86f98cbcd9a58f4b9bf08cc050b492100b60126b145a8fb899463c04d05", func := "sheave/sheavelaw03.ScalarChecks", spec := "scalarChecks", unfollowed := true, recurses := true, apart := false }
def ScalarChecksSaid : Prop := scalarChecksRow.holds Try.pinned (OpenSpec.ofChange scalarChecksSpec)

/-- ITS FALSE NEIGHBOUR: 'it returns false'. Refute it at one input. -/
def scalarChecksWrong : ChangeSpec := { name := "scalarChecks", fn := fun _ => fun
  | [d1, d2] => { results := [.lit (.bool false)], args := [d1, d2] }
  | _ => none }
def ScalarChecksWrongFalsely : Prop := scalarChecksRow.holds Try.pinned (OpenSpec.ofChange scalarChecksWrong)

/-- 'sheavelaw03.ScalarMends': WHATEVER THE INPUT: true; the input reads as it did. -/
def scalarMendsSpec : ChangeSpec := { name := "scalarMends", fn := fun _ => fun
  | [d] => { results := [.lit (.bool true)], args := [d] }
  | _ => none }
def scalarMendsRow : OpenClaim := { program := "ytnimcfgomlabcaa", sum := "ab16e86f98cbcd9a58f4b9bf08cc050b492100b60126b145a8fb899463c04d05", func := "sheave/sheavelaw03.ScalarMends", spec := "scalarMends", unfollowed := true, recurses := true, apart := false }
def ScalarMendsSaid : Prop := scalarMendsRow.holds Try.pinned (OpenSpec.ofChange scalarMendsSpec)

/-- ITS FALSE NEIGHBOUR: 'it returns false'. Refute it at one input. -/
def scalarMendsWrong : ChangeSpec := { name := "scalarMends", fn := fun _ => fun
  | [d] => { results := [.lit (.bool false)], args := [d] }
  | _ => none }
def ScalarMendsWrongFalsely : Prop := scalarMendsRow.holds Try.pinned (OpenSpec.ofChange scalarMendsWrong)

/- THE SECOND FORM. 'bulk': how many values and letters a reading holds, each counted each time it is reached (what is shared counts as often as it is met; a slice's spare places count too). A statement '..UptoSaid' is the law's where the arguments, and the package variables that the reading takes, are together of bulk at most 1048576: NARROWER than '..Said'. Prove '..Said' where nothing that the law and all that it calls make is longer than what came in: it says more and counts as full. Else prove '..UptoSaid'. A law counts once. -/
mutual
def uptoBulk {H : Type} : DataW H → Nat
  | .lit (.string bytes) => bytes.length + 1
  | .lit _ => 1
  | .nil => 1
  | .ptr d => uptoBulk d + 1
  | .slice elems spare => uptoBulkAll elems + uptoBulkAll spare + 1
  | .agg parts => uptoBulkAll parts + 1
  | .iface _ d => uptoBulk d + 1
  | .map entries => uptoBulkEntries entries + 1
  | .held _ => 1
def uptoBulkAll {H : Type} : List (DataW H) → Nat
  | [] => 0
  | d :: r => uptoBulk d + uptoBulkAll r
def uptoBulkEntries {H : Type} : List (Lit × DataW H) → Nat
  | [] => 0
  | x :: r => uptoBulkEntry x + uptoBulkEntries r
def uptoBulkEntry {H : Type} : Lit × DataW H → Nat
  | (.string bytes, d) => bytes.length + uptoBulk d + 1
  | (_, d) => uptoBulk d + 1
 end
def uptoSmall : (H : Type) → List (DataW H) → Bool := fun _ ds => decide (uptoBulkAll ds ≤ 1048576)
def OpenSpec.upto (s : _root_.Go.ChangeSpec) : _root_.Go.OpenSpec := { _root_.Go.OpenSpec.ofChange s with cond := some uptoSmall }

/-- 'sheavelaw03.ScalarOne', WHERE WHAT IT READS IS OF BULK AT MOST 1048576: true; the input reads as it did. -/
def scalarOneUptoRow : OpenClaim := { program := "ytnimcfgomlabcaa", sum := "ab16e86f98cbcd9a58f4b9bf08cc050b492100b60126b145a8fb899463c04d05", func := "sheave/sheavelaw03.ScalarOne", spec := "scalarOne", unfollowed := true, recurses := true, apart := false, narrowed := true }
def ScalarOneUptoSaid : Prop := scalarOneUptoRow.holds Try.pinned (OpenSpec.upto scalarOneSpec)

/-- 'sheavelaw03.ScalarTexts', WHERE WHAT IT READS IS OF BULK AT MOST 1048576: true; the input reads as it did. -/
def scalarTextsUptoRow : OpenClaim := { program := "ytnimcfgomlabcaa", sum := "ab16e86f98cbcd9a58f4b9bf08cc050b492100b60126b145a8fb899463c04d05", func := "sheave/sheavelaw03.ScalarTexts", spec := "scalarTexts", unfollowed := true, recurses := true, apart := false, narrowed := true }
def ScalarTextsUptoSaid : Prop := scalarTextsUptoRow.holds Try.pinned (OpenSpec.upto scalarTextsSpec)

/-- 'sheavelaw03.ScalarChecks', WHERE WHAT IT READS IS OF BULK AT MOST 1048576: true; the input reads as it did. -/
def scalarChecksUptoRow : OpenClaim := { program := "ytnimcfgomlabcaa", sum := "ab16e86f98cbcd9a58f4b9bf08cc050b492100b60126b145a8fb899463c04d05", func := "sheave/sheavelaw03.ScalarChecks", spec := "scalarChecks", unfollowed := true, recurses := true, apart := false, narrowed := true }
def ScalarChecksUptoSaid : Prop := scalarChecksUptoRow.holds Try.pinned (OpenSpec.upto scalarChecksSpec)

/-- 'sheavelaw03.ScalarMends', WHERE WHAT IT READS IS OF BULK AT MOST 1048576: true; the input reads as it did. -/
def scalarMendsUptoRow : OpenClaim := { program := "ytnimcfgomlabcaa", sum := "ab16e86f98cbcd9a58f4b9bf08cc050b492100b60126b145a8fb899463c04d05", func := "sheave/sheavelaw03.ScalarMends", spec := "scalarMends", unfollowed := true, recurses := true, apart := false, narrowed := true }
def ScalarMendsUptoSaid : Prop := scalarMendsUptoRow.holds Try.pinned (OpenSpec.upto scalarMendsSpec)

end Rows
end Go.Proofs.Ytnimcfgomlabcaa
