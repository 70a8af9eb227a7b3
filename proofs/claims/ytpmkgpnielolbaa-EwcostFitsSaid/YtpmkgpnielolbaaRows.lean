/-
  No cell of these rows narrows 'for every input' (looked for: loops, veiled, ifaces, maps, wideKeys, modest, calm, conditions, laid).
  DERIVED. THE GIVEN ROWS OF THIS SEAT. 4 by the template 'for every input the law returns true; each argument reads behind the call as it read before'; 0 by the template 'total and deterministic' (their statements: YtpmkgpnielolbaaTotals.lean).
  GIVEN WITH THE SEED: the statements are not yours to turn. If you find one false, say at which input.
  Laid BY PROGRAM, IN A SANDBOX (cutbox-rows.mjs): the forced cells as the released guide's own fill.sh prints them over the translation 722c60df522f7588… (all of the seat's roots in one cut). By AI agents, Wed Nov 11 2026. No macro, syntax, notation, axiom, sorry.
-/
import Derived.Test.YtpmkgpnielolbaaChecked
import GoSem.Claim
import GoSem.ClaimJoined
import GoSem.ClaimMapViews
import Derived.JoinedTies
import Derived.KernelRfl
namespace Go.Proofs.Ytpmkgpnielolbaa
/- THE CELL 'sum', in the pinned program and in every row, IS THE sha256 OF THE DUMP (.gsa) THAT YtpmkgpnielolbaaProg.lean LOADS. Nothing in Lean hashes anything: it is a label: what it is worth is what the hold of that sum in a sandbox is worth. -/
noncomputable def Try.pinned : Pinned := { name := "ytpmkgpnielolbaa", sum := "722c60df522f75888cb81bde2c1056b1706c8c4a22aff4d22eab29ac56e3d43b", checked := Try.checked }
namespace Rows
def none {H : Type} : Left H := { results := [], args := [] }

/-- 'sheavelaw30.EwcostLens': WHATEVER THE INPUT: true; the input reads as it did. -/
def ewcostLensSpec : ChangeSpec := { name := "ewcostLens", fn := fun _ => fun
  | [d1, d2] => { results := [.lit (.bool true)], args := [d1, d2] }
  | _ => none }
def ewcostLensRow : OpenClaim := { program := "ytpmkgpnielolbaa", sum := "722c60df522f75888cb81bde2c1056b1706c8c4a22aff4d22eab29ac56e3d43b", func := "sheave/sheavelaw30.EwcostLens", spec := "ewcostLens", unfollowed := true, recurses := true, apart := false }
def EwcostLensSaid : Prop := ewcostLensRow.holds Try.pinned (OpenSpec.ofChange ewcostLensSpec)

/-- ITS FALSE NEIGHBOUR: 'it returns false'. Refute it at one input. -/
def ewcostLensWrong : ChangeSpec := { name := "ewcostLens", fn := fun _ => fun
  | [d1, d2] => { results := [.lit (.bool false)], args := [d1, d2] }
  | _ => none }
def EwcostLensWrongFalsely : Prop := ewcostLensRow.holds Try.pinned (OpenSpec.ofChange ewcostLensWrong)

/-- 'sheavelaw30.EwcostFits': WHATEVER THE INPUT: true; the input reads as it did. -/
def ewcostFitsSpec : ChangeSpec := { name := "ewcostFits", fn := fun _ => fun
  | [d1, d2] => { results := [.lit (.bool true)], args := [d1, d2] }
  | _ => none }
def ewcostFitsRow : OpenClaim := { program := "ytpmkgpnielolbaa", sum := "722c60df522f75888cb81bde2c1056b1706c8c4a22aff4d22eab29ac56e3d43b", func := "sheave/sheavelaw30.EwcostFits", spec := "ewcostFits", unfollowed := true, recurses := true, apart := false }
def EwcostFitsSaid : Prop := ewcostFitsRow.holds Try.pinned (OpenSpec.ofChange ewcostFitsSpec)

/-- ITS FALSE NEIGHBOUR: 'it returns false'. Refute it at one input. -/
def ewcostFitsWrong : ChangeSpec := { name := "ewcostFits", fn := fun _ => fun
  | [d1, d2] => { results := [.lit (.bool false)], args := [d1, d2] }
  | _ => none }
def EwcostFitsWrongFalsely : Prop := ewcostFitsRow.holds Try.pinned (OpenSpec.ofChange ewcostFitsWrong)

/-- 'sheavelaw30.EwcostLaid': WHATEVER THE INPUT: true; the input reads as it did. -/
def ewcostLaidSpec : ChangeSpec := { name := "ewcostLaid", fn := fun _ => fun
  | [d1, d2] => { results := [.lit (.bool true)], args := [d1, d2] }
  | _ => none }
def ewcostLaidRow : OpenClaim := { program := "ytpmkgpnielolbaa", sum := "722c60df522f75888cb81bde2c1056b1706c8c4a22aff4d22eab29ac56e3d43b", func := "sheave/sheavelaw30.EwcostLaid", spec := "ewcostLaid", unfollowed := true, recurses := true, apart := false }
def EwcostLaidSaid : Prop := ewcostLaidRow.holds Try.pinned (OpenSpec.ofChange ewcostLaidSpec)

/-- ITS FALSE NEIGHBOUR: 'it returns false'. Refute it at one input. -/
def ewcostLaidWrong : ChangeSpec := { name := "ewcostLaid", fn := fun _ => fun
  | [d1, d2] => { results := [.lit (.bool false)], args := [d1, d2] }
  | _ => none }
def EwcostLaidWrongFalsely : Prop := ewcostLaidRow.holds Try.pinned (OpenSpec.ofChange ewcostLaidWrong)

/-- 'sheavelaw30.EwcostRises': WHATEVER THE INPUT: true; the input reads as it did. -/
def ewcostRisesSpec : ChangeSpec := { name := "ewcostRises", fn := fun _ => fun
  | [d1, d2] => { results := [.lit (.bool true)], args := [d1, d2] }
  | _ => none }
def ewcostRisesRow : OpenClaim := { program := "ytpmkgpnielolbaa", sum := "722c60df522f75888cb81bde2c1056b1706c8c4a22aff4d22eab29ac56e3d43b", func := "sheave/sheavelaw30.EwcostRises", spec := "ewcostRises", unfollowed := true, recurses := true, apart := false }
def EwcostRisesSaid : Prop := ewcostRisesRow.holds Try.pinned (OpenSpec.ofChange ewcostRisesSpec)

/-- ITS FALSE NEIGHBOUR: 'it returns false'. Refute it at one input. -/
def ewcostRisesWrong : ChangeSpec := { name := "ewcostRises", fn := fun _ => fun
  | [d1, d2] => { results := [.lit (.bool false)], args := [d1, d2] }
  | _ => none }
def EwcostRisesWrongFalsely : Prop := ewcostRisesRow.holds Try.pinned (OpenSpec.ofChange ewcostRisesWrong)

/- THE SECOND FORM. 'bulk': how many values and letters a reading holds, each counted each time it is reached (what is shared counts as often as it is met; a slice's spare places count too). A statement '..UptoSaid' is the law's where the arguments, and the package variables that the reading takes, are together of bulk at most 1048576: NARROWER than '..Said'. Prove '..Said' where nothing that the law and all that it calls make is longer than what came in: it says more and counts as full. Else prove '..UptoSaid'. A law counts once. -/
mutual
def uptoBulk {H : Type} : DataW H → Nat
  | .lit (.string bytes) => bytes.length + 1
  | .lit _ => 1
  | .nil => 1
  | .ptr d => uptoBulk d + 1
  | .slice elems spare => uptoBulkAll elems + uptoBulkAll spare + 1
  | .agg parts => uptoBulkAll parts + 1
  | .iface _ d => uptoBulk d + 1
  | .map entries => uptoBulkEntries entries + 1
  | .held _ => 1
def uptoBulkAll {H : Type} : List (DataW H) → Nat
  | [] => 0
  | d :: r => uptoBulk d + uptoBulkAll r
def uptoBulkEntries {H : Type} : List (Lit × DataW H) → Nat
  | [] => 0
  | x :: r => uptoBulkEntry x + uptoBulkEntries r
def uptoBulkEntry {H : Type} : Lit × DataW H → Nat
  | (.string bytes, d) => bytes.length + uptoBulk d + 1
  | (_, d) => uptoBulk d + 1
 end
def uptoSmall : (H : Type) → List (DataW H) → Bool := fun _ ds => decide (uptoBulkAll ds ≤ 1048576)
def OpenSpec.upto (s : _root_.Go.ChangeSpec) : _root_.Go.OpenSpec := { _root_.Go.OpenSpec.ofChange s with cond := some uptoSmall }

/-- 'sheavelaw30.EwcostLens', WHERE WHAT IT READS IS OF BULK AT MOST 1048576: true; the input reads as it did. -/
def ewcostLensUptoRow : OpenClaim := { program := "ytpmkgpnielolbaa", sum := "722c60df522f75888cb81bde2c1056b1706c8c4a22aff4d22eab29ac56e3d43b", func := "sheave/sheavelaw30.EwcostLens", spec := "ewcostLens", unfollowed := true, recurses := true, apart := false, narrowed := true }
def EwcostLensUptoSaid : Prop := ewcostLensUptoRow.holds Try.pinned (OpenSpec.upto ewcostLensSpec)

/-- 'sheavelaw30.EwcostFits', WHERE WHAT IT READS IS OF BULK AT MOST 1048576: true; the input reads as it did. -/
def ewcostFitsUptoRow : OpenClaim := { program := "ytpmkgpnielolbaa", sum := "722c60df522f75888cb81bde2c1056b1706c8c4a22aff4d22eab29ac56e3d43b", func := "sheave/sheavelaw30.EwcostFits", spec := "ewcostFits", unfollowed := true, recurses := true, apart := false, narrowed := true }
def EwcostFitsUptoSaid : Prop := ewcostFitsUptoRow.holds Try.pinned (OpenSpec.upto ewcostFitsSpec)

/-- 'sheavelaw30.EwcostLaid', WHERE WHAT IT READS IS OF BULK AT MOST 1048576: true; the input reads as it did. -/
def ewcostLaidUptoRow : OpenClaim := { program := "ytpmkgpnielolbaa", sum := "722c60df522f75888cb81bde2c1056b1706c8c4a22aff4d22eab29ac56e3d43b", func := "sheave/sheavelaw30.EwcostLaid", spec := "ewcostLaid", unfollowed := true, recurses := true, apart := false, narrowed := true }
def EwcostLaidUptoSaid : Prop := ewcostLaidUptoRow.holds Try.pinned (OpenSpec.upto ewcostLaidSpec)

/-- 'sheavelaw30.EwcostRises', WHERE WHAT IT READS IS OF BULK AT MOST 1048576: true; the input reads as it did. -/
def ewcostRisesUptoRow : OpenClaim := { program := "ytpmkgpnielolbaa", sum := "722c60df522f75888cb81bde2c1056b1706c8c4a22aff4d22eab29ac56e3d43b", func := "sheave/sheavelaw30.EwcostRises", spec := "ewcostRises", unfollowed := true, recurses := true, apart := false, narrowed := true }
def EwcostRisesUptoSaid : Prop := ewcostRisesUptoRow.holds Try.pinned (OpenSpec.upto ewcostRisesSpec)

end Rows
end Go.Proofs.Ytpmkgpnielolbaa
