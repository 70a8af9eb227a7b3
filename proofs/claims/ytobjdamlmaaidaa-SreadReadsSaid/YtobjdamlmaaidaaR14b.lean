/-
  Contracts of the document's own functions of layer 14: what is read.
-/
import Derived.Test.YtobjdamlmaaidaaR14
import Derived.Deep.CutBlock
namespace Go.Proofs.Ytobjdamlmaaidaa
open Go.RowKit
set_option linter.unusedVariables false

theorem eqEnd_le (xs : List Int) : eqEnd xs ≤ xs.length := by unfold eqEnd; (repeat' split) <;> omega
end Go.Proofs.Ytobjdamlmaaidaa
