/-
  Contracts of the document's own functions of layer 14: what is read.
-/
import Derived.Test.YtobjdamlmaaidaaDoorR14
import Derived.Deep.CutBlock
namespace Go.Proofs.YtobjdamlmaaidaaDoor
open Go.RowKit
set_option linter.unusedVariables false

theorem eqEnd_le (xs : List Int) : eqEnd xs ≤ xs.length := by unfold eqEnd; (repeat' split) <;> omega
end Go.Proofs.YtobjdamlmaaidaaDoor
