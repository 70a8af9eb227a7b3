/-
  Contracts of package units' functions: units of octets.
-/
import Derived.Test.YtobjdamlmaaidaaDoorC06b
namespace Go.Proofs.YtobjdamlmaaidaaDoor
open Go.RowKit
set_option linter.unusedVariables false

end Go.Proofs.YtobjdamlmaaidaaDoor
