/-
  Contracts of package units' functions: units of octets.
-/
import Derived.Test.YtobjdamlmaaidaaC06b
namespace Go.Proofs.Ytobjdamlmaaidaa
open Go.RowKit
set_option linter.unusedVariables false

end Go.Proofs.Ytobjdamlmaaidaa
