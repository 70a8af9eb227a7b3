/-
  Contracts of package units' functions: texts laid, octets.
-/
import Derived.Test.YtobjdamlmaaidaaC06
namespace Go.Proofs.Ytobjdamlmaaidaa
open Go.RowKit
set_option linter.unusedVariables false

end Go.Proofs.Ytobjdamlmaaidaa
