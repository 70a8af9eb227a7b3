/-
  Contracts of the library's functions on octets that look at an end of one octet: bytes.HasSuffix, bytes.CutSuffix (those that the translation has).
-/
import Derived.Test.YtobjdamlmaaidaaDoorStrB
namespace Go.Proofs.YtobjdamlmaaidaaDoor
open Go.RowKit
set_option linter.unusedVariables false

end Go.Proofs.YtobjdamlmaaidaaDoor
