/-
  Contracts of package units' functions: units of octets.
-/
import Derived.Test.YtpohmcjdifikaaaC06b
namespace Go.Proofs.Ytpohmcjdifikaaa
open Go.RowKit
set_option linter.unusedVariables false

end Go.Proofs.Ytpohmcjdifikaaa
