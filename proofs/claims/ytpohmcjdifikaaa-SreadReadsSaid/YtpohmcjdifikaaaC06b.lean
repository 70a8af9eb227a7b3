/-
  Contracts of package units' functions: texts laid, octets.
-/
import Derived.Test.YtpohmcjdifikaaaC06
namespace Go.Proofs.Ytpohmcjdifikaaa
open Go.RowKit
set_option linter.unusedVariables false

end Go.Proofs.Ytpohmcjdifikaaa
