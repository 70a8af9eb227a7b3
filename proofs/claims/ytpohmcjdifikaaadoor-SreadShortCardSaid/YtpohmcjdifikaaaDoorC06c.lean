/-
  Contracts of package units' functions: units of octets.
-/
import Derived.Test.YtpohmcjdifikaaaDoorC06b
namespace Go.Proofs.YtpohmcjdifikaaaDoor
open Go.RowKit
set_option linter.unusedVariables false

end Go.Proofs.YtpohmcjdifikaaaDoor
