/-
  Contracts of package bcode's functions: the code without what fills up.
-/
import Derived.Test.YtddkcfonnpnidaaC14c
namespace Go.Proofs.Ytddkcfonnpnidaa
open Go.RowKit
set_option linter.unusedVariables false

end Go.Proofs.Ytddkcfonnpnidaa
