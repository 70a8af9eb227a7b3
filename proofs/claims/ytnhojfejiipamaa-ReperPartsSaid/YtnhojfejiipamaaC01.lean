/-
  Contracts of package octet's functions (those that the translation has).
-/
import Derived.Test.YtnhojfejiipamaaRows
import Derived.Test.YtnhojfejiipamaaD01
namespace Go.Proofs.Ytnhojfejiipamaa
open Go.RowKit
set_option linter.unusedVariables false



end Go.Proofs.Ytnhojfejiipamaa
