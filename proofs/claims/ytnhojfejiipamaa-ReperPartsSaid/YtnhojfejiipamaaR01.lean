/-
  Contracts of the document's own functions of layer 1 (those that the translation has).
-/
import Derived.Test.YtnhojfejiipamaaRows
import Derived.Test.YtnhojfejiipamaaD01
namespace Go.Proofs.Ytnhojfejiipamaa
open Go.RowKit



end Go.Proofs.Ytnhojfejiipamaa
