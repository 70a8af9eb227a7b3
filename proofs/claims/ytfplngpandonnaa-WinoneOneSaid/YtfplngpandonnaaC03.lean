/-
  Contracts of package scalar's functions (those that the translation has).
-/
import Derived.Test.YtfplngpandonnaaRows
import Derived.Test.YtfplngpandonnaaD03
namespace Go.Proofs.Ytfplngpandonnaa
open Go.RowKit
set_option linter.unusedVariables false

theorem CTR : SliceT Try.prog 28 21 .i32 4 := ⟨Try.underlying28, by kernel_rfl, by decide⟩


end Go.Proofs.Ytfplngpandonnaa
