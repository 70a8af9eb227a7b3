/-
  Contracts of package octet's functions (those that the translation has).
-/
import Derived.Test.YtfplngpandonnaaRows
import Derived.Test.YtfplngpandonnaaD01
namespace Go.Proofs.Ytfplngpandonnaa
open Go.RowKit
set_option linter.unusedVariables false

theorem CT8 : SliceT Try.prog 29 5 .u8 1 := ⟨Try.underlying29, by kernel_rfl, by decide⟩


end Go.Proofs.Ytfplngpandonnaa
