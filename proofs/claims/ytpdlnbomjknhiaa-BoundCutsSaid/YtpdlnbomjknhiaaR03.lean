/-
  Contracts of the document's own functions of layer 3 (those that the translation has).
-/
import Derived.Test.YtpdlnbomjknhiaaRows
import Derived.Test.YtpdlnbomjknhiaaD03
namespace Go.Proofs.Ytpdlnbomjknhiaa
open Go.RowKit
set_option linter.unusedVariables false

theorem STR : SliceT Try.prog 32 21 .i32 4 := ⟨Try.underlying32, by kernel_rfl, by decide⟩


end Go.Proofs.Ytpdlnbomjknhiaa
