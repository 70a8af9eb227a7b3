/-
  Contracts of package octet's functions (those that the translation has).
-/
import Derived.Test.YtobjdamlmaaidaaRows
import Derived.Test.YtobjdamlmaaidaaD01
namespace Go.Proofs.Ytobjdamlmaaidaa
open Go.RowKit
set_option linter.unusedVariables false

theorem CT8 : SliceT Try.prog 22 5 .u8 1 := ⟨Try.underlying22, by kernel_rfl, by decide⟩


end Go.Proofs.Ytobjdamlmaaidaa
