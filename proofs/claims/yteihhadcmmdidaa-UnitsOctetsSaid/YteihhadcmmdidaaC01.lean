/-
  Contracts of package octet's functions (those that the translation has).
-/
import Derived.Test.YteihhadcmmdidaaRows
import Derived.Test.YteihhadcmmdidaaD01
namespace Go.Proofs.Yteihhadcmmdidaa
open Go.RowKit
set_option linter.unusedVariables false

theorem CT8 : SliceT Try.prog 42 5 .u8 1 := ⟨Try.underlying42, by kernel_rfl, by decide⟩


end Go.Proofs.Yteihhadcmmdidaa
