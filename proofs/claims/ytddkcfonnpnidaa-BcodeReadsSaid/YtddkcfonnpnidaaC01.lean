/-
  Contracts of package octet's functions (those that the translation has).
-/
import Derived.Test.YtddkcfonnpnidaaRows
import Derived.Test.YtddkcfonnpnidaaD01
namespace Go.Proofs.Ytddkcfonnpnidaa
open Go.RowKit
set_option linter.unusedVariables false

theorem CT8 : SliceT Try.prog 28 5 .u8 1 := ⟨Try.underlying28, by kernel_rfl, by decide⟩


end Go.Proofs.Ytddkcfonnpnidaa
