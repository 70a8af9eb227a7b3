/-
  Contracts of package octet's functions (those that the translation has).
-/
import Derived.Test.YtgeadmpbfbdopaaRows
import Derived.Test.YtgeadmpbfbdopaaD01
namespace Go.Proofs.Ytgeadmpbfbdopaa
open Go.RowKit
set_option linter.unusedVariables false

theorem CT8 : SliceT Try.prog 24 5 .u8 1 := ⟨Try.underlying24, by kernel_rfl, by decide⟩


end Go.Proofs.Ytgeadmpbfbdopaa
