/-
  Contracts of package octet's functions (those that the translation has).
-/
import Derived.Test.YtjkkhfnphfgihaaRows
import Derived.Test.YtjkkhfnphfgihaaD01
namespace Go.Proofs.Ytjkkhfnphfgihaa
open Go.RowKit
set_option linter.unusedVariables false

theorem CT8 : SliceT Try.prog 24 5 .u8 1 := ⟨Try.underlying24, by kernel_rfl, by decide⟩


end Go.Proofs.Ytjkkhfnphfgihaa
