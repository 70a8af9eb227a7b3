/-
  Contracts of package octet's functions (those that the translation has).
-/
import Derived.Test.YtddkcfonnpnidaaDoorRows
import Derived.Test.YtddkcfonnpnidaaDoorD01
namespace Go.Proofs.YtddkcfonnpnidaaDoor
open Go.RowKit
set_option linter.unusedVariables false

theorem CT8 : SliceT Tryd.prog 22 5 .u8 1 := ⟨Tryd.underlying22, by kernel_rfl, by decide⟩


end Go.Proofs.YtddkcfonnpnidaaDoor
