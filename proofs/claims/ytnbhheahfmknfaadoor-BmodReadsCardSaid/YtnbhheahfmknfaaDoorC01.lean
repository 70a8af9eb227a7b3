/-
  Contracts of package octet's functions (those that the translation has).
-/
import Derived.Test.YtnbhheahfmknfaaDoorRows
import Derived.Test.YtnbhheahfmknfaaDoorD01
namespace Go.Proofs.YtnbhheahfmknfaaDoor
open Go.RowKit
set_option linter.unusedVariables false

theorem CT8 : SliceT Tryd.prog 22 5 .u8 1 := ⟨Tryd.underlying22, by kernel_rfl, by decide⟩


end Go.Proofs.YtnbhheahfmknfaaDoor
