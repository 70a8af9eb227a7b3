/-
  Contracts of package octet's functions (those that the translation has).
-/
import Derived.Test.YtbhmhpcabppgmaaRows
import Derived.Test.YtbhmhpcabppgmaaD01
namespace Go.Proofs.Ytbhmhpcabppgmaa
open Go.RowKit
set_option linter.unusedVariables false

theorem CT8 : SliceT Try.prog 22 5 .u8 1 := ⟨Try.underlying22, by kernel_rfl, by decide⟩


end Go.Proofs.Ytbhmhpcabppgmaa
