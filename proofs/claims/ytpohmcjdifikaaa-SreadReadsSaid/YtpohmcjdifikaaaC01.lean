/-
  Contracts of package octet's functions (those that the translation has).
-/
import Derived.Test.YtpohmcjdifikaaaRows
import Derived.Test.YtpohmcjdifikaaaD01
namespace Go.Proofs.Ytpohmcjdifikaaa
open Go.RowKit
set_option linter.unusedVariables false

theorem CT8 : SliceT Try.prog 22 5 .u8 1 := ⟨Try.underlying22, by kernel_rfl, by decide⟩


end Go.Proofs.Ytpohmcjdifikaaa
