/-
  Contracts of package units' functions: surrogates, and a sign that is taken.
-/
import Derived.Test.YtiehbmfopojabaaDoorC03
import Derived.Test.YtiehbmfopojabaaDoorC05c
import Derived.Test.YtiehbmfopojabaaDoorD06
namespace Go.Proofs.YtiehbmfopojabaaDoor
open Go.RowKit
set_option linter.unusedVariables false

theorem CT16 : SliceT Tryd.prog 44 58 .u16 2 := ⟨Tryd.underlying44, by kernel_rfl, by decide⟩
end Go.Proofs.YtiehbmfopojabaaDoor
