/-
  Contracts of package hexa's functions.
-/
import Derived.Test.YtdipabcoeloeoaaC01
import Derived.Test.YtdipabcoeloeoaaD02b
import Derived.StillTailTactics
namespace Go.Proofs.Ytdipabcoeloeoaa
open Go.RowKit
set_option linter.unusedVariables false





end Go.Proofs.Ytdipabcoeloeoaa
