/-
  Contracts of package utfall's functions: the iterator over octets' signs.
-/
import Derived.Test.YtobjdamlmaaidaaDoorItr
import Derived.RangeFuncNested
import Derived.RangeFuncBox
import Derived.RangeFuncCalls
import Derived.RangeFuncLeaves
import Derived.Shelf.Abstract
import Derived.Shelf.RegionOpen
import Derived.OwnWalkIn
import Derived.TacticsInMore
import Derived.LoopNIn
import Derived.LoopIn
import Derived.Maps.AppendAt
import Derived.Test.YtobjdamlmaaidaaDoorC04b
import Derived.Test.YtobjdamlmaaidaaDoorD05
namespace Go.Proofs.YtobjdamlmaaidaaDoor
open Go.RowKit Go.Shelf
set_option linter.unusedVariables false
attribute [local go_sem] Oper.semAt_some


/-- A sign, as yield is handed it. -/
def encS (p : Int × Int) : Array Value := #[.int .i32 p.1, .int .i64 p.2]


end Go.Proofs.YtobjdamlmaaidaaDoor
