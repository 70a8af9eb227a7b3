/-
  What BoundWays needs of the library beside the rest.
-/
import Derived.Deep.RegionHeld3
namespace Go.Proofs.Ytkmilfhcembkfaa
end Go.Proofs.Ytkmilfhcembkfaa
