/-
  What BoundWays needs of the library beside the rest.
-/
import Derived.Deep.RegionHeld3
namespace Go.Proofs.Ytpdlnbomjknhiaa
end Go.Proofs.Ytpdlnbomjknhiaa
