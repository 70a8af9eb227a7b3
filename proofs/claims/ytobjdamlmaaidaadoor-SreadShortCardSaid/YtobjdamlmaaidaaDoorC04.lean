/-
  Contracts of package utfone's functions: octets put.
-/
import Derived.Test.YtobjdamlmaaidaaDoorC01
import Derived.Test.YtobjdamlmaaidaaDoorC03
import Derived.Test.YtobjdamlmaaidaaDoorD04
import Derived.Handy
namespace Go.Proofs.YtobjdamlmaaidaaDoor
open Go.RowKit
set_option linter.unusedVariables false

theorem ret_ii3 {k k2 k3 : IntKind} {a b c d e f : Int} (h : a = b) (h' : c = d) (h2 : e = f) : Ending.returned (.tuple #[.int k a, .int k2 c, .int k3 e]) = .returned (.tuple #[.int k b, .int k2 d, .int k3 f]) := by rw [h, h', h2]


end Go.Proofs.YtobjdamlmaaidaaDoor
