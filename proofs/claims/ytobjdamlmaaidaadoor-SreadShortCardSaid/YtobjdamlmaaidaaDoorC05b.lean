/-
  Contracts of package utfall's functions: those that range over octets' signs.
-/
import Derived.Test.YtobjdamlmaaidaaDoorC05
namespace Go.Proofs.YtobjdamlmaaidaaDoor
open Go.RowKit Go.Shelf
set_option linter.unusedVariables false
attribute [local go_sem] Oper.semAt_some



end Go.Proofs.YtobjdamlmaaidaaDoor
