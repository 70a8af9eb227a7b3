/-
  Contracts of package utfall's functions: those that range over octets' signs.
-/
import Derived.Test.YtobjdamlmaaidaaC05
namespace Go.Proofs.Ytobjdamlmaaidaa
open Go.RowKit Go.Shelf
set_option linter.unusedVariables false
attribute [local go_sem] Oper.semAt_some



end Go.Proofs.Ytobjdamlmaaidaa
