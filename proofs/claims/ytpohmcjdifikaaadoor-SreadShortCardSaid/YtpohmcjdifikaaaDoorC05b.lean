/-
  Contracts of package utfall's functions: those that range over octets' signs.
-/
import Derived.Test.YtpohmcjdifikaaaDoorC05
namespace Go.Proofs.YtpohmcjdifikaaaDoor
open Go.RowKit Go.Shelf
set_option linter.unusedVariables false
attribute [local go_sem] Oper.semAt_some



end Go.Proofs.YtpohmcjdifikaaaDoor
