/-
  Contracts of the document's own functions of layer 21 (those that the translation has).
-/
import Derived.Test.YtdipabcoeloeoaaRows
import Derived.Test.YtdipabcoeloeoaaR01
import Derived.Test.YtdipabcoeloeoaaR01k
import Derived.Test.YtdipabcoeloeoaaR02
import Derived.Test.YtdipabcoeloeoaaD21
namespace Go.Proofs.Ytdipabcoeloeoaa
open Go.RowKit
set_option linter.unusedVariables false

theorem drop1p {xs : List Int} {k : Nat} {x : Int} (h : xs[k]? = some x) : xs.drop k = x :: xs.drop (k + 1) := by
  have hk : k < xs.length := (List.getElem?_eq_some_iff.1 h).1
  have e : xs[k] = x := (List.getElem?_eq_some_iff.1 h).2
  rw [List.drop_eq_getElem_cons hk, e]
end Go.Proofs.Ytdipabcoeloeoaa
