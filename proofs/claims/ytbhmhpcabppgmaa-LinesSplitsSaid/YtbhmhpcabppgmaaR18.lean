/-
  Contracts of the document's own functions of layer 18 (those that the translation has).
-/
import Derived.Test.YtbhmhpcabppgmaaRows
import Derived.Test.YtbhmhpcabppgmaaR01k
import Derived.Test.YtbhmhpcabppgmaaR02
import Derived.Test.YtbhmhpcabppgmaaFirst
import Derived.Test.YtbhmhpcabppgmaaD18
import Derived.Test.YtbhmhpcabppgmaaKeep
import Derived.StillTailTactics
namespace Go.Proofs.Ytbhmhpcabppgmaa
open Go.RowKit
set_option linter.unusedVariables false

theorem drop_one {xs : List Int} {k : Nat} {x : Int} (h : xs[k]? = some x) : xs.drop k = x :: xs.drop (k + 1) := by
  have hk : k < xs.length := (List.getElem?_eq_some_iff.1 h).1
  have e : xs[k] = x := (List.getElem?_eq_some_iff.1 h).2
  rw [List.drop_eq_getElem_cons hk, e]
theorem Reads.cellIs {k : IntKind} {w : World} {b off len cap : Nat} {xs : List Int} (h : Reads k w (some ⟨b, off, none⟩) len cap xs) {i : Nat} {x : Int} (hx : xs[i]? = some x) : w.cell? ⟨b, off + i, none⟩ = some (.int k x) := by
  have hi : i < xs.length := (List.getElem?_eq_some_iff.1 hx).1
  have hs := h.size
  obtain ⟨b', off', y, hb, _, hc, hy⟩ := h.get (i := i) (by omega)
  cases hb
  have h1 := hy.out.1
  rw [hx] at h1
  rw [hc, Option.some.inj h1]
end Go.Proofs.Ytbhmhpcabppgmaa
