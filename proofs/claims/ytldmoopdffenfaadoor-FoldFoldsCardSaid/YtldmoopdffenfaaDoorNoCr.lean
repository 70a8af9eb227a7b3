/-
  No 13 and 10 before a place, in plain words.
-/
import Derived.Test.YtldmoopdffenfaaDoorBase
namespace Go.Proofs.YtldmoopdffenfaaDoor
open Go.RowKit
set_option linter.unusedVariables false

/-- No 13 and 10 before i. -/
def NoCr (s : List Int) (i : Nat) : Prop := ∀ j, j < i → ¬ (s[j]? = some 13 ∧ s[j + 1]? = some 10)
theorem NoCr.tail {x : Int} {s : List Int} {i : Nat} (h : NoCr (x :: s) (i + 1)) : NoCr s i := fun j hj hh => h (j + 1) (by omega) (by simpa using hh)
theorem NoCr.head {x : Int} {s : List Int} {i : Nat} (h : NoCr (x :: s) (i + 1)) : ¬ (x = 13 ∧ s.head? = some 10) := fun hh => h 0 (by omega) (by
  rw [List.head?_eq_getElem?] at hh
  simpa using hh)
end Go.Proofs.YtldmoopdffenfaaDoor
