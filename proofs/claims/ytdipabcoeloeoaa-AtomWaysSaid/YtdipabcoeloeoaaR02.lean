/-
  Contracts of the document's own functions of layer 2.
-/
import Derived.Test.YtdipabcoeloeoaaR01
import Derived.Test.YtdipabcoeloeoaaD02
import Derived.IntWalk
namespace Go.Proofs.Ytdipabcoeloeoaa
open Go.RowKit
set_option linter.unusedVariables false


theorem dig_mod (n : Int) : (n.tmod 16 + 16).tmod 16 = n % 16 := by
  have h1 : -15 ≤ n.tmod 16 ∧ n.tmod 16 ≤ 15 := by
    rcases Int.le_total 0 n with h | h
    · rw [Int.tmod_eq_emod_of_nonneg h]; omega
    · obtain ⟨m, rfl⟩ : ∃ m, n = -m := ⟨-n, by omega⟩
      rw [Int.neg_tmod, Int.tmod_eq_emod_of_nonneg (by omega)]; omega
  rw [Int.tmod_eq_emod_of_nonneg (by omega)]
  rcases Int.le_total 0 n with h | h
  · rw [Int.tmod_eq_emod_of_nonneg h]; omega
  · obtain ⟨m, rfl⟩ : ∃ m, n = -m := ⟨-n, by omega⟩
    rw [Int.neg_tmod, Int.tmod_eq_emod_of_nonneg (by omega)]; omega



/-- The walk's spellings of an octet's two digits. -/
theorem spell (x : Int) (h0 : 0 ≤ x) (h1 : x ≤ 255) : IntKind.i64.wrap x = x ∧ x.tdiv 16 = x / 16 ∧ x.tmod 16 = x % 16 ∧ IntKind.i64.wrap (x / 16) = x / 16 ∧ IntKind.i64.wrap (x % 16) = x % 16 :=
  ⟨IntWalk.i64_in _ (by omega), Int.tdiv_eq_ediv_of_nonneg h0, Int.tmod_eq_emod_of_nonneg h0, IntWalk.i64_in _ (by omega), IntWalk.i64_in _ (by omega)⟩


end Go.Proofs.Ytdipabcoeloeoaa
