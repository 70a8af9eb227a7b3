/-
  Contracts of package scalar's functions (those that the translation has).
-/
import Derived.Test.YtobjdamlmaaidaaRows
import Derived.Test.YtobjdamlmaaidaaD03
namespace Go.Proofs.Ytobjdamlmaaidaa
open Go.RowKit
set_option linter.unusedVariables false

theorem CTR : SliceT Try.prog 24 21 .i32 4 := ⟨Try.underlying24, by kernel_rfl, by decide⟩

theorem scalar_Surrogate (c : Int) (w : World) :
    Calls Try.prog 43 #[.int .i32 c] w fun e w' => e = .returned (.bool (surB c)) ∧ w = w' := by
  go_enter Try.func43, Try.ntmps43
  go_wp2
  all_goals (go_ret; exact ⟨ret_bool (by unfold surB; simp; omega), rfl⟩)

end Go.Proofs.Ytobjdamlmaaidaa
