/-
  Contracts of package scalar's functions (those that the translation has).
-/
import Derived.Test.YtfmbpcjmpggodaaRows
import Derived.Test.YtfmbpcjmpggodaaD03
namespace Go.Proofs.Ytfmbpcjmpggodaa
open Go.RowKit
set_option linter.unusedVariables false


theorem scalar_Surrogate (c : Int) (w : World) :
    Calls Try.prog 27 #[.int .i32 c] w fun e w' => e = .returned (.bool (surB c)) ∧ w = w' := by
  go_enter Try.func27, Try.ntmps27
  go_wp2
  all_goals (go_ret; exact ⟨ret_bool (by unfold surB; simp; omega), rfl⟩)
theorem scalar_Is (c : Int) (w : World) :
    Calls Try.prog 21 #[.int .i32 c] w fun e w' => e = .returned (.bool (scB c)) ∧ w = w' := by
  go_enter Try.func21, Try.ntmps21
  go_wp2_with (go_at_call 27; (with_reducible refine (scalar_Surrogate _ _).mono ?_); rintro e w' ⟨rfl, rfl⟩)
  all_goals (go_ret; exact ⟨ret_bool (by first | exact sc_of ‹_› ‹_› | (unfold scB; simp; omega)), rfl⟩)

end Go.Proofs.Ytfmbpcjmpggodaa
