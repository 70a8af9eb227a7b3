/-
  Contracts of the document's own functions of layer 3 (those that the translation has).
-/
import Derived.Test.YtfmbpcjmpggodaaRows
import Derived.Test.YtfmbpcjmpggodaaD03
namespace Go.Proofs.Ytfmbpcjmpggodaa
open Go.RowKit
set_option linter.unusedVariables false


theorem ref03_Surrogate (c : Int) (w : World) :
    Calls Try.prog 25 #[.int .i32 c] w fun e w' => e = .returned (.bool (surB c)) ∧ w = w' := by
  go_enter Try.func25, Try.ntmps25
  go_wp2
  all_goals (go_ret; exact ⟨ret_bool (by unfold surB; simp; omega), rfl⟩)
theorem ref03_Is (c : Int) (w : World) :
    Calls Try.prog 19 #[.int .i32 c] w fun e w' => e = .returned (.bool (scB c)) ∧ w = w' := by
  go_enter Try.func19, Try.ntmps19
  go_wp2_with (go_at_call 25; (with_reducible refine (ref03_Surrogate _ _).mono ?_); rintro e w' ⟨rfl, rfl⟩)
  all_goals (go_ret; exact ⟨ret_bool (by first | exact sc_of ‹_› ‹_› | (unfold scB; simp; omega)), rfl⟩)

end Go.Proofs.Ytfmbpcjmpggodaa
