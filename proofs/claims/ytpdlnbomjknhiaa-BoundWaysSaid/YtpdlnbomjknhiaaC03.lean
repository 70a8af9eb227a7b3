/-
  Contracts of package scalar's functions (those that the translation has).
-/
import Derived.Test.YtpdlnbomjknhiaaRows
import Derived.Test.YtpdlnbomjknhiaaD03
namespace Go.Proofs.Ytpdlnbomjknhiaa
open Go.RowKit
set_option linter.unusedVariables false

theorem CTR : SliceT Try.prog 32 21 .i32 4 := ⟨Try.underlying32, by kernel_rfl, by decide⟩

theorem scalar_Surrogate (c : Int) (w : World) :
    Calls Try.prog 44 #[.int .i32 c] w fun e w' => e = .returned (.bool (surB c)) ∧ w = w' := by
  go_enter Try.func44, Try.ntmps44
  go_wp2
  all_goals (go_ret; exact ⟨ret_bool (by unfold surB; simp; omega), rfl⟩)
theorem scalar_Is (c : Int) (w : World) :
    Calls Try.prog 43 #[.int .i32 c] w fun e w' => e = .returned (.bool (scB c)) ∧ w = w' := by
  go_enter Try.func43, Try.ntmps43
  go_wp2_with (go_at_call 44; (with_reducible refine (scalar_Surrogate _ _).mono ?_); rintro e w' ⟨rfl, rfl⟩)
  all_goals (go_ret; exact ⟨ret_bool (by first | exact sc_of ‹_› ‹_› | (unfold scB; simp; omega)), rfl⟩)

end Go.Proofs.Ytpdlnbomjknhiaa
