/-
  Contracts of package scalar's functions (those that the translation has).
-/
import Derived.Test.YtnhojfejiipamaaRows
import Derived.Test.YtnhojfejiipamaaD03
namespace Go.Proofs.Ytnhojfejiipamaa
open Go.RowKit
set_option linter.unusedVariables false

theorem CTR : SliceT Try.prog 24 21 .i32 4 := ⟨Try.underlying24, by kernel_rfl, by decide⟩

theorem scalar_Surrogate (c : Int) (w : World) :
    Calls Try.prog 37 #[.int .i32 c] w fun e w' => e = .returned (.bool (surB c)) ∧ w = w' := by
  go_enter Try.func37, Try.ntmps37
  go_wp2
  all_goals (go_ret; exact ⟨ret_bool (by unfold surB; simp; omega), rfl⟩)
theorem scalar_Is (c : Int) (w : World) :
    Calls Try.prog 25 #[.int .i32 c] w fun e w' => e = .returned (.bool (scB c)) ∧ w = w' := by
  go_enter Try.func25, Try.ntmps25
  go_wp2_with (go_at_call 37; (with_reducible refine (scalar_Surrogate _ _).mono ?_); rintro e w' ⟨rfl, rfl⟩)
  all_goals (go_ret; exact ⟨ret_bool (by first | exact sc_of ‹_› ‹_› | (unfold scB; simp; omega)), rfl⟩)

end Go.Proofs.Ytnhojfejiipamaa
