/-
  Contracts of package scalar's functions (those that the translation has).
-/
import Derived.Test.YtpohmcjdifikaaaRows
import Derived.Test.YtpohmcjdifikaaaD03
namespace Go.Proofs.Ytpohmcjdifikaaa
open Go.RowKit
set_option linter.unusedVariables false

theorem CTR : SliceT Try.prog 24 21 .i32 4 := ⟨Try.underlying24, by kernel_rfl, by decide⟩

theorem scalar_Surrogate (c : Int) (w : World) :
    Calls Try.prog 42 #[.int .i32 c] w fun e w' => e = .returned (.bool (surB c)) ∧ w = w' := by
  go_enter Try.func42, Try.ntmps42
  go_wp2
  all_goals (go_ret; exact ⟨ret_bool (by unfold surB; simp; omega), rfl⟩)

end Go.Proofs.Ytpohmcjdifikaaa
