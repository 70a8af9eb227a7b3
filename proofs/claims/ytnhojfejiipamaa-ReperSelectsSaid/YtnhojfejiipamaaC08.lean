/-
  Contracts of package latin's functions (those that the translation has).
-/
import Derived.Test.YtnhojfejiipamaaRows
import Derived.Test.YtnhojfejiipamaaC01
import Derived.Test.YtnhojfejiipamaaC03
import Derived.Test.YtnhojfejiipamaaD08
namespace Go.Proofs.Ytnhojfejiipamaa
open Go.RowKit
set_option linter.unusedVariables false

theorem latin_Has (c : Int) (w : World) :
    Calls Try.prog 22 #[.int .i32 c] w fun e w' => e = .returned (.bool (hasI sg08 c)) ∧ w = w' := by
  have H := hid (has08 c)
  go_enter Try.func22, Try.ntmps22
  go_wp2
  all_goals (go_ret; exact ⟨ret_bool (by rw [H.out]; simp; omega), rfl⟩)
theorem latin_Sign (x : Int) (w : World) (h0 : 0 ≤ x) (h1 : x ≤ 255) :
    Calls Try.prog 32 #[.int .u8 x] w fun e w' => e = .returned (.int .i32 (sg08 x)) ∧ w = w' := by
  go_enter Try.func32, Try.ntmps32
  go_wp2
  all_goals (go_ret; exact ⟨ret_int rfl, rfl⟩)

end Go.Proofs.Ytnhojfejiipamaa
