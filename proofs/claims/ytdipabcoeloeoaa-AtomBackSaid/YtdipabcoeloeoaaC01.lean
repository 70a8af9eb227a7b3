/-
  Contracts of package octet's functions (those that the translation has).
-/
import Derived.Test.YtdipabcoeloeoaaRows
import Derived.Test.YtdipabcoeloeoaaD01
namespace Go.Proofs.Ytdipabcoeloeoaa
open Go.RowKit
set_option linter.unusedVariables false

theorem CT8 : SliceT Try.prog 22 5 .u8 1 := ⟨Try.underlying22, by kernel_rfl, by decide⟩

theorem lower_c (c : Int) (w : World) (h0 : 0 ≤ c) (h1 : c ≤ 255) :
    Calls Try.prog 44 #[.int .u8 c] w fun e w' => e = .returned (.int .u8 (lowI c)) ∧ w = w' := by
  go_enter Try.func44, Try.ntmps44
  go_wp2
  all_goals (go_ret; exact ⟨ret_int (by unfold lowI; split <;> omega), rfl⟩)

end Go.Proofs.Ytdipabcoeloeoaa
