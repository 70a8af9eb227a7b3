/-
  Contracts of package octet's functions (those that the translation has).
-/
import Derived.Test.YtiehbmfopojabaaDoorRows
import Derived.Test.YtiehbmfopojabaaDoorD01
namespace Go.Proofs.YtiehbmfopojabaaDoor
open Go.RowKit
set_option linter.unusedVariables false

theorem CT8 : SliceT Tryd.prog 24 5 .u8 1 := ⟨Tryd.underlying24, by kernel_rfl, by decide⟩

theorem lower_c (c : Int) (w : World) (h0 : 0 ≤ c) (h1 : c ≤ 255) :
    Calls Tryd.prog 69 #[.int .u8 c] w fun e w' => e = .returned (.int .u8 (lowI c)) ∧ w = w' := by
  go_enter Tryd.func69, Tryd.ntmps69
  go_wp2
  all_goals (go_ret; exact ⟨ret_int (by unfold lowI; split <;> omega), rfl⟩)

end Go.Proofs.YtiehbmfopojabaaDoor
