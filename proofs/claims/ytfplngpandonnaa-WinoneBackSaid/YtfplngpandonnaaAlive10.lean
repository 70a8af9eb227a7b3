/-
  The law package's own 'alive' of layer 10 answers true.
-/
import Derived.Test.YtfplngpandonnaaC10b
namespace Go.Proofs.Ytfplngpandonnaa
open Go.RowKit
set_option linter.unusedVariables false

theorem v10_put : putI sg10 8364 = 128 ∧ hasI sg10 8364 = true := by decide +kernel
theorem v10_has : hasI sg10 129 = false := by decide +kernel
theorem al10_put (w : World) : Calls Try.prog 6 #[.int .i32 8364] w fun e w' => e = .returned (.tuple #[.int .u8 128, .bool true]) ∧ Below w.heap.size w w' := by
  have := winone_Put 8364 w
  rwa [v10_put.1, v10_put.2] at this
theorem al10_has (w : World) : Calls Try.prog 8 #[.int .i32 129] w fun e w' => e = .returned (.bool false) ∧ Below w.heap.size w w' := by
  have := winone_Has 129 w
  rwa [v10_has] at this
theorem al10_lay (w : World) : Calls Try.prog 12 #[.slice (some ⟨w.heap.size, 0, none⟩) 1 1] (w.alloc (.cells #[.int .i32 129] 21)) fun e w' =>
    ∃ a' l' c', e = .returned (.tuple #[.slice a' l' c', .int .i64 9]) ∧ Below w.heap.size w w' := by
  have h1 := Reads.lit .i32 21 w [129] (by decide) (by decide)
  refine (winone_Lay _ 1 1 _ _ h1 (by decide)).mono ?_
  rintro e w' ⟨a', l', c', rfl, hr, hb⟩
  refine ⟨a', l', c', ?_, ((Below.refl _ _).alloc (Nat.le_refl _) _).trans (hb.mono (by simp))⟩
  rw [show csE sg10 [129] = 9 by unfold csE; simp [v10_has]]
theorem al10_sign (w : World) : Calls Try.prog 9 #[.int .u8 129] w fun e w' => e = .returned (.int .i32 65533) ∧ Below w.heap.size w w' := winone_Sign 129 w (by decide) (by decide)

theorem alive10_any (w : World) : Calls Try.prog 11 #[] w fun e w' => e = .returned (.bool true) ∧ Below w.heap.size w w' := by
  go_enter Try.func11, Try.ntmps11
  go_wp2_with (first
    | (go_at_call 6; (with_reducible refine (al10_put _).mono ?_); rintro e w1 ⟨rfl, hb1⟩)
    | (go_at_call 12; (refine (al10_lay w1).mono ?_); rintro e w2 ⟨b1, l1, c1, rfl, hb2⟩; have hb2' := below_then hb1 hb2)
    | (go_at_call 8; (with_reducible refine (al10_has _).mono ?_); rintro e w3 ⟨rfl, hb3⟩; have hb3' := below_then hb2' hb3)
    | (go_at_call 9; (with_reducible refine (al10_sign _).mono ?_); rintro e w4 ⟨rfl, hb4⟩; have hb4' := below_then hb3' hb4))
  go_ret
  exact ⟨rfl, hb4'⟩
end Go.Proofs.Ytfplngpandonnaa
