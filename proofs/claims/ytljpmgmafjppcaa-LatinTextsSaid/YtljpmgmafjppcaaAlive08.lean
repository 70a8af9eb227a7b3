/-
  The law package's own 'alive' of layer 8 answers true.
-/
import Derived.Test.YtljpmgmafjppcaaC08
namespace Go.Proofs.Ytljpmgmafjppcaa
open Go.RowKit
set_option linter.unusedVariables false

theorem al8_put (w : World) : Calls Try.prog 6 #[.int .i32 233] w fun e w' => e = .returned (.tuple #[.int .u8 233, .bool true]) ∧ w = w' := by
  have := latin_Put 233 w
  rwa [(put08 233 (by decide) (by decide)).1, (put08 233 (by decide) (by decide)).2] at this
theorem al8_has (w : World) : Calls Try.prog 8 #[.int .i32 256] w fun e w' => e = .returned (.bool false) ∧ w = w' := by
  have := latin_Has 256 w
  rwa [no08 256 (by omega)] at this
theorem al8_lay (w : World) : Calls Try.prog 12 #[.slice (some ⟨w.heap.size, 0, none⟩) 1 1] (w.alloc (.cells #[.int .i32 256] 21)) fun e w' =>
    ∃ a' l' c', e = .returned (.tuple #[.slice a' l' c', .int .i64 9]) ∧ Below w.heap.size w w' := by
  have h1 := Reads.lit .i32 21 w [256] (by decide) (by decide)
  refine (latin_Lay _ 1 1 _ _ h1 (by decide)).mono ?_
  rintro e w' ⟨a', l', c', rfl, hr, hb⟩
  refine ⟨a', l', c', ?_, ((Below.refl _ _).alloc (Nat.le_refl _) _).trans (hb.mono (by simp))⟩
  rw [show csE sg08 [256] = 9 by unfold csE; simp [no08]]
theorem al8_sign (w : World) : Calls Try.prog 9 #[.int .u8 7] w fun e w' => e = .returned (.int .i32 7) ∧ w = w' := latin_Sign 7 w (by decide) (by decide)

theorem alive8_any (w : World) : Calls Try.prog 11 #[] w fun e w' => e = .returned (.bool true) ∧ Below w.heap.size w w' := by
  go_enter Try.func11, Try.ntmps11
  go_wp2_with (first
    | (go_at_call 6; (with_reducible refine (al8_put _).mono ?_); rintro e w' ⟨rfl, rfl⟩)
    | (go_at_call 12; (refine (al8_lay w).mono ?_); rintro e w1 ⟨b1, l1, c1, rfl, hb1⟩)
    | (go_at_call 8; (with_reducible refine (al8_has _).mono ?_); rintro e w' ⟨rfl, rfl⟩)
    | (go_at_call 9; (with_reducible refine (al8_sign _).mono ?_); rintro e w' ⟨rfl, rfl⟩))
  go_ret
  exact ⟨rfl, hb1⟩
end Go.Proofs.Ytljpmgmafjppcaa
