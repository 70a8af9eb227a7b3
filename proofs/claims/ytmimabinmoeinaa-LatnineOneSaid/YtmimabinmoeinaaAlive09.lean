/-
  The law package's own 'alive' of layer 9 answers true.
-/
import Derived.Test.YtmimabinmoeinaaC09b
namespace Go.Proofs.Ytmimabinmoeinaa
open Go.RowKit
set_option linter.unusedVariables false

theorem v9_put : putI sg09 8364 = 164 ∧ hasI sg09 8364 = true := by decide +kernel
theorem v9_has : hasI sg09 164 = false := by decide +kernel
theorem al9_put (w : World) : Calls Try.prog 6 #[.int .i32 8364] w fun e w' => e = .returned (.tuple #[.int .u8 164, .bool true]) ∧ Below w.heap.size w w' := by
  have := latnine_Put 8364 w
  rwa [v9_put.1, v9_put.2] at this
theorem al9_has (w : World) : Calls Try.prog 8 #[.int .i32 164] w fun e w' => e = .returned (.bool false) ∧ Below w.heap.size w w' := by
  have := latnine_Has 164 w
  rwa [v9_has] at this
theorem al9_lay (w : World) : Calls Try.prog 12 #[.slice (some ⟨w.heap.size, 0, none⟩) 1 1] (w.alloc (.cells #[.int .i32 164] 21)) fun e w' =>
    ∃ a' l' c', e = .returned (.tuple #[.slice a' l' c', .int .i64 9]) ∧ Below w.heap.size w w' := by
  have h1 := Reads.lit .i32 21 w [164] (by decide) (by decide)
  refine (latnine_Lay _ 1 1 _ _ h1 (by decide)).mono ?_
  rintro e w' ⟨a', l', c', rfl, hr, hb⟩
  refine ⟨a', l', c', ?_, ((Below.refl _ _).alloc (Nat.le_refl _) _).trans (hb.mono (by simp))⟩
  rw [show csE sg09 [164] = 9 by unfold csE; simp [v9_has]]
theorem al9_sign (w : World) : Calls Try.prog 9 #[.int .u8 190] w fun e w' => e = .returned (.int .i32 376) ∧ Below w.heap.size w w' := latnine_Sign 190 w (by decide) (by decide)

theorem alive9_any (w : World) : Calls Try.prog 11 #[] w fun e w' => e = .returned (.bool true) ∧ Below w.heap.size w w' := by
  go_enter Try.func11, Try.ntmps11
  go_wp2_with (first
    | (go_at_call 6; (with_reducible refine (al9_put _).mono ?_); rintro e w1 ⟨rfl, hb1⟩)
    | (go_at_call 12; (refine (al9_lay w1).mono ?_); rintro e w2 ⟨b1, l1, c1, rfl, hb2⟩; have hb2' := below_then hb1 hb2)
    | (go_at_call 8; (with_reducible refine (al9_has _).mono ?_); rintro e w3 ⟨rfl, hb3⟩; have hb3' := below_then hb2' hb3)
    | (go_at_call 9; (with_reducible refine (al9_sign _).mono ?_); rintro e w4 ⟨rfl, hb4⟩; have hb4' := below_then hb3' hb4))
  go_ret
  exact ⟨rfl, hb4'⟩
end Go.Proofs.Ytmimabinmoeinaa
