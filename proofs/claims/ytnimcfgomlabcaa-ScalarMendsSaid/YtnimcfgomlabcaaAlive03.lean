/-
  The law package's own 'alive' of layer 3 answers true.
-/
import Derived.Test.YtnimcfgomlabcaaC03
namespace Go.Proofs.Ytnimcfgomlabcaa
open Go.RowKit
set_option linter.unusedVariables false

theorem al3_mend (w : World) : Calls Try.prog 18 #[.slice (some ⟨w.heap.size, 0, none⟩) 2 2] (w.alloc (.cells #[.int .i32 97, .int .i32 55296] 21)) fun e w' =>
    ∃ b off cap', e = .returned (.slice (some ⟨b, off, none⟩) 2 cap') ∧ b < w'.heap.size ∧ w'.cell? ⟨b, off + 1, none⟩ = some (.int .i32 65533) ∧ Below w.heap.size w w' := by
  have h1 := Reads.lit .i32 21 w [97, 55296] (by decide) (by decide)
  refine (scalar_Mend _ 2 2 _ _ h1 (by decide)).mono ?_
  rintro e w' ⟨a', c', rfl, hr, hb⟩
  obtain ⟨b, off, x, rfl, hl, hc, _, _, hx⟩ := hr.getR (i := 1) (by decide)
  have : x = 65533 := by
    have h := hx.out.1
    have e : ([97, 55296].map mendI)[1]? = some 65533 := by decide
    rw [e] at h; cases h; rfl
  subst this
  exact ⟨b, off, c', rfl, hl, hc, ((Below.refl _ _).alloc (Nat.le_refl _) _).trans (hb.mono (by simp))⟩
theorem al3_is (w : World) : Calls Try.prog 7 #[.int .i32 97] w fun e w' => e = .returned (.bool true) ∧ w = w' := scalar_Is 97 w
theorem al3_plane (w : World) : Calls Try.prog 11 #[.int .i32 65536] w fun e w' => e = .returned (.int .i64 1) ∧ w = w' := scalar_Plane 65536 w (by decide) (by decide)
theorem al3_check (w : World) (B : Nat) (hB : w.heap.size = B) : Calls Try.prog 26 #[.slice (some ⟨B, 0, none⟩) 1 1] (w.alloc (.cells #[.int .i32 10] 21)) fun e w' => e = .returned (.int .i64 8) ∧ Below w.heap.size w w' := by
  subst hB
  have h1 := Reads.lit .i32 21 w [10] (by decide) (by decide)
  refine (scalar_Check _ 1 1 _ _ h1).mono ?_
  rintro e w' ⟨rfl, rfl⟩
  exact ⟨rfl, (Below.refl _ _).alloc (Nat.le_refl _) _⟩

theorem alive3_any (w : World) : Calls Try.prog 13 #[] w fun e w' => e = .returned (.bool true) ∧ Below w.heap.size w w' := by
  go_enter Try.func13, Try.ntmps13
  go_wp2_with (first
    | (go_at_call 18; (refine (al3_mend w).mono ?_); rintro e w1 ⟨b1, o1, c1, rfl, hl1, hc1, hb1⟩)
    | (go_at_call 7; (with_reducible refine (al3_is _).mono ?_); rintro e w' ⟨rfl, rfl⟩)
    | (go_at_call 11; (with_reducible refine (al3_plane _).mono ?_); rintro e w' ⟨rfl, rfl⟩)
    | (go_at_call 26; go_must (refine (al3_check w1 _ rfl).mono ?_); rintro e w3 ⟨rfl, hb3⟩))
  go_ret
  exact ⟨rfl, below_then hb1 hb3⟩
end Go.Proofs.Ytnimcfgomlabcaa
