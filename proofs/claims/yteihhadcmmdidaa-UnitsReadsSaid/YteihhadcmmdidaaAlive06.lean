/-
  The law package's own 'alive' of layer 6 answers true.
-/
import Derived.Test.YteihhadcmmdidaaC06e
namespace Go.Proofs.Yteihhadcmmdidaa
open Go.RowKit
set_option linter.unusedVariables false

theorem al6_of (w : World) : Calls Try.prog 11 #[.int .i32 128512] w fun e w' =>
    ∃ b off cap', e = .returned (.slice (some ⟨b, off, none⟩) 2 cap') ∧ Reads .u16 w' (some ⟨b, off, none⟩) 2 cap' [55357, 56832] ∧ Below w.heap.size w w' := by
  refine (units_Of 128512 w).mono ?_
  rintro e w' ⟨a', cap', rfl, hr, hb2⟩
  rw [show uns 128512 = [55357, 56832] by decide] at hr
  rw [show lenU 128512 = 2 by decide] at hr ⊢
  obtain ⟨b, off, rfl, hlt, _⟩ := hr.cell (by decide)
  exact ⟨b, off, cap', rfl, hr, hb2⟩
theorem al6_read (w : World) : Calls Try.prog 20 #[.slice (some ⟨w.heap.size, 0, none⟩) 2 2] (w.alloc (.cells #[.int .u16 56320, .int .u16 65] 38)) fun e w' =>
    ∃ b off cap', e = .returned (.slice (some ⟨b, off, none⟩) 2 cap') ∧ Reads .i32 w' (some ⟨b, off, none⟩) 2 cap' [65533, 65] ∧ Below w.heap.size w w' := by
  have h1 := Reads.lit .u16 38 w [56320, 65] (by decide) (by decide)
  have hb : Below w.heap.size w (w.alloc (.cells #[.int .u16 56320, .int .u16 65] 38)) := (Below.refl _ _).alloc (Nat.le_refl _) _
  refine (units_Read _ 2 2 _ _ h1 (by decide)).mono ?_
  rintro e w' ⟨a', cap', rfl, hr, hb2⟩
  rw [show utxt [56320, 65] = [65533, 65] by decide] at hr
  rw [show (usigs [56320, 65]).length = 2 by decide] at hr ⊢
  obtain ⟨b, off, rfl, hlt, _⟩ := hr.cell (by decide)
  exact ⟨b, off, cap', rfl, hr, below_then' hb hb2 (by simp)⟩

set_option maxHeartbeats 1000000 in
theorem alive6_any (w : World) : Calls Try.prog 7 #[] w fun e w' => e = .returned (.bool true) ∧ Below w.heap.size w w' := by
  go_enter Try.func7, Try.ntmps7
  go_wp2_with (first
    | (go_at_call 11; (with_reducible refine (al6_of _).mono ?_); rintro e w1 ⟨b1, off1, c1, rfl, hr1, hb1⟩)
    | (go_at_call 20; (refine (al6_read _).mono ?_); rintro e w2 ⟨b2, off2, c2, rfl, hr2, hb2⟩; have hb2' := below_then hb1 hb2; have hr1' := hr1.below hb2; obtain ⟨_, _, he, _, hcs⟩ := hr2.cell (by decide); cases he; have hc0 := hcs 0 (by decide); have hc1 := hcs 1 (by decide); obtain ⟨_, _, he, _, hds⟩ := hr1'.cell (by decide); cases he; have hd0 := hds 0 (by decide); have hd1 := hds 1 (by decide); simp only [Nat.add_zero, List.getD_cons_zero, List.getD_cons_succ] at hc0 hc1 hd0 hd1))
  go_ret
  exact ⟨rfl, hb2'⟩
end Go.Proofs.Yteihhadcmmdidaa
