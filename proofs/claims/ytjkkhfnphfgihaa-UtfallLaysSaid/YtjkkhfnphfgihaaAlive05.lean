/-
  The law package's own 'alive' of layer 5 answers true.
-/
import Derived.Test.YtjkkhfnphfgihaaC05d
namespace Go.Proofs.Ytjkkhfnphfgihaa
open Go.RowKit
set_option linter.unusedVariables false

theorem al5_read (w : World) : Calls Try.prog 16 #[.slice (some ⟨w.heap.size, 0, none⟩) 2 2] (w.alloc (.cells #[.int .u8 255, .int .u8 65] 5)) fun e w' =>
    ∃ b off cap', e = .returned (.slice (some ⟨b, off, none⟩) 2 cap') ∧ Reads .i32 w' (some ⟨b, off, none⟩) 2 cap' [65533, 65] ∧ b < w'.heap.size ∧ Below w.heap.size w w' := by
  have h1 := Reads.lit .u8 5 w [255, 65] (by decide) (by decide)
  have hb : Below w.heap.size w (w.alloc (.cells #[.int .u8 255, .int .u8 65] 5)) := (Below.refl _ _).alloc (Nat.le_refl _) _
  refine (utfall_Read _ 2 2 _ _ h1 (by decide)).mono ?_
  rintro e w' ⟨a', cap', rfl, hr, hb2⟩
  rw [show txt [255, 65] = [65533, 65] by decide] at hr
  rw [show (sigs [255, 65]).length = 2 by decide] at hr ⊢
  obtain ⟨b, off, rfl, hlt, _⟩ := hr.cell (by decide)
  exact ⟨b, off, cap', rfl, hr, hlt, below_then' hb hb2 (by simp)⟩
theorem al5_strict (w : World) : Calls Try.prog 14 #[.slice (some ⟨w.heap.size, 0, none⟩) 2 2] (w.alloc (.cells #[.int .u8 65, .int .u8 195] 5)) fun e w' =>
    ∃ a' len' cap', e = .returned (.tuple #[.slice a' len' cap', .int .i64 4]) ∧ Below w.heap.size w w' := by
  have h1 := Reads.lit .u8 5 w [65, 195] (by decide) (by decide)
  have hb : Below w.heap.size w (w.alloc (.cells #[.int .u8 65, .int .u8 195] 5)) := (Below.refl _ _).alloc (Nat.le_refl _) _
  refine (utfall_Strict _ 2 2 _ _ h1 (by decide)).mono ?_
  rintro e w' ⟨a', len', cap', rfl, hr, hb2⟩
  exact ⟨a', len', cap', by rw [show errP (sigs [65, 195]) = 4 by decide], below_then' hb hb2 (by simp)⟩
theorem al5_len (a : Option Addr) (cap : Nat) (w : World) (hr : Reads .i32 w a 2 cap [65533, 65]) :
    Calls Try.prog 11 #[.slice a 2 cap] w fun e w' => e = .returned (.int .i64 4) ∧ w = w' := by
  have := utfall_Len a 2 cap _ w hr (by decide)
  rw [show lenL [65533, 65] = 4 by decide] at this
  exact this

set_option maxHeartbeats 1000000 in
theorem alive5_any (w : World) : Calls Try.prog 7 #[] w fun e w' => e = .returned (.bool true) ∧ Below w.heap.size w w' := by
  go_enter Try.func7, Try.ntmps7
  go_wp2_with (first
    | (go_at_call 16; (refine (al5_read _).mono ?_); rintro e w1 ⟨b1, off1, c1, rfl, hr1, hlt1, hb1⟩)
    | (go_at_call 14; (refine (al5_strict _).mono ?_); rintro e w2 ⟨a2, l2, c2, rfl, hb2⟩; have hr2 := hr1.below hb2; have hb2' := below_then hb1 hb2; obtain ⟨_, _, he, _, hcs⟩ := hr2.cell (by decide); cases he; have hc0 := hcs 0 (by decide); have hc1 := hcs 1 (by decide); simp only [Nat.add_zero, List.getD_cons_zero, List.getD_cons_succ] at hc0 hc1)
    | (go_at_call 11; (with_reducible refine (al5_len _ _ _ hr2).mono ?_); rintro e w3 ⟨rfl, rfl⟩))
  go_ret
  exact ⟨rfl, hb2'⟩
end Go.Proofs.Ytjkkhfnphfgihaa
