/-
  The law package's own 'alive' of layer 4 answers true.
-/
import Derived.Test.YtfmbpcjmpggodaaC04b
namespace Go.Proofs.Ytfmbpcjmpggodaa
open Go.RowKit
set_option linter.unusedVariables false

theorem octEuro : octs 8364 = [226, 130, 172] := by decide
theorem strEuro : strB [226, 130, 172] = { data := #[226, 130, 172] } := by rfl
theorem al4_put (w : World) : Calls Try.prog 8 #[.slice none 0 0, .int .i32 8364] w fun e w' => ∃ a' cap', e = .returned (.tuple #[.slice a' 3 cap', .int .i64 0]) ∧ Reads .u8 w' a' 3 cap' [226, 130, 172] ∧ Below w.heap.size w w' := by
  have := utfone_Put none 0 0 [] 8364 w (Reads.nil _ _ _ _ (Nat.zero_le _)) (by decide) (by decide)
  rw [octEuro] at this
  exact this
theorem al4_take (a : Option Addr) (cap : Nat) (w : World) (hr : Reads .u8 w a 3 cap [226, 130, 172]) :
    Calls Try.prog 15 #[.slice a 3 cap] w fun e w' => e = .returned (.tuple #[.int .i32 8364, .int .i64 3, .int .i64 0]) ∧ ∃ n, w' = w.drewN n := by
  have := utfone_Take a 3 cap _ w hr
  rw [show takC [226, 130, 172] = 8364 by decide, show takN [226, 130, 172] = 3 by decide, show takE [226, 130, 172] = 0 by decide] at this
  exact this
theorem al4_sub (w : World) (B : Nat) (hB : w.heap.size = B) : Calls Try.prog 17 #[.slice (some ⟨B, 0, none⟩) 3 3] (w.alloc (.cells #[.int .u8 226, .int .u8 130, .int .u8 65] 5 (3, 4))) fun e w' => e = .returned (.int .i64 2) ∧ Below w.heap.size w w' := by
  have h1 := Reads_litB .u8 5 (3, 4) w B hB [226, 130, 65] (by decide) (by decide)
  refine (utfone_Subpart _ 3 3 _ _ h1).mono ?_
  rintro e w' ⟨rfl, n, rfl⟩
  exact ⟨rfl, Below.drewN ((Below.refl _ _).alloc (Nat.le_refl _) _) n⟩

theorem alive4_any (w : World) : Calls Try.prog 7 #[] w fun e w' => e = .returned (.bool true) ∧ Below w.heap.size w w' := by
  go_enter Try.func7, Try.ntmps7
  go_wp2_with (first
    | (go_at_call 8; (refine (al4_put _).mono ?_); rintro e w1 ⟨a1, c1, rfl, hr1, hb1⟩)
    | (go_at_call 15; go_must (refine (al4_take _ _ _ hr1).mono ?_); rintro e w2 ⟨rfl, n2, rfl⟩; have hr2 := hr1.below (Below.drewN (Below.refl _ _) n2); have hb2 := Below.drewN hb1 n2; have hcv := hr2.string (P := Try.prog) Try.underlying22 Try.underlying5 Try.underlying9; rw [strEuro] at hcv; have kc := convB (P := Try.prog) (t := 22) (e := 5) Try.underlying22 Try.underlying5 (w1.drewN n2) w1.heap.size rfl)
    | (go_at_call 17; go_must (refine (al4_sub (w1.drewN n2) w1.heap.size rfl).mono ?_); rintro e w3 ⟨rfl, hb3⟩))
  go_ret
  exact ⟨rfl, below_then hb2 hb3⟩
end Go.Proofs.Ytfmbpcjmpggodaa
