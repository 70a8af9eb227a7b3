/-
  The law package's own 'alive' of layer 2 answers true.
-/
import Derived.Test.YtkminadmcjbiaaaC02b
namespace Go.Proofs.Ytkminadmcjbiaaa
open Go.RowKit
set_option linter.unusedVariables false

theorem escTen : escI [] 61 10 = [61, 48, 65] := by decide
theorem strTen : strB [61, 48, 65] = { data := #[61, 48, 65] } := by rfl
theorem al_put (w : World) : Calls Try.prog 14 #[.slice none 0 0, .int .u8 61, .int .u8 10] w fun e w' => ∃ a' cap', e = .returned (.slice a' 3 cap') ∧ Reads .u8 w' a' 3 cap' [61, 48, 65] ∧ Below w.heap.size w w' := by
  refine (put_c none 0 0 [] 61 10 w (Reads.nil _ _ _ _ (Nat.zero_le _)) (by decide) (by decide) (by decide) (by decide)).mono ?_
  rintro e w' ⟨a', l', c', rfl, hr, hb⟩
  rw [escTen] at hr
  obtain rfl : 3 = l' := hr.size
  exact ⟨a', c', rfl, hr, hb⟩
theorem al_take (a : Option Addr) (cap : Nat) (w : World) (hr : Reads .u8 w a 3 cap [61, 48, 65]) :
    Calls Try.prog 12 #[.slice a 3 cap, .int .i64 0, .int .u8 61] w fun e w' => e = .returned (.tuple #[.int .u8 10, .bool true]) ∧ ∃ n, w' = w.drewN n :=
  take_c a 3 cap [61, 48, 65] 0 61 w hr (by decide)
theorem al_cap (a : Option Addr) (cap : Nat) (w : World) (hr : Reads .u8 w a 3 cap [61, 48, 65]) :
    Calls Try.prog 21 #[.slice a 3 cap] w fun e w' => e = .returned (.bool true) ∧ w = w' := capital_c a 3 cap _ w hr
theorem al_small (w : World) (B : Nat) (hB : w.heap.size = B) : Calls Try.prog 21 #[.slice (some ⟨B, 0, none⟩) 1 1] (w.alloc (.cells #[.int .u8 97] 5 (1, 2))) fun e w' => e = .returned (.bool false) ∧ Below w.heap.size w w' := by
  have h1 := Reads_litB .u8 5 (1, 2) w B hB [97] (by decide) (by decide)
  refine (capital_c _ 1 1 [97] _ h1).mono ?_
  rintro e w' ⟨rfl, rfl⟩
  exact ⟨rfl, (Below.refl _ _).alloc (Nat.le_refl _) _⟩

theorem alive_any (w : World) : Calls Try.prog 11 #[] w fun e w' => e = .returned (.bool true) ∧ Below w.heap.size w w' := by
  go_enter Try.func11, Try.ntmps11
  go_wp2_with (first
    | (go_at_call 14; (refine (al_put _).mono ?_); rintro e w1 ⟨a1, c1, rfl, hr1, hb1⟩)
    | (go_at_call 12; go_must (refine (al_take _ _ _ hr1).mono ?_); rintro e w2 ⟨rfl, n2, rfl⟩; have hr2 := hr1.below (Below.drewN (Below.refl _ _) n2); have hb2 := Below.drewN hb1 n2; have hcv := hr2.string (P := Try.prog) Try.underlying27 Try.underlying5 Try.underlying9; rw [strTen] at hcv; have kc := convB (P := Try.prog) (t := 27) (e := 5) Try.underlying27 Try.underlying5 (w1.drewN n2) w1.heap.size rfl)
    | (go_at_call 21; (with_reducible refine (al_cap _ _ _ hr2).mono ?_); rintro e w' ⟨rfl, rfl⟩)
    | (go_at_call 21; go_must (refine (al_small (w1.drewN n2) w1.heap.size rfl).mono ?_); rintro e w3 ⟨rfl, hb3⟩))
  go_ret
  exact ⟨rfl, below_then hb2 hb3⟩
end Go.Proofs.Ytkminadmcjbiaaa
