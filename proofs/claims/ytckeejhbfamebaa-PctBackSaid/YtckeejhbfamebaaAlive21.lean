/-
  The law package's own 'alive' of layer 21 answers true.
-/
import Derived.Test.YtckeejhbfamebaaC21
namespace Go.Proofs.Ytckeejhbfamebaa
open Go.RowKit
set_option linter.unusedVariables false

theorem v21_a : unqA [34, 97, 92, 34, 98, 34, 99] = ([97, 34, 98], 6, 0) := by decide +kernel
theorem v21_b : layP [97, 32, 98] = [97, 37, 50, 48, 98] := by decide +kernel
theorem v21_c : readP [97, 37, 50, 48, 98, 37] = [97, 32, 98, 37] := by decide +kernel
theorem v21_d : strP [37] = 1 := by decide +kernel
theorem str21_a : strB [97, 34, 98] = { data := #[97, 34, 98] } := by rfl
theorem str21_b : strB [97, 37, 50, 48, 98] = { data := #[97, 37, 50, 48, 98] } := by rfl
theorem str21_c : strB [97, 32, 98, 37] = { data := #[97, 32, 98, 37] } := by rfl
theorem al21_l (w : World) (B : Nat) (hB : w.heap.size = B) : Calls Try.prog 9 #[.slice (some ⟨B, 0, none⟩) 3 3] (w.alloc (.cells #[.int .u8 97, .int .u8 32, .int .u8 98] 5 (3, 4))) fun e w' => ∃ a c, e = .returned (.slice a 5 c) ∧ Reads .u8 w' a 5 c [97, 37, 50, 48, 98] ∧ Below w.heap.size w w' := by
  have h2 := pct_Lay _ 3 3 [97, 32, 98] _ (Reads_litB .u8 5 (3, 4) w B hB [97, 32, 98] (by decide) (by decide)) (by decide)
  rw [v21_b] at h2
  refine h2.mono ?_
  rintro e w' ⟨a, l, c, rfl, hr, hb⟩
  obtain rfl : l = 5 := hr.size.symm
  exact ⟨a, c, rfl, hr, ((Below.refl _ _).alloc (Nat.le_refl _) _).trans (hb.mono (by simp))⟩
theorem al21_r (w : World) (B : Nat) (hB : w.heap.size = B) : Calls Try.prog 16 #[.slice (some ⟨B, 0, none⟩) 6 6] (w.alloc (.cells #[.int .u8 97, .int .u8 37, .int .u8 50, .int .u8 48, .int .u8 98, .int .u8 37] 5 (6, 7))) fun e w' => ∃ a c, e = .returned (.slice a 4 c) ∧ Reads .u8 w' a 4 c [97, 32, 98, 37] ∧ Below w.heap.size w w' := by
  have h2 := pct_Read _ 6 6 [97, 37, 50, 48, 98, 37] _ (Reads_litB .u8 5 (6, 7) w B hB [97, 37, 50, 48, 98, 37] (by decide) (by decide)) (by decide)
  rw [v21_c] at h2
  refine h2.mono ?_
  rintro e w' ⟨a, l, c, rfl, hr, hb⟩
  obtain rfl : l = 4 := hr.size.symm
  exact ⟨a, c, rfl, hr, ((Below.refl _ _).alloc (Nat.le_refl _) _).trans (hb.mono (by simp))⟩
theorem al21_s (w : World) (B : Nat) (hB : w.heap.size = B) : Calls Try.prog 17 #[.slice (some ⟨B, 0, none⟩) 1 1] (w.alloc (.cells #[.int .u8 37] 5 (1, 2))) fun e w' => e = .returned (.int .i64 1) ∧ Below w.heap.size w w' := by
  have h2 := pct_Strange _ 1 1 [37] _ (Reads_litB .u8 5 (1, 2) w B hB [37] (by decide) (by decide)) (by decide)
  rw [v21_d] at h2
  refine h2.mono ?_
  rintro e w' ⟨rfl, hb⟩
  exact ⟨rfl, ((Below.refl _ _).alloc (Nat.le_refl _) _).trans (hb.mono (by simp))⟩
theorem al21_u (w : World) (B : Nat) (hB : w.heap.size = B) : Calls Try.prog 20 #[.slice (some ⟨B, 0, none⟩) 7 7] (w.alloc (.cells #[.int .u8 34, .int .u8 97, .int .u8 92, .int .u8 34, .int .u8 98, .int .u8 34, .int .u8 99] 5 (7, 8))) fun e w' => ∃ a c, e = .returned (.tuple #[.slice a 3 c, .int .i64 6, .int .i64 0]) ∧ Reads .u8 w' a 3 c [97, 34, 98] ∧ Below w.heap.size w w' := by
  have h2 := pct_Unquote _ 7 7 [34, 97, 92, 34, 98, 34, 99] _ (Reads_litB .u8 5 (7, 8) w B hB [34, 97, 92, 34, 98, 34, 99] (by decide) (by decide)) (by decide)
  rw [v21_a] at h2
  refine h2.mono ?_
  rintro e w' ⟨a, l, c, rfl, hr, hb⟩
  obtain rfl : l = 3 := hr.size.symm
  exact ⟨a, c, rfl, hr, ((Below.refl _ _).alloc (Nat.le_refl _) _).trans (hb.mono (by simp))⟩
set_option maxHeartbeats 400000 in
theorem alive21_any (w : World) : Calls Try.prog 7 #[] w fun e w' => e = .returned (.bool true) ∧ Below w.heap.size w w' := by
  have kc := convB (P := Try.prog) (t := 22) (e := 5) Try.underlying22 Try.underlying5 w w.heap.size rfl
  go_enter Try.func7, Try.ntmps7
  go_wp2_with (first
    | (go_at_call 20; (with_reducible refine (al21_u w _ rfl).mono ?_); rintro e w1 ⟨a1, c1, rfl, r1, h1⟩; have kc1 := convB (P := Try.prog) (t := 22) (e := 5) Try.underlying22 Try.underlying5 w1 w1.heap.size rfl)
    | (go_at_call 9; (with_reducible refine (al21_l w1 _ rfl).mono ?_); rintro e w2 ⟨a2, c2, rfl, r2, h2⟩; have t2 := below_then h1 h2; have s2 := r2.string (P := Try.prog) Try.underlying22 Try.underlying5 Try.underlying9; rw [str21_b] at s2; have kc2 := convB (P := Try.prog) (t := 22) (e := 5) Try.underlying22 Try.underlying5 w2 w2.heap.size rfl)
    | (go_at_call 16; (with_reducible refine (al21_r w2 _ rfl).mono ?_); rintro e w3 ⟨a3, c3, rfl, r3, h3⟩; have t3 := below_then t2 h3; have s3 := r3.string (P := Try.prog) Try.underlying22 Try.underlying5 Try.underlying9; rw [str21_c] at s3; have s1 := ((r1.below h2).below h3).string (P := Try.prog) Try.underlying22 Try.underlying5 Try.underlying9; rw [str21_a] at s1; have kc3 := convB (P := Try.prog) (t := 22) (e := 5) Try.underlying22 Try.underlying5 w3 w3.heap.size rfl)
    | (go_at_call 17; (with_reducible refine (al21_s w3 _ rfl).mono ?_); rintro e w4 ⟨rfl, h4⟩; have t4 := below_then t3 h4))
  go_ret
  exact ⟨rfl, t4⟩
end Go.Proofs.Ytckeejhbfamebaa
