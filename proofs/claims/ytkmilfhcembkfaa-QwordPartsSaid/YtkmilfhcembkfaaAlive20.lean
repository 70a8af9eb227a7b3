/-
  The law package's own 'alive' of layer 20 answers true.
-/
import Derived.Test.YtkmilfhcembkfaaC20
namespace Go.Proofs.Ytkmilfhcembkfaa
open Go.RowKit
set_option linter.unusedVariables false

theorem v20_a : layW [97, 32, 98, 61] = [97, 95, 98, 61, 51, 68] := by decide +kernel
theorem v20_b : readW [97, 95, 98, 61, 51, 68] = [97, 32, 98, 61] := by decide +kernel
theorem v20_c : chkW [97, 95, 98, 61, 51, 68] = 0 := by decide +kernel
theorem v20_d : chkW [63] = 3 := by decide +kernel
theorem v20_e : strW [61, 120] = 1 := by decide +kernel
theorem str20_a : strB [97, 95, 98, 61, 51, 68] = { data := #[97, 95, 98, 61, 51, 68] } := by rfl
theorem str20_b : strB [97, 32, 98, 61] = { data := #[97, 32, 98, 61] } := by rfl
theorem al20_l (w : World) (B : Nat) (hB : w.heap.size = B) : Calls Try.prog 8 #[.slice (some ⟨B, 0, none⟩) 4 4] (w.alloc (.cells #[.int .u8 97, .int .u8 32, .int .u8 98, .int .u8 61] 5 (4, 5))) fun e w' => ∃ a c, e = .returned (.slice a 6 c) ∧ Reads .u8 w' a 6 c [97, 95, 98, 61, 51, 68] ∧ Below w.heap.size w w' := by
  have h2 := qword_Lay _ 4 4 [97, 32, 98, 61] _ (Reads_litB .u8 5 (4, 5) w B hB [97, 32, 98, 61] (by decide) (by decide)) (by decide)
  rw [v20_a] at h2
  refine h2.mono ?_
  rintro e w' ⟨a, l, c, rfl, hr, hb⟩
  obtain rfl : l = 6 := hr.size.symm
  exact ⟨a, c, rfl, hr, ((Below.refl _ _).alloc (Nat.le_refl _) _).trans (hb.mono (by simp))⟩
theorem al20_d (w : World) (B : Nat) (hB : w.heap.size = B) : Calls Try.prog 17 #[.slice (some ⟨B, 0, none⟩) 1 1] (w.alloc (.cells #[.int .u8 63] 5 (1, 2))) fun e w' => e = .returned (.int .i64 3) ∧ Below w.heap.size w w' := by
  have h2 := qword_Check _ 1 1 [63] _ (Reads_litB .u8 5 (1, 2) w B hB [63] (by decide) (by decide)) (by decide)
  rw [v20_d] at h2
  refine h2.mono ?_
  rintro e w' ⟨rfl, hb⟩
  exact ⟨rfl, ((Below.refl _ _).alloc (Nat.le_refl _) _).trans (hb.mono (by simp))⟩
theorem al20_e (w : World) (B : Nat) (hB : w.heap.size = B) : Calls Try.prog 16 #[.slice (some ⟨B, 0, none⟩) 2 2] (w.alloc (.cells #[.int .u8 61, .int .u8 120] 5 (2, 3))) fun e w' => e = .returned (.int .i64 1) ∧ Below w.heap.size w w' := by
  have h2 := qword_Strange _ 2 2 [61, 120] _ (Reads_litB .u8 5 (2, 3) w B hB [61, 120] (by decide) (by decide)) (by decide)
  rw [v20_e] at h2
  refine h2.mono ?_
  rintro e w' ⟨rfl, hb⟩
  exact ⟨rfl, ((Below.refl _ _).alloc (Nat.le_refl _) _).trans (hb.mono (by simp))⟩
theorem al20_r {a : Option Addr} {c : Nat} {w : World} (hr : Reads .u8 w a 6 c [97, 95, 98, 61, 51, 68]) : Calls Try.prog 15 #[.slice a 6 c] w fun e w' => ∃ a' c', e = .returned (.slice a' 4 c') ∧ Reads .u8 w' a' 4 c' [97, 32, 98, 61] ∧ Below w.heap.size w w' := by
  have h2 := qword_Read a 6 c _ w hr (by decide)
  rw [v20_b] at h2
  refine h2.mono ?_
  rintro e w' ⟨a, l, c, rfl, hr, hb⟩
  obtain rfl : l = 4 := hr.size.symm
  exact ⟨a, c, rfl, hr, hb⟩
theorem al20_c {a : Option Addr} {c : Nat} {w : World} (hr : Reads .u8 w a 6 c [97, 95, 98, 61, 51, 68]) : Calls Try.prog 17 #[.slice a 6 c] w fun e w' => e = .returned (.int .i64 0) ∧ Below w.heap.size w w' := by
  have h2 := qword_Check a 6 c _ w hr (by decide)
  rwa [v20_c] at h2
set_option maxHeartbeats 400000 in
theorem alive20_any (w : World) : Calls Try.prog 7 #[] w fun e w' => e = .returned (.bool true) ∧ Below w.heap.size w w' := by
  have kc := convB (P := Try.prog) (t := 22) (e := 5) Try.underlying22 Try.underlying5 w w.heap.size rfl
  go_enter Try.func7, Try.ntmps7
  go_wp2_with (first
    | (go_at_call 8; (with_reducible refine (al20_l w _ rfl).mono ?_); rintro e w1 ⟨a1, c1, rfl, r1, h1⟩; have s1 := r1.string (P := Try.prog) Try.underlying22 Try.underlying5 Try.underlying9; rw [str20_a] at s1)
    | (go_at_call 15; (with_reducible refine (al20_r r1).mono ?_); rintro e w2 ⟨a2, c2, rfl, r2, h2⟩; have t2 := below_then h1 h2; have s2 := r2.string (P := Try.prog) Try.underlying22 Try.underlying5 Try.underlying9; rw [str20_b] at s2)
    | (go_at_call 17; (with_reducible refine (al20_c (r1.below h2)).mono ?_); rintro e w3 ⟨rfl, h3⟩; have t3 := below_then t2 h3; have kc3 := convB (P := Try.prog) (t := 22) (e := 5) Try.underlying22 Try.underlying5 w3 w3.heap.size rfl)
    | (go_at_call 17; (with_reducible refine (al20_d w3 _ rfl).mono ?_); rintro e w4 ⟨rfl, h4⟩; have t4 := below_then t3 h4; have kc4 := convB (P := Try.prog) (t := 22) (e := 5) Try.underlying22 Try.underlying5 w4 w4.heap.size rfl)
    | (go_at_call 16; (with_reducible refine (al20_e w4 _ rfl).mono ?_); rintro e w5 ⟨rfl, h5⟩; have t5 := below_then t4 h5))
  go_ret
  exact ⟨rfl, t5⟩
end Go.Proofs.Ytkmilfhcembkfaa
