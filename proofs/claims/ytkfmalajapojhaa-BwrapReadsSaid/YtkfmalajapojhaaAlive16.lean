/-
  The law package's own 'alive' of layer 16 answers true.
-/
import Derived.Test.YtkfmalajapojhaaC16
namespace Go.Proofs.Ytkfmalajapojhaa
open Go.RowKit
set_option linter.unusedVariables false

def zgB : List Int := [90, 103, 61, 61]
def zrB : List Int := [90, 103, 61, 61, 13, 10]
theorem v16_a : chkE zrB = 0 ∧ codL (chkL zrB) = [102] := by decide +kernel
theorem v16_b : wrapL (layB [102]) = zrB := by decide +kernel
theorem v16_c : chkE zgB = 4 := by decide +kernel
theorem v16_d : lineN 58 = 2 := by decide +kernel
theorem str16_a : strB [102] = { data := #[102] } := by rfl
theorem str16_b : strB zrB = { data := #[90, 103, 61, 61, 13, 10] } := by rfl
theorem al16_r (w : World) (hm : Mx w) (B : Nat) (hB : w.heap.size = B) : Calls Try.prog 16 #[.slice (some ⟨B, 0, none⟩) 6 6] (w.alloc (.cells #[.int .u8 90, .int .u8 103, .int .u8 61, .int .u8 61, .int .u8 13, .int .u8 10] 5 (6, 7))) fun e w' => ∃ a c, e = .returned (.tuple #[.slice a 1 c, .int .i64 0]) ∧ Reads .u8 w' a 1 c [102] ∧ Below w.heap.size w w' := by
  have h1 := Reads_litB .u8 5 (6, 7) w B hB zrB (by decide) (by decide)
  have h2 := bwrap_Read _ 6 6 zrB _ h1 (by decide) (hm.below ((Below.refl _ _).alloc (Nat.le_refl _) _))
  rw [v16_a.1, if_pos rfl, v16_a.2] at h2
  refine h2.mono ?_
  rintro e w' ⟨a, l, c, rfl, hr, hb⟩
  obtain rfl : l = 1 := hr.size.symm
  exact ⟨a, c, rfl, hr, ((Below.refl _ _).alloc (Nat.le_refl _) _).trans (hb.mono (by simp))⟩
theorem al16_l (w : World) (B : Nat) (hB : w.heap.size = B) : Calls Try.prog 8 #[.slice (some ⟨B, 0, none⟩) 1 1] (w.alloc (.cells #[.int .u8 102] 5 (1, 2))) fun e w' => ∃ a c, e = .returned (.slice a 6 c) ∧ Reads .u8 w' a 6 c zrB ∧ Below w.heap.size w w' := by
  have h1 := Reads_litB .u8 5 (1, 2) w B hB [102] (by decide) (by decide)
  have h2 := bwrap_Lay _ 1 1 [102] _ h1 (by decide)
  rw [v16_b] at h2
  refine h2.mono ?_
  rintro e w' ⟨a, l, c, rfl, hr, hb⟩
  obtain rfl : l = 6 := hr.size.symm
  exact ⟨a, c, rfl, hr, ((Below.refl _ _).alloc (Nat.le_refl _) _).trans (hb.mono (by simp))⟩
theorem al16_c (w : World) (hm : Mx w) (B : Nat) (hB : w.heap.size = B) : Calls Try.prog 18 #[.slice (some ⟨B, 0, none⟩) 4 4] (w.alloc (.cells #[.int .u8 90, .int .u8 103, .int .u8 61, .int .u8 61] 5 (4, 5))) fun e w' => e = .returned (.int .i64 4) ∧ Below w.heap.size w w' := by
  have h1 := Reads_litB .u8 5 (4, 5) w B hB zgB (by decide) (by decide)
  have h2 := bwrap_Check _ 4 4 zgB _ h1 (by decide) (hm.below ((Below.refl _ _).alloc (Nat.le_refl _) _))
  rw [v16_c] at h2
  refine h2.mono ?_
  rintro e w' ⟨rfl, hb⟩
  exact ⟨rfl, ((Below.refl _ _).alloc (Nat.le_refl _) _).trans (hb.mono (by simp))⟩
theorem al16_n (w : World) : Calls Try.prog 12 #[.int .i64 58] w fun e w' => e = .returned (.int .i64 2) ∧ Below w.heap.size w w' := by
  have h1 := bwrap_Lines 58 w (by decide)
  rwa [v16_d] at h1

set_option maxHeartbeats 400000 in
theorem alive16_any (w : World) (hm : Mx w) : Calls Try.prog 7 #[] w fun e w' => e = .returned (.bool true) ∧ Below w.heap.size w w' := by
  have kc := convB (P := Try.prog) (t := 22) (e := 5) Try.underlying22 Try.underlying5 w w.heap.size rfl
  go_enter Try.func7, Try.ntmps7
  go_wp2_with (first
    | (go_at_call 16; (with_reducible refine (al16_r w hm _ rfl).mono ?_); rintro e w1 ⟨a1, c1, rfl, r1, h1⟩; have kc1 := convB (P := Try.prog) (t := 22) (e := 5) Try.underlying22 Try.underlying5 w1 w1.heap.size rfl)
    | (go_at_call 8; (with_reducible refine (al16_l w1 _ rfl).mono ?_); rintro e w2 ⟨a2, c2, rfl, r2, h2⟩; have t2 := below_then h1 h2; have s2 := r2.string (P := Try.prog) Try.underlying22 Try.underlying5 Try.underlying9; rw [str16_b] at s2; have s1 := (r1.below h2).string (P := Try.prog) Try.underlying22 Try.underlying5 Try.underlying9; rw [str16_a] at s1; have kc2 := convB (P := Try.prog) (t := 22) (e := 5) Try.underlying22 Try.underlying5 w2 w2.heap.size rfl)
    | (go_at_call 18; (with_reducible refine (al16_c w2 (hm.below t2) _ rfl).mono ?_); rintro e w3 ⟨rfl, h3⟩; have t3 := below_then t2 h3)
    | (go_at_call 12; (with_reducible refine (al16_n _).mono ?_); rintro e w4 ⟨rfl, h4⟩; have t4 := below_then t3 h4))
  go_ret
  exact ⟨rfl, t4⟩
end Go.Proofs.Ytkfmalajapojhaa
