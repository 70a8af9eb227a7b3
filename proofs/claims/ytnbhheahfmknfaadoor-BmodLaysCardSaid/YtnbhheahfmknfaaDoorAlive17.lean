/-
  The law package's own 'alive' of layer 17 answers true.
-/
import Derived.Test.YtnbhheahfmknfaaDoorC17
namespace Go.Proofs.YtnbhheahfmknfaaDoor
open Go.RowKit
set_option linter.unusedVariables false

def mdA : List Int := [44, 44, 52]
theorem v17_a : modE mdA = 0 ∧ modL mdA = [255, 254] := by decide +kernel
theorem v17_b : layM [255, 254] = mdA := by decide +kernel
theorem v17_c : lenM 2 = 3 := by decide +kernel
theorem v17_d : turnL 44 47 [44, 97] = [47, 97] := by decide +kernel
theorem str17_a : strB mdA = { data := #[44, 44, 52] } := by rfl
theorem str17_b : strB [47, 97] = { data := #[47, 97] } := by rfl
theorem al17_r (w : World) (B : Nat) (hB : w.heap.size = B) : Calls Tryd.prog 14 #[.slice (some ⟨B, 0, none⟩) 3 3] (w.alloc (.cells #[.int .u8 44, .int .u8 44, .int .u8 52] 5 (3, 4))) fun e w' => ∃ b off c, e = .returned (.tuple #[.slice (some ⟨b, off, none⟩) 2 c, .int .i64 0]) ∧ b < w'.heap.size ∧ w'.cell? ⟨b, off + 1, none⟩ = some (.int .u8 254) ∧ Below w.heap.size w w' := by
  have h1 := Reads_litB .u8 5 (3, 4) w B hB mdA (by decide) (by decide)
  have h2 := bmod_Read _ 3 3 mdA _ h1 (by decide)
  rw [v17_a.1, v17_a.2] at h2
  refine h2.mono ?_
  rintro e w' ⟨a, l, c, rfl, hr, hb⟩
  obtain rfl : l = 2 := hr.size.symm
  obtain ⟨b, off, ha, hl, hc⟩ := hr.cell (by omega)
  subst ha
  exact ⟨b, off, c, rfl, hl, hc 1 (by omega), ((Below.refl _ _).alloc (Nat.le_refl _) _).trans (hb.mono (by simp))⟩
theorem al17_l (w : World) : Calls Tryd.prog 9 #[.slice (some ⟨w.heap.size, 0, none⟩) 2 2] (w.alloc (.cells #[.int .u8 255, .int .u8 254] 5)) fun e w' => ∃ a c, e = .returned (.slice a 3 c) ∧ Reads .u8 w' a 3 c mdA ∧ Below w.heap.size w w' := by
  have h1 : Reads .u8 (w.alloc (.cells #[.int .u8 255, .int .u8 254] 5)) (some ⟨w.heap.size, 0, none⟩) 2 2 [255, 254] := Reads.lit .u8 5 w [255, 254] (by decide) (by decide)
  have h2 := bmod_Lay _ 2 2 [255, 254] _ h1 (by decide)
  rw [v17_b] at h2
  refine h2.mono ?_
  rintro e w' ⟨a, l, c, rfl, hr, hb⟩
  obtain rfl : l = 3 := hr.size.symm
  exact ⟨a, c, rfl, hr, ((Below.refl _ _).alloc (Nat.le_refl _) _).trans (hb.mono (by simp))⟩
theorem al17_n (w : World) : Calls Tryd.prog 12 #[.int .i64 2] w fun e w' => e = .returned (.int .i64 3) ∧ Below w.heap.size w w' := by
  have h1 := bmod_Len 2 w (by decide)
  rwa [v17_c] at h1
theorem al17_u (w : World) (B : Nat) (hB : w.heap.size = B) : Calls Tryd.prog 16 #[.slice (some ⟨B, 0, none⟩) 2 2] (w.alloc (.cells #[.int .u8 44, .int .u8 97] 5 (2, 3))) fun e w' => ∃ a c, e = .returned (.slice a 2 c) ∧ Reads .u8 w' a 2 c [47, 97] ∧ Below w.heap.size w w' := by
  have h1 := Reads_litB .u8 5 (2, 3) w B hB [44, 97] (by decide) (by decide)
  have h2 := bmod_Usual _ 2 2 [44, 97] _ h1 (by decide)
  rw [v17_d] at h2
  refine h2.mono ?_
  rintro e w' ⟨a, l, c, rfl, hr, hb⟩
  obtain rfl : l = 2 := hr.size.symm
  exact ⟨a, c, rfl, hr, ((Below.refl _ _).alloc (Nat.le_refl _) _).trans (hb.mono (by simp))⟩

set_option maxHeartbeats 400000 in
theorem alive17_any (w : World) : Calls Tryd.prog 6 #[] w fun e w' => e = .returned (.bool true) ∧ Below w.heap.size w w' := by
  have kc := convB (P := Tryd.prog) (t := 22) (e := 5) Tryd.underlying22 Tryd.underlying5 w w.heap.size rfl
  go_enter Tryd.func6, Tryd.ntmps6
  go_wp2_with (first
    | (go_at_call 14; (with_reducible refine (al17_r w _ rfl).mono ?_); rintro e w1 ⟨b1, o1, c1, rfl, l1, x1, h1⟩)
    | (go_at_call 9; (with_reducible refine (al17_l w1).mono ?_); rintro e w2 ⟨a2, c2, rfl, r2, h2⟩; have t2 := below_then h1 h2; have x2 := (h2.cell (p := ⟨b1, o1 + 1, none⟩) l1).trans x1; have l2 := Nat.lt_of_lt_of_le l1 h2.size; have s2 := r2.string (P := Tryd.prog) Tryd.underlying22 Tryd.underlying5 Tryd.underlying9; rw [str17_a] at s2)
    | (go_at_call 12; (with_reducible refine (al17_n _).mono ?_); rintro e w3 ⟨rfl, h3⟩; have t3 := below_then t2 h3; have kc3 := convB (P := Tryd.prog) (t := 22) (e := 5) Tryd.underlying22 Tryd.underlying5 w3 w3.heap.size rfl)
    | (go_at_call 16; (with_reducible refine (al17_u w3 _ rfl).mono ?_); rintro e w4 ⟨a4, c4, rfl, r4, h4⟩; have t4 := below_then t3 h4; have s4 := r4.string (P := Tryd.prog) Tryd.underlying22 Tryd.underlying5 Tryd.underlying9; rw [str17_b] at s4))
  go_ret
  exact ⟨rfl, t4⟩
end Go.Proofs.YtnbhheahfmknfaaDoor
