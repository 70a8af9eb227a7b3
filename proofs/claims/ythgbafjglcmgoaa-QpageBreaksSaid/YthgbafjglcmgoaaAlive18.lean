/-
  The law package's own 'alive' of layer 18 answers true.
-/
import Derived.Test.YthgbafjglcmgoaaC18
import Derived.Test.YthgbafjglcmgoaaR18d
namespace Go.Proofs.Ythgbafjglcmgoaa
open Go.RowKit
set_option linter.unusedVariables false

def inQ : List Int := [97, 61, 32, 10]
def outQ : List Int := [97, 61, 51, 68, 61, 50, 48, 13, 10]
theorem v18_a : layQ inQ = outQ := by decide +kernel
theorem v18_b : checkQ outQ = 0 := by decide +kernel
theorem v18_c : checkQ [97] = 4 := by decide +kernel
theorem v18_d : brkL [13, 97] = [13, 10, 97] := by decide +kernel
theorem v18_e : softQ [61, 13, 10] = 1 := by decide +kernel
theorem str18_a : strB outQ = { data := #[97, 61, 51, 68, 61, 50, 48, 13, 10] } := by rfl
theorem str18_b : strB [13, 10, 97] = { data := #[13, 10, 97] } := by rfl
theorem al18_l (w : World) (B : Nat) (hB : w.heap.size = B) : Calls Try.prog 8 #[.slice (some ⟨B, 0, none⟩) 4 4] (w.alloc (.cells #[.int .u8 97, .int .u8 61, .int .u8 32, .int .u8 10] 5 (4, 5))) fun e w' => ∃ a c, e = .returned (.slice a 9 c) ∧ Reads .u8 w' a 9 c outQ ∧ Below w.heap.size w w' := by
  have h2 := qpage_Lay _ 4 4 inQ _ (Reads_litB .u8 5 (4, 5) w B hB inQ (by decide) (by decide)) (by decide)
  rw [v18_a] at h2
  refine h2.mono ?_
  rintro e w' ⟨a, l, c, rfl, hr, hb⟩
  obtain rfl : l = 9 := hr.size.symm
  exact ⟨a, c, rfl, hr, ((Below.refl _ _).alloc (Nat.le_refl _) _).trans (hb.mono (by simp))⟩
theorem al18_c {a : Option Addr} {c : Nat} {w : World} (hr : Reads .u8 w a 9 c outQ) (hm : Mx w) : Calls Try.prog 16 #[.slice a 9 c] w fun e w' => e = .returned (.int .i64 0) ∧ Below w.heap.size w w' := by
  have h2 := qpage_Check a 9 c outQ w hr (by decide) hm
  rwa [v18_b] at h2
theorem al18_e (w : World) (B : Nat) (hB : w.heap.size = B) (hm : Mx w) : Calls Try.prog 16 #[.slice (some ⟨B, 0, none⟩) 1 1] (w.alloc (.cells #[.int .u8 97] 5 (1, 2))) fun e w' => e = .returned (.int .i64 4) ∧ Below w.heap.size w w' := by
  have h2 := qpage_Check _ 1 1 [97] _ (Reads_litB .u8 5 (1, 2) w B hB [97] (by decide) (by decide)) (by decide) (hm.below ((Below.refl _ _).alloc (Nat.le_refl _) _))
  rw [v18_c] at h2
  refine h2.mono ?_
  rintro e w' ⟨rfl, hb⟩
  exact ⟨rfl, ((Below.refl _ _).alloc (Nat.le_refl _) _).trans (hb.mono (by simp))⟩
theorem al18_b (w : World) (B : Nat) (hB : w.heap.size = B) : Calls Try.prog 12 #[.slice (some ⟨B, 0, none⟩) 2 2] (w.alloc (.cells #[.int .u8 13, .int .u8 97] 5 (2, 3))) fun e w' => ∃ a c, e = .returned (.slice a 3 c) ∧ Reads .u8 w' a 3 c [13, 10, 97] ∧ Below w.heap.size w w' := by
  have h2 := qpage_Breaks _ 2 2 [13, 97] _ (Reads_litB .u8 5 (2, 3) w B hB [13, 97] (by decide) (by decide)) (by decide)
  rw [v18_d] at h2
  refine h2.mono ?_
  rintro e w' ⟨a, l, c, rfl, hr, hb⟩
  obtain rfl : l = 3 := hr.size.symm
  exact ⟨a, c, rfl, hr, ((Below.refl _ _).alloc (Nat.le_refl _) _).trans (hb.mono (by simp))⟩
theorem al18_s (w : World) (B : Nat) (hB : w.heap.size = B) (hm : Mx w) : Calls Try.prog 18 #[.slice (some ⟨B, 0, none⟩) 3 3] (w.alloc (.cells #[.int .u8 61, .int .u8 13, .int .u8 10] 5 (3, 4))) fun e w' => e = .returned (.int .i64 1) ∧ Below w.heap.size w w' := by
  have h2 := qpage_Soft _ 3 3 [61, 13, 10] _ (Reads_litB .u8 5 (3, 4) w B hB [61, 13, 10] (by decide) (by decide)) (by decide) (hm.below ((Below.refl _ _).alloc (Nat.le_refl _) _))
  rw [v18_e] at h2
  refine h2.mono ?_
  rintro e w' ⟨rfl, hb⟩
  exact ⟨rfl, ((Below.refl _ _).alloc (Nat.le_refl _) _).trans (hb.mono (by simp))⟩

set_option maxHeartbeats 400000 in
theorem alive18_any (w : World) (hm : Mx w) : Calls Try.prog 7 #[] w fun e w' => e = .returned (.bool true) ∧ Below w.heap.size w w' := by
  have kc := convB (P := Try.prog) (t := 22) (e := 5) Try.underlying22 Try.underlying5 w w.heap.size rfl
  have HM := hid hm
  clear hm
  go_enter Try.func7, Try.ntmps7
  go_wp2_with (first
    | (go_at_call 8; (with_reducible refine (al18_l w _ rfl).mono ?_); rintro e w1 ⟨a1, c1, rfl, r1, h1⟩; have s1 := r1.string (P := Try.prog) Try.underlying22 Try.underlying5 Try.underlying9; rw [str18_a] at s1)
    | (go_at_call 16; (with_reducible refine (al18_c r1 (HM.out.below h1)).mono ?_); rintro e w2 ⟨rfl, h2⟩; have t2 := below_then h1 h2; have kc2 := convB (P := Try.prog) (t := 22) (e := 5) Try.underlying22 Try.underlying5 w2 w2.heap.size rfl)
    | (go_at_call 16; (with_reducible refine (al18_e w2 _ rfl (HM.out.below t2)).mono ?_); rintro e w3 ⟨rfl, h3⟩; have t3 := below_then t2 h3; have kc3 := convB (P := Try.prog) (t := 22) (e := 5) Try.underlying22 Try.underlying5 w3 w3.heap.size rfl)
    | (go_at_call 12; (with_reducible refine (al18_b w3 _ rfl).mono ?_); rintro e w4 ⟨a4, c4, rfl, r4, h4⟩; have t4 := below_then t3 h4; have s4 := r4.string (P := Try.prog) Try.underlying22 Try.underlying5 Try.underlying9; rw [str18_b] at s4; have kc4 := convB (P := Try.prog) (t := 22) (e := 5) Try.underlying22 Try.underlying5 w4 w4.heap.size rfl)
    | (go_at_call 18; (with_reducible refine (al18_s w4 _ rfl (HM.out.below t4)).mono ?_); rintro e w5 ⟨rfl, h5⟩; have t5 := below_then t4 h5))
  go_ret
  exact ⟨rfl, t5⟩
end Go.Proofs.Ythgbafjglcmgoaa
