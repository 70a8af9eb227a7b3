/-
  The law package's own 'alive' of layer 15 answers true.
-/
import Derived.Test.YtglhjamfbaidoaaC15
import Derived.Test.YtglhjamfbaidoaaD14b
namespace Go.Proofs.Ytglhjamfbaidoaa
open Go.RowKit
set_option linter.unusedVariables false

def junkA : List Int := [90, 32, 103, 61, 106, 117, 110, 107]
theorem v15_a : looL junkA = [102] ∧ strQ junkA = 1 ∧ drpN junkA = 4 ∧ clnL junkA = [90, 103, 61, 61] := by decide +kernel
theorem str15_a : strB [102] = { data := #[102] } := by rfl
theorem str15_b : strB [90, 103, 61, 61] = { data := #[90, 103, 61, 61] } := by rfl
theorem al15_r {a : Option Addr} {w : World} (hr : Reads .u8 w a 8 8 junkA) : Calls Try.prog 10 #[.slice a 8 8] w fun e w' => ∃ a' c, e = .returned (.slice a' 1 c) ∧ Reads .u8 w' a' 1 c [102] ∧ Below w.heap.size w w' := by
  have h := bloose_Read a 8 8 _ w hr (by decide)
  rw [v15_a.1] at h
  refine h.mono ?_
  rintro e w' ⟨a', l, c, rfl, hr', hb⟩
  obtain rfl : l = 1 := hr'.size.symm
  exact ⟨a', c, rfl, hr', hb⟩
theorem al15_s {a : Option Addr} {w : World} (hr : Reads .u8 w a 8 8 junkA) : Calls Try.prog 14 #[.slice a 8 8] w fun e w' => e = .returned (.int .i64 1) ∧ Below w.heap.size w w' := by
  have h := bloose_Strange a 8 8 _ w hr (by decide)
  rwa [v15_a.2.1] at h
theorem al15_d {a : Option Addr} {w : World} (hr : Reads .u8 w a 8 8 junkA) : Calls Try.prog 12 #[.slice a 8 8] w fun e w' => e = .returned (.int .i64 4) ∧ Below w.heap.size w w' := by
  have h := bloose_Dropped a 8 8 _ w hr (by decide)
  rwa [v15_a.2.2.1] at h
theorem al15_c {a : Option Addr} {w : World} (hr : Reads .u8 w a 8 8 junkA) : Calls Try.prog 16 #[.slice a 8 8] w fun e w' => ∃ a' c, e = .returned (.slice a' 4 c) ∧ Reads .u8 w' a' 4 c [90, 103, 61, 61] ∧ Below w.heap.size w w' := by
  have h := bloose_Clean a 8 8 _ w hr (by decide)
  rw [v15_a.2.2.2] at h
  refine h.mono ?_
  rintro e w' ⟨a', l, c, rfl, hr', hb⟩
  obtain rfl : l = 4 := hr'.size.symm
  exact ⟨a', c, rfl, hr', hb⟩

set_option maxHeartbeats 400000 in
theorem alive15_any (w : World) : Calls Try.prog 6 #[] w fun e w' => e = .returned (.bool true) ∧ Below w.heap.size w w' := by
  have kc := convB (P := Try.prog) (t := 22) (e := 5) Try.underlying22 Try.underlying5 w w.heap.size rfl
  have r0 : Reads .u8 (w.alloc (.cells #[.int .u8 90, .int .u8 32, .int .u8 103, .int .u8 61, .int .u8 106, .int .u8 117, .int .u8 110, .int .u8 107] 5 (8, 9))) (some ⟨w.heap.size, 0, none⟩) 8 8 junkA := Reads_litB .u8 5 (8, 9) w _ rfl junkA (by decide) (by decide)
  have h0 : Below w.heap.size w (w.alloc (.cells #[.int .u8 90, .int .u8 32, .int .u8 103, .int .u8 61, .int .u8 106, .int .u8 117, .int .u8 110, .int .u8 107] 5 (8, 9))) := (Below.refl _ _).alloc (Nat.le_refl _) _
  have R0 := hid r0
  clear r0
  go_enter Try.func6, Try.ntmps6
  go_wp2_with (first
    | (go_at_call 10; (with_reducible refine (al15_r R0.out).mono ?_); rintro e w1 ⟨a1, c1, rfl, r1, h1⟩; have t1 := below_then h0 h1; have s1 := r1.string (P := Try.prog) Try.underlying22 Try.underlying5 Try.underlying9; rw [str15_a] at s1; have R1 := R0.out.below h1)
    | (go_at_call 14; (with_reducible refine (al15_s R1).mono ?_); rintro e w2 ⟨rfl, h2⟩; have t2 := below_then t1 h2; have R2 := R1.below h2)
    | (go_at_call 12; (with_reducible refine (al15_d R2).mono ?_); rintro e w3 ⟨rfl, h3⟩; have t3 := below_then t2 h3; have R3 := R2.below h3)
    | (go_at_call 16; (with_reducible refine (al15_c R3).mono ?_); rintro e w4 ⟨a4, c4, rfl, r4, h4⟩; have t4 := below_then t3 h4; have s4 := r4.string (P := Try.prog) Try.underlying22 Try.underlying5 Try.underlying9; rw [str15_b] at s4))
  go_ret
  exact ⟨rfl, t4⟩
end Go.Proofs.Ytglhjamfbaidoaa
