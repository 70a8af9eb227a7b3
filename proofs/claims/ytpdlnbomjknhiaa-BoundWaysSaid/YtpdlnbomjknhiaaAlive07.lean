/-
  The law package's own 'alive' of layer 7 answers true.
-/
import Derived.Test.YtpdlnbomjknhiaaC07e
namespace Go.Proofs.Ytpdlnbomjknhiaa
open Go.RowKit
set_option linter.unusedVariables false

theorem strA : strB [97] = { data := #[97] } := by rfl
abbrev s7 : List Int := [97, 195, 169]
theorem al7_split (w : World) : Calls Try.prog 17 #[.slice (some ⟨w.heap.size, 0, none⟩) 3 3, .int .i64 2] (w.alloc (.cells #[.int .u8 97, .int .u8 195, .int .u8 169] 5 (3, 4))) fun e w' =>
    ∃ b off c' a0 l0 c0 a1 c1, e = .returned (.slice (some ⟨b, off, none⟩) 2 c') ∧ w'.cell? ⟨b, off, none⟩ = some (.slice a0 l0 c0) ∧ Reads .u8 w' a0 l0 c0 [97] ∧ w'.cell? ⟨b, off + 1, none⟩ = some (.slice a1 2 c1) ∧ Reads .u8 w' (some ⟨w.heap.size, 0, none⟩) 3 3 s7 ∧ Below w.heap.size w w' := by
  have h1 := Reads_lit .u8 5 (3, 4) w s7 (by decide) (by decide)
  have hb : Below w.heap.size w (w.alloc (.cells #[.int .u8 97, .int .u8 195, .int .u8 169] 5 (3, 4))) := (Below.refl _ _).alloc (Nat.le_refl _) _
  refine (bound_Split _ 3 3 s7 2 _ h1 (by decide) (by decide)).mono ?_
  rintro e w' ⟨a', m, c', rfl, hR, hb2⟩
  rw [show spl 2 s7 = [[97], [195, 169]] by decide] at hR
  obtain rfl : 2 = m := hR.size
  obtain ⟨b, off, rfl, _, hc⟩ := hR.cell (by decide)
  obtain ⟨a0, l0, c0, k0, r0⟩ := hc 0 [97] rfl
  obtain ⟨a1, l1, c1, k1, r1⟩ := hc 1 [195, 169] rfl
  obtain rfl : 2 = l1 := r1.size
  exact ⟨b, off, c', a0, l0, c0, a1, c1, rfl, k0, r0, k1, h1.below hb2, below_then' hb hb2 (by simp)⟩
theorem al7_at1 (a : Option Addr) (cap : Nat) (w : World) (hr : Reads .u8 w a 3 cap s7) : Calls Try.prog 10 #[.slice a 3 cap, .int .i64 1] w fun e w' => e = .returned (.bool true) ∧ Below w.heap.size w w' := by
  have := bound_At a 3 cap s7 1 w hr (by decide) (by decide)
  rwa [show decide ((1 : Int) ∈ plc s7) = true by decide] at this
theorem al7_at2 (a : Option Addr) (cap : Nat) (w : World) (hr : Reads .u8 w a 3 cap s7) : Calls Try.prog 10 #[.slice a 3 cap, .int .i64 2] w fun e w' => e = .returned (.bool false) ∧ Below w.heap.size w w' := by
  have := bound_At a 3 cap s7 2 w hr (by decide) (by decide)
  rwa [show decide ((2 : Int) ∈ plc s7) = false by decide] at this
theorem al7_next (a : Option Addr) (cap : Nat) (w : World) (hr : Reads .u8 w a 3 cap s7) : Calls Try.prog 11 #[.slice a 3 cap, .int .i64 1] w fun e w' => e = .returned (.int .i64 3) ∧ Below w.heap.size w w' := by
  have := bound_Next a 3 cap s7 1 w hr (by decide) (by decide)
  rwa [show nxtP (plc s7) 1 (3 : Nat) = 3 by decide] at this

set_option maxHeartbeats 1000000 in
theorem alive7_any (w : World) : Calls Try.prog 7 #[] w fun e w' => e = .returned (.bool true) ∧ Below w.heap.size w w' := by
  have kc := convB (P := Try.prog) (t := 22) (e := 5) Try.underlying22 Try.underlying5 w w.heap.size rfl
  go_enter Try.func7, Try.ntmps7
  go_wp2_with (first
    | (go_at_call 17; (refine (al7_split _).mono ?_); rintro e w1 ⟨b, off, c', a0, l0, c0, a1, c1, rfl, k0, r0, k1, r3, hb1⟩; have hcv := r0.string (P := Try.prog) Try.underlying22 Try.underlying5 Try.underlying9; rw [strA] at hcv)
    | (go_at_call 10; (with_reducible refine (al7_at1 _ _ _ r3).mono ?_); rintro e w2 ⟨rfl, hb2⟩; have r3' := r3.below hb2; have hb2' := below_then hb1 hb2)
    | (go_at_call 10; (with_reducible refine (al7_at2 _ _ _ r3').mono ?_); rintro e w3 ⟨rfl, hb3⟩; have r3'' := r3'.below hb3; have hb3' := below_then hb2' hb3)
    | (go_at_call 11; (with_reducible refine (al7_next _ _ _ r3'').mono ?_); rintro e w4 ⟨rfl, hb4⟩; have hb4' := below_then hb3' hb4))
  go_ret
  exact ⟨rfl, hb4'⟩
end Go.Proofs.Ytpdlnbomjknhiaa
