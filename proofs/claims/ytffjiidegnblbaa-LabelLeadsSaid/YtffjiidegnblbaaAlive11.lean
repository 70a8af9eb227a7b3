/-
  The law package's own 'alive' of layer 11 answers true.
-/
import Derived.Test.YtffjiidegnblbaaC11
namespace Go.Proofs.Ytffjiidegnblbaa
open Go.RowKit
set_option linter.unusedVariables false

def nmA : List Int := [32, 85, 84, 70, 56, 32, 42, 101, 110]
def cdA : List Int := [66, 97, 115, 101, 54, 52]
theorem v11_cs : csN (keyB nmA) = 5 ∧ csNE (keyB nmA) = 0 := by decide +kernel
theorem v11_cd : cdN (keyC cdA) = 3 ∧ cdNE (keyC cdA) = 0 := by decide +kernel
theorem al11_cs (w : World) (B : Nat) (hB : w.heap.size = B) : Calls Try.prog 6 #[.slice (some ⟨B, 0, none⟩) 9 9] (w.alloc (.cells #[.int .u8 32, .int .u8 85, .int .u8 84, .int .u8 70, .int .u8 56, .int .u8 32, .int .u8 42, .int .u8 101, .int .u8 110] 5 (9, 10))) fun e w' => e = .returned (.tuple #[.int .i64 5, .int .i64 0]) ∧ Below w.heap.size w w' := by
  have h1 := Reads_litB .u8 5 (9, 10) w B hB nmA (by decide) (by decide)
  have h2 := label_Charset _ 9 9 nmA _ h1 (by decide)
  rw [v11_cs.1, v11_cs.2] at h2
  refine h2.mono ?_
  rintro e w' ⟨rfl, hb⟩
  exact ⟨rfl, ((Below.refl _ _).alloc (Nat.le_refl _) _).trans (hb.mono (by simp))⟩
theorem al11_cd (w : World) (B : Nat) (hB : w.heap.size = B) : Calls Try.prog 8 #[.slice (some ⟨B, 0, none⟩) 6 6] (w.alloc (.cells #[.int .u8 66, .int .u8 97, .int .u8 115, .int .u8 101, .int .u8 54, .int .u8 52] 5 (6, 7))) fun e w' => e = .returned (.tuple #[.int .i64 3, .int .i64 0]) ∧ Below w.heap.size w w' := by
  have h1 := Reads_litB .u8 5 (6, 7) w B hB cdA (by decide) (by decide)
  have h2 := label_Coding _ 6 6 cdA _ h1 (by decide)
  rw [v11_cd.1, v11_cd.2] at h2
  refine h2.mono ?_
  rintro e w' ⟨rfl, hb⟩
  exact ⟨rfl, ((Below.refl _ _).alloc (Nat.le_refl _) _).trans (hb.mono (by simp))⟩
theorem al11_name (w : World) : Calls Try.prog 16 #[.int .i64 1] w fun e w' => e = .returned (.string ⟨#[117, 115, 45, 97, 115, 99, 105, 105]⟩) ∧ Below w.heap.size w w' := label_Name 1 w
theorem al11_is5 (w : World) : Calls Try.prog 17 #[.int .i64 5] w fun e w' => e = .returned (.bool true) ∧ Below w.heap.size w w' := label_IsCharset 5 w
theorem al11_is6 (w : World) : Calls Try.prog 17 #[.int .i64 6] w fun e w' => e = .returned (.bool false) ∧ Below w.heap.size w w' := label_IsCharset 6 w
theorem al11_isc (w : World) : Calls Try.prog 15 #[.int .i64 3] w fun e w' => e = .returned (.bool true) ∧ Below w.heap.size w w' := label_IsCoding 3 w

theorem alive11_any (w : World) : Calls Try.prog 5 #[] w fun e w' => e = .returned (.bool true) ∧ Below w.heap.size w w' := by
  have hq : ((⟨#[117, 115, 45, 97, 115, 99, 105, 105]⟩ : ByteArray).toList == (⟨#[117, 115, 45, 97, 115, 99, 105, 105]⟩ : ByteArray).toList) = true := str_yes rfl
  have kc := convB (P := Try.prog) (t := 22) (e := 5) Try.underlying22 Try.underlying5 w w.heap.size rfl
  go_enter Try.func5, Try.ntmps5
  go_wp2_with (first
    | (go_at_call 6; (refine (al11_cs w _ rfl).mono ?_); rintro e w1 ⟨rfl, hb1⟩; have kc2 := convB (P := Try.prog) (t := 22) (e := 5) Try.underlying22 Try.underlying5 w1 w1.heap.size rfl)
    | (go_at_call 8; (refine (al11_cd w1 _ rfl).mono ?_); rintro e w2 ⟨rfl, hb2⟩; have hb2' := below_then hb1 hb2)
    | (go_at_call 16; (with_reducible refine (al11_name _).mono ?_); rintro e w3 ⟨rfl, hb3⟩; have hb3' := below_then hb2' hb3)
    | (go_at_call 17; (with_reducible refine (al11_is5 _).mono ?_); rintro e w4 ⟨rfl, hb4⟩; have hb4' := below_then hb3' hb4)
    | (go_at_call 17; (with_reducible refine (al11_is6 _).mono ?_); rintro e w5 ⟨rfl, hb5⟩; have hb5' := below_then hb4' hb5)
    | (go_at_call 15; (with_reducible refine (al11_isc _).mono ?_); rintro e w6 ⟨rfl, hb6⟩; have hb6' := below_then hb5' hb6))
  go_ret
  exact ⟨rfl, hb6'⟩
end Go.Proofs.Ytffjiidegnblbaa
