/-
  Contracts of package utfone's functions: a sign taken.
-/
import Derived.Test.YtobjdamlmaaidaaDoorC04
namespace Go.Proofs.YtobjdamlmaaidaaDoor
open Go.RowKit
set_option linter.unusedVariables false

def bgW : List Int → Nat
  | [] => 0
  | a :: _ => startN a
def bgT : List Int → Int
  | [] => 0
  | a :: r => if startN a = 0 then 0 else topU a r (farN (a :: r))
theorem clr1 : ∀ n : Fin 128, bits .andNot .i32 (n.val : Int) 0 = n.val - 0 := by decide +kernel
theorem clr2 : ∀ n : Fin 32, bits .andNot .i32 ((192 + n.val : Nat) : Int) 192 = ((192 + n.val : Nat) : Int) - 192 := by decide +kernel
theorem clr3 : ∀ n : Fin 16, bits .andNot .i32 ((224 + n.val : Nat) : Int) 224 = ((224 + n.val : Nat) : Int) - 224 := by decide +kernel
theorem clr4 : ∀ n : Fin 8, bits .andNot .i32 ((240 + n.val : Nat) : Int) 240 = ((240 + n.val : Nat) : Int) - 240 := by decide +kernel
theorem clr (a : Int) (h0 : 0 ≤ a) (h : startN a ≠ 0) : bits .andNot .i32 a (markI (startN a)) = a - markI (startN a) := by
  have h4 := startN_le a
  obtain ⟨n, rfl⟩ := Int.eq_ofNat_of_zero_le h0
  rcases (show startN n = 1 ∨ startN n = 2 ∨ startN n = 3 ∨ startN n = 4 by omega) with e | e | e | e <;> rw [e]
  · rw [start_1] at e; exact clr1 ⟨n, by omega⟩
  · rw [start_2] at e; have := clr2 ⟨n - 192, by omega⟩; simp only at this; rwa [show 192 + (n - 192) = n by omega] at this
  · rw [start_3] at e; have := clr3 ⟨n - 224, by omega⟩; simp only at this; rwa [show 224 + (n - 224) = n by omega] at this
  · rw [start_4] at e; have := clr4 ⟨n - 240, by omega⟩; simp only at this; rwa [show 240 + (n - 240) = n by omega] at this


end Go.Proofs.YtobjdamlmaaidaaDoor
