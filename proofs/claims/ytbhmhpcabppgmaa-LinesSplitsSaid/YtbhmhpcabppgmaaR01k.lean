/-
  Contracts of the document's own functions of layer 1 on kinds, trimming (those that the translation has).
-/
import Derived.Test.YtbhmhpcabppgmaaRows
import Derived.Test.YtbhmhpcabppgmaaD01
import Derived.Deep.CutBlock
import Derived.Test.YtbhmhpcabppgmaaR01
namespace Go.Proofs.Ytbhmhpcabppgmaa
open Go.RowKit
set_option linter.unusedVariables false

def letB (c : Int) : Bool := (decide (65 ≤ c) && decide (c ≤ 90)) || (decide (97 ≤ c) && decide (c ≤ 122))
def digB (c : Int) : Bool := decide (48 ≤ c) && decide (c ≤ 57)
def priB (c : Int) : Bool := decide (33 ≤ c) && decide (c ≤ 126)
def ctlB (c : Int) : Bool := decide (c < 32) || (c == 127)
def blaB (c : Int) : Bool := (c == 32) || (c == 9)
def add1 (b : Bool) (k : Int) (n : Int) : Int := if b = true then n + k else n
theorem add1_bd (b : Bool) (k n : Int) (h : 0 ≤ k) : n ≤ add1 b k n ∧ add1 b k n ≤ n + k := by unfold add1; split <;> omega
def sumR (c : Int) : Int := add1 (letB c || digB c || hasB baS c) 512 (add1 (priB c && !hasB spS c && !hasB noS c) 256 (add1 (letB c || digB c || hasB woS c) 128
  (add1 (priB c && !hasB spS c) 64 (add1 (hasB spS c) 32 (add1 (letB c) 16 (add1 (digB c) 8 (add1 (priB c) 4 (add1 (blaB c) 2 (add1 (ctlB c) 1 0)))))))))
/-- What the named variables hold, while the sum is made. -/
def KR (c : Int) (s0 s4 s5 s6 s7 : Value) : Prop := s0 = .int .u8 c ∧ s4 = .bool (letB c) ∧ s5 = .bool (digB c) ∧ s6 = .bool (priB c) ∧ s7 = .bool (hasB spS c)
theorem KR.mk {c x : Int} {b4 b5 b6 b7 : Bool} (h0 : x = c) (h4 : b4 = letB c) (h5 : b5 = digB c) (h6 : b6 = priB c) (h7 : b7 = hasB spS c) : KR c (.int .u8 x) (.bool b4) (.bool b5) (.bool b6) (.bool b7) := by
  subst h0 h4 h5 h6 h7; exact ⟨rfl, rfl, rfl, rfl, rfl⟩
theorem sum_eq_fin : ∀ n : Fin 256, sumR (n.val : Int) = kindI (n.val : Int) := by decide +kernel
theorem sum_eq (c : Int) (h0 : 0 ≤ c) (h1 : c ≤ 255) : sumR c = kindI c := by
  have := sum_eq_fin ⟨c.toNat, by omega⟩
  rwa [show ((⟨c.toNat, by omega⟩ : Fin 256).val : Int) = c by simp; omega] at this
end Go.Proofs.Ytbhmhpcabppgmaa
