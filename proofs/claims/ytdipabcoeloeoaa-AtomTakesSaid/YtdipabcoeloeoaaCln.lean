/-
  Contracts of the library's functions: bytes.Clone.
-/
import Derived.Test.YtdipabcoeloeoaaRows
import Derived.Test.YtdipabcoeloeoaaLit0
import Derived.Test.YtdipabcoeloeoaaC01
namespace Go.Proofs.Ytdipabcoeloeoaa
open Go.RowKit
set_option linter.unusedVariables false

set_option maxHeartbeats 1000000 in
theorem bytes_Clone (a : Option Addr) (len cap : Nat) (xs : List Int) (w : World) (hr : Reads .u8 w a len cap xs) (hN : len < 100000000000) :
    Calls Try.prog 30 #[.slice a len cap] w fun e w' => ∃ a' c', e = .returned (.slice a' len c') ∧ Own .u8 5 w.heap.size w' (.slice a' len c') xs ∧ Below w.heap.size w w' := by
  have q22 : ∀ (w : World) (a : Option Addr) (n c n' c' : Nat), (binOp .eql 22 (.slice a n c) (.slice none n' c')).run Try.prog w = .ok (.bool a.isNone) w := fun w a n c n' c' => Lib.run_eql_slice_nil w _ _ a n c n' c' Try.underlying22
  cases a with
  | none =>
    have h0 : len = 0 := by
      rcases Nat.eq_zero_or_pos len with h0 | h0
      · exact h0
      · obtain ⟨_, _, ha, _⟩ := hr.cell h0; cases ha
    subst h0
    obtain rfl : xs = [] := List.eq_nil_of_length_eq_zero hr.size
    clear hr
    go_enter Try.func30, Try.ntmps30
    go_wp2
    go_ret
    exact ⟨_, _, rfl, Own.nil _ _ _ _, Below.refl _ _⟩
  | some p =>
    have h1 : Own .u8 5 w.heap.size (w.alloc (.cells #[] 5)) (.slice (some ⟨w.heap.size, 0, none⟩) 0 0) [] := by
      have := Own.lit .u8 5 w [] (by simp [maxLen]) (by decide)
      simpa using this
    have hb : Below w.heap.size w (w.alloc (.cells #[] 5)) := (Below.refl _ _).alloc (Nat.le_refl _) _
    have HR := hid (hr.below hb)
    have hsz := hr.size
    clear hr
    go_enter Try.func30, Try.ntmps30
    go_wp2_with (at_builtin; go_must (refine wpList_more CT8 rfl _ _ rfl rfl rfl h1 hb HR.out (by simp; omega) ?_); intro v3 w3 ho3 hb3)
    rw [List.nil_append] at ho3
    obtain ⟨a', c', rfl, _⟩ := ho3.reads
    rw [hsz] at ho3
    go_ret
    exact ⟨a', c', by rw [← hsz]; rfl, ho3, hb3⟩
end Go.Proofs.Ytdipabcoeloeoaa
