/-
  The first of some numbers that a test holds of.
-/
import Derived.Test.YtbhmhpcabppgmaaBase
namespace Go.Proofs.Ytbhmhpcabppgmaa
open Go.RowKit
set_option linter.unusedVariables false

theorem ret_ii {k k2 : IntKind} {a b c d : Int} (h : a = b) (h' : c = d) : Ending.returned (.tuple #[.int k a, .int k2 c]) = .returned (.tuple #[.int k b, .int k2 d]) := by rw [h, h']
theorem own_mono {k : IntKind} {e : TypeId} {base base' : Nat} {w : World} {v : Value} {xs : List Int} (h : Own k e base w v xs) (hb : base' ≤ base) : Own k e base' w v xs := by
  refine ⟨⟨h.1.1, ?_⟩, h.2⟩
  rcases h.1.2 with h' | ⟨g, cap, cur, h1, h2, h3⟩
  · exact .inl h'
  · exact .inr ⟨g, cap, cur, h1, Nat.le_trans hb h2, h3⟩
/-- A slice's length, for a measure. -/
def lenV : Value → Nat | .slice _ n _ => n | _ => 0
/-- The first of 1 .. m that a test holds of; 0: none. -/
def first1 (f : Int → Bool) (m : Nat) : Int := match (List.range m).find? (fun n : Nat => f ((n : Int) + 1)) with | some n => (n : Int) + 1 | none => 0
theorem first1_hit {f : Int → Bool} {m k : Nat} (hk : k < m) (hf : f ((k : Int) + 1) = true) (hn : ∀ j : Nat, j < k → f ((j : Int) + 1) = false) : first1 f m = (k : Int) + 1 := by
  unfold first1
  have : (List.range m).find? (fun n : Nat => f ((n : Int) + 1)) = some k := by
    rw [List.find?_range_eq_some]
    exact ⟨hf, by simpa using hk, fun j hj => by simp [hn j hj]⟩
  rw [this]
theorem first1_no {f : Int → Bool} {m : Nat} (hn : ∀ j : Nat, j < m → f ((j : Int) + 1) = false) : first1 f m = 0 := by
  unfold first1
  have : (List.range m).find? (fun n : Nat => f ((n : Int) + 1)) = none := by
    rw [List.find?_range_eq_none]
    exact fun j hj => by simp [hn j hj]
  rw [this]
theorem first1_zero {f : Int → Bool} {m : Nat} (h : first1 f m = 0) : ∀ j : Nat, j < m → f ((j : Int) + 1) = false := by
  unfold first1 at h
  cases hf : (List.range m).find? (fun n : Nat => f ((n : Int) + 1)) with
  | none =>
    rw [List.find?_range_eq_none] at hf
    intro j hj
    have := hf j hj
    simpa using this
  | some k =>
    rw [hf] at h
    exfalso
    have : (k : Int) + 1 = 0 := h
    omega
theorem first1_some {f : Int → Bool} {m : Nat} (h : first1 f m ≠ 0) : ∃ k : Nat, k < m ∧ first1 f m = (k : Int) + 1 ∧ f ((k : Int) + 1) = true ∧ ∀ j : Nat, j < k → f ((j : Int) + 1) = false := by
  unfold first1 at h ⊢
  cases hf : (List.range m).find? (fun n : Nat => f ((n : Int) + 1)) with
  | none => rw [hf] at h; exact absurd rfl h
  | some k =>
    rw [List.find?_range_eq_some] at hf
    obtain ⟨h1, h2, h3⟩ := hf
    exact ⟨k, by simpa using h2, rfl, h1, fun j hj => by have := h3 j hj; simpa using this⟩
end Go.Proofs.Ytbhmhpcabppgmaa
