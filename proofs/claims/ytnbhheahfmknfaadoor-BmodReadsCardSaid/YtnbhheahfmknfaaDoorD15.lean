/-
  Layer 15, in plain words: Base64, read loosely.
-/
import Derived.Test.YtnbhheahfmknfaaDoorD14
namespace Go.Proofs.YtnbhheahfmknfaaDoor
open Go.RowKit
set_option linter.unusedVariables false

def noEq (x : Int) : Bool := decide (x ≠ 61)
/-- Up to the first =; the digits there, in order; how many others. -/
def cutEq (xs : List Int) : List Int := xs.takeWhile noEq
def digL (xs : List Int) : List Int := (cutEq xs).filter isDig
def strQ (xs : List Int) : Nat := ((cutEq xs).filter (fun c => !isDig c)).length
/-- What is read; how many bits are left over; the strict code of it. -/
def looL (xs : List Int) : List Int := rd64 ((digL xs).map valI)
def drpN (xs : List Int) : Nat := 6 * (digL xs).length % 8
def clnL (xs : List Int) : List Int := layB (looL xs)

theorem cut_at {f : Int → Bool} {xs : List Int} {k : Nat} (hn : (xs.take k).all f = true) (h : xs.length ≤ k ∨ ∃ x, xs[k]? = some x ∧ f x = false) : xs.takeWhile f = xs.take k := by
  induction xs generalizing k with
  | nil => simp
  | cons y xs ih =>
    cases k with
    | zero =>
      rcases h with h | ⟨x, h1, h2⟩
      · simp at h
      · simp only [List.getElem?_cons_zero, Option.some.injEq] at h1
        subst h1
        rw [List.takeWhile_cons, h2]; rfl
    | succ k =>
      simp only [List.take_succ_cons, List.all_cons, Bool.and_eq_true] at hn
      rw [List.takeWhile_cons, hn.1, List.take_succ_cons]
      simp only [if_true]
      rw [ih hn.2 (by
        rcases h with h | ⟨x, h1, h2⟩
        · simp only [List.length_cons] at h; exact .inl (by omega)
        · exact .inr ⟨x, by simpa using h1, h2⟩)]
theorem digL_dig (xs : List Int) : (digL xs).all isDig = true := by
  rw [List.all_eq_true]
  intro x hx
  exact (List.mem_filter.1 hx).2
theorem digL_le (xs : List Int) : (digL xs).length ≤ xs.length := Nat.le_trans (List.length_filter_le _ _) (List.takeWhile_sublist _).length_le
theorem digL_v6 (xs : List Int) : ∀ v ∈ (digL xs).map valI, V6 v := by
  intro v hv
  obtain ⟨c, _, rfl⟩ := List.mem_map.1 hv
  exact val_bd c
theorem looL_le (xs : List Int) : (looL xs).length ≤ xs.length := by
  unfold looL
  rw [rd64_len, List.length_map]
  have := digL_le xs
  omega
theorem bits_drop (xs : List Int) : (bits6 ((digL xs).map valI)).length % 8 = drpN xs := by
  rw [bits6_len, List.length_map]; rfl
end Go.Proofs.YtnbhheahfmknfaaDoor
