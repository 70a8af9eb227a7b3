/-
  Layer 18, in plain words: quoted-printable, laid.
-/
import Derived.Test.YtldmoopdffenfaaDoorD03
import Derived.Test.YtldmoopdffenfaaDoorD02
namespace Go.Proofs.YtldmoopdffenfaaDoor
open Go.RowKit
set_option linter.unusedVariables false

/-- Breaks as 13, 10; was the one ahead a 13? -/
def brkS : List Int → Bool → List Int
  | [], _ => []
  | x :: r, cr => if cr = true ∧ x = 10 then brkS r false else if x = 13 ∨ x = 10 then 13 :: 10 :: brkS r (decide (x = 13)) else x :: brkS r false
def brkL (xs : List Int) : List Int := brkS xs false
/-- A unit. -/
def plainU (c : Int) (ends : Bool) : Bool := (isB 4 c && decide (c ≠ 61)) || (isB 2 c && !ends)
def unitL (c : Int) (ends : Bool) : List Int := if plainU c ends = true then [c] else escI [] 61 c
/-- What is laid of octets whose breaks are all 13, 10; is the next one to be passed over? how long is the line? -/
def layS : List Int → Bool → Nat → List Int
  | [], _, long => if 0 < long then [61, 13, 10] else []
  | x :: r, skip, long => if skip = true then layS r false long else if x = 13 then 13 :: 10 :: layS r true 0 else
      if 75 < long + (unitL x (decide (r.head? = some 13))).length then 61 :: 13 :: 10 :: (unitL x (decide (r.head? = some 13)) ++ layS r false (unitL x (decide (r.head? = some 13))).length)
      else unitL x (decide (r.head? = some 13)) ++ layS r false (long + (unitL x (decide (r.head? = some 13))).length)
def layQ (xs : List Int) : List Int := layS (brkL xs) false 0

theorem brk_plain {x : Int} (h1 : x ≠ 13) (h2 : x ≠ 10) (r : List Int) : brkS (x :: r) false = x :: brkS r false := by
  rw [brkS, if_neg (fun h => by cases h.1), if_neg (fun h => h.elim h1 h2)]
theorem brk_two (r : List Int) : brkS (13 :: 10 :: r) false = 13 :: 10 :: brkS r false := by
  rw [brkS, if_neg (fun h => by cases h.1), if_pos (.inl rfl), brkS, if_pos ⟨by decide, rfl⟩]
theorem brk_cr {r : List Int} (h : r.head? ≠ some 10) : brkS r true = brkS r false := by
  cases r with
  | nil => rfl
  | cons y r =>
    have hy : y ≠ 10 := by rintro rfl; exact h rfl
    simp [brkS, hy]
theorem brk_one {x : Int} (hx : x = 13 ∨ x = 10) {r : List Int} (h : ¬ (x = 13 ∧ r.head? = some 10)) : brkS (x :: r) false = 13 :: 10 :: brkS r false := by
  rw [brkS, if_neg (fun h => by cases h.1), if_pos hx]
  rcases hx with rfl | rfl
  · rw [show (decide ((13 : Int) = 13)) = true from rfl, brk_cr (fun hh => h ⟨rfl, hh⟩)]
  · rfl
theorem unit_len (c : Int) (e : Bool) : 1 ≤ (unitL c e).length ∧ (unitL c e).length ≤ 3 := by
  unfold unitL; split
  · exact ⟨by simp, by simp⟩
  · exact ⟨by simp [escI], by simp [escI]⟩
theorem brkS_bd : ∀ (xs : List Int) (b : Bool), (∀ x ∈ xs, 0 ≤ x ∧ x ≤ 255) → ∀ y ∈ brkS xs b, 0 ≤ y ∧ y ≤ 255 := by
  intro xs
  induction xs with
  | nil => intro b _ y hy; cases hy
  | cons x r ih =>
    intro b h y hy
    rw [brkS] at hy
    have hr : ∀ z ∈ r, 0 ≤ z ∧ z ≤ 255 := fun z hz => h z (by simp [hz])
    split at hy
    · exact ih _ hr y hy
    · split at hy
      · simp only [List.mem_cons] at hy
        rcases hy with rfl | rfl | hy
        · exact ⟨by omega, by omega⟩
        · exact ⟨by omega, by omega⟩
        · exact ih _ hr y hy
      · simp only [List.mem_cons] at hy
        rcases hy with rfl | hy
        · exact h _ (by simp)
        · exact ih _ hr y hy
theorem brkS_len : ∀ (xs : List Int) (b : Bool), (brkS xs b).length ≤ 2 * xs.length := by
  intro xs
  induction xs with
  | nil => intro b; exact Nat.le_refl _
  | cons x r ih =>
    intro b
    rw [brkS]
    split
    · have := ih false; simp only [List.length_cons]; omega
    · split
      · have := ih (decide (x = 13)); simp only [List.length_cons]; omega
      · have := ih false; simp only [List.length_cons]; omega
theorem layS_len : ∀ (xs : List Int) (b : Bool) (n : Nat), (layS xs b n).length ≤ 6 * xs.length + 3 := by
  intro xs
  induction xs with
  | nil => intro b n; rw [layS]; split <;> simp
  | cons x r ih =>
    intro b n
    rw [layS]
    have hu := unit_len x (decide (r.head? = some 13))
    split
    · have := ih false n; simp only [List.length_cons]; omega
    · split
      · have := ih true 0; simp only [List.length_cons]; omega
      · split
        · have := ih false (unitL x (decide (r.head? = some 13))).length
          simp only [List.length_cons, List.length_append]; omega
        · have := ih false (n + (unitL x (decide (r.head? = some 13))).length)
          simp only [List.length_cons, List.length_append]; omega
theorem lay_skip (x : Int) (r : List Int) (n : Nat) : layS (x :: r) true n = layS r false n := by rw [layS, if_pos rfl]
theorem lay_cr {r : List Int} (n : Nat) : layS (13 :: r) false n = 13 :: 10 :: layS (r.drop 1) false 0 := by
  rw [layS, if_neg (by decide), if_pos rfl]
  cases r with
  | nil => rfl
  | cons y r => rw [lay_skip]; rfl
theorem lay_unit {x : Int} (h : x ≠ 13) (r : List Int) (n : Nat) : layS (x :: r) false n = if 75 < n + (unitL x (decide (r.head? = some 13))).length then 61 :: 13 :: 10 :: (unitL x (decide (r.head? = some 13)) ++ layS r false (unitL x (decide (r.head? = some 13))).length) else unitL x (decide (r.head? = some 13)) ++ layS r false (n + (unitL x (decide (r.head? = some 13))).length) := by
  rw [layS, if_neg (by decide), if_neg h]
end Go.Proofs.YtldmoopdffenfaaDoor
