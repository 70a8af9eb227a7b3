/-
  Layer 19, in plain words: quoted-printable, read.
-/
import Derived.Test.YtldmoopdffenfaaDoorD01
import Derived.Test.YtldmoopdffenfaaDoorEsq
namespace Go.Proofs.YtldmoopdffenfaaDoor
open Go.RowKit
set_option linter.unusedVariables false

/-- Without the blanks at its end; does it end softly; what else there is; what that is read as. -/
def trimE : List Int → List Int
  | [] => []
  | x :: r => match trimE r with | [] => if isB 2 x = true then [] else [x] | l => x :: l
def softB (l : List Int) : Bool := (trimE l).getLast? == some 61
def lineB (l : List Int) : List Int := if softB l = true then (trimE l).dropLast else trimE l
def idI (x : Int) : Int := x
def lineR (l : List Int) : List Int := rdE 61 idI (lineB l) 0
def lineN (l : List Int) : Nat := stE 61 (lineB l) 0
theorem trimE_snoc (l : List Int) (x : Int) : trimE (l ++ [x]) = if isB 2 x = true then trimE l else l ++ [x] := by
  induction l with
  | nil =>
    show (match trimE [] with | [] => if isB 2 x = true then [] else [x] | l => x :: l) = _
    rfl
  | cons y l ih =>
    rw [List.cons_append, trimE, ih]
    by_cases h : isB 2 x = true
    · rw [if_pos h, if_pos h, trimE]
    · rw [if_neg h, if_neg h]
      cases l <;> rfl
theorem trimE_le : ∀ l : List Int, (trimE l).length ≤ l.length
  | [] => Nat.le_refl _
  | x :: l => by
    have ih := trimE_le l
    rw [trimE]
    split
    · split <;> simp
    · rename_i h
      simp only [List.length_cons]
      omega
theorem lineB_le (l : List Int) : (lineB l).length ≤ l.length := by
  have := trimE_le l
  unfold lineB
  split
  · rw [List.length_dropLast]; omega
  · exact this
theorem lineR_le (l : List Int) : (lineR l).length ≤ l.length := Nat.le_trans (rdE_len _ _ _ _) (lineB_le l)
theorem lineN_le (l : List Int) : lineN l ≤ l.length := Nat.le_trans (stE_le _ _ _) (lineB_le l)
/-- Line by line (skip: the next one belongs to the break ahead of it). -/
def two19 (x : Int) (r : List Int) : Bool := decide (x = 13 ∧ r.head? = some 10)
def brk19 (x : Int) (r line : List Int) : List Int := if softB line = true then [] else if two19 x r = true then [x, 10] else [x]
def rdS : List Int → Bool → List Int → List Int
  | [], _, line => lineR line
  | _ :: r, true, line => rdS r false line
  | x :: r, false, line => if x = 13 ∨ x = 10 then lineR line ++ (brk19 x r line ++ rdS r (two19 x r) []) else rdS r false (line ++ [x])
def stS : List Int → Bool → List Int → Nat
  | [], _, line => lineN line
  | _ :: r, true, line => stS r false line
  | x :: r, false, line => if x = 13 ∨ x = 10 then lineN line + stS r (two19 x r) [] else stS r false (line ++ [x])
def readS (xs : List Int) : List Int := rdS xs false []
def strS (xs : List Int) : Nat := stS xs false []
theorem rdS_skip (r line : List Int) : rdS r true line = rdS (r.drop 1) false line := by cases r <;> rfl
theorem stS_skip (r line : List Int) : stS r true line = stS (r.drop 1) false line := by cases r <;> rfl
end Go.Proofs.YtldmoopdffenfaaDoor
