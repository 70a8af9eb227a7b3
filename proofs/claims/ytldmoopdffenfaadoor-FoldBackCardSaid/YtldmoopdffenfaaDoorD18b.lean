/-
  Layer 18, in plain words: octets in lines; whether lines are right.
-/
import Derived.Test.YtldmoopdffenfaaDoorD18
namespace Go.Proofs.YtldmoopdffenfaaDoor
open Go.RowKit
set_option linter.unusedVariables false

/-- Lines without their ends; the last one may be empty. -/
def linS : List Int → List Int → List (List Int)
  | [], acc => [acc]
  | [x], acc => [acc ++ [x]]
  | x :: y :: r, acc => if x = 13 ∧ y = 10 then acc :: linS r [] else linS (y :: r) (acc ++ [x])
def linA (s : List Int) : List (List Int) := linS s []
/-- Those that are lines; does the last one end? -/
def linE (s : List Int) : Bool := (linA s).getLast? == some []
def linL (s : List Int) : List (List Int) := if linE s = true then (linA s).dropLast else linA s
theorem lin_line (r acc : List Int) : linS (13 :: 10 :: r) acc = acc :: linS r [] := by rw [linS, if_pos ⟨rfl, rfl⟩]
theorem lin_on {x : Int} {r : List Int} (acc : List Int) (h : ¬ (x = 13 ∧ r.head? = some 10)) : linS (x :: r) acc = linS r (acc ++ [x]) := by
  cases r with
  | nil => rfl
  | cons y r =>
    rw [linS, if_neg]
    rintro ⟨h1, h2⟩
    exact h ⟨h1, by rw [h2]; rfl⟩
theorem linS_ne (s acc : List Int) : linS s acc ≠ [] := by
  induction s, acc using linS.induct with
  | case1 => rw [linS]; simp
  | case2 => rw [linS]; simp
  | case3 x y r acc h _ => rw [linS, if_pos h]; simp
  | case4 x y r acc h ih => rw [linS, if_neg h]; exact ih
/-- A line's rightness, but for its length. -/
def escAt (l : List Int) (i : Nat) : Bool := takeOk l i 61 && decide (escI [] 61 (takeV l i 61) = (l.drop i).take 3)
def sgnOk (l : List Int) (i : Nat) : Bool := (isB 2 (l.getD i 0) || isB 4 (l.getD i 0)) && (if l.getD i 0 = 61 ∧ i + 1 < l.length then escAt l i else true)
def endOk (l : List Int) : Bool := match l.getLast? with | none => true | some x => !isB 2 x
def rgtB (l : List Int) : Bool := (List.range l.length).all (sgnOk l) && endOk l
/-- Line by line. -/
def chkQ : List (List Int) → Bool → Int
  | [], _ => 0
  | l :: r, ends => if 76 < l.length then 12 else if r = [] ∧ ends = false then 4 else if rgtB l = true then chkQ r ends else 3
def checkQ (s : List Int) : Int := chkQ (linL s) (linE s)
def sftQ : List (List Int) → Bool → Nat
  | [], _ => 0
  | l :: r, ends => (if l.getLast? = some 61 ∧ (ends = true ∨ r ≠ []) then 1 else 0) + sftQ r ends
def softQ (s : List Int) : Nat := sftQ (linL s) (linE s)
theorem range_on {f : Nat → Bool} {k : Nat} (h : (List.range k).all f = true) (hk : f k = true) : (List.range (k + 1)).all f = true := by
  rw [List.range_succ, List.all_append, h]; simp [hk]
theorem range_no {f : Nat → Bool} {k n : Nat} (hk : k < n) (h : f k = false) : (List.range n).all f = false := by
  rw [List.all_eq_false]
  exact ⟨k, List.mem_range.2 hk, by simp [h]⟩
end Go.Proofs.YtldmoopdffenfaaDoor
