/-
  Layer 16, in plain words: Base64 in lines.
-/
import Derived.Test.YtkfmalajapojhaaD14b
namespace Go.Proofs.Ytkfmalajapojhaa
open Go.RowKit
set_option linter.unusedVariables false

/-- A code in lines of 76, 13 and 10 behind each. -/
def fullW (c : List Int) (k : Nat) : List Int := (List.range k).flatMap (fun j => (c.drop (j * 76)).take 76 ++ [13, 10])
def preW (c : List Int) (i : Nat) : List Int := fullW c (i / 76) ++ (c.drop (i / 76 * 76)).take (i % 76)
def wrapL (c : List Int) : List Int := fullW c ((c.length + 75) / 76)
def lineN (n : Int) : Int := (lenB n + 75) / 76
def wlenN (n : Int) : Int := lenB n + 2 * lineN n
/-- Line by line: what the lines are without their ends; the error. -/
def chk : List Int → Nat → List Int → List Int × Int
  | [], long, code => if 0 < long then ([], 4) else if codE code = 0 then (code, 0) else ([], codE code)
  | [x], long, code => if 76 < long + 1 then ([], 12) else ([], 4)
  | x :: y :: r, long, code => if x = 13 ∧ y = 10 then (if long = 0 then ([], 3) else chk r 0 code) else if 76 < long + 1 then ([], 12) else chk (y :: r) (long + 1) (code ++ [x])
def chkL (s : List Int) : List Int := (chk s 0 []).1
def chkE (s : List Int) : Int := (chk s 0 []).2

theorem fullW_succ (c : List Int) (k : Nat) : fullW c (k + 1) = fullW c k ++ ((c.drop (k * 76)).take 76 ++ [13, 10]) := by
  unfold fullW; rw [List.range_succ, List.flatMap_append]; simp
theorem take_on {c : List Int} {a k : Nat} {x : Int} (h : c[a + k]? = some x) : (c.drop a).take (k + 1) = (c.drop a).take k ++ [x] := by
  rw [List.take_add_one, List.getElem?_drop, h]; rfl
theorem preW_step {c : List Int} {i : Nat} {x : Int} (h : i % 76 ≠ 75) (hx : c[i]? = some x) : preW c i ++ [x] = preW c (i + 1) := by
  unfold preW
  rw [show (i + 1) / 76 = i / 76 by omega, show (i + 1) % 76 = i % 76 + 1 by omega, take_on (x := x) (by rw [show i / 76 * 76 + i % 76 = i by omega]; exact hx), List.append_assoc]
theorem preW_full {c : List Int} {i : Nat} {x : Int} (h : i % 76 = 75) (hx : c[i]? = some x) : preW c i ++ [x] ++ [13, 10] = preW c (i + 1) := by
  have e := take_on (c := c) (a := i / 76 * 76) (k := 75) (x := x) (by rw [show i / 76 * 76 + 75 = i by omega]; exact hx)
  unfold preW
  rw [show (i + 1) / 76 = i / 76 + 1 by omega, show (i + 1) % 76 = 0 by omega, fullW_succ, h, List.take_zero, List.append_nil, e]
  simp only [List.append_assoc]
theorem wrap_full {c : List Int} (h : c.length % 76 = 0) : wrapL c = preW c c.length := by
  unfold wrapL preW
  rw [show (c.length + 75) / 76 = c.length / 76 by omega, h, List.take_zero, List.append_nil]
theorem wrap_last {c : List Int} {i : Nat} {x : Int} (h : i % 76 ≠ 75) (hx : c[i]? = some x) (hi : i + 1 = c.length) : preW c i ++ [x] ++ [13, 10] = wrapL c := by
  rw [preW_step h hx]
  unfold wrapL preW
  rw [show (c.length + 75) / 76 = (i + 1) / 76 + 1 by omega, fullW_succ, hi, List.append_assoc]
  congr 2
  rw [List.take_of_length_le (by rw [List.length_drop]; omega), List.take_of_length_le (by rw [List.length_drop]; omega)]
theorem fullW_len (c : List Int) (k : Nat) : (fullW c k).length ≤ 78 * k := by
  induction k with
  | zero => exact Nat.le_refl _
  | succ k ih =>
    rw [fullW_succ, List.length_append, List.length_append, List.length_take]
    simp only [List.length_cons, List.length_nil]
    omega
theorem preW_len (c : List Int) (i : Nat) : (preW c i).length ≤ 78 * (i / 76) + 76 := by
  have := fullW_len c (i / 76)
  unfold preW
  rw [List.length_append, List.length_take]
  omega
theorem chk_line {x y : Int} {r : List Int} {long : Nat} {code : List Int} (h : x = 13 ∧ y = 10) : chk (x :: y :: r) long code = if long = 0 then ([], 3) else chk r 0 code := by
  rw [chk, if_pos h]
theorem chk_on {x : Int} {r : List Int} {long : Nat} {code : List Int} (h : ¬ (x = 13 ∧ r.head? = some 10)) : chk (x :: r) long code = if 76 < long + 1 then ([], 12) else chk r (long + 1) (code ++ [x]) := by
  cases r with
  | nil => rw [chk, chk, if_pos (show 0 < long + 1 by omega)]
  | cons y r => rw [chk, if_neg (by simpa using h)]
end Go.Proofs.Ytkfmalajapojhaa
