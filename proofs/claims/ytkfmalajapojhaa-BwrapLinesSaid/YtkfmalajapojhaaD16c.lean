/-
  Layer 16, in plain words: octets line by line, each up to a 13 and 10.
-/
import Derived.Test.YtkfmalajapojhaaD16b
namespace Go.Proofs.Ytkfmalajapojhaa
open Go.RowKit
set_option linter.unusedVariables false

/-- No 13 and 10 before i. -/
def NoCr (s : List Int) (i : Nat) : Prop := ∀ j, j < i → ¬ (s[j]? = some 13 ∧ s[j + 1]? = some 10)
theorem NoCr.tail {x : Int} {s : List Int} {i : Nat} (h : NoCr (x :: s) (i + 1)) : NoCr s i := fun j hj hh => h (j + 1) (by omega) (by simpa using hh)
theorem NoCr.head {x : Int} {s : List Int} {i : Nat} (h : NoCr (x :: s) (i + 1)) : ¬ (x = 13 ∧ s.head? = some 10) := fun hh => h 0 (by omega) (by
  rw [List.head?_eq_getElem?] at hh
  simpa using hh)
/-- The lines' octets without their ends; the error of a line. -/
def lns : List Int → Nat → List Int → List Int × Int
  | [], long, code => if 0 < long then ([], 4) else (code, 0)
  | [x], long, code => if 76 < long + 1 then ([], 12) else ([], 4)
  | x :: y :: r, long, code => if x = 13 ∧ y = 10 then (if long = 0 then ([], 3) else lns r 0 code) else if 76 < long + 1 then ([], 12) else lns (y :: r) (long + 1) (code ++ [x])
def jL (s : List Int) : List Int := (lns s 0 []).1
def jE (s : List Int) : Int := (lns s 0 []).2
theorem lns_line {x y : Int} {r : List Int} {long : Nat} {code : List Int} (h : x = 13 ∧ y = 10) : lns (x :: y :: r) long code = if long = 0 then ([], 3) else lns r 0 code := by
  rw [lns, if_pos h]
theorem lns_on {x : Int} {r : List Int} {long : Nat} {code : List Int} (h : ¬ (x = 13 ∧ r.head? = some 10)) : lns (x :: r) long code = if 76 < long + 1 then ([], 12) else lns r (long + 1) (code ++ [x]) := by
  cases r with
  | nil => rw [lns, lns, if_pos (show 0 < long + 1 by omega)]
  | cons y r => rw [lns, if_neg (by simpa using h)]
theorem chk_lns : ∀ (s : List Int) (m : Nat) (code : List Int), chk s m code = if (lns s m code).2 = 0 then (if codE (lns s m code).1 = 0 then ((lns s m code).1, 0) else ([], codE (lns s m code).1)) else ([], (lns s m code).2)
  | [], m, code => by
    rw [chk, lns]
    by_cases h : 0 < m
    · rw [if_pos h, if_pos h]; rfl
    · rw [if_neg h, if_neg h]; rfl
  | [x], m, code => by
    rw [chk, lns]
    by_cases h : 76 < m + 1
    · rw [if_pos h]; rfl
    · rw [if_neg h]; rfl
  | x :: y :: r, m, code => by
    rw [chk, lns]
    by_cases h : x = 13 ∧ y = 10
    · rw [if_pos h, if_pos h]
      by_cases h0 : m = 0
      · rw [if_pos h0, if_pos h0]; rfl
      · rw [if_neg h0, if_neg h0]; exact chk_lns r 0 code
    · rw [if_neg h, if_neg h]
      by_cases h0 : 76 < m + 1
      · rw [if_pos h0, if_pos h0]; rfl
      · rw [if_neg h0, if_neg h0]; exact chk_lns (y :: r) (m + 1) (code ++ [x])
theorem lns_run : ∀ (i : Nat) (s : List Int) (m : Nat) (code : List Int), NoCr s i → i ≤ s.length → m + i ≤ 76 → lns s m code = lns (s.drop i) (m + i) (code ++ s.take i)
  | 0, s, m, code, _, _, _ => by simp
  | i + 1, [], m, code, _, h, _ => by simp at h
  | i + 1, x :: s, m, code, hn, hi, hm => by
    rw [lns_on hn.head, if_neg (by omega), lns_run i s (m + 1) (code ++ [x]) hn.tail (by simpa using hi) (by omega)]
    simp only [List.drop_succ_cons, List.take_succ_cons, List.append_assoc, List.singleton_append]
    rw [show m + 1 + i = m + (i + 1) by omega]
theorem lns_over : ∀ (i : Nat) (s : List Int) (m : Nat) (code : List Int), NoCr s i → i ≤ s.length → m ≤ 76 → 76 < m + i → lns s m code = ([], 12)
  | 0, s, m, code, _, _, h1, h2 => by omega
  | i + 1, [], m, code, _, h, _, _ => by simp at h
  | i + 1, x :: s, m, code, hn, hi, h1, h2 => by
    rw [lns_on hn.head]
    by_cases h : 76 < m + 1
    · rw [if_pos h]
    · rw [if_neg h]
      exact lns_over i s (m + 1) (code ++ [x]) hn.tail (by simpa using hi) (by omega) (by omega)
/-- What does not end. -/
theorem lns_open {s : List Int} (code : List Int) (hn : NoCr s s.length) (h0 : 0 < s.length) : lns s 0 code = ([], if 76 < s.length then 12 else 4) := by
  by_cases h : 76 < s.length
  · rw [lns_over s.length s 0 code hn (Nat.le_refl _) (by omega) (by omega), if_pos h]
  · rw [lns_run s.length s 0 code hn (Nat.le_refl _) (by omega), if_neg h, List.drop_length, lns, if_pos (by omega)]
theorem drop_two {s : List Int} {i : Nat} {x y : Int} (h1 : s[i]? = some x) (h2 : s[i + 1]? = some y) : s.drop i = x :: y :: s.drop (i + 2) := by
  obtain ⟨l1, e1⟩ := List.getElem?_eq_some_iff.1 h1
  obtain ⟨l2, e2⟩ := List.getElem?_eq_some_iff.1 h2
  rw [List.drop_eq_getElem_cons l1, List.drop_eq_getElem_cons l2, e1, e2]
/-- A line that ends. -/
theorem lns_cut {s : List Int} {i : Nat} (code : List Int) (hn : NoCr s i) (h1 : s[i]? = some 13) (h2 : s[i + 1]? = some 10) :
    lns s 0 code = if 76 < i then ([], 12) else if i = 0 then ([], 3) else lns (s.drop (i + 2)) 0 (code ++ s.take i) := by
  have hl : i < s.length := (List.getElem?_eq_some_iff.1 h1).1
  by_cases h : 76 < i
  · rw [if_pos h, lns_over i s 0 code hn (by omega) (by omega) (by omega)]
  · rw [if_neg h, lns_run i s 0 code hn (by omega) (by omega), drop_two h1 h2, lns_line ⟨rfl, rfl⟩, Nat.zero_add]
/-- An error has no octets. -/
theorem lns_no : ∀ (s : List Int) (m : Nat) (code : List Int), (lns s m code).2 ≠ 0 → (lns s m code).1 = []
  | [], m, code => by
    rw [lns]
    by_cases h : 0 < m
    · rw [if_pos h]; intro _; rfl
    · rw [if_neg h]; intro hh; exact absurd rfl hh
  | [x], m, code => by
    rw [lns]
    by_cases h : 76 < m + 1
    · rw [if_pos h]; intro _; rfl
    · rw [if_neg h]; intro _; rfl
  | x :: y :: r, m, code => by
    rw [lns]
    by_cases h : x = 13 ∧ y = 10
    · rw [if_pos h]
      by_cases h0 : m = 0
      · rw [if_pos h0]; intro _; rfl
      · rw [if_neg h0]; exact lns_no r 0 code
    · rw [if_neg h]
      by_cases h0 : 76 < m + 1
      · rw [if_pos h0]; intro _; rfl
      · rw [if_neg h0]; exact lns_no (y :: r) (m + 1) (code ++ [x])
theorem lns_le : ∀ (s : List Int) (m : Nat) (code : List Int), (lns s m code).1.length ≤ code.length + s.length
  | [], m, code => by
    rw [lns]
    by_cases h : 0 < m
    · rw [if_pos h]; simp
    · rw [if_neg h]; simp
  | [x], m, code => by
    rw [lns]
    by_cases h : 76 < m + 1
    · rw [if_pos h]; simp
    · rw [if_neg h]; simp
  | x :: y :: r, m, code => by
    rw [lns]
    by_cases h : x = 13 ∧ y = 10
    · rw [if_pos h]
      by_cases h0 : m = 0
      · rw [if_pos h0]; simp
      · rw [if_neg h0]
        have := lns_le r 0 code
        simp only [List.length_cons]
        omega
    · rw [if_neg h]
      by_cases h0 : 76 < m + 1
      · rw [if_pos h0]; simp
      · rw [if_neg h0]
        have := lns_le (y :: r) (m + 1) (code ++ [x])
        simp only [List.length_cons, List.length_append, List.length_nil] at this ⊢
        omega
theorem jL_le (s : List Int) : (jL s).length ≤ s.length := by
  have := lns_le s 0 []
  simpa [jL] using this
theorem chkE_j (s : List Int) : chkE s = if jE s = 0 then codE (jL s) else jE s := by
  unfold chkE jE jL
  rw [chk_lns]
  by_cases h : (lns s 0 []).2 = 0
  · rw [if_pos h, if_pos h]
    by_cases h2 : codE (lns s 0 []).1 = 0
    · rw [if_pos h2, h2]
    · rw [if_neg h2]
  · rw [if_neg h, if_neg h]
theorem chkL_j {s : List Int} (h : chkE s = 0) : jE s = 0 ∧ chkL s = jL s := by
  have hj : jE s = 0 := by
    rw [chkE_j] at h
    by_cases hj : jE s = 0
    · exact hj
    · rw [if_neg hj] at h; exact h
  refine ⟨hj, ?_⟩
  have hc : codE (jL s) = 0 := by rw [chkE_j, if_pos hj] at h; exact h
  unfold chkL
  rw [chk_lns, if_pos (show (lns s 0 []).2 = 0 from hj), if_pos (show codE (lns s 0 []).1 = 0 from hc)]
  rfl
/-- What is laid, line by line. -/
theorem wrapL_nil : wrapL [] = [] := rfl
theorem fullW_drop (c : List Int) (k : Nat) : fullW c (k + 1) = c.take 76 ++ [13, 10] ++ fullW (c.drop 76) k := by
  induction k with
  | zero => simp [fullW]
  | succ k ih =>
    rw [fullW_succ, ih, fullW_succ, List.drop_drop]
    rw [show 76 + k * 76 = (k + 1) * 76 by omega]
    simp only [List.append_assoc]
theorem wrapL_more {c : List Int} (h : 76 < c.length) : wrapL c = c.take 76 ++ [13, 10] ++ wrapL (c.drop 76) := by
  unfold wrapL
  rw [List.length_drop, show (c.length + 75) / 76 = (c.length - 76 + 75) / 76 + 1 by omega, fullW_drop]
theorem wrapL_one {c : List Int} (h0 : 0 < c.length) (h : c.length ≤ 76) : wrapL c = c ++ [13, 10] := by
  unfold wrapL
  rw [show (c.length + 75) / 76 = 0 + 1 by omega, fullW_drop, List.take_of_length_le h]
  simp [fullW]
theorem wrapL_le (c : List Int) : (wrapL c).length ≤ 78 * ((c.length + 75) / 76) := fullW_len c _
end Go.Proofs.Ytkfmalajapojhaa
