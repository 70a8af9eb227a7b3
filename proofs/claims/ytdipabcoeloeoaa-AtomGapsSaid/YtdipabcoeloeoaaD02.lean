/-
  Layer 2, in plain words: digits of base 16, escapes.
-/
import Derived.Test.YtdipabcoeloeoaaD01
namespace Go.Proofs.Ytdipabcoeloeoaa
open Go.RowKit

/-- The digit of a number from 0 to 15. -/
def digI (k : Int) : Int := if k < 10 then 48 + k else 55 + k
/-- A digit's number (0 of what is none), and whether it is one. -/
def hexV (c : Int) : Int := if 48 ≤ c ∧ c ≤ 57 then c - 48 else if 65 ≤ c ∧ c ≤ 70 then c - 55 else if 97 ≤ c ∧ c ≤ 102 then c - 87 else 0
def hexO (c : Int) : Bool := (decide (48 ≤ c) && decide (c ≤ 57)) || (decide (65 ≤ c) && decide (c ≤ 70)) || (decide (97 ≤ c) && decide (c ≤ 102))

theorem digI_bd (k : Int) (h0 : 0 ≤ k) (h1 : k ≤ 15) : 48 ≤ digI k ∧ digI k ≤ 70 := by unfold digI; split <;> omega
theorem hexV_bd (c : Int) : 0 ≤ hexV c ∧ hexV c ≤ 15 := by unfold hexV; (repeat' split) <;> omega
theorem dig_wf (k : Int) (h0 : 0 ≤ k) (h1 : k ≤ 15) : (Lit.int .u8 (digI k)).wf = true := mk_u8 (by have := digI_bd k h0 h1; omega) (by have := digI_bd k h0 h1; omega)

/-- Is the k-th digit (small or capital) this octet? -/
def digM (k c : Int) : Bool := (digI k == c) || (decide (10 ≤ k) && (digI k + 32 == c))
theorem digM_hit (k c : Int) (hk0 : 0 ≤ k) (hk1 : k ≤ 15) (h : digM k c = true) : hexV c = k ∧ hexO c = true := by
  unfold digM digI at h
  simp only [Bool.or_eq_true, beq_iff_eq, Bool.and_eq_true, decide_eq_true_eq] at h
  unfold hexV hexO
  constructor
  · (repeat' split) <;> (split at h <;> omega)
  · simp only [Bool.or_eq_true, Bool.and_eq_true, decide_eq_true_eq]
    split at h <;> omega
theorem digM_none (c : Int) (h : ∀ j : Nat, j < 16 → digM j c = false) : hexV c = 0 ∧ hexO c = false := by
  have hn : ¬ hexO c = true := by
    intro ho
    unfold hexO at ho
    simp only [Bool.or_eq_true, Bool.and_eq_true, decide_eq_true_eq] at ho
    have := h (hexV c).toNat (by have := hexV_bd c; omega)
    rw [Bool.eq_false_iff] at this
    apply this
    have e : (((hexV c).toNat : Nat) : Int) = hexV c := by have := hexV_bd c; omega
    rw [e]
    unfold digM digI hexV
    simp only [Bool.or_eq_true, beq_iff_eq, Bool.and_eq_true, decide_eq_true_eq]
    (repeat' split) <;> omega
  refine ⟨?_, by simpa using hn⟩
  unfold hexO at hn
  simp only [Bool.or_eq_true, Bool.and_eq_true, decide_eq_true_eq] at hn
  unfold hexV
  (repeat' split) <;> omega

theorem digM_next {k : Nat} {c : Int} (hn : ∀ j : Nat, j < k → digM j c = false) (h : digM k c = false) (j : Nat) (hj : j < k + 1) : digM j c = false := by
  rcases Nat.lt_or_ge j k with h' | h'
  · exact hn j h'
  · rw [show j = k by omega]; exact h
theorem digM_a {k c : Int} (h : digI k = c) : digM k c = true := by simp [digM, h]
theorem digM_b {k c : Int} (h : (digI k == c) = true ∨ (digI k + 32 == c) = true) (hk : 10 ≤ k) : digM k c = true := by
  rcases h with h | h <;> simp [digM, h, hk]
theorem digM_na {k c : Int} (h : (digI k == c) = false) (hk : ¬ 10 ≤ k) : digM k c = false := by simp [digM, h, hk]
theorem digM_nb {k c : Int} (h : (digI k == c) = false ∧ (digI k + 32 == c) = false) : digM k c = false := by simp [digM, h.1, h.2]
theorem hexV_dig (k : Int) (h0 : 0 ≤ k) (h1 : k ≤ 15) : hexV (digI k) = k ∧ hexO (digI k) = true :=
  digM_hit k _ h0 h1 (by simp [digM])

/-- An octet's escape behind a text. -/
def escI (xs : List Int) (sign c : Int) : List Int := xs ++ [sign, digI (c / 16), digI (c % 16)]
/-- The octet of the escape at a place. -/
def takeOk (xs : List Int) (at_ sign : Int) : Bool :=
  decide (0 ≤ at_) && decide (at_ ≤ (xs.length : Int) - 3) && (xs.getD at_.toNat 0 == sign) && hexO (xs.getD (at_.toNat + 1) 0) && hexO (xs.getD (at_.toNat + 2) 0)
def takeV (xs : List Int) (at_ sign : Int) : Int := if takeOk xs at_ sign = true then 16 * hexV (xs.getD (at_.toNat + 1) 0) + hexV (xs.getD (at_.toNat + 2) 0) else 0

/-- Two digits of each octet. -/
def layH (xs : List Int) : List Int := xs.flatMap fun x => [digI (x / 16), digI (x % 16)]
theorem layH_snoc (xs : List Int) (x : Int) : layH (xs ++ [x]) = layH xs ++ [digI (x / 16), digI (x % 16)] := by simp [layH]
theorem layH_len (xs : List Int) : (layH xs).length = 2 * xs.length := by
  induction xs with
  | nil => rfl
  | cons x xs ih => simp only [layH, List.flatMap_cons, List.length_append, List.length_cons, List.length_nil] at ih ⊢; omega

/-- The octets of digits. -/
def pairs : List Int → List Int
  | a :: b :: r => (16 * hexV a + hexV b) :: pairs r
  | _ => []
theorem pairs_snoc : ∀ (n : Nat) (l : List Int) (a b : Int), l.length = 2 * n → pairs (l ++ [a, b]) = pairs l ++ [16 * hexV a + hexV b]
  | 0, l, a, b, h => by
    obtain rfl : l = [] := List.eq_nil_of_length_eq_zero (by omega)
    rfl
  | n + 1, l, a, b, h => by
    match l, h with
    | x :: y :: l, h =>
      simp only [List.cons_append, pairs]
      rw [pairs_snoc n l a b (by simp at h; omega)]
theorem pairs_len : ∀ (n : Nat) (l : List Int), l.length = 2 * n → (pairs l).length = n
  | 0, l, h => by
    obtain rfl : l = [] := List.eq_nil_of_length_eq_zero (by omega)
    rfl
  | n + 1, l, h => by
    match l, h with
    | x :: y :: l, h =>
      simp only [pairs, List.length_cons]
      rw [pairs_len n l (by simp at h; omega)]
/-- What reading answers: the octets, the error's number. -/
def readE (xs : List Int) : Int := if xs.all hexO = true then (if xs.length % 2 = 0 then 0 else 4) else 3
def readV (xs : List Int) : List Int := if xs.all hexO = true then (if xs.length % 2 = 0 then pairs xs else []) else []

theorem read_form {xs : List Int} (h : xs.all hexO = false) : readE xs = 3 ∧ readV xs = [] := by simp [readE, readV, h]
theorem read_odd {xs : List Int} (h : xs.all hexO = true) (h2 : xs.length % 2 ≠ 0) : readE xs = 4 ∧ readV xs = [] := by simp [readE, readV, h, h2]
theorem read_ok {xs : List Int} (h : xs.all hexO = true) (h2 : xs.length % 2 = 0) : readE xs = 0 ∧ readV xs = pairs xs := by simp [readE, readV, h, h2]
theorem take_two {xs : List Int} {k : Nat} {x y : Int} (hx : xs.take (k + 1) = xs.take k ++ [x]) (hy : xs.take (k + 1 + 1) = xs.take (k + 1) ++ [y]) : xs.take (k + 2) = xs.take k ++ [x, y] := by
  rw [show k + 2 = k + 1 + 1 by omega, hy, hx]; simp
theorem pairs_next {xs : List Int} {j : Nat} {x y : Int} (hj : 2 * j ≤ xs.length) (hx : xs.take (2 * j + 1) = xs.take (2 * j) ++ [x]) (hy : xs.take (2 * j + 1 + 1) = xs.take (2 * j + 1) ++ [y]) :
    pairs (xs.take (2 * (j + 1))) = pairs (xs.take (2 * j)) ++ [16 * hexV x + hexV y] := by
  rw [show 2 * (j + 1) = 2 * j + 2 by omega, take_two hx hy, pairs_snoc j _ _ _ (by simp; omega)]
theorem pair_wf (x y : Int) : (Lit.int .u8 (16 * hexV x + hexV y)).wf = true := by
  have h1 := hexV_bd x; have h2 := hexV_bd y
  exact mk_u8 (by omega) (by omega)

theorem dig2_wf (x : Int) (h0 : 0 ≤ x) (h1 : x ≤ 255) (y : Int) (hy : y ∈ [digI (x / 16), digI (x % 16)]) : (Lit.int .u8 y).wf = true := by
  simp only [List.mem_cons, List.not_mem_nil, or_false] at hy
  rcases hy with rfl | rfl
  · exact dig_wf _ (by omega) (by omega)
  · exact dig_wf _ (by omega) (by omega)
theorem dig3_wf (s x : Int) (hs : (Lit.int .u8 s).wf = true) (h0 : 0 ≤ x) (h1 : x ≤ 255) (y : Int) (hy : y ∈ [s, digI (x / 16), digI (x % 16)]) : (Lit.int .u8 y).wf = true := by
  rcases List.mem_cons.1 hy with rfl | hy
  · exact hs
  · exact dig2_wf x h0 h1 y hy
theorem take_at {xs : List Int} {k : Nat} {x0 x1 x2 s : Int} (h0 : xs[k]? = some x0) (h1 : xs[k + 1]? = some x1) (h2 : xs[k + 2]? = some x2) :
    takeOk xs k s = ((x0 == s) && hexO x1 && hexO x2) ∧ takeV xs k s = if ((x0 == s) && hexO x1 && hexO x2) = true then 16 * hexV x1 + hexV x2 else 0 := by
  have hl : k + 2 < xs.length := (List.getElem?_eq_some_iff.1 h2).1
  have e : takeOk xs k s = ((x0 == s) && hexO x1 && hexO x2) := by
    unfold takeOk
    have e1 : decide ((k : Int) ≤ (xs.length : Int) - 3) = true := decide_eq_true (by omega)
    have e2 : decide (0 ≤ (k : Int)) = true := decide_eq_true (by omega)
    rw [e1, e2, Int.toNat_natCast]
    simp [List.getD_eq_getElem?_getD, h0, h1, h2]
  refine ⟨e, ?_⟩
  unfold takeV
  rw [e]
  simp [List.getD_eq_getElem?_getD, h1, h2]
theorem take_out {xs : List Int} {k s : Int} (h : k < 0 ∨ (xs.length : Int) - 3 < k) : takeOk xs k s = false ∧ takeV xs k s = 0 := by
  have e : takeOk xs k s = false := by
    unfold takeOk
    rcases h with h | h
    · simp [show ¬ 0 ≤ k by omega]
    · simp [show ¬ k ≤ (xs.length : Int) - 3 by omega]
  exact ⟨e, by unfold takeV; simp [e]⟩

end Go.Proofs.Ytdipabcoeloeoaa
