/-
  Layer 19, in plain words: as the program goes (line by line, from break to break; each place where an escape begins).
-/
import Derived.Test.YtldmoopdffenfaaDoorD19
import Derived.Test.YtldmoopdffenfaaDoorD18d
import Derived.Test.YtldmoopdffenfaaDoorD19b
import Derived.Test.YtldmoopdffenfaaDoorRep
namespace Go.Proofs.YtldmoopdffenfaaDoor
open Go.RowKit
set_option linter.unusedVariables false

/-! ### where a line ends -/
def brkB (x : Int) : Bool := decide (x = 13 ∨ x = 10)
def nobB (x : Int) : Bool := !brkB x
/-- How long the first line is. -/
def lnN (xs : List Int) : Nat := (xs.takeWhile nobB).length
theorem lnN_le (xs : List Int) : lnN xs ≤ xs.length := (List.takeWhile_sublist _).length_le
theorem lnN_take (xs : List Int) : xs.take (lnN xs) = xs.takeWhile nobB := by
  unfold lnN
  induction xs with
  | nil => rfl
  | cons x xs ih =>
    by_cases h : nobB x = true
    · rw [List.takeWhile_cons_of_pos h, List.length_cons, List.take_succ_cons, ih]
    · rw [List.takeWhile_cons_of_neg h]; rfl
theorem lnN_no (xs : List Int) : ∀ x ∈ xs.take (lnN xs), x ≠ 13 ∧ x ≠ 10 := by
  rw [lnN_take]
  intro x hx
  have := List.all_takeWhile (l := xs) (p := nobB)
  have := List.all_eq_true.1 this x hx
  simpa [nobB, brkB] using this
/-- The place of the first break's first octet; or there is none. -/
theorem idx_brk : ∀ xs : List Int, (idxI brkB xs = -1 ∧ lnN xs = xs.length) ∨ (idxI brkB xs = lnN xs ∧ lnN xs < xs.length ∧ ∃ c r, xs.drop (lnN xs) = c :: r ∧ (c = 13 ∨ c = 10))
  | [] => .inl ⟨rfl, rfl⟩
  | x :: xs => by
    have ih := idx_brk xs
    rw [idx_cons]
    cases hb : brkB x
    · have e : lnN (x :: xs) = lnN xs + 1 := by
        unfold lnN
        rw [List.takeWhile_cons_of_pos (by unfold nobB; rw [hb]; rfl)]; rfl
      rw [e, if_neg (by decide)]
      rcases ih with ⟨h1, h2⟩ | ⟨h1, h2, c, r, h3, h4⟩
      · exact .inl ⟨by rw [if_pos h1], by rw [h2]; rfl⟩
      · refine .inr ⟨by rw [if_neg (by omega), h1]; rfl, by simpa using h2, c, r, by rw [List.drop_succ_cons]; exact h3, h4⟩
    · have e : lnN (x :: xs) = 0 := by
        unfold lnN
        rw [List.takeWhile_cons_of_neg (by unfold nobB; rw [hb]; decide)]; rfl
      rw [e, if_pos rfl]
      exact .inr ⟨rfl, by simp, x, xs, rfl, of_decide_eq_true hb⟩
/-- How long the break is behind the first line (0: none). -/
def brN (xs : List Int) : Nat := brkN (xs.drop (lnN xs))
theorem brN_le (xs : List Int) : lnN xs + brN xs ≤ xs.length := by
  have h1 := lnN_le xs
  have h2 := brkN_le (xs.drop (lnN xs))
  rw [List.length_drop] at h2
  unfold brN
  omega
theorem lnbr_pos {xs : List Int} (h : 0 < xs.length) : 0 < lnN xs + brN xs := by
  rcases idx_brk xs with ⟨h1, h2⟩ | ⟨_, _, c, r, h3, h4⟩
  · omega
  · unfold brN
    rw [h3, brkN_cons]
    by_cases h5 : c = 13 ∧ r.head? = some 10
    · rw [if_pos h5]; omega
    · rw [if_neg h5, if_pos h4]; omega
/-- What the first line, and its break, leave. -/
def lnR (l e : List Int) : List Int := lineR l ++ (if softB l = true then [] else e)
theorem readS_line (xs : List Int) : readS xs = lnR (xs.take (lnN xs)) ((xs.drop (lnN xs)).take (brN xs)) ++ readS (xs.drop (lnN xs + brN xs)) ∧ strS xs = lineN (xs.take (lnN xs)) + strS (xs.drop (lnN xs + brN xs)) := by
  have hno := lnN_no xs
  have hap := rdS_app (xs.take (lnN xs)) (xs.drop (lnN xs)) [] hno
  rw [List.take_append_drop, List.nil_append] at hap
  unfold readS strS lnR
  rw [hap.1, hap.2]
  obtain ⟨l, hl⟩ : ∃ l, l = xs.take (lnN xs) := ⟨_, rfl⟩
  rw [← hl]
  rcases idx_brk xs with ⟨h1, h2⟩ | ⟨_, hlt, c, r, h3, h4⟩
  · have hd : xs.drop (lnN xs) = [] := by rw [h2]; exact List.drop_of_length_le (Nat.le_refl _)
    have hd2 : xs.drop (lnN xs + brN xs) = [] := List.drop_of_length_le (by omega)
    rw [hd, hd2]
    have h0 : lineR [] = [] := rfl
    have h0' : lineN [] = 0 := rfl
    simp [rdS, stS, h0, h0']
  · have hd2 : xs.drop (lnN xs + brN xs) = (c :: r).drop (brN xs) := by rw [← List.drop_drop, h3]
    have hb : brN xs = brkN (c :: r) := by unfold brN; rw [h3]
    rw [hd2, hb, h3, rdS, stS, if_pos h4, if_pos h4]
    unfold brk19
    by_cases h2 : c = 13 ∧ r.head? = some 10
    · obtain ⟨rfl, hr⟩ := h2
      cases r with
      | nil => cases hr
      | cons y r =>
        simp only [List.head?_cons, Option.some.injEq] at hr
        subst hr
        have ht : two19 13 (10 :: r) = true := rfl
        rw [ht, rdS_skip, stS_skip, brkN_cons, if_pos (show (13 : Int) = 13 ∧ (10 :: r).head? = some (10 : Int) from ⟨rfl, rfl⟩)]
        cases softB l <;> simp
    · have ht : two19 c r = false := decide_eq_false h2
      rw [ht, brkN_cons, if_neg h2, if_pos h4]
      cases softB l <;> simp
/-- The lines from a place on: where each begins, how long it is, how long its break is. -/
def pcsN (xs : List Int) : Nat → Nat → List (Nat × Nat × Nat)
  | 0, _ => []
  | k + 1, p => if xs.length ≤ p then [] else (p, lnN (xs.drop p), brN (xs.drop p)) :: pcsN xs k (p + (lnN (xs.drop p) + brN (xs.drop p)))
def linePc (xs : List Int) (x : Nat × Nat × Nat) : List Int := (xs.drop x.1).take x.2.1
def brkPc (xs : List Int) (x : Nat × Nat × Nat) : List Int := (xs.drop (x.1 + x.2.1)).take x.2.2
theorem pcs_read (xs : List Int) : ∀ (k p : Nat), xs.length ≤ p + k → (pcsN xs k p).flatMap (fun x => lnR (linePc xs x) (brkPc xs x)) = readS (xs.drop p) ∧ ((pcsN xs k p).map (fun x => lineN (linePc xs x))).sum = strS (xs.drop p)
  | 0, p, h => by
    rw [List.drop_of_length_le (by omega)]
    exact ⟨rfl, rfl⟩
  | k + 1, p, h => by
    rw [pcsN]
    by_cases hp : xs.length ≤ p
    · rw [if_pos hp, List.drop_of_length_le hp]
      exact ⟨rfl, rfl⟩
    · rw [if_neg hp]
      have hl := readS_line (xs.drop p)
      have hpos := lnbr_pos (xs := xs.drop p) (by rw [List.length_drop]; omega)
      have ih := pcs_read xs k (p + (lnN (xs.drop p) + brN (xs.drop p))) (by omega)
      rw [List.drop_drop, List.drop_drop] at hl
      rw [List.flatMap_cons, List.map_cons, List.sum_cons, ih.1, ih.2, hl.1, hl.2]
      exact ⟨rfl, rfl⟩

/-! ### how many escapes there are -/
def escN : List Int → Nat
  | [] => 0
  | x :: r => (if (escP 61 (x :: r)).isSome = true then 1 else 0) + escN r
theorem hexO_ne {c : Int} (h : hexO c = true) : c ≠ 61 := by
  rintro rfl
  revert h
  decide +kernel
theorem escN_st : ∀ (n : Nat) (xs : List Int), xs.length ≤ n → cntO 61 xs = escN xs + stE 61 xs 0 := by
  intro n
  induction n with
  | zero =>
    intro xs h
    obtain rfl : xs = [] := List.eq_nil_of_length_eq_zero (by omega)
    rfl
  | succ n ih =>
    intro xs h
    match xs with
    | [] => rfl
    | x :: r =>
      simp only [List.length_cons] at h
      have hc : ∀ (y : Int) (l : List Int), cntO 61 (y :: l) = (if y = 61 then 1 else 0) + cntO 61 l := by
        intro y l
        unfold cntO
        by_cases hy : y = 61
        · simp [hy]; omega
        · simp [hy]
      cases he : escP 61 (x :: r) with
      | none =>
        rw [stE_on he, escN, he, hc, ih r (by omega)]
        simp; omega
      | some v =>
        obtain ⟨_, _, x', a, b, r', hxs, hx⟩ := escP_bd he
        cases hxs
        subst hx
        have hh : hexO a = true ∧ hexO b = true := by
          rw [escP] at he
          split at he
          · rename_i h; exact h.2
          · cases he
        have ha := hexO_ne hh.1
        have hb := hexO_ne hh.2
        have i2 := ih r' (by simp only [List.length_cons] at h; omega)
        rw [stE_esc he, escN, he, escN, escP_ne ha, escN, escP_ne hb, hc, hc, hc, if_pos rfl, if_neg ha, if_neg hb]
        simp only [List.drop_succ_cons, List.drop_zero, Option.isSome_some, Option.isSome_none, if_true, Bool.false_eq_true, if_false]
        omega
theorem lineN_is (l : List Int) : (cntO 61 (lineB l) : Int) - escN (lineB l) = lineN l := by
  have := escN_st _ (lineB l) (Nat.le_refl _)
  unfold lineN
  omega
theorem escN_le : ∀ xs : List Int, escN xs ≤ xs.length
  | [] => Nat.le_refl _
  | x :: r => by
    have := escN_le r
    rw [escN, List.length_cons]
    split <;> omega

/-! ### what a line keeps is its beginning -/
theorem trimE_pre : ∀ l : List Int, trimE l = l.take (trimE l).length
  | [] => rfl
  | x :: l => by
    have ih := trimE_pre l
    rw [trimE]
    split
    · split <;> simp
    · rename_i h
      rw [List.length_cons, List.take_succ_cons, ← ih]
theorem lineB_pre (l : List Int) : lineB l = l.take (lineB l).length := by
  have h := trimE_pre l
  unfold lineB
  by_cases hs : softB l = true
  · rw [if_pos hs, List.length_dropLast, List.dropLast_eq_take]
    generalize (trimE l).length = n at h ⊢
    rw [h, List.take_take]
    congr 1
    omega
  · rw [if_neg hs]; exact h
end Go.Proofs.YtldmoopdffenfaaDoor
