/-
  Layer 16, in plain words: what is laid in lines is right, and is read both ways.
-/
import Derived.Test.YtkfmalajapojhaaD16
namespace Go.Proofs.Ytkfmalajapojhaa
open Go.RowKit
set_option linter.unusedVariables false

theorem chk_piece : ∀ (l r : List Int) (m : Nat) (code : List Int), (∀ x ∈ l, x ≠ 13) → m + l.length ≤ 76 → chk (l ++ r) m code = chk r (m + l.length) (code ++ l) := by
  intro l
  induction l with
  | nil => intro r m code _ _; simp
  | cons x l ih =>
    intro r m code h hm
    simp only [List.length_cons] at hm
    rw [List.cons_append, chk_on (fun hh => h x (by simp) hh.1), if_neg (by omega), ih r (m + 1) (code ++ [x]) (fun y hy => h y (by simp [hy])) (by omega)]
    rw [show m + 1 + l.length = m + (x :: l).length by simp only [List.length_cons]; omega, List.append_assoc]
    rfl
theorem chk_fullW (c : List Int) (hc : ∀ x ∈ c, x ≠ 13) : ∀ (k : Nat) (r : List Int), (k = 0 ∨ (k - 1) * 76 < c.length) → chk (fullW c k ++ r) 0 [] = chk r 0 (c.take (k * 76)) := by
  intro k
  induction k with
  | zero => intro r _; simp [fullW]
  | succ k ih =>
    intro r hk
    have hlt : k * 76 < c.length := by omega
    have hne : 0 < ((c.drop (k * 76)).take 76).length := by rw [List.length_take, List.length_drop]; omega
    have hle : ((c.drop (k * 76)).take 76).length ≤ 76 := by rw [List.length_take]; omega
    rw [fullW_succ, List.append_assoc, ih _ (by omega), List.append_assoc, chk_piece _ _ _ _ (fun x hx => hc x (List.mem_of_mem_drop (List.mem_of_mem_take hx))) (by omega)]
    show chk (13 :: 10 :: r) _ _ = _
    rw [chk_line ⟨rfl, rfl⟩, if_neg (by omega)]
    congr 1
    rw [Nat.add_mul, Nat.one_mul, List.take_add]
/-- The lines of a right code are right. -/
theorem chk_wrap {c : List Int} (hc : ∀ x ∈ c, x ≠ 13) (h0 : codE c = 0) : chkE (wrapL c) = 0 ∧ chkL (wrapL c) = c := by
  have h := chk_fullW c hc ((c.length + 75) / 76) [] (by omega)
  rw [List.append_nil, List.take_of_length_le (by omega)] at h
  have e : chk (wrapL c) 0 [] = (c, 0) := by
    unfold wrapL
    rw [h, chk, if_neg (by omega), if_pos h0]
  unfold chkE chkL
  rw [e]
  exact ⟨rfl, rfl⟩
/-- What the lines' ends are plays no part when it is read loosely. -/
theorem chk_dig : ∀ (n : Nat) (s : List Int) (m : Nat) (code : List Int), s.length ≤ n → (chk s m code).2 = 0 → ∃ t, (chk s m code).1 = code ++ t ∧ (s.takeWhile noEq).filter isDig = (t.takeWhile noEq).filter isDig ∧ codE (code ++ t) = 0 := by
  have d13 : isDig 13 = false := by decide +kernel
  have d10 : isDig 10 = false := by decide +kernel
  have n13 : noEq 13 = true := by decide
  have n10 : noEq 10 = true := by decide
  intro n
  induction n with
  | zero =>
    intro s m code hs h
    obtain rfl : s = [] := List.length_eq_zero_iff.1 (by omega)
    rw [chk] at h ⊢
    split at h
    · simp at h
    · rename_i h1
      split at h
      · rename_i h2
        rw [if_neg h1, if_pos h2]
        exact ⟨[], by simp, rfl, by simpa using h2⟩
      · rename_i h2
        exact absurd h h2
  | succ n ih =>
    intro s m code hs h
    cases s with
    | nil => exact ih [] m code (by simp) h
    | cons x r =>
      by_cases hcr : x = 13 ∧ r.head? = some 10
      · obtain ⟨rfl, hh⟩ := hcr
        cases r with
        | nil => simp at hh
        | cons y r =>
          simp only [List.head?_cons, Option.some.injEq] at hh
          subst hh
          rw [chk_line ⟨rfl, rfl⟩] at h ⊢
          by_cases hm : m = 0
          · rw [if_pos hm] at h; simp at h
          · rw [if_neg hm] at h ⊢
            simp only [List.length_cons] at hs
            obtain ⟨t, h1, h2, h3⟩ := ih r 0 code (by omega) h
            refine ⟨t, h1, ?_, h3⟩
            rw [← h2, List.takeWhile_cons, if_pos n13, List.takeWhile_cons, if_pos n10, List.filter_cons, if_neg (by rw [d13]; decide), List.filter_cons, if_neg (by rw [d10]; decide)]
      · rw [chk_on hcr] at h ⊢
        by_cases hm : 76 < m + 1
        · rw [if_pos hm] at h; simp at h
        · rw [if_neg hm] at h ⊢
          simp only [List.length_cons] at hs
          obtain ⟨t, h1, h2, h3⟩ := ih r (m + 1) (code ++ [x]) (by omega) h
          rw [List.append_assoc] at h1 h3
          refine ⟨x :: t, h1, ?_, h3⟩
          rw [List.takeWhile_cons, List.takeWhile_cons]
          split
          · rw [List.filter_cons, List.filter_cons, h2]
          · rfl
theorem loo_chk {s : List Int} (h : chkE s = 0) : looL s = codL (chkL s) ∧ codE (chkL s) = 0 := by
  obtain ⟨t, h1, h2, h3⟩ := chk_dig s.length s 0 [] (Nat.le_refl _) h
  have e : chkL s = t := by unfold chkL; simpa using h1
  have hd : digL s = digL t := by unfold digL cutEq; exact h2
  have h3' : codE t = 0 := by simpa using h3
  rw [e]
  exact ⟨by rw [← (loo_cod h3').1]; unfold looL; rw [hd], h3'⟩
theorem lay_no13 {xs : List Int} (h : ∀ x ∈ xs, O8 x) : ∀ x ∈ layB xs, x ≠ 13 := by
  intro x hx
  unfold layB fill4 at hx
  rw [List.mem_append] at hx
  rcases hx with hx | hx
  · unfold bareB at hx
    obtain ⟨v, hv, rfl⟩ := List.mem_map.1 hx
    have := dig_bd (v64_bd xs h v hv)
    omega
  · rw [List.eq_of_mem_replicate hx]; decide
theorem wrap_back {xs : List Int} (h : ∀ x ∈ xs, O8 x) : chkE (wrapL (layB xs)) = 0 ∧ chkL (wrapL (layB xs)) = layB xs ∧ looL (wrapL (layB xs)) = xs := by
  have h1 := cod_lay h
  have h2 := chk_wrap (lay_no13 h) h1.1
  refine ⟨h2.1, h2.2, ?_⟩
  rw [(loo_chk h2.1).1, h2.2, h1.2]

/-! ### each line -/
theorem fullW_lenE (c : List Int) (k : Nat) (h : k * 76 ≤ c.length) : (fullW c k).length = k * 78 := by
  induction k with
  | zero => rfl
  | succ k ih =>
    rw [fullW_succ, List.length_append, List.length_append, List.length_take, List.length_drop, ih (by omega)]
    simp only [List.length_cons, List.length_nil]
    omega
theorem fullW_more (c : List Int) (k d : Nat) : ∃ r, fullW c (k + d) = fullW c k ++ r := by
  induction d with
  | zero => exact ⟨[], by simp⟩
  | succ d ih =>
    obtain ⟨r, hr⟩ := ih
    exact ⟨r ++ ((c.drop ((k + d) * 76)).take 76 ++ [13, 10]), by rw [← Nat.add_assoc, fullW_succ, hr, List.append_assoc]⟩
/-- Where line j begins in the lines, and what stands there. -/
theorem wrap_at (c : List Int) (j : Nat) (hj : j < (c.length + 75) / 76) : ∃ r, wrapL c = fullW c j ++ ((c.drop (j * 76)).take 76 ++ 13 :: 10 :: r) ∧ (fullW c j).length = j * 78 ∧ (r = [] ↔ j + 1 = (c.length + 75) / 76) := by
  obtain ⟨d, hd⟩ : ∃ d, (c.length + 75) / 76 = j + 1 + d := ⟨(c.length + 75) / 76 - (j + 1), by omega⟩
  obtain ⟨r, hr⟩ := fullW_more c (j + 1) d
  refine ⟨r, ?_, fullW_lenE c j (by omega), ?_⟩
  · unfold wrapL
    rw [hd, hr, fullW_succ, List.append_assoc, List.append_assoc]; rfl
  · cases d with
    | zero =>
      have : r = [] := by
        have h := congrArg List.length hr
        rw [List.length_append] at h
        exact List.length_eq_zero_iff.1 (by simp only [Nat.add_zero] at h; omega)
      exact ⟨fun _ => by omega, fun _ => this⟩
    | succ d =>
      refine ⟨fun h => ?_, fun h => by omega⟩
      exfalso
      subst h
      have h := congrArg List.length hr
      obtain ⟨r2, hr2⟩ := fullW_more c (j + 1 + 1) d
      rw [show j + 1 + (d + 1) = j + 1 + 1 + d by omega, hr2, List.append_nil, fullW_succ c (j + 1)] at h
      simp only [List.length_append, List.length_cons, List.length_nil] at h
      omega
theorem wrap_len (c : List Int) : (wrapL c).length = c.length + 2 * ((c.length + 75) / 76) := by
  by_cases h : c.length % 76 = 0
  · unfold wrapL
    rw [fullW_lenE c _ (by omega)]; omega
  · unfold wrapL
    rw [show (c.length + 75) / 76 = c.length / 76 + 1 by omega, fullW_succ, List.length_append, fullW_lenE c _ (by omega), List.length_append, List.length_take, List.length_drop]
    simp only [List.length_cons, List.length_nil]
    omega
theorem chk_le : ∀ (n : Nat) (s : List Int) (m : Nat) (c : List Int), s.length ≤ n → (chk s m c).1.length ≤ c.length + s.length := by
  intro n
  have nil : ∀ (m : Nat) (c : List Int), (chk [] m c).1.length ≤ c.length + 0 := by
    intro m c
    unfold chk
    split
    · simp
    · split <;> simp
  induction n with
  | zero =>
    intro s m c h
    obtain rfl : s = [] := List.eq_nil_of_length_eq_zero (by omega)
    exact nil m c
  | succ n ih =>
    intro s m c h
    match s with
    | [] => exact nil m c
    | [x] => unfold chk; split <;> simp
    | x :: y :: r =>
      simp only [List.length_cons] at h ⊢
      unfold chk
      split
      · split
        · simp
        · have := ih r 0 c (by omega)
          omega
      · split
        · simp
        · have := ih (y :: r) (m + 1) (c ++ [x]) (by simp only [List.length_cons]; omega)
          simp only [List.length_append, List.length_cons, List.length_nil] at this
          omega
theorem chkL_le (xs : List Int) : (chkL xs).length ≤ xs.length := by
  have := chk_le _ xs 0 [] (Nat.le_refl _)
  simpa [chkL] using this
end Go.Proofs.Ytkfmalajapojhaa
