/-
  Texts of ours laid together: D13.
-/
import Derived.Test.YtefhddbbiheadaaGreatZ6

/-! D13 -/
namespace Go.Proofs.YtefhddbbiheadaaGreat
open Go.RowKit
set_option linter.unusedVariables false

/-- A sign's octets in charset n (none: it has it not); a text's, and the error; the text of octets. -/
def octR (n c : Int) : List Int :=
  if hasR n c = true then (if n = 1 then [c] else if n = 2 then [putI sg08 c] else if n = 3 then [putI sg09 c] else if n = 4 then [putI sg10 c] else octs c) else []
def octsR (n : Int) (xs : List Int) : List Int := xs.flatMap (octR n)
def layL (n : Int) (xs : List Int) : List Int := if allR n xs = true then octsR n xs else []
def layE (n : Int) (xs : List Int) : Int := if 1 ≤ n ∧ n ≤ 5 then (if xs.all (hasR n) = true then 0 else 9) else 10
def rdR (n x : Int) : Int := if n = 1 ∧ 127 < x then 65533 else if n = 3 then sg09 x else if n = 4 then sg10 x else x
def readR (n : Int) (xs : List Int) : List Int := if n = 5 then txt xs else xs.map (rdR n)
def exactR (n : Int) (xs : List Int) : Bool := decide (layE n (readR n xs) = 0) && decide (layL n (readR n xs) = xs)

theorem octR_no {n c : Int} (h : hasR n c = false) : octR n c = [] := by unfold octR; rw [h]; rfl
theorem octR_len (n c : Int) : (octR n c).length ≤ 4 := by
  unfold octR
  (repeat' split)
  all_goals first | (rw [octs_len]; exact lenI_le c) | simp
theorem octR_pos {n c : Int} (h : hasR n c = true) : 0 < (octR n c).length := by
  unfold octR
  rw [if_pos h]
  (repeat' split)
  · simp
  · simp
  · simp
  · simp
  · rename_i h1 h2 h3 h4
    rw [octs_len, len_pos]
    unfold hasR at h
    rw [if_neg h1, if_neg h2, if_neg h3, if_neg h4] at h
    split at h
    · exact h
    · cases h
theorem octR_wf (n c : Int) : ∀ x ∈ octR n c, (Lit.int .u8 x).wf = true := by
  intro x hx
  unfold octR at hx
  split at hx
  · rename_i h
    (repeat' split at hx)
    · rename_i h1
      subst h1
      unfold hasR at h
      rw [if_pos rfl] at h
      have h' := of_decide_eq_true h
      simp only [List.mem_cons, List.not_mem_nil, or_false] at hx
      subst hx
      exact mk_u8 (by omega) (by omega)
    · simp only [List.mem_cons, List.not_mem_nil, or_false] at hx
      subst hx
      exact put_wf _ _
    · simp only [List.mem_cons, List.not_mem_nil, or_false] at hx
      subst hx
      exact put_wf _ _
    · simp only [List.mem_cons, List.not_mem_nil, or_false] at hx
      subst hx
      exact put_wf _ _
    · exact octs_wf c x hx
  · cases hx
theorem octsR_snoc {n : Int} {xs : List Int} {k : Nat} {x : Int} (h : xs.take (k + 1) = xs.take k ++ [x]) : octsR n (xs.take (k + 1)) = octsR n (xs.take k) ++ octR n x := by
  unfold octsR; rw [h, List.flatMap_append]; simp
theorem octsR_len (n : Int) : ∀ xs : List Int, (octsR n xs).length ≤ 4 * xs.length := by
  intro xs
  induction xs with
  | nil => exact Nat.le_refl _
  | cons x xs ih =>
    have h1 := octR_len n x
    have e : octsR n (x :: xs) = octR n x ++ octsR n xs := by unfold octsR; rw [List.flatMap_cons]
    rw [e, List.length_append, List.length_cons]
    omega
theorem octsR_take (n : Int) (xs : List Int) (k : Nat) : (octsR n (xs.take k)).length ≤ 4 * xs.length := by
  have h1 := octsR_len n (xs.take k)
  have h2 : (xs.take k).length ≤ xs.length := by rw [List.length_take]; omega
  omega
theorem lay_in {n : Int} {xs : List Int} (hn : 1 ≤ n ∧ n ≤ 5) (h : xs.all (hasR n) = true) : layL n xs = octsR n xs ∧ layE n xs = 0 := by
  unfold layL layE allR
  rw [decide_eq_true hn, h, if_pos hn]
  exact ⟨rfl, rfl⟩
theorem lay_no {n : Int} {xs : List Int} (hn : 1 ≤ n ∧ n ≤ 5) (h : xs.all (hasR n) = false) : layL n xs = [] ∧ layE n xs = 9 := by
  unfold layL layE allR
  rw [h, if_pos hn, Bool.and_false]
  exact ⟨rfl, rfl⟩
theorem lay_out {n : Int} {xs : List Int} (hn : ¬ (1 ≤ n ∧ n ≤ 5)) : layL n xs = [] ∧ layE n xs = 10 := by
  unfold layL layE allR
  rw [decide_eq_false hn, if_neg hn]
  exact ⟨rfl, rfl⟩
theorem layE_zero {n : Int} {xs : List Int} (h : layE n xs = 0) : (1 ≤ n ∧ n ≤ 5) ∧ xs.all (hasR n) = true := by
  unfold layE at h
  split at h
  · rename_i hn
    split at h
    · rename_i ha
      exact ⟨hn, ha⟩
    · omega
  · omega
theorem layE_nz {n : Int} {xs : List Int} (h : layE n xs ≠ 0) : layL n xs = [] := by
  by_cases hn : 1 ≤ n ∧ n ≤ 5
  · cases ha : xs.all (hasR n)
    · exact (lay_no hn ha).1
    · exact absurd (lay_in hn ha).2 h
  · exact (lay_out hn).1
theorem sel_all {xs : List Int} (h : selN xs ≠ 0) : (1 ≤ selN xs ∧ selN xs ≤ 5) ∧ xs.all (hasR (selN xs)) = true := by
  obtain ⟨k, hk, e, hf, _⟩ := first1_some h
  have e' : selN xs = (k : Int) + 1 := e
  rw [e']
  refine ⟨by omega, ?_⟩
  have := hf
  simpa [allR] using this
theorem layL_len (n : Int) (xs : List Int) : (layL n xs).length ≤ 4 * xs.length := by
  unfold layL
  split
  · exact octsR_len n xs
  · exact Nat.zero_le _
theorem rdR_wf (n x : Int) (h0 : 0 ≤ x) (h1 : x ≤ 255) : (Lit.int .i32 (rdR n x)).wf = true := by
  unfold rdR
  (repeat' split)
  · decide
  · exact sg09_wf x h0 h1
  · exact sg10_wf x h0 h1
  · exact mk_r (by omega) (by omega)
theorem readR_len (n : Int) (xs : List Int) : (readR n xs).length ≤ xs.length := by
  unfold readR
  split
  · rw [txt_len]; exact sigs_len xs
  · simp
theorem readR_same {n : Int} (h : n ≠ 5) (xs : List Int) : (readR n xs).length = xs.length := by
  unfold readR
  rw [if_neg h]; simp
theorem sg09_sc : ∀ n : Fin 256, scB (sg09 (n.val : Int)) = true := by decide +kernel
theorem sg10_sc : ∀ n : Fin 256, scB (sg10 (n.val : Int)) = true := by decide +kernel
theorem rdR_sc (n x : Int) (h0 : 0 ≤ x) (h1 : x ≤ 255) : scB (rdR n x) = true := by
  have e : ((x.toNat : Nat) : Int) = x := by omega
  have h9 := sg09_sc ⟨x.toNat, by omega⟩
  have h10 := sg10_sc ⟨x.toNat, by omega⟩
  simp only [e] at h9 h10
  unfold rdR
  (repeat' split)
  · decide
  · exact h9
  · exact h10
  · exact (scB_iff x).2 (by omega)
/-- What is read has signs alone (P13.4). -/
theorem readR_sc (n : Int) {xs : List Int} (hb : ∀ x ∈ xs, 0 ≤ x ∧ x ≤ 255) : (readR n xs).all scB = true := by
  unfold readR
  split
  · exact txt_sc xs hb
  · rw [List.all_map, List.all_eq_true]
    exact fun x hx => rdR_sc n x (hb x hx).1 (hb x hx).2
/-- What is laid is read (P13.3). -/
theorem octR_one {n c : Int} (hn : 1 ≤ n ∧ n ≤ 4) (h : hasR n c = true) : ∃ x, octR n c = [x] ∧ rdR n x = c ∧ 0 ≤ x ∧ x ≤ 255 := by
  unfold octR
  rw [if_pos h]
  have hh := h
  unfold hasR at hh
  by_cases h1 : n = 1
  · subst h1
    rw [if_pos rfl] at hh
    have h' := of_decide_eq_true hh
    refine ⟨c, if_pos rfl, ?_, h'.1, by omega⟩
    unfold rdR
    rw [if_neg (by omega), if_neg (by omega), if_neg (by omega)]
  rw [if_neg h1] at hh ⊢
  by_cases h2 : n = 2
  · subst h2
    rw [if_pos rfl] at hh
    refine ⟨putI sg08 c, if_pos rfl, ?_, (put_bd _ _).1, (put_bd _ _).2⟩
    unfold rdR
    rw [if_neg (by omega), if_neg (by omega), if_neg (by omega)]
    have := (put_sg hh).1
    exact this
  rw [if_neg h2] at hh ⊢
  by_cases h3 : n = 3
  · subst h3
    rw [if_pos rfl] at hh
    refine ⟨putI sg09 c, if_pos rfl, ?_, (put_bd _ _).1, (put_bd _ _).2⟩
    unfold rdR
    rw [if_neg (by omega), if_pos rfl]
    exact (put_sg hh).1
  rw [if_neg h3] at hh ⊢
  obtain rfl : n = 4 := by omega
  rw [if_pos rfl] at hh
  refine ⟨putI sg10 c, if_pos rfl, ?_, (put_bd _ _).1, (put_bd _ _).2⟩
  unfold rdR
  rw [if_neg (by omega), if_neg (by omega), if_pos rfl]
  exact (put_sg hh).1
theorem hasR_5 : hasR 5 = scB := by funext c; rfl
theorem octsR_5 {xs : List Int} (h : xs.all scB = true) : octsR 5 xs = octL xs := by
  unfold octsR octL
  induction xs with
  | nil => rfl
  | cons x xs ih =>
    simp only [List.all_cons, Bool.and_eq_true] at h
    have e : octR 5 x = octs x := by
      unfold octR
      rw [show hasR 5 x = true from h.1, if_pos rfl, if_neg (by omega), if_neg (by omega), if_neg (by omega), if_neg (by omega)]
    rw [List.flatMap_cons, List.flatMap_cons, e, ih h.2]
theorem read_laid {n : Int} {xs : List Int} (hn : 1 ≤ n ∧ n ≤ 5) (h : xs.all (hasR n) = true) : readR n (octsR n xs) = xs ∧ (n ≠ 5 → (octsR n xs).length = xs.length) := by
  by_cases h5 : n = 5
  · subst h5
    rw [hasR_5] at h
    unfold readR
    rw [if_pos rfl, octsR_5 h]
    exact ⟨txt_laid h, fun h => absurd rfl h⟩
  · unfold readR
    rw [if_neg h5]
    have key : (octsR n xs).map (rdR n) = xs ∧ (octsR n xs).length = xs.length := by
      unfold octsR
      induction xs with
      | nil => exact ⟨rfl, rfl⟩
      | cons x xs ih =>
        simp only [List.all_cons, Bool.and_eq_true] at h
        obtain ⟨y, e1, e2, _, _⟩ := octR_one (n := n) (by omega) h.1
        have i := ih h.2
        rw [List.flatMap_cons, e1]
        refine ⟨?_, by simp [i.2]⟩
        simp [e2, i.1]
    exact ⟨key.1, fun _ => key.2⟩
/-- .. and exact. -/
theorem exact_laid {n : Int} {xs : List Int} (hn : 1 ≤ n ∧ n ≤ 5) (h : xs.all (hasR n) = true) : exactR n (octsR n xs) = true := by
  unfold exactR
  rw [(read_laid hn h).1, (lay_in hn h).1, (lay_in hn h).2]
  simp
end Go.Proofs.YtefhddbbiheadaaGreat
