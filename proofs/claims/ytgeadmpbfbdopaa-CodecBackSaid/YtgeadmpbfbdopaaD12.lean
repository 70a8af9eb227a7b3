/-
  Layer 12, in plain words: which charset a text needs.
-/
import Derived.Test.YtgeadmpbfbdopaaD08
import Derived.Test.YtgeadmpbfbdopaaD09
import Derived.Test.YtgeadmpbfbdopaaD10
import Derived.Test.YtgeadmpbfbdopaaFirst
namespace Go.Proofs.Ytgeadmpbfbdopaa
open Go.RowKit
set_option linter.unusedVariables false

/-- Has the charset n the sign c? -/
def hasR (n c : Int) : Bool := if n = 1 then decide (0 ≤ c ∧ c < 128) else if n = 2 then hasI sg08 c else if n = 3 then hasI sg09 c else if n = 4 then hasI sg10 c else if n = 5 then scB c else false
def allR (n : Int) (xs : List Int) : Bool := decide (1 ≤ n ∧ n ≤ 5) && xs.all (hasR n)
def lackR (n : Int) (xs : List Int) : Int := idxI (fun c => !hasR n c) xs
def selN (xs : List Int) : Int := first1 (fun n => xs.all (hasR n)) 5
def selE (xs : List Int) : Int := if selN xs = 0 then 7 else 0
/-- The sum of 1 shifted left by the number of each charset up to k. -/
def setN (c : Int) : Nat → Int
  | 0 => 0
  | k + 1 => setN c k + if hasR ((k : Int) + 1) c = true then 2 ^ (k + 1) else 0
def sizN (n : Int) : Nat → Nat
  | 0 => 0
  | k + 1 => sizN n k + if hasR n (k : Int) = true then 1 else 0
def sizeI (n : Int) : Int := if n = 1 then 128 else if n = 2 then 256 else if n = 3 then 256 else if n = 4 then 251 else if n = 5 then 1112064 else 0

theorem hasR_none {n : Int} (h : ¬ (1 ≤ n ∧ n ≤ 5)) (c : Int) : hasR n c = false := by
  unfold hasR
  rw [if_neg (by omega), if_neg (by omega), if_neg (by omega), if_neg (by omega), if_neg (by omega)]
theorem sizN_le (n : Int) (k : Nat) : sizN n k ≤ k := by
  induction k with
  | zero => exact Nat.le_refl _
  | succ k ih => unfold sizN; split <;> omega
theorem sizN_len (n : Int) (k : Nat) : sizN n k = ((List.range k).filter (fun j : Nat => hasR n (j : Int))).length := by
  induction k with
  | zero => rfl
  | succ k ih =>
    unfold sizN
    rw [List.range_succ, List.filter_append, List.length_append, ih]
    cases hh : hasR n (k : Int) <;> simp [hh]
/-- As many signs as octets that have one. -/
theorem siz_sg {sg : Int → Int} (ho : Once sg) {M : Nat} (hs : ∀ n : Nat, n < 256 → sg n = 65533 ∨ (0 ≤ sg n ∧ sg n < M)) :
    ((List.range M).filter (fun j : Nat => hasI sg (j : Int))).length = ((List.range 256).filter (fun n : Nat => decide (sg (n : Int) ≠ 65533))).length := by
  have hp : ((List.range M).filter (fun j : Nat => hasI sg (j : Int))).Perm (((List.range 256).filter (fun n : Nat => decide (sg (n : Int) ≠ 65533))).map (fun n : Nat => (sg (n : Int)).toNat)) := by
    refine (List.perm_ext_iff_of_nodup (List.nodup_range.filter _) ?_).2 fun j => ?_
    · rw [List.nodup_iff_pairwise_ne, List.pairwise_map]
      refine List.Pairwise.imp_of_mem ?_ (List.nodup_iff_pairwise_ne.1 (List.nodup_range.filter _))
      intro a b ha hb hne he
      simp only [List.mem_filter, List.mem_range, decide_eq_true_eq] at ha hb
      have h1 := hs a ha.1
      have h2 := hs b hb.1
      have e : sg (a : Int) = sg (b : Int) := by omega
      have e1 := ho a ha.1 ha.2
      have e2 := ho b hb.1 hb.2
      rw [e, e2] at e1
      exact hne (Option.some.inj e1).symm
    · simp only [List.mem_filter, List.mem_range, List.mem_map, decide_eq_true_eq]
      constructor
      · rintro ⟨hj, hh⟩
        unfold hasI at hh
        obtain ⟨n, hn⟩ := Option.isSome_iff_exists.1 hh
        obtain ⟨h1, h2, h3⟩ := put_some hn
        exact ⟨n, ⟨h1, by rw [h2]; exact h3⟩, by rw [h2]; omega⟩
      · rintro ⟨n, ⟨h1, h2⟩, rfl⟩
        have h3 := (hs n h1).resolve_left h2
        refine ⟨by omega, ?_⟩
        rw [Int.toNat_of_nonneg h3.1]
        unfold hasI
        rw [ho n h1 h2]
        rfl
  rw [hp.length_eq, List.length_map]
set_option maxRecDepth 100000 in
theorem sg_small : ∀ n : Fin 256, (0 ≤ sg08 (n.val : Int) ∧ sg08 (n.val : Int) < 8704) ∧ (0 ≤ sg09 (n.val : Int) ∧ sg09 (n.val : Int) < 8704) ∧ (sg10 (n.val : Int) = 65533 ∨ (0 ≤ sg10 (n.val : Int) ∧ sg10 (n.val : Int) < 8704)) := by decide +kernel
theorem sizN_ascii (k : Nat) (h : 128 ≤ k) : sizN 1 k = 128 := by
  have low : ∀ k : Nat, k ≤ 128 → sizN 1 k = k := by
    intro k
    induction k with
    | zero => intro _; rfl
    | succ k ih =>
      intro hk
      unfold sizN
      rw [ih (by omega), if_pos (by unfold hasR; rw [if_pos rfl]; exact decide_eq_true (by omega))]
  induction k with
  | zero => omega
  | succ k ih =>
    by_cases hk : 128 ≤ k
    · unfold sizN
      rw [ih hk, if_neg (by unfold hasR; rw [if_pos rfl]; simp; omega)]
    · rw [low (k + 1) (by omega)]; omega
theorem sizN_none {n : Int} (h : ¬ (1 ≤ n ∧ n ≤ 5)) (k : Nat) : sizN n k = 0 := by
  induction k with
  | zero => rfl
  | succ k ih => unfold sizN; rw [ih, hasR_none h]; rfl
theorem hasR_2 : hasR 2 = hasI sg08 := by funext c; rfl
theorem hasR_3 : hasR 3 = hasI sg09 := by funext c; rfl
theorem hasR_4 : hasR 4 = hasI sg10 := by funext c; rfl
theorem siz_all {n : Int} (h : n ≠ 5) : (sizN n 8704 : Int) = sizeI n := by
  unfold sizeI
  by_cases h1 : n = 1
  · subst h1; rw [sizN_ascii _ (by omega), if_pos rfl]; rfl
  rw [if_neg h1]
  by_cases h2 : n = 2
  · subst h2
    rw [if_pos rfl, sizN_len, hasR_2, siz_sg once08 fun n hn => .inr (sg_small ⟨n, hn⟩).1]
    decide +kernel
  rw [if_neg h2]
  by_cases h3 : n = 3
  · subst h3
    rw [if_pos rfl, sizN_len, hasR_3, siz_sg once09 fun n hn => .inr (sg_small ⟨n, hn⟩).2.1]
    decide +kernel
  rw [if_neg h3]
  by_cases h4 : n = 4
  · subst h4
    rw [if_pos rfl, sizN_len, hasR_4, siz_sg once10 fun n hn => (sg_small ⟨n, hn⟩).2.2]
    decide +kernel
  rw [if_neg h4, if_neg h, sizN_none (by omega)]
  rfl
theorem set_bd (c : Int) : ∀ k : Nat, k ≤ 5 → 0 ≤ setN c k ∧ setN c k ≤ 62 := by
  have h : ∀ k : Nat, 0 ≤ setN c k ∧ setN c k ≤ 2 ^ (k + 1) - 2 := by
    intro k
    induction k with
    | zero => exact ⟨Int.le_refl _, by simp [setN]⟩
    | succ k ih =>
      unfold setN
      have e : (2 : Int) ^ (k + 1 + 1) = 2 * 2 ^ (k + 1) := by rw [Int.pow_succ]; omega
      have p : (0 : Int) < 2 ^ (k + 1) := Int.pow_pos (by decide)
      split <;> omega
  intro k hk
  have h0 := h k
  have : k = 0 ∨ k = 1 ∨ k = 2 ∨ k = 3 ∨ k = 4 ∨ k = 5 := by omega
  rcases this with rfl | rfl | rfl | rfl | rfl | rfl <;> (simp at h0 ⊢; omega)
/-- What the sufficient charset is (P12.3). -/
theorem sel_hit {xs : List Int} {k : Nat} (hk : k < 5) (hb : xs.all (hasR ((k : Int) + 1)) = true) (hn : ∀ j : Nat, j < k → xs.all (hasR ((j : Int) + 1)) = false) : selN xs = (k : Int) + 1 ∧ selE xs = 0 := by
  have h : selN xs = (k : Int) + 1 := first1_hit hk hb hn
  refine ⟨h, ?_⟩
  unfold selE
  rw [h, if_neg (by omega)]
theorem sel_no {xs : List Int} (hn : ∀ j : Nat, j < 5 → xs.all (hasR ((j : Int) + 1)) = false) : selN xs = 0 ∧ selE xs = 7 := by
  have h : selN xs = 0 := first1_no hn
  refine ⟨h, ?_⟩
  unfold selE
  rw [h, if_pos rfl]
end Go.Proofs.Ytgeadmpbfbdopaa
