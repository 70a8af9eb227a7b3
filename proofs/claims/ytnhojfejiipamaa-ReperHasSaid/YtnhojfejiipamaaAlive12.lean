/-
  The law package's own 'alive' of layer 12 answers true; what its statements lean on.
-/
import Derived.Test.YtnhojfejiipamaaC12
namespace Go.Proofs.Ytnhojfejiipamaa
open Go.RowKit
set_option linter.unusedVariables false

theorem v12_a : selN [233, 8364] = 3 ∧ selE [233, 8364] = 0 := by decide +kernel
theorem v12_b : selN [233, 8220] = 4 ∧ selE [233, 8220] = 0 := by decide +kernel
theorem v12_c : selN [] = 1 ∧ selE [] = 0 := by decide +kernel
theorem v12_l : first1 (fun n => hasR n 945) 5 = 5 := by decide +kernel
theorem al12_a (w : World) : Calls Try.prog 14 #[.slice (some ⟨w.heap.size, 0, none⟩) 2 2] (w.alloc (.cells #[.int .i32 233, .int .i32 8364] 21)) fun e w' => e = .returned (.tuple #[.int .i64 3, .int .i64 0]) ∧ Below w.heap.size w w' := by
  have h1 := reper_Select _ 2 2 _ _ (Reads.lit .i32 21 w [233, 8364] (by decide) (by decide))
  rw [v12_a.1, v12_a.2] at h1
  refine h1.mono ?_
  rintro e w' ⟨rfl, hb⟩
  exact ⟨rfl, ((Below.refl _ _).alloc (Nat.le_refl _) _).trans (hb.mono (by simp))⟩
theorem al12_b (w : World) : Calls Try.prog 14 #[.slice (some ⟨w.heap.size, 0, none⟩) 2 2] (w.alloc (.cells #[.int .i32 233, .int .i32 8220] 21)) fun e w' => e = .returned (.tuple #[.int .i64 4, .int .i64 0]) ∧ Below w.heap.size w w' := by
  have h1 := reper_Select _ 2 2 _ _ (Reads.lit .i32 21 w [233, 8220] (by decide) (by decide))
  rw [v12_b.1, v12_b.2] at h1
  refine h1.mono ?_
  rintro e w' ⟨rfl, hb⟩
  exact ⟨rfl, ((Below.refl _ _).alloc (Nat.le_refl _) _).trans (hb.mono (by simp))⟩
theorem al12_c (w : World) : Calls Try.prog 14 #[.slice none 0 0] w fun e w' => e = .returned (.tuple #[.int .i64 1, .int .i64 0]) ∧ Below w.heap.size w w' := by
  have h1 := reper_Select none 0 0 [] w (Reads.nil _ _ _ _ (Nat.zero_le _))
  rwa [v12_c.1, v12_c.2] at h1
theorem al12_l (w : World) : Calls Try.prog 12 #[.int .i32 945] w fun e w' => e = .returned (.int .i64 5) ∧ Below w.heap.size w w' := by
  have h1 := reper_Least 945 w (by decide)
  rwa [v12_l] at h1
theorem al12_s (w : World) : Calls Try.prog 20 #[.int .i64 4] w fun e w' => e = .returned (.int .i64 251) ∧ Below w.heap.size w w' := by
  have h1 := reper_Size 4 w
  rwa [show sizeI 4 = 251 by decide] at h1

set_option maxHeartbeats 400000 in
theorem alive12_any (w : World) : Calls Try.prog 13 #[] w fun e w' => e = .returned (.bool true) ∧ Below w.heap.size w w' := by
  go_enter Try.func13, Try.ntmps13
  go_wp2_with (first
    | (go_at_call 14; (with_reducible refine (al12_a w).mono ?_); rintro e w1 ⟨rfl, hb1⟩)
    | (go_at_call 14; (with_reducible refine (al12_b w1).mono ?_); rintro e w2 ⟨rfl, hb2⟩; have hb2' := below_then hb1 hb2)
    | (go_at_call 14; (with_reducible refine (al12_c _).mono ?_); rintro e w3 ⟨rfl, hb3⟩; have hb3' := below_then hb2' hb3)
    | (go_at_call 12; (with_reducible refine (al12_l _).mono ?_); rintro e w4 ⟨rfl, hb4⟩; have hb4' := below_then hb3' hb4)
    | (go_at_call 20; (with_reducible refine (al12_s _).mono ?_); rintro e w5 ⟨rfl, hb5⟩; have hb5' := below_then hb4' hb5))
  go_ret
  exact ⟨rfl, hb5'⟩

theorem sel_one (c : Int) : selN [c] = first1 (fun n => hasR n c) 5 := by unfold selN; simp
theorem sel_right {xs : List Int} (h : xs.all scB = true) : ∃ k : Nat, k < 5 ∧ selN xs = (k : Int) + 1 ∧ selE xs = 0 ∧ xs.all (hasR ((k : Int) + 1)) = true ∧ ∀ j : Nat, j < k → xs.all (hasR ((j : Int) + 1)) = false := by
  have hne : selN xs ≠ 0 := by
    intro h0
    have h4 := first1_zero (f := fun n => xs.all (hasR n)) h0
    have := h4 4 (by omega)
    have e : hasR (((4 : Nat) : Int) + 1) = scB := by funext c; rfl
    rw [e, h] at this
    cases this
  obtain ⟨k, h1, h2, h3, h4⟩ := first1_some (f := fun n => xs.all (hasR n)) hne
  exact ⟨k, h1, h2, (sel_hit h1 h3 h4).2, h3, h4⟩
theorem sel_part {xs : List Int} (h : xs.all scB = true) (p : Nat) : ∃ m : Int, selN (xs.take p) = m ∧ selE (xs.take p) = 0 ∧ m ≤ selN xs ∧ allR (selN xs) (xs.take p) = true := by
  have hp : (xs.take p).all scB = true := by
    rw [List.all_eq_true] at h ⊢
    exact fun x hx => h x (List.mem_of_mem_take hx)
  obtain ⟨k, k1, k2, k3, k4, k5⟩ := sel_right h
  obtain ⟨m, m1, m2, m3, m4, m5⟩ := sel_right hp
  have hk : (xs.take p).all (hasR ((k : Int) + 1)) = true := by
    rw [List.all_eq_true] at k4 ⊢
    exact fun x hx => k4 x (List.mem_of_mem_take hx)
  refine ⟨(m : Int) + 1, m2, m3, ?_, ?_⟩
  · rw [k2]
    refine Classical.byContradiction fun hc => ?_
    have := m5 k (by omega)
    rw [hk] at this
    cases this
  · rw [k2]
    unfold allR
    rw [decide_eq_true (p := 1 ≤ (k : Int) + 1 ∧ (k : Int) + 1 ≤ 5) (by omega), hk]
    rfl
end Go.Proofs.Ytnhojfejiipamaa
