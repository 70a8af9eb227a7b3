/-
  Contracts of the document's own functions of layer 6 (those that the translation has).
-/
import Derived.Test.YtobjdamlmaaidaaR03
import Derived.Test.YtobjdamlmaaidaaR01
import Derived.Test.YtobjdamlmaaidaaD06
namespace Go.Proofs.Ytobjdamlmaaidaa
open Go.RowKit
set_option linter.unusedVariables false

theorem idx_not_neg6 {xs : List Int} (h : xs.all scB = true) : idxI (fun c => !scB c) xs < 0 := by
  have := idx_neg (fun c => !scB c) xs
  simp only [Bool.not_not] at this
  rw [h] at this; simpa using this
theorem idx_not_pos6 {xs : List Int} (h : xs.all scB = false) : 0 ≤ idxI (fun c => !scB c) xs := by
  have := idx_neg (fun c => !scB c) xs
  simp only [Bool.not_not] at this
  rw [h] at this; simpa using this

theorem drop_at {xs : List Int} {k : Nat} {x : Int} (h : xs[k]? = some x) : xs.drop k = x :: xs.drop (k + 1) := by
  have hk : k < xs.length := (List.getElem?_eq_some_iff.1 h).1
  rw [List.drop_eq_getElem_cons hk, (List.getElem?_eq_some_iff.1 h).2]
theorem ur_one {xs : List Int} {k : Nat} {x : Int} (h : xs[k]? = some x) (hs : surB x = false) : usigs (xs.drop k) = (x, 0) :: usigs (xs.drop (k + 1)) := by
  rw [drop_at h]
  have hh : hiB x = false := by have := hi_lo x; rw [hs] at this; cases hx : hiB x with | false => rfl | true => rw [hx] at this; cases this
  have hp : utP (x :: xs.drop (k + 1)) = false := by rw [utP_hd]; simp [hdB, hh]
  rw [usigs_cons (by simp)]
  simp [ut1, utN, hp, hs]
theorem ur_low {xs : List Int} {k : Nat} {x : Int} (h : xs[k]? = some x) (hh : hiB x = false) (hs : surB x = true) : usigs (xs.drop k) = (65533, 3) :: usigs (xs.drop (k + 1)) := by
  rw [drop_at h]
  have hp : utP (x :: xs.drop (k + 1)) = false := by rw [utP_hd]; simp [hdB, hh]
  rw [usigs_cons (by simp)]
  simp [ut1, utN, hp, hs, hh]
theorem ur_end {xs : List Int} {k : Nat} {x : Int} (h : xs[k]? = some x) (hh : hiB x = true) (hl : xs.length = k + 1) : usigs (xs.drop k) = (65533, 4) :: usigs (xs.drop (k + 1)) := by
  rw [drop_at h, List.drop_of_length_le (show xs.length ≤ k + 1 by omega)]
  have hs : surB x = true := by rw [hi_lo, hh]; rfl
  have hp : utP [x] = false := rfl
  rw [usigs_cons (by simp)]
  simp [ut1, utN, hp, hs, hh]
theorem ur_high {xs : List Int} {k : Nat} {x y : Int} (h : xs[k]? = some x) (h' : xs[k + 1]? = some y) (hh : hiB x = true) (hl : loB y = false) : usigs (xs.drop k) = (65533, 3) :: usigs (xs.drop (k + 1)) := by
  rw [drop_at h, drop_at h']
  have hs : surB x = true := by rw [hi_lo, hh]; rfl
  have hp : utP (x :: y :: xs.drop (k + 1 + 1)) = false := by simp [utP, hl]
  rw [usigs_cons (xs := x :: y :: xs.drop (k + 1 + 1)) (by simp)]
  simp [ut1, utN, hp, hs, hh]
theorem ur_pair {xs : List Int} {k : Nat} {x y : Int} (h : xs[k]? = some x) (h' : xs[k + 1]? = some y) (hh : hiB x = true) (hl : loB y = true) : usigs (xs.drop k) = (pairU x y, 0) :: usigs (xs.drop (k + 2)) := by
  rw [drop_at h, drop_at h']
  have hp : utP (x :: y :: xs.drop (k + 1 + 1)) = true := by simp [utP, hh, hl]
  rw [usigs_cons (by simp)]
  simp [ut1, utN, hp]

theorem ST16 : SliceT Try.prog 45 53 .u16 2 := ⟨Try.underlying45, by kernel_rfl, by decide⟩
theorem ref06_High (u : Int) (w : World) :
    Calls Try.prog 32 #[.int .u16 u] w fun e w' => e = .returned (.bool (hiB u)) ∧ w = w' := by
  go_enter Try.func32, Try.ntmps32
  go_wp2
  all_goals (go_ret; exact ⟨ret_bool (by unfold hiB; simp; omega), rfl⟩)
theorem ref06_Low (u : Int) (w : World) :
    Calls Try.prog 33 #[.int .u16 u] w fun e w' => e = .returned (.bool (loB u)) ∧ w = w' := by
  go_enter Try.func33, Try.ntmps33
  go_wp2
  all_goals (go_ret; exact ⟨ret_bool (by unfold loB; simp; omega), rfl⟩)

end Go.Proofs.Ytobjdamlmaaidaa
