/-
  Texts of ours laid together: C14b.
-/
import Derived.Test.YtefhddbbiheadaaGreatZ34

/-! C14b -/
namespace Go.Proofs.YtefhddbbiheadaaGreat
open Go.RowKit
set_option linter.unusedVariables false

theorem u8_wf {x : Int} (h : (Lit.int .u8 x).wf = true) : O8 x := ⟨(wf_u8 h).1, (wf_u8 h).2⟩
theorem lay_group (ys : List Int) : layB ys = layB (ys.take 3) ++ layB (ys.drop 3) := by
  match ys with
  | [] => rfl
  | [a] => simp [layB, fill4, bareB, v64]
  | [a, b] => simp [layB, fill4, bareB, v64]
  | a :: b :: c :: r =>
    simp only [List.take_succ_cons, List.take_zero, List.drop_succ_cons, List.drop_zero]
    unfold layB fill4 bareB
    simp only [v64, List.map_cons, List.length_cons, List.map_nil, List.length_nil]
    rw [show (4 - ((v64 r).map dg64).length.succ.succ.succ.succ % 4) % 4 = (4 - ((v64 r).map dg64).length % 4) % 4 by omega]
    simp
theorem lay_part {ys : List Int} {n : Nat} (h : n = 3 ∨ (ys.length ≤ n ∧ n ≤ 3)) : layB ys = layB (ys.take n) ++ layB (ys.drop n) := by
  rcases h with rfl | ⟨h, _⟩
  · exact lay_group ys
  · rw [List.take_of_length_le h, List.drop_of_length_le h]
    show layB ys = layB ys ++ []
    rw [List.append_nil]
theorem layB_wf {xs : List Int} (h : ∀ x ∈ xs, O8 x) : ∀ z ∈ layB xs, (Lit.int .u8 z).wf = true := by
  intro z hz
  unfold layB fill4 bareB at hz
  rcases List.mem_append.1 hz with hz | hz
  · obtain ⟨v, hv, rfl⟩ := List.mem_map.1 hz
    exact dg_wf (v64_bd xs h v hv)
  · rw [List.eq_of_mem_replicate hz]; decide
theorem lay_le (xs : List Int) : (layB xs).length ≤ 2 * xs.length + 8 := by
  unfold layB fill4 bareB
  rw [List.length_append, List.length_replicate, List.length_map, v64_len]
  omega

end Go.Proofs.YtefhddbbiheadaaGreat
