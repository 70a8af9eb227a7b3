/-
  The law package's own 'alive' of layer 22 answers true.
-/
import Derived.Test.YtiehbmfopojabaaDoorC22
namespace Go.Proofs.YtiehbmfopojabaaDoor
open Go.RowKit
set_option linter.unusedVariables false

theorem v22_a : lay7 [65, 8802, 913, 46] = [65, 43, 73, 109, 73, 68, 107, 81, 45, 46] := by decide +kernel
theorem v22_ae : lay7E [65, 8802, 913, 46] = 0 := by decide +kernel
theorem v22_b : lay7 [43] = [43, 45] := by decide +kernel
theorem v22_be : lay7E [43] = 0 := by decide +kernel
theorem v22_s : [65, 43, 73, 109, 73, 68, 107, 81, 45, 46].all sevB = true := by decide +kernel
theorem str22_a : strB [65, 43, 73, 109, 73, 68, 107, 81, 45, 46] = { data := #[65, 43, 73, 109, 73, 68, 107, 81, 45, 46] } := by rfl
theorem str22_b : strB [43, 45] = { data := #[43, 45] } := by rfl
theorem al22_l (w : World) : Calls Tryd.prog 7 #[.slice (some ⟨w.heap.size, 0, none⟩) 4 4] (w.alloc (.cells #[.int .i32 65, .int .i32 8802, .int .i32 913, .int .i32 46] 21)) fun e w' => ∃ a c, e = .returned (.tuple #[.slice a 10 c, .int .i64 0]) ∧ Reads .u8 w' a 10 c [65, 43, 73, 109, 73, 68, 107, 81, 45, 46] ∧ Below w.heap.size w w' := by
  have h2 := useven_Lay _ 4 4 [65, 8802, 913, 46] _ (Reads.lit .i32 21 w [65, 8802, 913, 46] (by decide) (by decide)) (by decide)
  rw [v22_a, v22_ae] at h2
  refine h2.mono ?_
  rintro e w' ⟨v, rfl, ho, hb⟩
  obtain ⟨a, c, rfl, hr⟩ := ho.reads
  exact ⟨a, c, rfl, hr, ((Below.refl _ _).alloc (Nat.le_refl _) _).trans (hb.mono (by simp))⟩
theorem al22_p (w : World) : Calls Tryd.prog 7 #[.slice (some ⟨w.heap.size, 0, none⟩) 1 1] (w.alloc (.cells #[.int .i32 43] 21)) fun e w' => ∃ a c, e = .returned (.tuple #[.slice a 2 c, .int .i64 0]) ∧ Reads .u8 w' a 2 c [43, 45] ∧ Below w.heap.size w w' := by
  have h2 := useven_Lay _ 1 1 [43] _ (Reads.lit .i32 21 w [43] (by decide) (by decide)) (by decide)
  rw [v22_b, v22_be] at h2
  refine h2.mono ?_
  rintro e w' ⟨v, rfl, ho, hb⟩
  obtain ⟨a, c, rfl, hr⟩ := ho.reads
  exact ⟨a, c, rfl, hr, ((Below.refl _ _).alloc (Nat.le_refl _) _).trans (hb.mono (by simp))⟩
theorem al22_q (w : World) : Calls Tryd.prog 14 #[.int .i32 63] w fun e w' => e = .returned (.bool true) ∧ w = w' := useven_Direct 63 w
theorem al22_e (w : World) : Calls Tryd.prog 14 #[.int .i32 61] w fun e w' => e = .returned (.bool false) ∧ w = w' := useven_Direct 61 w
set_option maxHeartbeats 400000 in
theorem alive22_any (w : World) : Calls Tryd.prog 6 #[] w fun e w' => e = .returned (.bool true) ∧ Below w.heap.size w w' := by
  have hs7 := hid (fun (a : Option Addr) (c : Nat) (W : World) (hr : Reads .u8 W a 10 c [65, 43, 73, 109, 73, 68, 107, 81, 45, 46]) => by
    have := useven_Seven a 10 c _ W hr
    rwa [v22_s] at this)
  go_enter Tryd.func6, Tryd.ntmps6
  go_wp2_with (first
    | (go_at_call 7; (with_reducible refine (al22_l w).mono ?_); rintro e w1 ⟨a1, c1, rfl, r1, h1⟩)
    | (go_at_call 7; (with_reducible refine (al22_p w1).mono ?_); rintro e w2 ⟨a2, c2, rfl, r2, h2⟩; have t2 := below_then h1 h2; have r12 := r1.below h2; have s2 := r2.string (P := Tryd.prog) Tryd.underlying24 Tryd.underlying5 Tryd.underlying9; rw [str22_b] at s2; have s1 := r12.string (P := Tryd.prog) Tryd.underlying24 Tryd.underlying5 Tryd.underlying9; rw [str22_a] at s1)
    | (go_at_call 14; (with_reducible refine (al22_q _).mono ?_); rintro e w3 ⟨rfl, rfl⟩)
    | (go_at_call 14; (with_reducible refine (al22_e _).mono ?_); rintro e w3 ⟨rfl, rfl⟩)
    | (go_at_call 16; (with_reducible refine (hs7.out _ _ _ r12).mono ?_); rintro e w4 ⟨rfl, rfl⟩))
  go_ret
  exact ⟨rfl, t2⟩
end Go.Proofs.YtiehbmfopojabaaDoor
