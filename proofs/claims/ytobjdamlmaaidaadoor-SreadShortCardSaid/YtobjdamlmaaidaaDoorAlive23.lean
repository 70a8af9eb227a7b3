/-
  The law package's own 'alive' of layer 23 answers true.
-/
import Derived.Test.YtobjdamlmaaidaaDoorC23d
import Derived.Test.YtobjdamlmaaidaaDoorR03
namespace Go.Proofs.YtobjdamlmaaidaaDoor
open Go.RowKit
set_option linter.unusedVariables false

theorem v23_a : rd7 [65, 43, 73, 109, 73, 68, 107, 81, 46, 43, 45] = [65, 8802, 913, 46, 43] := by decide +kernel
theorem v23_b : rd7E [43] = 3 := by decide +kernel
theorem v23_c : rd7N [43, 65, 65, 65, 45] = 1 := by decide +kernel
theorem al23_r (w : World) (B : Nat) (hB : w.heap.size = B) : Calls Tryd.prog 11 #[.slice (some ⟨B, 0, none⟩) 11 11] (w.alloc (.cells #[.int .u8 65, .int .u8 43, .int .u8 73, .int .u8 109, .int .u8 73, .int .u8 68, .int .u8 107, .int .u8 81, .int .u8 46, .int .u8 43, .int .u8 45] 5 (11, 12))) fun e w' => ∃ a c, e = .returned (.slice a 5 c) ∧ Reads .i32 w' a 5 c [65, 8802, 913, 46, 43] ∧ Below w.heap.size w w' := by
  have h2 := sread_Read _ 11 11 [65, 43, 73, 109, 73, 68, 107, 81, 46, 43, 45] _ (Reads_litB .u8 5 (11, 12) w B hB [65, 43, 73, 109, 73, 68, 107, 81, 46, 43, 45] (by decide) (by decide)) (by decide)
  rw [v23_a] at h2
  refine h2.mono ?_
  rintro e w' ⟨a, c, rfl, hr, hb⟩
  exact ⟨a, c, rfl, hr, ((Below.refl _ _).alloc (Nat.le_refl _) _).trans (hb.mono (by simp))⟩
theorem al23_s (w : World) (B : Nat) (hB : w.heap.size = B) : Calls Tryd.prog 8 #[.slice (some ⟨B, 0, none⟩) 1 1] (w.alloc (.cells #[.int .u8 43] 5 (1, 2))) fun e w' => ∃ a l c, e = .returned (.tuple #[.slice a l c, .int .i64 3]) ∧ Below w.heap.size w w' := by
  have h2 := sread_Strict _ 1 1 [43] _ (Reads_litB .u8 5 (1, 2) w B hB [43] (by decide) (by decide)) (by decide)
  rw [v23_b] at h2
  refine h2.mono ?_
  rintro e w' ⟨a, l, c, rfl, hr, hb⟩
  exact ⟨a, l, c, rfl, ((Below.refl _ _).alloc (Nat.le_refl _) _).trans (hb.mono (by simp))⟩
theorem al23_n (w : World) (B : Nat) (hB : w.heap.size = B) : Calls Tryd.prog 14 #[.slice (some ⟨B, 0, none⟩) 5 5] (w.alloc (.cells #[.int .u8 43, .int .u8 65, .int .u8 65, .int .u8 65, .int .u8 45] 5 (5, 6))) fun e w' => e = .returned (.int .i64 1) ∧ Below w.heap.size w w' := by
  have h2 := sread_Shifts _ 5 5 [43, 65, 65, 65, 45] _ (Reads_litB .u8 5 (5, 6) w B hB [43, 65, 65, 65, 45] (by decide) (by decide)) (by decide)
  rw [v23_c] at h2
  refine h2.mono ?_
  rintro e w' ⟨rfl, hb⟩
  exact ⟨rfl, ((Below.refl _ _).alloc (Nat.le_refl _) _).trans (hb.mono (by simp))⟩
theorem al23_l {a : Option Addr} {c : Nat} {w : World} (hr : Reads .i32 w a 5 c [65, 8802, 913, 46, 43]) : Calls Tryd.prog 10 #[.slice a 5 c, .slice (some ⟨w.heap.size, 0, none⟩) 5 5] (w.alloc (.cells #[.int .i32 65, .int .i32 8802, .int .i32 913, .int .i32 46, .int .i32 43] 21)) fun e w' => e = .returned (.bool true) ∧ Below w.heap.size w w' := by
  have hb : Below w.heap.size w (w.alloc (.cells #[.int .i32 65, .int .i32 8802, .int .i32 913, .int .i32 46, .int .i32 43] 21)) := (Below.refl _ _).alloc (Nat.le_refl _) _
  have h2 := ref03_Like _ _ _ _ _ _ _ _ _ (hr.below hb) (Reads.lit .i32 21 w [65, 8802, 913, 46, 43] (by decide) (by decide))
  rw [decide_eq_true rfl] at h2
  refine h2.mono ?_
  rintro e w' ⟨rfl, n, rfl⟩
  exact ⟨rfl, Below.drewN hb n⟩
set_option maxHeartbeats 1000000 in
theorem alive23_any (w : World) : Calls Tryd.prog 6 #[] w fun e w' => e = .returned (.bool true) ∧ Below w.heap.size w w' := by
  have kc := convB (P := Tryd.prog) (t := 25) (e := 5) Tryd.underlying25 Tryd.underlying5 w w.heap.size rfl
  go_enter Tryd.func6, Tryd.ntmps6
  go_wp2_with (first
    | (go_at_call 11; (with_reducible refine (al23_r w _ rfl).mono ?_); rintro e w1 ⟨a1, c1, rfl, r1, h1⟩; have kc1 := convB (P := Tryd.prog) (t := 25) (e := 5) Tryd.underlying25 Tryd.underlying5 w1 w1.heap.size rfl)
    | (go_at_call 8; (with_reducible refine (al23_s w1 _ rfl).mono ?_); rintro e w2 ⟨a2, l2, c2, rfl, h2⟩; have t2 := below_then h1 h2; have r2 := r1.below h2)
    | (go_at_call 10; (with_reducible refine (al23_l r2).mono ?_); rintro e w3 ⟨rfl, h3⟩; have t3 := below_then t2 h3; have kc3 := convB (P := Tryd.prog) (t := 25) (e := 5) Tryd.underlying25 Tryd.underlying5 w3 w3.heap.size rfl)
    | (go_at_call 14; (with_reducible refine (al23_n w3 _ rfl).mono ?_); rintro e w4 ⟨rfl, h4⟩; have t4 := below_then t3 h4))
  go_ret
  exact ⟨rfl, t4⟩
end Go.Proofs.YtobjdamlmaaidaaDoor
