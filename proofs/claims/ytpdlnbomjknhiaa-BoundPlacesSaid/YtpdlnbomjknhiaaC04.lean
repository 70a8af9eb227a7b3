/-
  Contracts of package utfone's functions: octets put.
-/
import Derived.Test.YtpdlnbomjknhiaaC01
import Derived.Test.YtpdlnbomjknhiaaC03
import Derived.Test.YtpdlnbomjknhiaaD04
import Derived.Handy
namespace Go.Proofs.Ytpdlnbomjknhiaa
open Go.RowKit
set_option linter.unusedVariables false

theorem ret_ii3 {k k2 k3 : IntKind} {a b c d e f : Int} (h : a = b) (h' : c = d) (h2 : e = f) : Ending.returned (.tuple #[.int k a, .int k2 c, .int k3 e]) = .returned (.tuple #[.int k b, .int k2 d, .int k3 f]) := by rw [h, h', h2]

theorem utfone_Len (c : Int) (w : World) :
    Calls Try.prog 42 #[.int .i32 c] w fun e w' => e = .returned (.int .i64 (lenI c)) ∧ w = w' := by
  cases hs : scB c
  all_goals
    go_enter Try.func42, Try.ntmps42
    go_wp2_with (go_at_call 43; (with_reducible refine (scalar_Is _ _).mono ?_); rintro e w' ⟨rfl, rfl⟩)
    all_goals (go_ret; exact ⟨ret_int (by unfold lenI; (first | rw [if_pos hs] | rw [if_neg (by rw [hs]; decide)]); (repeat' split) <;> omega), rfl⟩)
theorem utfone_mark (n : Nat) (w : World) :
    Calls Try.prog 37 #[.int .i64 n] w fun e w' => e = .returned (.int .i32 (markI n)) ∧ w = w' := by
  go_enter Try.func37, Try.ntmps37
  go_wp2
  all_goals (go_ret; exact ⟨ret_int (by unfold markI; simp_all; try omega), rfl⟩)
theorem utfone_Starts (a : Int) (w : World) (h0 : 0 ≤ a) (h1 : a ≤ 255) :
    Calls Try.prog 36 #[.int .u8 a] w fun e w' => e = .returned (.int .i64 (startN a)) ∧ w = w' := by
  go_enter Try.func36, Try.ntmps36
  go_wp2
  all_goals (go_ret; exact ⟨ret_int (by unfold startN; (repeat' split) <;> omega), rfl⟩)
theorem utfone_Follows (a : Int) (w : World) (h0 : 0 ≤ a) (h1 : a ≤ 255) :
    Calls Try.prog 38 #[.int .u8 a] w fun e w' => e = .returned (.bool (folB a)) ∧ w = w' := by
  go_enter Try.func38, Try.ntmps38
  go_wp2
  all_goals (go_ret; exact ⟨ret_bool (by unfold folB; rw [Bool.eq_iff_iff]; simp; omega), rfl⟩)
theorem utfone_some (t : Int) (l m : Nat) (w : World) (hl : l ≤ 2) (h0 : 0 ≤ t) (h1 : t * shf l ≤ 2147483647) :
    Calls Try.prog 39 #[.int .i32 t, .int .i64 l, .int .i64 m] w fun e w' => e = .returned (.bool (decide (lenI (t * shf l) = m))) ∧ w = w' := by
  rcases (show l = 0 ∨ l = 1 ∨ l = 2 by omega) with rfl | rfl | rfl
  all_goals
    simp [shf] at h1
    simp [shf]
    go_enter Try.func39, Try.ntmps39
    go_wp2_with (go_at_call 42; (with_reducible refine (utfone_Len _ _).mono ?_); rintro e w' ⟨rfl, rfl⟩)
    go_ret
    exact ⟨ret_bool (by rw [Bool.eq_iff_iff]; simp; omega), rfl⟩

end Go.Proofs.Ytpdlnbomjknhiaa
