/-
  Proved: for every int charset and every rune c, in whatever memory and on every schedule, sheavelaw12.ReperHas(charset, c) returns true, without a panic or a race. No condition.
-/
import Derived.Test.YtnhojfejiipamaaRows
import Derived.Test.YtnhojfejiipamaaAlive12
import Derived.Test.YtnhojfejiipamaaR12
import Derived.WalkKit
import Derived.ProofKit
import Derived.OpenShut
import Derived.ShutString
import Derived.ChangeOld
import Derived.Below
namespace Go.Proofs.Ytnhojfejiipamaa.reperHas
open Go.ChangeShapes Go.WideShapes Go.ChangeAt Go.RowKit
open Go.ChangeMaps (open_string shut_string)
set_option linter.unusedVariables false

theorem own : ownKnob Try.prog.godebug = none := by kernel_rfl
theorem laidOut : laidOutB Try.prog = true := by kernel_rfl

set_option maxHeartbeats 4000000 in
set_option maxRecDepth 100000 in
theorem walk (a0 : Int) (a1 : Int) (w : World) (w0 : (Lit.int .i64 a0).wf = true) (w1 : (Lit.int .i32 a1).wf = true) :
    Calls Try.prog 3 #[.int .i64 a0, .int .i32 a1] w fun e w' => e = .returned (.bool true) ∧ Below w.heap.size w w' := by
  have hl : ∀ x ∈ [a1], (Lit.int .i32 x).wf = true := by simpa using w1
  have hS := ref12_Select _ 1 1 [a1] _ (Reads.lit .i32 21 w [a1] (show (1 : Nat) ≤ maxLen by decide) hl)
  rw [sel_one] at hS
  have HS := hid hS
  have W1 := hid w1
  clear hS w0 w1 hl
  go_enter Try.func3, Try.ntmps3
  go_wp2_with (first
    | (go_at_call 7; (refine HS.out.mono ?_); rintro e w1 ⟨rfl, hb1'⟩; have hb1 := ((Below.refl w.heap.size w).alloc (Nat.le_refl _) _).trans (hb1'.mono (by simp)))
    | (go_at_call 8; (with_reducible refine (reper_Has _ _ _).mono ?_); rintro e w2 ⟨rfl, hb2⟩; have hb2' := below_then hb1 hb2)
    | (go_at_call 9; (with_reducible refine (ref12_Has _ _ _).mono ?_); rintro e w3 ⟨rfl, hb3⟩; have hb3' := below_then hb2' hb3)
    | (go_at_call 10; (with_reducible refine (reper_Sets _ _).mono ?_); rintro e w4 ⟨rfl, hb4⟩; have hb4' := below_then hb3' hb4)
    | (go_at_call 11; (with_reducible refine (ref12_Sets _ _).mono ?_); rintro e w5 ⟨rfl, hb5⟩; have hb5' := below_then hb4' hb5)
    | (go_at_call 12; (with_reducible refine (reper_Least _ _ W1.out).mono ?_); rintro e w6 ⟨rfl, hb6⟩; have hb6' := below_then hb5' hb6)
    | (go_at_call 13; (with_reducible refine (alive12_any _).mono ?_); rintro e w' ⟨rfl, hb⟩))
  go_ret
  exact ⟨rfl, below_then hb6' hb⟩

set_option maxRecDepth 100000 in
theorem lifted (os : Os) (started : os.Started) (H : Type) (enc : TypeId × Value → H) :
    ReturnsInHanded {} Try.checked os 3 .any (Rows.reperHasSpec.pre6 enc Try.prog Try.f3 Rows.reperHasRow.domain false) (Rows.reperHasSpec.post enc Try.prog Try.f3 false true false false) := by
  refine returnsInHanded_of_change (C := Try.checked) own started (by kernel_rfl) Try.func3
    (ChangeSpec.witness6 (enc := enc) (C := Try.checked) false ⟨#[], #[.int .i64 0, .int .i32 0], []⟩ 8 (by kernel_rfl) (by kernel_rfl) (by kernel_rfl) (by kernel_rfl)) ?_
  intro W base args ds gs before hval0 hW hcnd _
  have hval : ∀ (j : Nat) t v, Try.f3.params[j]? = some t → args[j]? = some v → Value.okWide Try.prog W .any base t v := hval0
  have hW' := hW
  obtain ⟨p, q, hA0, hV, rfl, hfz, hnd⟩ := hW
  have hA : DataW.TrodAll enc Try.prog W 0 (fun _ => true) true Try.f3.params.toList args.toList ds p := hA0
  rw [Try.params3] at hA hval
  obtain ⟨v0, vs0, d0, ds0, p0, q0, hargs, rfl, rfl, h0, r_0⟩ := trodAll_cons hA
  obtain ⟨v1, vs1, d1, ds1, p1, q1, rfl, rfl, rfl, h1, r_1⟩ := trodAll_cons r_0
  obtain ⟨rfl, rfl, rfl⟩ := trodAll_nil r_1
  obtain rfl : args = #[v0, v1] := by cases args; simp_all
  obtain ⟨rfl, rfl⟩ := trodVars_none hV
  obtain ⟨a0, rfl, rfl, rfl, w0⟩ := open_int Try.underlying3 (hval 0 3 v0 rfl rfl) h0
  obtain ⟨a1, rfl, rfl, rfl, w1⟩ := open_int Try.underlying21 (hval 1 21 v1 rfl rfl) h1
  clear hA0 hval0
  refine (walk a0 a1 W w0 w1).mono fun e W' ⟨he, bel⟩ => ?_
  subst he
  exact ⟨_, rfl, _, _, _, [], _, [], hW', trodAll_mk1 (shut_bool Try.underlying4 _), (trodAll_cons_mk (shut_int Try.underlying3 w0) (trodAll_cons_mk (shut_int Try.underlying21 w1) trodAll_mk0)), rfl, bel.frame _, fun h => by cases h⟩

theorem over : Rows.reperHasRow.holds Try.pinned (OpenSpec.ofChange Rows.reperHasSpec) :=
  OpenClaim.holds_of_wide 3 Try.f3 rfl rfl rfl rfl rfl rfl rfl ⟨rfl, rfl, rfl, rfl, rfl⟩ rfl rfl rfl rfl rfl (by kernel_rfl) Try.func3 (by kernel_rfl)
    (of_decide_eq_true (by kernel_rfl)) (by unfold Func.isWrapper; first | (rw [if_pos (by decide +kernel)]; kernel_rfl) | (rw [if_neg (by decide +kernel)]; exact ⟨rfl, rfl⟩))
    (fun os started H enc _ => lifted os started H enc)

end Go.Proofs.Ytnhojfejiipamaa.reperHas
namespace Go.Proofs.Ytnhojfejiipamaa
theorem reperHas_holds : Rows.ReperHasSaid := reperHas.over
#print axioms reperHas_holds
end Go.Proofs.Ytnhojfejiipamaa
