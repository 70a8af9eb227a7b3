/-
  Proved: for every int charset and every []rune t (nil, empty, of any length and capacity), in whatever memory and on every schedule, sheavelaw12.ReperSelects(charset, t) returns true, without a panic or a race, and its argument reads as before. No condition.
-/
import Derived.Test.YtnhojfejiipamaaRows
import Derived.Test.YtnhojfejiipamaaAlive12
import Derived.Test.YtnhojfejiipamaaR12
import Derived.WalkKit
import Derived.ProofKit
import Derived.OpenShut
import Derived.ShutString
import Derived.ChangeOld
import Derived.Below
namespace Go.Proofs.Ytnhojfejiipamaa.reperSelects
open Go.ChangeShapes Go.WideShapes Go.ChangeAt Go.RowKit
open Go.ChangeMaps (open_string shut_string)
set_option linter.unusedVariables false

theorem own : ownKnob Try.prog.godebug = none := by kernel_rfl
theorem laidOut : laidOutB Try.prog = true := by kernel_rfl

set_option maxHeartbeats 4000000 in
set_option maxRecDepth 100000 in
theorem walk (a0 : Int) (a1 : Option Addr) (len1 cap1 : Nat) (xs1 : List Int) (w : World) (w0 : (Lit.int .i64 a0).wf = true) (r1 : Reads .i32 w a1 len1 cap1 xs1) :
    Calls Try.prog 4 #[.int .i64 a0, .slice a1 len1 cap1] w fun e w' => e = .returned (.bool true) ∧ Below w.heap.size w w' := by
  by_cases hN : len1 ≤ 100
  · have R := hid r1
    clear r1 w0
    go_enter Try.func4, Try.ntmps4
    go_wp2_with (first
      | (go_at_call 14; (with_reducible refine (reper_Select _ _ _ _ _ R.out).mono ?_); rintro e w1 ⟨rfl, hb1⟩; have R1 := R.out.below hb1)
      | (go_at_call 7; (with_reducible refine (ref12_Select _ _ _ _ _ R1).mono ?_); rintro e w2 ⟨rfl, hb2⟩; have hb2' := below_then hb1 hb2; have R2 := R1.below hb2)
      | (go_at_call 15; (with_reducible refine (reper_All _ _ _ _ _ _ R2).mono ?_); rintro e w3 ⟨rfl, hb3⟩; have hb3' := below_then hb2' hb3; have R3 := R2.below hb3)
      | (go_at_call 16; (with_reducible refine (ref12_All _ _ _ _ _ _ R3).mono ?_); rintro e w4 ⟨rfl, hb4⟩; have hb4' := below_then hb3' hb4; have R4 := R3.below hb4)
      | (go_at_call 17; (with_reducible refine (reper_Lacks _ _ _ _ _ _ R4).mono ?_); rintro e w5 ⟨rfl, hb5⟩; have hb5' := below_then hb4' hb5; have R5 := R4.below hb5)
      | (go_at_call 18; (with_reducible refine (ref12_Lacks _ _ _ _ _ _ R5).mono ?_); rintro e w6 ⟨rfl, hb6⟩; have hb6' := below_then hb5' hb6)
      | (go_at_call 13; (with_reducible refine (alive12_any _).mono ?_); rintro e w' ⟨rfl, hb⟩))
    go_ret
    exact ⟨rfl, below_then hb6' hb⟩
  · have hN' : 100 < len1 := by omega
    go_enter Try.func4, Try.ntmps4
    go_wp2_with (go_at_call 13; (with_reducible refine (alive12_any _).mono ?_); rintro e w' ⟨rfl, hb⟩)
    go_ret
    exact ⟨rfl, hb⟩

set_option maxRecDepth 100000 in
theorem lifted (os : Os) (started : os.Started) (H : Type) (enc : TypeId × Value → H) :
    ReturnsInHanded {} Try.checked os 4 .any (Rows.reperSelectsSpec.pre6 enc Try.prog Try.f4 Rows.reperSelectsRow.domain false) (Rows.reperSelectsSpec.post enc Try.prog Try.f4 false true false false) := by
  refine returnsInHanded_of_change (C := Try.checked) own started (by kernel_rfl) Try.func4
    (ChangeSpec.witness6 (enc := enc) (C := Try.checked) false ⟨#[], #[.int .i64 0, .slice none 0 0], []⟩ 8 (by kernel_rfl) (by kernel_rfl) (by kernel_rfl) (by kernel_rfl)) ?_
  intro W base args ds gs before hval0 hW hcnd _
  have hval : ∀ (j : Nat) t v, Try.f4.params[j]? = some t → args[j]? = some v → Value.okWide Try.prog W .any base t v := hval0
  have hW' := hW
  obtain ⟨p, q, hA0, hV, rfl, hfz, hnd⟩ := hW
  have hA : DataW.TrodAll enc Try.prog W 0 (fun _ => true) true Try.f4.params.toList args.toList ds p := hA0
  rw [Try.params4] at hA hval
  obtain ⟨v0, vs0, d0, ds0, p0, q0, hargs, rfl, rfl, h0, r_0⟩ := trodAll_cons hA
  obtain ⟨v1, vs1, d1, ds1, p1, q1, rfl, rfl, rfl, h1, r_1⟩ := trodAll_cons r_0
  obtain ⟨rfl, rfl, rfl⟩ := trodAll_nil r_1
  obtain rfl : args = #[v0, v1] := by cases args; simp_all
  obtain ⟨rfl, rfl⟩ := trodVars_none hV
  obtain ⟨a0, rfl, rfl, rfl, w0⟩ := open_int Try.underlying3 (hval 0 3 v0 rfl rfl) h0
  obtain ⟨a1, len1, cap1, rfl⟩ := okWide_slice Try.underlying24 (hval 1 24 v1 rfl rfl)
  have k1 := h1
  have lt1 : ∀ x ∈ p1, x.block < W.heap.size := by obtain ⟨m, hm⟩ := k1; exact DataW.trod_lt m _ _ _ hm
  obtain ⟨xs1, r1⟩ : ∃ xs, Reads .i32 W a1 len1 cap1 xs := by
    obtain ⟨fuel, hf⟩ := h1
    rcases open_ints Try.underlying24 Try.underlying21 (by kernel_rfl) hf with ⟨hcs, _⟩ | ⟨x, l, c, zs, hcs, _, hl, hm, hz, _, hcell, hwz⟩
    · simp [Value.cells] at hcs
      obtain ⟨rfl, rfl, rfl⟩ := hcs
      exact ⟨[], Reads.nil _ _ _ _ (Nat.zero_le _)⟩
    · simp [Value.cells] at hcs
      obtain ⟨rfl, rfl, rfl⟩ := hcs
      exact ⟨_, reads_of_ints hl hm (by simpa using hz) hcell hwz⟩
  clear hA0 hval0
  refine (walk a0 a1 len1 cap1 xs1 W w0 r1).mono fun e W' ⟨he, bel⟩ => ?_
  subst he
  exact ⟨_, rfl, _, _, _, [], _, [], hW', trodAll_mk1 (shut_bool Try.underlying4 _), (trodAll_cons_mk (shut_int Try.underlying3 w0) (trodAll_cons_mk (Below.trod laidOut (by kernel_rfl) (of_decide_eq_true (by kernel_rfl)) k1 bel lt1) trodAll_mk0)), rfl, bel.frame _, fun h => by cases h⟩

theorem over : Rows.reperSelectsRow.holds Try.pinned (OpenSpec.ofChange Rows.reperSelectsSpec) :=
  OpenClaim.holds_of_wide 4 Try.f4 rfl rfl rfl rfl rfl rfl rfl ⟨rfl, rfl, rfl, rfl, rfl⟩ rfl rfl rfl rfl rfl (by kernel_rfl) Try.func4 (by kernel_rfl)
    (of_decide_eq_true (by kernel_rfl)) (by unfold Func.isWrapper; first | (rw [if_pos (by decide +kernel)]; kernel_rfl) | (rw [if_neg (by decide +kernel)]; exact ⟨rfl, rfl⟩))
    (fun os started H enc _ => lifted os started H enc)

end Go.Proofs.Ytnhojfejiipamaa.reperSelects
namespace Go.Proofs.Ytnhojfejiipamaa
theorem reperSelects_holds : Rows.ReperSelectsSaid := reperSelects.over
#print axioms reperSelects_holds
end Go.Proofs.Ytnhojfejiipamaa
