/-
  Proved: for every []rune t (nil, empty, of any length and capacity) and every rune c, in whatever memory and on every schedule, sheavelaw06.UnitsLays(t, c) returns true, without a panic or a race, and its arguments read as before. No condition.
-/
import Derived.Test.YteihhadcmmdidaaRows
import Derived.Test.YteihhadcmmdidaaAlive06
import Derived.Test.YteihhadcmmdidaaR06b
import Derived.WalkKit
import Derived.ProofKit
import Derived.OpenShut
import Derived.ShutString
import Derived.ChangeOld
import Derived.Below
namespace Go.Proofs.Yteihhadcmmdidaa.unitsLays
open Go.ChangeShapes Go.WideShapes Go.ChangeAt Go.RowKit
open Go.ChangeMaps (open_string shut_string)
set_option linter.unusedVariables false

theorem own : ownKnob Try.prog.godebug = none := by kernel_rfl
theorem laidOut : laidOutB Try.prog = true := by kernel_rfl
theorem same6 (a : Option Addr) (len cap : Nat) (a2 : Option Addr) (len2 cap2 : Nat) (xs : List Int) (w : World) (hr : Reads .u16 w a len cap xs) (hr2 : Reads .u16 w a2 len2 cap2 xs) :
    Calls Try.prog 10 #[.slice a len cap, .slice a2 len2 cap2] w fun e w' => e = .returned (.bool true) ∧ ∃ n, w' = w.drewN n := by
  have := ref06_Same a len cap xs a2 len2 cap2 xs w hr hr2
  rwa [decide_eq_true rfl] at this
set_option maxHeartbeats 4000000 in
set_option maxRecDepth 100000 in
theorem walk (a0 : Option Addr) (len0 cap0 : Nat) (xs0 : List Int) (a1 : Int) (w : World) (r0 : Reads .i32 w a0 len0 cap0 xs0) (w1 : (Lit.int .i32 a1).wf = true) :
    Calls Try.prog 3 #[.slice a0 len0 cap0, .int .i32 a1] w fun e w' => e = .returned (.bool true) ∧ Below w.heap.size w w' := by
  by_cases hN : len0 ≤ 500
  · have R := hid r0
    clear r0
    cases hs : xs0.all scB
    · have HS := hid hs
      go_enter Try.func3, Try.ntmps3
      go_wp2_with (first
        | (go_at_call 8; (with_reducible refine (units_LayNo _ _ _ _ _ R.out HS.out).mono ?_); rintro e w' ⟨rfl, rfl⟩)
        | (go_at_call 9; (with_reducible refine (ref06_LayNo _ _ _ _ _ R.out HS.out).mono ?_); rintro e w' ⟨rfl, rfl⟩)
        | (go_at_call 10; (with_reducible refine (same6 _ _ _ _ _ _ _ _ hr4' hr5).mono ?_); rintro e w6 ⟨rfl, n6, rfl⟩; have hb6 := Below.drewN hb5' n6)
        | (go_at_call 10; (with_reducible refine (same6 _ _ _ _ _ _ _ _ (Reads.nil _ _ _ _ (Nat.zero_le _)) (Reads.nil _ _ _ _ (Nat.zero_le _))).mono ?_); rintro e w3 ⟨rfl, n3, rfl⟩; have hb3 := Below.drewN (Below.refl w.heap.size w) n3)
        | (go_at_call 11; (with_reducible refine (units_Of _ _).mono ?_); rintro e w4 ⟨a4, c4, rfl, hr4, hb4⟩; have hb4' := below_then hb3 hb4)
        | (go_at_call 12; (with_reducible refine (ref06_Of _ _).mono ?_); rintro e w5 ⟨a5, c5, rfl, hr5, hb5⟩; have hb5' := below_then hb4' hb5; have hr4' := hr4.below hb5)
        | (go_at_call 7; (with_reducible refine (alive6_any _).mono ?_); rintro e w' ⟨rfl, hb⟩))
      go_ret
      exact ⟨rfl, below_then' hb6 hb (by simp)⟩
    · have HS := hid hs
      go_enter Try.func3, Try.ntmps3
      go_wp2_with (first
        | (go_at_call 8; (with_reducible refine (units_Lay _ _ _ _ _ R.out (by omega) HS.out).mono ?_); rintro e w1 ⟨a1, c1, rfl, hr1, hb1⟩; have R1 := R.out.below hb1)
        | (go_at_call 9; (with_reducible refine (ref06_Lay _ _ _ _ _ R1 (by omega) HS.out).mono ?_); rintro e w2 ⟨a2, c2, rfl, hr2, hb2⟩; have hb2' := below_then hb1 hb2; have hr1' := hr1.below hb2)
        | (go_at_call 10; (with_reducible refine (same6 _ _ _ _ _ _ _ _ hr4' hr5).mono ?_); rintro e w6 ⟨rfl, n6, rfl⟩; have hb6 := Below.drewN hb5' n6)
        | (go_at_call 10; (with_reducible refine (same6 _ _ _ _ _ _ _ _ hr1' hr2).mono ?_); rintro e w3 ⟨rfl, n3, rfl⟩; have hb3 := Below.drewN hb2' n3)
        | (go_at_call 11; (with_reducible refine (units_Of _ _).mono ?_); rintro e w4 ⟨a4, c4, rfl, hr4, hb4⟩; have hb4' := below_then' hb3 hb4 (by simp))
        | (go_at_call 12; (with_reducible refine (ref06_Of _ _).mono ?_); rintro e w5 ⟨a5, c5, rfl, hr5, hb5⟩; have hb5' := below_then hb4' hb5; have hr4' := hr4.below hb5)
        | (go_at_call 7; (with_reducible refine (alive6_any _).mono ?_); rintro e w' ⟨rfl, hb⟩))
      go_ret
      exact ⟨rfl, below_then' hb6 hb (by simp)⟩
  · have hN' : 500 < len0 := by omega
    go_enter Try.func3, Try.ntmps3
    go_wp2_with (go_at_call 7; (with_reducible refine (alive6_any _).mono ?_); rintro e w' ⟨rfl, hb⟩)
    go_ret
    exact ⟨rfl, hb⟩

set_option maxRecDepth 100000 in
theorem lifted (os : Os) (started : os.Started) (H : Type) (enc : TypeId × Value → H) :
    ReturnsInHanded {} Try.checked os 3 .any (Rows.unitsLaysSpec.pre6 enc Try.prog Try.f3 Rows.unitsLaysRow.domain false) (Rows.unitsLaysSpec.post enc Try.prog Try.f3 false true false false) := by
  refine returnsInHanded_of_change (C := Try.checked) own started (by kernel_rfl) Try.func3
    (ChangeSpec.witness6 (enc := enc) (C := Try.checked) false ⟨#[], #[.slice none 0 0, .int .i32 0], []⟩ 8 (by kernel_rfl) (by kernel_rfl) (by kernel_rfl) (by kernel_rfl)) ?_
  intro W base args ds gs before hval0 hW hcnd _
  have hval : ∀ (j : Nat) t v, Try.f3.params[j]? = some t → args[j]? = some v → Value.okWide Try.prog W .any base t v := hval0
  have hW' := hW
  obtain ⟨p, q, hA0, hV, rfl, hfz, hnd⟩ := hW
  have hA : DataW.TrodAll enc Try.prog W 0 (fun _ => true) true Try.f3.params.toList args.toList ds p := hA0
  rw [Try.params3] at hA hval
  obtain ⟨v0, vs0, d0, ds0, p0, q0, hargs, rfl, rfl, h0, r_0⟩ := trodAll_cons hA
  obtain ⟨v1, vs1, d1, ds1, p1, q1, rfl, rfl, rfl, h1, r_1⟩ := trodAll_cons r_0
  obtain ⟨rfl, rfl, rfl⟩ := trodAll_nil r_1
  obtain rfl : args = #[v0, v1] := by cases args; simp_all
  obtain ⟨rfl, rfl⟩ := trodVars_none hV
  obtain ⟨a0, len0, cap0, rfl⟩ := okWide_slice Try.underlying22 (hval 0 22 v0 rfl rfl)
  have k0 := h0
  have lt0 : ∀ x ∈ p0, x.block < W.heap.size := by obtain ⟨m, hm⟩ := k0; exact DataW.trod_lt m _ _ _ hm
  obtain ⟨xs0, r0⟩ : ∃ xs, Reads .i32 W a0 len0 cap0 xs := by
    obtain ⟨fuel, hf⟩ := h0
    rcases open_ints Try.underlying22 Try.underlying21 (by kernel_rfl) hf with ⟨hcs, _⟩ | ⟨x, l, c, zs, hcs, _, hl, hm, hz, _, hcell, hwz⟩
    · simp [Value.cells] at hcs
      obtain ⟨rfl, rfl, rfl⟩ := hcs
      exact ⟨[], Reads.nil _ _ _ _ (Nat.zero_le _)⟩
    · simp [Value.cells] at hcs
      obtain ⟨rfl, rfl, rfl⟩ := hcs
      exact ⟨_, reads_of_ints hl hm (by simpa using hz) hcell hwz⟩
  obtain ⟨a1, rfl, rfl, rfl, w1⟩ := open_int Try.underlying21 (hval 1 21 v1 rfl rfl) h1
  clear hA0 hval0
  refine (walk a0 len0 cap0 xs0 a1 W r0 w1).mono fun e W' ⟨he, bel⟩ => ?_
  subst he
  exact ⟨_, rfl, _, _, _, [], _, [], hW', trodAll_mk1 (shut_bool Try.underlying4 _), (trodAll_cons_mk (Below.trod laidOut (by kernel_rfl) (of_decide_eq_true (by kernel_rfl)) k0 bel lt0) (trodAll_cons_mk (shut_int Try.underlying21 w1) trodAll_mk0)), rfl, bel.frame _, fun h => by cases h⟩

theorem over : Rows.unitsLaysRow.holds Try.pinned (OpenSpec.ofChange Rows.unitsLaysSpec) :=
  OpenClaim.holds_of_wide 3 Try.f3 rfl rfl rfl rfl rfl rfl rfl ⟨rfl, rfl, rfl, rfl, rfl⟩ rfl rfl rfl rfl rfl (by kernel_rfl) Try.func3 (by kernel_rfl)
    (of_decide_eq_true (by kernel_rfl)) (by unfold Func.isWrapper; first | (rw [if_pos (by decide +kernel)]; kernel_rfl) | (rw [if_neg (by decide +kernel)]; exact ⟨rfl, rfl⟩))
    (fun os started H enc _ => lifted os started H enc)

end Go.Proofs.Yteihhadcmmdidaa.unitsLays
namespace Go.Proofs.Yteihhadcmmdidaa
theorem unitsLays_holds : Rows.UnitsLaysSaid := unitsLays.over
#print axioms unitsLays_holds
end Go.Proofs.Yteihhadcmmdidaa
