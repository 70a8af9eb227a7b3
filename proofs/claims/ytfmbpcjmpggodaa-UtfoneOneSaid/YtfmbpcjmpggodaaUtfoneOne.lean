/-
  Proved: for every two runes a and b, in whatever memory and on every schedule, sheavelaw04.UtfoneOne(a, b) returns true, without a panic or a race. No condition.
-/
import Derived.Test.YtfmbpcjmpggodaaRows
import Derived.Test.YtfmbpcjmpggodaaAlive04
import Derived.Test.YtfmbpcjmpggodaaR01
import Derived.Test.YtfmbpcjmpggodaaR03
import Derived.Test.YtfmbpcjmpggodaaD04b
import Derived.WalkKit
import Derived.ProofKit
import Derived.OpenShut
import Derived.ShutString
import Derived.ChangeOld
import Derived.Below
namespace Go.Proofs.Ytfmbpcjmpggodaa.utfoneOne
open Go.ChangeShapes Go.WideShapes Go.ChangeAt Go.RowKit
open Go.ChangeMaps (open_string shut_string)
set_option linter.unusedVariables false

theorem own : ownKnob Try.prog.godebug = none := by kernel_rfl
theorem laidOut : laidOutB Try.prog = true := by kernel_rfl
theorem put_nil (c : Int) (w : World) (hs : scB c = true) :
    Calls Try.prog 8 #[.slice none 0 0, .int .i32 c] w fun e w' => ∃ a' cap', e = .returned (.tuple #[.slice a' (lenI c) cap', .int .i64 0]) ∧ Reads .u8 w' a' (lenI c) cap' (octs c) ∧ Below w.heap.size w w' := by
  have := utfone_Put none 0 0 [] c w (Reads.nil _ _ _ _ (Nat.zero_le _)) (by decide) hs
  simpa only [Nat.zero_add, List.nil_append] using this
theorem like_one (a b : Int) (p : Option Addr) (cap : Nat) (q : Option Addr) (cap2 : Nat) (w : World) (ha : scB a = true) (hb : scB b = true) (hl : lenI a ≤ lenI b) (hr : Reads .u8 w p (lenI a) cap (octs a)) (hr2 : Reads .u8 w q (lenI a) cap2 ((octs b).take (lenI a))) :
    Calls Try.prog 10 #[.slice p (lenI a) cap, .slice q (lenI a) cap2] w fun e w' => e = .returned (.bool (a == b)) ∧ ∃ n, w' = w.drewN n := by
  have := like_r p _ cap _ q _ cap2 _ w hr hr2
  have he : decide (octs a = (octs b).take (lenI a)) = (a == b) := by
    rw [Bool.eq_iff_iff, decide_eq_true_iff, beq_iff_eq]
    constructor
    · exact octs_one a b ha hb hl
    · rintro rfl; rw [List.take_of_length_le (by rw [octs_len]; omega)]
  rwa [he] at this
set_option maxHeartbeats 4000000 in
set_option maxRecDepth 100000 in
theorem walk (a0 : Int) (a1 : Int) (w : World) (w0 : (Lit.int .i32 a0).wf = true) (w1 : (Lit.int .i32 a1).wf = true) :
    Calls Try.prog 6 #[.int .i32 a0, .int .i32 a1] w fun e w' => e = .returned (.bool true) ∧ Below w.heap.size w w' := by
  cases hs : scB a0
  · go_enter Try.func6, Try.ntmps6
    go_wp2_with (first
      | (go_at_call 19; (with_reducible refine (ref03_Is _ _).mono ?_); rintro e w' ⟨rfl, rfl⟩)
      | (go_at_call 7; (with_reducible refine (alive4_any _).mono ?_); rintro e w' ⟨rfl, hb⟩))
    go_ret
    exact ⟨rfl, hb⟩
  · cases hs2 : scB a1
    · go_enter Try.func6, Try.ntmps6
      go_wp2_with (first
        | (go_at_call 19; (with_reducible refine (ref03_Is _ _).mono ?_); rintro e w' ⟨rfl, rfl⟩)
        | (go_at_call 7; (with_reducible refine (alive4_any _).mono ?_); rintro e w' ⟨rfl, hb⟩))
      go_ret
      exact ⟨rfl, hb⟩
    · have HS := hid hs
      have HS2 := hid hs2
      have hp1 := (len_pos a0).2 hs
      have hl41 := lenI_le a0
      have hl42 := lenI_le a1
      by_cases hl : lenI a0 ≤ lenI a1
      · have hm : Hid (min (lenI a0) (lenI a1) = lenI a0) := Nat.min_eq_left hl
        go_enter Try.func6, Try.ntmps6
        go_wp2_with (first
          | (go_at_call 19; (with_reducible refine (ref03_Is _ _).mono ?_); rintro e w' ⟨rfl, rfl⟩)
          | (go_at_call 8; (with_reducible refine (put_nil _ _ HS2.out).mono ?_); rintro e w2 ⟨b2, c2, rfl, hr2, hb2⟩; have hb2' := below_then hb1 hb2; have hr1' := hr1.below hb2; have hr2' := hr2.pre hl; have hroom := hr2.room)
          | (go_at_call 8; (with_reducible refine (put_nil _ _ HS.out).mono ?_); rintro e w1 ⟨b1, c1, rfl, hr1, hb1⟩)
          | (go_at_call 10; (with_reducible refine (like_one _ _ _ _ _ _ _ HS.out HS2.out hl hr1' hr2').mono ?_); rintro e w3 ⟨rfl, n3, rfl⟩; have hb3 := Below.drewN hb2' n3)
          | (go_at_call 7; (with_reducible refine (alive4_any _).mono ?_); rintro e w' ⟨rfl, hb⟩))
        go_ret
        exact ⟨rfl, below_then' hb3 hb (by simp)⟩
      · have hne : (a0 == a1) = false := by rw [beq_eq_false_iff_ne]; rintro rfl; omega
        go_enter Try.func6, Try.ntmps6
        go_wp2_with (first
          | (go_at_call 19; (with_reducible refine (ref03_Is _ _).mono ?_); rintro e w' ⟨rfl, rfl⟩)
          | (go_at_call 8; (with_reducible refine (put_nil _ _ HS2.out).mono ?_); rintro e w2 ⟨b2, c2, rfl, hr2, hb2⟩; have hb2' := below_then hb1 hb2)
          | (go_at_call 8; (with_reducible refine (put_nil _ _ HS.out).mono ?_); rintro e w1 ⟨b1, c1, rfl, hr1, hb1⟩)
          | (go_at_call 7; (with_reducible refine (alive4_any _).mono ?_); rintro e w' ⟨rfl, hb⟩))
        go_ret
        exact ⟨rfl, below_then' hb2' hb (by simp)⟩

set_option maxRecDepth 100000 in
theorem lifted (os : Os) (started : os.Started) (H : Type) (enc : TypeId × Value → H) :
    ReturnsInHanded {} Try.checked os 6 .any (Rows.utfoneOneSpec.pre6 enc Try.prog Try.f6 Rows.utfoneOneRow.domain false) (Rows.utfoneOneSpec.post enc Try.prog Try.f6 false true false false) := by
  refine returnsInHanded_of_change (C := Try.checked) own started (by kernel_rfl) Try.func6
    (ChangeSpec.witness6 (enc := enc) (C := Try.checked) false ⟨#[], #[.int .i32 0, .int .i32 0], []⟩ 8 (by kernel_rfl) (by kernel_rfl) (by kernel_rfl) (by kernel_rfl)) ?_
  intro W base args ds gs before hval0 hW hcnd _
  have hval : ∀ (j : Nat) t v, Try.f6.params[j]? = some t → args[j]? = some v → Value.okWide Try.prog W .any base t v := hval0
  have hW' := hW
  obtain ⟨p, q, hA0, hV, rfl, hfz, hnd⟩ := hW
  have hA : DataW.TrodAll enc Try.prog W 0 (fun _ => true) true Try.f6.params.toList args.toList ds p := hA0
  rw [Try.params6] at hA hval
  obtain ⟨v0, vs0, d0, ds0, p0, q0, hargs, rfl, rfl, h0, r_0⟩ := trodAll_cons hA
  obtain ⟨v1, vs1, d1, ds1, p1, q1, rfl, rfl, rfl, h1, r_1⟩ := trodAll_cons r_0
  obtain ⟨rfl, rfl, rfl⟩ := trodAll_nil r_1
  obtain rfl : args = #[v0, v1] := by cases args; simp_all
  obtain ⟨rfl, rfl⟩ := trodVars_none hV
  obtain ⟨a0, rfl, rfl, rfl, w0⟩ := open_int Try.underlying21 (hval 0 21 v0 rfl rfl) h0
  obtain ⟨a1, rfl, rfl, rfl, w1⟩ := open_int Try.underlying21 (hval 1 21 v1 rfl rfl) h1
  clear hA0 hval0
  refine (walk a0 a1 W w0 w1).mono fun e W' ⟨he, bel⟩ => ?_
  subst he
  exact ⟨_, rfl, _, _, _, [], _, [], hW', trodAll_mk1 (shut_bool Try.underlying4 _), (trodAll_cons_mk (shut_int Try.underlying21 w0) (trodAll_cons_mk (shut_int Try.underlying21 w1) trodAll_mk0)), rfl, bel.frame _, fun h => by cases h⟩

theorem over : Rows.utfoneOneRow.holds Try.pinned (OpenSpec.ofChange Rows.utfoneOneSpec) :=
  OpenClaim.holds_of_wide 6 Try.f6 rfl rfl rfl rfl rfl rfl rfl ⟨rfl, rfl, rfl, rfl, rfl⟩ rfl rfl rfl rfl rfl (by kernel_rfl) Try.func6 (by kernel_rfl)
    (of_decide_eq_true (by kernel_rfl)) (by unfold Func.isWrapper; first | (rw [if_pos (by decide +kernel)]; kernel_rfl) | (rw [if_neg (by decide +kernel)]; exact ⟨rfl, rfl⟩))
    (fun os started H enc _ => lifted os started H enc)

end Go.Proofs.Ytfmbpcjmpggodaa.utfoneOne
namespace Go.Proofs.Ytfmbpcjmpggodaa
theorem utfoneOne_holds : Rows.UtfoneOneSaid := utfoneOne.over
#print axioms utfoneOne_holds
end Go.Proofs.Ytfmbpcjmpggodaa
