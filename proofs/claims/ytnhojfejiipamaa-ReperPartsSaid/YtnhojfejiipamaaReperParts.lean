/-
  Proved: for every []rune t (nil, empty, of any length and capacity) and every int at, in whatever memory and on every schedule, sheavelaw12.ReperParts(t, at) returns true, without a panic or a race, and its argument reads as before. No condition.
-/
import Derived.Test.YtnhojfejiipamaaRows
import Derived.Test.YtnhojfejiipamaaAlive12
import Derived.Test.YtnhojfejiipamaaR12
import Derived.WalkKit
import Derived.ProofKit
import Derived.OpenShut
import Derived.ShutString
import Derived.ChangeOld
import Derived.Below
namespace Go.Proofs.Ytnhojfejiipamaa.reperParts
open Go.ChangeShapes Go.WideShapes Go.ChangeAt Go.RowKit
open Go.ChangeMaps (open_string shut_string)
set_option linter.unusedVariables false

theorem own : ownKnob Try.prog.godebug = none := by kernel_rfl
theorem laidOut : laidOutB Try.prog = true := by kernel_rfl
theorem all_selN {xs : List Int} (h : xs.all scB = true) : allR (selN xs) xs = true := by
  obtain ⟨k, k1, k2, _, k4, _⟩ := sel_right h
  rw [k2]
  unfold allR
  rw [decide_eq_true (p := 1 ≤ (k : Int) + 1 ∧ (k : Int) + 1 ≤ 5) (by omega), k4]
  rfl
set_option maxHeartbeats 4000000 in
set_option maxRecDepth 100000 in
theorem walk (a0 : Option Addr) (len0 cap0 : Nat) (xs0 : List Int) (a1 : Int) (w : World) (r0 : Reads .i32 w a0 len0 cap0 xs0) (w1 : (Lit.int .i64 a1).wf = true) :
    Calls Try.prog 5 #[.slice a0 len0 cap0, .int .i64 a1] w fun e w' => e = .returned (.bool true) ∧ Below w.heap.size w w' := by
  have hw1 := wf_i64 w1
  clear w1
  by_cases hN : len0 ≤ 200
  · have R := hid r0
    have hsz := r0.size
    have hcap := r0.room
    have hneg := idx_neg (fun c => !scB c) xs0
    simp only [Bool.not_not] at hneg
    clear r0
    cases hs : xs0.all scB
    · rw [hs] at hneg
      have hF : ¬ idxI (fun c => !scB c) xs0 < 0 := of_decide_eq_false hneg
      have hF0 : 0 ≤ idxI (fun c => !scB c) xs0 := by omega
      clear hneg hs
      go_enter Try.func5, Try.ntmps5
      go_wp2_with (first
        | (go_at_call 19; (with_reducible refine (ref03_First _ _ _ _ _ R.out).mono ?_); rintro e w' ⟨rfl, rfl⟩)
        | (go_at_call 13; (with_reducible refine (alive12_any _).mono ?_); rintro e w' ⟨rfl, hb⟩))
      go_ret
      exact ⟨rfl, hb⟩
    · rw [hs] at hneg
      have hF : idxI (fun c => !scB c) xs0 < 0 := of_decide_eq_true hneg
      obtain ⟨k, k1, k2, k3, k4, k5⟩ := sel_right hs
      have hAll := all_selN hs
      have hPart := sel_part hs
      have hS := reper_Select a0 len0 cap0 xs0 w R.out
      rw [k2, k3] at hS
      rw [k2] at hAll hPart
      have HS := hid hS
      have HPart := hid hPart
      have HK := hid k5
      have HAll := hid hAll
      clear hneg hs hS hPart k2 k3 k4 k5 hAll
      obtain ⟨p, hp, hpl⟩ : ∃ p : Nat, (min (max a1 0) (len0 : Int)) = p ∧ p ≤ len0 := ⟨(min (max a1 0) (len0 : Int)).toNat, by omega, by omega⟩
      obtain ⟨m, m1, m2, m3, m4⟩ := HPart.out p
      have hpc : p ≤ cap0 := Nat.le_trans hpl hcap
      have HM := hid (And.intro m1 (And.intro m2 m4))
      clear m1 m2 m4
      go_enter Try.func5, Try.ntmps5
      go_wp2_with (first
        | (go_at_call 19; (with_reducible refine (ref03_First _ _ _ _ _ R.out).mono ?_); rintro e w' ⟨rfl, rfl⟩)
        | (go_at_call 14; (with_reducible refine HS.out.mono ?_); rintro e w1 ⟨rfl, hb1⟩; have R1 := R.out.below hb1; have hA1 := reper_All ((k : Int) + 1) a0 len0 cap0 xs0 w1 R1; rw [HAll.out] at hA1; have HA1 := hid hA1; clear hA1)
        | (go_at_call 15; (with_reducible refine HA1.out.mono ?_); rintro e w2 ⟨rfl, hb2⟩; have hb2' := below_then hb1 hb2))
      go_loopw [7] (fun i wr => ∃ j : Nat, j ≤ k ∧ i = .int .i64 ((j : Int) + 1) ∧ Below w.heap.size w wr) (fun i _ => 6 - (intOf i).toNat)
      case atStart => exact ⟨0, Nat.zero_le _, rfl, hb2'⟩
      case round =>
        obtain ⟨j, hj, rfl, hB⟩ := hrel
        have R3 := R.out.below hB
        by_cases hjk : j < k
        · have hA := reper_All ((j : Int) + 1) a0 len0 cap0 xs0 wr R3
          rw [show allR ((j : Int) + 1) xs0 = false by unfold allR; rw [HK.out j hjk, Bool.and_false]] at hA
          have HA := hid hA
          clear hA
          go_wp2_with (go_at_call 15; (with_reducible refine HA.out.mono ?_); rintro e w3 ⟨rfl, hb3⟩; have hb3' := below_then hB hb3)
          go_roundw
          case rel => exact ⟨j + 1, by omega, by go_num, hb3'⟩
          case measure => simp [intOf]; omega
        · obtain rfl : j = k := by omega
          have hr3 := R3.pre hpl
          have hS3 := reper_Select a0 p cap0 _ wr hr3
          rw [HM.out.1, HM.out.2.1] at hS3
          have HS3 := hid hS3
          have HR3 := hid hr3
          clear hS3 hr3
          have key : (a1 < 0 ∧ p = 0) ∨ (a1 = (p : Int) ∧ 0 ≤ a1 ∧ a1 ≤ (len0 : Int)) ∨ ((len0 : Int) < a1 ∧ p = len0) := by omega
          clear hp
          rcases key with ⟨ha, rfl⟩ | ⟨rfl, ha0, ha1⟩ | ⟨ha, rfl⟩
          all_goals
            go_wp2_with (first
              | (go_at_call 14; (with_reducible refine HS3.out.mono ?_); rintro e w4 ⟨rfl, hb4⟩; have hb4' := below_then hB hb4; have hA4 := reper_All ((j : Int) + 1) a0 _ cap0 _ w4 (HR3.out.below hb4); rw [HM.out.2.2] at hA4; have HA4 := hid hA4; clear hA4)
              | (go_at_call 15; (with_reducible refine HA4.out.mono ?_); rintro e w5 ⟨rfl, hb5⟩; have hb5' := below_then hb4' hb5)
              | (go_at_call 13; (with_reducible refine (alive12_any _).mono ?_); rintro e w' ⟨rfl, hb⟩))
            go_ret
            exact ⟨rfl, below_then hb5' hb⟩
  · have hN' : 200 < len0 := by omega
    go_enter Try.func5, Try.ntmps5
    go_wp2_with (go_at_call 13; (with_reducible refine (alive12_any _).mono ?_); rintro e w' ⟨rfl, hb⟩)
    go_ret
    exact ⟨rfl, hb⟩

set_option maxRecDepth 100000 in
theorem lifted (os : Os) (started : os.Started) (H : Type) (enc : TypeId × Value → H) :
    ReturnsInHanded {} Try.checked os 5 .any (Rows.reperPartsSpec.pre6 enc Try.prog Try.f5 Rows.reperPartsRow.domain false) (Rows.reperPartsSpec.post enc Try.prog Try.f5 false true false false) := by
  refine returnsInHanded_of_change (C := Try.checked) own started (by kernel_rfl) Try.func5
    (ChangeSpec.witness6 (enc := enc) (C := Try.checked) false ⟨#[], #[.slice none 0 0, .int .i64 0], []⟩ 8 (by kernel_rfl) (by kernel_rfl) (by kernel_rfl) (by kernel_rfl)) ?_
  intro W base args ds gs before hval0 hW hcnd _
  have hval : ∀ (j : Nat) t v, Try.f5.params[j]? = some t → args[j]? = some v → Value.okWide Try.prog W .any base t v := hval0
  have hW' := hW
  obtain ⟨p, q, hA0, hV, rfl, hfz, hnd⟩ := hW
  have hA : DataW.TrodAll enc Try.prog W 0 (fun _ => true) true Try.f5.params.toList args.toList ds p := hA0
  rw [Try.params5] at hA hval
  obtain ⟨v0, vs0, d0, ds0, p0, q0, hargs, rfl, rfl, h0, r_0⟩ := trodAll_cons hA
  obtain ⟨v1, vs1, d1, ds1, p1, q1, rfl, rfl, rfl, h1, r_1⟩ := trodAll_cons r_0
  obtain ⟨rfl, rfl, rfl⟩ := trodAll_nil r_1
  obtain rfl : args = #[v0, v1] := by cases args; simp_all
  obtain ⟨rfl, rfl⟩ := trodVars_none hV
  obtain ⟨a0, len0, cap0, rfl⟩ := okWide_slice Try.underlying24 (hval 0 24 v0 rfl rfl)
  have k0 := h0
  have lt0 : ∀ x ∈ p0, x.block < W.heap.size := by obtain ⟨m, hm⟩ := k0; exact DataW.trod_lt m _ _ _ hm
  obtain ⟨xs0, r0⟩ : ∃ xs, Reads .i32 W a0 len0 cap0 xs := by
    obtain ⟨fuel, hf⟩ := h0
    rcases open_ints Try.underlying24 Try.underlying21 (by kernel_rfl) hf with ⟨hcs, _⟩ | ⟨x, l, c, zs, hcs, _, hl, hm, hz, _, hcell, hwz⟩
    · simp [Value.cells] at hcs
      obtain ⟨rfl, rfl, rfl⟩ := hcs
      exact ⟨[], Reads.nil _ _ _ _ (Nat.zero_le _)⟩
    · simp [Value.cells] at hcs
      obtain ⟨rfl, rfl, rfl⟩ := hcs
      exact ⟨_, reads_of_ints hl hm (by simpa using hz) hcell hwz⟩
  obtain ⟨a1, rfl, rfl, rfl, w1⟩ := open_int Try.underlying3 (hval 1 3 v1 rfl rfl) h1
  clear hA0 hval0
  refine (walk a0 len0 cap0 xs0 a1 W r0 w1).mono fun e W' ⟨he, bel⟩ => ?_
  subst he
  exact ⟨_, rfl, _, _, _, [], _, [], hW', trodAll_mk1 (shut_bool Try.underlying4 _), (trodAll_cons_mk (Below.trod laidOut (by kernel_rfl) (of_decide_eq_true (by kernel_rfl)) k0 bel lt0) (trodAll_cons_mk (shut_int Try.underlying3 w1) trodAll_mk0)), rfl, bel.frame _, fun h => by cases h⟩

theorem over : Rows.reperPartsRow.holds Try.pinned (OpenSpec.ofChange Rows.reperPartsSpec) :=
  OpenClaim.holds_of_wide 5 Try.f5 rfl rfl rfl rfl rfl rfl rfl ⟨rfl, rfl, rfl, rfl, rfl⟩ rfl rfl rfl rfl rfl (by kernel_rfl) Try.func5 (by kernel_rfl)
    (of_decide_eq_true (by kernel_rfl)) (by unfold Func.isWrapper; first | (rw [if_pos (by decide +kernel)]; kernel_rfl) | (rw [if_neg (by decide +kernel)]; exact ⟨rfl, rfl⟩))
    (fun os started H enc _ => lifted os started H enc)

end Go.Proofs.Ytnhojfejiipamaa.reperParts
namespace Go.Proofs.Ytnhojfejiipamaa
theorem reperParts_holds : Rows.ReperPartsSaid := reperParts.over
#print axioms reperParts_holds
end Go.Proofs.Ytnhojfejiipamaa
