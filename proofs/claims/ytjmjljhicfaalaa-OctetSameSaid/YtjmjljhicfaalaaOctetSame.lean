/-
  Proved: for all []byte a and b (nil, empty, of any length and capacity, sharing memory or not), in whatever memory and on every schedule, sheavelaw01.OctetSame(a, b) returns true, without a panic or a race, and its arguments read as before. No condition.
-/
import Derived.Test.YtjmjljhicfaalaaRows
import Derived.Test.YtjmjljhicfaalaaAlive01
import Derived.WalkKit
import Derived.ProofKit
import Derived.OpenShut
import Derived.ShutString
import Derived.ChangeOld
import Derived.Below
namespace Go.Proofs.Ytjmjljhicfaalaa.octetSame
open Go.ChangeShapes Go.WideShapes Go.ChangeAt Go.RowKit
open Go.ChangeMaps (open_string shut_string)
set_option linter.unusedVariables false

theorem own : ownKnob Try.prog.godebug = none := by kernel_rfl
theorem laidOut : laidOutB Try.prog = true := by kernel_rfl
theorem low_low (x : Int) : lowI (lowI x) = lowI x := by unfold lowI; (repeat' split) <;> omega
theorem map_low (xs : List Int) : (xs.map lowI).map lowI = xs.map lowI := by
  rw [List.map_map]; exact List.map_congr_left (fun x _ => low_low x)
theorem same_self (a : Option Addr) (len cap : Nat) (xs : List Int) (a2 : Option Addr) (len2 cap2 : Nat) (w : World) (hr : Reads .u8 w a len cap xs) (hr2 : Reads .u8 w a2 len2 cap2 (xs.map lowI)) :
    Calls Try.prog 22 #[.slice a len cap, .slice a2 len2 cap2] w fun e w' => e = .returned (.bool true) ∧ ∃ n, w' = w.drewN n := by
  have := same_c a len cap xs a2 len2 cap2 _ w hr hr2
  rwa [map_low, decide_eq_true rfl] at this
theorem fold_self (a : Option Addr) (len cap : Nat) (xs : List Int) (w : World) (hr : Reads .u8 w a len cap (xs.map lowI)) (hN : len < 1000000000000) :
    Calls Try.prog 18 #[.slice a len cap] w fun e w' => ∃ a' cap', e = .returned (.slice a' len cap') ∧ Reads .u8 w' a' len cap' (xs.map lowI) ∧ Below w.heap.size w w' := by
  have := fold_c a len cap _ w hr hN
  rwa [map_low] at this
set_option maxHeartbeats 4000000 in
set_option maxRecDepth 100000 in
theorem walk (a0 : Option Addr) (len0 cap0 : Nat) (xs0 : List Int) (a1 : Option Addr) (len1 cap1 : Nat) (xs1 : List Int) (w : World) (r0 : Reads .u8 w a0 len0 cap0 xs0) (r1 : Reads .u8 w a1 len1 cap1 xs1) :
    Calls Try.prog 5 #[.slice a0 len0 cap0, .slice a1 len1 cap1] w fun e w' => e = .returned (.bool true) ∧ Below w.heap.size w w' := by
  by_cases hN : len0 ≤ 1000 ∧ len1 ≤ 1000
  · obtain ⟨hN0, hN1⟩ := hN
    have R := hid r0
    have S := hid r1
    clear r0 r1
    go_enter Try.func5, Try.ntmps5
    go_wp2_with (first
      | (go_at_call 18; (with_reducible refine (fold_c _ _ _ _ _ R.out (by omega)).mono ?_); rintro e w1 ⟨b1, c1, rfl, hr1, hb1⟩)
      | (go_at_call 22; (with_reducible refine (same_c _ _ _ _ _ _ _ _ _ (R.out.below hb1) (S.out.below hb1)).mono ?_); rintro e w2 ⟨rfl, n2, rfl⟩; have hb2 := Below.drewN hb1 n2; have hr2 := hr1.below (Below.drewN (Below.refl _ _) n2))
      | (go_at_call 19; (with_reducible refine (fold_r _ _ _ _ _ (R.out.below hb2) (by omega)).mono ?_); rintro e w3 ⟨b3, c3, rfl, hr3, hb3⟩; have hb3' := below_then hb2 hb3)
      | (go_at_call 19; (with_reducible refine (fold_r _ _ _ _ _ (S.out.below hb3') (by omega)).mono ?_); rintro e w4 ⟨b4, c4, rfl, hr4, hb4⟩; have hr3' := hr3.below hb4; have hb4' := below_then hb3' hb4; have hr2' := hr2.below (below_then hb3 hb4))
      | (go_at_call 17; (with_reducible refine (like_r _ _ _ _ _ _ _ _ _ hr3' hr4).mono ?_); rintro e w5 ⟨rfl, n5, rfl⟩; have hb5 := Below.drewN hb4' n5; have hr5 := hr2'.below (Below.drewN (Below.refl _ _) n5))
      | (go_at_call 22; (with_reducible refine (same_self _ _ _ _ _ _ _ _ (R.out.below hb5) hr5).mono ?_); rintro e w6 ⟨rfl, n6, rfl⟩; have hb6 := Below.drewN hb4' (n5 + n6); have hr6 := hr2'.below (Below.drewN (Below.refl _ _) (n5 + n6)))
      | (go_at_call 18; (with_reducible refine (fold_self _ _ _ _ _ hr6 (by omega)).mono ?_); rintro e w7 ⟨b7, c7, rfl, hr7, hb7⟩; have hb7' := below_then hb6 hb7; have hr6' := hr6.below hb7)
      | (go_at_call 17; (with_reducible refine (like_r _ _ _ _ _ _ _ _ _ hr7 hr6').mono ?_); rintro e w8 ⟨rfl, n8, rfl⟩)
      | (go_at_call 13; (with_reducible refine (alive_any _).mono ?_); rintro e w' ⟨rfl, hb⟩))
    go_ret
    exact ⟨rfl, below_then (Below.drewN hb7' n8) hb⟩
  · have hN' : 1000 < len0 ∨ 1000 < len1 := by omega
    go_enter Try.func5, Try.ntmps5
    go_wp2_with (go_at_call 13; (with_reducible refine (alive_any _).mono ?_); rintro e w' ⟨rfl, hb⟩)
    all_goals
      go_ret
      exact ⟨rfl, hb⟩

set_option maxRecDepth 100000 in
theorem lifted (os : Os) (started : os.Started) (H : Type) (enc : TypeId × Value → H) :
    ReturnsInHanded {} Try.checked os 5 .any (Rows.octetSameSpec.pre6 enc Try.prog Try.f5 Rows.octetSameRow.domain false) (Rows.octetSameSpec.post enc Try.prog Try.f5 false true false false) := by
  refine returnsInHanded_of_change (C := Try.checked) own started (by kernel_rfl) Try.func5
    (ChangeSpec.witness6 (enc := enc) (C := Try.checked) false ⟨#[], #[.slice none 0 0, .slice none 0 0], []⟩ 8 (by kernel_rfl) (by kernel_rfl) (by kernel_rfl) (by kernel_rfl)) ?_
  intro W base args ds gs before hval0 hW hcnd _
  have hval : ∀ (j : Nat) t v, Try.f5.params[j]? = some t → args[j]? = some v → Value.okWide Try.prog W .any base t v := hval0
  have hW' := hW
  obtain ⟨p, q, hA0, hV, rfl, hfz, hnd⟩ := hW
  have hA : DataW.TrodAll enc Try.prog W 0 (fun _ => true) true Try.f5.params.toList args.toList ds p := hA0
  rw [Try.params5] at hA hval
  obtain ⟨v0, vs0, d0, ds0, p0, q0, hargs, rfl, rfl, h0, r_0⟩ := trodAll_cons hA
  obtain ⟨v1, vs1, d1, ds1, p1, q1, rfl, rfl, rfl, h1, r_1⟩ := trodAll_cons r_0
  obtain ⟨rfl, rfl, rfl⟩ := trodAll_nil r_1
  obtain rfl : args = #[v0, v1] := by cases args; simp_all
  obtain ⟨rfl, rfl⟩ := trodVars_none hV
  obtain ⟨a0, len0, cap0, rfl⟩ := okWide_slice Try.underlying26 (hval 0 26 v0 rfl rfl)
  have k0 := h0
  have lt0 : ∀ x ∈ p0, x.block < W.heap.size := by obtain ⟨m, hm⟩ := k0; exact DataW.trod_lt m _ _ _ hm
  obtain ⟨xs0, r0⟩ : ∃ xs, Reads .u8 W a0 len0 cap0 xs := by
    obtain ⟨fuel, hf⟩ := h0
    rcases open_ints Try.underlying26 Try.underlying5 (by kernel_rfl) hf with ⟨hcs, _⟩ | ⟨x, l, c, zs, hcs, _, hl, hm, hz, _, hcell, hwz⟩
    · simp [Value.cells] at hcs
      obtain ⟨rfl, rfl, rfl⟩ := hcs
      exact ⟨[], Reads.nil _ _ _ _ (Nat.zero_le _)⟩
    · simp [Value.cells] at hcs
      obtain ⟨rfl, rfl, rfl⟩ := hcs
      exact ⟨_, reads_of_ints hl hm (by simpa using hz) hcell hwz⟩
  obtain ⟨a1, len1, cap1, rfl⟩ := okWide_slice Try.underlying26 (hval 1 26 v1 rfl rfl)
  have k1 := h1
  have lt1 : ∀ x ∈ p1, x.block < W.heap.size := by obtain ⟨m, hm⟩ := k1; exact DataW.trod_lt m _ _ _ hm
  obtain ⟨xs1, r1⟩ : ∃ xs, Reads .u8 W a1 len1 cap1 xs := by
    obtain ⟨fuel, hf⟩ := h1
    rcases open_ints Try.underlying26 Try.underlying5 (by kernel_rfl) hf with ⟨hcs, _⟩ | ⟨x, l, c, zs, hcs, _, hl, hm, hz, _, hcell, hwz⟩
    · simp [Value.cells] at hcs
      obtain ⟨rfl, rfl, rfl⟩ := hcs
      exact ⟨[], Reads.nil _ _ _ _ (Nat.zero_le _)⟩
    · simp [Value.cells] at hcs
      obtain ⟨rfl, rfl, rfl⟩ := hcs
      exact ⟨_, reads_of_ints hl hm (by simpa using hz) hcell hwz⟩
  clear hA0 hval0
  refine (walk a0 len0 cap0 xs0 a1 len1 cap1 xs1 W r0 r1).mono fun e W' ⟨he, bel⟩ => ?_
  subst he
  exact ⟨_, rfl, _, _, _, [], _, [], hW', trodAll_mk1 (shut_bool Try.underlying4 _), (trodAll_cons_mk (Below.trod laidOut (by kernel_rfl) (of_decide_eq_true (by kernel_rfl)) k0 bel lt0) (trodAll_cons_mk (Below.trod laidOut (by kernel_rfl) (of_decide_eq_true (by kernel_rfl)) k1 bel lt1) trodAll_mk0)), rfl, bel.frame _, fun h => by cases h⟩

theorem over : Rows.octetSameRow.holds Try.pinned (OpenSpec.ofChange Rows.octetSameSpec) :=
  OpenClaim.holds_of_wide 5 Try.f5 rfl rfl rfl rfl rfl rfl rfl ⟨rfl, rfl, rfl, rfl, rfl⟩ rfl rfl rfl rfl rfl (by kernel_rfl) Try.func5 (by kernel_rfl)
    (of_decide_eq_true (by kernel_rfl)) (by unfold Func.isWrapper; first | (rw [if_pos (by decide +kernel)]; kernel_rfl) | (rw [if_neg (by decide +kernel)]; exact ⟨rfl, rfl⟩))
    (fun os started H enc _ => lifted os started H enc)

end Go.Proofs.Ytjmjljhicfaalaa.octetSame
namespace Go.Proofs.Ytjmjljhicfaalaa
theorem octetSame_holds : Rows.OctetSameSaid := octetSame.over
#print axioms octetSame_holds
end Go.Proofs.Ytjmjljhicfaalaa
