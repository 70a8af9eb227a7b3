/-
  Proved: for every []uint16 u and every []byte s (nil, empty, of any length and capacity), in whatever memory and on every schedule, sheavelaw06.UnitsOctets(u, s) returns true, without a panic or a race, and its arguments read as before. No condition.
-/
import Derived.Test.YteihhadcmmdidaaRows
import Derived.Test.YteihhadcmmdidaaAlive06
import Derived.Test.YteihhadcmmdidaaR06b
import Derived.WalkKit
import Derived.ProofKit
import Derived.OpenShut
import Derived.ShutString
import Derived.ChangeOld
import Derived.Below
namespace Go.Proofs.Yteihhadcmmdidaa.unitsOctets
open Go.ChangeShapes Go.WideShapes Go.ChangeAt Go.RowKit
open Go.ChangeMaps (open_string shut_string)
set_option linter.unusedVariables false

theorem own : ownKnob Try.prog.godebug = none := by kernel_rfl
theorem laidOut : laidOutB Try.prog = true := by kernel_rfl
theorem same6 (a : Option Addr) (len cap : Nat) (a2 : Option Addr) (len2 cap2 : Nat) (xs : List Int) (w : World) (hr : Reads .u16 w a len cap xs) (hr2 : Reads .u16 w a2 len2 cap2 xs) :
    Calls Try.prog 10 #[.slice a len cap, .slice a2 len2 cap2] w fun e w' => e = .returned (.bool true) ∧ ∃ n, w' = w.drewN n := by
  have := ref06_Same a len cap xs a2 len2 cap2 xs w hr hr2
  rwa [decide_eq_true rfl] at this
theorem like6_same (a : Option Addr) (len cap : Nat) (a2 : Option Addr) (len2 cap2 : Nat) (xs : List Int) (w : World) (hr : Reads .u8 w a len cap xs) (hr2 : Reads .u8 w a2 len2 cap2 xs) :
    Calls Try.prog 25 #[.slice a len cap, .slice a2 len2 cap2] w fun e w' => e = .returned (.bool true) ∧ ∃ n, w' = w.drewN n := by
  have := like_r a len cap xs a2 len2 cap2 xs w hr hr2
  rwa [decide_eq_true rfl] at this
theorem from_octs (a : Option Addr) (cap : Nat) (u : List Int) (n : Nat) (hn : u.length = n) (w : World) (hr : Reads .u8 w a (ocU u).length cap (ocU u)) (hN : u.length < 1000000000) :
    Calls Try.prog 22 #[.slice a (ocU u).length cap] w fun e w' => ∃ a' cap', e = .returned (.tuple #[.slice a' n cap', .int .i64 0]) ∧ Reads .u16 w' a' n cap' u ∧ Below w.heap.size w w' := by
  subst hn
  have hl := ocU_len u
  have := units_FromOctets a (ocU u).length cap (ocU u) w hr (by omega) (by omega)
  rwa [prU_ocU] at this
theorem octs_back (a : Option Addr) (cap : Nat) (s : List Int) (n : Nat) (hn : s.length = n) (w : World) (hr : Reads .u16 w a (prU s).length cap (prU s)) (hN : s.length < 1000000000) (he : s.length % 2 = 0) (hb : ∀ x ∈ s, 0 ≤ x ∧ x ≤ 255) :
    Calls Try.prog 24 #[.slice a (prU s).length cap] w fun e w' => ∃ a' cap', e = .returned (.slice a' n cap') ∧ Reads .u8 w' a' n cap' s ∧ Below w.heap.size w w' := by
  subst hn
  have hl := prU_len s
  have := units_Octets a (prU s).length cap (prU s) w hr (by omega)
  rwa [ocU_prU s he hb] at this
set_option maxHeartbeats 4000000 in
set_option maxRecDepth 100000 in
theorem walk (a0 : Option Addr) (len0 cap0 : Nat) (xs0 : List Int) (a1 : Option Addr) (len1 cap1 : Nat) (xs1 : List Int) (w : World) (r0 : Reads .u16 w a0 len0 cap0 xs0) (r1 : Reads .u8 w a1 len1 cap1 xs1) :
    Calls Try.prog 5 #[.slice a0 len0 cap0, .slice a1 len1 cap1] w fun e w' => e = .returned (.bool true) ∧ Below w.heap.size w w' := by
  by_cases hN : len0 ≤ 500 ∧ len1 ≤ 1000
  · obtain ⟨hN0, hN1⟩ := hN
    have hs0 := r0.size
    have hs1 := r1.size
    have hb1 := hid (fun x hx => wf_u8 (r1.wf x hx))
    have R0 := hid r0
    have R1 := hid r1
    have hu : xs0.length < 1000000000 := by omega
    have hv : xs1.length < 1000000000 := by omega
    clear r0 r1
    by_cases he : len1 % 2 = 0
    · have he1 : xs1.length % 2 = 0 := by omega
      go_enter Try.func5, Try.ntmps5
      go_wp2_with (first
        | (go_at_call 22; (with_reducible refine (from_octs _ _ _ _ hs0 _ hr3 hu).mono ?_); rintro e v4 ⟨a4, c4, rfl, hr4, hb4⟩; have hB4 := below_then hB3 hb4; have hr1b := hr1a.below hb4; have hr2b := hr2a.below hb4)
        | (go_at_call 22; (with_reducible refine (units_FromOctets _ _ _ _ _ R1.out (by omega) he).mono ?_); rintro e v1 ⟨a1, c1, rfl, hr1, hB1⟩; have Q1 := R1.out.below hB1)
        | (go_at_call 23; (with_reducible refine (ref06_FromOctets _ _ _ _ _ Q1 (by omega) he).mono ?_); rintro e v2 ⟨a2, c2, rfl, hr2, hb2⟩; have hB2 := below_then hB1 hb2; have hr1' := hr1.below hb2; have P2 := R0.out.below hB2)
        | (go_at_call 24; (with_reducible refine (octs_back _ _ _ _ hs1 _ hr1g hv he1 hb1.out).mono ?_); rintro e v10 ⟨a10, c10, rfl, hr10, hb10⟩; have hB10 := below_then' hB9 hb10 (by simp); have Q10 := R1.out.below hB10)
        | (go_at_call 24; (with_reducible refine (units_Octets _ _ _ _ _ P5 (by omega)).mono ?_); rintro e v6 ⟨a6, c6, rfl, hr6, hb6⟩; have hB6 := below_then' hB5 hb6 (by simp); have P6 := R0.out.below hB6; have hr1d := hr1c.below hb6; have hr4b := hr4a.below hb6)
        | (go_at_call 24; (with_reducible refine (units_Octets _ _ _ _ _ P2 (by omega)).mono ?_); rintro e v3 ⟨a3, c3, rfl, hr3, hb3⟩; have hB3 := below_then hB2 hb3; have hr1a := hr1'.below hb3; have hr2a := hr2.below hb3)
        | (go_at_call 10; (with_reducible refine (same6 _ _ _ _ _ _ _ _ hr4d P8).mono ?_); rintro e v9 ⟨rfl, n9, rfl⟩; have hB9 := Below.drewN hB7 (n8 + n9); have hr1g := hr1e.below (Below.drewN (Below.refl _ _) (n8 + n9)))
        | (go_at_call 10; (with_reducible refine (same6 _ _ _ _ _ _ _ _ hr1b hr2b).mono ?_); rintro e v5 ⟨rfl, n5, rfl⟩; have hB5 := Below.drewN hB4 n5; have P5 := R0.out.below hB5; have hr1c := hr1b.below (Below.drewN (Below.refl _ _) n5); have hr4a := hr4.below (Below.drewN (Below.refl _ _) n5))
        | (go_at_call 26; (with_reducible refine (ref06_Octets _ _ _ _ _ P6 (by omega)).mono ?_); rintro e v7 ⟨a7, c7, rfl, hr7, hb7⟩; have hB7 := below_then hB6 hb7; have hr6a := hr6.below hb7; have hr1e := hr1d.below hb7; have hr4c := hr4b.below hb7)
        | (go_at_call 25; (with_reducible refine (like6_same _ _ _ _ _ _ _ _ hr10 Q10).mono ?_); rintro e v11 ⟨rfl, n11, rfl⟩; have hB11 := Below.drewN hB10 n11)
        | (go_at_call 25; (with_reducible refine (like6_same _ _ _ _ _ _ _ _ hr6a hr7).mono ?_); rintro e v8 ⟨rfl, n8, rfl⟩; have hB8 := Below.drewN hB7 n8; have P8 := R0.out.below hB8; have hr1f := hr1e.below (Below.drewN (Below.refl _ _) n8); have hr4d := hr4c.below (Below.drewN (Below.refl _ _) n8))
        | (go_at_call 7; (with_reducible refine (alive6_any _).mono ?_); rintro e w' ⟨rfl, hb⟩))
      all_goals
        go_ret
        exact ⟨rfl, below_then' hB11 hb (by simp)⟩
    · have he2 : len1 % 2 = 1 := by omega
      clear he
      go_enter Try.func5, Try.ntmps5
      go_wp2_with (first
        | (go_at_call 22; (with_reducible refine (from_octs _ _ _ _ hs0 _ hr3 hu).mono ?_); rintro e v4 ⟨a4, c4, rfl, hr4, hb4⟩; have hB4 := below_then hB3 hb4)
        | (go_at_call 22; (with_reducible refine (units_FromOctetsNo _ _ _ _ (by omega) he2).mono ?_); rintro e v1 ⟨rfl, rfl⟩)
        | (go_at_call 23; (with_reducible refine (ref06_FromOctetsNo _ _ _ _ (by omega) he2).mono ?_); rintro e v2 ⟨rfl, rfl⟩)
        | (go_at_call 24; (with_reducible refine (units_Octets _ _ _ _ _ P5 (by omega)).mono ?_); rintro e v6 ⟨a6, c6, rfl, hr6, hb6⟩; have hB6 := below_then' hB5 hb6 (by simp); have P6 := R0.out.below hB6; have hr4b := hr4a.below hb6)
        | (go_at_call 24; (with_reducible refine (units_Octets _ _ _ _ _ R0.out (by omega)).mono ?_); rintro e v3 ⟨a3, c3, rfl, hr3, hB3⟩)
        | (go_at_call 10; (with_reducible refine (same6 _ _ _ _ _ _ _ _ hr4d P8).mono ?_); rintro e v9 ⟨rfl, n9, rfl⟩; have hB9 := Below.drewN hB7 (n8 + n9))
        | (go_at_call 10; (with_reducible refine (same6 _ _ _ _ _ _ _ _ (Reads.nil _ _ _ _ (Nat.zero_le _)) (Reads.nil _ _ _ _ (Nat.zero_le _))).mono ?_); rintro e v5 ⟨rfl, n5, rfl⟩; have hB5 := Below.drewN hB4 n5; have P5 := R0.out.below hB5; have hr4a := hr4.below (Below.drewN (Below.refl _ _) n5))
        | (go_at_call 26; (with_reducible refine (ref06_Octets _ _ _ _ _ P6 (by omega)).mono ?_); rintro e v7 ⟨a7, c7, rfl, hr7, hb7⟩; have hB7 := below_then hB6 hb7; have hr6a := hr6.below hb7; have hr4c := hr4b.below hb7)
        | (go_at_call 25; (with_reducible refine (like6_same _ _ _ _ _ _ _ _ hr6a hr7).mono ?_); rintro e v8 ⟨rfl, n8, rfl⟩; have hB8 := Below.drewN hB7 n8; have P8 := R0.out.below hB8; have hr4d := hr4c.below (Below.drewN (Below.refl _ _) n8))
        | (go_at_call 7; (with_reducible refine (alive6_any _).mono ?_); rintro e w' ⟨rfl, hb⟩))
      all_goals
        go_ret
        exact ⟨rfl, below_then' hB9 hb (by simp)⟩
  · have hN' : 500 < len0 ∨ 1000 < len1 := by omega
    by_cases h0 : len0 ≤ 500
    · have h1 : 1000 < len1 := by omega
      clear hN hN'
      go_enter Try.func5, Try.ntmps5
      go_wp2_with (go_at_call 7; (with_reducible refine (alive6_any _).mono ?_); rintro e w' ⟨rfl, hb⟩)
      all_goals
        go_ret
        exact ⟨rfl, hb⟩
    · have h0' : 500 < len0 := by omega
      clear hN hN'
      go_enter Try.func5, Try.ntmps5
      go_wp2_with (go_at_call 7; (with_reducible refine (alive6_any _).mono ?_); rintro e w' ⟨rfl, hb⟩)
      all_goals
        go_ret
        exact ⟨rfl, hb⟩

set_option maxRecDepth 100000 in
theorem lifted (os : Os) (started : os.Started) (H : Type) (enc : TypeId × Value → H) :
    ReturnsInHanded {} Try.checked os 5 .any (Rows.unitsOctetsSpec.pre6 enc Try.prog Try.f5 Rows.unitsOctetsRow.domain false) (Rows.unitsOctetsSpec.post enc Try.prog Try.f5 false true false false) := by
  refine returnsInHanded_of_change (C := Try.checked) own started (by kernel_rfl) Try.func5
    (ChangeSpec.witness6 (enc := enc) (C := Try.checked) false ⟨#[], #[.slice none 0 0, .slice none 0 0], []⟩ 8 (by kernel_rfl) (by kernel_rfl) (by kernel_rfl) (by kernel_rfl)) ?_
  intro W base args ds gs before hval0 hW hcnd _
  have hval : ∀ (j : Nat) t v, Try.f5.params[j]? = some t → args[j]? = some v → Value.okWide Try.prog W .any base t v := hval0
  have hW' := hW
  obtain ⟨p, q, hA0, hV, rfl, hfz, hnd⟩ := hW
  have hA : DataW.TrodAll enc Try.prog W 0 (fun _ => true) true Try.f5.params.toList args.toList ds p := hA0
  rw [Try.params5] at hA hval
  obtain ⟨v0, vs0, d0, ds0, p0, q0, hargs, rfl, rfl, h0, r_0⟩ := trodAll_cons hA
  obtain ⟨v1, vs1, d1, ds1, p1, q1, rfl, rfl, rfl, h1, r_1⟩ := trodAll_cons r_0
  obtain ⟨rfl, rfl, rfl⟩ := trodAll_nil r_1
  obtain rfl : args = #[v0, v1] := by cases args; simp_all
  obtain ⟨rfl, rfl⟩ := trodVars_none hV
  obtain ⟨a0, len0, cap0, rfl⟩ := okWide_slice Try.underlying24 (hval 0 24 v0 rfl rfl)
  have k0 := h0
  have lt0 : ∀ x ∈ p0, x.block < W.heap.size := by obtain ⟨m, hm⟩ := k0; exact DataW.trod_lt m _ _ _ hm
  obtain ⟨xs0, r0⟩ : ∃ xs, Reads .u16 W a0 len0 cap0 xs := by
    obtain ⟨fuel, hf⟩ := h0
    rcases open_ints Try.underlying24 Try.underlying38 (by kernel_rfl) hf with ⟨hcs, _⟩ | ⟨x, l, c, zs, hcs, _, hl, hm, hz, _, hcell, hwz⟩
    · simp [Value.cells] at hcs
      obtain ⟨rfl, rfl, rfl⟩ := hcs
      exact ⟨[], Reads.nil _ _ _ _ (Nat.zero_le _)⟩
    · simp [Value.cells] at hcs
      obtain ⟨rfl, rfl, rfl⟩ := hcs
      exact ⟨_, reads_of_ints hl hm (by simpa using hz) hcell hwz⟩
  obtain ⟨a1, len1, cap1, rfl⟩ := okWide_slice Try.underlying42 (hval 1 42 v1 rfl rfl)
  have k1 := h1
  have lt1 : ∀ x ∈ p1, x.block < W.heap.size := by obtain ⟨m, hm⟩ := k1; exact DataW.trod_lt m _ _ _ hm
  obtain ⟨xs1, r1⟩ : ∃ xs, Reads .u8 W a1 len1 cap1 xs := by
    obtain ⟨fuel, hf⟩ := h1
    rcases open_ints Try.underlying42 Try.underlying5 (by kernel_rfl) hf with ⟨hcs, _⟩ | ⟨x, l, c, zs, hcs, _, hl, hm, hz, _, hcell, hwz⟩
    · simp [Value.cells] at hcs
      obtain ⟨rfl, rfl, rfl⟩ := hcs
      exact ⟨[], Reads.nil _ _ _ _ (Nat.zero_le _)⟩
    · simp [Value.cells] at hcs
      obtain ⟨rfl, rfl, rfl⟩ := hcs
      exact ⟨_, reads_of_ints hl hm (by simpa using hz) hcell hwz⟩
  clear hA0 hval0
  refine (walk a0 len0 cap0 xs0 a1 len1 cap1 xs1 W r0 r1).mono fun e W' ⟨he, bel⟩ => ?_
  subst he
  exact ⟨_, rfl, _, _, _, [], _, [], hW', trodAll_mk1 (shut_bool Try.underlying4 _), (trodAll_cons_mk (Below.trod laidOut (by kernel_rfl) (of_decide_eq_true (by kernel_rfl)) k0 bel lt0) (trodAll_cons_mk (Below.trod laidOut (by kernel_rfl) (of_decide_eq_true (by kernel_rfl)) k1 bel lt1) trodAll_mk0)), rfl, bel.frame _, fun h => by cases h⟩

theorem over : Rows.unitsOctetsRow.holds Try.pinned (OpenSpec.ofChange Rows.unitsOctetsSpec) :=
  OpenClaim.holds_of_wide 5 Try.f5 rfl rfl rfl rfl rfl rfl rfl ⟨rfl, rfl, rfl, rfl, rfl⟩ rfl rfl rfl rfl rfl (by kernel_rfl) Try.func5 (by kernel_rfl)
    (of_decide_eq_true (by kernel_rfl)) (by unfold Func.isWrapper; first | (rw [if_pos (by decide +kernel)]; kernel_rfl) | (rw [if_neg (by decide +kernel)]; exact ⟨rfl, rfl⟩))
    (fun os started H enc _ => lifted os started H enc)

end Go.Proofs.Yteihhadcmmdidaa.unitsOctets
namespace Go.Proofs.Yteihhadcmmdidaa
theorem unitsOctets_holds : Rows.UnitsOctetsSaid := unitsOctets.over
#print axioms unitsOctets_holds
end Go.Proofs.Yteihhadcmmdidaa
