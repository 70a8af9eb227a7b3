/-
  Proved: for every []uint16 u (nil, empty, of any length and capacity), in whatever memory and on every schedule, sheavelaw06.UnitsReads(u) returns true, without a panic or a race, and its argument reads as before. No condition.
-/
import Derived.Test.YteihhadcmmdidaaRows
import Derived.Test.YteihhadcmmdidaaAlive06
import Derived.Test.YteihhadcmmdidaaR06b
import Derived.WalkKit
import Derived.ProofKit
import Derived.OpenShut
import Derived.ShutString
import Derived.ChangeOld
import Derived.Below
namespace Go.Proofs.Yteihhadcmmdidaa.unitsReads
open Go.ChangeShapes Go.WideShapes Go.ChangeAt Go.RowKit
open Go.ChangeMaps (open_string shut_string)
set_option linter.unusedVariables false

theorem own : ownKnob Try.prog.godebug = none := by kernel_rfl
theorem laidOut : laidOutB Try.prog = true := by kernel_rfl
theorem likeR6_same (a : Option Addr) (len cap : Nat) (a2 : Option Addr) (len2 cap2 : Nat) (xs : List Int) (w : World) (hr : Reads .i32 w a len cap xs) (hr2 : Reads .i32 w a2 len2 cap2 xs) :
    Calls Try.prog 15 #[.slice a len cap, .slice a2 len2 cap2] w fun e w' => e = .returned (.bool true) ∧ ∃ n, w' = w.drewN n := by
  have := ref03_Like a len cap xs a2 len2 cap2 xs w hr hr2
  rwa [decide_eq_true rfl] at this
set_option maxHeartbeats 4000000 in
set_option maxRecDepth 100000 in
theorem walk (a0 : Option Addr) (len0 cap0 : Nat) (xs0 : List Int) (w : World) (r0 : Reads .u16 w a0 len0 cap0 xs0) :
    Calls Try.prog 4 #[.slice a0 len0 cap0] w fun e w' => e = .returned (.bool true) ∧ Below w.heap.size w w' := by
  by_cases hN : len0 ≤ 500
  · have R := hid r0
    clear r0
    by_cases he : errP (usigs xs0) = 0
    · have hst : Hid (ustr xs0 = utxt xs0) := by unfold ustr; rw [Hid, if_pos he]
      have hS := fun w (hr : Reads .u16 w a0 len0 cap0 xs0) => units_Strict a0 len0 cap0 xs0 w hr (by omega)
      have hW := fun w (hr : Reads .u16 w a0 len0 cap0 xs0) => units_Right a0 len0 cap0 xs0 w hr
      have hY := fun w (hr : Reads .u16 w a0 len0 cap0 xs0) => ref06_Read a0 len0 cap0 xs0 w hr (by omega)
      simp only [he, hst.out, decide_true] at hS hW hY
      clear he
      go_enter Try.func4, Try.ntmps4
      go_wp2_with (first
        | (go_at_call 13; (with_reducible refine (hY _ R.out).mono ?_); rintro e w1 ⟨a1, c1, rfl, hr1, hb1⟩; have R1 := R.out.below hb1)
        | (go_at_call 14; (with_reducible refine (hS _ R1).mono ?_); rintro e w2 ⟨a2, l2, c2, rfl, hr2, hb2⟩; have hb2' := below_then hb1 hb2; have hr1' := hr1.below hb2)
        | (go_at_call 15; (with_reducible refine (likeR6_same _ _ _ _ _ _ _ _ hr2 hr1').mono ?_); rintro e w3 ⟨rfl, n3, rfl⟩; have hb3 := Below.drewN hb2' n3; have R3 := R.out.below hb3; have hr1'' := hr1'.below (Below.drewN (Below.refl _ _) n3)))
      go_loop [47] (fun i => ∃ k : Nat, k ≤ len0 ∧ i = .int .i64 k) (fun i => len0 - (intOf i).toNat)
      case atStart => exact ⟨0, Nat.zero_le _, rfl⟩
      case round =>
        obtain ⟨k, hk, rfl⟩ := hrel
        by_cases hlt : k < len0
        · obtain ⟨b, off, x, rfl, _, hc, h0, h1, hx⟩ := R3.get16 hlt
          have hHx := fun w => ref06_High x w
          have hLx := fun w => ref06_Low x w
          have hHc := fun w => units_High x w h0 h1
          have hLc := fun w => units_Low x w h0 h1
          cases hh : hiB x
          · cases hl : loB x
            · simp only [hh, hl] at hHx hLx hHc hLc
              go_wp2_with (first
                | (go_at_call 16; (with_reducible refine (hHc _).mono ?_); rintro e w' ⟨rfl, rfl⟩)
                | (go_at_call 17; (with_reducible refine (hHx _).mono ?_); rintro e w' ⟨rfl, rfl⟩)
                | (go_at_call 18; (with_reducible refine (hLc _).mono ?_); rintro e w' ⟨rfl, rfl⟩)
                | (go_at_call 19; (with_reducible refine (hLx _).mono ?_); rintro e w' ⟨rfl, rfl⟩))
              go_round
              case rel => exact ⟨k + 1, by omega, by go_num⟩
              case measure => simp [intOf]; omega
            · simp only [hh, hl] at hHx hLx hHc hLc
              go_wp2_with (first
                | (go_at_call 16; (with_reducible refine (hHc _).mono ?_); rintro e w' ⟨rfl, rfl⟩)
                | (go_at_call 17; (with_reducible refine (hHx _).mono ?_); rintro e w' ⟨rfl, rfl⟩)
                | (go_at_call 18; (with_reducible refine (hLc _).mono ?_); rintro e w' ⟨rfl, rfl⟩)
                | (go_at_call 19; (with_reducible refine (hLx _).mono ?_); rintro e w' ⟨rfl, rfl⟩))
              go_round
              case rel => exact ⟨k + 1, by omega, by go_num⟩
              case measure => simp [intOf]; omega
          · cases hl : loB x
            · simp only [hh, hl] at hHx hLx hHc hLc
              go_wp2_with (first
                | (go_at_call 16; (with_reducible refine (hHc _).mono ?_); rintro e w' ⟨rfl, rfl⟩)
                | (go_at_call 17; (with_reducible refine (hHx _).mono ?_); rintro e w' ⟨rfl, rfl⟩)
                | (go_at_call 18; (with_reducible refine (hLc _).mono ?_); rintro e w' ⟨rfl, rfl⟩)
                | (go_at_call 19; (with_reducible refine (hLx _).mono ?_); rintro e w' ⟨rfl, rfl⟩))
              go_round
              case rel => exact ⟨k + 1, by omega, by go_num⟩
              case measure => simp [intOf]; omega
            · simp only [hh, hl] at hHx hLx hHc hLc
              go_wp2_with (first
                | (go_at_call 16; (with_reducible refine (hHc _).mono ?_); rintro e w' ⟨rfl, rfl⟩)
                | (go_at_call 17; (with_reducible refine (hHx _).mono ?_); rintro e w' ⟨rfl, rfl⟩)
                | (go_at_call 18; (with_reducible refine (hLc _).mono ?_); rintro e w' ⟨rfl, rfl⟩)
                | (go_at_call 19; (with_reducible refine (hLx _).mono ?_); rintro e w' ⟨rfl, rfl⟩))
              go_round
              case rel => exact ⟨k + 1, by omega, by go_num⟩
              case measure => simp [intOf]; omega
        · go_wp2_with (first
            | (go_at_call 20; (with_reducible refine (units_Read _ _ _ _ _ R3 (by omega)).mono ?_); rintro e w4 ⟨a4, c4, rfl, hr4, hb4⟩; have hb4' := below_then' hb3 hb4 (by simp); have hr1z := hr1''.below hb4; have R4 := R.out.below hb4')
            | (go_at_call 15; (with_reducible refine (likeR6_same _ _ _ _ _ _ _ _ hr4 hr1z).mono ?_); rintro e w5 ⟨rfl, n5, rfl⟩; have hb5 := Below.drewN hb4' n5; have R5 := R.out.below hb5)
            | (go_at_call 21; (with_reducible refine (hW _ R5).mono ?_); rintro e w8 ⟨rfl, hb8⟩; have hb8' := below_then' hb5 hb8 (by simp))
            | (go_at_call 7; (with_reducible refine (alive6_any _).mono ?_); rintro e w' ⟨rfl, hb⟩))
          all_goals
            go_ret
            exact ⟨rfl, below_then hb8' hb⟩
    · have hst : Hid (ustr xs0 = []) := by unfold ustr; rw [Hid, if_neg he]
      have he' : (errP (usigs xs0) == 0) = false := by simpa using he
      have he'' : (errP (usigs xs0) != 0) = true := by simpa using he
      have hS : ∀ w, Reads .u16 w a0 len0 cap0 xs0 → Calls Try.prog 14 #[.slice a0 len0 cap0] w fun e w' => ∃ a' cap', e = .returned (.tuple #[.slice a' 0 cap', .int .i64 (errP (usigs xs0))]) ∧ Below w.heap.size w w' := by
        intro w hr
        refine (units_Strict a0 len0 cap0 xs0 w hr (by omega)).mono ?_
        rintro e w' ⟨a', l', c', rfl, hr', hb⟩
        rw [hst.out] at hr'
        obtain rfl : 0 = l' := hr'.size
        exact ⟨a', c', rfl, hb⟩
      have hW := fun w (hr : Reads .u16 w a0 len0 cap0 xs0) => units_Right a0 len0 cap0 xs0 w hr
      have hY := fun w (hr : Reads .u16 w a0 len0 cap0 xs0) => ref06_Read a0 len0 cap0 xs0 w hr (by omega)
      simp only [decide_eq_false he] at hW
      clear he hst
      go_enter Try.func4, Try.ntmps4
      go_wp2_with (first
        | (go_at_call 13; (with_reducible refine (hY _ R.out).mono ?_); rintro e w1 ⟨a1, c1, rfl, hr1, hb1⟩; have R1 := R.out.below hb1)
        | (go_at_call 14; (with_reducible refine (hS _ R1).mono ?_); rintro e w2 ⟨a2, c2, rfl, hb2⟩; have hb2' := below_then hb1 hb2; have hr1' := hr1.below hb2; have R2 := R.out.below hb2'))
      go_loop [47] (fun i => ∃ k : Nat, k ≤ len0 ∧ i = .int .i64 k) (fun i => len0 - (intOf i).toNat)
      case atStart => exact ⟨0, Nat.zero_le _, rfl⟩
      case round =>
        obtain ⟨k, hk, rfl⟩ := hrel
        by_cases hlt : k < len0
        · obtain ⟨b, off, x, rfl, _, hc, h0, h1, hx⟩ := R2.get16 hlt
          have hHx := fun w => ref06_High x w
          have hLx := fun w => ref06_Low x w
          have hHc := fun w => units_High x w h0 h1
          have hLc := fun w => units_Low x w h0 h1
          cases hh : hiB x
          · cases hl : loB x
            · simp only [hh, hl] at hHx hLx hHc hLc
              go_wp2_with (first
                | (go_at_call 16; (with_reducible refine (hHc _).mono ?_); rintro e w' ⟨rfl, rfl⟩)
                | (go_at_call 17; (with_reducible refine (hHx _).mono ?_); rintro e w' ⟨rfl, rfl⟩)
                | (go_at_call 18; (with_reducible refine (hLc _).mono ?_); rintro e w' ⟨rfl, rfl⟩)
                | (go_at_call 19; (with_reducible refine (hLx _).mono ?_); rintro e w' ⟨rfl, rfl⟩))
              go_round
              case rel => exact ⟨k + 1, by omega, by go_num⟩
              case measure => simp [intOf]; omega
            · simp only [hh, hl] at hHx hLx hHc hLc
              go_wp2_with (first
                | (go_at_call 16; (with_reducible refine (hHc _).mono ?_); rintro e w' ⟨rfl, rfl⟩)
                | (go_at_call 17; (with_reducible refine (hHx _).mono ?_); rintro e w' ⟨rfl, rfl⟩)
                | (go_at_call 18; (with_reducible refine (hLc _).mono ?_); rintro e w' ⟨rfl, rfl⟩)
                | (go_at_call 19; (with_reducible refine (hLx _).mono ?_); rintro e w' ⟨rfl, rfl⟩))
              go_round
              case rel => exact ⟨k + 1, by omega, by go_num⟩
              case measure => simp [intOf]; omega
          · cases hl : loB x
            · simp only [hh, hl] at hHx hLx hHc hLc
              go_wp2_with (first
                | (go_at_call 16; (with_reducible refine (hHc _).mono ?_); rintro e w' ⟨rfl, rfl⟩)
                | (go_at_call 17; (with_reducible refine (hHx _).mono ?_); rintro e w' ⟨rfl, rfl⟩)
                | (go_at_call 18; (with_reducible refine (hLc _).mono ?_); rintro e w' ⟨rfl, rfl⟩)
                | (go_at_call 19; (with_reducible refine (hLx _).mono ?_); rintro e w' ⟨rfl, rfl⟩))
              go_round
              case rel => exact ⟨k + 1, by omega, by go_num⟩
              case measure => simp [intOf]; omega
            · simp only [hh, hl] at hHx hLx hHc hLc
              go_wp2_with (first
                | (go_at_call 16; (with_reducible refine (hHc _).mono ?_); rintro e w' ⟨rfl, rfl⟩)
                | (go_at_call 17; (with_reducible refine (hHx _).mono ?_); rintro e w' ⟨rfl, rfl⟩)
                | (go_at_call 18; (with_reducible refine (hLc _).mono ?_); rintro e w' ⟨rfl, rfl⟩)
                | (go_at_call 19; (with_reducible refine (hLx _).mono ?_); rintro e w' ⟨rfl, rfl⟩))
              go_round
              case rel => exact ⟨k + 1, by omega, by go_num⟩
              case measure => simp [intOf]; omega
        · go_wp2_with (first
            | (go_at_call 20; (with_reducible refine (units_Read _ _ _ _ _ R2 (by omega)).mono ?_); rintro e w4 ⟨a4, c4, rfl, hr4, hb4⟩; have hb4' := below_then hb2' hb4; have hr1z := hr1'.below hb4; have R4 := R.out.below hb4')
            | (go_at_call 15; (with_reducible refine (likeR6_same _ _ _ _ _ _ _ _ hr4 hr1z).mono ?_); rintro e w5 ⟨rfl, n5, rfl⟩; have hb5 := Below.drewN hb4' n5; have R5 := R.out.below hb5)
            | (go_at_call 21; (with_reducible refine (hW _ R5).mono ?_); rintro e w8 ⟨rfl, hb8⟩; have hb8' := below_then' hb5 hb8 (by simp))
            | (go_at_call 7; (with_reducible refine (alive6_any _).mono ?_); rintro e w' ⟨rfl, hb⟩))
          all_goals
            go_ret
            exact ⟨rfl, below_then hb8' hb⟩
  · have hN' : 500 < len0 := by omega
    go_enter Try.func4, Try.ntmps4
    go_wp2_with (go_at_call 7; (with_reducible refine (alive6_any _).mono ?_); rintro e w' ⟨rfl, hb⟩)
    go_ret
    exact ⟨rfl, hb⟩

set_option maxRecDepth 100000 in
theorem lifted (os : Os) (started : os.Started) (H : Type) (enc : TypeId × Value → H) :
    ReturnsInHanded {} Try.checked os 4 .any (Rows.unitsReadsSpec.pre6 enc Try.prog Try.f4 Rows.unitsReadsRow.domain false) (Rows.unitsReadsSpec.post enc Try.prog Try.f4 false true false false) := by
  refine returnsInHanded_of_change (C := Try.checked) own started (by kernel_rfl) Try.func4
    (ChangeSpec.witness6 (enc := enc) (C := Try.checked) false ⟨#[], #[.slice none 0 0], []⟩ 8 (by kernel_rfl) (by kernel_rfl) (by kernel_rfl) (by kernel_rfl)) ?_
  intro W base args ds gs before hval0 hW hcnd _
  have hval : ∀ (j : Nat) t v, Try.f4.params[j]? = some t → args[j]? = some v → Value.okWide Try.prog W .any base t v := hval0
  have hW' := hW
  obtain ⟨p, q, hA0, hV, rfl, hfz, hnd⟩ := hW
  have hA : DataW.TrodAll enc Try.prog W 0 (fun _ => true) true Try.f4.params.toList args.toList ds p := hA0
  rw [Try.params4] at hA hval
  obtain ⟨v0, vs0, d0, ds0, p0, q0, hargs, rfl, rfl, h0, r_0⟩ := trodAll_cons hA
  obtain ⟨rfl, rfl, rfl⟩ := trodAll_nil r_0
  obtain rfl : args = #[v0] := by cases args; simp_all
  obtain ⟨rfl, rfl⟩ := trodVars_none hV
  obtain ⟨a0, len0, cap0, rfl⟩ := okWide_slice Try.underlying24 (hval 0 24 v0 rfl rfl)
  have k0 := h0
  have lt0 : ∀ x ∈ p0, x.block < W.heap.size := by obtain ⟨m, hm⟩ := k0; exact DataW.trod_lt m _ _ _ hm
  obtain ⟨xs0, r0⟩ : ∃ xs, Reads .u16 W a0 len0 cap0 xs := by
    obtain ⟨fuel, hf⟩ := h0
    rcases open_ints Try.underlying24 Try.underlying38 (by kernel_rfl) hf with ⟨hcs, _⟩ | ⟨x, l, c, zs, hcs, _, hl, hm, hz, _, hcell, hwz⟩
    · simp [Value.cells] at hcs
      obtain ⟨rfl, rfl, rfl⟩ := hcs
      exact ⟨[], Reads.nil _ _ _ _ (Nat.zero_le _)⟩
    · simp [Value.cells] at hcs
      obtain ⟨rfl, rfl, rfl⟩ := hcs
      exact ⟨_, reads_of_ints hl hm (by simpa using hz) hcell hwz⟩
  clear hA0 hval0
  refine (walk a0 len0 cap0 xs0 W r0).mono fun e W' ⟨he, bel⟩ => ?_
  subst he
  exact ⟨_, rfl, _, _, _, [], _, [], hW', trodAll_mk1 (shut_bool Try.underlying4 _), (trodAll_cons_mk (Below.trod laidOut (by kernel_rfl) (of_decide_eq_true (by kernel_rfl)) k0 bel lt0) trodAll_mk0), rfl, bel.frame _, fun h => by cases h⟩

theorem over : Rows.unitsReadsRow.holds Try.pinned (OpenSpec.ofChange Rows.unitsReadsSpec) :=
  OpenClaim.holds_of_wide 4 Try.f4 rfl rfl rfl rfl rfl rfl rfl ⟨rfl, rfl, rfl, rfl, rfl⟩ rfl rfl rfl rfl rfl (by kernel_rfl) Try.func4 (by kernel_rfl)
    (of_decide_eq_true (by kernel_rfl)) (by unfold Func.isWrapper; first | (rw [if_pos (by decide +kernel)]; kernel_rfl) | (rw [if_neg (by decide +kernel)]; exact ⟨rfl, rfl⟩))
    (fun os started H enc _ => lifted os started H enc)

end Go.Proofs.Yteihhadcmmdidaa.unitsReads
namespace Go.Proofs.Yteihhadcmmdidaa
theorem unitsReads_holds : Rows.UnitsReadsSaid := unitsReads.over
#print axioms unitsReads_holds
end Go.Proofs.Yteihhadcmmdidaa
