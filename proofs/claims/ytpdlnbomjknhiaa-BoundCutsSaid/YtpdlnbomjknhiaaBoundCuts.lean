/-
  Proved: for every []byte s (nil, empty, of any length and capacity) and every int most, in whatever memory and on every schedule, sheavelaw07.BoundCuts(s, most) returns true, without a panic or a race, and its arguments read as before. No condition.
-/
import Derived.Test.YtpdlnbomjknhiaaRows
import Derived.Test.YtpdlnbomjknhiaaAlive07
import Derived.Test.YtpdlnbomjknhiaaR07
import Derived.Test.YtpdlnbomjknhiaaR07b
import Derived.WalkKit
import Derived.ProofKit
import Derived.OpenShut
import Derived.ShutString
import Derived.ChangeOld
import Derived.Below
namespace Go.Proofs.Ytpdlnbomjknhiaa.boundCuts
open Go.ChangeShapes Go.WideShapes Go.ChangeAt Go.RowKit
open Go.ChangeMaps (open_string shut_string)
set_option linter.unusedVariables false

theorem own : ownKnob Try.prog.godebug = none := by kernel_rfl
theorem laidOut : laidOutB Try.prog = true := by kernel_rfl
theorem like7_same (a : Option Addr) (len cap : Nat) (a2 : Option Addr) (len2 cap2 : Nat) (xs : List Int) (w : World) (hr : Reads .u8 w a len cap xs) (hr2 : Reads .u8 w a2 len2 cap2 xs) :
    Calls Try.prog 19 #[.slice a len cap, .slice a2 len2 cap2] w fun e w' => e = .returned (.bool true) ∧ ∃ n, w' = w.drewN n := by
  have := like_r a len cap xs a2 len2 cap2 xs w hr hr2
  rwa [decide_eq_true rfl] at this
theorem splitL (a : Option Addr) (len cap : Nat) (xs : List Int) (n : Int) (w : World) (hr : Reads .u8 w a len cap xs) (hN : len < 100000000) (hw : (Lit.int .i64 n).wf = true) (m : Nat) (hm : (spl n xs).length = m) :
    Calls Try.prog 17 #[.slice a len cap, .int .i64 n] w fun e w' => ∃ a' c', e = .returned (.slice a' m c') ∧ Rws w' a' m c' (spl n xs) ∧ Below w.heap.size w w' := by
  refine (bound_Split _ _ _ _ _ _ hr hN hw).mono ?_
  rintro e w' ⟨a', m', c', rfl, hR, hb⟩
  obtain rfl : m = m' := by rw [← hm]; exact hR.size
  exact ⟨a', c', rfl, hR, hb⟩
theorem splitR (a : Option Addr) (len cap : Nat) (xs : List Int) (n : Int) (w : World) (hr : Reads .u8 w a len cap xs) (hN : len < 100000000) (hw : (Lit.int .i64 n).wf = true) (m : Nat) (hm : (spl n xs).length = m) :
    Calls Try.prog 18 #[.slice a len cap, .int .i64 n] w fun e w' => ∃ a' c', e = .returned (.slice a' m c') ∧ Rws w' a' m c' (spl n xs) ∧ Below w.heap.size w w' := by
  refine (ref07_Split _ _ _ _ _ _ hr hN hw).mono ?_
  rintro e w' ⟨a', m', c', rfl, hR, hb⟩
  obtain rfl : m = m' := by rw [← hm]; exact hR.size
  exact ⟨a', c', rfl, hR, hb⟩
theorem spl_many (n : Int) (xs : List Int) : (spl n xs).length ≤ xs.length := by
  have h1 := outS_len n xs (segs xs).length
  rw [outS_all] at h1
  have := segs_le xs
  omega
set_option maxHeartbeats 4000000 in
set_option maxRecDepth 100000 in
theorem walk (a0 : Option Addr) (len0 cap0 : Nat) (xs0 : List Int) (a1 : Int) (w : World) (r0 : Reads .u8 w a0 len0 cap0 xs0) (w1 : (Lit.int .i64 a1).wf = true) :
    Calls Try.prog 4 #[.slice a0 len0 cap0, .int .i64 a1] w fun e w' => e = .returned (.bool true) ∧ Below w.heap.size w w' := by
  by_cases hN : len0 ≤ 300
  · have hsm := spl_many a1 xs0
    have hsz := r0.size
    obtain ⟨m, hm⟩ : ∃ m, (spl a1 xs0).length = m := ⟨_, rfl⟩
    have hml : m ≤ 300 := by omega
    have hL : len0 < 100000000 := by omega
    have hSL := fun w (hr : Reads .u8 w a0 len0 cap0 xs0) => splitL a0 len0 cap0 xs0 a1 w hr hL w1 m hm
    have hSR := fun w (hr : Reads .u8 w a0 len0 cap0 xs0) => splitR a0 len0 cap0 xs0 a1 w hr hL w1 m hm
    have R := hid r0
    have HW := hid w1
    clear r0 w1 hm hsm
    go_enter Try.func4, Try.ntmps4
    go_wp2_with (first
      | (go_at_call 17; (with_reducible refine (hSL _ R.out).mono ?_); rintro e w2 ⟨a2, c2, rfl, hr2, hb2⟩; have R2 := R.out.below hb2)
      | (go_at_call 18; (with_reducible refine (hSR _ R2).mono ?_); rintro e w3 ⟨a3, c3, rfl, hr3, hb3⟩; have R3 := R2.below hb3; have hb3' := below_then hb2 hb3; have hr2' := hr2.below hb3)
      | (go_at_call 20; (with_reducible refine (bound_Cut _ _ _ _ _ _ R3 hL HW.out).mono ?_); rintro e w4 ⟨a4, m4, c4, rfl, hr4, hb4⟩; have R4 := R3.below hb4; have hb4' := below_then hb3' hb4)
      | (go_at_call 21; (with_reducible refine (ref07_Cut _ _ _ _ _ _ R4 hL HW.out).mono ?_); rintro e w5 ⟨⟨m5, rfl, hr5⟩, hb5⟩; have hb5' := below_then hb4' hb5; have hr4' := hr4.below hb5)
      | (go_at_call 19; (with_reducible refine (like7_same _ _ _ _ _ _ _ _ hr4' hr5).mono ?_); rintro e w6 ⟨rfl, n6, rfl⟩; have hb6 := Below.drewN (Below.refl w5.heap.size w5) n6))
    have H2 := hid (((hr2'.below hb4).below hb5).below hb6)
    have H3 := hid (((hr3.below hb4).below hb5).below hb6)
    have HB := hid (below_then hb5' hb6)
    clear hr2 hr2' hr3 R2 R3 R4 hr4 hr4' hr5 hb6 hb5' hb4' hb5 hb4 hb3' hb3 hb2
    generalize w5.drewN n6 = W at *
    go_loopw [35] (fun i wr => ∃ k : Nat, k ≤ m ∧ i = .int .i64 k ∧ ∃ n, wr = W.drewN n) (fun i _ => m - (intOf i).toNat)
    case atStart => exact ⟨0, Nat.zero_le _, rfl, 0, rfl⟩
    case round =>
      obtain ⟨k, hk, rfl, n, hV⟩ := hrel
      have HV := hid hV
      have hbv : Below W.heap.size W wr := by rw [hV]; exact Below.drewN (Below.refl _ _) n
      clear hV
      by_cases hlt : k < m
      · obtain ⟨b2, off2, x, ai, li, ci, rfl, _, hc2, hx2, hg2, _⟩ := (H2.out.below hbv).get hlt
        obtain ⟨b3, off3, y, aj, lj, cj, rfl, _, hc3, hx3, hg3, _⟩ := (H3.out.below hbv).get hlt
        obtain rfl : x = y := by rw [hg2] at hg3; cases hg3; rfl
        have X2 := hid hx2
        have X3 := hid hx3
        clear hx2 hx3
        go_wp2_with fail
        go_quiet ((go_at_call 19; exact Calls.quiet_of (like7_same _ _ _ _ _ _ _ _ (X2.out.below (Below.drewN (Below.refl _ _) _)) (X3.out.below (Below.drewN (Below.refl _ _) _)))))
        go_wp2_with fail
        go_roundw
        case rel => exact ⟨k + 1, by omega, by go_num, _, by rw [HV.out, World.drewN_drewN]⟩
        case measure => simp [intOf]; omega
      · go_wp2_with (go_at_call 7; (with_reducible refine (alive7_any _).mono ?_); rintro e w' ⟨rfl, hb⟩)
        go_ret
        exact ⟨rfl, HB.out.trans (hbv.mono HB.out.size) |>.trans (hb.mono (Nat.le_trans HB.out.size hbv.size))⟩
  · have hN' : 300 < len0 := by omega
    go_enter Try.func4, Try.ntmps4
    go_wp2_with (go_at_call 7; (with_reducible refine (alive7_any _).mono ?_); rintro e w' ⟨rfl, hb⟩)
    go_ret
    exact ⟨rfl, hb⟩

set_option maxRecDepth 100000 in
theorem lifted (os : Os) (started : os.Started) (H : Type) (enc : TypeId × Value → H) :
    ReturnsInHanded {} Try.checked os 4 .any (Rows.boundCutsSpec.pre6 enc Try.prog Try.f4 Rows.boundCutsRow.domain false) (Rows.boundCutsSpec.post enc Try.prog Try.f4 false true false false) := by
  refine returnsInHanded_of_change (C := Try.checked) own started (by kernel_rfl) Try.func4
    (ChangeSpec.witness6 (enc := enc) (C := Try.checked) false ⟨#[], #[.slice none 0 0, .int .i64 0], []⟩ 8 (by kernel_rfl) (by kernel_rfl) (by kernel_rfl) (by kernel_rfl)) ?_
  intro W base args ds gs before hval0 hW hcnd _
  have hval : ∀ (j : Nat) t v, Try.f4.params[j]? = some t → args[j]? = some v → Value.okWide Try.prog W .any base t v := hval0
  have hW' := hW
  obtain ⟨p, q, hA0, hV, rfl, hfz, hnd⟩ := hW
  have hA : DataW.TrodAll enc Try.prog W 0 (fun _ => true) true Try.f4.params.toList args.toList ds p := hA0
  rw [Try.params4] at hA hval
  obtain ⟨v0, vs0, d0, ds0, p0, q0, hargs, rfl, rfl, h0, r_0⟩ := trodAll_cons hA
  obtain ⟨v1, vs1, d1, ds1, p1, q1, rfl, rfl, rfl, h1, r_1⟩ := trodAll_cons r_0
  obtain ⟨rfl, rfl, rfl⟩ := trodAll_nil r_1
  obtain rfl : args = #[v0, v1] := by cases args; simp_all
  obtain ⟨rfl, rfl⟩ := trodVars_none hV
  obtain ⟨a0, len0, cap0, rfl⟩ := okWide_slice Try.underlying22 (hval 0 22 v0 rfl rfl)
  have k0 := h0
  have lt0 : ∀ x ∈ p0, x.block < W.heap.size := by obtain ⟨m, hm⟩ := k0; exact DataW.trod_lt m _ _ _ hm
  obtain ⟨xs0, r0⟩ : ∃ xs, Reads .u8 W a0 len0 cap0 xs := by
    obtain ⟨fuel, hf⟩ := h0
    rcases open_ints Try.underlying22 Try.underlying5 (by kernel_rfl) hf with ⟨hcs, _⟩ | ⟨x, l, c, zs, hcs, _, hl, hm, hz, _, hcell, hwz⟩
    · simp [Value.cells] at hcs
      obtain ⟨rfl, rfl, rfl⟩ := hcs
      exact ⟨[], Reads.nil _ _ _ _ (Nat.zero_le _)⟩
    · simp [Value.cells] at hcs
      obtain ⟨rfl, rfl, rfl⟩ := hcs
      exact ⟨_, reads_of_ints hl hm (by simpa using hz) hcell hwz⟩
  obtain ⟨a1, rfl, rfl, rfl, w1⟩ := open_int Try.underlying3 (hval 1 3 v1 rfl rfl) h1
  clear hA0 hval0
  refine (walk a0 len0 cap0 xs0 a1 W r0 w1).mono fun e W' ⟨he, bel⟩ => ?_
  subst he
  exact ⟨_, rfl, _, _, _, [], _, [], hW', trodAll_mk1 (shut_bool Try.underlying4 _), (trodAll_cons_mk (Below.trod laidOut (by kernel_rfl) (of_decide_eq_true (by kernel_rfl)) k0 bel lt0) (trodAll_cons_mk (shut_int Try.underlying3 w1) trodAll_mk0)), rfl, bel.frame _, fun h => by cases h⟩

theorem over : Rows.boundCutsRow.holds Try.pinned (OpenSpec.ofChange Rows.boundCutsSpec) :=
  OpenClaim.holds_of_wide 4 Try.f4 rfl rfl rfl rfl rfl rfl rfl ⟨rfl, rfl, rfl, rfl, rfl⟩ rfl rfl rfl rfl rfl (by kernel_rfl) Try.func4 (by kernel_rfl)
    (of_decide_eq_true (by kernel_rfl)) (by unfold Func.isWrapper; first | (rw [if_pos (by decide +kernel)]; kernel_rfl) | (rw [if_neg (by decide +kernel)]; exact ⟨rfl, rfl⟩))
    (fun os started H enc _ => lifted os started H enc)

end Go.Proofs.Ytpdlnbomjknhiaa.boundCuts
namespace Go.Proofs.Ytpdlnbomjknhiaa
theorem boundCuts_holds : Rows.BoundCutsSaid := boundCuts.over
#print axioms boundCuts_holds
end Go.Proofs.Ytpdlnbomjknhiaa
