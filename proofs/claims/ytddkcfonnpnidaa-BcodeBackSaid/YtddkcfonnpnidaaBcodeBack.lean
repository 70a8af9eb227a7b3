/-
  Proved: for every []byte s (nil, empty, of any length and capacity), in whatever memory and on every schedule, sheavelaw14.BcodeBack(s) returns true, without a panic or a race, and its argument reads as before. No condition.
-/
import Derived.Test.YtddkcfonnpnidaaRows
import Derived.Test.YtddkcfonnpnidaaAlive14
import Derived.Test.YtddkcfonnpnidaaR14b
import Derived.WalkKit
import Derived.ProofKit
import Derived.OpenShut
import Derived.ShutString
import Derived.ChangeOld
import Derived.Below
namespace Go.Proofs.Ytddkcfonnpnidaa.bcodeBack
open Go.ChangeShapes Go.WideShapes Go.ChangeAt Go.RowKit
open Go.ChangeMaps (open_string shut_string)
set_option linter.unusedVariables false

theorem own : ownKnob Try.prog.godebug = none := by kernel_rfl
theorem laidOut : laidOutB Try.prog = true := by kernel_rfl
theorem like14_same (a : Option Addr) (len cap : Nat) (a2 : Option Addr) (len2 cap2 : Nat) (xs : List Int) (w : World) (hr : Reads .u8 w a len cap xs) (hr2 : Reads .u8 w a2 len2 cap2 xs) :
    Calls Try.prog 15 #[.slice a len cap, .slice a2 len2 cap2] w fun e w' => e = .returned (.bool true) ∧ ∃ n, w' = w.drewN n := by
  have := like_r a len cap xs a2 len2 cap2 xs w hr hr2
  rwa [decide_eq_true rfl] at this
/-- Read of what is laid. -/
theorem read14_laid (a : Option Addr) (len cap : Nat) (xs : List Int) (w : World) (ho : ∀ x ∈ xs, O8 x) (hr : Reads .u8 w a len cap (layB xs)) (hN : len < 10000000) :
    Calls Try.prog 13 #[.slice a len cap] w fun e w' => ∃ a' c', e = .returned (.tuple #[.slice a' xs.length c', .int .i64 0]) ∧ Reads .u8 w' a' xs.length c' xs ∧ Below w.heap.size w w' := by
  have h := bcode_Read a len cap _ w hr hN
  rw [(cod_lay ho).1, (cod_lay ho).2] at h
  refine h.mono ?_
  rintro e w' ⟨v, rfl, ho', hb⟩
  obtain ⟨a', c', rfl, hr'⟩ := ho'.reads
  exact ⟨a', c', rfl, hr', hb⟩
theorem lay14_le (xs : List Int) : (layB xs).length ≤ 2 * xs.length + 8 := by
  unfold layB fill4 bareB
  rw [List.length_append, List.length_replicate, List.length_map, v64_len]
  omega
set_option maxHeartbeats 4000000 in
set_option maxRecDepth 100000 in
theorem walk (a0 : Option Addr) (len0 cap0 : Nat) (xs0 : List Int) (w : World) (r0 : Reads .u8 w a0 len0 cap0 xs0) :
    Calls Try.prog 5 #[.slice a0 len0 cap0] w fun e w' => e = .returned (.bool true) ∧ Below w.heap.size w w' := by
  by_cases hN : len0 ≤ 1000
  · have R := hid r0
    have hsz := r0.size
    have hO := hid (show ∀ x ∈ xs0, O8 x from fun x hx => wf_u8 (r0.wf x hx))
    clear r0
    have hll := lay14_le xs0
    obtain ⟨n1, hn1⟩ : ∃ n1, n1 = (layB xs0).length := ⟨_, rfl⟩
    rw [← hn1, hsz] at hll
    have HN1 := hid hn1
    have HSZ := hid hsz
    clear hn1 hsz
    by_cases hE : codE xs0 = 0
    · have hL := lay_cod hE
      have hcl : (codL xs0).length ≤ 1000000 := by
        have h1 := (cod_ok hE).2.2.2
        rw [h1, rd64_len, List.length_map]
        have h2 : (codD xs0).length ≤ xs0.length := by unfold codD; rw [List.length_take]; omega
        have := HSZ.out
        omega
      obtain ⟨n2, hn2⟩ : ∃ n2, n2 = (codL xs0).length := ⟨_, rfl⟩
      rw [← hn2] at hcl
      have HN2 := hid hn2
      have HE := hid hE
      have HL := hid hL
      clear hE hL hn2
      go_enter Try.func5, Try.ntmps5
      go_wp2_with (first
        | (go_at_call 17; (with_reducible refine (bcode_Lay _ _ _ _ _ R.out (by omega)).mono ?_); rintro e w1 ⟨v1, rfl, ho1, hb1⟩; obtain ⟨a1, c1, hv1, hr1⟩ := ho1.reads; rw [← HN1.out] at hv1 hr1; subst hv1; have R1 := R.out.below hb1)
        | (go_at_call 13; (with_reducible refine (read14_laid _ _ _ _ _ hO.out hr1 (by omega)).mono ?_); rintro e w2 ⟨a2, c2, rfl, hr2, hb2⟩; have hb2' := below_then hb1 hb2; have R2 := R1.below hb2)
        | (go_at_call 15; (with_reducible refine (like14_same _ _ _ _ _ _ _ _ hr2 R2).mono ?_); rintro e w3 ⟨rfl, n3, rfl⟩; have hb3 := Below.drewN hb2' n3; have R3 := R.out.below hb3; have hq := bcode_Read _ _ _ _ _ R3 (by omega); rw [HE.out] at hq; have HQ := hid hq; clear hq)
        | (go_at_call 13; (with_reducible refine HQ.out.mono ?_); rintro e w4 ⟨v4, rfl, ho4, hb4⟩; obtain ⟨a4, c4, hv4, hr4⟩ := ho4.reads; rw [← HN2.out] at hv4 hr4; subst hv4; have hb4' := below_then hb3 hb4; have R4 := R3.below hb4; have hq5 := bcode_Lay _ _ _ _ _ hr4 (by omega); rw [HL.out] at hq5; have HQ5 := hid hq5; clear hq5)
        | (go_at_call 17; (with_reducible refine HQ5.out.mono ?_); rintro e w5 ⟨v5, rfl, ho5, hb5⟩; obtain ⟨a5, c5, rfl, hr5⟩ := ho5.reads; have hb5' := below_then hb4' hb5; have R5 := R4.below hb5)
        | (go_at_call 15; (with_reducible refine (like14_same _ _ _ _ _ _ _ _ hr5 R5).mono ?_); rintro e w6 ⟨rfl, n6, rfl⟩; have hb6 := Below.drewN hb5' n6)
        | (go_at_call 12; (with_reducible refine (alive14_any _).mono ?_); rintro e w' ⟨rfl, hb⟩))
      go_ret
      exact ⟨rfl, below_then hb6 hb⟩
    · have HL := hid (cod_no hE)
      have hb0 : (codE xs0 != 0) = true := by simpa using hE
      clear hE
      go_enter Try.func5, Try.ntmps5
      go_wp2_with (first
        | (go_at_call 17; (with_reducible refine (bcode_Lay _ _ _ _ _ R.out (by omega)).mono ?_); rintro e w1 ⟨v1, rfl, ho1, hb1⟩; obtain ⟨a1, c1, hv1, hr1⟩ := ho1.reads; rw [← HN1.out] at hv1 hr1; subst hv1; have R1 := R.out.below hb1)
        | (go_at_call 13; (with_reducible refine (read14_laid _ _ _ _ _ hO.out hr1 (by omega)).mono ?_); rintro e w2 ⟨a2, c2, rfl, hr2, hb2⟩; have hb2' := below_then hb1 hb2; have R2 := R1.below hb2)
        | (go_at_call 15; (with_reducible refine (like14_same _ _ _ _ _ _ _ _ hr2 R2).mono ?_); rintro e w3 ⟨rfl, n3, rfl⟩; have hb3 := Below.drewN hb2' n3; have R3 := R.out.below hb3)
        | (go_at_call 13; (with_reducible refine (bcode_Read _ _ _ _ _ R3 (by omega)).mono ?_); rintro e w4 ⟨v4, rfl, ho4, hb4⟩; obtain ⟨a4, c4, hv4, hr4⟩ := ho4.reads; rw [HL.out] at hv4; subst hv4; have hb4' := below_then hb3 hb4)
        | (go_at_call 12; (with_reducible refine (alive14_any _).mono ?_); rintro e w' ⟨rfl, hb⟩))
      go_ret
      exact ⟨rfl, below_then hb4' hb⟩
  · have hN' : 1000 < len0 := by omega
    go_enter Try.func5, Try.ntmps5
    go_wp2_with (go_at_call 12; (with_reducible refine (alive14_any _).mono ?_); rintro e w' ⟨rfl, hb⟩)
    go_ret
    exact ⟨rfl, hb⟩

set_option maxRecDepth 100000 in
theorem lifted (os : Os) (started : os.Started) (H : Type) (enc : TypeId × Value → H) :
    ReturnsInHanded {} Try.checked os 5 .any (Rows.bcodeBackSpec.pre6 enc Try.prog Try.f5 Rows.bcodeBackRow.domain false) (Rows.bcodeBackSpec.post enc Try.prog Try.f5 false true false false) := by
  refine returnsInHanded_of_change (C := Try.checked) own started (by kernel_rfl) Try.func5
    (ChangeSpec.witness6 (enc := enc) (C := Try.checked) false ⟨#[], #[.slice none 0 0], []⟩ 8 (by kernel_rfl) (by kernel_rfl) (by kernel_rfl) (by kernel_rfl)) ?_
  intro W base args ds gs before hval0 hW hcnd _
  have hval : ∀ (j : Nat) t v, Try.f5.params[j]? = some t → args[j]? = some v → Value.okWide Try.prog W .any base t v := hval0
  have hW' := hW
  obtain ⟨p, q, hA0, hV, rfl, hfz, hnd⟩ := hW
  have hA : DataW.TrodAll enc Try.prog W 0 (fun _ => true) true Try.f5.params.toList args.toList ds p := hA0
  rw [Try.params5] at hA hval
  obtain ⟨v0, vs0, d0, ds0, p0, q0, hargs, rfl, rfl, h0, r_0⟩ := trodAll_cons hA
  obtain ⟨rfl, rfl, rfl⟩ := trodAll_nil r_0
  obtain rfl : args = #[v0] := by cases args; simp_all
  obtain ⟨rfl, rfl⟩ := trodVars_none hV
  obtain ⟨a0, len0, cap0, rfl⟩ := okWide_slice Try.underlying28 (hval 0 28 v0 rfl rfl)
  have k0 := h0
  have lt0 : ∀ x ∈ p0, x.block < W.heap.size := by obtain ⟨m, hm⟩ := k0; exact DataW.trod_lt m _ _ _ hm
  obtain ⟨xs0, r0⟩ : ∃ xs, Reads .u8 W a0 len0 cap0 xs := by
    obtain ⟨fuel, hf⟩ := h0
    rcases open_ints Try.underlying28 Try.underlying5 (by kernel_rfl) hf with ⟨hcs, _⟩ | ⟨x, l, c, zs, hcs, _, hl, hm, hz, _, hcell, hwz⟩
    · simp [Value.cells] at hcs
      obtain ⟨rfl, rfl, rfl⟩ := hcs
      exact ⟨[], Reads.nil _ _ _ _ (Nat.zero_le _)⟩
    · simp [Value.cells] at hcs
      obtain ⟨rfl, rfl, rfl⟩ := hcs
      exact ⟨_, reads_of_ints hl hm (by simpa using hz) hcell hwz⟩
  clear hA0 hval0
  refine (walk a0 len0 cap0 xs0 W r0).mono fun e W' ⟨he, bel⟩ => ?_
  subst he
  exact ⟨_, rfl, _, _, _, [], _, [], hW', trodAll_mk1 (shut_bool Try.underlying4 _), (trodAll_cons_mk (Below.trod laidOut (by kernel_rfl) (of_decide_eq_true (by kernel_rfl)) k0 bel lt0) trodAll_mk0), rfl, bel.frame _, fun h => by cases h⟩

theorem over : Rows.bcodeBackRow.holds Try.pinned (OpenSpec.ofChange Rows.bcodeBackSpec) :=
  OpenClaim.holds_of_wide 5 Try.f5 rfl rfl rfl rfl rfl rfl rfl ⟨rfl, rfl, rfl, rfl, rfl⟩ rfl rfl rfl rfl rfl (by kernel_rfl) Try.func5 (by kernel_rfl)
    (of_decide_eq_true (by kernel_rfl)) (by unfold Func.isWrapper; first | (rw [if_pos (by decide +kernel)]; kernel_rfl) | (rw [if_neg (by decide +kernel)]; exact ⟨rfl, rfl⟩))
    (fun os started H enc _ => lifted os started H enc)

end Go.Proofs.Ytddkcfonnpnidaa.bcodeBack
namespace Go.Proofs.Ytddkcfonnpnidaa
theorem bcodeBack_holds : Rows.BcodeBackSaid := bcodeBack.over
#print axioms bcodeBack_holds
end Go.Proofs.Ytddkcfonnpnidaa
