/-
  Proved: for every []byte s (nil, empty, of any length and capacity), in whatever memory and on every schedule, sheavelaw16.BwrapReads(s) returns true, without a panic or a race, and its argument reads as before. No condition.
-/
import Derived.Test.YtkfmalajapojhaaRows
import Derived.Test.YtkfmalajapojhaaAlive16
import Derived.Test.YtkfmalajapojhaaR16
import Derived.Test.YtkfmalajapojhaaR15
import Derived.Test.YtkfmalajapojhaaR14b
import Derived.Test.YtkfmalajapojhaaD16b
import Derived.WalkKit
import Derived.ProofKit
import Derived.OpenShut
import Derived.ShutString
import Derived.ChangeOld
import Derived.Below
import Derived.HandedShaped
namespace Go.Proofs.Ytkfmalajapojhaa.bwrapReads
open Go.ChangeShapes Go.WideShapes Go.ChangeAt Go.RowKit
open Go.ChangeMaps (open_string shut_string)
set_option linter.unusedVariables false

theorem own : ownKnob Try.prog.godebug = none := by kernel_rfl
theorem laidOut : laidOutB Try.prog = true := by kernel_rfl
theorem like16_same (a : Option Addr) (len cap : Nat) (a2 : Option Addr) (len2 cap2 : Nat) (xs : List Int) (w : World) (hr : Reads .u8 w a len cap xs) (hr2 : Reads .u8 w a2 len2 cap2 xs) :
    Calls Try.prog 9 #[.slice a len cap, .slice a2 len2 cap2] w fun e w' => e = .returned (.bool true) ∧ ∃ n, w' = w.drewN n := by
  have := like_r a len cap xs a2 len2 cap2 xs w hr hr2
  rwa [decide_eq_true rfl] at this
theorem chkq {a : Option Addr} {len cap : Nat} {xs : List Int} {w : World} {E : Int} (hr : Reads .u8 w a len cap xs) (hE : chkE xs = E) (hN : len < 1000000) :
    Calls Try.prog 15 #[.slice a len cap] w fun e w' => ∃ v, e = .returned (.tuple #[v, .int .i64 E]) ∧ Own .u8 5 w.heap.size w' v (chkL xs) ∧ Below w.heap.size w w' := hE ▸ ref16_Check a len cap xs w hr hN
theorem ckq {a : Option Addr} {len cap : Nat} {xs : List Int} {w : World} {E : Int} (hr : Reads .u8 w a len cap xs) (hE : chkE xs = E) (hN : len < 1000000) (hm : Mx w) :
    Calls Try.prog 18 #[.slice a len cap] w fun e w' => e = .returned (.int .i64 E) ∧ Below w.heap.size w w' := hE ▸ bwrap_Check a len cap xs w hr hN hm
theorem rdq {a : Option Addr} {len cap : Nat} {xs : List Int} {w : World} (hr : Reads .u8 w a len cap xs) (hE : chkE xs = 0) (hN : len < 1000000) (hm : Mx w) :
    Calls Try.prog 16 #[.slice a len cap] w fun e w' => ∃ a' len' cap', e = .returned (.tuple #[.slice a' len' cap', .int .i64 0]) ∧ Reads .u8 w' a' len' cap' (codL (chkL xs)) ∧ Below w.heap.size w w' := by
  have h := bwrap_Read a len cap xs w hr hN hm
  rwa [hE, if_pos rfl] at h
theorem rdn {a : Option Addr} {len cap : Nat} {xs : List Int} {w : World} {E : Int} (hr : Reads .u8 w a len cap xs) (hE : chkE xs = E) (hn : E ≠ 0) (hN : len < 1000000) (hm : Mx w) :
    Calls Try.prog 16 #[.slice a len cap] w fun e w' => ∃ a' len' cap', e = .returned (.tuple #[.slice a' len' cap', .int .i64 E]) ∧ Reads .u8 w' a' len' cap' [] ∧ Below w.heap.size w w' := by
  have h := bwrap_Read a len cap xs w hr hN hm
  rwa [hE, if_neg hn] at h
set_option maxHeartbeats 4000000 in
set_option maxRecDepth 100000 in
theorem walk (a0 : Option Addr) (len0 cap0 : Nat) (xs0 : List Int) (w : World) (r0 : Reads .u8 w a0 len0 cap0 xs0) (hm : Mx w) :
    Calls Try.prog 4 #[.slice a0 len0 cap0] w fun e w' => e = .returned (.bool true) ∧ Below w.heap.size w w' := by
  have HM := hid hm
  clear hm
  by_cases hN : len0 ≤ 1000
  · have R := hid r0
    have HS := hid r0.size
    clear r0
    by_cases hz : chkE xs0 = 0
    · have HE := hid hz
      clear hz
      go_enter Try.func4, Try.ntmps4
      go_wp2_with (first
        | (go_at_call 15; (with_reducible refine (chkq R.out HE.out (by omega)).mono ?_); rintro e w1 ⟨v1, rfl, o1, h1⟩; obtain ⟨a1, c1, rfl, r1⟩ := o1.reads; have hl1 := chkL_le xs0; rw [HS.out] at hl1)
        | (go_at_call 16; (with_reducible refine (rdq (R.out.below h1) HE.out (by omega) (HM.out.below h1)).mono ?_); rintro e w2 ⟨a2, l2, c2, rfl, r2, h2⟩)
        | (go_at_call 17; (with_reducible refine (ref14_Read _ _ _ _ _ (r1.below h2) (by omega)).mono ?_); rintro e w3 ⟨v3, rfl, o3, h3⟩; obtain ⟨a3, c3, rfl, r3⟩ := o3.reads)
        | (go_at_call 9; (with_reducible refine (like16_same _ _ _ _ _ _ _ _ (r2.below h3) r3).mono ?_); rintro e w4 ⟨rfl, n4, rfl⟩; have h4 := Below.drewN (Below.refl w3.heap.size w3) n4)
        | (go_at_call 18; (with_reducible refine (ckq ((((R.out.below h1).below h2).below h3).below h4) HE.out (by omega) ((((HM.out.below h1).below h2).below h3).below h4)).mono ?_); rintro e w5 ⟨rfl, h5⟩)
        | (go_at_call 19; (with_reducible refine (ref15_Read _ _ _ _ _ (((((R.out.below h1).below h2).below h3).below h4).below h5) (by omega)).mono ?_); rintro e w6 ⟨v6, rfl, o6, h6⟩; obtain ⟨a6, c6, rfl, r6⟩ := o6.reads; have hx6 := looL_le xs0; rw [HS.out] at hx6)
        | (go_at_call 20; (with_reducible refine (bwrap_Loose _ _ _ _ _ ((((((R.out.below h1).below h2).below h3).below h4).below h5).below h6) (by omega)).mono ?_); rintro e w7 ⟨a7, l7, c7, rfl, r7, h7⟩)
        | (go_at_call 9; (with_reducible refine (like16_same _ _ _ _ _ _ _ _ r7 (r6.below h7)).mono ?_); rintro e w8 ⟨rfl, n8, rfl⟩; have h8 := Below.drewN (Below.refl w7.heap.size w7) n8)
        | (go_at_call 21; (with_reducible refine (bwrap_Again _ _ _ _ _ ((((((((R.out.below h1).below h2).below h3).below h4).below h5).below h6).below h7).below h8) (by omega)).mono ?_); rintro e w9 ⟨a9, l9, c9, rfl, r9, h9⟩)
        | (go_at_call 10; (with_reducible refine (ref16_Lay _ _ _ _ _ (((r6.below h7).below h8).below h9) (by omega)).mono ?_); rintro e w10 ⟨v10, rfl, o10, h10⟩; obtain ⟨a10, c10, rfl, r10⟩ := o10.reads)
        | (go_at_call 9; (with_reducible refine (like16_same _ _ _ _ _ _ _ _ (r9.below h10) r10).mono ?_); rintro e w11 ⟨rfl, n11, rfl⟩; have h11 := Below.drewN (Below.refl w10.heap.size w10) n11)
        | (go_at_call 7; (with_reducible refine (alive16_any _ (((((((((((HM.out.below h1).below h2).below h3).below h4).below h5).below h6).below h7).below h8).below h9).below h10).below h11)).mono ?_); rintro e w12 ⟨rfl, h12⟩))
      go_ret
      exact ⟨rfl, below_then (below_then (below_then (below_then (below_then (below_then (below_then (below_then (below_then (below_then (below_then h1 h2) h3) h4) h5) h6) h7) h8) h9) h10) h11) h12⟩
    · obtain ⟨E, hEE⟩ : ∃ E, chkE xs0 = E := ⟨_, rfl⟩
      rw [hEE] at hz
      have hz2 : (E == 0) = false := by simpa using hz
      have hz3 : (E != 0) = true := by simpa using hz
      have HE := hid hEE
      have HNE := hid hz
      clear hz hEE
      go_enter Try.func4, Try.ntmps4
      go_wp2_with (first
        | (go_at_call 15; (with_reducible refine (chkq R.out HE.out (by omega)).mono ?_); rintro e w1 ⟨v1, rfl, o1, h1⟩; obtain ⟨a1, c1, rfl, r1⟩ := o1.reads; have hl1 := chkL_le xs0; rw [HS.out] at hl1)
        | (go_at_call 16; (with_reducible refine (rdn (R.out.below h1) HE.out HNE.out (by omega) (HM.out.below h1)).mono ?_); rintro e w2 ⟨a2, l2, c2, rfl, r2, h2⟩; obtain rfl : l2 = 0 := r2.size.symm)
        | (go_at_call 17; (with_reducible refine (ref14_Read _ _ _ _ _ (r1.below h2) (by omega)).mono ?_); rintro e w3 ⟨v3, rfl, o3, h3⟩; obtain ⟨a3, c3, rfl, r3⟩ := o3.reads)
        | (go_at_call 18; (with_reducible refine (ckq (((R.out.below h1).below h2).below h3) HE.out (by omega) (((HM.out.below h1).below h2).below h3)).mono ?_); rintro e w4 ⟨rfl, h4⟩)
        | (go_at_call 19; (with_reducible refine (ref15_Read _ _ _ _ _ ((((R.out.below h1).below h2).below h3).below h4) (by omega)).mono ?_); rintro e w5 ⟨v5, rfl, o5, h5⟩; obtain ⟨a5, c5, rfl, r5⟩ := o5.reads; have hx5 := looL_le xs0; rw [HS.out] at hx5)
        | (go_at_call 20; (with_reducible refine (bwrap_Loose _ _ _ _ _ (((((R.out.below h1).below h2).below h3).below h4).below h5) (by omega)).mono ?_); rintro e w6 ⟨a6, l6, c6, rfl, r6, h6⟩)
        | (go_at_call 9; (with_reducible refine (like16_same _ _ _ _ _ _ _ _ r6 (r5.below h6)).mono ?_); rintro e w7 ⟨rfl, n7, rfl⟩; have h7 := Below.drewN (Below.refl w6.heap.size w6) n7)
        | (go_at_call 21; (with_reducible refine (bwrap_Again _ _ _ _ _ (((((((R.out.below h1).below h2).below h3).below h4).below h5).below h6).below h7) (by omega)).mono ?_); rintro e w8 ⟨a8, l8, c8, rfl, r8, h8⟩)
        | (go_at_call 10; (with_reducible refine (ref16_Lay _ _ _ _ _ (((r5.below h6).below h7).below h8) (by omega)).mono ?_); rintro e w9 ⟨v9, rfl, o9, h9⟩; obtain ⟨a9, c9, rfl, r9⟩ := o9.reads)
        | (go_at_call 9; (with_reducible refine (like16_same _ _ _ _ _ _ _ _ (r8.below h9) r9).mono ?_); rintro e w10 ⟨rfl, n10, rfl⟩; have h10 := Below.drewN (Below.refl w9.heap.size w9) n10)
        | (go_at_call 7; (with_reducible refine (alive16_any _ ((((((((((HM.out.below h1).below h2).below h3).below h4).below h5).below h6).below h7).below h8).below h9).below h10)).mono ?_); rintro e w11 ⟨rfl, h11⟩))
      go_ret
      exact ⟨rfl, below_then (below_then (below_then (below_then (below_then (below_then (below_then (below_then (below_then (below_then h1 h2) h3) h4) h5) h6) h7) h8) h9) h10) h11⟩
  · have hN' : 1000 < len0 := by omega
    go_enter Try.func4, Try.ntmps4
    go_wp2_with (go_at_call 7; (with_reducible refine (alive16_any _ HM.out).mono ?_); rintro e w' ⟨rfl, hb⟩)
    go_ret
    exact ⟨rfl, hb⟩

set_option maxRecDepth 100000 in
theorem lifted (os : Os) (started : os.Started) (H : Type) (enc : TypeId × Value → H) :
    ReturnsInHanded {} Try.checked os 4 .any (Rows.bwrapReadsSpec.pre6 enc Try.prog Try.f4 Rows.bwrapReadsRow.domain false) (Rows.bwrapReadsSpec.post enc Try.prog Try.f4 false true false false) := by
  refine returnsInHanded_of_change_shaped (C := Try.checked) own started (by kernel_rfl) Try.func4
    (ChangeSpec.witness6 (enc := enc) (C := Try.checked) false ⟨#[], #[.slice none 0 0], []⟩ 8 (by kernel_rfl) (by kernel_rfl) (by kernel_rfl) (by kernel_rfl)) ?_
  intro W base args ds gs before hval0 hW hcnd _ hsh _
  have hval : ∀ (j : Nat) t v, Try.f4.params[j]? = some t → args[j]? = some v → Value.okWide Try.prog W .any base t v := hval0
  have hW' := hW
  obtain ⟨p, q, hA0, hV, rfl, hfz, hnd⟩ := hW
  have hA : DataW.TrodAll enc Try.prog W 0 (fun _ => true) true Try.f4.params.toList args.toList ds p := hA0
  rw [Try.params4] at hA hval
  obtain ⟨v0, vs0, d0, ds0, p0, q0, hargs, rfl, rfl, h0, r_0⟩ := trodAll_cons hA
  obtain ⟨rfl, rfl, rfl⟩ := trodAll_nil r_0
  obtain rfl : args = #[v0] := by cases args; simp_all
  obtain ⟨rfl, rfl⟩ := trodVars_none hV
  obtain ⟨a0, len0, cap0, rfl⟩ := okWide_slice Try.underlying22 (hval 0 22 v0 rfl rfl)
  have k0 := h0
  have lt0 : ∀ x ∈ p0, x.block < W.heap.size := by obtain ⟨m, hm⟩ := k0; exact DataW.trod_lt m _ _ _ hm
  obtain ⟨xs0, r0⟩ : ∃ xs, Reads .u8 W a0 len0 cap0 xs := by
    obtain ⟨fuel, hf⟩ := h0
    rcases open_ints Try.underlying22 Try.underlying5 (by kernel_rfl) hf with ⟨hcs, _⟩ | ⟨x, l, c, zs, hcs, _, hl, hm, hz, _, hcell, hwz⟩
    · simp [Value.cells] at hcs
      obtain ⟨rfl, rfl, rfl⟩ := hcs
      exact ⟨[], Reads.nil _ _ _ _ (Nat.zero_le _)⟩
    · simp [Value.cells] at hcs
      obtain ⟨rfl, rfl, rfl⟩ := hcs
      exact ⟨_, reads_of_ints hl hm (by simpa using hz) hcell hwz⟩
  clear hA0 hval0
  refine (walk a0 len0 cap0 xs0 W r0 (Mx.shaped hsh)).mono fun e W' ⟨he, bel⟩ => ?_
  subst he
  exact ⟨_, rfl, _, _, _, [], _, [], hW', trodAll_mk1 (shut_bool Try.underlying4 _), (trodAll_cons_mk (Below.trod laidOut (by kernel_rfl) (of_decide_eq_true (by kernel_rfl)) k0 bel lt0) trodAll_mk0), rfl, bel.frame _, fun h => by cases h⟩

theorem over : Rows.bwrapReadsRow.holds Try.pinned (OpenSpec.ofChange Rows.bwrapReadsSpec) :=
  OpenClaim.holds_of_wide 4 Try.f4 rfl rfl rfl rfl rfl rfl rfl ⟨rfl, rfl, rfl, rfl, rfl⟩ rfl rfl rfl rfl rfl (by kernel_rfl) Try.func4 (by kernel_rfl)
    (of_decide_eq_true (by kernel_rfl)) (by unfold Func.isWrapper; first | (rw [if_pos (by decide +kernel)]; kernel_rfl) | (rw [if_neg (by decide +kernel)]; exact ⟨rfl, rfl⟩))
    (fun os started H enc _ => lifted os started H enc)

end Go.Proofs.Ytkfmalajapojhaa.bwrapReads
namespace Go.Proofs.Ytkfmalajapojhaa
theorem bwrapReads_holds : Rows.BwrapReadsSaid := bwrapReads.over
#print axioms bwrapReads_holds
end Go.Proofs.Ytkfmalajapojhaa
