/-
  Proved: for every []byte s (nil, empty, of any length and capacity) and int n, in whatever memory and on every schedule, sheavelaw16.BwrapLays(s, n) returns true, without a panic or a race, and its arguments read as before. No condition.
-/
import Derived.Test.YtkfmalajapojhaaRows
import Derived.Test.YtkfmalajapojhaaAlive16
import Derived.Test.YtkfmalajapojhaaR16
import Derived.Test.YtkfmalajapojhaaD16b
import Derived.WalkKit
import Derived.ProofKit
import Derived.OpenShut
import Derived.ShutString
import Derived.ChangeOld
import Derived.Below
import Derived.HandedShaped
namespace Go.Proofs.Ytkfmalajapojhaa.bwrapLays
open Go.ChangeShapes Go.WideShapes Go.ChangeAt Go.RowKit
open Go.ChangeMaps (open_string shut_string)
set_option linter.unusedVariables false

theorem own : ownKnob Try.prog.godebug = none := by kernel_rfl
theorem laidOut : laidOutB Try.prog = true := by kernel_rfl
theorem like16_same (a : Option Addr) (len cap : Nat) (a2 : Option Addr) (len2 cap2 : Nat) (xs : List Int) (w : World) (hr : Reads .u8 w a len cap xs) (hr2 : Reads .u8 w a2 len2 cap2 xs) :
    Calls Try.prog 9 #[.slice a len cap, .slice a2 len2 cap2] w fun e w' => e = .returned (.bool true) ∧ ∃ n, w' = w.drewN n := by
  have := like_r a len cap xs a2 len2 cap2 xs w hr hr2
  rwa [decide_eq_true rfl] at this
theorem lay16_len (xs : List Int) : ((layB xs).length : Int) = lenB xs.length := by
  unfold layB fill4 bareB lenB
  rw [List.length_append, List.length_replicate, List.length_map, v64_len]
  split <;> omega
theorem wrap16_len (xs : List Int) : ((wrapL (layB xs)).length : Int) = wlenN xs.length := by
  have h := lay16_len xs
  rw [wrap_len]
  unfold wlenN lineN
  omega
theorem lenq {n l : Int} {w : World} (h : l = wlenN n) (hn : n ≤ 1099511627776) : Calls Try.prog 11 #[.int .i64 n] w fun e w' => e = .returned (.int .i64 l) ∧ Below w.heap.size w w' := by
  rw [h]
  exact bwrap_Len n w hn
set_option maxHeartbeats 4000000 in
set_option maxRecDepth 100000 in
theorem walk (a0 : Option Addr) (len0 cap0 : Nat) (xs0 : List Int) (a1 : Int) (w : World) (r0 : Reads .u8 w a0 len0 cap0 xs0) (w1 : (Lit.int .i64 a1).wf = true) (hm : Mx w) :
    Calls Try.prog 3 #[.slice a0 len0 cap0, .int .i64 a1] w fun e w' => e = .returned (.bool true) ∧ Below w.heap.size w w' := by
  have HM := hid hm
  clear hm
  by_cases hN : len0 ≤ 1000
  · by_cases hN1 : a1 ≤ 1099511627776
    · have R := hid r0
      have HS := hid r0.size
      clear r0
      go_enter Try.func3, Try.ntmps3
      go_wp2_with (first
        | (go_at_call 8; (with_reducible refine (bwrap_Lay _ _ _ _ _ R.out (by omega)).mono ?_); rintro e w1 ⟨a1, l1, c1, rfl, r1, h1⟩; have HLn := hid (show (l1 : Int) = wlenN len0 by have := r1.size; have h := wrap16_len xs0; rw [HS.out] at h; omega))
        | (go_at_call 10; (with_reducible refine (ref16_Lay _ _ _ _ _ (R.out.below h1) (by omega)).mono ?_); rintro e w2 ⟨v2, rfl, o2, h2⟩; obtain ⟨a2, c2, rfl, r2⟩ := o2.reads)
        | (go_at_call 9; (with_reducible refine (like16_same _ _ _ _ _ _ _ _ (r1.below h2) r2).mono ?_); rintro e w3 ⟨rfl, n3, rfl⟩; have h3 := Below.drewN (Below.refl w2.heap.size w2) n3)
        | (go_at_call 11; (with_reducible refine (lenq HLn.out (by omega)).mono ?_); rintro e w4 ⟨rfl, h4⟩)
        | (go_at_call 12; (with_reducible refine (bwrap_Lines _ _ (by omega)).mono ?_); rintro e w5 ⟨rfl, h5⟩)
        | (go_at_call 13; (with_reducible refine (ref16_Lines _ _ (by omega)).mono ?_); rintro e w6 ⟨rfl, rfl⟩)
        | (go_at_call 11; (with_reducible refine (bwrap_Len _ _ (by omega)).mono ?_); rintro e w7 ⟨rfl, h7⟩)
        | (go_at_call 14; (with_reducible refine (ref16_Len _ _ (by omega)).mono ?_); rintro e w8 ⟨rfl, rfl⟩)
        | (go_at_call 7; (with_reducible refine (alive16_any _ ((((((HM.out.below h1).below h2).below h3).below h4).below h5).below h7)).mono ?_); rintro e w9 ⟨rfl, h9⟩))
      go_ret
      exact ⟨rfl, below_then (below_then (below_then (below_then (below_then (below_then h1 h2) h3) h4) h5) h7) h9⟩
    · have hN' : 1099511627776 < a1 := by omega
      go_enter Try.func3, Try.ntmps3
      go_wp2_with (go_at_call 7; (with_reducible refine (alive16_any _ HM.out).mono ?_); rintro e w' ⟨rfl, hb⟩)
      go_ret
      exact ⟨rfl, hb⟩
  · have hN' : 1000 < len0 := by omega
    go_enter Try.func3, Try.ntmps3
    go_wp2_with (go_at_call 7; (with_reducible refine (alive16_any _ HM.out).mono ?_); rintro e w' ⟨rfl, hb⟩)
    go_ret
    exact ⟨rfl, hb⟩

set_option maxRecDepth 100000 in
theorem lifted (os : Os) (started : os.Started) (H : Type) (enc : TypeId × Value → H) :
    ReturnsInHanded {} Try.checked os 3 .any (Rows.bwrapLaysSpec.pre6 enc Try.prog Try.f3 Rows.bwrapLaysRow.domain false) (Rows.bwrapLaysSpec.post enc Try.prog Try.f3 false true false false) := by
  refine returnsInHanded_of_change_shaped (C := Try.checked) own started (by kernel_rfl) Try.func3
    (ChangeSpec.witness6 (enc := enc) (C := Try.checked) false ⟨#[], #[.slice none 0 0, .int .i64 0], []⟩ 8 (by kernel_rfl) (by kernel_rfl) (by kernel_rfl) (by kernel_rfl)) ?_
  intro W base args ds gs before hval0 hW hcnd _ hsh _
  have hval : ∀ (j : Nat) t v, Try.f3.params[j]? = some t → args[j]? = some v → Value.okWide Try.prog W .any base t v := hval0
  have hW' := hW
  obtain ⟨p, q, hA0, hV, rfl, hfz, hnd⟩ := hW
  have hA : DataW.TrodAll enc Try.prog W 0 (fun _ => true) true Try.f3.params.toList args.toList ds p := hA0
  rw [Try.params3] at hA hval
  obtain ⟨v0, vs0, d0, ds0, p0, q0, hargs, rfl, rfl, h0, r_0⟩ := trodAll_cons hA
  obtain ⟨v1, vs1, d1, ds1, p1, q1, rfl, rfl, rfl, h1, r_1⟩ := trodAll_cons r_0
  obtain ⟨rfl, rfl, rfl⟩ := trodAll_nil r_1
  obtain rfl : args = #[v0, v1] := by cases args; simp_all
  obtain ⟨rfl, rfl⟩ := trodVars_none hV
  obtain ⟨a0, len0, cap0, rfl⟩ := okWide_slice Try.underlying22 (hval 0 22 v0 rfl rfl)
  have k0 := h0
  have lt0 : ∀ x ∈ p0, x.block < W.heap.size := by obtain ⟨m, hm⟩ := k0; exact DataW.trod_lt m _ _ _ hm
  obtain ⟨xs0, r0⟩ : ∃ xs, Reads .u8 W a0 len0 cap0 xs := by
    obtain ⟨fuel, hf⟩ := h0
    rcases open_ints Try.underlying22 Try.underlying5 (by kernel_rfl) hf with ⟨hcs, _⟩ | ⟨x, l, c, zs, hcs, _, hl, hm, hz, _, hcell, hwz⟩
    · simp [Value.cells] at hcs
      obtain ⟨rfl, rfl, rfl⟩ := hcs
      exact ⟨[], Reads.nil _ _ _ _ (Nat.zero_le _)⟩
    · simp [Value.cells] at hcs
      obtain ⟨rfl, rfl, rfl⟩ := hcs
      exact ⟨_, reads_of_ints hl hm (by simpa using hz) hcell hwz⟩
  obtain ⟨a1, rfl, rfl, rfl, w1⟩ := open_int Try.underlying3 (hval 1 3 v1 rfl rfl) h1
  clear hA0 hval0
  refine (walk a0 len0 cap0 xs0 a1 W r0 w1 (Mx.shaped hsh)).mono fun e W' ⟨he, bel⟩ => ?_
  subst he
  exact ⟨_, rfl, _, _, _, [], _, [], hW', trodAll_mk1 (shut_bool Try.underlying4 _), (trodAll_cons_mk (Below.trod laidOut (by kernel_rfl) (of_decide_eq_true (by kernel_rfl)) k0 bel lt0) (trodAll_cons_mk (shut_int Try.underlying3 w1) trodAll_mk0)), rfl, bel.frame _, fun h => by cases h⟩

theorem over : Rows.bwrapLaysRow.holds Try.pinned (OpenSpec.ofChange Rows.bwrapLaysSpec) :=
  OpenClaim.holds_of_wide 3 Try.f3 rfl rfl rfl rfl rfl rfl rfl ⟨rfl, rfl, rfl, rfl, rfl⟩ rfl rfl rfl rfl rfl (by kernel_rfl) Try.func3 (by kernel_rfl)
    (of_decide_eq_true (by kernel_rfl)) (by unfold Func.isWrapper; first | (rw [if_pos (by decide +kernel)]; kernel_rfl) | (rw [if_neg (by decide +kernel)]; exact ⟨rfl, rfl⟩))
    (fun os started H enc _ => lifted os started H enc)

end Go.Proofs.Ytkfmalajapojhaa.bwrapLays
namespace Go.Proofs.Ytkfmalajapojhaa
theorem bwrapLays_holds : Rows.BwrapLaysSaid := bwrapLays.over
#print axioms bwrapLays_holds
end Go.Proofs.Ytkfmalajapojhaa
