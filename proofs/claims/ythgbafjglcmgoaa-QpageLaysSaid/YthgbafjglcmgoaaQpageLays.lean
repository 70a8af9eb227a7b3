/-
  Proved: for every []byte s (nil, empty, of any length and capacity), byte c and bool ends, in whatever memory and on every schedule, sheavelaw18.QpageLays(s, c, ends) returns true, without a panic or a race, and its arguments read as before. No condition.
-/
import Derived.Test.YthgbafjglcmgoaaRows
import Derived.Test.YthgbafjglcmgoaaAlive18
import Derived.Test.YthgbafjglcmgoaaR18d
import Derived.Test.YthgbafjglcmgoaaD18c
import Derived.WalkKit
import Derived.ProofKit
import Derived.OpenShut
import Derived.ShutString
import Derived.ChangeOld
import Derived.Below
import Derived.HandedShaped
namespace Go.Proofs.Ythgbafjglcmgoaa.qpageLays
open Go.ChangeShapes Go.WideShapes Go.ChangeAt Go.RowKit
open Go.ChangeMaps (open_string shut_string)
set_option linter.unusedVariables false

theorem own : ownKnob Try.prog.godebug = none := by kernel_rfl
theorem laidOut : laidOutB Try.prog = true := by kernel_rfl
theorem like18_same (a : Option Addr) (len cap : Nat) (a2 : Option Addr) (len2 cap2 : Nat) (xs : List Int) (w : World) (hr : Reads .u8 w a len cap xs) (hr2 : Reads .u8 w a2 len2 cap2 xs) :
    Calls Try.prog 9 #[.slice a len cap, .slice a2 len2 cap2] w fun e w' => e = .returned (.bool true) ∧ ∃ n, w' = w.drewN n := by
  have := like_r a len cap xs a2 len2 cap2 xs w hr hr2
  rwa [decide_eq_true rfl] at this
theorem layQ_len (xs : List Int) : (layQ xs).length ≤ 12 * xs.length + 3 := by
  have h1 := layS_len (brkL xs) false 0
  have h2 := brkS_len xs false
  unfold layQ
  unfold brkL at h1 ⊢
  omega
theorem lenq {a : Option Addr} {len cap : Nat} {xs : List Int} {w : World} {l : Int} (hr : Reads .u8 w a len cap xs) (h : l = (layQ xs).length) (hN : len < 1000000) : Calls Try.prog 11 #[.slice a len cap] w fun e w' => e = .returned (.int .i64 l) ∧ Below w.heap.size w w' := by
  rw [h]
  exact qpage_Len a len cap xs w hr hN
theorem unitq (c : Int) (ends : Bool) (w : World) (h0 : 0 ≤ c) (h1 : c ≤ 255) :
    Calls Try.prog 15 #[.int .u8 c, .bool ends] w fun e w' => ∃ a' len' cap', e = .returned (.slice a' len' cap') ∧ Reads .u8 w' a' len' cap' (unitL c ends) ∧ Below w.heap.size w w' :=
  (ref18_Unit c ends w h0 h1).mono fun _ _ ⟨a, c, h1, h2, _, h3⟩ => ⟨a, _, c, h1, h2, h3⟩
set_option maxHeartbeats 4000000 in
set_option maxRecDepth 100000 in
theorem walk (a0 : Option Addr) (len0 cap0 : Nat) (xs0 : List Int) (a1 : Int) (a2 : Bool) (w : World) (r0 : Reads .u8 w a0 len0 cap0 xs0) (w1 : (Lit.int .u8 a1).wf = true) (hm : Mx w) :
    Calls Try.prog 3 #[.slice a0 len0 cap0, .int .u8 a1, .bool a2] w fun e w' => e = .returned (.bool true) ∧ Below w.heap.size w w' := by
  have HM := hid hm
  clear hm
  have hw := wf_u8 w1
  by_cases hN : len0 ≤ 1000
  · have R := hid r0
    clear r0
    go_enter Try.func3, Try.ntmps3
    go_wp2_with (first
      | (go_at_call 8; (with_reducible refine (qpage_Lay _ _ _ _ _ R.out (by omega)).mono ?_); rintro e w1 ⟨a1, l1, c1, rfl, r1, h1⟩; have HLQ := hid (show (l1 : Int) = (layQ xs0).length by have := r1.size; omega))
      | (go_at_call 10; (with_reducible refine (ref18_Lay _ _ _ _ _ (R.out.below h1) (by omega)).mono ?_); rintro e w2 ⟨v2, rfl, o2, h2⟩; obtain ⟨a2, c2, rfl, r2⟩ := o2.reads)
      | (go_at_call 9; (with_reducible refine (like18_same _ _ _ _ _ _ _ _ (r1.below h2) r2).mono ?_); rintro e w3 ⟨rfl, n3, rfl⟩; have h3 := Below.drewN (Below.refl w2.heap.size w2) n3)
      | (go_at_call 11; (with_reducible refine (lenq (((R.out.below h1).below h2).below h3) HLQ.out (by omega)).mono ?_); rintro e w4 ⟨rfl, h4⟩)
      | (go_at_call 12; (with_reducible refine (qpage_Breaks _ _ _ _ _ ((((R.out.below h1).below h2).below h3).below h4) (by omega)).mono ?_); rintro e w5 ⟨a5, l5, c5, rfl, r5, h5⟩)
      | (go_at_call 13; (with_reducible refine (ref18_Breaks _ _ _ _ _ (((((R.out.below h1).below h2).below h3).below h4).below h5) (by omega)).mono ?_); rintro e w6 ⟨v6, rfl, o6, h6⟩; obtain ⟨a6, c6, rfl, r6⟩ := o6.reads)
      | (go_at_call 9; (with_reducible refine (like18_same _ _ _ _ _ _ _ _ (r5.below h6) r6).mono ?_); rintro e w7 ⟨rfl, n7, rfl⟩; have h7 := Below.drewN (Below.refl w6.heap.size w6) n7)
      | (go_at_call 14; (with_reducible refine (qpage_Unit _ _ _ hw.1 hw.2).mono ?_); rintro e w8 ⟨a8, l8, c8, rfl, r8, h8⟩)
      | (go_at_call 15; (with_reducible refine (unitq _ _ _ hw.1 hw.2).mono ?_); rintro e w9 ⟨a9, l9, c9, rfl, r9, h9⟩)
      | (go_at_call 9; (with_reducible refine (like18_same _ _ _ _ _ _ _ _ (r8.below h9) r9).mono ?_); rintro e w10 ⟨rfl, n10, rfl⟩; have h10 := Below.drewN (Below.refl w9.heap.size w9) n10)
      | (go_at_call 7; (with_reducible refine (alive18_any _ ((((((((((HM.out.below h1).below h2).below h3).below h4).below h5).below h6).below h7).below h8).below h9).below h10)).mono ?_); rintro e w11 ⟨rfl, h11⟩))
    go_ret
    exact ⟨rfl, below_then (below_then (below_then (below_then (below_then (below_then (below_then (below_then (below_then (below_then h1 h2) h3) h4) h5) h6) h7) h8) h9) h10) h11⟩
  · have hN' : 1000 < len0 := by omega
    go_enter Try.func3, Try.ntmps3
    go_wp2_with (go_at_call 7; (with_reducible refine (alive18_any _ HM.out).mono ?_); rintro e w' ⟨rfl, hb⟩)
    go_ret
    exact ⟨rfl, hb⟩

set_option maxRecDepth 100000 in
theorem lifted (os : Os) (started : os.Started) (H : Type) (enc : TypeId × Value → H) :
    ReturnsInHanded {} Try.checked os 3 .any (Rows.qpageLaysSpec.pre6 enc Try.prog Try.f3 Rows.qpageLaysRow.domain false) (Rows.qpageLaysSpec.post enc Try.prog Try.f3 false true false false) := by
  refine returnsInHanded_of_change_shaped (C := Try.checked) own started (by kernel_rfl) Try.func3
    (ChangeSpec.witness6 (enc := enc) (C := Try.checked) false ⟨#[], #[.slice none 0 0, .int .u8 0, .bool false], []⟩ 8 (by kernel_rfl) (by kernel_rfl) (by kernel_rfl) (by kernel_rfl)) ?_
  intro W base args ds gs before hval0 hW hcnd _ hsh _
  have hval : ∀ (j : Nat) t v, Try.f3.params[j]? = some t → args[j]? = some v → Value.okWide Try.prog W .any base t v := hval0
  have hW' := hW
  obtain ⟨p, q, hA0, hV, rfl, hfz, hnd⟩ := hW
  have hA : DataW.TrodAll enc Try.prog W 0 (fun _ => true) true Try.f3.params.toList args.toList ds p := hA0
  rw [Try.params3] at hA hval
  obtain ⟨v0, vs0, d0, ds0, p0, q0, hargs, rfl, rfl, h0, r_0⟩ := trodAll_cons hA
  obtain ⟨v1, vs1, d1, ds1, p1, q1, rfl, rfl, rfl, h1, r_1⟩ := trodAll_cons r_0
  obtain ⟨v2, vs2, d2, ds2, p2, q2, rfl, rfl, rfl, h2, r_2⟩ := trodAll_cons r_1
  obtain ⟨rfl, rfl, rfl⟩ := trodAll_nil r_2
  obtain rfl : args = #[v0, v1, v2] := by cases args; simp_all
  obtain ⟨rfl, rfl⟩ := trodVars_none hV
  obtain ⟨a0, len0, cap0, rfl⟩ := okWide_slice Try.underlying22 (hval 0 22 v0 rfl rfl)
  have k0 := h0
  have lt0 : ∀ x ∈ p0, x.block < W.heap.size := by obtain ⟨m, hm⟩ := k0; exact DataW.trod_lt m _ _ _ hm
  obtain ⟨xs0, r0⟩ : ∃ xs, Reads .u8 W a0 len0 cap0 xs := by
    obtain ⟨fuel, hf⟩ := h0
    rcases open_ints Try.underlying22 Try.underlying5 (by kernel_rfl) hf with ⟨hcs, _⟩ | ⟨x, l, c, zs, hcs, _, hl, hm, hz, _, hcell, hwz⟩
    · simp [Value.cells] at hcs
      obtain ⟨rfl, rfl, rfl⟩ := hcs
      exact ⟨[], Reads.nil _ _ _ _ (Nat.zero_le _)⟩
    · simp [Value.cells] at hcs
      obtain ⟨rfl, rfl, rfl⟩ := hcs
      exact ⟨_, reads_of_ints hl hm (by simpa using hz) hcell hwz⟩
  obtain ⟨a1, rfl, rfl, rfl, w1⟩ := open_int Try.underlying5 (hval 1 5 v1 rfl rfl) h1
  obtain ⟨a2, rfl, rfl, rfl⟩ := open_bool Try.underlying4 (hval 2 4 v2 rfl rfl) h2
  clear hA0 hval0
  refine (walk a0 len0 cap0 xs0 a1 a2 W r0 w1 (Mx.shaped hsh)).mono fun e W' ⟨he, bel⟩ => ?_
  subst he
  exact ⟨_, rfl, _, _, _, [], _, [], hW', trodAll_mk1 (shut_bool Try.underlying4 _), (trodAll_cons_mk (Below.trod laidOut (by kernel_rfl) (of_decide_eq_true (by kernel_rfl)) k0 bel lt0) (trodAll_cons_mk (shut_int Try.underlying5 w1) (trodAll_cons_mk (shut_bool Try.underlying4 a2) trodAll_mk0))), rfl, bel.frame _, fun h => by cases h⟩

theorem over : Rows.qpageLaysRow.holds Try.pinned (OpenSpec.ofChange Rows.qpageLaysSpec) :=
  OpenClaim.holds_of_wide 3 Try.f3 rfl rfl rfl rfl rfl rfl rfl ⟨rfl, rfl, rfl, rfl, rfl⟩ rfl rfl rfl rfl rfl (by kernel_rfl) Try.func3 (by kernel_rfl)
    (of_decide_eq_true (by kernel_rfl)) (by unfold Func.isWrapper; first | (rw [if_pos (by decide +kernel)]; kernel_rfl) | (rw [if_neg (by decide +kernel)]; exact ⟨rfl, rfl⟩))
    (fun os started H enc _ => lifted os started H enc)

end Go.Proofs.Ythgbafjglcmgoaa.qpageLays
namespace Go.Proofs.Ythgbafjglcmgoaa
theorem qpageLays_holds : Rows.QpageLaysSaid := qpageLays.over
#print axioms qpageLays_holds
end Go.Proofs.Ythgbafjglcmgoaa
