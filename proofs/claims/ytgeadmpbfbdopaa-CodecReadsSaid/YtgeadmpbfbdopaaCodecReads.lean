/-
  Proved: for every two ints and []byte, in whatever memory and on every schedule, sheavelaw13.CodecReads returns true, without a panic or a race, and its arguments read as before. No condition.
-/
import Derived.Test.YtgeadmpbfbdopaaRows
import Derived.Test.YtgeadmpbfbdopaaAlive13
import Derived.Test.YtgeadmpbfbdopaaR13
import Derived.WalkKit
import Derived.ProofKit
import Derived.OpenShut
import Derived.ShutString
import Derived.ChangeOld
import Derived.Below
namespace Go.Proofs.Ytgeadmpbfbdopaa.codecReads
open Go.ChangeShapes Go.WideShapes Go.ChangeAt Go.RowKit
open Go.ChangeMaps (open_string shut_string)
set_option linter.unusedVariables false

theorem own : ownKnob Try.prog.godebug = none := by kernel_rfl
theorem laidOut : laidOutB Try.prog = true := by kernel_rfl
theorem like13_same (a : Option Addr) (len cap : Nat) (a2 : Option Addr) (len2 cap2 : Nat) (xs : List Int) (w : World) (hr : Reads .u8 w a len cap xs) (hr2 : Reads .u8 w a2 len2 cap2 xs) :
    Calls Try.prog 10 #[.slice a len cap, .slice a2 len2 cap2] w fun e w' => e = .returned (.bool true) ∧ ∃ n, w' = w.drewN n := by
  have := like_r a len cap xs a2 len2 cap2 xs w hr hr2
  rwa [decide_eq_true rfl] at this
theorem liker13_same (a : Option Addr) (len cap : Nat) (a2 : Option Addr) (len2 cap2 : Nat) (xs : List Int) (w : World) (hr : Reads .i32 w a len cap xs) (hr2 : Reads .i32 w a2 len2 cap2 xs) :
    Calls Try.prog 15 #[.slice a len cap, .slice a2 len2 cap2] w fun e w' => e = .returned (.bool true) ∧ ∃ n, w' = w.drewN n := by
  have := ref03_Like a len cap xs a2 len2 cap2 xs w hr hr2
  rwa [decide_eq_true rfl] at this
set_option maxHeartbeats 4000000 in
set_option maxRecDepth 100000 in
theorem walk (a0 : Int) (a1 : Int) (a2 : Option Addr) (len2 cap2 : Nat) (xs2 : List Int) (w : World) (w0 : (Lit.int .i64 a0).wf = true) (w1 : (Lit.int .i64 a1).wf = true) (r2 : Reads .u8 w a2 len2 cap2 xs2) :
    Calls Try.prog 4 #[.int .i64 a0, .int .i64 a1, .slice a2 len2 cap2] w fun e w' => e = .returned (.bool true) ∧ Below w.heap.size w w' := by
  by_cases hN : len2 ≤ 100
  · have R := hid r2
    have HS := hid r2.size
    clear r2
    go_enter Try.func4, Try.ntmps4
    go_wp2_with (first
      | (go_at_call 13; (with_reducible refine (ref13_Read _ _ _ _ _ _ R.out (by omega)).mono ?_); rintro e w1 ⟨a1, l1, c1, rfl, r1, h1⟩; have hl1 : l1 < 1000 := (by have := r1.size; have := readR_len a0 xs2; have := HS.out; omega))
      | (go_at_call 14; (with_reducible refine (codec_Move _ _ _ _ _ _ _ (R.out.below h1) (by omega)).mono ?_); rintro e w2 ⟨a2, l2, c2, rfl, r2, h2⟩)
      | (go_at_call 9; (with_reducible refine (ref13_Lay _ _ _ _ _ _ (r1.below h2) (by omega)).mono ?_); rintro e w3 ⟨a3, l3, c3, rfl, r3, h3⟩)
      | (go_at_call 16; (with_reducible refine (codec_Read _ _ _ _ _ _ (((R.out.below h1).below h2).below h3) (by omega)).mono ?_); rintro e w4 ⟨a4, l4, c4, rfl, r4, h4⟩)
      | (go_at_call 15; (with_reducible refine (liker13_same _ _ _ _ _ _ _ _ r4 (((r1.below h2).below h3).below h4)).mono ?_); rintro e w5 ⟨rfl, n5, rfl⟩; have h5 := Below.drewN (Below.refl w4.heap.size w4) n5)
      | (go_at_call 17; (with_reducible refine (codec_Exact _ _ _ _ _ _ (((((R.out.below h1).below h2).below h3).below h4).below h5) (by omega)).mono ?_); rintro e w6 ⟨rfl, h6⟩)
      | (go_at_call 18; (with_reducible refine (ref13_Exact _ _ _ _ _ _ ((((((R.out.below h1).below h2).below h3).below h4).below h5).below h6) (by omega)).mono ?_); rintro e w7 ⟨rfl, h7⟩)
      | (go_at_call 10; (with_reducible refine (like13_same _ _ _ _ _ _ _ _ (((((r2.below h3).below h4).below h5).below h6).below h7) ((((r3.below h4).below h5).below h6).below h7)).mono ?_); rintro e w8 ⟨rfl, n8, rfl⟩; have h8 := Below.drewN (Below.refl w7.heap.size w7) n8)
      | (go_at_call 7; (with_reducible refine (alive13_any _).mono ?_); rintro e w9 ⟨rfl, h9⟩))
    go_ret
    exact ⟨rfl, below_then (below_then (below_then (below_then (below_then (below_then (below_then (below_then h1 h2) h3) h4) h5) h6) h7) h8) h9⟩
  · have hN' : 100 < len2 := by omega
    go_enter Try.func4, Try.ntmps4
    go_wp2_with (go_at_call 7; (with_reducible refine (alive13_any _).mono ?_); rintro e w' ⟨rfl, hb⟩)
    go_ret
    exact ⟨rfl, hb⟩

set_option maxRecDepth 100000 in
theorem lifted (os : Os) (started : os.Started) (H : Type) (enc : TypeId × Value → H) :
    ReturnsInHanded {} Try.checked os 4 .any (Rows.codecReadsSpec.pre6 enc Try.prog Try.f4 Rows.codecReadsRow.domain false) (Rows.codecReadsSpec.post enc Try.prog Try.f4 false true false false) := by
  refine returnsInHanded_of_change (C := Try.checked) own started (by kernel_rfl) Try.func4
    (ChangeSpec.witness6 (enc := enc) (C := Try.checked) false ⟨#[], #[.int .i64 0, .int .i64 0, .slice none 0 0], []⟩ 8 (by kernel_rfl) (by kernel_rfl) (by kernel_rfl) (by kernel_rfl)) ?_
  intro W base args ds gs before hval0 hW hcnd _
  have hval : ∀ (j : Nat) t v, Try.f4.params[j]? = some t → args[j]? = some v → Value.okWide Try.prog W .any base t v := hval0
  have hW' := hW
  obtain ⟨p, q, hA0, hV, rfl, hfz, hnd⟩ := hW
  have hA : DataW.TrodAll enc Try.prog W 0 (fun _ => true) true Try.f4.params.toList args.toList ds p := hA0
  rw [Try.params4] at hA hval
  obtain ⟨v0, vs0, d0, ds0, p0, q0, hargs, rfl, rfl, h0, r_0⟩ := trodAll_cons hA
  obtain ⟨v1, vs1, d1, ds1, p1, q1, rfl, rfl, rfl, h1, r_1⟩ := trodAll_cons r_0
  obtain ⟨v2, vs2, d2, ds2, p2, q2, rfl, rfl, rfl, h2, r_2⟩ := trodAll_cons r_1
  obtain ⟨rfl, rfl, rfl⟩ := trodAll_nil r_2
  obtain rfl : args = #[v0, v1, v2] := by cases args; simp_all
  obtain ⟨rfl, rfl⟩ := trodVars_none hV
  obtain ⟨a0, rfl, rfl, rfl, w0⟩ := open_int Try.underlying3 (hval 0 3 v0 rfl rfl) h0
  obtain ⟨a1, rfl, rfl, rfl, w1⟩ := open_int Try.underlying3 (hval 1 3 v1 rfl rfl) h1
  obtain ⟨a2, len2, cap2, rfl⟩ := okWide_slice Try.underlying24 (hval 2 24 v2 rfl rfl)
  have k2 := h2
  have lt2 : ∀ x ∈ p2, x.block < W.heap.size := by obtain ⟨m, hm⟩ := k2; exact DataW.trod_lt m _ _ _ hm
  obtain ⟨xs2, r2⟩ : ∃ xs, Reads .u8 W a2 len2 cap2 xs := by
    obtain ⟨fuel, hf⟩ := h2
    rcases open_ints Try.underlying24 Try.underlying5 (by kernel_rfl) hf with ⟨hcs, _⟩ | ⟨x, l, c, zs, hcs, _, hl, hm, hz, _, hcell, hwz⟩
    · simp [Value.cells] at hcs
      obtain ⟨rfl, rfl, rfl⟩ := hcs
      exact ⟨[], Reads.nil _ _ _ _ (Nat.zero_le _)⟩
    · simp [Value.cells] at hcs
      obtain ⟨rfl, rfl, rfl⟩ := hcs
      exact ⟨_, reads_of_ints hl hm (by simpa using hz) hcell hwz⟩
  clear hA0 hval0
  refine (walk a0 a1 a2 len2 cap2 xs2 W w0 w1 r2).mono fun e W' ⟨he, bel⟩ => ?_
  subst he
  exact ⟨_, rfl, _, _, _, [], _, [], hW', trodAll_mk1 (shut_bool Try.underlying4 _), (trodAll_cons_mk (shut_int Try.underlying3 w0) (trodAll_cons_mk (shut_int Try.underlying3 w1) (trodAll_cons_mk (Below.trod laidOut (by kernel_rfl) (of_decide_eq_true (by kernel_rfl)) k2 bel lt2) trodAll_mk0))), rfl, bel.frame _, fun h => by cases h⟩

theorem over : Rows.codecReadsRow.holds Try.pinned (OpenSpec.ofChange Rows.codecReadsSpec) :=
  OpenClaim.holds_of_wide 4 Try.f4 rfl rfl rfl rfl rfl rfl rfl ⟨rfl, rfl, rfl, rfl, rfl⟩ rfl rfl rfl rfl rfl (by kernel_rfl) Try.func4 (by kernel_rfl)
    (of_decide_eq_true (by kernel_rfl)) (by unfold Func.isWrapper; first | (rw [if_pos (by decide +kernel)]; kernel_rfl) | (rw [if_neg (by decide +kernel)]; exact ⟨rfl, rfl⟩))
    (fun os started H enc _ => lifted os started H enc)

end Go.Proofs.Ytgeadmpbfbdopaa.codecReads
namespace Go.Proofs.Ytgeadmpbfbdopaa
theorem codecReads_holds : Rows.CodecReadsSaid := codecReads.over
#print axioms codecReads_holds
end Go.Proofs.Ytgeadmpbfbdopaa
