/-
  Proved: for every []byte s (nil, empty, of any length and capacity), in whatever memory and on every schedule, sheavelaw15.BlooseStrict(s) returns true, without a panic or a race, and its argument reads as before. No condition.
-/
import Derived.Test.YtglhjamfbaidoaaRows
import Derived.Test.YtglhjamfbaidoaaAlive15
import Derived.Test.YtglhjamfbaidoaaR15
import Derived.Test.YtglhjamfbaidoaaR14b
import Derived.WalkKit
import Derived.ProofKit
import Derived.OpenShut
import Derived.ShutString
import Derived.ChangeOld
import Derived.Below
namespace Go.Proofs.Ytglhjamfbaidoaa.blooseStrict
open Go.ChangeShapes Go.WideShapes Go.ChangeAt Go.RowKit
open Go.ChangeMaps (open_string shut_string)
set_option linter.unusedVariables false

theorem own : ownKnob Try.prog.godebug = none := by kernel_rfl
theorem laidOut : laidOutB Try.prog = true := by kernel_rfl
theorem like15_same (a : Option Addr) (len cap : Nat) (a2 : Option Addr) (len2 cap2 : Nat) (xs : List Int) (w : World) (hr : Reads .u8 w a len cap xs) (hr2 : Reads .u8 w a2 len2 cap2 xs) :
    Calls Try.prog 9 #[.slice a len cap, .slice a2 len2 cap2] w fun e w' => e = .returned (.bool true) ∧ ∃ n, w' = w.drewN n := by
  have := like_r a len cap xs a2 len2 cap2 xs w hr hr2
  rwa [decide_eq_true rfl] at this
theorem lay15_le (xs : List Int) : (layB xs).length ≤ 2 * xs.length + 8 := by
  unfold layB fill4 bareB
  rw [List.length_append, List.length_replicate, List.length_map, v64_len]
  omega
theorem rdq {a : Option Addr} {len cap : Nat} {xs : List Int} {w : World} {E : Int} (hr : Reads .u8 w a len cap xs) (hE : codE xs = E) (hN : len < 10000000) :
    Calls Try.prog 15 #[.slice a len cap] w fun e w' => ∃ v, e = .returned (.tuple #[v, .int .i64 E]) ∧ Own .u8 5 w.heap.size w' v (codL xs) ∧ Below w.heap.size w w' := hE ▸ ref14_Read a len cap xs w hr hN
theorem looq {a : Option Addr} {len cap : Nat} {xs ys : List Int} {w : World} (hr : Reads .u8 w a len cap xs) (hE : looL xs = ys) (hN : len < 10000000) :
    Calls Try.prog 10 #[.slice a len cap] w fun e w' => ∃ a' len' cap', e = .returned (.slice a' len' cap') ∧ Reads .u8 w' a' len' cap' ys ∧ Below w.heap.size w w' := hE ▸ bloose_Read a len cap xs w hr hN
theorem clnq {a : Option Addr} {len cap : Nat} {xs ys : List Int} {w : World} (hr : Reads .u8 w a len cap xs) (hE : clnL xs = ys) (hN : len < 10000000) :
    Calls Try.prog 16 #[.slice a len cap] w fun e w' => ∃ a' len' cap', e = .returned (.slice a' len' cap') ∧ Reads .u8 w' a' len' cap' ys ∧ Below w.heap.size w w' := hE ▸ bloose_Clean a len cap xs w hr hN
theorem rdc {a : Option Addr} {len cap : Nat} {xs : List Int} {w : World} (hr : Reads .u8 w a len cap (clnL xs)) (hN : len < 10000000) :
    Calls Try.prog 15 #[.slice a len cap] w fun e w' => ∃ v, e = .returned (.tuple #[v, .int .i64 0]) ∧ Own .u8 5 w.heap.size w' v (looL xs) ∧ Below w.heap.size w w' := by
  have h := ref14_Read a len cap _ w hr hN
  rwa [(cod_cln xs).1, (cod_cln xs).2.1] at h
theorem clnc {a : Option Addr} {len cap : Nat} {xs : List Int} {w : World} (hr : Reads .u8 w a len cap (clnL xs)) (hN : len < 10000000) :
    Calls Try.prog 16 #[.slice a len cap] w fun e w' => ∃ a' len' cap', e = .returned (.slice a' len' cap') ∧ Reads .u8 w' a' len' cap' (clnL xs) ∧ Below w.heap.size w w' := by
  have h := bloose_Clean a len cap _ w hr hN
  rwa [(cod_cln xs).2.2] at h
set_option maxHeartbeats 4000000 in
set_option maxRecDepth 100000 in
theorem walk (a0 : Option Addr) (len0 cap0 : Nat) (xs0 : List Int) (w : World) (r0 : Reads .u8 w a0 len0 cap0 xs0) :
    Calls Try.prog 4 #[.slice a0 len0 cap0] w fun e w' => e = .returned (.bool true) ∧ Below w.heap.size w w' := by
  by_cases hN : len0 ≤ 1000
  · have R := hid r0
    have HS := hid r0.size
    clear r0
    by_cases hz : codE xs0 = 0
    · have HE := hid hz
      have HL := hid (loo_cod hz).1
      have HC := hid (loo_cod hz).2
      clear hz
      go_enter Try.func4, Try.ntmps4
      go_wp2_with (first
        | (go_at_call 15; (with_reducible refine (rdq R.out HE.out (by omega)).mono ?_); rintro e w1 ⟨v1, rfl, o1, h1⟩; obtain ⟨a1, c1, rfl, r1⟩ := o1.reads)
        | (go_at_call 10; (with_reducible refine (looq (R.out.below h1) HL.out (by omega)).mono ?_); rintro e w2 ⟨a2, l2, c2, rfl, r2, h2⟩)
        | (go_at_call 9; (with_reducible refine (like15_same _ _ _ _ _ _ _ _ r2 (r1.below h2)).mono ?_); rintro e w3 ⟨rfl, n3, rfl⟩; have h3 := Below.drewN (Below.refl w2.heap.size w2) n3)
        | (go_at_call 16; (with_reducible refine (clnq (((R.out.below h1).below h2).below h3) HC.out (by omega)).mono ?_); rintro e w4 ⟨a4, l4, c4, rfl, r4, h4⟩)
        | (go_at_call 9; (with_reducible refine (like15_same _ _ _ _ _ _ _ _ r4 ((((R.out.below h1).below h2).below h3).below h4)).mono ?_); rintro e w5 ⟨rfl, n5, rfl⟩; have h5 := Below.drewN (Below.refl w4.heap.size w4) n5)
        | (go_at_call 16; (with_reducible refine (bloose_Clean _ _ _ _ _ (((((R.out.below h1).below h2).below h3).below h4).below h5) (by omega)).mono ?_); rintro e w6 ⟨a6, l6, c6, rfl, r6, h6⟩; have hl6 : l6 < 100000 := (by have := r6.size; have := lay15_le (looL xs0); have := looL_le xs0; have := HS.out; unfold clnL at *; omega))
        | (go_at_call 15; (with_reducible refine (rdc r6 (by omega)).mono ?_); rintro e w7 ⟨v7, rfl, o7, h7⟩; obtain ⟨a7, c7, rfl, r7⟩ := o7.reads)
        | (go_at_call 10; (with_reducible refine (bloose_Read _ _ _ _ _ (((((((R.out.below h1).below h2).below h3).below h4).below h5).below h6).below h7) (by omega)).mono ?_); rintro e w8 ⟨a8, l8, c8, rfl, r8, h8⟩)
        | (go_at_call 9; (with_reducible refine (like15_same _ _ _ _ _ _ _ _ (r7.below h8) r8).mono ?_); rintro e w9 ⟨rfl, n9, rfl⟩; have h9 := Below.drewN (Below.refl w8.heap.size w8) n9)
        | (go_at_call 16; (with_reducible refine (clnc (((r6.below h7).below h8).below h9) (by omega)).mono ?_); rintro e w10 ⟨a10, l10, c10, rfl, r10, h10⟩)
        | (go_at_call 9; (with_reducible refine (like15_same _ _ _ _ _ _ _ _ r10 ((((r6.below h7).below h8).below h9).below h10)).mono ?_); rintro e w11 ⟨rfl, n11, rfl⟩; have h11 := Below.drewN (Below.refl w10.heap.size w10) n11)
        | (go_at_call 6; (with_reducible refine (alive15_any _).mono ?_); rintro e w12 ⟨rfl, h12⟩))
      go_ret
      exact ⟨rfl, below_then (below_then (below_then (below_then (below_then (below_then (below_then (below_then (below_then (below_then (below_then h1 h2) h3) h4) h5) h6) h7) h8) h9) h10) h11) h12⟩
    · have hz2 : (codE xs0 == 0) = false := by simpa using hz
      have HE : Hid (codE xs0 = codE xs0) := rfl
      clear hz
      go_enter Try.func4, Try.ntmps4
      go_wp2_with (first
        | (go_at_call 15; (with_reducible refine (rdq R.out HE.out (by omega)).mono ?_); rintro e w1 ⟨v1, rfl, o1, h1⟩; obtain ⟨a1, c1, rfl, r1⟩ := o1.reads)
        | (go_at_call 16; (with_reducible refine (bloose_Clean _ _ _ _ _ (R.out.below h1) (by omega)).mono ?_); rintro e w2 ⟨a2, l2, c2, rfl, r2, h2⟩; have hl2 : l2 < 100000 := (by have := r2.size; have := lay15_le (looL xs0); have := looL_le xs0; have := HS.out; unfold clnL at *; omega))
        | (go_at_call 15; (with_reducible refine (rdc r2 (by omega)).mono ?_); rintro e w3 ⟨v3, rfl, o3, h3⟩; obtain ⟨a3, c3, rfl, r3⟩ := o3.reads)
        | (go_at_call 10; (with_reducible refine (bloose_Read _ _ _ _ _ (((R.out.below h1).below h2).below h3) (by omega)).mono ?_); rintro e w4 ⟨a4, l4, c4, rfl, r4, h4⟩)
        | (go_at_call 9; (with_reducible refine (like15_same _ _ _ _ _ _ _ _ (r3.below h4) r4).mono ?_); rintro e w5 ⟨rfl, n5, rfl⟩; have h5 := Below.drewN (Below.refl w4.heap.size w4) n5)
        | (go_at_call 16; (with_reducible refine (clnc (((r2.below h3).below h4).below h5) (by omega)).mono ?_); rintro e w6 ⟨a6, l6, c6, rfl, r6, h6⟩)
        | (go_at_call 9; (with_reducible refine (like15_same _ _ _ _ _ _ _ _ r6 ((((r2.below h3).below h4).below h5).below h6)).mono ?_); rintro e w7 ⟨rfl, n7, rfl⟩; have h7 := Below.drewN (Below.refl w6.heap.size w6) n7)
        | (go_at_call 6; (with_reducible refine (alive15_any _).mono ?_); rintro e w8 ⟨rfl, h8⟩))
      go_ret
      exact ⟨rfl, below_then (below_then (below_then (below_then (below_then (below_then (below_then h1 h2) h3) h4) h5) h6) h7) h8⟩
  · have hN' : 1000 < len0 := by omega
    go_enter Try.func4, Try.ntmps4
    go_wp2_with (go_at_call 6; (with_reducible refine (alive15_any _).mono ?_); rintro e w' ⟨rfl, hb⟩)
    go_ret
    exact ⟨rfl, hb⟩

set_option maxRecDepth 100000 in
theorem lifted (os : Os) (started : os.Started) (H : Type) (enc : TypeId × Value → H) :
    ReturnsInHanded {} Try.checked os 4 .any (Rows.blooseStrictSpec.pre6 enc Try.prog Try.f4 Rows.blooseStrictRow.domain false) (Rows.blooseStrictSpec.post enc Try.prog Try.f4 false true false false) := by
  refine returnsInHanded_of_change (C := Try.checked) own started (by kernel_rfl) Try.func4
    (ChangeSpec.witness6 (enc := enc) (C := Try.checked) false ⟨#[], #[.slice none 0 0], []⟩ 8 (by kernel_rfl) (by kernel_rfl) (by kernel_rfl) (by kernel_rfl)) ?_
  intro W base args ds gs before hval0 hW hcnd _
  have hval : ∀ (j : Nat) t v, Try.f4.params[j]? = some t → args[j]? = some v → Value.okWide Try.prog W .any base t v := hval0
  have hW' := hW
  obtain ⟨p, q, hA0, hV, rfl, hfz, hnd⟩ := hW
  have hA : DataW.TrodAll enc Try.prog W 0 (fun _ => true) true Try.f4.params.toList args.toList ds p := hA0
  rw [Try.params4] at hA hval
  obtain ⟨v0, vs0, d0, ds0, p0, q0, hargs, rfl, rfl, h0, r_0⟩ := trodAll_cons hA
  obtain ⟨rfl, rfl, rfl⟩ := trodAll_nil r_0
  obtain rfl : args = #[v0] := by cases args; simp_all
  obtain ⟨rfl, rfl⟩ := trodVars_none hV
  obtain ⟨a0, len0, cap0, rfl⟩ := okWide_slice Try.underlying22 (hval 0 22 v0 rfl rfl)
  have k0 := h0
  have lt0 : ∀ x ∈ p0, x.block < W.heap.size := by obtain ⟨m, hm⟩ := k0; exact DataW.trod_lt m _ _ _ hm
  obtain ⟨xs0, r0⟩ : ∃ xs, Reads .u8 W a0 len0 cap0 xs := by
    obtain ⟨fuel, hf⟩ := h0
    rcases open_ints Try.underlying22 Try.underlying5 (by kernel_rfl) hf with ⟨hcs, _⟩ | ⟨x, l, c, zs, hcs, _, hl, hm, hz, _, hcell, hwz⟩
    · simp [Value.cells] at hcs
      obtain ⟨rfl, rfl, rfl⟩ := hcs
      exact ⟨[], Reads.nil _ _ _ _ (Nat.zero_le _)⟩
    · simp [Value.cells] at hcs
      obtain ⟨rfl, rfl, rfl⟩ := hcs
      exact ⟨_, reads_of_ints hl hm (by simpa using hz) hcell hwz⟩
  clear hA0 hval0
  refine (walk a0 len0 cap0 xs0 W r0).mono fun e W' ⟨he, bel⟩ => ?_
  subst he
  exact ⟨_, rfl, _, _, _, [], _, [], hW', trodAll_mk1 (shut_bool Try.underlying4 _), (trodAll_cons_mk (Below.trod laidOut (by kernel_rfl) (of_decide_eq_true (by kernel_rfl)) k0 bel lt0) trodAll_mk0), rfl, bel.frame _, fun h => by cases h⟩

theorem over : Rows.blooseStrictRow.holds Try.pinned (OpenSpec.ofChange Rows.blooseStrictSpec) :=
  OpenClaim.holds_of_wide 4 Try.f4 rfl rfl rfl rfl rfl rfl rfl ⟨rfl, rfl, rfl, rfl, rfl⟩ rfl rfl rfl rfl rfl (by kernel_rfl) Try.func4 (by kernel_rfl)
    (of_decide_eq_true (by kernel_rfl)) (by unfold Func.isWrapper; first | (rw [if_pos (by decide +kernel)]; kernel_rfl) | (rw [if_neg (by decide +kernel)]; exact ⟨rfl, rfl⟩))
    (fun os started H enc _ => lifted os started H enc)

end Go.Proofs.Ytglhjamfbaidoaa.blooseStrict
namespace Go.Proofs.Ytglhjamfbaidoaa
theorem blooseStrict_holds : Rows.BlooseStrictSaid := blooseStrict.over
#print axioms blooseStrict_holds
end Go.Proofs.Ytglhjamfbaidoaa
