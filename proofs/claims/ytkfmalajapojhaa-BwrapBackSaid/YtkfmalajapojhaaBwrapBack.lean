/-
  Proved: for every []byte s (nil, empty, of any length and capacity), in whatever memory and on every schedule, sheavelaw16.BwrapBack(s) returns true, without a panic or a race, and its argument reads as before. No condition.
-/
import Derived.Test.YtkfmalajapojhaaRows
import Derived.Test.YtkfmalajapojhaaAlive16
import Derived.Test.YtkfmalajapojhaaR16
import Derived.Test.YtkfmalajapojhaaR15
import Derived.Test.YtkfmalajapojhaaR14b
import Derived.Test.YtkfmalajapojhaaD16b
import Derived.WalkKit
import Derived.ProofKit
import Derived.OpenShut
import Derived.ShutString
import Derived.ChangeOld
import Derived.Below
import Derived.HandedShaped
namespace Go.Proofs.Ytkfmalajapojhaa.bwrapBack
open Go.ChangeShapes Go.WideShapes Go.ChangeAt Go.RowKit
open Go.ChangeMaps (open_string shut_string)
set_option linter.unusedVariables false

theorem own : ownKnob Try.prog.godebug = none := by kernel_rfl
theorem laidOut : laidOutB Try.prog = true := by kernel_rfl
theorem like16_same (a : Option Addr) (len cap : Nat) (a2 : Option Addr) (len2 cap2 : Nat) (xs : List Int) (w : World) (hr : Reads .u8 w a len cap xs) (hr2 : Reads .u8 w a2 len2 cap2 xs) :
    Calls Try.prog 9 #[.slice a len cap, .slice a2 len2 cap2] w fun e w' => e = .returned (.bool true) ∧ ∃ n, w' = w.drewN n := by
  have := like_r a len cap xs a2 len2 cap2 xs w hr hr2
  rwa [decide_eq_true rfl] at this
theorem rdq {a : Option Addr} {len cap : Nat} {xs : List Int} {w : World} (hr : Reads .u8 w a len cap xs) (hE : chkE xs = 0) (hN : len < 1000000) (hm : Mx w) :
    Calls Try.prog 16 #[.slice a len cap] w fun e w' => ∃ a' len' cap', e = .returned (.tuple #[.slice a' len' cap', .int .i64 0]) ∧ Reads .u8 w' a' len' cap' (codL (chkL xs)) ∧ Below w.heap.size w w' := by
  have h := bwrap_Read a len cap xs w hr hN hm
  rwa [hE, if_pos rfl] at h
theorem rdn {a : Option Addr} {len cap : Nat} {xs : List Int} {w : World} {E : Int} (hr : Reads .u8 w a len cap xs) (hE : chkE xs = E) (hn : E ≠ 0) (hN : len < 1000000) (hm : Mx w) :
    Calls Try.prog 16 #[.slice a len cap] w fun e w' => ∃ a' len' cap', e = .returned (.tuple #[.slice a' len' cap', .int .i64 E]) ∧ Reads .u8 w' a' len' cap' [] ∧ Below w.heap.size w w' := by
  have h := bwrap_Read a len cap xs w hr hN hm
  rwa [hE, if_neg hn] at h
theorem rdb {a : Option Addr} {len cap : Nat} {xs : List Int} {w : World} (ho : ∀ x ∈ xs, O8 x) (hr : Reads .u8 w a len cap (wrapL (layB xs))) (hN : len < 1000000) (hm : Mx w) :
    Calls Try.prog 16 #[.slice a len cap] w fun e w' => ∃ a' len' cap', e = .returned (.tuple #[.slice a' len' cap', .int .i64 0]) ∧ Reads .u8 w' a' len' cap' xs ∧ Below w.heap.size w w' := by
  have h := rdq hr (wrap_back ho).1 hN hm
  rwa [(wrap_back ho).2.1, (cod_lay ho).2] at h
theorem ckb {a : Option Addr} {len cap : Nat} {xs : List Int} {w : World} (ho : ∀ x ∈ xs, O8 x) (hr : Reads .u8 w a len cap (wrapL (layB xs))) (hN : len < 1000000) (hm : Mx w) :
    Calls Try.prog 18 #[.slice a len cap] w fun e w' => e = .returned (.int .i64 0) ∧ Below w.heap.size w w' := by
  have h := bwrap_Check a len cap _ w hr hN hm
  rwa [(wrap_back ho).1] at h
theorem loq {a : Option Addr} {len cap : Nat} {xs ys : List Int} {w : World} (hr : Reads .u8 w a len cap xs) (hE : looL xs = ys) (hN : len < 10000000) :
    Calls Try.prog 20 #[.slice a len cap] w fun e w' => ∃ a' len' cap', e = .returned (.slice a' len' cap') ∧ Reads .u8 w' a' len' cap' ys ∧ Below w.heap.size w w' := hE ▸ bwrap_Loose a len cap xs w hr hN
theorem lob {a : Option Addr} {len cap : Nat} {xs : List Int} {w : World} (ho : ∀ x ∈ xs, O8 x) (hr : Reads .u8 w a len cap (wrapL (layB xs))) (hN : len < 10000000) :
    Calls Try.prog 20 #[.slice a len cap] w fun e w' => ∃ a' len' cap', e = .returned (.slice a' len' cap') ∧ Reads .u8 w' a' len' cap' xs ∧ Below w.heap.size w w' := loq hr (wrap_back ho).2.2 hN
theorem agb {a : Option Addr} {len cap : Nat} {xs : List Int} {w : World} (ho : ∀ x ∈ xs, O8 x) (hr : Reads .u8 w a len cap (wrapL (layB xs))) (hN : len < 10000000) :
    Calls Try.prog 21 #[.slice a len cap] w fun e w' => ∃ a' len' cap', e = .returned (.slice a' len' cap') ∧ Reads .u8 w' a' len' cap' (wrapL (layB xs)) ∧ Below w.heap.size w w' := by
  have h := bwrap_Again a len cap _ w hr hN
  rwa [(wrap_back ho).2.2] at h
set_option maxHeartbeats 4000000 in
set_option maxRecDepth 100000 in
theorem walk (a0 : Option Addr) (len0 cap0 : Nat) (xs0 : List Int) (w : World) (r0 : Reads .u8 w a0 len0 cap0 xs0) (hm : Mx w) :
    Calls Try.prog 5 #[.slice a0 len0 cap0] w fun e w' => e = .returned (.bool true) ∧ Below w.heap.size w w' := by
  have HM := hid hm
  clear hm
  by_cases hN : len0 ≤ 1000
  · have R := hid r0
    have HS := hid r0.size
    have HO := hid (show ∀ x ∈ xs0, O8 x from fun x hx => wf_u8 (r0.wf x hx))
    clear r0
    by_cases hz : chkE xs0 = 0
    · have HE := hid hz
      have HL := hid (loo_chk hz).1
      clear hz
      go_enter Try.func5, Try.ntmps5
      go_wp2_with (first
        | (go_at_call 8; (with_reducible refine (bwrap_Lay _ _ _ _ _ R.out (by omega)).mono ?_); rintro e w1 ⟨a1, l1, c1, rfl, r1, h1⟩; have hl1 : l1 < 100000 := (by have h1 := r1.size; have h2 := wrap_len (layB xs0); have h3 := layB_len xs0; have := HS.out; omega))
        | (go_at_call 16; (with_reducible refine (rdb HO.out r1 (by omega) (HM.out.below h1)).mono ?_); rintro e w2 ⟨a2, l2, c2, rfl, r2, h2⟩)
        | (go_at_call 9; (with_reducible refine (like16_same _ _ _ _ _ _ _ _ r2 ((R.out.below h1).below h2)).mono ?_); rintro e w3 ⟨rfl, n3, rfl⟩; have h3 := Below.drewN (Below.refl w2.heap.size w2) n3)
        | (go_at_call 18; (with_reducible refine (ckb HO.out ((r1.below h2).below h3) (by omega) (((HM.out.below h1).below h2).below h3)).mono ?_); rintro e w4 ⟨rfl, h4⟩)
        | (go_at_call 20; (with_reducible refine (lob HO.out (((r1.below h2).below h3).below h4) (by omega)).mono ?_); rintro e w5 ⟨a5, l5, c5, rfl, r5, h5⟩)
        | (go_at_call 9; (with_reducible refine (like16_same _ _ _ _ _ _ _ _ r5 (((((R.out.below h1).below h2).below h3).below h4).below h5)).mono ?_); rintro e w6 ⟨rfl, n6, rfl⟩; have h6 := Below.drewN (Below.refl w5.heap.size w5) n6)
        | (go_at_call 21; (with_reducible refine (agb HO.out (((((r1.below h2).below h3).below h4).below h5).below h6) (by omega)).mono ?_); rintro e w7 ⟨a7, l7, c7, rfl, r7, h7⟩)
        | (go_at_call 9; (with_reducible refine (like16_same _ _ _ _ _ _ _ _ r7 ((((((r1.below h2).below h3).below h4).below h5).below h6).below h7)).mono ?_); rintro e w8 ⟨rfl, n8, rfl⟩; have h8 := Below.drewN (Below.refl w7.heap.size w7) n8)
        | (go_at_call 16; (with_reducible refine (rdq ((((((((R.out.below h1).below h2).below h3).below h4).below h5).below h6).below h7).below h8) HE.out (by omega) ((((((((HM.out.below h1).below h2).below h3).below h4).below h5).below h6).below h7).below h8)).mono ?_); rintro e w9 ⟨a9, l9, c9, rfl, r9, h9⟩)
        | (go_at_call 20; (with_reducible refine (loq (((((((((R.out.below h1).below h2).below h3).below h4).below h5).below h6).below h7).below h8).below h9) HL.out (by omega)).mono ?_); rintro e w10 ⟨a10, l10, c10, rfl, r10, h10⟩)
        | (go_at_call 9; (with_reducible refine (like16_same _ _ _ _ _ _ _ _ r10 (r9.below h10)).mono ?_); rintro e w11 ⟨rfl, n11, rfl⟩; have h11 := Below.drewN (Below.refl w10.heap.size w10) n11)
        | (go_at_call 7; (with_reducible refine (alive16_any _ (((((((((((HM.out.below h1).below h2).below h3).below h4).below h5).below h6).below h7).below h8).below h9).below h10).below h11)).mono ?_); rintro e w12 ⟨rfl, h12⟩))
      go_ret
      exact ⟨rfl, below_then (below_then (below_then (below_then (below_then (below_then (below_then (below_then (below_then (below_then (below_then h1 h2) h3) h4) h5) h6) h7) h8) h9) h10) h11) h12⟩
    · obtain ⟨E, hEE⟩ : ∃ E, chkE xs0 = E := ⟨_, rfl⟩
      rw [hEE] at hz
      have hz3 : (E != 0) = true := by simpa using hz
      have HE := hid hEE
      have HNE := hid hz
      clear hz hEE
      go_enter Try.func5, Try.ntmps5
      go_wp2_with (first
        | (go_at_call 8; (with_reducible refine (bwrap_Lay _ _ _ _ _ R.out (by omega)).mono ?_); rintro e w1 ⟨a1, l1, c1, rfl, r1, h1⟩; have hl1 : l1 < 100000 := (by have h1 := r1.size; have h2 := wrap_len (layB xs0); have h3 := layB_len xs0; have := HS.out; omega))
        | (go_at_call 16; (with_reducible refine (rdb HO.out r1 (by omega) (HM.out.below h1)).mono ?_); rintro e w2 ⟨a2, l2, c2, rfl, r2, h2⟩)
        | (go_at_call 9; (with_reducible refine (like16_same _ _ _ _ _ _ _ _ r2 ((R.out.below h1).below h2)).mono ?_); rintro e w3 ⟨rfl, n3, rfl⟩; have h3 := Below.drewN (Below.refl w2.heap.size w2) n3)
        | (go_at_call 18; (with_reducible refine (ckb HO.out ((r1.below h2).below h3) (by omega) (((HM.out.below h1).below h2).below h3)).mono ?_); rintro e w4 ⟨rfl, h4⟩)
        | (go_at_call 20; (with_reducible refine (lob HO.out (((r1.below h2).below h3).below h4) (by omega)).mono ?_); rintro e w5 ⟨a5, l5, c5, rfl, r5, h5⟩)
        | (go_at_call 9; (with_reducible refine (like16_same _ _ _ _ _ _ _ _ r5 (((((R.out.below h1).below h2).below h3).below h4).below h5)).mono ?_); rintro e w6 ⟨rfl, n6, rfl⟩; have h6 := Below.drewN (Below.refl w5.heap.size w5) n6)
        | (go_at_call 21; (with_reducible refine (agb HO.out (((((r1.below h2).below h3).below h4).below h5).below h6) (by omega)).mono ?_); rintro e w7 ⟨a7, l7, c7, rfl, r7, h7⟩)
        | (go_at_call 9; (with_reducible refine (like16_same _ _ _ _ _ _ _ _ r7 ((((((r1.below h2).below h3).below h4).below h5).below h6).below h7)).mono ?_); rintro e w8 ⟨rfl, n8, rfl⟩; have h8 := Below.drewN (Below.refl w7.heap.size w7) n8)
        | (go_at_call 16; (with_reducible refine (rdn ((((((((R.out.below h1).below h2).below h3).below h4).below h5).below h6).below h7).below h8) HE.out HNE.out (by omega) ((((((((HM.out.below h1).below h2).below h3).below h4).below h5).below h6).below h7).below h8)).mono ?_); rintro e w9 ⟨a9, l9, c9, rfl, r9, h9⟩)
        | (go_at_call 7; (with_reducible refine (alive16_any _ (((((((((HM.out.below h1).below h2).below h3).below h4).below h5).below h6).below h7).below h8).below h9)).mono ?_); rintro e w10 ⟨rfl, h10⟩))
      go_ret
      exact ⟨rfl, below_then (below_then (below_then (below_then (below_then (below_then (below_then (below_then (below_then h1 h2) h3) h4) h5) h6) h7) h8) h9) h10⟩
  · have hN' : 1000 < len0 := by omega
    go_enter Try.func5, Try.ntmps5
    go_wp2_with (go_at_call 7; (with_reducible refine (alive16_any _ HM.out).mono ?_); rintro e w' ⟨rfl, hb⟩)
    go_ret
    exact ⟨rfl, hb⟩

set_option maxRecDepth 100000 in
theorem lifted (os : Os) (started : os.Started) (H : Type) (enc : TypeId × Value → H) :
    ReturnsInHanded {} Try.checked os 5 .any (Rows.bwrapBackSpec.pre6 enc Try.prog Try.f5 Rows.bwrapBackRow.domain false) (Rows.bwrapBackSpec.post enc Try.prog Try.f5 false true false false) := by
  refine returnsInHanded_of_change_shaped (C := Try.checked) own started (by kernel_rfl) Try.func5
    (ChangeSpec.witness6 (enc := enc) (C := Try.checked) false ⟨#[], #[.slice none 0 0], []⟩ 8 (by kernel_rfl) (by kernel_rfl) (by kernel_rfl) (by kernel_rfl)) ?_
  intro W base args ds gs before hval0 hW hcnd _ hsh _
  have hval : ∀ (j : Nat) t v, Try.f5.params[j]? = some t → args[j]? = some v → Value.okWide Try.prog W .any base t v := hval0
  have hW' := hW
  obtain ⟨p, q, hA0, hV, rfl, hfz, hnd⟩ := hW
  have hA : DataW.TrodAll enc Try.prog W 0 (fun _ => true) true Try.f5.params.toList args.toList ds p := hA0
  rw [Try.params5] at hA hval
  obtain ⟨v0, vs0, d0, ds0, p0, q0, hargs, rfl, rfl, h0, r_0⟩ := trodAll_cons hA
  obtain ⟨rfl, rfl, rfl⟩ := trodAll_nil r_0
  obtain rfl : args = #[v0] := by cases args; simp_all
  obtain ⟨rfl, rfl⟩ := trodVars_none hV
  obtain ⟨a0, len0, cap0, rfl⟩ := okWide_slice Try.underlying22 (hval 0 22 v0 rfl rfl)
  have k0 := h0
  have lt0 : ∀ x ∈ p0, x.block < W.heap.size := by obtain ⟨m, hm⟩ := k0; exact DataW.trod_lt m _ _ _ hm
  obtain ⟨xs0, r0⟩ : ∃ xs, Reads .u8 W a0 len0 cap0 xs := by
    obtain ⟨fuel, hf⟩ := h0
    rcases open_ints Try.underlying22 Try.underlying5 (by kernel_rfl) hf with ⟨hcs, _⟩ | ⟨x, l, c, zs, hcs, _, hl, hm, hz, _, hcell, hwz⟩
    · simp [Value.cells] at hcs
      obtain ⟨rfl, rfl, rfl⟩ := hcs
      exact ⟨[], Reads.nil _ _ _ _ (Nat.zero_le _)⟩
    · simp [Value.cells] at hcs
      obtain ⟨rfl, rfl, rfl⟩ := hcs
      exact ⟨_, reads_of_ints hl hm (by simpa using hz) hcell hwz⟩
  clear hA0 hval0
  refine (walk a0 len0 cap0 xs0 W r0 (Mx.shaped hsh)).mono fun e W' ⟨he, bel⟩ => ?_
  subst he
  exact ⟨_, rfl, _, _, _, [], _, [], hW', trodAll_mk1 (shut_bool Try.underlying4 _), (trodAll_cons_mk (Below.trod laidOut (by kernel_rfl) (of_decide_eq_true (by kernel_rfl)) k0 bel lt0) trodAll_mk0), rfl, bel.frame _, fun h => by cases h⟩

theorem over : Rows.bwrapBackRow.holds Try.pinned (OpenSpec.ofChange Rows.bwrapBackSpec) :=
  OpenClaim.holds_of_wide 5 Try.f5 rfl rfl rfl rfl rfl rfl rfl ⟨rfl, rfl, rfl, rfl, rfl⟩ rfl rfl rfl rfl rfl (by kernel_rfl) Try.func5 (by kernel_rfl)
    (of_decide_eq_true (by kernel_rfl)) (by unfold Func.isWrapper; first | (rw [if_pos (by decide +kernel)]; kernel_rfl) | (rw [if_neg (by decide +kernel)]; exact ⟨rfl, rfl⟩))
    (fun os started H enc _ => lifted os started H enc)

end Go.Proofs.Ytkfmalajapojhaa.bwrapBack
namespace Go.Proofs.Ytkfmalajapojhaa
theorem bwrapBack_holds : Rows.BwrapBackSaid := bwrapBack.over
#print axioms bwrapBack_holds
end Go.Proofs.Ytkfmalajapojhaa
