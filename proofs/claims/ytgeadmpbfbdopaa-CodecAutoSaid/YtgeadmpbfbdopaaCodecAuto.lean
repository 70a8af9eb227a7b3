/-
  Proved: for every []rune, in whatever memory and on every schedule, sheavelaw13.CodecAuto returns true, without a panic or a race, and its arguments read as before. No condition.
-/
import Derived.Test.YtgeadmpbfbdopaaRows
import Derived.Test.YtgeadmpbfbdopaaAlive13
import Derived.Test.YtgeadmpbfbdopaaR13
import Derived.WalkKit
import Derived.ProofKit
import Derived.OpenShut
import Derived.ShutString
import Derived.ChangeOld
import Derived.Below
namespace Go.Proofs.Ytgeadmpbfbdopaa.codecAuto
open Go.ChangeShapes Go.WideShapes Go.ChangeAt Go.RowKit
open Go.ChangeMaps (open_string shut_string)
set_option linter.unusedVariables false

theorem own : ownKnob Try.prog.godebug = none := by kernel_rfl
theorem laidOut : laidOutB Try.prog = true := by kernel_rfl
theorem like13_same (a : Option Addr) (len cap : Nat) (a2 : Option Addr) (len2 cap2 : Nat) (xs : List Int) (w : World) (hr : Reads .u8 w a len cap xs) (hr2 : Reads .u8 w a2 len2 cap2 xs) :
    Calls Try.prog 10 #[.slice a len cap, .slice a2 len2 cap2] w fun e w' => e = .returned (.bool true) ∧ ∃ n, w' = w.drewN n := by
  have := like_r a len cap xs a2 len2 cap2 xs w hr hr2
  rwa [decide_eq_true rfl] at this
theorem liker13_same (a : Option Addr) (len cap : Nat) (a2 : Option Addr) (len2 cap2 : Nat) (xs : List Int) (w : World) (hr : Reads .i32 w a len cap xs) (hr2 : Reads .i32 w a2 len2 cap2 xs) :
    Calls Try.prog 15 #[.slice a len cap, .slice a2 len2 cap2] w fun e w' => e = .returned (.bool true) ∧ ∃ n, w' = w.drewN n := by
  have := ref03_Like a len cap xs a2 len2 cap2 xs w hr hr2
  rwa [decide_eq_true rfl] at this
theorem autoq {a : Option Addr} {len cap : Nat} {xs : List Int} {w : World} {E : Int} (hr : Reads .i32 w a len cap xs) (hE : selE xs = E) (hN : len < 100000000) :
    Calls Try.prog 19 #[.slice a len cap] w fun e w' => ∃ a' len' cap', e = .returned (.tuple #[.int .i64 (selN xs), .slice a' len' cap', .int .i64 E]) ∧ Reads .u8 w' a' len' cap' (layL (selN xs) xs) ∧ Below w.heap.size w w' := hE ▸ codec_Auto a len cap xs w hr hN
theorem ref13q {a : Option Addr} {len cap : Nat} {xs : List Int} {w : World} {E : Int} (hr : Reads .i32 w a len cap xs) (hE : selE xs = E) (hN : len < 100000000) :
    Calls Try.prog 20 #[.slice a len cap] w fun e w' => ∃ a' len' cap', e = .returned (.tuple #[.int .i64 (selN xs), .slice a' len' cap', .int .i64 E]) ∧ Reads .u8 w' a' len' cap' (layL (selN xs) xs) ∧ Below w.heap.size w w' := hE ▸ ref13_Auto a len cap xs w hr hN
theorem readq {a : Option Addr} {len cap : Nat} {xs : List Int} {w : World} (hr : Reads .u8 w a len cap (layL (selN xs) xs)) (hA : readR (selN xs) (layL (selN xs) xs) = xs ∧ exactR (selN xs) (layL (selN xs) xs) = true) (hN : len < 10000000) :
    Calls Try.prog 16 #[.int .i64 (selN xs), .slice a len cap] w fun e w' => ∃ a' len' cap', e = .returned (.slice a' len' cap') ∧ Reads .i32 w' a' len' cap' xs ∧ Below w.heap.size w w' := by
  have h := codec_Read (selN xs) a len cap _ w hr hN
  rwa [hA.1] at h
theorem exactq {a : Option Addr} {len cap : Nat} {xs : List Int} {w : World} (hr : Reads .u8 w a len cap (layL (selN xs) xs)) (hA : readR (selN xs) (layL (selN xs) xs) = xs ∧ exactR (selN xs) (layL (selN xs) xs) = true) (hN : len < 10000000) :
    Calls Try.prog 17 #[.int .i64 (selN xs), .slice a len cap] w fun e w' => e = .returned (.bool true) ∧ Below w.heap.size w w' := by
  have h := codec_Exact (selN xs) a len cap _ w hr hN
  rwa [hA.2] at h
set_option maxHeartbeats 4000000 in
set_option maxRecDepth 100000 in
theorem walk (a0 : Option Addr) (len0 cap0 : Nat) (xs0 : List Int) (w : World) (r0 : Reads .i32 w a0 len0 cap0 xs0) :
    Calls Try.prog 5 #[.slice a0 len0 cap0] w fun e w' => e = .returned (.bool true) ∧ Below w.heap.size w w' := by
  by_cases hN : len0 ≤ 100
  · have R := hid r0
    have HS := hid r0.size
    clear r0
    by_cases hz : selN xs0 = 0
    · have HE : Hid (selE xs0 = 7) := by unfold Hid selE; rw [if_pos hz]
      have Q1 := hid (autoq R.out HE.out (by omega))
      clear hz
      go_enter Try.func5, Try.ntmps5
      go_wp2_with (first
        | (go_at_call 19; (with_reducible refine (Q1.out).mono ?_); rintro e w1 ⟨a1, l1, c1, rfl, r1, h1⟩)
        | (go_at_call 20; (with_reducible refine (ref13q (R.out.below h1) HE.out (by omega)).mono ?_); rintro e w2 ⟨a2, l2, c2, rfl, r2, h2⟩)
        | (go_at_call 10; (with_reducible refine (like13_same _ _ _ _ _ _ _ _ (r1.below h2) r2).mono ?_); rintro e w3 ⟨rfl, n3, rfl⟩; have h3 := Below.drewN (Below.refl w2.heap.size w2) n3)
        | (go_at_call 7; (with_reducible refine (alive13_any _).mono ?_); rintro e w4 ⟨rfl, h4⟩))
      go_ret
      exact ⟨rfl, below_then (below_then (below_then h1 h2) h3) h4⟩
    · have HE : Hid (selE xs0 = 0) := by unfold Hid selE; rw [if_neg hz]
      have Q1 := hid (autoq R.out HE.out (by omega))
      obtain ⟨hn, hall⟩ := sel_all hz
      have HA : Hid (readR (selN xs0) (layL (selN xs0) xs0) = xs0 ∧ exactR (selN xs0) (layL (selN xs0) xs0) = true) := by
        unfold Hid
        rw [(lay_in hn hall).1]
        exact ⟨(read_laid hn hall).1, exact_laid hn hall⟩
      clear hz hn hall
      go_enter Try.func5, Try.ntmps5
      go_wp2_with (first
        | (go_at_call 19; (with_reducible refine (Q1.out).mono ?_); rintro e w1 ⟨a1, l1, c1, rfl, r1, h1⟩)
        | (go_at_call 20; (with_reducible refine (ref13q (R.out.below h1) HE.out (by omega)).mono ?_); rintro e w2 ⟨a2, l2, c2, rfl, r2, h2⟩)
        | (go_at_call 10; (with_reducible refine (like13_same _ _ _ _ _ _ _ _ (r1.below h2) r2).mono ?_); rintro e w3 ⟨rfl, n3, rfl⟩; have h3 := Below.drewN (Below.refl w2.heap.size w2) n3)
        | (go_at_call 16; (with_reducible refine (readq ((r1.below h2).below h3) HA.out (by have := r1.size; have := layL_len (selN xs0) xs0; have := HS.out; omega)).mono ?_); rintro e w4 ⟨a4, l4, c4, rfl, r4, h4⟩)
        | (go_at_call 15; (with_reducible refine (liker13_same _ _ _ _ _ _ _ _ r4 ((((R.out.below h1).below h2).below h3).below h4)).mono ?_); rintro e w5 ⟨rfl, n5, rfl⟩; have h5 := Below.drewN (Below.refl w4.heap.size w4) n5)
        | (go_at_call 17; (with_reducible refine (exactq ((((r1.below h2).below h3).below h4).below h5) HA.out (by have := r1.size; have := layL_len (selN xs0) xs0; have := HS.out; omega)).mono ?_); rintro e w6 ⟨rfl, h6⟩)
        | (go_at_call 7; (with_reducible refine (alive13_any _).mono ?_); rintro e w7 ⟨rfl, h7⟩))
      go_ret
      exact ⟨rfl, below_then (below_then (below_then (below_then (below_then (below_then h1 h2) h3) h4) h5) h6) h7⟩
  · have hN' : 100 < len0 := by omega
    go_enter Try.func5, Try.ntmps5
    go_wp2_with (go_at_call 7; (with_reducible refine (alive13_any _).mono ?_); rintro e w' ⟨rfl, hb⟩)
    go_ret
    exact ⟨rfl, hb⟩

set_option maxRecDepth 100000 in
theorem lifted (os : Os) (started : os.Started) (H : Type) (enc : TypeId × Value → H) :
    ReturnsInHanded {} Try.checked os 5 .any (Rows.codecAutoSpec.pre6 enc Try.prog Try.f5 Rows.codecAutoRow.domain false) (Rows.codecAutoSpec.post enc Try.prog Try.f5 false true false false) := by
  refine returnsInHanded_of_change (C := Try.checked) own started (by kernel_rfl) Try.func5
    (ChangeSpec.witness6 (enc := enc) (C := Try.checked) false ⟨#[], #[.slice none 0 0], []⟩ 8 (by kernel_rfl) (by kernel_rfl) (by kernel_rfl) (by kernel_rfl)) ?_
  intro W base args ds gs before hval0 hW hcnd _
  have hval : ∀ (j : Nat) t v, Try.f5.params[j]? = some t → args[j]? = some v → Value.okWide Try.prog W .any base t v := hval0
  have hW' := hW
  obtain ⟨p, q, hA0, hV, rfl, hfz, hnd⟩ := hW
  have hA : DataW.TrodAll enc Try.prog W 0 (fun _ => true) true Try.f5.params.toList args.toList ds p := hA0
  rw [Try.params5] at hA hval
  obtain ⟨v0, vs0, d0, ds0, p0, q0, hargs, rfl, rfl, h0, r_0⟩ := trodAll_cons hA
  obtain ⟨rfl, rfl, rfl⟩ := trodAll_nil r_0
  obtain rfl : args = #[v0] := by cases args; simp_all
  obtain ⟨rfl, rfl⟩ := trodVars_none hV
  obtain ⟨a0, len0, cap0, rfl⟩ := okWide_slice Try.underlying22 (hval 0 22 v0 rfl rfl)
  have k0 := h0
  have lt0 : ∀ x ∈ p0, x.block < W.heap.size := by obtain ⟨m, hm⟩ := k0; exact DataW.trod_lt m _ _ _ hm
  obtain ⟨xs0, r0⟩ : ∃ xs, Reads .i32 W a0 len0 cap0 xs := by
    obtain ⟨fuel, hf⟩ := h0
    rcases open_ints Try.underlying22 Try.underlying21 (by kernel_rfl) hf with ⟨hcs, _⟩ | ⟨x, l, c, zs, hcs, _, hl, hm, hz, _, hcell, hwz⟩
    · simp [Value.cells] at hcs
      obtain ⟨rfl, rfl, rfl⟩ := hcs
      exact ⟨[], Reads.nil _ _ _ _ (Nat.zero_le _)⟩
    · simp [Value.cells] at hcs
      obtain ⟨rfl, rfl, rfl⟩ := hcs
      exact ⟨_, reads_of_ints hl hm (by simpa using hz) hcell hwz⟩
  clear hA0 hval0
  refine (walk a0 len0 cap0 xs0 W r0).mono fun e W' ⟨he, bel⟩ => ?_
  subst he
  exact ⟨_, rfl, _, _, _, [], _, [], hW', trodAll_mk1 (shut_bool Try.underlying4 _), (trodAll_cons_mk (Below.trod laidOut (by kernel_rfl) (of_decide_eq_true (by kernel_rfl)) k0 bel lt0) trodAll_mk0), rfl, bel.frame _, fun h => by cases h⟩

theorem over : Rows.codecAutoRow.holds Try.pinned (OpenSpec.ofChange Rows.codecAutoSpec) :=
  OpenClaim.holds_of_wide 5 Try.f5 rfl rfl rfl rfl rfl rfl rfl ⟨rfl, rfl, rfl, rfl, rfl⟩ rfl rfl rfl rfl rfl (by kernel_rfl) Try.func5 (by kernel_rfl)
    (of_decide_eq_true (by kernel_rfl)) (by unfold Func.isWrapper; first | (rw [if_pos (by decide +kernel)]; kernel_rfl) | (rw [if_neg (by decide +kernel)]; exact ⟨rfl, rfl⟩))
    (fun os started H enc _ => lifted os started H enc)

end Go.Proofs.Ytgeadmpbfbdopaa.codecAuto
namespace Go.Proofs.Ytgeadmpbfbdopaa
theorem codecAuto_holds : Rows.CodecAutoSaid := codecAuto.over
#print axioms codecAuto_holds
end Go.Proofs.Ytgeadmpbfbdopaa
