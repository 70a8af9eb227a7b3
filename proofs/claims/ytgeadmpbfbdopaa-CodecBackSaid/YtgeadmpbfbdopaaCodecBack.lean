/-
  Proved: for every int, []rune and []byte, in whatever memory and on every schedule, sheavelaw13.CodecBack returns true, without a panic or a race, and its arguments read as before. No condition.
-/
import Derived.Test.YtgeadmpbfbdopaaRows
import Derived.Test.YtgeadmpbfbdopaaAlive13
import Derived.Test.YtgeadmpbfbdopaaR13
import Derived.WalkKit
import Derived.ProofKit
import Derived.OpenShut
import Derived.ShutString
import Derived.ChangeOld
import Derived.Below
namespace Go.Proofs.Ytgeadmpbfbdopaa.codecBack
open Go.ChangeShapes Go.WideShapes Go.ChangeAt Go.RowKit
open Go.ChangeMaps (open_string shut_string)
set_option linter.unusedVariables false

theorem own : ownKnob Try.prog.godebug = none := by kernel_rfl
theorem laidOut : laidOutB Try.prog = true := by kernel_rfl
theorem like13_same (a : Option Addr) (len cap : Nat) (a2 : Option Addr) (len2 cap2 : Nat) (xs : List Int) (w : World) (hr : Reads .u8 w a len cap xs) (hr2 : Reads .u8 w a2 len2 cap2 xs) :
    Calls Try.prog 10 #[.slice a len cap, .slice a2 len2 cap2] w fun e w' => e = .returned (.bool true) ∧ ∃ n, w' = w.drewN n := by
  have := like_r a len cap xs a2 len2 cap2 xs w hr hr2
  rwa [decide_eq_true rfl] at this
theorem liker13_same (a : Option Addr) (len cap : Nat) (a2 : Option Addr) (len2 cap2 : Nat) (xs : List Int) (w : World) (hr : Reads .i32 w a len cap xs) (hr2 : Reads .i32 w a2 len2 cap2 xs) :
    Calls Try.prog 15 #[.slice a len cap, .slice a2 len2 cap2] w fun e w' => e = .returned (.bool true) ∧ ∃ n, w' = w.drewN n := by
  have := ref03_Like a len cap xs a2 len2 cap2 xs w hr hr2
  rwa [decide_eq_true rfl] at this
theorem layq {n : Int} {a : Option Addr} {len cap : Nat} {xs : List Int} {w : World} {E : Int} (hr : Reads .i32 w a len cap xs) (hE : layE n xs = E) (hN : len < 100000000) :
    Calls Try.prog 8 #[.int .i64 n, .slice a len cap] w fun e w' => ∃ a' len' cap', e = .returned (.tuple #[.slice a' len' cap', .int .i64 E]) ∧ Reads .u8 w' a' len' cap' (layL n xs) ∧ Below w.heap.size w w' := hE ▸ codec_Lay n a len cap xs w hr hN
theorem readb {n : Int} {a : Option Addr} {len cap : Nat} {xs : List Int} {w : World} (hr : Reads .u8 w a len cap (layL n xs)) (hA : readR n (layL n xs) = xs ∧ exactR n (layL n xs) = true) (hN : len < 10000000) :
    Calls Try.prog 16 #[.int .i64 n, .slice a len cap] w fun e w' => ∃ a' len' cap', e = .returned (.slice a' len' cap') ∧ Reads .i32 w' a' len' cap' xs ∧ Below w.heap.size w w' := by
  have h := codec_Read n a len cap _ w hr hN
  rwa [hA.1] at h
theorem exactb {n : Int} {a : Option Addr} {len cap : Nat} {xs : List Int} {w : World} (hr : Reads .u8 w a len cap (layL n xs)) (hA : readR n (layL n xs) = xs ∧ exactR n (layL n xs) = true) (hN : len < 10000000) :
    Calls Try.prog 17 #[.int .i64 n, .slice a len cap] w fun e w' => e = .returned (.bool true) ∧ Below w.heap.size w w' := by
  have h := codec_Exact n a len cap _ w hr hN
  rwa [hA.2] at h
theorem firstb {a : Option Addr} {len cap : Nat} {xs : List Int} {w : World} (hr : Reads .i32 w a len cap xs) (h : xs.all scB = true) :
    Calls Try.prog 21 #[.slice a len cap] w fun e w' => e = .returned (.int .i64 (-1)) ∧ w = w' := by
  have hf := ref03_First a len cap xs w hr
  rwa [idx_none (f := fun c => !scB c) (by rw [List.any_eq_false]; intro x hx; simp [List.all_eq_true.1 h x hx])] at hf
set_option maxHeartbeats 4000000 in
set_option maxRecDepth 100000 in
theorem walk (a0 : Int) (a1 : Option Addr) (len1 cap1 : Nat) (xs1 : List Int) (a2 : Option Addr) (len2 cap2 : Nat) (xs2 : List Int) (w : World) (w0 : (Lit.int .i64 a0).wf = true) (r1 : Reads .i32 w a1 len1 cap1 xs1) (r2 : Reads .u8 w a2 len2 cap2 xs2) :
    Calls Try.prog 6 #[.int .i64 a0, .slice a1 len1 cap1, .slice a2 len2 cap2] w fun e w' => e = .returned (.bool true) ∧ Below w.heap.size w w' := by
  by_cases hN : len1 ≤ 200
  · by_cases hN2 : len2 ≤ 300
    · have R := hid r1
      have RS := hid r2
      have HS := hid r1.size
      have HS2 := hid r2.size
      have HX : Hid ((readR a0 xs2).all scB = true) := readR_sc a0 (fun x hx => wf_u8 (r2.wf x hx))
      clear r1 r2
      by_cases hz : layE a0 xs1 = 0
      · have HE := hid hz
        have HA : Hid (readR a0 (layL a0 xs1) = xs1 ∧ exactR a0 (layL a0 xs1) = true) := by
          unfold Hid
          obtain ⟨hn, hall⟩ := layE_zero hz
          rw [(lay_in hn hall).1]
          exact ⟨(read_laid hn hall).1, exact_laid hn hall⟩
        clear hz
        by_cases h5 : a0 = 5
        · subst h5
          go_enter Try.func6, Try.ntmps6
          go_wp2_with (first
            | (go_at_call 8; (with_reducible refine (layq R.out HE.out (by omega)).mono ?_); rintro e w1 ⟨a1, l1, c1, rfl, r1, h1⟩)
            | (go_at_call 16; (with_reducible refine (readb r1 HA.out (by have := r1.size; have := layL_len 5 xs1; have := HS.out; omega)).mono ?_); rintro e w2 ⟨a2, l2, c2, rfl, r2, h2⟩)
            | (go_at_call 15; (with_reducible refine (liker13_same _ _ _ _ _ _ _ _ r2 ((R.out.below h1).below h2)).mono ?_); rintro e w3 ⟨rfl, n3, rfl⟩; have h3 := Below.drewN (Below.refl w2.heap.size w2) n3)
            | (go_at_call 17; (with_reducible refine (exactb ((r1.below h2).below h3) HA.out (by have := r1.size; have := layL_len 5 xs1; have := HS.out; omega)).mono ?_); rintro e w4 ⟨rfl, h4⟩)
            | (go_at_call 16; (with_reducible refine (codec_Read _ _ _ _ _ _ ((((RS.out.below h1).below h2).below h3).below h4) (by omega)).mono ?_); rintro e w5 ⟨a5, l5, c5, rfl, r5, h5⟩; have hle : l5 ≤ len2 := (by have := r5.size; have := readR_len 5 xs2; have := HS2.out; omega))
            | (go_at_call 21; (with_reducible refine (firstb r5 HX.out).mono ?_); rintro e w6 ⟨rfl, rfl⟩)
            | (go_at_call 7; (with_reducible refine (alive13_any _).mono ?_); rintro e w7 ⟨rfl, h7⟩))
          go_ret
          exact ⟨rfl, below_then (below_then (below_then (below_then (below_then h1 h2) h3) h4) h5) h7⟩
        · have b5 : (a0 == 5) = false := by simpa using h5
          have H5 := hid h5
          clear h5
          go_enter Try.func6, Try.ntmps6
          go_wp2_with (first
            | (go_at_call 8; (with_reducible refine (layq R.out HE.out (by omega)).mono ?_); rintro e w1 ⟨a1, l1, c1, rfl, r1, h1⟩)
            | (go_at_call 16; (with_reducible refine (readb r1 HA.out (by have := r1.size; have := layL_len a0 xs1; have := HS.out; omega)).mono ?_); rintro e w2 ⟨a2, l2, c2, rfl, r2, h2⟩)
            | (go_at_call 15; (with_reducible refine (liker13_same _ _ _ _ _ _ _ _ r2 ((R.out.below h1).below h2)).mono ?_); rintro e w3 ⟨rfl, n3, rfl⟩; have h3 := Below.drewN (Below.refl w2.heap.size w2) n3)
            | (go_at_call 17; (with_reducible refine (exactb ((r1.below h2).below h3) HA.out (by have := r1.size; have := layL_len a0 xs1; have := HS.out; omega)).mono ?_); rintro e w4 ⟨rfl, h4⟩)
            | (go_at_call 16; (with_reducible refine (codec_Read _ _ _ _ _ _ ((((RS.out.below h1).below h2).below h3).below h4) (by omega)).mono ?_); rintro e w5 ⟨a5, l5, c5, rfl, r5, h5⟩; obtain rfl : l5 = len2 := (by have := r5.size; have := readR_same H5.out xs2; have := HS2.out; omega))
            | (go_at_call 21; (with_reducible refine (firstb r5 HX.out).mono ?_); rintro e w6 ⟨rfl, rfl⟩)
            | (go_at_call 7; (with_reducible refine (alive13_any _).mono ?_); rintro e w7 ⟨rfl, h7⟩))
          go_ret
          exact ⟨rfl, below_then (below_then (below_then (below_then (below_then h1 h2) h3) h4) h5) h7⟩
      · have hz2 : (layE a0 xs1 == 0) = false := by simpa using hz
        have hz3 : (layE a0 xs1 != 0) = true := by simpa using hz
        have HN : Hid (layL a0 xs1 = []) := layE_nz hz
        have HE : Hid (layE a0 xs1 = layE a0 xs1) := rfl
        clear hz
        by_cases h5 : a0 = 5
        · subst h5
          go_enter Try.func6, Try.ntmps6
          go_wp2_with (first
            | (go_at_call 8; (with_reducible refine (layq R.out HE.out (by omega)).mono ?_); rintro e w1 ⟨a1, l1, c1, rfl, r1, h1⟩; obtain rfl : l1 = 0 := (by have := r1.size; rw [HN.out] at this; simpa using this.symm))
            | (go_at_call 16; (with_reducible refine (codec_Read _ _ _ _ _ _ (RS.out.below h1) (by omega)).mono ?_); rintro e w2 ⟨a2, l2, c2, rfl, r2, h2⟩; have hle : l2 ≤ len2 := (by have := r2.size; have := readR_len 5 xs2; have := HS2.out; omega))
            | (go_at_call 21; (with_reducible refine (firstb r2 HX.out).mono ?_); rintro e w3 ⟨rfl, rfl⟩)
            | (go_at_call 7; (with_reducible refine (alive13_any _).mono ?_); rintro e w4 ⟨rfl, h4⟩))
          go_ret
          exact ⟨rfl, below_then (below_then h1 h2) h4⟩
        · have b5 : (a0 == 5) = false := by simpa using h5
          have H5 := hid h5
          clear h5
          go_enter Try.func6, Try.ntmps6
          go_wp2_with (first
            | (go_at_call 8; (with_reducible refine (layq R.out HE.out (by omega)).mono ?_); rintro e w1 ⟨a1, l1, c1, rfl, r1, h1⟩; obtain rfl : l1 = 0 := (by have := r1.size; rw [HN.out] at this; simpa using this.symm))
            | (go_at_call 16; (with_reducible refine (codec_Read _ _ _ _ _ _ (RS.out.below h1) (by omega)).mono ?_); rintro e w2 ⟨a2, l2, c2, rfl, r2, h2⟩; obtain rfl : l2 = len2 := (by have := r2.size; have := readR_same H5.out xs2; have := HS2.out; omega))
            | (go_at_call 21; (with_reducible refine (firstb r2 HX.out).mono ?_); rintro e w3 ⟨rfl, rfl⟩)
            | (go_at_call 7; (with_reducible refine (alive13_any _).mono ?_); rintro e w4 ⟨rfl, h4⟩))
          go_ret
          exact ⟨rfl, below_then (below_then h1 h2) h4⟩
    · have hN' : 300 < len2 := by omega
      go_enter Try.func6, Try.ntmps6
      go_wp2_with (go_at_call 7; (with_reducible refine (alive13_any _).mono ?_); rintro e w' ⟨rfl, hb⟩)
      go_ret
      exact ⟨rfl, hb⟩
  · have hN' : 200 < len1 := by omega
    go_enter Try.func6, Try.ntmps6
    go_wp2_with (go_at_call 7; (with_reducible refine (alive13_any _).mono ?_); rintro e w' ⟨rfl, hb⟩)
    go_ret
    exact ⟨rfl, hb⟩

set_option maxRecDepth 100000 in
theorem lifted (os : Os) (started : os.Started) (H : Type) (enc : TypeId × Value → H) :
    ReturnsInHanded {} Try.checked os 6 .any (Rows.codecBackSpec.pre6 enc Try.prog Try.f6 Rows.codecBackRow.domain false) (Rows.codecBackSpec.post enc Try.prog Try.f6 false true false false) := by
  refine returnsInHanded_of_change (C := Try.checked) own started (by kernel_rfl) Try.func6
    (ChangeSpec.witness6 (enc := enc) (C := Try.checked) false ⟨#[], #[.int .i64 0, .slice none 0 0, .slice none 0 0], []⟩ 8 (by kernel_rfl) (by kernel_rfl) (by kernel_rfl) (by kernel_rfl)) ?_
  intro W base args ds gs before hval0 hW hcnd _
  have hval : ∀ (j : Nat) t v, Try.f6.params[j]? = some t → args[j]? = some v → Value.okWide Try.prog W .any base t v := hval0
  have hW' := hW
  obtain ⟨p, q, hA0, hV, rfl, hfz, hnd⟩ := hW
  have hA : DataW.TrodAll enc Try.prog W 0 (fun _ => true) true Try.f6.params.toList args.toList ds p := hA0
  rw [Try.params6] at hA hval
  obtain ⟨v0, vs0, d0, ds0, p0, q0, hargs, rfl, rfl, h0, r_0⟩ := trodAll_cons hA
  obtain ⟨v1, vs1, d1, ds1, p1, q1, rfl, rfl, rfl, h1, r_1⟩ := trodAll_cons r_0
  obtain ⟨v2, vs2, d2, ds2, p2, q2, rfl, rfl, rfl, h2, r_2⟩ := trodAll_cons r_1
  obtain ⟨rfl, rfl, rfl⟩ := trodAll_nil r_2
  obtain rfl : args = #[v0, v1, v2] := by cases args; simp_all
  obtain ⟨rfl, rfl⟩ := trodVars_none hV
  obtain ⟨a0, rfl, rfl, rfl, w0⟩ := open_int Try.underlying3 (hval 0 3 v0 rfl rfl) h0
  obtain ⟨a1, len1, cap1, rfl⟩ := okWide_slice Try.underlying22 (hval 1 22 v1 rfl rfl)
  have k1 := h1
  have lt1 : ∀ x ∈ p1, x.block < W.heap.size := by obtain ⟨m, hm⟩ := k1; exact DataW.trod_lt m _ _ _ hm
  obtain ⟨xs1, r1⟩ : ∃ xs, Reads .i32 W a1 len1 cap1 xs := by
    obtain ⟨fuel, hf⟩ := h1
    rcases open_ints Try.underlying22 Try.underlying21 (by kernel_rfl) hf with ⟨hcs, _⟩ | ⟨x, l, c, zs, hcs, _, hl, hm, hz, _, hcell, hwz⟩
    · simp [Value.cells] at hcs
      obtain ⟨rfl, rfl, rfl⟩ := hcs
      exact ⟨[], Reads.nil _ _ _ _ (Nat.zero_le _)⟩
    · simp [Value.cells] at hcs
      obtain ⟨rfl, rfl, rfl⟩ := hcs
      exact ⟨_, reads_of_ints hl hm (by simpa using hz) hcell hwz⟩
  obtain ⟨a2, len2, cap2, rfl⟩ := okWide_slice Try.underlying24 (hval 2 24 v2 rfl rfl)
  have k2 := h2
  have lt2 : ∀ x ∈ p2, x.block < W.heap.size := by obtain ⟨m, hm⟩ := k2; exact DataW.trod_lt m _ _ _ hm
  obtain ⟨xs2, r2⟩ : ∃ xs, Reads .u8 W a2 len2 cap2 xs := by
    obtain ⟨fuel, hf⟩ := h2
    rcases open_ints Try.underlying24 Try.underlying5 (by kernel_rfl) hf with ⟨hcs, _⟩ | ⟨x, l, c, zs, hcs, _, hl, hm, hz, _, hcell, hwz⟩
    · simp [Value.cells] at hcs
      obtain ⟨rfl, rfl, rfl⟩ := hcs
      exact ⟨[], Reads.nil _ _ _ _ (Nat.zero_le _)⟩
    · simp [Value.cells] at hcs
      obtain ⟨rfl, rfl, rfl⟩ := hcs
      exact ⟨_, reads_of_ints hl hm (by simpa using hz) hcell hwz⟩
  clear hA0 hval0
  refine (walk a0 a1 len1 cap1 xs1 a2 len2 cap2 xs2 W w0 r1 r2).mono fun e W' ⟨he, bel⟩ => ?_
  subst he
  exact ⟨_, rfl, _, _, _, [], _, [], hW', trodAll_mk1 (shut_bool Try.underlying4 _), (trodAll_cons_mk (shut_int Try.underlying3 w0) (trodAll_cons_mk (Below.trod laidOut (by kernel_rfl) (of_decide_eq_true (by kernel_rfl)) k1 bel lt1) (trodAll_cons_mk (Below.trod laidOut (by kernel_rfl) (of_decide_eq_true (by kernel_rfl)) k2 bel lt2) trodAll_mk0))), rfl, bel.frame _, fun h => by cases h⟩

theorem over : Rows.codecBackRow.holds Try.pinned (OpenSpec.ofChange Rows.codecBackSpec) :=
  OpenClaim.holds_of_wide 6 Try.f6 rfl rfl rfl rfl rfl rfl rfl ⟨rfl, rfl, rfl, rfl, rfl⟩ rfl rfl rfl rfl rfl (by kernel_rfl) Try.func6 (by kernel_rfl)
    (of_decide_eq_true (by kernel_rfl)) (by unfold Func.isWrapper; first | (rw [if_pos (by decide +kernel)]; kernel_rfl) | (rw [if_neg (by decide +kernel)]; exact ⟨rfl, rfl⟩))
    (fun os started H enc _ => lifted os started H enc)

end Go.Proofs.Ytgeadmpbfbdopaa.codecBack
namespace Go.Proofs.Ytgeadmpbfbdopaa
theorem codecBack_holds : Rows.CodecBackSaid := codecBack.over
#print axioms codecBack_holds
end Go.Proofs.Ytgeadmpbfbdopaa
