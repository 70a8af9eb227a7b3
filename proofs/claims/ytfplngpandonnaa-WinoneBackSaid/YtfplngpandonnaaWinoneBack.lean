/-
  Proved: for every []rune t and every []byte s (nil, empty, of any length and capacity), in whatever memory and on every schedule, sheavelaw10.WinoneBack(t, s) returns true, without a panic or a race, and its arguments read as before. No condition.
-/
import Derived.Test.YtfplngpandonnaaRows
import Derived.Test.YtfplngpandonnaaAlive10
import Derived.Test.YtfplngpandonnaaR10
import Derived.WalkKit
import Derived.ProofKit
import Derived.OpenShut
import Derived.ShutString
import Derived.ChangeOld
import Derived.Below
namespace Go.Proofs.Ytfplngpandonnaa.winoneBack
open Go.ChangeShapes Go.WideShapes Go.ChangeAt Go.RowKit
open Go.ChangeMaps (open_string shut_string)
set_option linter.unusedVariables false

theorem own : ownKnob Try.prog.godebug = none := by kernel_rfl
theorem laidOut : laidOutB Try.prog = true := by kernel_rfl
theorem like10_same (a : Option Addr) (len cap : Nat) (a2 : Option Addr) (len2 cap2 : Nat) (xs : List Int) (w : World) (hr : Reads .u8 w a len cap xs) (hr2 : Reads .u8 w a2 len2 cap2 xs) :
    Calls Try.prog 14 #[.slice a len cap, .slice a2 len2 cap2] w fun e w' => e = .returned (.bool true) ∧ ∃ n, w' = w.drewN n := by
  have := like_r a len cap xs a2 len2 cap2 xs w hr hr2
  rwa [decide_eq_true rfl] at this
theorem likeR_same (a : Option Addr) (len cap : Nat) (a2 : Option Addr) (len2 cap2 : Nat) (xs : List Int) (w : World) (hr : Reads .i32 w a len cap xs) (hr2 : Reads .i32 w a2 len2 cap2 xs) :
    Calls Try.prog 17 #[.slice a len cap, .slice a2 len2 cap2] w fun e w' => e = .returned (.bool true) ∧ ∃ n, w' = w.drewN n := by
  have := ref03_Like a len cap xs a2 len2 cap2 xs w hr hr2
  rwa [decide_eq_true rfl] at this
/-- Lay of a text that the charset has; and of one that it has not. -/
theorem lay10_yes (a : Option Addr) (len cap : Nat) (xs : List Int) (w : World) (hr : Reads .i32 w a len cap xs) (hN : len < 100000000000) (h : xs.all (hasI sg10) = true) :
    Calls Try.prog 12 #[.slice a len cap] w fun e w' => ∃ a' cap', e = .returned (.tuple #[.slice a' len cap', .int .i64 0]) ∧ Reads .u8 w' a' len cap' (xs.map (putI sg10)) ∧ Below w.heap.size w w' := by
  refine (winone_Lay a len cap xs w hr hN).mono ?_
  rintro e w' ⟨a', l', c', rfl, hr', hb⟩
  have hs := hr'.size
  unfold csL at hr' hs
  rw [if_pos h] at hr' hs
  simp only [List.length_map, hr.size] at hs
  subst hs
  exact ⟨a', c', ret_si (by unfold csE; rw [if_pos h]), hr', hb⟩
theorem lay10_no (a : Option Addr) (len cap : Nat) (xs : List Int) (w : World) (hr : Reads .i32 w a len cap xs) (hN : len < 100000000000) (h : xs.all (hasI sg10) = false) :
    Calls Try.prog 12 #[.slice a len cap] w fun e w' => ∃ a' l' c', e = .returned (.tuple #[.slice a' l' c', .int .i64 9]) ∧ Below w.heap.size w w' := by
  refine (winone_Lay a len cap xs w hr hN).mono ?_
  rintro e w' ⟨a', l', c', rfl, hr', hb⟩
  exact ⟨a', l', c', ret_si (by unfold csE; rw [if_neg (by rw [h]; decide)]), hb⟩
theorem read10_laid (a : Option Addr) (len cap : Nat) (xs : List Int) (w : World) (hr : Reads .u8 w a len cap (xs.map (putI sg10))) (hN : len < 100000000000) (h : xs.all (hasI sg10) = true) :
    Calls Try.prog 18 #[.slice a len cap] w fun e w' => ∃ a' cap', e = .returned (.slice a' len cap') ∧ Reads .i32 w' a' len cap' xs ∧ Below w.heap.size w w' := by
  have := winone_Read a len cap _ w hr hN
  rwa [cs_read h] at this
theorem lay10_back (a : Option Addr) (len cap : Nat) (xs : List Int) (w : World) (hr : Reads .i32 w a len cap (xs.map sg10)) (hN : len < 100000000000) (hw : ∀ x ∈ xs, (Lit.int .u8 x).wf = true) (h : (xs.map sg10).any (fun c => decide (c = 65533)) = false) :
    Calls Try.prog 12 #[.slice a len cap] w fun e w' => ∃ a' cap', e = .returned (.tuple #[.slice a' len cap', .int .i64 0]) ∧ Reads .u8 w' a' len cap' xs ∧ Below w.heap.size w w' := by
  have hb := cs_back once10 hw h
  have := lay10_yes a len cap _ w hr hN hb.1
  rwa [hb.2] at this
theorem lacks10_neg {xs : List Int} (h : xs.all (hasI sg10) = true) : idxI (fun c => !hasI sg10 c) xs < 0 := by
  have := cs_lack sg10 xs
  rw [h] at this
  exact of_decide_eq_true this
theorem lacks10_pos {xs : List Int} (h : xs.all (hasI sg10) = false) : ¬ idxI (fun c => !hasI sg10 c) xs < 0 := by
  have := cs_lack sg10 xs
  rw [h] at this
  exact of_decide_eq_false this
set_option maxHeartbeats 4000000 in
set_option maxRecDepth 100000 in
theorem walk (a0 : Option Addr) (len0 cap0 : Nat) (xs0 : List Int) (a1 : Option Addr) (len1 cap1 : Nat) (xs1 : List Int) (w : World) (r0 : Reads .i32 w a0 len0 cap0 xs0) (r1 : Reads .u8 w a1 len1 cap1 xs1) :
    Calls Try.prog 5 #[.slice a0 len0 cap0, .slice a1 len1 cap1] w fun e w' => e = .returned (.bool true) ∧ Below w.heap.size w w' := by
  by_cases hN : len0 ≤ 300
  · by_cases hM : len1 ≤ 1000
    · have R := hid r0
      have S := hid r1
      have hW1 := hid r1.wf
      clear r0 r1
      cases hs : xs0.all (hasI sg10)
      case' false =>
        have HS := hid hs
        have hL := lacks10_pos hs
        go_enter Try.func5, Try.ntmps5
        go_wp2_with (first
          | (go_at_call 12; (with_reducible refine (lay10_no _ _ _ _ _ R.out (by omega) HS.out).mono ?_); rintro e w1 ⟨a1, l1, c1, rfl, hb1⟩; have R1 := R.out.below hb1; have S1 := S.out.below hb1)
          | (go_at_call 15; (with_reducible refine (winone_Lacks _ _ _ _ _ R1).mono ?_); rintro e w7 ⟨rfl, hb7⟩; have hb7' := below_then hb1 hb7; have S7 := S1.below hb7)
          | (go_at_call 18; (with_reducible refine (winone_Read _ _ _ _ _ S7 (by omega)).mono ?_); rintro e w4 ⟨a4, c4, rfl, hr4, hb4⟩; have hb4' := below_then hb7' hb4; have S4 := S7.below hb4))
      case' true =>
        have HS := hid hs
        have hL := lacks10_neg hs
        go_enter Try.func5, Try.ntmps5
        go_wp2_with (first
          | (go_at_call 12; (with_reducible refine (lay10_yes _ _ _ _ _ R.out (by omega) HS.out).mono ?_); rintro e w1 ⟨a1, c1, rfl, hr1, hb1⟩)
          | (go_at_call 18; (with_reducible refine (read10_laid _ _ _ _ _ hr1 (by omega) HS.out).mono ?_); rintro e w2 ⟨a2, c2, rfl, hr2, hb2⟩; have hb2' := below_then hb1 hb2; have R2 := R.out.below hb2')
          | (go_at_call 17; (with_reducible refine (likeR_same _ _ _ _ _ _ _ _ hr2 R2).mono ?_); rintro e w3 ⟨rfl, n3, rfl⟩; have hb3 := Below.drewN hb2' n3; have R3 := R.out.below hb3; have S3 := S.out.below hb3)
          | (go_at_call 15; (with_reducible refine (winone_Lacks _ _ _ _ _ R3).mono ?_); rintro e w7 ⟨rfl, hb7⟩; have hb7' := below_then hb3 hb7; have S7 := S3.below hb7)
          | (go_at_call 18; (with_reducible refine (winone_Read _ _ _ _ _ S7 (by omega)).mono ?_); rintro e w4 ⟨a4, c4, rfl, hr4, hb4⟩; have hb4' := below_then hb7' hb4; have S4 := S7.below hb4))
      all_goals
        go_loop [60] (fun i => ∃ k : Nat, k ≤ len1 ∧ i = .int .i64 k ∧ Hid (((xs1.map sg10).take k).any (fun c => decide (c = 65533)) = false)) (fun i => len1 - (intOf i).toNat)
        case atStart => exact ⟨0, Nat.zero_le _, rfl, rfl⟩
        case round =>
          obtain ⟨k, hk, rfl, hn⟩ := hrel
          by_cases hlt : k < len1
          · obtain ⟨b, off, x, rfl, _, hc, h0, h1, hx⟩ := hr4.getR hlt
            by_cases hx5 : x = 65533
            · subst hx5
              go_wp2_with (go_at_call 11; (with_reducible refine (alive10_any _).mono ?_); rintro e w' ⟨rfl, hb⟩)
              go_ret
              exact ⟨rfl, below_then hb4' hb⟩
            · have hX := hid hx5
              have hX' : (x == 65533) = false := by simpa using hx5
              clear hx5
              go_wp2_with fail
              go_round
              case rel => exact ⟨k + 1, by omega, by go_num, none_yes hx.out.2 hn.out (decide_eq_false hX.out)⟩
              case measure => simp [intOf]; omega
          · have hn' := hn.out
            rw [hr4.all (show len1 ≤ k by omega)] at hn'
            have hF := hid hn'
            clear hn' hn
            go_wp2_with (first
              | (go_at_call 12; (with_reducible refine (lay10_back _ _ _ _ _ hr4 (by omega) hW1.out hF.out).mono ?_); rintro e w5 ⟨a5, c5, rfl, hr5, hb5⟩; have hb5' := below_then hb4' hb5; have S5 := S4.below hb5)
              | (go_at_call 14; (with_reducible refine (like10_same _ _ _ _ _ _ _ _ hr5 S5).mono ?_); rintro e w6 ⟨rfl, n6, rfl⟩; have hb6 := Below.drewN hb5' n6)
              | (go_at_call 11; (with_reducible refine (alive10_any _).mono ?_); rintro e w' ⟨rfl, hb⟩))
            go_ret
            exact ⟨rfl, below_then hb6 hb⟩
    · have hM' : 1000 < len1 := by omega
      go_enter Try.func5, Try.ntmps5
      go_wp2_with (go_at_call 11; (with_reducible refine (alive10_any _).mono ?_); rintro e w' ⟨rfl, hb⟩)
      go_ret
      exact ⟨rfl, hb⟩
  · have hN' : 300 < len0 := by omega
    go_enter Try.func5, Try.ntmps5
    go_wp2_with (go_at_call 11; (with_reducible refine (alive10_any _).mono ?_); rintro e w' ⟨rfl, hb⟩)
    go_ret
    exact ⟨rfl, hb⟩

set_option maxRecDepth 100000 in
theorem lifted (os : Os) (started : os.Started) (H : Type) (enc : TypeId × Value → H) :
    ReturnsInHanded {} Try.checked os 5 .any (Rows.winoneBackSpec.pre6 enc Try.prog Try.f5 Rows.winoneBackRow.domain false) (Rows.winoneBackSpec.post enc Try.prog Try.f5 false true false false) := by
  refine returnsInHanded_of_change (C := Try.checked) own started (by kernel_rfl) Try.func5
    (ChangeSpec.witness6 (enc := enc) (C := Try.checked) false ⟨#[], #[.slice none 0 0, .slice none 0 0], []⟩ 8 (by kernel_rfl) (by kernel_rfl) (by kernel_rfl) (by kernel_rfl)) ?_
  intro W base args ds gs before hval0 hW hcnd _
  have hval : ∀ (j : Nat) t v, Try.f5.params[j]? = some t → args[j]? = some v → Value.okWide Try.prog W .any base t v := hval0
  have hW' := hW
  obtain ⟨p, q, hA0, hV, rfl, hfz, hnd⟩ := hW
  have hA : DataW.TrodAll enc Try.prog W 0 (fun _ => true) true Try.f5.params.toList args.toList ds p := hA0
  rw [Try.params5] at hA hval
  obtain ⟨v0, vs0, d0, ds0, p0, q0, hargs, rfl, rfl, h0, r_0⟩ := trodAll_cons hA
  obtain ⟨v1, vs1, d1, ds1, p1, q1, rfl, rfl, rfl, h1, r_1⟩ := trodAll_cons r_0
  obtain ⟨rfl, rfl, rfl⟩ := trodAll_nil r_1
  obtain rfl : args = #[v0, v1] := by cases args; simp_all
  obtain ⟨rfl, rfl⟩ := trodVars_none hV
  obtain ⟨a0, len0, cap0, rfl⟩ := okWide_slice Try.underlying28 (hval 0 28 v0 rfl rfl)
  have k0 := h0
  have lt0 : ∀ x ∈ p0, x.block < W.heap.size := by obtain ⟨m, hm⟩ := k0; exact DataW.trod_lt m _ _ _ hm
  obtain ⟨xs0, r0⟩ : ∃ xs, Reads .i32 W a0 len0 cap0 xs := by
    obtain ⟨fuel, hf⟩ := h0
    rcases open_ints Try.underlying28 Try.underlying21 (by kernel_rfl) hf with ⟨hcs, _⟩ | ⟨x, l, c, zs, hcs, _, hl, hm, hz, _, hcell, hwz⟩
    · simp [Value.cells] at hcs
      obtain ⟨rfl, rfl, rfl⟩ := hcs
      exact ⟨[], Reads.nil _ _ _ _ (Nat.zero_le _)⟩
    · simp [Value.cells] at hcs
      obtain ⟨rfl, rfl, rfl⟩ := hcs
      exact ⟨_, reads_of_ints hl hm (by simpa using hz) hcell hwz⟩
  obtain ⟨a1, len1, cap1, rfl⟩ := okWide_slice Try.underlying29 (hval 1 29 v1 rfl rfl)
  have k1 := h1
  have lt1 : ∀ x ∈ p1, x.block < W.heap.size := by obtain ⟨m, hm⟩ := k1; exact DataW.trod_lt m _ _ _ hm
  obtain ⟨xs1, r1⟩ : ∃ xs, Reads .u8 W a1 len1 cap1 xs := by
    obtain ⟨fuel, hf⟩ := h1
    rcases open_ints Try.underlying29 Try.underlying5 (by kernel_rfl) hf with ⟨hcs, _⟩ | ⟨x, l, c, zs, hcs, _, hl, hm, hz, _, hcell, hwz⟩
    · simp [Value.cells] at hcs
      obtain ⟨rfl, rfl, rfl⟩ := hcs
      exact ⟨[], Reads.nil _ _ _ _ (Nat.zero_le _)⟩
    · simp [Value.cells] at hcs
      obtain ⟨rfl, rfl, rfl⟩ := hcs
      exact ⟨_, reads_of_ints hl hm (by simpa using hz) hcell hwz⟩
  clear hA0 hval0
  refine (walk a0 len0 cap0 xs0 a1 len1 cap1 xs1 W r0 r1).mono fun e W' ⟨he, bel⟩ => ?_
  subst he
  exact ⟨_, rfl, _, _, _, [], _, [], hW', trodAll_mk1 (shut_bool Try.underlying4 _), (trodAll_cons_mk (Below.trod laidOut (by kernel_rfl) (of_decide_eq_true (by kernel_rfl)) k0 bel lt0) (trodAll_cons_mk (Below.trod laidOut (by kernel_rfl) (of_decide_eq_true (by kernel_rfl)) k1 bel lt1) trodAll_mk0)), rfl, bel.frame _, fun h => by cases h⟩

theorem over : Rows.winoneBackRow.holds Try.pinned (OpenSpec.ofChange Rows.winoneBackSpec) :=
  OpenClaim.holds_of_wide 5 Try.f5 rfl rfl rfl rfl rfl rfl rfl ⟨rfl, rfl, rfl, rfl, rfl⟩ rfl rfl rfl rfl rfl (by kernel_rfl) Try.func5 (by kernel_rfl)
    (of_decide_eq_true (by kernel_rfl)) (by unfold Func.isWrapper; first | (rw [if_pos (by decide +kernel)]; kernel_rfl) | (rw [if_neg (by decide +kernel)]; exact ⟨rfl, rfl⟩))
    (fun os started H enc _ => lifted os started H enc)

end Go.Proofs.Ytfplngpandonnaa.winoneBack
namespace Go.Proofs.Ytfplngpandonnaa
theorem winoneBack_holds : Rows.WinoneBackSaid := winoneBack.over
#print axioms winoneBack_holds
end Go.Proofs.Ytfplngpandonnaa
