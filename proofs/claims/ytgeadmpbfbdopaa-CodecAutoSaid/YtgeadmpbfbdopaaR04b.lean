/-
  Contracts of the document's own functions of layer 4: taking a sign.
-/
import Derived.Test.YtgeadmpbfbdopaaR04
namespace Go.Proofs.Ytgeadmpbfbdopaa
open Go.RowKit
set_option linter.unusedVariables false

set_option maxHeartbeats 2000000 in
theorem ref04_Take (a : Option Addr) (len cap : Nat) (xs : List Int) (w : World) (hr : Reads .u8 w a len cap xs) :
    Calls Try.prog 55 #[.slice a len cap] w fun e w' => e = .returned (.tuple #[.int .i32 (takC xs), .int .i64 (takN xs), .int .i64 (takE xs)]) ∧ Below w.heap.size w w' := by
  have hl := hr.len_le
  have hsz := hr.size
  cases xs with
  | nil =>
    obtain rfl : 0 = len := hsz
    clear hr
    go_enter Try.func55, Try.ntmps55
    go_wp2
    go_ret3
    exact ⟨rfl, Below.refl _ _⟩
  | cons x0 r =>
    have hpos : 0 < len := by simp at hsz; omega
    have hfl := far_le (x0 :: r)
    rw [hsz] at hfl
    have hsz' := hid hsz
    obtain ⟨b, off, rfl, hblt, hc0, g0, g1⟩ := hr.head8
    have HR := hid hr
    have hfar := ref04_far _ _ _ _ _ hr
    have hwide := fun w => ref04_wide x0 w g0 g1
    clear hr
    have hne : ((len : Int) == 0) = false := by simp; omega
    by_cases hw : startN x0 = farN (x0 :: r) ∧ 0 < farN (x0 :: r)
    · have T := hid (take_whole hw.1 hw.2)
      have h4 := startN_le x0
      rcases (show startN x0 = 1 ∨ startN x0 = 2 ∨ startN x0 = 3 ∨ startN x0 = 4 by omega) with hn | hn | hn | hn
      all_goals
        have hF := hw.1.symm.trans hn
        have HF := hid hF
        have HN := hid hn
        have hg1 := hid (top_one x0 r)
        have hg0 : Hid (topGood x0 1 (topU x0 r 1)) := .inl ⟨rfl, top_one x0 r⟩
        have hb0 := good_bd g0 (Nat.le_refl 1) (by omega) hg0.out
        rw [hF] at hfar hfl
        simp only [hn] at hwide
        rw [T.out.1, T.out.2.1, T.out.2.2, hF]
        rw [hn] at hg1
        have hmk : markI 1 = 0 ∧ markI 2 = 192 ∧ markI 3 = 224 ∧ markI 4 = 240 := by decide
        simp only [hmk.1, hmk.2.1, hmk.2.2.1, hmk.2.2.2] at hg1
        have hb0' := hb0.1
        have hb1' := hb0.2.1
        rw [hg1.out] at hb0' hb1'
        clear hF hn hw hsz hb0
        go_enter Try.func55, Try.ntmps55
        go_wp2_with (first
          | (go_at_call 70; (with_reducible refine hfar.mono ?_); rintro e w' ⟨rfl, rfl⟩)
          | (go_at_call 71; (with_reducible refine (hwide _).mono ?_); rintro e w' ⟨rfl, rfl⟩))
        have wq1 : IntKind.i64.wrap x0 = x0 := IntWalk.i64_in _ (by omega)
        have hba : Below w.heap.size w (w.alloc (.cells #[.int .i64 0, .int .i64 0, .int .i64 192, .int .i64 224, .int .i64 240] 3)) := (Below.refl _ _).alloc (Nat.le_refl _) _
        go_quiet (fail)
        generalize hwq : World.drewN (w.alloc (.cells #[.int .i64 0, .int .i64 0, .int .i64 192, .int .i64 224, .int .i64 240] 3)) _ = wq
        have hb1 : Below w.heap.size w wq := by rw [← hwq]; exact Below.drewN hba _
        clear hwq hba wq1
        go_wp2_with fail
        go_loop [7, 8] (fun c i => ∃ k : Nat, 1 ≤ k ∧ k ≤ farN (x0 :: r) ∧ i = .int .i64 k ∧ c = .int .i64 (topU x0 r k) ∧ Hid (topGood x0 k (topU x0 r k))) (fun _ i => farN (x0 :: r) - (intOf i).toNat)
        case atStart => exact ⟨1, Nat.le_refl _, by have := HF.out; omega, rfl, by rw [hg1.out]; try simp, hg0.out⟩
        case round =>
          obtain ⟨k, hk1, hk2, rfl, rfl, hg⟩ := hrel
          have hF' := HF.out
          rw [hF'] at hk2
          have hbd := good_bd g0 hk1 (by rw [HN.out]; exact hk2) hg.out
          obtain ⟨p1, p2, p3, _, _⟩ := hbd
          have HP3 := hid p3
          clear p3 hF'
          generalize ht : topU x0 r k = t at *
          have HT := hid ht
          clear ht
          rcases Nat.lt_or_ge k (farN (x0 :: r)) with hlt | hlt
          · rw [HF.out] at hlt
            try (exfalso; omega)
            all_goals
              obtain ⟨b', off', y, hb', _, hc, l0, u0, hx⟩ := (HR.out.below hb1).get8 (i := k) (by omega)
              cases hb'
              have hy := hid (tail_get hk1 hx.out.1)
              have hok : okU x0 k y = true := far_ok hk1 (by rw [HF.out]; exact hlt) hy.out
              have hyb := (fol_iff y).1 (ok_fol hok)
              have hg' := hid (good_next hk1 (by rw [HN.out]; exact hlt) hg.out (ok_fol hok) hok)
              have hp3 := HP3.out (by rw [HN.out]; exact hlt)
              have hT : Hid (topU x0 r (k + 1) = 64 * t + (y - 128)) := by rw [Hid, top_next hk1 (tail_take hy.out), HT.out]
              clear hok
              go_wp2_with fail
              go_round
              case rel => exact ⟨k + 1, by omega, by rw [HF.out]; omega, by go_num, by rw [hT.out]; congr 1; omega, by rw [hT.out]; exact hg'.out⟩
              case measure => rw [HF.out]; simp [intOf]; omega
          · rw [HF.out] at hlt
            go_wp2_with fail
            have hk : k = farN (x0 :: r) := by rw [HF.out]; omega
            go_ret3
            exact ⟨ret_iii (by rw [← HT.out, hk, HF.out]) rfl rfl, hb1⟩
    · have HW := hid hw
      by_cases h1 : farN (x0 :: r) = (x0 :: r).length
      · have T := hid (take_part hw h1)
        have hfl' : ((farN (x0 :: r) : Int) == len) = true := by rw [h1, hsz]; simp
        have hf0 : 0 < farN (x0 :: r) := by rw [h1]; simp
        have hws : ((farN (x0 :: r) : Int) == startN x0) = false := by simp; intro h; exact hw ⟨by omega, hf0⟩
        rw [T.out.1, T.out.2.1, T.out.2.2]
        clear hw h1 hsz
        go_enter Try.func55, Try.ntmps55
        go_wp2_with (first
          | (go_at_call 70; (with_reducible refine hfar.mono ?_); rintro e w' ⟨rfl, rfl⟩)
          | (go_at_call 71; (with_reducible refine (hwide _).mono ?_); rintro e w' ⟨rfl, rfl⟩))
        go_ret3
        exact ⟨rfl, Below.refl _ _⟩
      · have T := hid (take_form hw h1)
        have hfl' : ((farN (x0 :: r) : Int) == len) = false := by simp; rw [hsz] at h1; omega
        rw [T.out.1, T.out.2.1, T.out.2.2]
        by_cases hf0 : 0 < farN (x0 :: r)
        · have hws : ((farN (x0 :: r) : Int) == startN x0) = false := by simp; intro h; exact hw ⟨by omega, hf0⟩
          have hmx : Hid (((max (farN (x0 :: r)) 1 : Nat) : Int) = farN (x0 :: r)) := by rw [Hid]; omega
          clear hw h1 hsz
          go_enter Try.func55, Try.ntmps55
          go_wp2_with (first
            | (go_at_call 70; (with_reducible refine hfar.mono ?_); rintro e w' ⟨rfl, rfl⟩)
            | (go_at_call 71; (with_reducible refine (hwide _).mono ?_); rintro e w' ⟨rfl, rfl⟩))
          go_ret3
          exact ⟨ret_iii rfl (by rw [hmx.out]) rfl, Below.refl _ _⟩
        · have hf1 : farN (x0 :: r) = 0 := by omega
          rw [hf1] at hfar hfl' hfl ⊢
          clear hw h1 hsz hf0
          go_enter Try.func55, Try.ntmps55
          go_wp2_with (first
            | (go_at_call 70; (with_reducible refine hfar.mono ?_); rintro e w' ⟨rfl, rfl⟩)
            | (go_at_call 71; (with_reducible refine (hwide _).mono ?_); rintro e w' ⟨rfl, rfl⟩))
          go_ret3
          exact ⟨rfl, Below.refl _ _⟩

end Go.Proofs.Ytgeadmpbfbdopaa
