/-
  Contracts of package utfone's functions: a sign taken.
-/
import Derived.Test.YtgeadmpbfbdopaaC04
namespace Go.Proofs.Ytgeadmpbfbdopaa
open Go.RowKit
set_option linter.unusedVariables false

def bgW : List Int → Nat
  | [] => 0
  | a :: _ => startN a
def bgT : List Int → Int
  | [] => 0
  | a :: r => if startN a = 0 then 0 else topU a r (farN (a :: r))
theorem clr1 : ∀ n : Fin 128, bits .andNot .i32 (n.val : Int) 0 = n.val - 0 := by decide +kernel
theorem clr2 : ∀ n : Fin 32, bits .andNot .i32 ((192 + n.val : Nat) : Int) 192 = ((192 + n.val : Nat) : Int) - 192 := by decide +kernel
theorem clr3 : ∀ n : Fin 16, bits .andNot .i32 ((224 + n.val : Nat) : Int) 224 = ((224 + n.val : Nat) : Int) - 224 := by decide +kernel
theorem clr4 : ∀ n : Fin 8, bits .andNot .i32 ((240 + n.val : Nat) : Int) 240 = ((240 + n.val : Nat) : Int) - 240 := by decide +kernel
theorem clr (a : Int) (h0 : 0 ≤ a) (h : startN a ≠ 0) : bits .andNot .i32 a (markI (startN a)) = a - markI (startN a) := by
  have h4 := startN_le a
  obtain ⟨n, rfl⟩ := Int.eq_ofNat_of_zero_le h0
  rcases (show startN n = 1 ∨ startN n = 2 ∨ startN n = 3 ∨ startN n = 4 by omega) with e | e | e | e <;> rw [e]
  · rw [start_1] at e; exact clr1 ⟨n, by omega⟩
  · rw [start_2] at e; have := clr2 ⟨n - 192, by omega⟩; simp only at this; rwa [show 192 + (n - 192) = n by omega] at this
  · rw [start_3] at e; have := clr3 ⟨n - 224, by omega⟩; simp only at this; rwa [show 224 + (n - 224) = n by omega] at this
  · rw [start_4] at e; have := clr4 ⟨n - 240, by omega⟩; simp only at this; rwa [show 240 + (n - 240) = n by omega] at this

theorem some_ok {a y t : Int} {k : Nat} (h0 : 0 ≤ a) (hk : 1 ≤ k) (hkw : k < startN a) (hg : topGood a k t) (hy : folB y = true) (li : Int) (hli : li = startN a - k - 1) (w : World) :
    Calls Try.prog 88 #[.int .i32 (t * 64 + y % 64), .int .i64 li, .int .i64 (startN a)] w fun e w' => e = .returned (.bool (okU a k y)) ∧ w = w' := by
  have h4 := startN_le a
  have hb := good_bd h0 hk (by omega) hg
  have hyb := (fol_iff y).1 hy
  have e : t * 64 + y % 64 = 64 * t + (y - 128) := by omega
  have hp := hb.2.2.1 hkw
  obtain rfl : li = ((startN a - k - 1 : Nat) : Int) := by omega
  have hle : (64 * t + (y - 128)) * shf (startN a - k - 1) ≤ 2147483647 := by
    rcases (show startN a - k - 1 = 0 ∨ startN a - k - 1 = 1 ∨ startN a - k - 1 = 2 by omega) with h | h | h <;> rw [h] <;> simp only [shf]
    · simp; omega
    · have := hb.2.2.2.1 (by omega); simp; omega
    · have := hb.2.2.2.2 (by omega); simp; omega
  have := utfone_some (64 * t + (y - 128)) (startN a - k - 1) (startN a) w (by omega) (by omega) hle
  rw [e]
  have hd : decide (lenI ((64 * t + (y - 128)) * shf (startN a - k - 1)) = startN a) = okU a k y := by
    rw [Bool.eq_iff_iff, decide_eq_true_iff]; exact some_iff hk hkw hg hy
  rwa [hd] at this
set_option maxHeartbeats 2000000 in
theorem utfone_begin (a : Option Addr) (len cap : Nat) (xs : List Int) (w : World) (hr : Reads .u8 w a len cap xs) :
    Calls Try.prog 82 #[.slice a len cap] w fun e w' => e = .returned (.tuple #[.int .i32 (bgT xs), .int .i64 (farN xs), .int .i64 (bgW xs)]) ∧ ∃ n, w' = w.drewN n := by
  have hl := hr.len_le
  have hsz := hr.size
  cases xs with
  | nil =>
    obtain rfl : 0 = len := hsz
    clear hr
    go_enter Try.func82, Try.ntmps82
    go_wp2
    go_ret3
    exact ⟨rfl, 0, rfl⟩
  | cons x0 r =>
    have hpos : 0 < len := by simp at hsz; omega
    have hsz' := hid hsz
    clear hsz
    obtain ⟨b, off, rfl, _, hc0, g0, g1⟩ := hr.head8
    have HR := hid hr
    clear hr
    have hne : ((len : Int) == 0) = false := by simp; omega
    by_cases hz : startN x0 = 0
    · have hz' : ((startN x0 : Int) == 0) = true := by simp [hz]
      have HZ := hid hz
      clear hz
      go_enter Try.func82, Try.ntmps82
      go_wp2_with (go_at_call 86; (with_reducible refine (utfone_Starts _ _ g0 g1).mono ?_); rintro e w' ⟨rfl, rfl⟩)
      go_ret3
      exact ⟨by rw [far_zero HZ.out]; simp only [bgT, bgW]; rw [if_pos HZ.out, HZ.out]; rfl, 0, rfl⟩
    · have hz' : ((startN x0 : Int) == 0) = false := by simp; omega
      have HZ := hid hz
      have hw4 := startN_le x0
      have hclr := clr x0 g0 hz
      have hg1 := hid (top_one x0 r)
      have hu : IntKind.i32.wrap x0 = x0 := IntWalk.i32_in _ (by omega)
      have hw1 : 1 ≤ startN x0 := by omega
      clear hz
      go_enter Try.func82, Try.ntmps82
      go_wp2_with (go_at_call 86; (with_reducible refine (utfone_Starts _ _ g0 g1).mono ?_); rintro e w' ⟨rfl, rfl⟩)
      go_quiet ((go_at_call 85; exact Calls.quiet_of_same (Calls.flip (utfone_mark _ _))))
      go_wp2_with fail
      go_loop [2, 3] (fun c i => ∃ k : Nat, 1 ≤ k ∧ k ≤ startN x0 ∧ k ≤ len ∧ i = .int .i64 k ∧ c = .int .i32 (topU x0 r k) ∧ Hid (topGood x0 k (topU x0 r k)) ∧ Hid (k + runU x0 k (r.drop (k - 1)) = farN (x0 :: r))) (fun _ i => startN x0 - (intOf i).toNat)
      case atStart => exact ⟨1, Nat.le_refl _, hw1, hpos, rfl, by rw [hg1.out], .inl ⟨rfl, top_one x0 r⟩, (far_cons HZ.out).symm⟩
      case round =>
        obtain ⟨k, hk1, hk2, hk3, rfl, rfl, hg, hn⟩ := hrel
        have hbd := good_bd g0 hk1 hk2 hg.out
        obtain ⟨p1, p2, p3, _, _⟩ := hbd
        have HP3 := hid p3
        clear p3
        generalize ht : topU x0 r k = t at *
        have HT := hid ht
        clear ht
        by_cases hlt : k < startN x0 ∧ k < len
        · obtain ⟨hlt1, hlt2⟩ := hlt
          obtain ⟨b', off', y, hb', _, hc, l0, u0, hx⟩ := HR.out.get8 hlt2
          cases hb'
          have hy := hid (tail_get hk1 hx.out.1)
          have hp3 := HP3.out hlt1
          have hm : Hid ((k : Int) < min (startN x0 : Int) len) := by rw [Hid]; omega
          cases hf : folB y
          · have hF := hid hf
            have hok : okU x0 k y = false := by
              cases ho : okU x0 k y
              · rfl
              · rw [ok_fol ho] at hf; exact hf
            have hs : Hid (k = farN (x0 :: r)) := by rw [Hid, ← hn.out, run_stop hk1 hy.out (.inr hok)]
            clear hok
            go_wp2_with (go_at_call 87; (with_reducible refine (utfone_Follows _ _ l0 u0).mono ?_); rintro e w' ⟨rfl, rfl⟩)
            all_goals (go_ret3; exact ⟨ret_ii3 (by simp only [bgT]; rw [if_neg HZ.out, ← hs.out, HT.out]) (by rw [← hs.out]) rfl, _, rfl⟩)
          · have hF := hid hf
            have hyb := (fol_iff y).1 hf
            have b1 : bits .and .u8 y 63 = y % 64 := and_u8 6 _ _ (by decide) (by omega) (by omega) (by omega)
            have b2 : bits .or .i32 (t * 64) (y % 64) = t * 64 + y % 64 := or_i32 6 _ _ (by omega) (by omega) (by omega) (by omega) (by omega)
            have hsm := some_ok g0 hk1 hlt1 hg.out hf
            cases ho : okU x0 k y
            · have hs : Hid (k = farN (x0 :: r)) := by rw [Hid, ← hn.out, run_stop hk1 hy.out (.inr ho)]
              go_wp2_with (first
                | (go_at_call 87; (with_reducible refine (utfone_Follows _ _ l0 u0).mono ?_); rintro e w' ⟨rfl, rfl⟩)
                | (go_at_call 88; (with_reducible refine (hsm _ (by omega) _).mono ?_); rintro e w' ⟨rfl, rfl⟩))
              all_goals (go_ret3; exact ⟨ret_ii3 (by simp only [bgT]; rw [if_neg HZ.out, ← hs.out, HT.out]) (by rw [← hs.out]) rfl, _, rfl⟩)
            · have hg' := hid (good_next hk1 hlt1 hg.out hf ho)
              have hT : Hid (topU x0 r (k + 1) = 64 * t + (y - 128)) := by rw [Hid, top_next hk1 (tail_take hy.out), HT.out]
              have hs := hid ((run_step hk1 hy.out hlt1 ho).symm.trans hn.out)
              go_wp2_with (first
                | (go_at_call 87; (with_reducible refine (utfone_Follows _ _ l0 u0).mono ?_); rintro e w' ⟨rfl, rfl⟩)
                | (go_at_call 88; (with_reducible refine (hsm _ (by omega) _).mono ?_); rintro e w' ⟨rfl, rfl⟩))
              all_goals
                go_round
                case rel => exact ⟨k + 1, by omega, by omega, by omega, by go_num, by rw [hT.out]; congr 1; omega, by rw [hT.out]; exact hg'.out, hs.out⟩
                case measure => simp [intOf]; omega
        · have hm : ¬ ((k : Int) < min (startN x0 : Int) len) := by omega
          have hs : Hid (k = farN (x0 :: r)) := by
            rw [Hid, ← hn.out]
            by_cases hq : startN x0 ≤ k
            · rw [run_full hq]
            · rw [run_end (by have := hsz'.out; simp at this; omega)]
          go_wp2_with fail
          all_goals (go_ret3; exact ⟨ret_ii3 (by simp only [bgT]; rw [if_neg HZ.out, ← hs.out, HT.out]) (by rw [← hs.out]) rfl, _, rfl⟩)
theorem far_cases (xs : List Int) : farN xs = 0 ∨ ∃ a r, xs = a :: r ∧ startN a ≠ 0 := by
  cases xs with
  | nil => exact .inl rfl
  | cons a r =>
    by_cases h : startN a = 0
    · exact .inl (far_zero h)
    · exact .inr ⟨a, r, rfl, h⟩
set_option maxHeartbeats 1000000 in
theorem utfone_Take (a : Option Addr) (len cap : Nat) (xs : List Int) (w : World) (hr : Reads .u8 w a len cap xs) :
    Calls Try.prog 76 #[.slice a len cap] w fun e w' => e = .returned (.tuple #[.int .i32 (takC xs), .int .i64 (takN xs), .int .i64 (takE xs)]) ∧ ∃ n, w' = w.drewN n := by
  have hl := hr.len_le
  have hsz := hr.size
  have hB := utfone_begin _ _ _ _ _ hr
  clear hr
  cases xs with
  | nil =>
    obtain rfl : 0 = len := hsz
    go_enter Try.func76, Try.ntmps76
    go_wp2_with (go_at_call 82; (with_reducible refine hB.mono ?_); rintro e w1 ⟨rfl, n, rfl⟩)
    go_ret3
    exact ⟨rfl, _, rfl⟩
  | cons x0 r =>
    have hfl := far_le (x0 :: r)
    have hW : bgW (x0 :: r) = startN x0 := rfl
    rw [hW] at hB
    clear hW
    by_cases hw : startN x0 = farN (x0 :: r) ∧ 0 < farN (x0 :: r)
    · have T := hid (take_whole hw.1 hw.2)
      have hT : bgT (x0 :: r) = topU x0 r (farN (x0 :: r)) := by simp only [bgT]; rw [if_neg (by omega)]
      rw [T.out.1, T.out.2.1, T.out.2.2]
      rw [hT, hw.1] at hB
      have hq : 0 < farN (x0 :: r) := hw.2
      clear hw hT
      go_enter Try.func76, Try.ntmps76
      go_wp2_with (go_at_call 82; (with_reducible refine hB.mono ?_); rintro e w1 ⟨rfl, n, rfl⟩)
      go_ret3
      exact ⟨rfl, _, rfl⟩
    · have hpos : 0 < (x0 :: r).length := by simp
      by_cases h1 : farN (x0 :: r) = (x0 :: r).length
      · have T := hid (take_part hw h1)
        have hfl' : ((farN (x0 :: r) : Int) == len) = true := by rw [h1, hsz]; simp
        have hf0 : 0 < farN (x0 :: r) := by omega
        have hws : ((farN (x0 :: r) : Int) == startN x0) = false := by simp; intro h; exact hw ⟨by omega, hf0⟩
        rw [T.out.1, T.out.2.1, T.out.2.2]
        clear hw h1 hsz
        go_enter Try.func76, Try.ntmps76
        go_wp2_with (go_at_call 82; (with_reducible refine hB.mono ?_); rintro e w1 ⟨rfl, n, rfl⟩)
        go_ret3
        exact ⟨rfl, _, rfl⟩
      · have T := hid (take_form hw h1)
        have hfl' : ((farN (x0 :: r) : Int) == len) = false := by simp; rw [hsz] at h1; omega
        rw [T.out.1, T.out.2.1, T.out.2.2]
        by_cases hf0 : 0 < farN (x0 :: r)
        · have hws : ((farN (x0 :: r) : Int) == startN x0) = false := by simp; intro h; exact hw ⟨by omega, hf0⟩
          have hmx : Hid (((max (farN (x0 :: r)) 1 : Nat) : Int) = farN (x0 :: r)) := by rw [Hid]; omega
          clear hw h1 hsz
          go_enter Try.func76, Try.ntmps76
          go_wp2_with (go_at_call 82; (with_reducible refine hB.mono ?_); rintro e w1 ⟨rfl, n, rfl⟩)
          go_ret3
          exact ⟨ret_ii3 rfl (by rw [hmx.out]) rfl, _, rfl⟩
        · have hf1 : farN (x0 :: r) = 0 := by omega
          rw [hf1] at hB hfl' hfl ⊢
          clear hw h1 hsz hf0
          go_enter Try.func76, Try.ntmps76
          go_wp2_with (go_at_call 82; (with_reducible refine hB.mono ?_); rintro e w1 ⟨rfl, n, rfl⟩)
          go_ret3
          exact ⟨rfl, _, rfl⟩

end Go.Proofs.Ytgeadmpbfbdopaa
