/-
  Contracts of the document's own functions of layer 4 (those that the translation has).
-/
import Derived.Test.YtgeadmpbfbdopaaR01
import Derived.Test.YtgeadmpbfbdopaaR03
import Derived.Test.YtgeadmpbfbdopaaD04
import Derived.Handy
namespace Go.Proofs.Ytgeadmpbfbdopaa
open Go.RowKit
set_option linter.unusedVariables false

theorem ret_iii {k k2 k3 : IntKind} {a b c d e f : Int} (h : a = b) (h' : c = d) (h2 : e = f) : Ending.returned (.tuple #[.int k a, .int k2 c, .int k3 e]) = .returned (.tuple #[.int k b, .int k2 d, .int k3 f]) := by rw [h, h', h2]

set_option maxHeartbeats 1000000 in
theorem ref04_Octets (c : Int) (w : World) (h0 : -2147483648 ≤ c) (h1 : c ≤ 2147483647) :
    Calls Try.prog 50 #[.int .i32 c] w fun e w' => ∃ a' cap', e = .returned (.slice a' (lenI c) cap') ∧ Reads .u8 w' a' (lenI c) cap' (octs c) ∧ Below w.heap.size w w' := by
  cases hs : scB c
  · have H := hid hs
    have hl : lenI c = 0 := by unfold lenI; rw [if_neg (by simp [hs])]
    have ho : octs c = [] := by unfold octs; rw [if_neg (by simp [hs])]
    rw [hl, ho]
    clear hl ho
    go_enter Try.func50, Try.ntmps50
    go_wp2_with (go_at_call 39; (with_reducible refine (ref03_Is _ _).mono ?_); rintro e w' ⟨rfl, rfl⟩)
    go_ret
    exact ⟨none, 0, rfl, Reads.nil _ _ _ _ (Nat.zero_le _), Below.refl _ _⟩
  · have H := hid hs
    have hsc := (scB_iff c).1 hs
    have hwf := hid (octs_wf c)
    obtain ⟨g0, g1, g2⟩ := hsc
    have G2 := hid g2
    clear g2
    by_cases c1 : c < 128
    · have ho : octs c = [c] := by unfold octs; rw [if_pos hs, if_pos c1]
      have hl : lenI c = 1 := by rw [← octs_len, ho]; rfl
      rw [ho] at hwf; rw [hl, ho]
      clear hl ho
      go_enter Try.func50, Try.ntmps50
      go_wp2_with (go_at_call 39; (with_reducible refine (ref03_Is _ _).mono ?_); rintro e w' ⟨rfl, rfl⟩)
      go_ret
      exact ⟨_, _, rfl, Reads.lit .u8 _ w _ (by simp [maxLen]) hwf.out, (Below.refl _ _).alloc (Nat.le_refl _) _⟩
    · by_cases c2 : c < 2048
      · have ho : octs c = [192 + c / 64, 128 + c % 64] := by unfold octs; rw [if_pos hs, if_neg c1, if_pos c2]
        have hl : lenI c = 2 := by rw [← octs_len, ho]; rfl
        rw [ho] at hwf; rw [hl, ho]
        clear hl ho
        go_enter Try.func50, Try.ntmps50
        go_wp2_with (go_at_call 39; (with_reducible refine (ref03_Is _ _).mono ?_); rintro e w' ⟨rfl, rfl⟩)
        go_ret
        exact ⟨_, _, rfl, Reads.lit .u8 _ w _ (by simp [maxLen]) hwf.out, (Below.refl _ _).alloc (Nat.le_refl _) _⟩
      · by_cases c3 : c < 65536
        · have ho : octs c = [224 + c / 4096, 128 + c / 64 % 64, 128 + c % 64] := by unfold octs; rw [if_pos hs, if_neg c1, if_neg c2, if_pos c3]
          have hl : lenI c = 3 := by rw [← octs_len, ho]; rfl
          rw [ho] at hwf; rw [hl, ho]
          clear hl ho
          go_enter Try.func50, Try.ntmps50
          go_wp2_with (go_at_call 39; (with_reducible refine (ref03_Is _ _).mono ?_); rintro e w' ⟨rfl, rfl⟩)
          go_ret
          exact ⟨_, _, rfl, Reads.lit .u8 _ w _ (by simp [maxLen]) hwf.out, (Below.refl _ _).alloc (Nat.le_refl _) _⟩
        · have ho : octs c = [240 + c / 262144, 128 + c / 4096 % 64, 128 + c / 64 % 64, 128 + c % 64] := by unfold octs; rw [if_pos hs, if_neg c1, if_neg c2, if_neg c3]
          have hl : lenI c = 4 := by rw [← octs_len, ho]; rfl
          rw [ho] at hwf; rw [hl, ho]
          clear hl ho
          go_enter Try.func50, Try.ntmps50
          go_wp2_with (go_at_call 39; (with_reducible refine (ref03_Is _ _).mono ?_); rintro e w' ⟨rfl, rfl⟩)
          go_ret
          exact ⟨_, _, rfl, Reads.lit .u8 _ w _ (by simp [maxLen]) hwf.out, (Below.refl _ _).alloc (Nat.le_refl _) _⟩
theorem ref04_wide (a : Int) (w : World) (h0 : 0 ≤ a) (h1 : a ≤ 255) :
    Calls Try.prog 71 #[.int .u8 a] w fun e w' => e = .returned (.int .i64 (startN a)) ∧ w = w' := by
  go_enter Try.func71, Try.ntmps71
  go_wp2
  all_goals (go_ret; exact ⟨ret_int (by unfold startN; (repeat' split) <;> omega), rfl⟩)
theorem ref04_range2 (a : Int) (w : World) (h0 : 0 ≤ a) (h1 : a ≤ 255) :
    Calls Try.prog 81 #[.int .u8 a] w fun e w' => e = .returned (.tuple #[.int .u8 (loU a), .int .u8 (hiU a)]) ∧ w = w' := by
  go_enter Try.func81, Try.ntmps81
  go_wp2
  all_goals (go_ret2; exact ⟨by unfold loU hiU; simp_all, rfl⟩)
set_option maxHeartbeats 1000000 in
theorem ref04_far (a : Option Addr) (len cap : Nat) (xs : List Int) (w : World) (hr : Reads .u8 w a len cap xs) :
    Calls Try.prog 70 #[.slice a len cap] w fun e w' => e = .returned (.int .i64 (farN xs)) ∧ w = w' := by
  have hl := hr.len_le
  have hsz := hr.size
  cases xs with
  | nil =>
    obtain rfl : 0 = len := hsz
    clear hr
    go_enter Try.func70, Try.ntmps70
    go_wp2
    go_ret
    exact ⟨rfl, rfl⟩
  | cons x0 r =>
    have hpos : 0 < len := by simp at hsz; omega
    have hsz' := hid hsz
    clear hsz
    obtain ⟨b, off, rfl, _, hc0, g0, g1⟩ := hr.head8
    have HR := hid hr
    clear hr
    have hne : ((len : Int) == 0) = false := by simp; omega
    by_cases hz : startN x0 = 0
    · have hz' : ((startN x0 : Int) == 0) = true := by simp [hz]
      have HZ := hid hz
      clear hz
      go_enter Try.func70, Try.ntmps70
      go_wp2_with (go_at_call 71; (with_reducible refine (ref04_wide _ _ g0 g1).mono ?_); rintro e w' ⟨rfl, rfl⟩)
      go_ret
      exact ⟨ret_int (by rw [far_zero HZ.out]; rfl), rfl⟩
    · have hz' : ((startN x0 : Int) == 0) = false := by simp; omega
      have HZ := hid hz
      have hw4 := startN_le x0
      have hb2 : 0 ≤ loU x0 ∧ loU x0 ≤ 255 ∧ 0 ≤ hiU x0 ∧ hiU x0 ≤ 255 := by unfold loU hiU; (repeat' split) <;> omega
      clear hz
      go_enter Try.func70, Try.ntmps70
      go_wp2_with (go_at_call 71; (with_reducible refine (ref04_wide _ _ g0 g1).mono ?_); rintro e w' ⟨rfl, rfl⟩)
      go_loop [3] (fun i => ∃ k : Nat, 1 ≤ k ∧ k ≤ startN x0 ∧ k ≤ len ∧ i = .int .i64 k ∧ Hid (k + runU x0 k (r.drop (k - 1)) = farN (x0 :: r))) (fun i => startN x0 - (intOf i).toNat)
      case atStart => exact ⟨1, Nat.le_refl _, by have := HZ.out; omega, hpos, rfl, (far_cons HZ.out).symm⟩
      case round =>
        obtain ⟨k, hk1, hk2, hk3, rfl, hn⟩ := hrel
        by_cases ht : k < startN x0
        · by_cases hlt : k < len
          · obtain ⟨b', off', y, hb', _, hc, l0, u0, hx⟩ := HR.out.get8 hlt
            cases hb'
            have hy := hid (tail_get hk1 hx.out.1)
            by_cases k1 : k = 1
            · have k1' : ((k : Int) == 1) = true := by simp [k1]
              have K1 := hid k1
              clear k1
              go_wp2_with (first
                | (go_at_call 71; (with_reducible refine (ref04_wide _ _ g0 g1).mono ?_); rintro e w' ⟨rfl, rfl⟩)
                | (go_at_call 81; (with_reducible refine (ref04_range2 _ _ g0 g1).mono ?_); rintro e w' ⟨rfl, rfl⟩))
              all_goals first
                | (go_ret
                   exact ⟨ret_int (by rw [← hn.out, run_stop hk1 hy.out (.inr (by rw [Bool.eq_false_iff, Ne, K1.out, ok_one]; omega))]), rfl⟩)
                | (go_round
                   case rel => exact ⟨k + 1, by omega, by omega, by omega, by go_num, (run_step hk1 hy.out ht (by rw [K1.out, ok_one]; omega)).symm.trans hn.out⟩
                   case measure => simp [intOf]; omega)
            · have k1' : ((k : Int) == 1) = false := by simp; omega
              have K1 := hid k1
              clear k1
              go_wp2_with (first
                | (go_at_call 71; (with_reducible refine (ref04_wide _ _ g0 g1).mono ?_); rintro e w' ⟨rfl, rfl⟩)
                | (go_at_call 81; (with_reducible refine (ref04_range2 _ _ g0 g1).mono ?_); rintro e w' ⟨rfl, rfl⟩))
              all_goals first
                | (go_ret
                   exact ⟨ret_int (by rw [← hn.out, run_stop hk1 hy.out (.inr (by rw [Bool.eq_false_iff, Ne, ok_two K1.out]; omega))]), rfl⟩)
                | (go_round
                   case rel => exact ⟨k + 1, by omega, by omega, by omega, by go_num, (run_step hk1 hy.out ht (by rw [ok_two K1.out]; omega)).symm.trans hn.out⟩
                   case measure => simp [intOf]; omega)
          · go_wp2_with (go_at_call 71; (with_reducible refine (ref04_wide _ _ g0 g1).mono ?_); rintro e w' ⟨rfl, rfl⟩)
            go_ret
            exact ⟨ret_int (by rw [← hn.out, run_end (by have := hsz'.out; simp at this; omega)]), rfl⟩
        · go_wp2_with (go_at_call 71; (with_reducible refine (ref04_wide _ _ g0 g1).mono ?_); rintro e w' ⟨rfl, rfl⟩)
          go_ret
          exact ⟨ret_int (by rw [← hn.out, run_full (by omega)]), rfl⟩

end Go.Proofs.Ytgeadmpbfbdopaa
