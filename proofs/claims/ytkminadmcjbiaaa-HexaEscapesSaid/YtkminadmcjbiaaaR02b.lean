/-
  Contracts of the document's own functions of layer 2: reading digits.
-/
import Derived.Test.YtkminadmcjbiaaaR02
namespace Go.Proofs.Ytkminadmcjbiaaa
open Go.RowKit
set_option linter.unusedVariables false

set_option maxHeartbeats 2000000 in
theorem read_r (a : Option Addr) (len cap : Nat) (xs : List Int) (w : World) (hr : Reads .u8 w a len cap xs) (hN : len < 1000000000) :
    Calls Try.prog 18 #[.slice a len cap] w fun e w' => ∃ a' len' cap', e = .returned (.tuple #[.slice a' len' cap', .int .i64 (readE xs)]) ∧ Reads .u8 w' a' len' cap' (readV xs) ∧ Below w.heap.size w w' := by
  have HR := hid hr
  have hsz := hr.size
  clear hr
  go_enter Try.func18, Try.ntmps18
  go_wp2
  go_loop [4] (fun i => ∃ k : Nat, k ≤ len ∧ i = .int .i64 k ∧ Hid ((xs.take k).all hexO = true)) (fun i => len - (intOf i).toNat)
  case atStart => exact ⟨0, Nat.zero_le _, rfl, by simp [Hid]⟩
  case round =>
    obtain ⟨k, hk, rfl, hn⟩ := hrel
    by_cases hlt : k < len
    · obtain ⟨b, off, x, rfl, _, hc, h0, h1, hx⟩ := HR.out.get8 hlt
      cases e1 : hexO x
      · go_wp2_with (go_at_call 8; (with_reducible refine (value_r _ _ h0 h1).mono ?_); rintro e w' ⟨rfl, rfl⟩)
        have hf := read_form (all_no hx.out.1 e1)
        go_ret2
        exact ⟨none, 0, 0, ret_si hf.1.symm, by rw [hf.2]; exact Reads.nil _ _ _ _ (Nat.zero_le _), Below.refl _ _⟩
      · have E1 := hid e1
        go_wp2_with (go_at_call 8; (with_reducible refine (value_r _ _ h0 h1).mono ?_); rintro e w' ⟨rfl, rfl⟩)
        go_round
        case rel => exact ⟨k + 1, by omega, by go_num, all_yes hx.out.2 hn.out E1.out⟩
        case measure => simp [intOf]; omega
    · have hall : Hid (xs.all hexO = true) := by have := hn.out; rwa [HR.out.all (show len ≤ k by omega)] at this
      clear hn
      by_cases hodd : len % 2 = 0
      · have hmod : ((len : Int) % 2 != 0) = false := by simp; omega
        go_wp2_with fail
        go_loopw [7, 8] (fun v i wr => ∃ j : Nat, 2 * j ≤ len ∧ i = .int .i64 ((2 * j : Nat) : Int) ∧ Own .u8 5 w.heap.size wr v (pairs (xs.take (2 * j))) ∧ Below w.heap.size w wr) (fun _ i _ => len - (intOf i).toNat)
        case atStart => exact ⟨0, Nat.zero_le _, rfl, Own.nil _ _ _ _, Below.refl _ _⟩
        case round =>
          obtain ⟨j, hj, rfl, hown', hbel'⟩ := hrel
          by_cases hlt2 : 2 * j < len
          · obtain ⟨b, off, x, rfl, _, hc, h0, h1, hx⟩ := (HR.out.below hbel').get8 hlt2
            obtain ⟨b', off', y, hb, _, hc2, h02, h12, hy⟩ := (HR.out.below hbel').get8 (i := 2 * j + 1) (by omega)
            cases hb
            have b1 := hexV_bd x
            have b2 := hexV_bd y
            have hll : (pairs (xs.take (2 * j))).length < 1000000000 := by rw [pairs_len j _ (by rw [List.length_take]; omega)]; omega
            have hE : Hid (pairs (xs.take (2 * j)) ++ [16 * hexV x + hexV y] = pairs (xs.take (2 * (j + 1)))) := hid (pairs_next (by omega) hx.out.2 hy.out.2).symm
            generalize hm : 2 * j = m at *
            have HM := hid hm
            have hm2 : m + 1 < len := by omega
            clear hm
            go_wp2_with (first
              | (go_at_call 8; (with_reducible refine (value_r _ _ (by assumption) (by assumption)).mono ?_); rintro e w' ⟨rfl, rfl⟩)
              | (at_builtin; go_must (refine wpList_push ST8 rfl _ _ rfl rfl ⟨_, rfl⟩ hown' hbel' (by omega) (pair_wf x y) ?_); intro v' w' ho2 hb2))
            rw [hE.out] at ho2
            clear hown' hbel'
            go_roundw
            case rel => exact ⟨j + 1, by have := HM.out; omega, by have := HM.out; rw [show (2 * (j + 1) : Nat) = m + 2 by omega]; go_num, ho2, hb2⟩
            case measure => simp [intOf]; omega
          · go_wp2_with fail
            have hf := read_ok hall.out (by rw [hsz]; exact hodd)
            rw [HR.out.all (show len ≤ 2 * j by omega), ← hf.2] at hown'
            obtain ⟨a', len', cap', rfl, hrd⟩ := hown'.back
            go_ret2
            exact ⟨a', len', cap', ret_si hf.1.symm, hrd, hbel'⟩
      · have hmod : ((len : Int) % 2 != 0) = true := by simp; omega
        go_wp2_with fail
        have hf := read_odd hall.out (by rw [hsz]; exact hodd)
        go_ret2
        exact ⟨none, 0, 0, ret_si hf.1.symm, by rw [hf.2]; exact Reads.nil _ _ _ _ (Nat.zero_le _), Below.refl _ _⟩


end Go.Proofs.Ytkminadmcjbiaaa
