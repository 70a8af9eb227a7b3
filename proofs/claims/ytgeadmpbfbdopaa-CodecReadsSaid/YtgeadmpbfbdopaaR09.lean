/-
  Contracts of the document's own functions of layer 09 (those that the translation has).
-/
import Derived.Test.YtgeadmpbfbdopaaRows
import Derived.Test.YtgeadmpbfbdopaaR01
import Derived.Test.YtgeadmpbfbdopaaR03
import Derived.Test.YtgeadmpbfbdopaaD09
namespace Go.Proofs.Ytgeadmpbfbdopaa
open Go.RowKit
set_option linter.unusedVariables false

theorem ref09_Sign (x : Int) (w : World) (h0 : 0 ≤ x) (h1 : x ≤ 255) :
    Calls Try.prog 29 #[.int .u8 x] w fun e w' => e = .returned (.int .i32 (sg09 x)) ∧ w = w' := by
  go_enter Try.func29, Try.ntmps29
  go_wp2
  all_goals (go_ret; exact ⟨ret_int (by unfold sg09; simp_all), rfl⟩)
set_option maxHeartbeats 1000000 in
set_option maxRecDepth 100000 in
theorem ref09_Put (c : Int) (w : World) :
    Calls Try.prog 48 #[.int .i32 c] w fun e w' => e = .returned (.tuple #[.int .u8 (putI sg09 c), .bool (hasI sg09 c)]) ∧ w = w' := by
  go_enter Try.func48, Try.ntmps48
  go_wp2
  go_loop [4] (fun i => ∃ k : Nat, k ≤ 256 ∧ i = .int .i64 k ∧ Hid (∀ j : Nat, j < k → ¬ (sg09 j = c ∧ c ≠ 65533))) (fun i => 256 - (intOf i).toNat)
  case atStart => exact ⟨0, Nat.zero_le _, rfl, fun j hj => by omega⟩
  case round =>
    obtain ⟨k, hk, rfl, hn⟩ := hrel
    by_cases hlt : k < 256
    · have hk0 : (0 : Int) ≤ k := by omega
      have hk1 : (k : Int) ≤ 255 := by omega
      have hmod : (k : Int) % 256 = k := by omega
      by_cases hs : sg09 k = c
      · by_cases hc : c = 65533
        · have hE := hid hs
          have hC := hid hc
          subst hc
          have hb : (sg09 k == 65533) = true := by simpa using hs
          clear hs
          go_wp2_with (go_at_call 29; (with_reducible refine (ref09_Sign _ _ hk0 hk1).mono ?_); rintro e w' ⟨rfl, rfl⟩)
          go_round
          case rel => exact ⟨k + 1, by omega, by go_num, fun j hj h2 => h2.2 rfl⟩
          case measure => simp [intOf]; omega
        · have H := hid (put_of (put_hit hlt hs hc hn.out))
          have hb : (sg09 k == c) = true := by simpa using hs
          have hcb : (c != 65533) = true := by simpa using hc
          clear hs hc
          go_wp2_with (go_at_call 29; (with_reducible refine (ref09_Sign _ _ hk0 hk1).mono ?_); rintro e w' ⟨rfl, rfl⟩)
          go_ret2
          exact ⟨ret_ib H.out.1.symm H.out.2.symm, rfl⟩
      · have hb : (sg09 k == c) = false := by simpa using hs
        have hs' := hid hs
        clear hs
        go_wp2_with (go_at_call 29; (with_reducible refine (ref09_Sign _ _ hk0 hk1).mono ?_); rintro e w' ⟨rfl, rfl⟩)
        go_round
        case rel =>
          refine ⟨k + 1, by omega, by go_num, fun j hj h2 => ?_⟩
          by_cases hjk : j < k
          · exact hn.out j hjk h2
          · have : j = k := by omega
            subst this
            exact hs'.out h2.1
        case measure => simp [intOf]; omega
    · have H := hid (put_no (put_none (sg := sg09) (c := c) fun j hj => hn.out j (by omega)))
      go_wp2
      go_ret2
      exact ⟨ret_ib H.out.1.symm H.out.2.symm, rfl⟩

end Go.Proofs.Ytgeadmpbfbdopaa
