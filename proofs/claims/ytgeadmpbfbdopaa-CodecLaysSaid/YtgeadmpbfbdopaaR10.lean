/-
  Contracts of the document's own functions of layer 10 (those that the translation has).
-/
import Derived.Test.YtgeadmpbfbdopaaRows
import Derived.Test.YtgeadmpbfbdopaaR01
import Derived.Test.YtgeadmpbfbdopaaR03
import Derived.Test.YtgeadmpbfbdopaaD10
namespace Go.Proofs.Ytgeadmpbfbdopaa
open Go.RowKit
set_option linter.unusedVariables false

set_option maxHeartbeats 1000000 in
theorem ref10_Sign (x : Int) (w : World) (h0 : 0 ≤ x) (h1 : x ≤ 255) :
    Calls Try.prog 30 #[.int .u8 x] w fun e w' => e = .returned (.int .i32 (sg10 x)) ∧ Below w.heap.size w w' := by
  by_cases hx : x < 128
  · have hE : Hid (sg10 x = x) := by unfold Hid sg10; rw [if_pos (.inl hx)]
    go_enter Try.func30, Try.ntmps30
    go_wp2
    go_ret
    exact ⟨ret_int hE.out.symm, Below.refl _ _⟩
  · by_cases hx2 : 159 < x
    · have hE : Hid (sg10 x = x) := by unfold Hid sg10; rw [if_pos (.inr hx2)]
      go_enter Try.func30, Try.ntmps30
      go_wp2
      go_ret
      exact ⟨ret_int hE.out.symm, Below.refl _ _⟩
    · obtain ⟨n, hn, rfl⟩ : ∃ n : Nat, n < 32 ∧ x = (n : Int) + 128 := ⟨(x - 128).toNat, by omega, by omega⟩
      have hE : Hid (sg10 ((n : Int) + 128) = tab10.getD n 0) := by unfold Hid sg10; rw [if_neg (by omega), show ((n : Int) + 128 - 128).toNat = n by omega]
      have hs : (n : Int) + 128 - 128 = n := by omega
      have hs2 : (n : Int) % 256 = n := by omega
      go_enter Try.func30, Try.ntmps30
      go_wp2
      go_ret
      refine ⟨?_, (Below.refl _ _).alloc (Nat.le_refl _) _⟩
      rw [hE.out]
      show Ending.returned ((tab10.map (Value.int .i32))[n]'(by simpa [tab10] using hn)) = _
      rw [List.getElem_map, List.getD_eq_getElem?_getD, List.getElem?_eq_getElem (by simpa [tab10] using hn)]
      rfl
set_option maxHeartbeats 1000000 in
set_option maxRecDepth 100000 in
theorem ref10_Put (c : Int) (w : World) :
    Calls Try.prog 49 #[.int .i32 c] w fun e w' => e = .returned (.tuple #[.int .u8 (putI sg10 c), .bool (hasI sg10 c)]) ∧ Below w.heap.size w w' := by
  go_enter Try.func49, Try.ntmps49
  go_wp2
  go_loopw [4] (fun i wr => ∃ k : Nat, k ≤ 256 ∧ i = .int .i64 k ∧ Hid (∀ j : Nat, j < k → ¬ (sg10 j = c ∧ c ≠ 65533)) ∧ Below w.heap.size w wr) (fun i _ => 256 - (intOf i).toNat)
  case atStart => exact ⟨0, Nat.zero_le _, rfl, fun j hj => by omega, Below.refl _ _⟩
  case round =>
    obtain ⟨k, hk, rfl, hn, hB⟩ := hrel
    by_cases hlt : k < 256
    · have hk0 : (0 : Int) ≤ k := by omega
      have hk1 : (k : Int) ≤ 255 := by omega
      have hmod : (k : Int) % 256 = k := by omega
      by_cases hs : sg10 k = c
      · by_cases hc : c = 65533
        · have hE := hid hs
          have hC := hid hc
          subst hc
          have hb : (sg10 k == 65533) = true := by simpa using hs
          clear hs
          go_wp2_with (go_at_call 30; (with_reducible refine (ref10_Sign _ _ hk0 hk1).mono ?_); rintro e w1 ⟨rfl, hb1⟩; have hB1 := below_then' hB hb1 (Nat.le_refl _))
          go_roundw
          case rel => exact ⟨k + 1, by omega, by go_num, fun j hj h2 => h2.2 rfl, hB1⟩
          case measure => simp [intOf]; omega
        · have H := hid (put_of (put_hit hlt hs hc hn.out))
          have hb : (sg10 k == c) = true := by simpa using hs
          have hcb : (c != 65533) = true := by simpa using hc
          clear hs hc
          go_wp2_with (go_at_call 30; (with_reducible refine (ref10_Sign _ _ hk0 hk1).mono ?_); rintro e w1 ⟨rfl, hb1⟩; have hB1 := below_then' hB hb1 (Nat.le_refl _))
          go_ret2
          exact ⟨ret_ib H.out.1.symm H.out.2.symm, hB1⟩
      · have hb : (sg10 k == c) = false := by simpa using hs
        have hs' := hid hs
        clear hs
        go_wp2_with (go_at_call 30; (with_reducible refine (ref10_Sign _ _ hk0 hk1).mono ?_); rintro e w1 ⟨rfl, hb1⟩; have hB1 := below_then' hB hb1 (Nat.le_refl _))
        go_roundw
        case rel =>
          refine ⟨k + 1, by omega, by go_num, fun j hj h2 => ?_, hB1⟩
          by_cases hjk : j < k
          · exact hn.out j hjk h2
          · have : j = k := by omega
            subst this
            exact hs'.out h2.1
        case measure => simp [intOf]; omega
    · have H := hid (put_no (put_none (sg := sg10) (c := c) fun j hj => hn.out j (by omega)))
      go_wp2
      go_ret2
      exact ⟨ret_ib H.out.1.symm H.out.2.symm, hB⟩

end Go.Proofs.Ytgeadmpbfbdopaa
