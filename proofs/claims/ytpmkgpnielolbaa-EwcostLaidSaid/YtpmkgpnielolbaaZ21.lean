/-
  Texts of ours laid together: R10, R12, R13, C13.
-/
import Derived.Test.YtpmkgpnielolbaaRows
import Derived.Test.YtpmkgpnielolbaaZ20

/-! R10 -/
namespace Go.Proofs.Ytpmkgpnielolbaa
open Go.RowKit
set_option linter.unusedVariables false

set_option maxHeartbeats 1000000 in
theorem ref10_Sign (x : Int) (w : World) (h0 : 0 ≤ x) (h1 : x ≤ 255) :
    Calls Try.prog 62 #[.int .u8 x] w fun e w' => e = .returned (.int .i32 (sg10 x)) ∧ Below w.heap.size w w' := by
  by_cases hx : x < 128
  · have hE : Hid (sg10 x = x) := by unfold Hid sg10; rw [if_pos (.inl hx)]
    go_enter Try.func62, Try.ntmps62
    go_wp2
    go_ret
    exact ⟨ret_int hE.out.symm, Below.refl _ _⟩
  · by_cases hx2 : 159 < x
    · have hE : Hid (sg10 x = x) := by unfold Hid sg10; rw [if_pos (.inr hx2)]
      go_enter Try.func62, Try.ntmps62
      go_wp2
      go_ret
      exact ⟨ret_int hE.out.symm, Below.refl _ _⟩
    · obtain ⟨n, hn, rfl⟩ : ∃ n : Nat, n < 32 ∧ x = (n : Int) + 128 := ⟨(x - 128).toNat, by omega, by omega⟩
      have hE : Hid (sg10 ((n : Int) + 128) = tab10.getD n 0) := by unfold Hid sg10; rw [if_neg (by omega), show ((n : Int) + 128 - 128).toNat = n by omega]
      have hs : (n : Int) + 128 - 128 = n := by omega
      have hs2 : (n : Int) % 256 = n := by omega
      go_enter Try.func62, Try.ntmps62
      go_wp2
      go_ret
      refine ⟨?_, (Below.refl _ _).alloc (Nat.le_refl _) _⟩
      rw [hE.out]
      show Ending.returned ((tab10.map (Value.int .i32))[n]'(by simpa [tab10] using hn)) = _
      rw [List.getElem_map, List.getD_eq_getElem?_getD, List.getElem?_eq_getElem (by simpa [tab10] using hn)]
      rfl
set_option maxHeartbeats 1000000 in
set_option maxRecDepth 100000 in
theorem ref10_Put (c : Int) (w : World) :
    Calls Try.prog 43 #[.int .i32 c] w fun e w' => e = .returned (.tuple #[.int .u8 (putI sg10 c), .bool (hasI sg10 c)]) ∧ Below w.heap.size w w' := by
  go_enter Try.func43, Try.ntmps43
  go_wp2
  go_loopw [4] (fun i wr => ∃ k : Nat, k ≤ 256 ∧ i = .int .i64 k ∧ Hid (∀ j : Nat, j < k → ¬ (sg10 j = c ∧ c ≠ 65533)) ∧ Below w.heap.size w wr) (fun i _ => 256 - (intOf i).toNat)
  case atStart => exact ⟨0, Nat.zero_le _, rfl, fun j hj => by omega, Below.refl _ _⟩
  case round =>
    obtain ⟨k, hk, rfl, hn, hB⟩ := hrel
    by_cases hlt : k < 256
    · have hk0 : (0 : Int) ≤ k := by omega
      have hk1 : (k : Int) ≤ 255 := by omega
      have hmod : (k : Int) % 256 = k := by omega
      by_cases hs : sg10 k = c
      · by_cases hc : c = 65533
        · have hE := hid hs
          have hC := hid hc
          subst hc
          have hb : (sg10 k == 65533) = true := by simpa using hs
          clear hs
          go_wp2_with (go_at_call 62; (with_reducible refine (ref10_Sign _ _ hk0 hk1).mono ?_); rintro e w1 ⟨rfl, hb1⟩; have hB1 := below_then' hB hb1 (Nat.le_refl _))
          go_roundw
          case rel => exact ⟨k + 1, by omega, by go_num, fun j hj h2 => h2.2 rfl, hB1⟩
          case measure => simp [intOf]; omega
        · have H := hid (put_of (put_hit hlt hs hc hn.out))
          have hb : (sg10 k == c) = true := by simpa using hs
          have hcb : (c != 65533) = true := by simpa using hc
          clear hs hc
          go_wp2_with (go_at_call 62; (with_reducible refine (ref10_Sign _ _ hk0 hk1).mono ?_); rintro e w1 ⟨rfl, hb1⟩; have hB1 := below_then' hB hb1 (Nat.le_refl _))
          go_ret2
          exact ⟨ret_ib H.out.1.symm H.out.2.symm, hB1⟩
      · have hb : (sg10 k == c) = false := by simpa using hs
        have hs' := hid hs
        clear hs
        go_wp2_with (go_at_call 62; (with_reducible refine (ref10_Sign _ _ hk0 hk1).mono ?_); rintro e w1 ⟨rfl, hb1⟩; have hB1 := below_then' hB hb1 (Nat.le_refl _))
        go_roundw
        case rel =>
          refine ⟨k + 1, by omega, by go_num, fun j hj h2 => ?_, hB1⟩
          by_cases hjk : j < k
          · exact hn.out j hjk h2
          · have : j = k := by omega
            subst this
            exact hs'.out h2.1
        case measure => simp [intOf]; omega
    · have H := hid (put_no (put_none (sg := sg10) (c := c) fun j hj => hn.out j (by omega)))
      go_wp2
      go_ret2
      exact ⟨ret_ib H.out.1.symm H.out.2.symm, hB⟩

end Go.Proofs.Ytpmkgpnielolbaa

/-! R12 -/
namespace Go.Proofs.Ytpmkgpnielolbaa
open Go.RowKit
set_option linter.unusedVariables false

set_option maxHeartbeats 1000000 in
theorem ref12_Has (n c : Int) (w : World) :
    Calls Try.prog 40 #[.int .i64 n, .int .i32 c] w fun e w' => e = .returned (.bool (hasR n c)) ∧ Below w.heap.size w w' := by
  by_cases h1 : n = 1
  · subst h1
    have e : Hid (hasR 1 c = decide (0 ≤ c ∧ c < 128)) := by unfold Hid hasR; rw [if_pos rfl]
    by_cases c0 : 0 ≤ c
    · by_cases c1 : c < 128
      · go_enter Try.func40, Try.ntmps40
        go_wp2
        go_ret
        exact ⟨ret_bool (by rw [e.out]; simp [c0, c1]), Below.refl _ _⟩
      · go_enter Try.func40, Try.ntmps40
        go_wp2
        go_ret
        exact ⟨ret_bool (by rw [e.out]; exact (decide_eq_false (by omega)).symm), Below.refl _ _⟩
    · go_enter Try.func40, Try.ntmps40
      go_wp2
      go_ret
      exact ⟨ret_bool (by rw [e.out]; exact (decide_eq_false (by omega)).symm), Below.refl _ _⟩
  by_cases h2 : n = 2
  · subst h2
    have e : Hid (hasR 2 c = hasI sg08 c) := rfl
    go_enter Try.func40, Try.ntmps40
    go_wp2_with (go_at_call 41; (with_reducible refine (ref08_Put _ _).mono ?_); rintro e w' ⟨rfl, rfl⟩)
    go_ret
    exact ⟨ret_bool e.out.symm, Below.refl _ _⟩
  by_cases h3 : n = 3
  · subst h3
    have e : Hid (hasR 3 c = hasI sg09 c) := rfl
    go_enter Try.func40, Try.ntmps40
    go_wp2_with (go_at_call 42; (with_reducible refine (ref09_Put _ _).mono ?_); rintro e w' ⟨rfl, rfl⟩)
    go_ret
    exact ⟨ret_bool e.out.symm, Below.refl _ _⟩
  by_cases h4 : n = 4
  · subst h4
    have e : Hid (hasR 4 c = hasI sg10 c) := rfl
    go_enter Try.func40, Try.ntmps40
    go_wp2_with (go_at_call 43; (with_reducible refine (ref10_Put _ _).mono ?_); rintro e w1 ⟨rfl, hb1⟩)
    go_ret
    exact ⟨ret_bool e.out.symm, hb1⟩
  by_cases h5 : n = 5
  · subst h5
    have e : Hid (hasR 5 c = scB c) := rfl
    go_enter Try.func40, Try.ntmps40
    go_wp2_with (go_at_call 59; (with_reducible refine (ref03_Is _ _).mono ?_); rintro e w' ⟨rfl, rfl⟩)
    go_ret
    exact ⟨ret_bool e.out.symm, Below.refl _ _⟩
  have e := hid (hasR_none (n := n) (by omega) c)
  have b1 : (n == 1) = false := by simpa using h1
  have b2 : (n == 2) = false := by simpa using h2
  have b3 : (n == 3) = false := by simpa using h3
  have b4 : (n == 4) = false := by simpa using h4
  have b5 : (n == 5) = false := by simpa using h5
  clear h1 h2 h3 h4 h5
  go_enter Try.func40, Try.ntmps40
  go_wp2
  go_ret
  exact ⟨ret_bool e.out.symm, Below.refl _ _⟩
end Go.Proofs.Ytpmkgpnielolbaa

/-! R13 -/
namespace Go.Proofs.Ytpmkgpnielolbaa
open Go.RowKit
set_option linter.unusedVariables false

set_option maxHeartbeats 2000000 in
theorem ref13_octets (n c : Int) (w : World) (h0 : -2147483648 ≤ c) (h1 : c ≤ 2147483647) :
    Calls Try.prog 29 #[.int .i64 n, .int .i32 c] w fun e w' => ∃ a' len' cap', e = .returned (.slice a' len' cap') ∧ Reads .u8 w' a' len' cap' (octR n c) ∧ Below w.heap.size w w' := by
  cases hs : hasR n c
  · have e := hid (octR_no hs)
    go_enter Try.func29, Try.ntmps29
    go_wp2_with (go_at_call 40; (with_reducible refine (ref12_Has _ _ _).mono ?_); rintro e w1 ⟨rfl, hb1⟩)
    go_ret
    exact ⟨none, 0, 0, rfl, by rw [e.out]; exact Reads.nil _ _ _ _ (Nat.zero_le _), hb1⟩
  · by_cases n1 : n = 1
    · subst n1
      have e : Hid (octR 1 c = [c]) := by unfold Hid octR; rw [hs, if_pos rfl, if_pos rfl]
      have hw := octR_wf 1 c
      rw [e.out] at hw
      have hc : 0 ≤ c ∧ c < 128 := by unfold hasR at hs; rw [if_pos rfl] at hs; exact of_decide_eq_true hs
      have hmod : c % 256 = c := by omega
      go_enter Try.func29, Try.ntmps29
      go_wp2_with (go_at_call 40; (with_reducible refine (ref12_Has _ _ _).mono ?_); rintro e w1 ⟨rfl, hb1⟩)
      go_ret
      exact ⟨_, 1, 1, rfl, by rw [e.out]; exact Reads.lit .u8 5 w1 [c] (show (1 : Nat) ≤ maxLen by decide) hw, hb1.alloc hb1.size _⟩
    by_cases n2 : n = 2
    · subst n2
      have e : Hid (octR 2 c = [putI sg08 c]) := by unfold Hid octR; rw [hs, if_pos rfl, if_neg (by omega), if_pos rfl]
      have hw := hid (octR_wf 2 c)
      rw [e.out] at hw
      go_enter Try.func29, Try.ntmps29
      go_wp2_with (first
        | (go_at_call 40; (with_reducible refine (ref12_Has _ _ _).mono ?_); rintro e w1 ⟨rfl, hb1⟩)
        | (go_at_call 41; (with_reducible refine (ref08_Put _ _).mono ?_); rintro e w' ⟨rfl, rfl⟩))
      go_ret
      exact ⟨_, 1, 1, rfl, by rw [e.out]; exact Reads.lit .u8 5 w1 [putI sg08 c] (show (1 : Nat) ≤ maxLen by decide) hw.out, hb1.alloc hb1.size _⟩
    by_cases n3 : n = 3
    · subst n3
      have e : Hid (octR 3 c = [putI sg09 c]) := by unfold Hid octR; rw [hs, if_pos rfl, if_neg (by omega), if_neg (by omega), if_pos rfl]
      have hw := hid (octR_wf 3 c)
      rw [e.out] at hw
      go_enter Try.func29, Try.ntmps29
      go_wp2_with (first
        | (go_at_call 40; (with_reducible refine (ref12_Has _ _ _).mono ?_); rintro e w1 ⟨rfl, hb1⟩)
        | (go_at_call 42; (with_reducible refine (ref09_Put _ _).mono ?_); rintro e w' ⟨rfl, rfl⟩))
      go_ret
      exact ⟨_, 1, 1, rfl, by rw [e.out]; exact Reads.lit .u8 5 w1 [putI sg09 c] (show (1 : Nat) ≤ maxLen by decide) hw.out, hb1.alloc hb1.size _⟩
    by_cases n4 : n = 4
    · subst n4
      have e : Hid (octR 4 c = [putI sg10 c]) := by unfold Hid octR; rw [hs, if_pos rfl, if_neg (by omega), if_neg (by omega), if_neg (by omega), if_pos rfl]
      have hw := hid (octR_wf 4 c)
      rw [e.out] at hw
      go_enter Try.func29, Try.ntmps29
      go_wp2_with (first
        | (go_at_call 40; (with_reducible refine (ref12_Has _ _ _).mono ?_); rintro e w1 ⟨rfl, hb1⟩)
        | (go_at_call 43; (with_reducible refine (ref10_Put _ _).mono ?_); rintro e w2 ⟨rfl, hb2⟩; have hb2' := below_then hb1 hb2))
      go_ret
      exact ⟨_, 1, 1, rfl, by rw [e.out]; exact Reads.lit .u8 5 w2 [putI sg10 c] (show (1 : Nat) ≤ maxLen by decide) hw.out, hb2'.alloc hb2'.size _⟩
    have e : Hid (octR n c = octs c) := by unfold Hid octR; rw [hs, if_pos rfl, if_neg n1, if_neg n2, if_neg n3, if_neg n4]
    have b1 : (n == 1) = false := by simpa using n1
    have b2 : (n == 2) = false := by simpa using n2
    have b3 : (n == 3) = false := by simpa using n3
    have b4 : (n == 4) = false := by simpa using n4
    clear n1 n2 n3 n4
    go_enter Try.func29, Try.ntmps29
    go_wp2_with (first
      | (go_at_call 40; (with_reducible refine (ref12_Has _ _ _).mono ?_); rintro e w1 ⟨rfl, hb1⟩)
      | (go_at_call 44; (with_reducible refine (ref04_Octets _ _ h0 h1).mono ?_); rintro e w2 ⟨a2, c2, rfl, hr2, hb2⟩; have hb2' := below_then hb1 hb2))
    go_ret
    exact ⟨_, _, _, rfl, by rw [e.out]; exact hr2, hb2'⟩
set_option maxHeartbeats 2000000 in
theorem ref13_Lay (n : Int) (a : Option Addr) (len cap : Nat) (xs : List Int) (w : World) (hr : Reads .i32 w a len cap xs) (hN : len < 100000000) :
    Calls Try.prog 19 #[.int .i64 n, .slice a len cap] w fun e w' => ∃ a' len' cap', e = .returned (.tuple #[.slice a' len' cap', .int .i64 (layE n xs)]) ∧ Reads .u8 w' a' len' cap' (layL n xs) ∧ Below w.heap.size w w' := by
  have HR := hid hr
  have hsz := hr.size
  clear hr
  by_cases hn1 : n < 1
  · have e := hid (lay_out (n := n) (xs := xs) (by omega))
    go_enter Try.func19, Try.ntmps19
    go_wp2
    go_ret2
    exact ⟨none, 0, 0, ret_si e.out.2.symm, by rw [e.out.1]; exact Reads.nil _ _ _ _ (Nat.zero_le _), Below.refl _ _⟩
  by_cases hn5 : 5 < n
  · have e := hid (lay_out (n := n) (xs := xs) (by omega))
    go_enter Try.func19, Try.ntmps19
    go_wp2
    go_ret2
    exact ⟨none, 0, 0, ret_si e.out.2.symm, by rw [e.out.1]; exact Reads.nil _ _ _ _ (Nat.zero_le _), Below.refl _ _⟩
  have hin : 1 ≤ n ∧ n ≤ 5 := by omega
  go_enter Try.func19, Try.ntmps19
  go_wp2
  go_loopw [6, 7] (fun v i wr => ∃ k : Nat, k ≤ len ∧ i = .int .i64 k ∧ Hid ((xs.take k).all (hasR n) = true) ∧ Own .u8 5 w.heap.size wr v (octsR n (xs.take k)) ∧ Below w.heap.size w wr) (fun _ i _ => len - (intOf i).toNat)
  case atStart => exact ⟨0, Nat.zero_le _, rfl, rfl, Own.nil _ _ _ _, Below.refl _ _⟩
  case round =>
    obtain ⟨k, hk, rfl, hn, hown', hbel'⟩ := hrel
    by_cases hlt : k < len
    · obtain ⟨b, off, x, rfl, _, hc, h0, h1, hx⟩ := (HR.out.below hbel').getR hlt
      have hb1 := octsR_take n xs k
      have hb2 := octR_len n x
      rw [hsz] at hb1
      cases hs : hasR n x
      · have e := hid (lay_no hin (all_no hx.out.1 hs))
        have e0 := hid (octR_no hs)
        go_wp2_with (go_at_call 29; (with_reducible refine (ref13_octets _ _ _ h0 h1).mono ?_); rintro e w2 ⟨a2, l2, c2, rfl, hr2, hbl2⟩; have hbel2 := below_then hbel' hbl2; have hl2 : l2 = 0 := by have := hr2.size; rw [e0.out] at this; simpa using this.symm)
        go_ret2
        exact ⟨none, 0, 0, ret_si e.out.2.symm, by rw [e.out.1]; exact Reads.nil _ _ _ _ (Nat.zero_le _), hbel2⟩
      · have e0 := hid (octR_pos hs)
        have H := hid hs
        go_wp2_with (first
          | (go_at_call 29; (with_reducible refine (ref13_octets _ _ _ h0 h1).mono ?_); rintro e w2 ⟨a2, l2, c2, rfl, hr2, hbl2⟩; have ho2 := hown'.below hbl2; have hbel2 := below_then hbel' hbl2; have hs2 := hr2.size; have hl2 : ¬ l2 = 0 := by have := e0.out; omega)
          | (at_builtin; go_must (refine wpList_more ST8 rfl _ _ rfl rfl rfl ho2 hbel2 hr2 (by omega) ?_); intro v3 w3 ho3 hb3))
        rw [← octsR_snoc hx.out.2] at ho3
        clear hown' hbel'
        go_wp2_with fail
        go_roundw
        case rel => exact ⟨k + 1, by omega, by go_num, all_yes hx.out.2 hn.out H.out, ho3, hb3⟩
        case measure => simp [intOf]; omega
    · have hn' := hn.out
      rw [HR.out.all (show len ≤ k by omega)] at hn' hown'
      have e := hid (lay_in hin hn')
      clear hn'
      go_wp2_with fail
      obtain ⟨a', len', cap', rfl, hrd⟩ := hown'.back
      go_ret2
      exact ⟨a', len', cap', ret_si e.out.2.symm, by rw [e.out.1]; exact hrd, hbel'⟩
end Go.Proofs.Ytpmkgpnielolbaa

/-! C13 -/
namespace Go.Proofs.Ytpmkgpnielolbaa
open Go.RowKit
set_option linter.unusedVariables false

theorem codec_isCharset (n : Int) (w : World) :
    Calls Try.prog 36 #[.int .i64 n] w fun e w' => e = .returned (.bool (decide (1 ≤ n ∧ n ≤ 5))) ∧ Below w.heap.size w w' := by
  have e : Hid (allR n [] = decide (1 ≤ n ∧ n ≤ 5)) := by unfold Hid allR; simp
  go_enter Try.func36, Try.ntmps36
  go_wp2_with (go_at_call 37; (with_reducible refine (reper_All n none 0 0 [] _ (Reads.nil _ _ _ _ (Nat.zero_le _))).mono ?_); rintro e w1 ⟨rfl, hb1⟩)
  go_ret
  exact ⟨ret_bool e.out, hb1⟩
set_option maxHeartbeats 1000000 in
theorem codec_octets (n : Int) (a : Option Addr) (len cap : Nat) (xs : List Int) (w : World) (hr : Reads .i32 w a len cap xs) (hN : len < 100000000) (hn : 1 ≤ n ∧ n ≤ 5) (h : xs.all (hasR n) = true) :
    Calls Try.prog 38 #[.int .i64 n, .slice a len cap] w fun e w' => ∃ a' len' cap', e = .returned (.slice a' len' cap') ∧ Reads .u8 w' a' len' cap' (octsR n xs) ∧ Below w.heap.size w w' := by
  have HR := hid hr
  clear hr
  by_cases h1 : n = 1
  · subst h1
    have e := hid (cs_1 h)
    clear h
    go_enter Try.func38, Try.ntmps38
    go_wp2_with (go_at_call 55; (with_reducible refine (latin_Lay _ _ _ _ _ HR.out (by omega)).mono ?_); rintro e w1 ⟨a1, l1, c1, rfl, hr1, hb1⟩)
    go_ret
    exact ⟨_, _, _, rfl, by rw [← e.out.2]; exact hr1, hb1⟩
  by_cases h2 : n = 2
  · subst h2
    have e := hid (cs_2 h)
    clear h
    go_enter Try.func38, Try.ntmps38
    go_wp2_with (go_at_call 55; (with_reducible refine (latin_Lay _ _ _ _ _ HR.out (by omega)).mono ?_); rintro e w1 ⟨a1, l1, c1, rfl, hr1, hb1⟩)
    go_ret
    exact ⟨_, _, _, rfl, by rw [← e.out.2]; exact hr1, hb1⟩
  by_cases h3 : n = 3
  · subst h3
    have e := hid (cs_3 h)
    clear h
    go_enter Try.func38, Try.ntmps38
    go_wp2_with (go_at_call 56; (with_reducible refine (latnine_Lay _ _ _ _ _ HR.out (by omega)).mono ?_); rintro e w1 ⟨a1, l1, c1, rfl, hr1, hb1⟩)
    go_ret
    exact ⟨_, _, _, rfl, by rw [← e.out.2]; exact hr1, hb1⟩
  by_cases h4 : n = 4
  · subst h4
    have e := hid (cs_4 h)
    clear h
    go_enter Try.func38, Try.ntmps38
    go_wp2_with (go_at_call 57; (with_reducible refine (winone_Lay _ _ _ _ _ HR.out (by omega)).mono ?_); rintro e w1 ⟨a1, l1, c1, rfl, hr1, hb1⟩)
    go_ret
    exact ⟨_, _, _, rfl, by rw [← e.out.2]; exact hr1, hb1⟩
  obtain rfl : n = 5 := by omega
  have hs : xs.all scB = true := h
  have e := hid (octsR_5 hs)
  have HS := hid hs
  clear h hs
  go_enter Try.func38, Try.ntmps38
  go_wp2_with (go_at_call 58; (with_reducible refine (utfall_Lay _ _ _ _ _ HR.out hN HS.out).mono ?_); rintro e w1 ⟨a1, c1, rfl, hr1, hb1⟩)
  go_ret
  exact ⟨_, _, _, rfl, by rw [e.out]; exact hr1, hb1⟩
set_option maxHeartbeats 1000000 in
theorem codec_Lay (n : Int) (a : Option Addr) (len cap : Nat) (xs : List Int) (w : World) (hr : Reads .i32 w a len cap xs) (hN : len < 100000000) :
    Calls Try.prog 27 #[.int .i64 n, .slice a len cap] w fun e w' => ∃ a' len' cap', e = .returned (.tuple #[.slice a' len' cap', .int .i64 (layE n xs)]) ∧ Reads .u8 w' a' len' cap' (layL n xs) ∧ Below w.heap.size w w' := by
  have HR := hid hr
  clear hr
  have hq := codec_isCharset n w
  by_cases hn : 1 ≤ n ∧ n ≤ 5
  · rw [decide_eq_true hn] at hq
    have Hn := hid hn
    cases ha : xs.all (hasR n)
    · have e := hid (lay_no hn ha)
      have eA : Hid (allR n xs = false) := by unfold Hid allR; rw [ha, Bool.and_false]
      clear hn ha
      go_enter Try.func27, Try.ntmps27
      go_wp2_with (first
        | (go_at_call 36; (with_reducible refine hq.mono ?_); rintro e w1 ⟨rfl, hb1⟩; have hr1 := HR.out.below hb1)
        | (go_at_call 37; (with_reducible refine (reper_All _ _ _ _ _ _ hr1).mono ?_); rintro e w2 ⟨rfl, hb2⟩; have hb2' := below_then hb1 hb2; rw [eA.out]))
      go_ret2
      exact ⟨none, 0, 0, ret_si e.out.2.symm, by rw [e.out.1]; exact Reads.nil _ _ _ _ (Nat.zero_le _), hb2'⟩
    · have e := hid (lay_in hn ha)
      have eA : Hid (allR n xs = true) := by unfold Hid allR; rw [ha, decide_eq_true hn]; rfl
      have Ha := hid ha
      clear hn ha
      go_enter Try.func27, Try.ntmps27
      go_wp2_with (first
        | (go_at_call 36; (with_reducible refine hq.mono ?_); rintro e w1 ⟨rfl, hb1⟩; have hr1 := HR.out.below hb1)
        | (go_at_call 37; (with_reducible refine (reper_All _ _ _ _ _ _ hr1).mono ?_); rintro e w2 ⟨rfl, hb2⟩; have hb2' := below_then hb1 hb2; rw [eA.out]; have hr2 := hr1.below hb2)
        | (go_at_call 38; (with_reducible refine (codec_octets _ _ _ _ _ _ hr2 hN Hn.out Ha.out).mono ?_); rintro e w3 ⟨a3, l3, c3, rfl, hr3, hb3⟩; have hb3' := below_then hb2' hb3))
      go_ret2
      exact ⟨_, _, _, ret_si e.out.2.symm, by rw [e.out.1]; exact hr3, hb3'⟩
  · rw [decide_eq_false hn] at hq
    have e := hid (lay_out (xs := xs) hn)
    clear hn
    go_enter Try.func27, Try.ntmps27
    go_wp2_with (go_at_call 36; (with_reducible refine hq.mono ?_); rintro e w1 ⟨rfl, hb1⟩)
    go_ret2
    exact ⟨none, 0, 0, ret_si e.out.2.symm, by rw [e.out.1]; exact Reads.nil _ _ _ _ (Nat.zero_le _), hb1⟩
end Go.Proofs.Ytpmkgpnielolbaa
