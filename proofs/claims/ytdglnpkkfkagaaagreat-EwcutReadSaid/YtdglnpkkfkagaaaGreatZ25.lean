/-
  Texts of ours laid together: R13, C13.
-/
import Derived.Test.YtdglnpkkfkagaaaGreatRows
import Derived.Test.YtdglnpkkfkagaaaGreatZ24

/-! R13 -/
namespace Go.Proofs.YtdglnpkkfkagaaaGreat
open Go.RowKit
set_option linter.unusedVariables false

set_option maxHeartbeats 2000000 in
theorem ref13_octets (n c : Int) (w : World) (h0 : -2147483648 ≤ c) (h1 : c ≤ 2147483647) :
    Calls Tryz.prog 53 #[.int .i64 n, .int .i32 c] w fun e w' => ∃ a' len' cap', e = .returned (.slice a' len' cap') ∧ Reads .u8 w' a' len' cap' (octR n c) ∧ Below w.heap.size w w' := by
  cases hs : hasR n c
  · have e := hid (octR_no hs)
    go_enter Tryz.func53, Tryz.ntmps53
    go_wp2_with (go_at_call 86; (with_reducible refine (ref12_Has _ _ _).mono ?_); rintro e w1 ⟨rfl, hb1⟩)
    go_ret
    exact ⟨none, 0, 0, rfl, by rw [e.out]; exact Reads.nil _ _ _ _ (Nat.zero_le _), hb1⟩
  · by_cases n1 : n = 1
    · subst n1
      have e : Hid (octR 1 c = [c]) := by unfold Hid octR; rw [hs, if_pos rfl, if_pos rfl]
      have hw := octR_wf 1 c
      rw [e.out] at hw
      have hc : 0 ≤ c ∧ c < 128 := by unfold hasR at hs; rw [if_pos rfl] at hs; exact of_decide_eq_true hs
      have hmod : c % 256 = c := by omega
      go_enter Tryz.func53, Tryz.ntmps53
      go_wp2_with (go_at_call 86; (with_reducible refine (ref12_Has _ _ _).mono ?_); rintro e w1 ⟨rfl, hb1⟩)
      go_ret
      exact ⟨_, 1, 1, rfl, by rw [e.out]; exact Reads.lit .u8 5 w1 [c] (show (1 : Nat) ≤ maxLen by decide) hw, hb1.alloc hb1.size _⟩
    by_cases n2 : n = 2
    · subst n2
      have e : Hid (octR 2 c = [putI sg08 c]) := by unfold Hid octR; rw [hs, if_pos rfl, if_neg (by omega), if_pos rfl]
      have hw := hid (octR_wf 2 c)
      rw [e.out] at hw
      go_enter Tryz.func53, Tryz.ntmps53
      go_wp2_with (first
        | (go_at_call 86; (with_reducible refine (ref12_Has _ _ _).mono ?_); rintro e w1 ⟨rfl, hb1⟩)
        | (go_at_call 87; (with_reducible refine (ref08_Put _ _).mono ?_); rintro e w' ⟨rfl, rfl⟩))
      go_ret
      exact ⟨_, 1, 1, rfl, by rw [e.out]; exact Reads.lit .u8 5 w1 [putI sg08 c] (show (1 : Nat) ≤ maxLen by decide) hw.out, hb1.alloc hb1.size _⟩
    by_cases n3 : n = 3
    · subst n3
      have e : Hid (octR 3 c = [putI sg09 c]) := by unfold Hid octR; rw [hs, if_pos rfl, if_neg (by omega), if_neg (by omega), if_pos rfl]
      have hw := hid (octR_wf 3 c)
      rw [e.out] at hw
      go_enter Tryz.func53, Tryz.ntmps53
      go_wp2_with (first
        | (go_at_call 86; (with_reducible refine (ref12_Has _ _ _).mono ?_); rintro e w1 ⟨rfl, hb1⟩)
        | (go_at_call 88; (with_reducible refine (ref09_Put _ _).mono ?_); rintro e w' ⟨rfl, rfl⟩))
      go_ret
      exact ⟨_, 1, 1, rfl, by rw [e.out]; exact Reads.lit .u8 5 w1 [putI sg09 c] (show (1 : Nat) ≤ maxLen by decide) hw.out, hb1.alloc hb1.size _⟩
    by_cases n4 : n = 4
    · subst n4
      have e : Hid (octR 4 c = [putI sg10 c]) := by unfold Hid octR; rw [hs, if_pos rfl, if_neg (by omega), if_neg (by omega), if_neg (by omega), if_pos rfl]
      have hw := hid (octR_wf 4 c)
      rw [e.out] at hw
      go_enter Tryz.func53, Tryz.ntmps53
      go_wp2_with (first
        | (go_at_call 86; (with_reducible refine (ref12_Has _ _ _).mono ?_); rintro e w1 ⟨rfl, hb1⟩)
        | (go_at_call 89; (with_reducible refine (ref10_Put _ _).mono ?_); rintro e w2 ⟨rfl, hb2⟩; have hb2' := below_then hb1 hb2))
      go_ret
      exact ⟨_, 1, 1, rfl, by rw [e.out]; exact Reads.lit .u8 5 w2 [putI sg10 c] (show (1 : Nat) ≤ maxLen by decide) hw.out, hb2'.alloc hb2'.size _⟩
    have e : Hid (octR n c = octs c) := by unfold Hid octR; rw [hs, if_pos rfl, if_neg n1, if_neg n2, if_neg n3, if_neg n4]
    have b1 : (n == 1) = false := by simpa using n1
    have b2 : (n == 2) = false := by simpa using n2
    have b3 : (n == 3) = false := by simpa using n3
    have b4 : (n == 4) = false := by simpa using n4
    clear n1 n2 n3 n4
    go_enter Tryz.func53, Tryz.ntmps53
    go_wp2_with (first
      | (go_at_call 86; (with_reducible refine (ref12_Has _ _ _).mono ?_); rintro e w1 ⟨rfl, hb1⟩)
      | (go_at_call 90; (with_reducible refine (ref04_Octets _ _ h0 h1).mono ?_); rintro e w2 ⟨a2, c2, rfl, hr2, hb2⟩; have hb2' := below_then hb1 hb2))
    go_ret
    exact ⟨_, _, _, rfl, by rw [e.out]; exact hr2, hb2'⟩
set_option maxHeartbeats 2000000 in
theorem ref13_Lay (n : Int) (a : Option Addr) (len cap : Nat) (xs : List Int) (w : World) (hr : Reads .i32 w a len cap xs) (hN : len < 100000000) :
    Calls Tryz.prog 31 #[.int .i64 n, .slice a len cap] w fun e w' => ∃ a' len' cap', e = .returned (.tuple #[.slice a' len' cap', .int .i64 (layE n xs)]) ∧ Reads .u8 w' a' len' cap' (layL n xs) ∧ Below w.heap.size w w' := by
  have HR := hid hr
  have hsz := hr.size
  clear hr
  by_cases hn1 : n < 1
  · have e := hid (lay_out (n := n) (xs := xs) (by omega))
    go_enter Tryz.func31, Tryz.ntmps31
    go_wp2
    go_ret2
    exact ⟨none, 0, 0, ret_si e.out.2.symm, by rw [e.out.1]; exact Reads.nil _ _ _ _ (Nat.zero_le _), Below.refl _ _⟩
  by_cases hn5 : 5 < n
  · have e := hid (lay_out (n := n) (xs := xs) (by omega))
    go_enter Tryz.func31, Tryz.ntmps31
    go_wp2
    go_ret2
    exact ⟨none, 0, 0, ret_si e.out.2.symm, by rw [e.out.1]; exact Reads.nil _ _ _ _ (Nat.zero_le _), Below.refl _ _⟩
  have hin : 1 ≤ n ∧ n ≤ 5 := by omega
  go_enter Tryz.func31, Tryz.ntmps31
  go_wp2
  go_loopw [6, 7] (fun v i wr => ∃ k : Nat, k ≤ len ∧ i = .int .i64 k ∧ Hid ((xs.take k).all (hasR n) = true) ∧ Own .u8 5 w.heap.size wr v (octsR n (xs.take k)) ∧ Below w.heap.size w wr) (fun _ i _ => len - (intOf i).toNat)
  case atStart => exact ⟨0, Nat.zero_le _, rfl, rfl, Own.nil _ _ _ _, Below.refl _ _⟩
  case round =>
    obtain ⟨k, hk, rfl, hn, hown', hbel'⟩ := hrel
    by_cases hlt : k < len
    · obtain ⟨b, off, x, rfl, _, hc, h0, h1, hx⟩ := (HR.out.below hbel').getR hlt
      have hb1 := octsR_take n xs k
      have hb2 := octR_len n x
      rw [hsz] at hb1
      cases hs : hasR n x
      · have e := hid (lay_no hin (all_no hx.out.1 hs))
        have e0 := hid (octR_no hs)
        go_wp2_with (go_at_call 53; (with_reducible refine (ref13_octets _ _ _ h0 h1).mono ?_); rintro e w2 ⟨a2, l2, c2, rfl, hr2, hbl2⟩; have hbel2 := below_then hbel' hbl2; have hl2 : l2 = 0 := by have := hr2.size; rw [e0.out] at this; simpa using this.symm)
        go_ret2
        exact ⟨none, 0, 0, ret_si e.out.2.symm, by rw [e.out.1]; exact Reads.nil _ _ _ _ (Nat.zero_le _), hbel2⟩
      · have e0 := hid (octR_pos hs)
        have H := hid hs
        go_wp2_with (first
          | (go_at_call 53; (with_reducible refine (ref13_octets _ _ _ h0 h1).mono ?_); rintro e w2 ⟨a2, l2, c2, rfl, hr2, hbl2⟩; have ho2 := hown'.below hbl2; have hbel2 := below_then hbel' hbl2; have hs2 := hr2.size; have hl2 : ¬ l2 = 0 := by have := e0.out; omega)
          | (at_builtin; go_must (refine wpList_more ST8 rfl _ _ rfl rfl rfl ho2 hbel2 hr2 (by omega) ?_); intro v3 w3 ho3 hb3))
        rw [← octsR_snoc hx.out.2] at ho3
        clear hown' hbel'
        go_wp2_with fail
        go_roundw
        case rel => exact ⟨k + 1, by omega, by go_num, all_yes hx.out.2 hn.out H.out, ho3, hb3⟩
        case measure => simp [intOf]; omega
    · have hn' := hn.out
      rw [HR.out.all (show len ≤ k by omega)] at hn' hown'
      have e := hid (lay_in hin hn')
      clear hn'
      go_wp2_with fail
      obtain ⟨a', len', cap', rfl, hrd⟩ := hown'.back
      go_ret2
      exact ⟨a', len', cap', ret_si e.out.2.symm, by rw [e.out.1]; exact hrd, hbel'⟩
set_option maxHeartbeats 4000000 in
theorem ref13_ReadO (n : Int) (a : Option Addr) (len cap : Nat) (xs : List Int) (w : World) (hr : Reads .u8 w a len cap xs) (hN : len < 100000000) :
    Calls Tryz.prog 37 #[.int .i64 n, .slice a len cap] w fun e w' => ∃ a' len' cap', e = .returned (.slice a' len' cap') ∧ Own .i32 21 w.heap.size w' (.slice a' len' cap') (readR n xs) ∧ Below w.heap.size w w' := by
  have HR := hid hr
  have hsz := hr.size
  clear hr
  by_cases h5 : n = 5
  · subst h5
    go_enter Tryz.func37, Tryz.ntmps37
    go_wp2_with (go_at_call 63; (with_reducible refine (ref05_ReadO _ _ _ _ _ HR.out hN).mono ?_); rintro e w1 ⟨a1, c1, rfl, hr1, hb1⟩)
    go_ret
    exact ⟨_, _, _, rfl, by unfold readR; rw [if_pos rfl]; exact hr1, hb1⟩
  have hE : Hid (readR n xs = xs.map (rdR n)) := by unfold Hid readR; rw [if_neg h5]
  have b5 : (n == 5) = false := by simpa using h5
  clear h5
  go_enter Tryz.func37, Tryz.ntmps37
  go_wp2
  go_loopw [8, 9] (fun v i wr => ∃ k : Nat, k ≤ len ∧ i = .int .i64 k ∧ Own .i32 21 w.heap.size wr v ((xs.take k).map (rdR n)) ∧ Below w.heap.size w wr) (fun _ i _ => len - (intOf i).toNat)
  case atStart => exact ⟨0, Nat.zero_le _, rfl, Own.nil _ _ _ _, Below.refl _ _⟩
  case round =>
    obtain ⟨k, hk, rfl, hown', hbel'⟩ := hrel
    by_cases hlt : k < len
    · obtain ⟨b, off, x, rfl, _, hc, h0, h1, hx⟩ := (HR.out.below hbel').get8 hlt
      have e1 : Hid ((xs.take k).map (rdR n) ++ [rdR n x] = (xs.take (k + 1)).map (rdR n)) := by rw [Hid, hx.out.2]; simp
      have hwf := rdR_wf n x h0 h1
      by_cases n1 : n = 1 ∧ 127 < x
      · have e : rdR n x = 65533 := by unfold rdR; rw [if_pos n1]
        rw [e] at e1 hwf
        obtain ⟨rfl, hx1⟩ := n1
        go_wp2_with (at_builtin; go_must (refine wpList_push STR rfl _ _ rfl rfl ⟨_, rfl⟩ hown' hbel' (by simp; omega) hwf ?_); intro v' w' ho2 hb3)
        rw [e1.out] at ho2
        clear hown' hbel'
        go_wp2
        go_roundw
        case rel => exact ⟨k + 1, by omega, by go_num, ho2, hb3⟩
        case measure => simp [intOf]; omega
      by_cases n3 : n = 3
      · subst n3
        have e : rdR 3 x = sg09 x := by unfold rdR; rw [if_neg n1, if_pos rfl]
        rw [e] at e1 hwf
        go_wp2_with (first
          | (go_at_call 64; (with_reducible refine (ref09_Sign _ _ h0 h1).mono ?_); rintro e w' ⟨rfl, rfl⟩)
          | (at_builtin; go_must (refine wpList_push STR rfl _ _ rfl rfl ⟨_, rfl⟩ hown' hbel' (by simp; omega) hwf ?_); intro v' w' ho2 hb3))
        rw [e1.out] at ho2
        clear hown' hbel'
        go_wp2
        go_roundw
        case rel => exact ⟨k + 1, by omega, by go_num, ho2, hb3⟩
        case measure => simp [intOf]; omega
      by_cases n4 : n = 4
      · subst n4
        have e : rdR 4 x = sg10 x := by unfold rdR; rw [if_neg n1, if_neg n3, if_pos rfl]
        rw [e] at e1 hwf
        go_wp2_with (first
          | (go_at_call 65; (with_reducible refine (ref10_Sign _ _ h0 h1).mono ?_); rintro e w2 ⟨rfl, hb2⟩; have hown2 := hown'.below hb2; have hbel2 := below_then' hbel' hb2 (Nat.le_refl _))
          | (at_builtin; go_must (refine wpList_push STR rfl _ _ rfl rfl ⟨_, rfl⟩ hown2 hbel2 (by simp; omega) hwf ?_); intro v' w' ho2 hb3))
        rw [e1.out] at ho2
        clear hown' hbel' hown2 hbel2
        go_wp2
        go_roundw
        case rel => exact ⟨k + 1, by omega, by go_num, ho2, hb3⟩
        case measure => simp [intOf]; omega
      have e : rdR n x = x := by unfold rdR; rw [if_neg n1, if_neg n3, if_neg n4]
      rw [e] at e1 hwf
      clear e
      have b3 : (n == 3) = false := by simpa using n3
      have b4 : (n == 4) = false := by simpa using n4
      clear n3 n4
      by_cases n1' : n = 1
      · subst n1'
        have hx1 : ¬ 127 < x := fun h => n1 ⟨rfl, h⟩
        clear n1
        go_wp2_with (at_builtin; go_must (refine wpList_push STR rfl _ _ rfl rfl ⟨_, rfl⟩ hown' hbel' (by simp; omega) hwf ?_); intro v' w' ho2 hb3)
        rw [e1.out] at ho2
        clear hown' hbel'
        go_wp2
        go_roundw
        case rel => exact ⟨k + 1, by omega, by go_num, ho2, hb3⟩
        case measure => simp [intOf]; omega
      · have b1 : (n == 1) = false := by simpa using n1'
        clear n1 n1'
        go_wp2_with (at_builtin; go_must (refine wpList_push STR rfl _ _ rfl rfl ⟨_, rfl⟩ hown' hbel' (by simp; omega) hwf ?_); intro v' w' ho2 hb3)
        rw [e1.out] at ho2
        clear hown' hbel'
        go_wp2
        go_roundw
        case rel => exact ⟨k + 1, by omega, by go_num, ho2, hb3⟩
        case measure => simp [intOf]; omega
    · go_wp2
      go_ret
      obtain ⟨a', cap', hv, hrd⟩ := hown'.reads
      rw [HR.out.all (show len ≤ k by omega)] at hv hrd hown'
      rw [hv] at hown'
      exact ⟨a', _, cap', by rw [← hv]; rfl, by rw [hE.out]; exact hown', hbel'⟩
theorem ref13_Read (n : Int) (a : Option Addr) (len cap : Nat) (xs : List Int) (w : World) (hr : Reads .u8 w a len cap xs) (hN : len < 100000000) :
    Calls Tryz.prog 37 #[.int .i64 n, .slice a len cap] w fun e w' => ∃ a' len' cap', e = .returned (.slice a' len' cap') ∧ Reads .i32 w' a' len' cap' (readR n xs) ∧ Below w.heap.size w w' := by
  refine (ref13_ReadO n a len cap xs w hr hN).mono ?_
  rintro e w' ⟨a', l', c', rfl, ho, hb⟩
  obtain ⟨a2, c2, hv, hrd⟩ := ho.reads
  simp only [Value.slice.injEq] at hv
  obtain ⟨rfl, rfl, rfl⟩ := hv
  exact ⟨_, _, _, rfl, hrd, hb⟩
end Go.Proofs.YtdglnpkkfkagaaaGreat

/-! C13 -/
namespace Go.Proofs.YtdglnpkkfkagaaaGreat
open Go.RowKit
set_option linter.unusedVariables false

theorem codec_isCharset (n : Int) (w : World) :
    Calls Tryz.prog 80 #[.int .i64 n] w fun e w' => e = .returned (.bool (decide (1 ≤ n ∧ n ≤ 5))) ∧ Below w.heap.size w w' := by
  have e : Hid (allR n [] = decide (1 ≤ n ∧ n ≤ 5)) := by unfold Hid allR; simp
  go_enter Tryz.func80, Tryz.ntmps80
  go_wp2_with (go_at_call 49; (with_reducible refine (reper_All n none 0 0 [] _ (Reads.nil _ _ _ _ (Nat.zero_le _))).mono ?_); rintro e w1 ⟨rfl, hb1⟩)
  go_ret
  exact ⟨ret_bool e.out, hb1⟩
set_option maxHeartbeats 1000000 in
theorem codec_octets (n : Int) (a : Option Addr) (len cap : Nat) (xs : List Int) (w : World) (hr : Reads .i32 w a len cap xs) (hN : len < 100000000) (hn : 1 ≤ n ∧ n ≤ 5) (h : xs.all (hasR n) = true) :
    Calls Tryz.prog 81 #[.int .i64 n, .slice a len cap] w fun e w' => ∃ a' len' cap', e = .returned (.slice a' len' cap') ∧ Reads .u8 w' a' len' cap' (octsR n xs) ∧ Below w.heap.size w w' := by
  have HR := hid hr
  clear hr
  by_cases h1 : n = 1
  · subst h1
    have e := hid (cs_1 h)
    clear h
    go_enter Tryz.func81, Tryz.ntmps81
    go_wp2_with (go_at_call 105; (with_reducible refine (latin_Lay _ _ _ _ _ HR.out (by omega)).mono ?_); rintro e w1 ⟨a1, l1, c1, rfl, hr1, hb1⟩)
    go_ret
    exact ⟨_, _, _, rfl, by rw [← e.out.2]; exact hr1, hb1⟩
  by_cases h2 : n = 2
  · subst h2
    have e := hid (cs_2 h)
    clear h
    go_enter Tryz.func81, Tryz.ntmps81
    go_wp2_with (go_at_call 105; (with_reducible refine (latin_Lay _ _ _ _ _ HR.out (by omega)).mono ?_); rintro e w1 ⟨a1, l1, c1, rfl, hr1, hb1⟩)
    go_ret
    exact ⟨_, _, _, rfl, by rw [← e.out.2]; exact hr1, hb1⟩
  by_cases h3 : n = 3
  · subst h3
    have e := hid (cs_3 h)
    clear h
    go_enter Tryz.func81, Tryz.ntmps81
    go_wp2_with (go_at_call 106; (with_reducible refine (latnine_Lay _ _ _ _ _ HR.out (by omega)).mono ?_); rintro e w1 ⟨a1, l1, c1, rfl, hr1, hb1⟩)
    go_ret
    exact ⟨_, _, _, rfl, by rw [← e.out.2]; exact hr1, hb1⟩
  by_cases h4 : n = 4
  · subst h4
    have e := hid (cs_4 h)
    clear h
    go_enter Tryz.func81, Tryz.ntmps81
    go_wp2_with (go_at_call 107; (with_reducible refine (winone_Lay _ _ _ _ _ HR.out (by omega)).mono ?_); rintro e w1 ⟨a1, l1, c1, rfl, hr1, hb1⟩)
    go_ret
    exact ⟨_, _, _, rfl, by rw [← e.out.2]; exact hr1, hb1⟩
  obtain rfl : n = 5 := by omega
  have hs : xs.all scB = true := h
  have e := hid (octsR_5 hs)
  have HS := hid hs
  clear h hs
  go_enter Tryz.func81, Tryz.ntmps81
  go_wp2_with (go_at_call 108; (with_reducible refine (utfall_Lay _ _ _ _ _ HR.out hN HS.out).mono ?_); rintro e w1 ⟨a1, c1, rfl, hr1, hb1⟩)
  go_ret
  exact ⟨_, _, _, rfl, by rw [e.out]; exact hr1, hb1⟩
set_option maxHeartbeats 1000000 in
theorem codec_Lay (n : Int) (a : Option Addr) (len cap : Nat) (xs : List Int) (w : World) (hr : Reads .i32 w a len cap xs) (hN : len < 100000000) :
    Calls Tryz.prog 51 #[.int .i64 n, .slice a len cap] w fun e w' => ∃ a' len' cap', e = .returned (.tuple #[.slice a' len' cap', .int .i64 (layE n xs)]) ∧ Reads .u8 w' a' len' cap' (layL n xs) ∧ Below w.heap.size w w' := by
  have HR := hid hr
  clear hr
  have hq := codec_isCharset n w
  by_cases hn : 1 ≤ n ∧ n ≤ 5
  · rw [decide_eq_true hn] at hq
    have Hn := hid hn
    cases ha : xs.all (hasR n)
    · have e := hid (lay_no hn ha)
      have eA : Hid (allR n xs = false) := by unfold Hid allR; rw [ha, Bool.and_false]
      clear hn ha
      go_enter Tryz.func51, Tryz.ntmps51
      go_wp2_with (first
        | (go_at_call 80; (with_reducible refine hq.mono ?_); rintro e w1 ⟨rfl, hb1⟩; have hr1 := HR.out.below hb1)
        | (go_at_call 49; (with_reducible refine (reper_All _ _ _ _ _ _ hr1).mono ?_); rintro e w2 ⟨rfl, hb2⟩; have hb2' := below_then hb1 hb2; rw [eA.out]))
      go_ret2
      exact ⟨none, 0, 0, ret_si e.out.2.symm, by rw [e.out.1]; exact Reads.nil _ _ _ _ (Nat.zero_le _), hb2'⟩
    · have e := hid (lay_in hn ha)
      have eA : Hid (allR n xs = true) := by unfold Hid allR; rw [ha, decide_eq_true hn]; rfl
      have Ha := hid ha
      clear hn ha
      go_enter Tryz.func51, Tryz.ntmps51
      go_wp2_with (first
        | (go_at_call 80; (with_reducible refine hq.mono ?_); rintro e w1 ⟨rfl, hb1⟩; have hr1 := HR.out.below hb1)
        | (go_at_call 49; (with_reducible refine (reper_All _ _ _ _ _ _ hr1).mono ?_); rintro e w2 ⟨rfl, hb2⟩; have hb2' := below_then hb1 hb2; rw [eA.out]; have hr2 := hr1.below hb2)
        | (go_at_call 81; (with_reducible refine (codec_octets _ _ _ _ _ _ hr2 hN Hn.out Ha.out).mono ?_); rintro e w3 ⟨a3, l3, c3, rfl, hr3, hb3⟩; have hb3' := below_then hb2' hb3))
      go_ret2
      exact ⟨_, _, _, ret_si e.out.2.symm, by rw [e.out.1]; exact hr3, hb3'⟩
  · rw [decide_eq_false hn] at hq
    have e := hid (lay_out (xs := xs) hn)
    clear hn
    go_enter Tryz.func51, Tryz.ntmps51
    go_wp2_with (go_at_call 80; (with_reducible refine hq.mono ?_); rintro e w1 ⟨rfl, hb1⟩)
    go_ret2
    exact ⟨none, 0, 0, ret_si e.out.2.symm, by rw [e.out.1]; exact Reads.nil _ _ _ _ (Nat.zero_le _), hb1⟩
end Go.Proofs.YtdglnpkkfkagaaaGreat
