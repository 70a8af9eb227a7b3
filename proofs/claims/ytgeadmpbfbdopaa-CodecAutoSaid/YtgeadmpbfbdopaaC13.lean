/-
  Contracts of package codec's functions.
-/
import Derived.Test.YtgeadmpbfbdopaaC13a
import Derived.Test.YtgeadmpbfbdopaaR13
namespace Go.Proofs.Ytgeadmpbfbdopaa
open Go.RowKit
set_option linter.unusedVariables false

theorem codec_isCharset (n : Int) (w : World) :
    Calls Try.prog 22 #[.int .i64 n] w fun e w' => e = .returned (.bool (decide (1 ≤ n ∧ n ≤ 5))) ∧ Below w.heap.size w w' := by
  have e : Hid (allR n [] = decide (1 ≤ n ∧ n ≤ 5)) := by unfold Hid allR; simp
  go_enter Try.func22, Try.ntmps22
  go_wp2_with (go_at_call 23; (with_reducible refine (reper_All n none 0 0 [] _ (Reads.nil _ _ _ _ (Nat.zero_le _))).mono ?_); rintro e w1 ⟨rfl, hb1⟩)
  go_ret
  exact ⟨ret_bool e.out, hb1⟩
set_option maxHeartbeats 1000000 in
theorem codec_octets (n : Int) (a : Option Addr) (len cap : Nat) (xs : List Int) (w : World) (hr : Reads .i32 w a len cap xs) (hN : len < 100000000) (hn : 1 ≤ n ∧ n ≤ 5) (h : xs.all (hasR n) = true) :
    Calls Try.prog 24 #[.int .i64 n, .slice a len cap] w fun e w' => ∃ a' len' cap', e = .returned (.slice a' len' cap') ∧ Reads .u8 w' a' len' cap' (octsR n xs) ∧ Below w.heap.size w w' := by
  have HR := hid hr
  clear hr
  by_cases h1 : n = 1
  · subst h1
    have e := hid (cs_1 h)
    clear h
    go_enter Try.func24, Try.ntmps24
    go_wp2_with (go_at_call 42; (with_reducible refine (latin_Lay _ _ _ _ _ HR.out (by omega)).mono ?_); rintro e w1 ⟨a1, l1, c1, rfl, hr1, hb1⟩)
    go_ret
    exact ⟨_, _, _, rfl, by rw [← e.out.2]; exact hr1, hb1⟩
  by_cases h2 : n = 2
  · subst h2
    have e := hid (cs_2 h)
    clear h
    go_enter Try.func24, Try.ntmps24
    go_wp2_with (go_at_call 42; (with_reducible refine (latin_Lay _ _ _ _ _ HR.out (by omega)).mono ?_); rintro e w1 ⟨a1, l1, c1, rfl, hr1, hb1⟩)
    go_ret
    exact ⟨_, _, _, rfl, by rw [← e.out.2]; exact hr1, hb1⟩
  by_cases h3 : n = 3
  · subst h3
    have e := hid (cs_3 h)
    clear h
    go_enter Try.func24, Try.ntmps24
    go_wp2_with (go_at_call 43; (with_reducible refine (latnine_Lay _ _ _ _ _ HR.out (by omega)).mono ?_); rintro e w1 ⟨a1, l1, c1, rfl, hr1, hb1⟩)
    go_ret
    exact ⟨_, _, _, rfl, by rw [← e.out.2]; exact hr1, hb1⟩
  by_cases h4 : n = 4
  · subst h4
    have e := hid (cs_4 h)
    clear h
    go_enter Try.func24, Try.ntmps24
    go_wp2_with (go_at_call 44; (with_reducible refine (winone_Lay _ _ _ _ _ HR.out (by omega)).mono ?_); rintro e w1 ⟨a1, l1, c1, rfl, hr1, hb1⟩)
    go_ret
    exact ⟨_, _, _, rfl, by rw [← e.out.2]; exact hr1, hb1⟩
  obtain rfl : n = 5 := by omega
  have hs : xs.all scB = true := h
  have e := hid (octsR_5 hs)
  have HS := hid hs
  clear h hs
  go_enter Try.func24, Try.ntmps24
  go_wp2_with (go_at_call 45; (with_reducible refine (utfall_Lay _ _ _ _ _ HR.out hN HS.out).mono ?_); rintro e w1 ⟨a1, c1, rfl, hr1, hb1⟩)
  go_ret
  exact ⟨_, _, _, rfl, by rw [e.out]; exact hr1, hb1⟩
set_option maxHeartbeats 1000000 in
theorem codec_Lay (n : Int) (a : Option Addr) (len cap : Nat) (xs : List Int) (w : World) (hr : Reads .i32 w a len cap xs) (hN : len < 100000000) :
    Calls Try.prog 8 #[.int .i64 n, .slice a len cap] w fun e w' => ∃ a' len' cap', e = .returned (.tuple #[.slice a' len' cap', .int .i64 (layE n xs)]) ∧ Reads .u8 w' a' len' cap' (layL n xs) ∧ Below w.heap.size w w' := by
  have HR := hid hr
  clear hr
  have hq := codec_isCharset n w
  by_cases hn : 1 ≤ n ∧ n ≤ 5
  · rw [decide_eq_true hn] at hq
    have Hn := hid hn
    cases ha : xs.all (hasR n)
    · have e := hid (lay_no hn ha)
      have eA : Hid (allR n xs = false) := by unfold Hid allR; rw [ha, Bool.and_false]
      clear hn ha
      go_enter Try.func8, Try.ntmps8
      go_wp2_with (first
        | (go_at_call 22; (with_reducible refine hq.mono ?_); rintro e w1 ⟨rfl, hb1⟩; have hr1 := HR.out.below hb1)
        | (go_at_call 23; (with_reducible refine (reper_All _ _ _ _ _ _ hr1).mono ?_); rintro e w2 ⟨rfl, hb2⟩; have hb2' := below_then hb1 hb2; rw [eA.out]))
      go_ret2
      exact ⟨none, 0, 0, ret_si e.out.2.symm, by rw [e.out.1]; exact Reads.nil _ _ _ _ (Nat.zero_le _), hb2'⟩
    · have e := hid (lay_in hn ha)
      have eA : Hid (allR n xs = true) := by unfold Hid allR; rw [ha, decide_eq_true hn]; rfl
      have Ha := hid ha
      clear hn ha
      go_enter Try.func8, Try.ntmps8
      go_wp2_with (first
        | (go_at_call 22; (with_reducible refine hq.mono ?_); rintro e w1 ⟨rfl, hb1⟩; have hr1 := HR.out.below hb1)
        | (go_at_call 23; (with_reducible refine (reper_All _ _ _ _ _ _ hr1).mono ?_); rintro e w2 ⟨rfl, hb2⟩; have hb2' := below_then hb1 hb2; rw [eA.out]; have hr2 := hr1.below hb2)
        | (go_at_call 24; (with_reducible refine (codec_octets _ _ _ _ _ _ hr2 hN Hn.out Ha.out).mono ?_); rintro e w3 ⟨a3, l3, c3, rfl, hr3, hb3⟩; have hb3' := below_then hb2' hb3))
      go_ret2
      exact ⟨_, _, _, ret_si e.out.2.symm, by rw [e.out.1]; exact hr3, hb3'⟩
  · rw [decide_eq_false hn] at hq
    have e := hid (lay_out (xs := xs) hn)
    clear hn
    go_enter Try.func8, Try.ntmps8
    go_wp2_with (go_at_call 22; (with_reducible refine hq.mono ?_); rintro e w1 ⟨rfl, hb1⟩)
    go_ret2
    exact ⟨none, 0, 0, ret_si e.out.2.symm, by rw [e.out.1]; exact Reads.nil _ _ _ _ (Nat.zero_le _), hb1⟩
set_option maxHeartbeats 1000000 in
theorem codec_readASCII (a : Option Addr) (len cap : Nat) (xs : List Int) (w : World) (hr : Reads .u8 w a len cap xs) (hN : len < 10000000) :
    Calls Try.prog 31 #[.slice a len cap] w fun e w' => ∃ a' cap', e = .returned (.slice a' len cap') ∧ Reads .i32 w' a' len cap' (xs.map (rdR 1)) ∧ Below w.heap.size w w' := by
  have HR := hid hr
  have hsz := hr.size
  have hwf := hid hr.wf
  clear hr
  go_enter Try.func31, Try.ntmps31
  go_wp2_with (go_at_call 35; (with_reducible refine (latin_ReadO _ _ _ _ _ HR.out (by omega)).mono ?_); rintro e w1 ⟨g, rfl, hown, hbel⟩)
  obtain ⟨w1, rfl⟩ : ∃ x : World, x = w1 := ⟨_, rfl⟩
  go_loopw [10] (fun i wr => ∃ k : Nat, k ≤ len ∧ i = .int .i64 k ∧ Own .i32 21 w.heap.size wr (.slice (some ⟨g, 0, none⟩) len len) (mixR xs k) ∧ Below w.heap.size w wr) (fun i _ => len - (intOf i).toNat)
  case atStart => exact ⟨0, Nat.zero_le _, rfl, by rw [mix_zero]; exact hown, hbel⟩
  case round =>
    obtain ⟨k, hk, rfl, hown', hbel'⟩ := hrel
    by_cases hlt : k < len
    · have hkx : k < xs.length := by omega
      obtain ⟨hcell, _⟩ := hown'.at (j := k) (by rw [mix_len]; exact hkx)
      rw [mix_get hkx] at hcell
      have hb := wf_u8 (hwf.out _ (List.getElem_mem hkx))
      obtain ⟨x, hx⟩ : ∃ x, x = xs[k] := ⟨_, rfl⟩
      rw [← hx] at hcell hb
      obtain ⟨h0, h1⟩ := hb
      by_cases hs : 127 < x
      · have H : Hid (hasR 1 x = false) := by unfold Hid hasR; rw [if_pos rfl]; exact decide_eq_false (by omega)
        have HM := hid (mix_set hkx (by omega))
        have HO := hid hown'
        clear hx hown'
        go_wp2_with (go_at_call 26; (with_reducible refine (reper_Has _ _ _).mono ?_); rintro e w2 ⟨rfl, hb2⟩; rw [H.out]; obtain ⟨hcell2, hfz⟩ := (HO.out.below hb2).at (j := k) (by rw [mix_len]; exact hkx))
        obtain ⟨ho2, hb3⟩ := (HO.out.below hb2).store (below_then hbel' hb2) k (y := 65533) (by decide)
        rw [HM.out] at ho2
        go_roundw
        case rel => exact ⟨k + 1, by omega, by go_num, ho2, hb3⟩
        case measure => simp [intOf]; omega
      · have H : Hid (hasR 1 x = true) := by unfold Hid hasR; rw [if_pos rfl]; exact decide_eq_true (by omega)
        have HM := hid (mix_same hkx (by omega))
        have HO := hid hown'
        clear hx hown'
        go_wp2_with (go_at_call 26; (with_reducible refine (reper_Has _ _ _).mono ?_); rintro e w2 ⟨rfl, hb2⟩; rw [H.out])
        go_roundw
        case rel => exact ⟨k + 1, by omega, by go_num, by rw [← HM.out]; exact HO.out.below hb2, below_then hbel' hb2⟩
        case measure => simp [intOf]; omega
    · go_wp2
      go_ret
      obtain ⟨a', cap', hv, hrd⟩ := hown'.reads
      rw [mix_all (by omega)] at hv hrd
      simp only [List.length_map, hsz] at hv hrd
      exact ⟨a', cap', by rw [← hv]; rfl, hrd, hbel'⟩
set_option maxHeartbeats 1000000 in
theorem codec_Read (n : Int) (a : Option Addr) (len cap : Nat) (xs : List Int) (w : World) (hr : Reads .u8 w a len cap xs) (hN : len < 10000000) :
    Calls Try.prog 16 #[.int .i64 n, .slice a len cap] w fun e w' => ∃ a' len' cap', e = .returned (.slice a' len' cap') ∧ Reads .i32 w' a' len' cap' (readR n xs) ∧ Below w.heap.size w w' := by
  have HR := hid hr
  clear hr
  by_cases h5 : n = 5
  · subst h5
    have e : Hid (readR 5 xs = txt xs) := by unfold Hid readR; rw [if_pos rfl]
    go_enter Try.func16, Try.ntmps16
    go_wp2_with (go_at_call 34; (with_reducible refine (utfall_Read _ _ _ _ _ HR.out (by omega)).mono ?_); rintro e w1 ⟨a1, c1, rfl, hr1, hb1⟩)
    go_ret
    exact ⟨_, _, _, rfl, by rw [e.out]; exact hr1, hb1⟩
  have e5 : readR n xs = xs.map (rdR n) := by unfold readR; rw [if_neg h5]
  by_cases h1 : n = 1
  · subst h1
    have e := hid e5
    clear e5 h5
    go_enter Try.func16, Try.ntmps16
    go_wp2_with (go_at_call 31; (with_reducible refine (codec_readASCII _ _ _ _ _ HR.out hN).mono ?_); rintro e w1 ⟨a1, c1, rfl, hr1, hb1⟩)
    go_ret
    exact ⟨_, _, _, rfl, by rw [e.out]; exact hr1, hb1⟩
  by_cases h3 : n = 3
  · subst h3
    have e : Hid (readR 3 xs = xs.map sg09) := by
      unfold Hid; rw [e5]
      refine List.map_congr_left fun x _ => ?_
      unfold rdR; rw [if_neg (by omega), if_pos rfl]
    clear e5 h5 h1
    go_enter Try.func16, Try.ntmps16
    go_wp2_with (go_at_call 32; (with_reducible refine (latnine_Read _ _ _ _ _ HR.out (by omega)).mono ?_); rintro e w1 ⟨a1, c1, rfl, hr1, hb1⟩)
    go_ret
    exact ⟨_, _, _, rfl, by rw [e.out]; exact hr1, hb1⟩
  by_cases h4 : n = 4
  · subst h4
    have e : Hid (readR 4 xs = xs.map sg10) := by
      unfold Hid; rw [e5]
      refine List.map_congr_left fun x _ => ?_
      unfold rdR; rw [if_neg (by omega), if_neg (by omega), if_pos rfl]
    clear e5 h5 h1 h3
    go_enter Try.func16, Try.ntmps16
    go_wp2_with (go_at_call 33; (with_reducible refine (winone_Read _ _ _ _ _ HR.out (by omega)).mono ?_); rintro e w1 ⟨a1, c1, rfl, hr1, hb1⟩)
    go_ret
    exact ⟨_, _, _, rfl, by rw [e.out]; exact hr1, hb1⟩
  have e : Hid (readR n xs = xs.map sg08) := by
    unfold Hid; rw [e5]
    refine List.map_congr_left fun x _ => ?_
    unfold rdR sg08; rw [if_neg (fun h => h1 h.1), if_neg h3, if_neg h4]
  have b1 : (n == 1) = false := by simpa using h1
  have b3 : (n == 3) = false := by simpa using h3
  have b4 : (n == 4) = false := by simpa using h4
  have b5 : (n == 5) = false := by simpa using h5
  clear e5 h1 h3 h4 h5
  go_enter Try.func16, Try.ntmps16
  go_wp2_with (go_at_call 35; (with_reducible refine (latin_Read _ _ _ _ _ HR.out (by omega)).mono ?_); rintro e w1 ⟨a1, c1, rfl, hr1, hb1⟩)
  go_ret
  exact ⟨_, _, _, rfl, by rw [e.out]; exact hr1, hb1⟩
set_option maxHeartbeats 1000000 in
theorem codec_Auto (a : Option Addr) (len cap : Nat) (xs : List Int) (w : World) (hr : Reads .i32 w a len cap xs) (hN : len < 100000000) :
    Calls Try.prog 19 #[.slice a len cap] w fun e w' => ∃ a' len' cap', e = .returned (.tuple #[.int .i64 (selN xs), .slice a' len' cap', .int .i64 (selE xs)]) ∧ Reads .u8 w' a' len' cap' (layL (selN xs) xs) ∧ Below w.heap.size w w' := by
  have HR := hid hr
  clear hr
  have hq := reper_Select a len cap xs w HR.out
  by_cases h : selN xs = 0
  · have e1 : selE xs = 7 := by unfold selE; rw [if_pos h]
    rw [h, e1] at hq ⊢
    have e2 := hid (lay_out (n := 0) (xs := xs) (by omega)).1
    clear h e1
    go_enter Try.func19, Try.ntmps19
    go_wp2_with (go_at_call 37; (with_reducible refine hq.mono ?_); rintro e w1 ⟨rfl, hb1⟩)
    go_ret3
    exact ⟨none, 0, 0, rfl, by rw [e2.out]; exact Reads.nil _ _ _ _ (Nat.zero_le _), hb1⟩
  · have e1 : selE xs = 0 := by unfold selE; rw [if_neg h]
    obtain ⟨hn, ha⟩ := sel_all h
    have e2 := hid (lay_in hn ha).1
    have Hn := hid hn
    have Ha := hid ha
    rw [e1] at hq ⊢
    clear h e1 hn ha
    go_enter Try.func19, Try.ntmps19
    go_wp2_with (first
      | (go_at_call 37; (with_reducible refine hq.mono ?_); rintro e w1 ⟨rfl, hb1⟩; have hr1 := HR.out.below hb1)
      | (go_at_call 24; (with_reducible refine (codec_octets _ _ _ _ _ _ hr1 hN Hn.out Ha.out).mono ?_); rintro e w2 ⟨a2, l2, c2, rfl, hr2, hb2⟩; have hb2' := below_then hb1 hb2))
    go_ret3
    exact ⟨_, _, _, rfl, by rw [e2.out]; exact hr2, hb2'⟩
theorem octR_len1 {n c : Int} (h : hasR n c = true) (h5 : n ≠ 5) : ((octR n c).length : Int) = 1 := by
  have hn : 1 ≤ n ∧ n ≤ 4 := by
    refine Decidable.byContradiction fun hc => ?_
    have := hasR_none (n := n) (by omega) c
    rw [h] at this
    cases this
  obtain ⟨x, e, _⟩ := octR_one hn h
  rw [e]; rfl
theorem octR_len5 {c : Int} (h : hasR 5 c = true) : (octR 5 c).length = lenI c := by
  unfold octR
  rw [if_pos h, if_neg (by omega), if_neg (by omega), if_neg (by omega), if_neg (by omega), octs_len]
theorem codec_Len (n c : Int) (w : World) (h0 : -2147483648 ≤ c) (h1 : c ≤ 2147483647) :
    Calls Try.prog 11 #[.int .i64 n, .int .i32 c] w fun e w' => e = .returned (.int .i64 (octR n c).length) ∧ Below w.heap.size w w' := by
  cases hs : hasR n c
  · have H := hid hs
    have e := hid (octR_no hs)
    go_enter Try.func11, Try.ntmps11
    go_wp2_with (go_at_call 26; (with_reducible refine (reper_Has _ _ _).mono ?_); rintro e w1 ⟨rfl, hb1⟩; rw [H.out])
    go_ret
    exact ⟨ret_int (by rw [e.out]; rfl), hb1⟩
  · by_cases h5 : n = 5
    · subst h5
      have H := hid hs
      have e := hid (octR_len5 hs)
      go_enter Try.func11, Try.ntmps11
      go_wp2_with (first
        | (go_at_call 26; (with_reducible refine (reper_Has _ _ _).mono ?_); rintro e w1 ⟨rfl, hb1⟩; rw [H.out])
        | (go_at_call 27; (with_reducible refine (utfone_Len _ _).mono ?_); rintro e w2 ⟨rfl, rfl⟩))
      go_ret
      exact ⟨ret_int (by rw [e.out]), hb1⟩
    · have H := hid hs
      have e := hid (octR_len1 hs h5)
      have b5 : (n == 5) = false := by simpa using h5
      clear h5
      go_enter Try.func11, Try.ntmps11
      go_wp2_with (go_at_call 26; (with_reducible refine (reper_Has _ _ _).mono ?_); rintro e w1 ⟨rfl, hb1⟩; rw [H.out])
      go_ret
      exact ⟨ret_int e.out.symm, hb1⟩
set_option maxHeartbeats 1000000 in
theorem codec_Exact (n : Int) (a : Option Addr) (len cap : Nat) (xs : List Int) (w : World) (hr : Reads .u8 w a len cap xs) (hN : len < 10000000) :
    Calls Try.prog 17 #[.int .i64 n, .slice a len cap] w fun e w' => e = .returned (.bool (exactR n xs)) ∧ Below w.heap.size w w' := by
  have HR := hid hr
  have hsz := hr.size
  have hrl := readR_len n xs
  clear hr
  by_cases hE : layE n (readR n xs) = 0
  · have e : Hid (exactR n xs = decide (layL n (readR n xs) = xs)) := by unfold Hid exactR; rw [decide_eq_true hE]; rfl
    have H := hid hE
    clear hE
    go_enter Try.func17, Try.ntmps17
    go_wp2_with (first
      | (go_at_call 16; (with_reducible refine (codec_Read _ _ _ _ _ _ HR.out hN).mono ?_); rintro e w1 ⟨a1, l1, c1, rfl, hr1, hb1⟩; have hl1 := hr1.size)
      | (go_at_call 8; (with_reducible refine (codec_Lay _ _ _ _ _ _ hr1 (by omega)).mono ?_); rintro e w2 ⟨a2, l2, c2, rfl, hr2, hb2⟩; rw [H.out]; have hb2' := below_then hb1 hb2; have hx2 := HR.out.below hb2')
      | (go_at_call 36; (with_reducible refine (bytes_Equal _ _ _ _ _ _ _ _ _ hr2 hx2).mono ?_); rintro e w3 ⟨rfl, rfl⟩))
    go_ret
    exact ⟨ret_bool e.out.symm, hb2'⟩
  · have e : Hid (exactR n xs = false) := by unfold Hid exactR; rw [decide_eq_false hE]; rfl
    have bE : (layE n (readR n xs) == 0) = false := by simpa using hE
    clear hE
    go_enter Try.func17, Try.ntmps17
    go_wp2_with (first
      | (go_at_call 16; (with_reducible refine (codec_Read _ _ _ _ _ _ HR.out hN).mono ?_); rintro e w1 ⟨a1, l1, c1, rfl, hr1, hb1⟩; have hl1 := hr1.size)
      | (go_at_call 8; (with_reducible refine (codec_Lay _ _ _ _ _ _ hr1 (by omega)).mono ?_); rintro e w2 ⟨a2, l2, c2, rfl, hr2, hb2⟩; have hb2' := below_then hb1 hb2))
    go_ret
    exact ⟨ret_bool e.out.symm, hb2'⟩
theorem codec_Move (n m : Int) (a : Option Addr) (len cap : Nat) (xs : List Int) (w : World) (hr : Reads .u8 w a len cap xs) (hN : len < 10000000) :
    Calls Try.prog 14 #[.int .i64 n, .int .i64 m, .slice a len cap] w fun e w' => ∃ a' len' cap', e = .returned (.tuple #[.slice a' len' cap', .int .i64 (layE m (readR n xs))]) ∧ Reads .u8 w' a' len' cap' (layL m (readR n xs)) ∧ Below w.heap.size w w' := by
  have hsz := hr.size
  have hrl := readR_len n xs
  go_enter Try.func14, Try.ntmps14
  go_wp2_with (first
    | (go_at_call 16; (with_reducible refine (codec_Read _ _ _ _ _ _ hr (by omega)).mono ?_); rintro e w1 ⟨a1, l1, c1, rfl, hr1, hb1⟩; have hl1 := hr1.size)
    | (go_at_call 8; (with_reducible refine (codec_Lay _ _ _ _ _ _ hr1 (by omega)).mono ?_); rintro e w2 ⟨a2, l2, c2, rfl, hr2, hb2⟩; have hb2' := below_then hb1 hb2))
  go_ret2
  exact ⟨_, _, _, rfl, hr2, hb2'⟩
end Go.Proofs.Ytgeadmpbfbdopaa
