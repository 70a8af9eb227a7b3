/-
  Texts of ours laid together: R13, C13.
-/
import Derived.Test.YtefhddbbiheadaaGreatRows
import Derived.Test.YtefhddbbiheadaaGreatZ31

/-! R13 -/
namespace Go.Proofs.YtefhddbbiheadaaGreat
open Go.RowKit
set_option linter.unusedVariables false

set_option maxHeartbeats 4000000 in
theorem ref13_ReadO (n : Int) (a : Option Addr) (len cap : Nat) (xs : List Int) (w : World) (hr : Reads .u8 w a len cap xs) (hN : len < 100000000) :
    Calls Tryz.prog 40 #[.int .i64 n, .slice a len cap] w fun e w' => ∃ a' len' cap', e = .returned (.slice a' len' cap') ∧ Own .i32 21 w.heap.size w' (.slice a' len' cap') (readR n xs) ∧ Below w.heap.size w w' := by
  have HR := hid hr
  have hsz := hr.size
  clear hr
  by_cases h5 : n = 5
  · subst h5
    go_enter Tryz.func40, Tryz.ntmps40
    go_wp2_with (go_at_call 26; (with_reducible refine (ref05_ReadO _ _ _ _ _ HR.out hN).mono ?_); rintro e w1 ⟨a1, c1, rfl, hr1, hb1⟩)
    go_ret
    exact ⟨_, _, _, rfl, by unfold readR; rw [if_pos rfl]; exact hr1, hb1⟩
  have hE : Hid (readR n xs = xs.map (rdR n)) := by unfold Hid readR; rw [if_neg h5]
  have b5 : (n == 5) = false := by simpa using h5
  clear h5
  go_enter Tryz.func40, Tryz.ntmps40
  go_wp2
  go_loopw [8, 9] (fun v i wr => ∃ k : Nat, k ≤ len ∧ i = .int .i64 k ∧ Own .i32 21 w.heap.size wr v ((xs.take k).map (rdR n)) ∧ Below w.heap.size w wr) (fun _ i _ => len - (intOf i).toNat)
  case atStart => exact ⟨0, Nat.zero_le _, rfl, Own.nil _ _ _ _, Below.refl _ _⟩
  case round =>
    obtain ⟨k, hk, rfl, hown', hbel'⟩ := hrel
    by_cases hlt : k < len
    · obtain ⟨b, off, x, rfl, _, hc, h0, h1, hx⟩ := (HR.out.below hbel').get8 hlt
      have e1 : Hid ((xs.take k).map (rdR n) ++ [rdR n x] = (xs.take (k + 1)).map (rdR n)) := by rw [Hid, hx.out.2]; simp
      have hwf := rdR_wf n x h0 h1
      by_cases n1 : n = 1 ∧ 127 < x
      · have e : rdR n x = 65533 := by unfold rdR; rw [if_pos n1]
        rw [e] at e1 hwf
        obtain ⟨rfl, hx1⟩ := n1
        go_wp2_with (at_builtin; go_must (refine wpList_push STR rfl _ _ rfl rfl ⟨_, rfl⟩ hown' hbel' (by simp; omega) hwf ?_); intro v' w' ho2 hb3)
        rw [e1.out] at ho2
        clear hown' hbel'
        go_wp2
        go_roundw
        case rel => exact ⟨k + 1, by omega, by go_num, ho2, hb3⟩
        case measure => simp [intOf]; omega
      by_cases n3 : n = 3
      · subst n3
        have e : rdR 3 x = sg09 x := by unfold rdR; rw [if_neg n1, if_pos rfl]
        rw [e] at e1 hwf
        go_wp2_with (first
          | (go_at_call 64; (with_reducible refine (ref09_Sign _ _ h0 h1).mono ?_); rintro e w' ⟨rfl, rfl⟩)
          | (at_builtin; go_must (refine wpList_push STR rfl _ _ rfl rfl ⟨_, rfl⟩ hown' hbel' (by simp; omega) hwf ?_); intro v' w' ho2 hb3))
        rw [e1.out] at ho2
        clear hown' hbel'
        go_wp2
        go_roundw
        case rel => exact ⟨k + 1, by omega, by go_num, ho2, hb3⟩
        case measure => simp [intOf]; omega
      by_cases n4 : n = 4
      · subst n4
        have e : rdR 4 x = sg10 x := by unfold rdR; rw [if_neg n1, if_neg n3, if_pos rfl]
        rw [e] at e1 hwf
        go_wp2_with (first
          | (go_at_call 65; (with_reducible refine (ref10_Sign _ _ h0 h1).mono ?_); rintro e w2 ⟨rfl, hb2⟩; have hown2 := hown'.below hb2; have hbel2 := below_then' hbel' hb2 (Nat.le_refl _))
          | (at_builtin; go_must (refine wpList_push STR rfl _ _ rfl rfl ⟨_, rfl⟩ hown2 hbel2 (by simp; omega) hwf ?_); intro v' w' ho2 hb3))
        rw [e1.out] at ho2
        clear hown' hbel' hown2 hbel2
        go_wp2
        go_roundw
        case rel => exact ⟨k + 1, by omega, by go_num, ho2, hb3⟩
        case measure => simp [intOf]; omega
      have e : rdR n x = x := by unfold rdR; rw [if_neg n1, if_neg n3, if_neg n4]
      rw [e] at e1 hwf
      clear e
      have b3 : (n == 3) = false := by simpa using n3
      have b4 : (n == 4) = false := by simpa using n4
      clear n3 n4
      by_cases n1' : n = 1
      · subst n1'
        have hx1 : ¬ 127 < x := fun h => n1 ⟨rfl, h⟩
        clear n1
        go_wp2_with (at_builtin; go_must (refine wpList_push STR rfl _ _ rfl rfl ⟨_, rfl⟩ hown' hbel' (by simp; omega) hwf ?_); intro v' w' ho2 hb3)
        rw [e1.out] at ho2
        clear hown' hbel'
        go_wp2
        go_roundw
        case rel => exact ⟨k + 1, by omega, by go_num, ho2, hb3⟩
        case measure => simp [intOf]; omega
      · have b1 : (n == 1) = false := by simpa using n1'
        clear n1 n1'
        go_wp2_with (at_builtin; go_must (refine wpList_push STR rfl _ _ rfl rfl ⟨_, rfl⟩ hown' hbel' (by simp; omega) hwf ?_); intro v' w' ho2 hb3)
        rw [e1.out] at ho2
        clear hown' hbel'
        go_wp2
        go_roundw
        case rel => exact ⟨k + 1, by omega, by go_num, ho2, hb3⟩
        case measure => simp [intOf]; omega
    · go_wp2
      go_ret
      obtain ⟨a', cap', hv, hrd⟩ := hown'.reads
      rw [HR.out.all (show len ≤ k by omega)] at hv hrd hown'
      rw [hv] at hown'
      exact ⟨a', _, cap', by rw [← hv]; rfl, by rw [hE.out]; exact hown', hbel'⟩
theorem ref13_Read (n : Int) (a : Option Addr) (len cap : Nat) (xs : List Int) (w : World) (hr : Reads .u8 w a len cap xs) (hN : len < 100000000) :
    Calls Tryz.prog 40 #[.int .i64 n, .slice a len cap] w fun e w' => ∃ a' len' cap', e = .returned (.slice a' len' cap') ∧ Reads .i32 w' a' len' cap' (readR n xs) ∧ Below w.heap.size w w' := by
  refine (ref13_ReadO n a len cap xs w hr hN).mono ?_
  rintro e w' ⟨a', l', c', rfl, ho, hb⟩
  obtain ⟨a2, c2, hv, hrd⟩ := ho.reads
  simp only [Value.slice.injEq] at hv
  obtain ⟨rfl, rfl, rfl⟩ := hv
  exact ⟨_, _, _, rfl, hrd, hb⟩
end Go.Proofs.YtefhddbbiheadaaGreat

/-! C13 -/
namespace Go.Proofs.YtefhddbbiheadaaGreat
open Go.RowKit
set_option linter.unusedVariables false

set_option maxHeartbeats 1000000 in
theorem codec_readASCII (a : Option Addr) (len cap : Nat) (xs : List Int) (w : World) (hr : Reads .u8 w a len cap xs) (hN : len < 10000000) :
    Calls Tryz.prog 117 #[.slice a len cap] w fun e w' => ∃ a' cap', e = .returned (.slice a' len cap') ∧ Reads .i32 w' a' len cap' (xs.map (rdR 1)) ∧ Below w.heap.size w w' := by
  have HR := hid hr
  have hsz := hr.size
  have hwf := hid hr.wf
  clear hr
  go_enter Tryz.func117, Tryz.ntmps117
  go_wp2_with (go_at_call 120; (with_reducible refine (latin_ReadO _ _ _ _ _ HR.out (by omega)).mono ?_); rintro e w1 ⟨g, rfl, hown, hbel⟩)
  obtain ⟨w1, rfl⟩ : ∃ x : World, x = w1 := ⟨_, rfl⟩
  go_loopw [10] (fun i wr => ∃ k : Nat, k ≤ len ∧ i = .int .i64 k ∧ Own .i32 21 w.heap.size wr (.slice (some ⟨g, 0, none⟩) len len) (mixR xs k) ∧ Below w.heap.size w wr) (fun i _ => len - (intOf i).toNat)
  case atStart => exact ⟨0, Nat.zero_le _, rfl, by rw [mix_zero]; exact hown, hbel⟩
  case round =>
    obtain ⟨k, hk, rfl, hown', hbel'⟩ := hrel
    by_cases hlt : k < len
    · have hkx : k < xs.length := by omega
      obtain ⟨hcell, _⟩ := hown'.at (j := k) (by rw [mix_len]; exact hkx)
      rw [mix_get hkx] at hcell
      have hb := wf_u8 (hwf.out _ (List.getElem_mem hkx))
      obtain ⟨x, hx⟩ : ∃ x, x = xs[k] := ⟨_, rfl⟩
      rw [← hx] at hcell hb
      obtain ⟨h0, h1⟩ := hb
      by_cases hs : 127 < x
      · have H : Hid (hasR 1 x = false) := by unfold Hid hasR; rw [if_pos rfl]; exact decide_eq_false (by omega)
        have HM := hid (mix_set hkx (by omega))
        have HO := hid hown'
        clear hx hown'
        go_wp2_with (go_at_call 138; (with_reducible refine (reper_Has _ _ _).mono ?_); rintro e w2 ⟨rfl, hb2⟩; rw [H.out]; obtain ⟨hcell2, hfz⟩ := (HO.out.below hb2).at (j := k) (by rw [mix_len]; exact hkx))
        obtain ⟨ho2, hb3⟩ := (HO.out.below hb2).store (below_then hbel' hb2) k (y := 65533) (by decide)
        rw [HM.out] at ho2
        go_roundw
        case rel => exact ⟨k + 1, by omega, by go_num, ho2, hb3⟩
        case measure => simp [intOf]; omega
      · have H : Hid (hasR 1 x = true) := by unfold Hid hasR; rw [if_pos rfl]; exact decide_eq_true (by omega)
        have HM := hid (mix_same hkx (by omega))
        have HO := hid hown'
        clear hx hown'
        go_wp2_with (go_at_call 138; (with_reducible refine (reper_Has _ _ _).mono ?_); rintro e w2 ⟨rfl, hb2⟩; rw [H.out])
        go_roundw
        case rel => exact ⟨k + 1, by omega, by go_num, by rw [← HM.out]; exact HO.out.below hb2, below_then hbel' hb2⟩
        case measure => simp [intOf]; omega
    · go_wp2
      go_ret
      obtain ⟨a', cap', hv, hrd⟩ := hown'.reads
      rw [mix_all (by omega)] at hv hrd
      simp only [List.length_map, hsz] at hv hrd
      exact ⟨a', cap', by rw [← hv]; rfl, hrd, hbel'⟩
set_option maxHeartbeats 1000000 in
theorem codec_Read (n : Int) (a : Option Addr) (len cap : Nat) (xs : List Int) (w : World) (hr : Reads .u8 w a len cap xs) (hN : len < 10000000) :
    Calls Tryz.prog 88 #[.int .i64 n, .slice a len cap] w fun e w' => ∃ a' len' cap', e = .returned (.slice a' len' cap') ∧ Reads .i32 w' a' len' cap' (readR n xs) ∧ Below w.heap.size w w' := by
  have HR := hid hr
  clear hr
  by_cases h5 : n = 5
  · subst h5
    have e : Hid (readR 5 xs = txt xs) := by unfold Hid readR; rw [if_pos rfl]
    go_enter Tryz.func88, Tryz.ntmps88
    go_wp2_with (go_at_call 53; (with_reducible refine (utfall_Read _ _ _ _ _ HR.out (by omega)).mono ?_); rintro e w1 ⟨a1, c1, rfl, hr1, hb1⟩)
    go_ret
    exact ⟨_, _, _, rfl, by rw [e.out]; exact hr1, hb1⟩
  have e5 : readR n xs = xs.map (rdR n) := by unfold readR; rw [if_neg h5]
  by_cases h1 : n = 1
  · subst h1
    have e := hid e5
    clear e5 h5
    go_enter Tryz.func88, Tryz.ntmps88
    go_wp2_with (go_at_call 117; (with_reducible refine (codec_readASCII _ _ _ _ _ HR.out hN).mono ?_); rintro e w1 ⟨a1, c1, rfl, hr1, hb1⟩)
    go_ret
    exact ⟨_, _, _, rfl, by rw [e.out]; exact hr1, hb1⟩
  by_cases h3 : n = 3
  · subst h3
    have e : Hid (readR 3 xs = xs.map sg09) := by
      unfold Hid; rw [e5]
      refine List.map_congr_left fun x _ => ?_
      unfold rdR; rw [if_neg (by omega), if_pos rfl]
    clear e5 h5 h1
    go_enter Tryz.func88, Tryz.ntmps88
    go_wp2_with (go_at_call 118; (with_reducible refine (latnine_Read _ _ _ _ _ HR.out (by omega)).mono ?_); rintro e w1 ⟨a1, c1, rfl, hr1, hb1⟩)
    go_ret
    exact ⟨_, _, _, rfl, by rw [e.out]; exact hr1, hb1⟩
  by_cases h4 : n = 4
  · subst h4
    have e : Hid (readR 4 xs = xs.map sg10) := by
      unfold Hid; rw [e5]
      refine List.map_congr_left fun x _ => ?_
      unfold rdR; rw [if_neg (by omega), if_neg (by omega), if_pos rfl]
    clear e5 h5 h1 h3
    go_enter Tryz.func88, Tryz.ntmps88
    go_wp2_with (go_at_call 119; (with_reducible refine (winone_Read _ _ _ _ _ HR.out (by omega)).mono ?_); rintro e w1 ⟨a1, c1, rfl, hr1, hb1⟩)
    go_ret
    exact ⟨_, _, _, rfl, by rw [e.out]; exact hr1, hb1⟩
  have e : Hid (readR n xs = xs.map sg08) := by
    unfold Hid; rw [e5]
    refine List.map_congr_left fun x _ => ?_
    unfold rdR sg08; rw [if_neg (fun h => h1 h.1), if_neg h3, if_neg h4]
  have b1 : (n == 1) = false := by simpa using h1
  have b3 : (n == 3) = false := by simpa using h3
  have b4 : (n == 4) = false := by simpa using h4
  have b5 : (n == 5) = false := by simpa using h5
  clear e5 h1 h3 h4 h5
  go_enter Tryz.func88, Tryz.ntmps88
  go_wp2_with (go_at_call 120; (with_reducible refine (latin_Read _ _ _ _ _ HR.out (by omega)).mono ?_); rintro e w1 ⟨a1, c1, rfl, hr1, hb1⟩)
  go_ret
  exact ⟨_, _, _, rfl, by rw [e.out]; exact hr1, hb1⟩
end Go.Proofs.YtefhddbbiheadaaGreat
