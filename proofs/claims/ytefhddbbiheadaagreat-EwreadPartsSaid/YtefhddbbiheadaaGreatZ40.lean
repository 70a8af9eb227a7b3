/-
  Texts of ours laid together: R20.
-/
import Derived.Test.YtefhddbbiheadaaGreatRows
import Derived.Test.YtefhddbbiheadaaGreatZ39

/-! R20 -/
namespace Go.Proofs.YtefhddbbiheadaaGreat
open Go.RowKit
set_option linter.unusedVariables false

theorem drop1 {xs : List Int} {k : Nat} {x : Int} (h : xs[k]? = some x) : xs.drop k = x :: xs.drop (k + 1) := by
  have hk : k < xs.length := (List.getElem?_eq_some_iff.1 h).1
  have e : xs[k] = x := (List.getElem?_eq_some_iff.1 h).2
  rw [List.drop_eq_getElem_cons hk, e]
set_option maxHeartbeats 2000000 in
theorem ref20_Read (a : Option Addr) (len cap : Nat) (xs : List Int) (w : World) (hr : Reads .u8 w a len cap xs) (hN : len < 100000000) :
    Calls Tryz.prog 39 #[.slice a len cap] w fun e w' => ∃ v, e = .returned (.tuple #[v, .int .i64 (strW xs)]) ∧ Own .u8 5 w.heap.size w' v (readW xs) ∧ Below w.heap.size w w' := by
  have HR := hid hr
  have hsz := hid hr.size
  clear hr
  go_enter Tryz.func39, Tryz.ntmps39
  go_wp2
  go_loopw [4, 5, 6] (fun v s i wr => ∃ k j : Nat, ∃ O : List Int, k ≤ len ∧ i = .int .i64 k ∧ s = .int .i64 j ∧ j ≤ k ∧ O.length ≤ k ∧ Hid (O ++ rdE 61 unQ (xs.drop k) 0 = readW xs) ∧ Hid (j + stE 61 (xs.drop k) 0 = strW xs) ∧ Own .u8 5 w.heap.size wr v O ∧ Below w.heap.size w wr) (fun _ _ i _ => len - (intOf i).toNat)
  case atStart => exact ⟨0, 0, [], Nat.zero_le _, rfl, rfl, Nat.le_refl _, Nat.le_refl _, rfl, Nat.zero_add _, Own.nil _ _ _ _, Below.refl _ _⟩
  case round =>
    obtain ⟨k, j, O, hk, rfl, rfl, hj, hO, hn, hs, hown, hbel⟩ := hrel
    by_cases hlt : k < len
    · obtain ⟨b, off, x, rfl, _, hcx, h0, h1, hx⟩ := (HR.out.below hbel).get8 hlt
      have ht := take_esc (xs := xs) (k := k) 61 (by rw [hsz.out]; exact hk)
      have hd := drop1 hx.out.1
      have hn' := hn.out
      have hs' := hs.out
      rw [hd] at hn' hs' ht
      have hRk := hid (HR.out.below hbel)
      cases he : escP 61 (x :: xs.drop (k + 1)) with
      | some v =>
        rw [he] at ht
        have hv := escP_bd he
        have hk3 : k + 3 ≤ len := by
          obtain ⟨_, _, _, _, _, r, e, _⟩ := hv
          have := congrArg List.length e
          simp only [List.length_cons, List.length_drop] at this
          have := hsz.out
          omega
        rw [rdE_esc he, List.drop_drop, show k + 1 + 2 = k + 3 by omega] at hn'
        rw [stE_esc he, List.drop_drop, show k + 1 + 2 = k + 3 by omega] at hs'
        have HN : Hid ((O ++ [v]) ++ rdE 61 unQ (xs.drop (k + 3)) 0 = readW xs) := by unfold Hid; rw [← hn', List.append_assoc]; rfl
        have HS := hid hs'
        have HT1 := hid ht.1
        have HT2 := hid ht.2
        have hwv := mk_u8 hv.1 hv.2.1
        clear hn hs hn' hs' ht he hv hd
        go_wp2_with (first
          | (go_at_call 63; (with_reducible refine (take_r _ _ _ _ _ _ _ hRk.out (WalkArith.wf_i64 (by omega))).mono ?_); rintro e w' ⟨rfl, rfl⟩; rw [HT1.out, HT2.out]; simp only [Option.isSome_some, Option.getD_some])
          | (at_builtin; (refine wpList_push ST8 rfl _ _ rfl rfl ⟨_, rfl⟩ hown hbel (by omega) hwv ?_); intro v2 w2 ho2 hb2))
        go_roundw
        case rel => exact ⟨k + 3, j, _, by omega, by go_num, rfl, by omega, by simp; omega, HN, HS, ho2, hb2⟩
        case measure => simp [intOf]; omega
      | none =>
        rw [he] at ht
        rw [rdE_on he] at hn'
        rw [stE_on he] at hs'
        have HN : Hid ((O ++ [unQ x]) ++ rdE 61 unQ (xs.drop (k + 1)) 0 = readW xs) := by unfold Hid; rw [← hn', List.append_assoc]; rfl
        have HT1 := hid ht.1
        have HT2 := hid ht.2
        clear hn hs hn' ht he hd
        by_cases h95 : x = 95
        · subst h95
          have HS : Hid (j + stE 61 (xs.drop (k + 1)) 0 = strW xs) := by unfold Hid; rw [← hs', if_neg (by decide)]; omega
          have e9 : unQ 95 = 32 := rfl
          rw [e9] at HN
          clear hs'
          go_wp2_with (first
            | (go_at_call 63; (with_reducible refine (take_r _ _ _ _ _ _ _ hRk.out (WalkArith.wf_i64 (by omega))).mono ?_); rintro e w' ⟨rfl, rfl⟩; rw [HT1.out, HT2.out]; simp only [Option.isSome_none, Option.getD_none])
            | (at_builtin; (refine wpList_push ST8 rfl _ _ rfl rfl ⟨_, rfl⟩ hown hbel (by omega) (by decide) ?_); intro v2 w2 ho2 hb2))
          go_roundw
          case rel => exact ⟨k + 1, j, _, by omega, by go_num, rfl, by omega, by simp; omega, HN, HS, ho2, hb2⟩
          case measure => simp [intOf]; omega
        · have e9 : unQ x = x := by unfold unQ; rw [if_neg h95]
          rw [e9] at HN
          have b95 : (x == 95) = false := by simpa using h95
          by_cases h61 : x = 61
          · subst h61
            have HS : Hid ((j + 1) + stE 61 (xs.drop (k + 1)) 0 = strW xs) := by unfold Hid; rw [← hs', if_pos rfl]; omega
            clear hs' h95 e9 b95
            go_wp2_with (first
              | (go_at_call 63; (with_reducible refine (take_r _ _ _ _ _ _ _ hRk.out (WalkArith.wf_i64 (by omega))).mono ?_); rintro e w' ⟨rfl, rfl⟩; rw [HT1.out, HT2.out]; simp only [Option.isSome_none, Option.getD_none])
              | (at_builtin; (refine wpList_push ST8 rfl _ _ rfl rfl ⟨_, rfl⟩ hown hbel (by omega) (by decide) ?_); intro v2 w2 ho2 hb2))
            go_roundw
            case rel => exact ⟨k + 1, j + 1, _, by omega, by go_num, by go_num, by omega, by simp; omega, HN, HS, ho2, hb2⟩
            case measure => simp [intOf]; omega
          · have HS : Hid (j + stE 61 (xs.drop (k + 1)) 0 = strW xs) := by unfold Hid; rw [← hs', if_neg h61]; omega
            have b61 : (x == 61) = false := by simpa using h61
            have hwx := mk_u8 h0 h1
            clear hs' h95 e9 h61
            go_wp2_with (first
              | (go_at_call 63; (with_reducible refine (take_r _ _ _ _ _ _ _ hRk.out (WalkArith.wf_i64 (by omega))).mono ?_); rintro e w' ⟨rfl, rfl⟩; rw [HT1.out, HT2.out]; simp only [Option.isSome_none, Option.getD_none])
              | (at_builtin; (refine wpList_push ST8 rfl _ _ rfl rfl ⟨_, rfl⟩ hown hbel (by omega) hwx ?_); intro v2 w2 ho2 hb2))
            go_roundw
            case rel => exact ⟨k + 1, j, _, by omega, by go_num, rfl, by omega, by simp; omega, HN, HS, ho2, hb2⟩
            case measure => simp [intOf]; omega
    · have hn' := hn.out
      have hs' := hs.out
      rw [List.drop_of_length_le (by rw [hsz.out]; omega), rdE, List.append_nil] at hn'
      rw [List.drop_of_length_le (by rw [hsz.out]; omega), stE, Nat.add_zero] at hs'
      subst hn'
      have HS := hid hs'
      clear hn hs hs'
      go_wp2
      go_ret2
      exact ⟨_, by rw [← HS.out]; rfl, hown, hbel⟩
set_option maxHeartbeats 2000000 in
theorem ref20_Check (a : Option Addr) (len cap : Nat) (xs : List Int) (w : World) (hr : Reads .u8 w a len cap xs) (hN : len < 100000000) :
    Calls Tryz.prog 43 #[.slice a len cap] w fun e w' => e = .returned (.int .i64 (chkW xs)) ∧ Below w.heap.size w w' := by
  have HR := hid hr
  clear hr
  go_enter Tryz.func43, Tryz.ntmps43
  go_wp2
  go_loop [3] (fun i => ∃ k : Nat, k ≤ len ∧ i = .int .i64 k ∧ Hid ((xs.take k).all okW = true)) (fun i => len - (intOf i).toNat)
  case atStart => exact ⟨0, Nat.zero_le _, rfl, rfl⟩
  case round =>
    obtain ⟨k, hk, rfl, hn⟩ := hrel
    by_cases hlt : k < len
    · obtain ⟨b, off, x, rfl, _, hcx, h0, h1, hx⟩ := HR.out.get8 hlt
      cases hko : okW x
      · have HF : Hid (chkW xs = 3) := by unfold Hid chkW; rw [all_no hx.out.1 hko]; rfl
        have hsub : isB 4 x = false ∨ (isB 4 x = true ∧ x = 63) := by
          unfold okW at hko
          cases h4 : isB 4 x
          · exact .inl rfl
          · rw [h4] at hko
            exact .inr ⟨rfl, by simpa using hko⟩
        clear hko
        rcases hsub with h4 | ⟨h4, rfl⟩
        all_goals
          go_wp2_with (go_at_call 69; (with_reducible refine (is_r _ _ _ h0 h1).mono ?_); rintro e w' ⟨rfl, rfl⟩; rw [h4])
          go_ret
          exact ⟨ret_int HF.out.symm, Below.refl _ _⟩
      · have HY := hid (all_yes hx.out.2 hn.out hko)
        have hh : isB 4 x = true ∧ (x == 63) = false := by
          unfold okW at hko
          simp only [Bool.and_eq_true, decide_eq_true_eq] at hko
          exact ⟨hko.1, by simpa using hko.2⟩
        obtain ⟨h4, h63⟩ := hh
        clear hko
        go_wp2_with (go_at_call 69; (with_reducible refine (is_r _ _ _ h0 h1).mono ?_); rintro e w' ⟨rfl, rfl⟩; rw [h4])
        go_round
        case rel => exact ⟨k + 1, by omega, by go_num, HY⟩
        case measure => simp [intOf]; omega
    · have hall := hn.out
      rw [HR.out.all (show len ≤ k by omega)] at hall
      by_cases hz : strW xs = 0
      · have HF : Hid (chkW xs = 0) := by unfold Hid chkW; rw [if_pos hall, if_pos hz]
        have hq := ref20_Read a len cap xs w HR.out hN
        rw [hz] at hq
        have HQ := hid hq
        clear hq hz hall hn
        go_wp2_with (go_at_call 39; (with_reducible refine HQ.out.mono ?_); rintro e w1 ⟨v1, rfl, ho1, hb1⟩)
        go_ret
        exact ⟨ret_int HF.out.symm, hb1⟩
      · have HF : Hid (chkW xs = 3) := by unfold Hid chkW; rw [if_pos hall, if_neg hz]
        obtain ⟨s, hs⟩ : ∃ s, strW xs = s + 1 := ⟨strW xs - 1, by omega⟩
        have hq := ref20_Read a len cap xs w HR.out hN
        rw [hs] at hq
        have HQ := hid hq
        have h01 : decide ((0 : Int) < (s : Int) + 1) = true := decide_eq_true (by omega)
        clear hq hz hall hn hs
        go_wp2_with (go_at_call 39; (with_reducible refine HQ.out.mono ?_); rintro e w1 ⟨v1, rfl, ho1, hb1⟩)
        go_ret
        exact ⟨ret_int HF.out.symm, hb1⟩
end Go.Proofs.YtefhddbbiheadaaGreat
