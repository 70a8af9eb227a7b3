/-
  Contracts of the document's own functions of layer 21 (those that the translation has).
-/
import Derived.Test.YtckeejhbfamebaaRows
import Derived.Test.YtckeejhbfamebaaR01
import Derived.Test.YtckeejhbfamebaaR01k
import Derived.Test.YtckeejhbfamebaaR02
import Derived.Test.YtckeejhbfamebaaD21
namespace Go.Proofs.Ytckeejhbfamebaa
open Go.RowKit
set_option linter.unusedVariables false

theorem drop1p {xs : List Int} {k : Nat} {x : Int} (h : xs[k]? = some x) : xs.drop k = x :: xs.drop (k + 1) := by
  have hk : k < xs.length := (List.getElem?_eq_some_iff.1 h).1
  have e : xs[k] = x := (List.getElem?_eq_some_iff.1 h).2
  rw [List.drop_eq_getElem_cons hk, e]
theorem ref21_one (c : Int) (w : World) (h0 : 0 ≤ c) (h1 : c ≤ 255) :
    Calls Try.prog 24 #[.int .u8 c] w fun e w' => ∃ a' cap', e = .returned (.slice a' (oneP c).length cap') ∧ Reads .u8 w' a' (oneP c).length cap' (oneP c) ∧ Below w.heap.size w w' := by
  cases hk : isB 256 c
  · have e : Hid (oneP c = escI [] 37 c) := by unfold Hid oneP; rw [hk]; rfl
    have HR := hid (Reads.nil .u8 w none 0 (Nat.zero_le _))
    go_enter Try.func24, Try.ntmps24
    go_wp2_with (first
      | (go_at_call 26; (with_reducible refine (is_r _ _ _ h0 h1).mono ?_); rintro e w' ⟨rfl, rfl⟩; rw [hk])
      | (go_at_call 32; (with_reducible refine (put_r _ _ _ _ _ _ _ HR.out (by decide) h0 h1 (by decide)).mono ?_); rintro e w1 ⟨a1, l1, c1, rfl, r1, h1'⟩))
    go_ret
    have hl := r1.size
    rw [← e.out] at r1 hl
    exact ⟨_, _, by rw [hl]; rfl, by rw [hl]; exact r1, h1'⟩
  · have e : Hid (oneP c = [c]) := by unfold Hid oneP; rw [hk]; rfl
    go_enter Try.func24, Try.ntmps24
    go_wp2_with (go_at_call 26; (with_reducible refine (is_r _ _ _ h0 h1).mono ?_); rintro e w' ⟨rfl, rfl⟩; rw [hk])
    go_ret
    refine ⟨_, _, by rw [e.out]; rfl, ?_, (Below.refl _ _).alloc (Nat.le_refl _) _⟩
    rw [e.out]
    exact Reads.lit .u8 5 w [c] (show (1 : Nat) ≤ maxLen by decide) (by intro x hx; simp at hx; subst hx; exact mk_u8 h0 h1)
theorem ref21_One (c : Int) (w : World) (h0 : 0 ≤ c) (h1 : c ≤ 255) :
    Calls Try.prog 12 #[.int .u8 c] w fun e w' => e = .returned (.int .i64 (oneP c).length) ∧ Below w.heap.size w w' := by
  go_enter Try.func12, Try.ntmps12
  go_wp2_with (go_at_call 24; (with_reducible refine (ref21_one _ _ h0 h1).mono ?_); rintro e w1 ⟨a1, c1, rfl, r1, h1'⟩)
  go_ret
  exact ⟨rfl, h1'⟩
theorem ref21_Lay (a : Option Addr) (len cap : Nat) (xs : List Int) (w : World) (hr : Reads .u8 w a len cap xs) (hN : len < 100000000) :
    Calls Try.prog 10 #[.slice a len cap] w fun e w' => ∃ v, e = .returned v ∧ Own .u8 5 w.heap.size w' v (layP xs) ∧ Below w.heap.size w w' := by
  have HR := hid hr
  have hsz := hid hr.size
  clear hr
  go_enter Try.func10, Try.ntmps10
  go_wp2
  go_loopw [3, 4] (fun v i wr => ∃ k : Nat, k ≤ len ∧ i = .int .i64 k ∧ Own .u8 5 w.heap.size wr v (layP (xs.take k)) ∧ Below w.heap.size w wr) (fun _ i _ => len - (intOf i).toNat)
  case atStart => exact ⟨0, Nat.zero_le _, rfl, Own.nil _ _ _ _, Below.refl _ _⟩
  case round =>
    obtain ⟨k, hk, rfl, hown, hbel⟩ := hrel
    by_cases hlt : k < len
    · obtain ⟨b, off, x, rfl, _, hcx, h0, h1, hx⟩ := (HR.out.below hbel).get8 hlt
      have hll := layP_len (xs.take k)
      rw [List.length_take] at hll
      have h3 := oneP_len x
      have e1 := hid (layP_snoc hx.out.2)
      go_wp2_with (first
        | (go_at_call 24; (with_reducible refine (ref21_one _ _ h0 h1).mono ?_); rintro e w1 ⟨a1, c1, rfl, r1, hb1⟩; have ho1 := hown.below hb1; have hb1' := below_then' hbel hb1 (Nat.le_refl _))
        | (at_builtin; (refine wpList_more ST8 rfl _ _ rfl rfl rfl ho1 hb1' r1 (by omega) ?_); intro v2 w2 ho2 hb2))
      rw [← e1.out] at ho2
      go_roundw
      case rel => exact ⟨k + 1, by omega, by go_num, ho2, hb2⟩
      case measure => simp [intOf]; omega
    · go_wp2
      go_ret
      exact ⟨_, rfl, by rw [HR.out.all (show len ≤ k by omega)] at hown; exact hown, hbel⟩
set_option maxHeartbeats 2000000 in
theorem ref21_Read (a : Option Addr) (len cap : Nat) (xs : List Int) (w : World) (hr : Reads .u8 w a len cap xs) (hN : len < 100000000) :
    Calls Try.prog 15 #[.slice a len cap] w fun e w' => ∃ v, e = .returned (.tuple #[v, .int .i64 (strP xs), .bool (rightP xs)]) ∧ Own .u8 5 w.heap.size w' v (readP xs) ∧ Below w.heap.size w w' := by
  have HR := hid hr
  have hsz := hid hr.size
  clear hr
  go_enter Try.func15, Try.ntmps15
  go_wp2
  go_loopw [5, 6, 7, 8] (fun v s q i wr => ∃ k j : Nat, ∃ O : List Int, ∃ r : Bool, k ≤ len ∧ i = .int .i64 k ∧ s = .int .i64 j ∧ q = .bool r ∧ j ≤ k ∧ O.length ≤ k ∧ Hid (O ++ rdE 37 selfI (xs.drop k) 0 = readP xs) ∧ Hid (j + stE 37 (xs.drop k) 0 = strP xs) ∧ Hid ((r && riE 37 (isB 256) (xs.drop k) 0) = rightP xs) ∧ Own .u8 5 w.heap.size wr v O ∧ Below w.heap.size w wr) (fun _ _ _ i _ => len - (intOf i).toNat)
  case atStart => exact ⟨0, 0, [], true, Nat.zero_le _, rfl, rfl, rfl, Nat.le_refl _, Nat.le_refl _, rfl, Nat.zero_add _, Bool.true_and _, Own.nil _ _ _ _, Below.refl _ _⟩
  case round =>
    obtain ⟨k, j, O, r, hk, rfl, rfl, rfl, hj, hO, hn, hs, hq, hown, hbel⟩ := hrel
    by_cases hlt : k < len
    · obtain ⟨b, off, x, rfl, _, hcx, h0, h1, hx⟩ := (HR.out.below hbel).get8 hlt
      have ht := take_esc (xs := xs) (k := k) 37 (by rw [hsz.out]; exact hk)
      have hd := drop1p hx.out.1
      have hn' := hn.out
      have hs' := hs.out
      have hq' := hq.out
      rw [hd] at hn' hs' ht hq'
      have hRk := hid (HR.out.below hbel)
      cases he : escP 37 (x :: xs.drop (k + 1)) with
      | some v =>
        rw [he] at ht
        have hv := escP_bd he
        have hk3 : k + 3 ≤ len := by
          obtain ⟨_, _, _, _, _, r, e, _⟩ := hv
          have := congrArg List.length e
          simp only [List.length_cons, List.length_drop] at this
          have := hsz.out
          omega
        rw [rdE_esc he, List.drop_drop, show k + 1 + 2 = k + 3 by omega] at hn'
        rw [stE_esc he, List.drop_drop, show k + 1 + 2 = k + 3 by omega] at hs'
        rw [riE_esc he, List.drop_drop, show k + 1 + 2 = k + 3 by omega] at hq'
        have HN : Hid ((O ++ [v]) ++ rdE 37 selfI (xs.drop (k + 3)) 0 = readP xs) := by unfold Hid; rw [← hn', List.append_assoc]; rfl
        have HS := hid hs'
        have HB := hid hq'
        have HT1 := hid ht.1
        have HT2 := hid ht.2
        have hwv := mk_u8 hv.1 hv.2.1
        clear hn hs hq hn' hs' hq' ht he hv hd
        go_wp2_with (first
          | (go_at_call 25; (with_reducible refine (take_r _ _ _ _ _ _ _ hRk.out (WalkArith.wf_i64 (by omega))).mono ?_); rintro e w' ⟨rfl, rfl⟩; rw [HT1.out, HT2.out]; simp only [Option.isSome_some, Option.getD_some])
          | (at_builtin; (refine wpList_push ST8 rfl _ _ rfl rfl ⟨_, rfl⟩ hown hbel (by omega) hwv ?_); intro v2 w2 ho2 hb2))
        go_roundw
        case rel => exact ⟨k + 3, j, _, _, by omega, by go_num, rfl, rfl, by omega, by simp; omega, HN, HS, HB, ho2, hb2⟩
        case measure => simp [intOf]; omega
      | none =>
        rw [he] at ht
        rw [rdE_on he] at hn'
        rw [stE_on he] at hs'
        rw [riE_on he, ← Bool.and_assoc] at hq'
        have HN : Hid ((O ++ [x]) ++ rdE 37 selfI (xs.drop (k + 1)) 0 = readP xs) := by unfold Hid; rw [← hn', List.append_assoc]; rfl
        have HT1 := hid ht.1
        have HT2 := hid ht.2
        have HB := hid hq'
        have hwx := mk_u8 h0 h1
        have hrr : r = false ∨ (r = true ∧ True) := by cases r <;> simp
        clear hn hs hq hn' hq' ht he hd
        by_cases h37 : x = 37
        · subst h37
          have HS : Hid ((j + 1) + stE 37 (xs.drop (k + 1)) 0 = strP xs) := by unfold Hid; rw [← hs', if_pos rfl]; omega
          clear hs'
          rcases hrr with rfl | ⟨rfl, hk⟩
          all_goals
            go_wp2_with (first
              | (go_at_call 25; (with_reducible refine (take_r _ _ _ _ _ _ _ hRk.out (WalkArith.wf_i64 (by omega))).mono ?_); rintro e w' ⟨rfl, rfl⟩; rw [HT1.out, HT2.out]; simp only [Option.isSome_none, Option.getD_none])
              | (go_at_call 26; (with_reducible refine (is_r _ _ _ h0 h1).mono ?_); rintro e w' ⟨rfl, rfl⟩)
              | (at_builtin; (refine wpList_push ST8 rfl _ _ rfl rfl ⟨_, rfl⟩ hown hbel (by omega) hwx ?_); intro v2 w2 ho2 hb2))
            go_roundw
            case rel => exact ⟨k + 1, j + 1, _, _, by omega, by go_num, by go_num, rfl, by omega, by simp; omega, HN, HS, HB, ho2, hb2⟩
            case measure => simp [intOf]; omega
        · have HS : Hid (j + stE 37 (xs.drop (k + 1)) 0 = strP xs) := by unfold Hid; rw [← hs', if_neg h37]; omega
          have b37 : (x == 37) = false := by simpa using h37
          clear hs' h37
          rcases hrr with rfl | ⟨rfl, hk⟩
          all_goals
            go_wp2_with (first
              | (go_at_call 25; (with_reducible refine (take_r _ _ _ _ _ _ _ hRk.out (WalkArith.wf_i64 (by omega))).mono ?_); rintro e w' ⟨rfl, rfl⟩; rw [HT1.out, HT2.out]; simp only [Option.isSome_none, Option.getD_none])
              | (go_at_call 26; (with_reducible refine (is_r _ _ _ h0 h1).mono ?_); rintro e w' ⟨rfl, rfl⟩)
              | (at_builtin; (refine wpList_push ST8 rfl _ _ rfl rfl ⟨_, rfl⟩ hown hbel (by omega) hwx ?_); intro v2 w2 ho2 hb2))
            go_roundw
            case rel => exact ⟨k + 1, j, _, _, by omega, by go_num, rfl, rfl, by omega, by simp; omega, HN, HS, HB, ho2, hb2⟩
            case measure => simp [intOf]; omega
    · have hn' := hn.out
      have hs' := hs.out
      have hq' := hq.out
      rw [List.drop_of_length_le (by rw [hsz.out]; omega), rdE, List.append_nil] at hn'
      rw [List.drop_of_length_le (by rw [hsz.out]; omega), stE, Nat.add_zero] at hs'
      rw [List.drop_of_length_le (by rw [hsz.out]; omega), riE, Bool.and_true] at hq'
      subst hn'
      have HS := hid hs'
      have HQ := hid hq'
      clear hn hs hs' hq hq'
      go_wp2
      go_ret3
      exact ⟨_, by rw [← HS.out, ← HQ.out]; rfl, hown, hbel⟩
theorem ref21_Check (a : Option Addr) (len cap : Nat) (xs : List Int) (w : World) (hr : Reads .u8 w a len cap xs) (hN : len < 100000000) :
    Calls Try.prog 19 #[.slice a len cap] w fun e w' => e = .returned (.int .i64 (chkP xs)) ∧ Below w.heap.size w w' := by
  have HR := hid hr
  have hq := ref21_Read a len cap xs w hr hN
  clear hr
  cases hz : rightP xs
  all_goals
    have HF : Hid (chkP xs = if rightP xs = true then 0 else 3) := rfl
    rw [hz] at HF hq
    have HQ := hid hq
    clear hq hz
    go_enter Try.func19, Try.ntmps19
    go_wp2_with (go_at_call 15; (with_reducible refine HQ.out.mono ?_); rintro e w1 ⟨v1, rfl, ho1, hb1⟩)
    go_ret
    exact ⟨ret_int HF.out.symm, hb1⟩
end Go.Proofs.Ytckeejhbfamebaa
