/-
  Contracts of package reper's functions (those that the translation has).
-/
import Derived.Test.YtgeadmpbfbdopaaRows
import Derived.Test.YtgeadmpbfbdopaaBits
import Derived.Test.YtgeadmpbfbdopaaC03
import Derived.Test.YtgeadmpbfbdopaaC08
import Derived.Test.YtgeadmpbfbdopaaC09a
import Derived.Test.YtgeadmpbfbdopaaC10a
import Derived.Test.YtgeadmpbfbdopaaD12
namespace Go.Proofs.Ytgeadmpbfbdopaa
open Go.RowKit
set_option linter.unusedVariables false

/-- How many of the octets below k have a sign. -/
def cntS (sg : Int → Int) : Nat → Nat
  | 0 => 0
  | k + 1 => cntS sg k + if sg (k : Int) = 65533 then 0 else 1
set_option maxRecDepth 100000 in
theorem cnt_08 : cntS sg08 256 = 256 := by decide +kernel
set_option maxRecDepth 100000 in
theorem cnt_09 : cntS sg09 256 = 256 := by decide +kernel
set_option maxRecDepth 100000 in
theorem cnt_10 : cntS sg10 256 = 251 := by decide +kernel
/-- Counted from 0 on, where no charset has the number 0. -/
theorem all_0 (xs : List Int) : allR 0 xs = false := rfl
theorem all_1 {k : Nat} (h : k < 5) (xs : List Int) : allR ((k : Int) + 1) xs = xs.all (hasR ((k : Int) + 1)) := by
  unfold allR; rw [decide_eq_true (p := 1 ≤ (k : Int) + 1 ∧ (k : Int) + 1 ≤ 5) (by omega)]; rfl
theorem sel_hit0 {xs : List Int} {k : Nat} (hk : k < 6) (hb : allR (k : Int) xs = true) (hn : ∀ j : Nat, j < k → allR (j : Int) xs = false) : selN xs = (k : Int) ∧ selE xs = 0 := by
  cases k with
  | zero => cases hb
  | succ k =>
    rw [Int.natCast_succ] at hb ⊢
    refine sel_hit (by omega) (by rw [← all_1 (by omega)]; exact hb) fun j hj => ?_
    rw [← all_1 (by omega)]
    have := hn (j + 1) (by omega)
    rwa [Int.natCast_succ] at this
theorem sel_no0 {xs : List Int} (hn : ∀ j : Nat, j < 6 → allR (j : Int) xs = false) : selN xs = 0 ∧ selE xs = 7 := by
  refine sel_no fun j hj => ?_
  rw [← all_1 hj]
  have := hn (j + 1) (by omega)
  rwa [Int.natCast_succ] at this
theorem first_sel (c : Int) : selN [c] = first1 (fun n => hasR n c) 5 := by unfold selN; simp
theorem hasR_0 (c : Int) : hasR 0 c = false := hasR_none (by omega) c
theorem set_up (c : Int) (k : Nat) : setN c k = setN c (k - 1) + if hasR (k : Int) c = true then 2 ^ k else 0 := by
  cases k with
  | zero => rw [if_neg (by rw [show ((0 : Nat) : Int) = 0 from rfl, hasR_0]; simp)]; rfl
  | succ k => rfl
theorem set_lt (c : Int) (k : Nat) : 0 ≤ setN c (k - 1) ∧ setN c (k - 1) < 2 ^ k := by
  cases k with
  | zero => exact ⟨Int.le_refl _, (by decide : (0 : Int) < 2 ^ 0)⟩
  | succ k =>
    rw [Nat.add_sub_cancel]
    induction k with
    | zero => exact ⟨Int.le_refl _, (by decide : (0 : Int) < 2 ^ 1)⟩
    | succ k ih =>
      unfold setN
      have e : (2 : Int) ^ (k + 1 + 1) = 2 * 2 ^ (k + 1) := by rw [Int.pow_succ]; omega
      have p : (0 : Int) < 2 ^ (k + 1) := Int.pow_pos (by decide)
      split <;> omega
/-- A bit that lies above is put in. -/
theorem or_up (j : Nat) (a b : Int) (h0 : 0 ≤ a) (ha : a < 2 ^ j) (h1 : 0 ≤ b) (hb : b % 2 ^ j = 0) (h3 : a + b ≤ 9223372036854775807) : bits .or .i64 a b = a + b := by
  have h := or_i64 j b a h1 hb h0 ha (by omega)
  rw [Int.add_comm, ← h]
  show IntKind.i64.wrap ((BitVec.ofInt 64 a ||| BitVec.ofInt 64 b).toNat : Int) = IntKind.i64.wrap ((BitVec.ofInt 64 b ||| BitVec.ofInt 64 a).toNat : Int)
  rw [BitVec.or_comm]

theorem reper_isCharset (n : Int) (w : World) (b : Bool) (hb : decide (1 ≤ n ∧ n ≤ 5) = b) :
    Calls Try.prog 40 #[.int .i64 n] w fun e w' => e = .returned (.bool b) ∧ w = w' := by
  by_cases h1 : 1 ≤ n
  · have c1 : decide (1 ≤ n) = true := decide_eq_true h1
    have e : Hid (decide (n < 6) = b) := by
      unfold Hid
      rw [← hb]
      by_cases h5 : n < 6
      · rw [decide_eq_true h5, decide_eq_true ⟨h1, by omega⟩]
      · rw [decide_eq_false h5, decide_eq_false (by omega)]
    clear hb
    cases b with
    | true =>
      have c2 : n < 6 := of_decide_eq_true e.out
      go_enter Try.func40, Try.ntmps40
      go_wp2
      go_ret
      exact ⟨rfl, rfl⟩
    | false =>
      have c2 : ¬ n < 6 := of_decide_eq_false e.out
      have c3 : decide (n < 6) = false := e.out
      go_enter Try.func40, Try.ntmps40
      go_wp2
      go_ret
      exact ⟨rfl, rfl⟩
  · have c1 : decide (1 ≤ n) = false := decide_eq_false h1
    have e : Hid (b = false) := by unfold Hid; rw [← hb]; exact decide_eq_false (by omega)
    obtain rfl : b = false := e.out
    clear hb
    go_enter Try.func40, Try.ntmps40
    go_wp2
    go_ret
    exact ⟨rfl, rfl⟩
set_option maxHeartbeats 1000000 in
theorem reper_Has (n c : Int) (w : World) :
    Calls Try.prog 26 #[.int .i64 n, .int .i32 c] w fun e w' => e = .returned (.bool (hasR n c)) ∧ Below w.heap.size w w' := by
  by_cases h1 : n = 1
  · subst h1
    have e : Hid (hasR 1 c = decide (0 ≤ c ∧ c < 128)) := by unfold Hid hasR; rw [if_pos rfl]
    by_cases c0 : 0 ≤ c
    · by_cases c1 : c < 128
      · go_enter Try.func26, Try.ntmps26
        go_wp2
        go_ret
        exact ⟨ret_bool (by rw [e.out]; simp [c0, c1]), Below.refl _ _⟩
      · go_enter Try.func26, Try.ntmps26
        go_wp2
        go_ret
        exact ⟨ret_bool (by rw [e.out]; exact (decide_eq_false (by omega)).symm), Below.refl _ _⟩
    · go_enter Try.func26, Try.ntmps26
      go_wp2
      go_ret
      exact ⟨ret_bool (by rw [e.out]; exact (decide_eq_false (by omega)).symm), Below.refl _ _⟩
  by_cases h2 : n = 2
  · subst h2
    have e : Hid (hasR 2 c = hasI sg08 c) := rfl
    go_enter Try.func26, Try.ntmps26
    go_wp2_with (go_at_call 51; (with_reducible refine (latin_Has _ _).mono ?_); rintro e w' ⟨rfl, rfl⟩)
    go_ret
    exact ⟨ret_bool e.out.symm, Below.refl _ _⟩
  by_cases h3 : n = 3
  · subst h3
    have e : Hid (hasR 3 c = hasI sg09 c) := rfl
    go_enter Try.func26, Try.ntmps26
    go_wp2_with (go_at_call 52; (with_reducible refine (latnine_Has _ _).mono ?_); rintro e w1 ⟨rfl, hb1⟩)
    go_ret
    exact ⟨ret_bool e.out.symm, hb1⟩
  by_cases h4 : n = 4
  · subst h4
    have e : Hid (hasR 4 c = hasI sg10 c) := rfl
    go_enter Try.func26, Try.ntmps26
    go_wp2_with (go_at_call 53; (with_reducible refine (winone_Has _ _).mono ?_); rintro e w1 ⟨rfl, hb1⟩)
    go_ret
    exact ⟨ret_bool e.out.symm, hb1⟩
  by_cases h5 : n = 5
  · subst h5
    have e : Hid (hasR 5 c = scB c) := rfl
    go_enter Try.func26, Try.ntmps26
    go_wp2_with (go_at_call 54; (with_reducible refine (scalar_Is _ _).mono ?_); rintro e w' ⟨rfl, rfl⟩)
    go_ret
    exact ⟨ret_bool e.out.symm, Below.refl _ _⟩
  have e := hid (hasR_none (n := n) (by omega) c)
  have b1 : (n == 1) = false := by simpa using h1
  have b2 : (n == 2) = false := by simpa using h2
  have b3 : (n == 3) = false := by simpa using h3
  have b4 : (n == 4) = false := by simpa using h4
  have b5 : (n == 5) = false := by simpa using h5
  clear h1 h2 h3 h4 h5
  go_enter Try.func26, Try.ntmps26
  go_wp2
  go_ret
  exact ⟨ret_bool e.out.symm, Below.refl _ _⟩
set_option maxHeartbeats 1000000 in
theorem reper_Lacks (n : Int) (a : Option Addr) (len cap : Nat) (xs : List Int) (w : World) (hr : Reads .i32 w a len cap xs) :
    Calls Try.prog 41 #[.int .i64 n, .slice a len cap] w fun e w' => e = .returned (.int .i64 (lackR n xs)) ∧ Below w.heap.size w w' := by
  have hl := hr.len_le
  have HR := hid hr
  clear hr
  go_enter Try.func41, Try.ntmps41
  go_wp2
  go_loopw [9] (fun i wr => ∃ k : Nat, k ≤ len ∧ i = .int .i64 k ∧ Hid ((xs.take k).any (fun c => !hasR n c) = false) ∧ Below w.heap.size w wr) (fun i _ => len - (intOf i).toNat)
  case atStart => exact ⟨0, Nat.zero_le _, rfl, rfl, Below.refl _ _⟩
  case round =>
    obtain ⟨k, hk, rfl, hn, hB⟩ := hrel
    by_cases hlt : k < len
    · obtain ⟨b, off, x, rfl, _, hc, h0, h1, hx⟩ := (HR.out.below hB).getR hlt
      cases hs : hasR n x
      · have H := hid hs
        go_wp2_with (go_at_call 26; (with_reducible refine (reper_Has _ _ _).mono ?_); rintro e w1 ⟨rfl, hb1⟩; have hB1 := below_then' hB hb1 (Nat.le_refl _))
        go_ret
        exact ⟨ret_int (idx_hit hx.out.1 hn.out (by simp [H.out])).symm, hB1⟩
      · have H := hid hs
        go_wp2_with (go_at_call 26; (with_reducible refine (reper_Has _ _ _).mono ?_); rintro e w1 ⟨rfl, hb1⟩; have hB1 := below_then' hB hb1 (Nat.le_refl _))
        go_roundw
        case rel => exact ⟨k + 1, by omega, by go_num, none_yes hx.out.2 hn.out (by simp [H.out]), hB1⟩
        case measure => simp [intOf]; omega
    · go_wp2
      go_ret
      exact ⟨ret_int (by unfold lackR; rw [← HR.out.all (show len ≤ k by omega)]; exact (idx_none hn.out).symm), hB⟩
theorem reper_All (n : Int) (a : Option Addr) (len cap : Nat) (xs : List Int) (w : World) (hr : Reads .i32 w a len cap xs) :
    Calls Try.prog 23 #[.int .i64 n, .slice a len cap] w fun e w' => e = .returned (.bool (allR n xs)) ∧ Below w.heap.size w w' := by
  have HR := hid hr
  clear hr
  have hA : decide (lackR n xs < 0) = xs.all (hasR n) := by unfold lackR; rw [idx_neg]; simp
  cases hc : decide (1 ≤ n ∧ n ≤ 5)
  · have e : Hid (allR n xs = false) := by unfold Hid allR; rw [hc]; rfl
    have hq := reper_isCharset n w false hc
    clear hA hc
    go_enter Try.func23, Try.ntmps23
    go_wp2_with (go_at_call 40; (with_reducible refine hq.mono ?_); rintro e w1 ⟨rfl, rfl⟩)
    go_ret
    exact ⟨ret_bool (by rw [e.out]), Below.refl _ _⟩
  · have e : Hid (allR n xs = decide (lackR n xs < 0)) := by unfold Hid allR; rw [hc, hA]; rfl
    have hq := reper_isCharset n w true hc
    clear hA hc
    go_enter Try.func23, Try.ntmps23
    go_wp2_with (first
      | (go_at_call 40; (with_reducible refine hq.mono ?_); rintro e w1 ⟨rfl, rfl⟩)
      | (go_at_call 41; (with_reducible refine (reper_Lacks _ _ _ _ _ _ HR.out).mono ?_); rintro e w1 ⟨rfl, hb1⟩))
    all_goals
      go_ret
      exact ⟨ret_bool (by rw [e.out]; try simp [*]), hb1⟩
set_option maxHeartbeats 1000000 in
theorem reper_Select (a : Option Addr) (len cap : Nat) (xs : List Int) (w : World) (hr : Reads .i32 w a len cap xs) :
    Calls Try.prog 37 #[.slice a len cap] w fun e w' => e = .returned (.tuple #[.int .i64 (selN xs), .int .i64 (selE xs)]) ∧ Below w.heap.size w w' := by
  have HR := hid hr
  clear hr
  go_enter Try.func37, Try.ntmps37
  go_wp2
  go_loopw [5] (fun i wr => ∃ k : Nat, k ≤ 6 ∧ i = .int .i64 k ∧ Hid (∀ j : Nat, j < k → allR (j : Int) xs = false) ∧ Below w.heap.size w wr) (fun i _ => 6 - (intOf i).toNat)
  case atStart => exact ⟨0, Nat.zero_le _, rfl, fun j hj => by omega, Below.refl _ _⟩
  case round =>
    obtain ⟨k, hk, rfl, hn, hB⟩ := hrel
    by_cases hlt : k < 6
    · have R1 := HR.out.below hB
      cases hs : allR (k : Int) xs
      · have H := hid hs
        go_wp2_with (go_at_call 23; (with_reducible refine (reper_All _ _ _ _ _ _ R1).mono ?_); rintro e w1 ⟨rfl, hb1⟩; have hB1 := below_then' hB hb1 (Nat.le_refl _))
        go_roundw
        case rel =>
          refine ⟨k + 1, by omega, by go_num, fun i hi => ?_, hB1⟩
          by_cases hik : i < k
          · exact hn.out i hik
          · obtain rfl : i = k := by omega
            exact H.out
        case measure => simp [intOf]; omega
      · have H := hid (sel_hit0 hlt hs hn.out)
        go_wp2_with (go_at_call 23; (with_reducible refine (reper_All _ _ _ _ _ _ R1).mono ?_); rintro e w1 ⟨rfl, hb1⟩; have hB1 := below_then' hB hb1 (Nat.le_refl _))
        go_ret2
        exact ⟨ret_ii H.out.1.symm H.out.2.symm, hB1⟩
    · have hk6 : k = 6 := by omega
      subst hk6
      have H := hid (sel_no0 hn.out)
      go_wp2
      go_ret2
      exact ⟨ret_ii H.out.1.symm H.out.2.symm, hB⟩
end Go.Proofs.Ytgeadmpbfbdopaa
