/-
  Texts of ours laid together: R30.
-/
import Derived.Test.YtdglnpkkfkagaaaGreatZ37

/-! R30 -/
namespace Go.Proofs.YtdglnpkkfkagaaaGreat
open Go.RowKit
set_option linter.unusedVariables false

theorem layE_9 {n : Int} {t : List Int} (hn : 1 ≤ n ∧ n ≤ 5) (h : layE n t ≠ 0) : layE n t = 9 := by
  cases ha : t.all (hasR n)
  · exact (lay_no hn ha).2
  · exact absurd (lay_in hn ha).2 h
set_option maxRecDepth 100000 in
set_option maxHeartbeats 4000000 in
theorem ref30_Len (n k : Int) (a : Option Addr) (len cap : Nat) (xs : List Int) (w : World) (hr : Reads .i32 w a len cap xs) (hN : len < 1000000) :
    Calls Tryz.prog 24 #[.int .i64 n, .int .i64 k, .slice a len cap] w fun e w' => e = .returned (.tuple #[.int .i64 (ewcL n k xs), .int .i64 (ewcE n k xs)]) ∧ Below w.heap.size w w' := by
  have HL := hid (ref13_Lay n a len cap xs w hr (by omega))
  have hbd := ewcT_bd n k xs
  have hob := ewO_bd n
  have hll := layL_len n xs
  have hsz := hr.size
  rw [hsz] at hbd hll
  clear hr hsz
  by_cases hn : 1 ≤ n ∧ n ≤ 5
  · by_cases hk : k = 1 ∨ k = 2
    · have hE : ewcE n k xs = layE n xs := by unfold ewcE; rw [if_pos hn, if_pos hk]
      have hL : ewcL n k xs = if layE n xs = 0 then ewO n + ((ewTx k (layL n xs)).length : Int) else 0 := by unfold ewcL ewcT; rw [hE]
      rw [hE, hL]
      unfold ewcT at hbd
      by_cases h0 : layE n xs = 0
      · rw [if_pos h0, h0]
        rw [h0] at HL
        have HO := hid (ref29_Over n)
        have HB := hid (fun b l c W (h : Reads .u8 W b l c (layL n xs)) => ref14_Lay b l c (layL n xs) W h (by have := h.size; omega))
        have HQ := hid (fun b l c W (h : Reads .u8 W b l c (layL n xs)) => ref20_Lay b l c (layL n xs) W h (by have := h.size; omega))
        clear hE hL h0 hn hll
        generalize ewO n = O at *
        rcases hk with rfl | rfl
        · unfold ewTx at hbd ⊢
          rw [if_neg (by decide)] at hbd ⊢
          generalize layL n xs = L at *
          go_enter Tryz.func24, Tryz.ntmps24
          go_wp2_with (first
            | (go_at_call 31; (with_reducible refine HL.out.mono ?_); rintro e w1 ⟨a1, l1, c1, rfl, r1, h1⟩)
            | (go_at_call 45; (with_reducible refine (HO.out _).mono ?_); rintro e w2 ⟨rfl, h2⟩; have t2 := below_then h1 h2; have r12 := r1.below h2)
            | (go_at_call 46; (with_reducible refine (HB.out _ _ _ _ r12).mono ?_); rintro e w3 ⟨v3, rfl, o3, h3⟩; (obtain ⟨a3, c3, rfl, r3⟩ := o3.reads); have t3 := below_then t2 h3))
          go_ret2
          exact ⟨rfl, t3⟩
        · unfold ewTx at hbd ⊢
          rw [if_pos rfl] at hbd ⊢
          generalize layL n xs = L at *
          go_enter Tryz.func24, Tryz.ntmps24
          go_wp2_with (first
            | (go_at_call 31; (with_reducible refine HL.out.mono ?_); rintro e w1 ⟨a1, l1, c1, rfl, r1, h1⟩)
            | (go_at_call 45; (with_reducible refine (HO.out _).mono ?_); rintro e w2 ⟨rfl, h2⟩; have t2 := below_then h1 h2; have r12 := r1.below h2)
            | (go_at_call 47; (with_reducible refine (HQ.out _ _ _ _ r12).mono ?_); rintro e w3 ⟨v3, rfl, o3, h3⟩; (obtain ⟨a3, c3, rfl, r3⟩ := o3.reads); have t3 := below_then t2 h3))
          go_ret2
          exact ⟨rfl, t3⟩
      · have h9 := layE_9 hn h0
        rw [if_neg h0, h9]
        rw [h9] at HL
        clear hE hL h0 h9 hn
        rcases hk with rfl | rfl
        all_goals
          go_enter Tryz.func24, Tryz.ntmps24
          go_wp2_with (go_at_call 31; (with_reducible refine HL.out.mono ?_); rintro e w1 ⟨a1, l1, c1, rfl, r1, h1⟩)
          go_ret2
          exact ⟨rfl, h1⟩
    · have hE : ewcE n k xs = 3 := by unfold ewcE; rw [if_pos hn, if_neg hk]
      have hL : ewcL n k xs = 0 := by unfold ewcL; rw [hE]; rfl
      rw [hE, hL]
      have h10 : (layE n xs == 10) = false := by
        by_cases h0 : layE n xs = 0
        · rw [h0]; rfl
        · rw [layE_9 hn h0]; rfl
      have k1 : (k != 1) = true := by simp; omega
      have k2 : (k != 2) = true := by simp; omega
      generalize layE n xs = E at *
      clear hE hL hk hn
      go_enter Tryz.func24, Tryz.ntmps24
      go_wp2_with (go_at_call 31; (with_reducible refine HL.out.mono ?_); rintro e w1 ⟨a1, l1, c1, rfl, r1, h1⟩)
      go_ret2
      exact ⟨rfl, h1⟩
  · have hE : ewcE n k xs = 10 := by unfold ewcE; rw [if_neg hn]
    have hL : ewcL n k xs = 0 := by unfold ewcL; rw [hE]; rfl
    rw [hE, hL]
    rw [(lay_out hn).2] at HL
    clear hE hL hn
    go_enter Tryz.func24, Tryz.ntmps24
    go_wp2_with (go_at_call 31; (with_reducible refine HL.out.mono ?_); rintro e w1 ⟨a1, l1, c1, rfl, r1, h1⟩)
    go_ret2
    exact ⟨rfl, h1⟩
theorem ewcE_1 (n : Int) (t : List Int) : ewcE n 1 t = ewcE n 2 t := by
  unfold ewcE
  split
  · rw [if_pos (.inl rfl), if_pos (.inr rfl)]
  · rfl
set_option maxHeartbeats 1000000 in
theorem ref30_Better (n : Int) (a : Option Addr) (len cap : Nat) (xs : List Int) (w : World) (hr : Reads .i32 w a len cap xs) (hN : len < 1000000) :
    Calls Tryz.prog 29 #[.int .i64 n, .slice a len cap] w fun e w' => e = .returned (.tuple #[.int .i64 (ewcB n xs), .int .i64 (ewcE n 1 xs)]) ∧ Below w.heap.size w w' := by
  have H1 := hid (ref30_Len n 1 a len cap xs w hr hN)
  have H2 := hid (fun W (hW : Below w.heap.size w W) => ref30_Len n 2 a len cap xs W (hr.below hW) hN)
  unfold ewcB
  generalize ewcE n 2 xs = E2 at *
  generalize ewcL n 1 xs = L1 at *
  generalize ewcL n 2 xs = L2 at *
  generalize ewcE n 1 xs = E at *
  clear hr
  by_cases hE : E = 0
  · subst hE
    rw [if_pos rfl]
    by_cases hl : L2 ≤ L1
    all_goals
      first | rw [if_pos hl] | rw [if_neg hl]
      go_enter Tryz.func29, Tryz.ntmps29
      go_wp2_with (first
        | (go_at_call 24; (with_reducible refine H1.out.mono ?_); rintro e w1 ⟨rfl, h1⟩)
        | (go_at_call 24; (with_reducible refine (H2.out _ h1).mono ?_); rintro e w2 ⟨rfl, h2⟩; have t2 := below_then h1 h2))
      go_ret2
      exact ⟨rfl, t2⟩
  · rw [if_neg hE]
    have hE' : (E != 0) = true := by simpa using hE
    clear hE
    go_enter Tryz.func29, Tryz.ntmps29
    go_wp2_with (first
      | (go_at_call 24; (with_reducible refine H1.out.mono ?_); rintro e w1 ⟨rfl, h1⟩)
      | (go_at_call 24; (with_reducible refine (H2.out _ h1).mono ?_); rintro e w2 ⟨rfl, h2⟩; have t2 := below_then h1 h2))
    go_ret2
    exact ⟨rfl, t2⟩
set_option maxHeartbeats 1000000 in
theorem ref30_Fits (n k : Int) (a : Option Addr) (len cap : Nat) (xs : List Int) (room : Int) (w : World) (hr : Reads .i32 w a len cap xs) (hN : len < 1000000) :
    Calls Tryz.prog 48 #[.int .i64 n, .int .i64 k, .slice a len cap, .int .i64 room] w fun e w' => e = .returned (.bool (ewcF n k xs room)) ∧ Below w.heap.size w w' := by
  have HL := hid (ref30_Len n k a len cap xs w hr hN)
  have hsz := hr.size
  unfold ewcF
  generalize ewcL n k xs = L at *
  generalize ewcE n k xs = E at *
  clear hr
  by_cases hE : E = 0
  · subst hE
    rw [decide_eq_true rfl, Bool.true_and]
    by_cases hne : xs = []
    · rw [decide_eq_false (by simpa using hne), Bool.false_and]
      subst hne
      obtain rfl : 0 = len := hsz
      go_enter Tryz.func48, Tryz.ntmps48
      go_wp2_with (go_at_call 24; (with_reducible refine HL.out.mono ?_); rintro e w1 ⟨rfl, h1⟩)
      go_ret
      exact ⟨rfl, h1⟩
    · rw [decide_eq_true (show xs ≠ [] from hne), Bool.true_and]
      have hp : 0 < len := by have := List.length_pos_iff.2 hne; omega
      clear hne hsz
      by_cases hq : L ≤ room
      · rw [decide_eq_true hq, Bool.true_and]
        by_cases h2 : L ≤ 75
        all_goals
          first | rw [decide_eq_true h2] | rw [decide_eq_false h2]
          go_enter Tryz.func48, Tryz.ntmps48
          go_wp2_with (go_at_call 24; (with_reducible refine HL.out.mono ?_); rintro e w1 ⟨rfl, h1⟩)
          go_ret
          first | exact ⟨rfl, h1⟩ | exact ⟨ret_bool (by simp; omega), h1⟩
      · rw [decide_eq_false hq, Bool.false_and]
        go_enter Tryz.func48, Tryz.ntmps48
        go_wp2_with (go_at_call 24; (with_reducible refine HL.out.mono ?_); rintro e w1 ⟨rfl, h1⟩)
        go_ret
        exact ⟨rfl, h1⟩
  · rw [decide_eq_false hE, Bool.false_and]
    have hE' : (E == 0) = false := by simpa using hE
    clear hE hsz
    go_enter Tryz.func48, Tryz.ntmps48
    go_wp2_with (go_at_call 24; (with_reducible refine HL.out.mono ?_); rintro e w1 ⟨rfl, h1⟩)
    go_ret
    exact ⟨rfl, h1⟩
set_option maxHeartbeats 1000000 in
theorem ref30_Prefix (n k : Int) (a : Option Addr) (len cap : Nat) (xs : List Int) (room : Int) (w : World) (hr : Reads .i32 w a len cap xs) (hN : len < 1000000) :
    Calls Tryz.prog 25 #[.int .i64 n, .int .i64 k, .slice a len cap, .int .i64 room] w fun e w' => e = .returned (.int .i64 (ewcP n k xs room)) ∧ Below w.heap.size w w' := by
  have hl := hr.len_le
  have hsz := hr.size
  have hrm := hr.room
  have HR := hid hr
  clear hr
  go_enter Tryz.func25, Tryz.ntmps25
  go_wp2_with fail
  go_loopw [9] (fun i wr => ∃ j : Nat, j ≤ len ∧ i = .int .i64 (j + 1) ∧ Hid (∀ m, m < j → ewcF n k (xs.take (m + 1)) room = true) ∧ Below w.heap.size w wr) (fun i _ => len + 1 - (intOf i).toNat)
  case atStart => exact ⟨0, Nat.zero_le _, rfl, fun m hm => absurd hm (Nat.not_lt_zero _), Below.refl _ _⟩
  case round =>
    obtain ⟨j, hj, rfl, hf, hbel⟩ := hrel
    by_cases hlt : j < len
    · have hp := (HR.out.below hbel).pre (n := j + 1) (by omega)
      have HF := hid (ref30_Fits n k a (j + 1) cap (xs.take (j + 1)) room wr hp (by omega))
      have q1 : (0 : Int) ≤ (j : Int) + 1 := by omega
      have q2 : (j : Int) + 1 ≤ (cap : Int) := by omega
      have q3 : (j : Int) + 1 ≤ (len : Int) := by omega
      have q4 : ((j : Int) + 1).toNat = j + 1 := by omega
      cases hs : ewcF n k (xs.take (j + 1)) room
      · rw [hs] at HF
        have HP := hid (ewcP_at (n := n) (k := k) (t := xs) (r := room) (j := j) (by omega) hf.out (fun _ => hs))
        clear hs hp hf
        go_wp2_with (go_at_call 48; (with_reducible refine HF.out.mono ?_); rintro e w1 ⟨rfl, h1⟩)
        go_ret
        exact ⟨ret_int (by have := HP.out; omega), below_then hbel h1⟩
      · rw [hs] at HF
        have HN := hid (show ∀ m, m < j + 1 → ewcF n k (xs.take (m + 1)) room = true from fun m hm => by
          by_cases he : m = j
          · rw [he]; exact hs
          · exact hf.out m (by omega))
        clear hs hp hf
        go_wp2_with (go_at_call 48; (with_reducible refine HF.out.mono ?_); rintro e w1 ⟨rfl, h1⟩)
        go_roundw
        case rel => exact ⟨j + 1, by omega, by go_num, HN, below_then hbel h1⟩
        case measure => simp [intOf]; omega
    · obtain rfl : j = len := by omega
      have HP := hid (ewcP_at (n := n) (k := k) (t := xs) (r := room) (j := j) (by omega) hf.out (fun h => absurd h (by omega)))
      have q3 : ¬ (j : Int) + 1 ≤ (j : Int) := by omega
      clear hf
      go_wp2_with fail
      go_ret
      exact ⟨ret_int (by have := HP.out; omega), hbel⟩
end Go.Proofs.YtdglnpkkfkagaaaGreat
