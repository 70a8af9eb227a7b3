/-
  Texts of ours laid together: C29, R27.
-/
import Derived.Deep.RegionHeld3
import Derived.Test.YtefhddbbiheadaaGreatZ43

/-! C29 -/
namespace Go.Proofs.YtefhddbbiheadaaGreat
open Go.RowKit
set_option linter.unusedVariables false

theorem ewform_isRight (k : Int) (a : Option Addr) (len cap : Nat) (xs : List Int) (w : World) (hr : Reads .u8 w a len cap xs) (hN : len < 1000000) :
    Calls Tryz.prog 50 #[.int .i64 k, .slice a len cap] w fun e w' => e = .returned (.bool (if k = 1 then decide (codE xs = 0) else decide (chkW xs = 0))) ∧ Below w.heap.size w w' := by
  by_cases hk : k = 1
  · subst hk
    rw [if_pos rfl]
    have H := hid (bcode_Right a len cap xs w hr (by omega))
    generalize decide (codE xs = 0) = E at *
    clear hr
    go_enter Tryz.func50, Tryz.ntmps50
    go_wp2_with (go_at_call 85; (with_reducible refine H.out.mono ?_); rintro e w1 ⟨rfl, hb1⟩)
    go_ret
    exact ⟨rfl, hb1⟩
  · rw [if_neg hk]
    have H := hid (qword_Check a len cap xs w hr (by omega))
    have hk' : (k == 1) = false := by simpa using hk
    generalize chkW xs = E at *
    clear hr hk
    go_enter Tryz.func50, Tryz.ntmps50
    go_wp2_with (go_at_call 86; (with_reducible refine H.out.mono ?_); rintro e w1 ⟨rfl, hb1⟩)
    go_ret
    exact ⟨ret_bool (by first | rfl | simp), hb1⟩
theorem ewform_decode (k : Int) (a : Option Addr) (len cap : Nat) (xs : List Int) (w : World) (hr : Reads .u8 w a len cap xs) (hN : len < 1000000) :
    Calls Tryz.prog 89 #[.int .i64 k, .slice a len cap] w fun e w' => ∃ a' l' c', e = .returned (.slice a' l' c') ∧ Reads .u8 w' a' l' c' (if k = 1 then looL xs else readW xs) ∧ Below w.heap.size w w' := by
  by_cases hk : k = 1
  · subst hk
    rw [if_pos rfl]
    have H := hid (bloose_Read a len cap xs w hr (by omega))
    generalize looL xs = E at *
    clear hr
    go_enter Tryz.func89, Tryz.ntmps89
    go_wp2_with (go_at_call 121; (with_reducible refine H.out.mono ?_); rintro e w1 ⟨a1, l1, c1, rfl, r1, hb1⟩)
    go_ret
    exact ⟨_, _, _, rfl, r1, hb1⟩
  · rw [if_neg hk]
    have H := hid (qword_Read a len cap xs w hr (by omega))
    have hk' : (k == 1) = false := by simpa using hk
    generalize readW xs = E at *
    clear hr hk
    go_enter Tryz.func89, Tryz.ntmps89
    go_wp2_with (go_at_call 122; (with_reducible refine H.out.mono ?_); rintro e w1 ⟨a1, l1, c1, rfl, r1, hb1⟩)
    go_ret
    exact ⟨_, _, _, rfl, r1, hb1⟩
theorem ewform_charsetOf (a : Option Addr) (len cap : Nat) (xs : List Int) (w : World) (hr : Reads .u8 w a len cap xs) (hN : len < 1000000) :
    Calls Tryz.prog 48 #[.slice a len cap] w fun e w' => e = .returned (.int .i64 (if csNE (keyB xs) = 0 then csN (keyB xs) else 2)) ∧ Below w.heap.size w w' := by
  have H := hid (label_Charset a len cap xs w hr (by omega))
  clear hr
  generalize csNE (keyB xs) = E at *
  generalize csN (keyB xs) = C at *
  by_cases hE : E = 0
  · subst hE
    rw [if_pos rfl]
    go_enter Tryz.func48, Tryz.ntmps48
    go_wp2_with (go_at_call 49; (with_reducible refine H.out.mono ?_); rintro e w1 ⟨rfl, hb1⟩)
    go_ret
    exact ⟨rfl, hb1⟩
  · rw [if_neg hE]
    have hE' : (E != 0) = true := by simpa using hE
    clear hE
    go_enter Tryz.func48, Tryz.ntmps48
    go_wp2_with (go_at_call 49; (with_reducible refine H.out.mono ?_); rintro e w1 ⟨rfl, hb1⟩)
    go_ret
    exact ⟨rfl, hb1⟩
theorem ewform_Charset (a : Option Addr) (len cap : Nat) (xs : List Int) (w : World) (hr : Reads .u8 w a len cap xs) (hN : len < 100000) :
    Calls Tryz.prog 29 #[.slice a len cap] w fun e w' => e = .returned (.int .i64 (ewH xs)) ∧ Below w.heap.size w w' := by
  have HP := hid (ewform_Parse a len cap xs w hr hN)
  have hNl := ewN_len xs
  rw [hr.size] at hNl
  have HC := hid (fun a1 l1 c1 W (h : Reads .u8 W a1 l1 c1 (ewN xs)) => ewform_charsetOf a1 l1 c1 _ W h (by have := h.size; omega))
  unfold ewH
  clear hr hNl
  generalize (if csNE (keyB (ewN xs)) = 0 then csN (keyB (ewN xs)) else 2) = H at *
  generalize ewN xs = N at *
  generalize ewT xs = T at *
  generalize ewK xs = K at *
  generalize ewE xs = E at *
  by_cases hE : E = 0
  · subst hE
    rw [if_pos rfl]
    go_enter Tryz.func29, Tryz.ntmps29
    go_wp2_with (first
      | (go_at_call 47; (with_reducible refine HP.out.mono ?_); rintro e w1 ⟨a1, l1, c1, a2, l2, c2, rfl, r1, r2, hb1⟩; have hal := (Below.refl w1.heap.size w1).alloc (Nat.le_refl _) (.cells #[.slice a1 l1 c1, .int .i64 K, .slice a2 l2 c2] 67); have r1' := r1.below hal; have hw := hb1.alloc hb1.size (.cells #[.slice a1 l1 c1, .int .i64 K, .slice a2 l2 c2] 67))
      | (go_at_call 48; (with_reducible refine (HC.out _ _ _ _ r1').mono ?_); rintro e w2 ⟨rfl, hb2⟩; have hw2 := below_then hw hb2))
    go_ret
    exact ⟨rfl, hw2⟩
  · rw [if_neg hE]
    have hE' : (E != 0) = true := by simpa using hE
    clear hE
    go_enter Tryz.func29, Tryz.ntmps29
    go_wp2_with (go_at_call 47; (with_reducible refine HP.out.mono ?_); rintro e w1 ⟨a1, l1, c1, a2, l2, c2, rfl, r1, r2, hb1⟩; have hw := hb1.alloc hb1.size (.cells #[.slice a1 l1 c1, .int .i64 K, .slice a2 l2 c2] 67))
    go_ret
    exact ⟨rfl, hw⟩
theorem ewform_Strict (a : Option Addr) (len cap : Nat) (xs : List Int) (w : World) (hr : Reads .u8 w a len cap xs) (hN : len < 100000) :
    Calls Tryz.prog 30 #[.slice a len cap] w fun e w' => e = .returned (.bool (ewS xs)) ∧ Below w.heap.size w w' := by
  have HP := hid (ewform_Parse a len cap xs w hr hN)
  have hNl := ewN_len xs
  have hTl := ewT_len xs
  rw [hr.size] at hNl hTl
  have H1 := hid (fun a1 l1 c1 W (h : Reads .u8 W a1 l1 c1 (ewN xs)) => label_Charset a1 l1 c1 _ W h (by have := h.size; omega))
  have H2 := hid (fun a1 l1 c1 W (h : Reads .u8 W a1 l1 c1 (ewT xs)) => ewform_isRight (ewK xs) a1 l1 c1 _ W h (by have := h.size; omega))
  unfold ewS
  clear hr hNl hTl
  generalize (if ewK xs = 1 then decide (codE (ewT xs) = 0) else decide (chkW (ewT xs) = 0)) = R at *
  generalize csNE (keyB (ewN xs)) = C at *
  generalize csN (keyB (ewN xs)) = D at *
  generalize ewN xs = N at *
  generalize ewT xs = T at *
  generalize ewK xs = K at *
  generalize ewE xs = E at *
  by_cases hE : E = 0
  · subst hE
    rw [decide_eq_true rfl, Bool.true_and]
    by_cases hC : C = 0
    · subst hC
      rw [decide_eq_true rfl, Bool.true_and]
      go_enter Tryz.func30, Tryz.ntmps30
      go_wp2_with (first
        | (go_at_call 47; (with_reducible refine HP.out.mono ?_); rintro e w1 ⟨a1, l1, c1, a2, l2, c2, rfl, r1, r2, hb1⟩; have hal := (Below.refl w1.heap.size w1).alloc (Nat.le_refl _) (.cells #[.slice a1 l1 c1, .int .i64 K, .slice a2 l2 c2] 67); have r1' := r1.below hal; have r2' := r2.below hal; have hw := hb1.alloc hb1.size (.cells #[.slice a1 l1 c1, .int .i64 K, .slice a2 l2 c2] 67); have BW := Blk.new w1 67 #[.slice a1 l1 c1, .int .i64 K, .slice a2 l2 c2])
        | (go_at_call 49; (with_reducible refine (H1.out _ _ _ _ r1').mono ?_); rintro e w2 ⟨rfl, hb2⟩; have B2 := BW.below hb2 (by simp); have d1 := B2.cell (i := 1) rfl; have d2 := B2.cell (i := 2) rfl; have r22 := r2'.below hb2; have hw2 := below_then hw hb2)
        | (go_at_call 50; (with_reducible refine (H2.out _ _ _ _ r22).mono ?_); rintro e w3 ⟨rfl, hb3⟩; have hw3 := below_then hw2 hb3))
      go_ret
      exact ⟨ret_bool (by first | rfl | simp), hw3⟩
    · rw [decide_eq_false hC, Bool.false_and]
      have hC' : (C == 0) = false := by simpa using hC
      clear hC
      go_enter Tryz.func30, Tryz.ntmps30
      go_wp2_with (first
        | (go_at_call 47; (with_reducible refine HP.out.mono ?_); rintro e w1 ⟨a1, l1, c1, a2, l2, c2, rfl, r1, r2, hb1⟩; have hal := (Below.refl w1.heap.size w1).alloc (Nat.le_refl _) (.cells #[.slice a1 l1 c1, .int .i64 K, .slice a2 l2 c2] 67); have r1' := r1.below hal; have hw := hb1.alloc hb1.size (.cells #[.slice a1 l1 c1, .int .i64 K, .slice a2 l2 c2] 67))
        | (go_at_call 49; (with_reducible refine (H1.out _ _ _ _ r1').mono ?_); rintro e w2 ⟨rfl, hb2⟩; have hw2 := below_then hw hb2))
      go_ret
      exact ⟨ret_bool (by first | rfl | simp), hw2⟩
  · rw [decide_eq_false hE, Bool.false_and]
    have hE' : (E != 0) = true := by simpa using hE
    clear hE
    go_enter Tryz.func30, Tryz.ntmps30
    go_wp2_with (go_at_call 47; (with_reducible refine HP.out.mono ?_); rintro e w1 ⟨a1, l1, c1, a2, l2, c2, rfl, r1, r2, hb1⟩; have hw := hb1.alloc hb1.size (.cells #[.slice a1 l1 c1, .int .i64 K, .slice a2 l2 c2] 67))
    go_ret
    exact ⟨rfl, hw⟩
set_option maxHeartbeats 2000000 in
theorem ewform_Read (a : Option Addr) (len cap : Nat) (xs : List Int) (w : World) (hr : Reads .u8 w a len cap xs) (hN : len < 100000) :
    Calls Tryz.prog 54 #[.slice a len cap] w fun e w' => ∃ a' l' c', e = .returned (.tuple #[.slice a' l' c', .bool (decide (ewE xs = 0))]) ∧ Reads .i32 w' a' l' c' (ewR xs) ∧ Below w.heap.size w w' := by
  have HP := hid (ewform_Parse a len cap xs w hr hN)
  have hNl := ewN_len xs
  have hTl := ewT_len xs
  have hBl := ewB_len xs
  rw [hr.size] at hNl hTl hBl
  have H1 := hid (fun a1 l1 c1 W (h : Reads .u8 W a1 l1 c1 (ewN xs)) => ewform_charsetOf a1 l1 c1 _ W h (by have := h.size; omega))
  have H2 := hid (fun a1 l1 c1 W (h : Reads .u8 W a1 l1 c1 (ewT xs)) => ewform_decode (ewK xs) a1 l1 c1 _ W h (by have := h.size; omega))
  have H3 := hid (fun n a1 l1 c1 W (h : Reads .u8 W a1 l1 c1 (ewB xs)) => codec_Read n a1 l1 c1 _ W h (by have := h.size; omega))
  unfold ewR ewH
  unfold ewB at H3 ⊢
  clear hr hNl hTl hBl
  generalize (if ewK xs = 1 then looL (ewT xs) else readW (ewT xs)) = B at *
  generalize (if csNE (keyB (ewN xs)) = 0 then csN (keyB (ewN xs)) else 2) = H at *
  generalize ewN xs = N at *
  generalize ewT xs = T at *
  generalize ewK xs = K at *
  generalize ewE xs = E at *
  by_cases hE : E = 0
  · subst hE
    rw [decide_eq_true rfl, if_pos rfl, if_pos rfl]
    go_enter Tryz.func54, Tryz.ntmps54
    go_wp2_with (go_at_call 47; (with_reducible refine HP.out.mono ?_); rintro e w1 ⟨a1, l1, c1, a2, l2, c2, rfl, r1, r2, hb1⟩; have hal := (Below.refl w1.heap.size w1).alloc (Nat.le_refl _) (.cells #[.slice a1 l1 c1, .int .i64 K, .slice a2 l2 c2] 67); have r1' := r1.below hal; have r2' := r2.below hal; have hw := hb1.alloc hb1.size (.cells #[.slice a1 l1 c1, .int .i64 K, .slice a2 l2 c2] 67); have BW := Blk.new w1 67 #[.slice a1 l1 c1, .int .i64 K, .slice a2 l2 c2])
    have hsz1 : w1.heap.size < (w1.alloc (.cells #[.slice a1 l1 c1, .int .i64 K, .slice a2 l2 c2] 67)).heap.size := by simp
    generalize (w1.alloc (.cells #[.slice a1 l1 c1, .int .i64 K, .slice a2 l2 c2] 67)) = W at *
    have BD : Blk W.drew w1.heap.size 67 #[.slice a1 l1 c1, .int .i64 K, .slice a2 l2 c2] := BW
    have r1D := r1'.below (below_drew (Below.refl W.heap.size W))
    have r2D := r2'.below (below_drew (Below.refl W.heap.size W))
    have hwD := below_drew hw
    have hszD : w1.heap.size < W.drew.heap.size := hsz1
    have d0 := BD.cell (i := 0) rfl
    have d1 := BD.cell (i := 1) rfl
    have d2 := BD.cell (i := 2) rfl
    go_region_held3 (fun w' => w'.cell? ⟨w1.heap.size, 0, none⟩ = some (.slice a1 l1 c1) ∧ w'.cell? ⟨w1.heap.size, 1, none⟩ = some (.int .i64 K) ∧ w'.cell? ⟨w1.heap.size, 2, none⟩ = some (.slice a2 l2 c2)) (first | exact ⟨d0, d1, d2⟩ | exact ⟨d10, d11, d12⟩ | exact ⟨d20, d21, d22⟩ | exact ⟨d30, d31, d32⟩)
      (first
      | (go_at_call 48; (with_reducible refine (H1.out _ _ _ _ r1D).mono ?_); rintro e w2 ⟨rfl, h2⟩; have t2 := below_then hwD h2; have B2 := BD.below h2 BD.lt; have d10 := B2.cell (i := 0) rfl; have d11 := B2.cell (i := 1) rfl; have d12 := B2.cell (i := 2) rfl; have r22 := r2D.below h2)
      | (go_at_call 89; (with_reducible refine (H2.out _ _ _ _ r22).mono ?_); rintro e w3 ⟨a3, l3, c3, rfl, r3, h3⟩; have t3 := below_then t2 h3; have B3 := B2.below h3 B2.lt; have d20 := B3.cell (i := 0) rfl; have d21 := B3.cell (i := 1) rfl; have d22 := B3.cell (i := 2) rfl)
      | (go_at_call 88; (with_reducible refine (H3.out _ _ _ _ _ r3).mono ?_); rintro e w4 ⟨a4, l4, c4, rfl, r4, h4⟩; have t4 := below_then t3 h4; have B4 := B3.below h4 B3.lt; have d30 := B4.cell (i := 0) rfl; have d31 := B4.cell (i := 1) rfl; have d32 := B4.cell (i := 2) rfl))
    all_goals
      go_wp2_with fail
      go_ret2
      exact ⟨_, _, _, rfl, r4, t4⟩
  · rw [decide_eq_false hE, if_neg hE]
    have hE' : (E != 0) = true := by simpa using hE
    clear hE
    go_enter Tryz.func54, Tryz.ntmps54
    go_wp2_with (go_at_call 47; (with_reducible refine HP.out.mono ?_); rintro e w1 ⟨a1, l1, c1, a2, l2, c2, rfl, r1, r2, hb1⟩; have hw := hb1.alloc hb1.size (.cells #[.slice a1 l1 c1, .int .i64 K, .slice a2 l2 c2] 67))
    go_ret2
    exact ⟨none, 0, 0, rfl, Reads.nil _ _ _ _ (Nat.zero_le _), hw⟩
end Go.Proofs.YtefhddbbiheadaaGreat

/-! R27 -/
namespace Go.Proofs.YtefhddbbiheadaaGreat
open Go.RowKit
set_option linter.unusedVariables false

theorem drop_at27 {xs : List Int} {k : Nat} {x : Int} (h : xs[k]? = some x) : xs.drop k = x :: xs.drop (k + 1) := by
  have hk : k < xs.length := (List.getElem?_eq_some_iff.1 h).1
  rw [List.drop_eq_getElem_cons hk, (List.getElem?_eq_some_iff.1 h).2]
theorem fldB_short {s : List Int} (h : s.length ≤ 2) : fldB s = false := by
  match s, h with
  | [], _ => rfl
  | [_], _ => rfl
  | [_, _], _ => rfl
theorem fldB_len {s : List Int} (h : fldB s = true) : 3 ≤ s.length := by
  have : ¬ s.length ≤ 2 := fun h2 => by rw [fldB_short h2] at h; cases h
  omega
theorem unfS_skip (x : Int) (r : List Int) : unfS true (x :: r) = unfS false r ∧ unfC true (x :: r) = unfC false r := ⟨rfl, rfl⟩
set_option maxHeartbeats 2000000 in
theorem ref27_folds (a : Option Addr) (len cap : Nat) (xs : List Int) (k : Nat) (w : World) (hr : Reads .u8 w a len cap xs) (hN : len < 10000000) (hk : k ≤ len) :
    Calls Tryz.prog 21 #[.slice a len cap, .int .i64 k] w fun e w' => e = .returned (.bool (fldB (xs.drop k))) ∧ w = w' := by
  have hsz := hr.size
  by_cases h : k + 2 < len
  · obtain ⟨b, off, x, rfl, _, hc0, _, _, hx⟩ := hr.get8 (i := k) (by omega)
    obtain ⟨b', off', y, hA, _, hc1, _, _, hy⟩ := hr.get8 (i := k + 1) (by omega)
    cases hA
    obtain ⟨b', off', z, hA, _, hc2, _, _, hz⟩ := hr.get8 (i := k + 2) (by omega)
    cases hA
    have e : fldB (xs.drop k) = (decide (x = 13) && decide (y = 10) && (decide (z = 32) || decide (z = 9))) := by
      rw [drop_at27 hx.out.1, drop_at27 hy.out.1, drop_at27 hz.out.1]; rfl
    rw [e]
    have q1 : ((k : Int) + 1).toNat = k + 1 := by omega
    have q2 : ((k : Int) + 2).toNat = k + 2 := by omega
    have q3 : (0 : Int) ≤ (k : Int) + 1 := by omega
    have q4 : (0 : Int) ≤ (k : Int) + 2 := by omega
    have q5 : (k : Int) + 1 < (len : Int) := by omega
    have q6 : (k : Int) + 2 < (len : Int) := by omega
    have q7 : (k : Int) < (len : Int) := by omega
    clear e hx hy hz hr
    by_cases h13 : x = 13
    · subst h13
      by_cases h10 : y = 10
      · subst h10
        by_cases h32 : z = 32
        · subst h32
          go_enter Tryz.func21, Tryz.ntmps21
          go_wp2_with fail
          go_ret
          exact ⟨rfl, rfl⟩
        · have e3 : (z == 32) = false := by simpa using h32
          by_cases h9 : z = 9
          · subst h9
            go_enter Tryz.func21, Tryz.ntmps21
            go_wp2_with fail
            go_ret
            exact ⟨rfl, rfl⟩
          · have e9 : (z == 9) = false := by simpa using h9
            rw [decide_eq_false h32, decide_eq_false h9]
            clear h32 h9
            go_enter Tryz.func21, Tryz.ntmps21
            go_wp2_with fail
            go_ret
            exact ⟨rfl, rfl⟩
      · have e10 : (y == 10) = false := by simpa using h10
        rw [decide_eq_false h10]
        clear h10
        go_enter Tryz.func21, Tryz.ntmps21
        go_wp2_with fail
        go_ret
        exact ⟨rfl, rfl⟩
    · have e13 : (x == 13) = false := by simpa using h13
      rw [decide_eq_false h13]
      clear h13
      go_enter Tryz.func21, Tryz.ntmps21
      go_wp2_with fail
      go_ret
      exact ⟨rfl, rfl⟩
  · rw [fldB_short (by rw [List.length_drop]; omega)]
    have q6 : ¬ (k : Int) + 2 < (len : Int) := by omega
    clear hr
    go_enter Tryz.func21, Tryz.ntmps21
    go_wp2_with fail
    go_ret
    exact ⟨rfl, rfl⟩
set_option maxHeartbeats 2000000 in
theorem ref27_Unfold (a : Option Addr) (len cap : Nat) (xs : List Int) (w : World) (hr : Reads .u8 w a len cap xs) (hN : len < 10000000) :
    Calls Tryz.prog 13 #[.slice a len cap] w fun e w' => ∃ v, e = .returned (.tuple #[v, .int .i64 (unfN xs)]) ∧ Own .u8 5 w.heap.size w' v (unfL xs) ∧ Below w.heap.size w w' := by
  have HR := hid hr
  have hsz := hr.size
  clear hr
  go_enter Tryz.func13, Tryz.ntmps13
  go_wp2_with fail
  go_loopw [4, 5, 6] (fun v n i wr => ∃ (k j : Nat) (O : List Int), k ≤ len ∧ i = .int .i64 k ∧ n = .int .i64 j ∧ j ≤ k ∧ O.length ≤ k ∧ Hid (O ++ unfS false (xs.drop k) = unfL xs) ∧ Hid (j + unfC false (xs.drop k) = unfN xs) ∧ Own .u8 5 w.heap.size wr v O ∧ Below w.heap.size w wr) (fun _ _ i _ => len - (intOf i).toNat)
  case atStart => exact ⟨0, 0, [], Nat.zero_le _, rfl, rfl, Nat.le_refl _, Nat.le_refl _, rfl, by unfold Hid; rw [Nat.zero_add]; rfl, Own.nil _ _ _ _, Below.refl _ _⟩
  case round =>
    obtain ⟨k, j, O, hk, rfl, rfl, hj, hO, hT, hJ, hown, hbel⟩ := hrel
    by_cases hlt : k < len
    · obtain ⟨b, off, x, rfl, hbw, hc, h0, h1, hx⟩ := (HR.out.below hbel).get8 hlt
      have hF := ref27_folds _ _ _ _ k wr (HR.out.below hbel) hN (by omega)
      have hT' := hT.out
      have hJ' := hJ.out
      have hd := drop_at27 hx.out.1
      rw [hd] at hT' hJ'
      rw [unfS] at hT'
      rw [unfC] at hJ'
      rw [hd] at hF
      cases hf : fldB (x :: xs.drop (k + 1))
      · rw [hf, if_neg (by decide)] at hT' hJ'
        rw [hf] at hF
        have HF := hid hF
        have HT := hid (show O ++ [x] ++ unfS false (xs.drop (k + 1)) = unfL xs by rw [← hT', List.append_assoc]; rfl)
        have HJ := hid hJ'
        have HX := hid (mk_u8 h0 h1)
        clear hT hJ hT' hJ' hF hf hd
        go_wp2_with (first
          | (go_at_call 21; (with_reducible refine HF.out.mono ?_); rintro e w' ⟨rfl, rfl⟩)
          | (at_builtin; go_must (refine wpList_push ST8 rfl _ _ rfl rfl ⟨_, rfl⟩ hown hbel (by omega) HX.out ?_); intro v3 w3 ho3 hb3))
        clear hown hbel
        go_roundw
        case rel => exact ⟨k + 1, j, _, by omega, by go_num, rfl, by omega, by simp; omega, HT, HJ, ho3, hb3⟩
        case measure => simp [intOf]; omega
      · have h3 := fldB_len hf
        rw [← hd, List.length_drop] at h3
        obtain ⟨b', off', y, hA, _, _, _, _, hy⟩ := HR.out.get8 (i := k + 1) (by omega)
        rw [hf, if_pos rfl, drop_at27 hy.out.1] at hT' hJ'
        rw [hf] at hF
        have HF := hid hF
        have HT := hid (show O ++ unfS false (xs.drop (k + 2)) = unfL xs from hT')
        have HJ := hid (show (j + 1) + unfC false (xs.drop (k + 2)) = unfN xs by rw [← hJ', Nat.add_assoc]; rfl)
        clear hT hJ hT' hJ' hF hf hd hy hA
        go_wp2_with (go_at_call 21; (with_reducible refine HF.out.mono ?_); rintro e w' ⟨rfl, rfl⟩)
        go_roundw
        case rel => exact ⟨k + 2, j + 1, O, by omega, by go_num, by go_num, by omega, by omega, HT, HJ, hown, hbel⟩
        case measure => simp [intOf]; omega
    · obtain rfl : k = len := by omega
      have hT' := hT.out
      have hJ' := hJ.out
      rw [List.drop_of_length_le (by omega)] at hT' hJ'
      rw [unfS, List.append_nil] at hT'
      rw [unfC, Nat.add_zero] at hJ'
      have HJ := hid hJ'
      subst hT'
      clear hT hJ hJ'
      go_wp2_with fail
      go_ret2
      exact ⟨_, by rw [← HJ.out]; rfl, hown, hbel⟩
end Go.Proofs.YtefhddbbiheadaaGreat
