/-
  Texts of ours laid together: R29c.
-/
import Derived.Test.YtdglnpkkfkagaaaGreatZ36

/-! R29c -/
namespace Go.Proofs.YtdglnpkkfkagaaaGreat
open Go.RowKit
set_option linter.unusedVariables false

set_option maxRecDepth 100000 in
set_option maxHeartbeats 4000000 in
theorem ref29_Strict (a : Option Addr) (len cap : Nat) (xs : List Int) (w : World) (hr : Reads .u8 w a len cap xs) (hN : len < 1000000) :
    Calls Tryz.prog 19 #[.slice a len cap] w fun e w' => e = .returned (.bool (ewS xs)) ∧ Below w.heap.size w w' := by
  have hP0 := ref29_Parse a len cap xs w hr (by omega)
  unfold ParP at hP0
  have HP := hid hP0
  clear hP0
  have hNl := ewN_len xs
  have hTl := ewT_len xs
  have hsz := hr.size
  rw [hsz] at hNl hTl
  have HB := hid (show (ewN xs).length < 1000000 ∧ (ewT xs).length < 1000000 from ⟨by omega, by omega⟩)
  unfold ewS
  clear hr hNl hTl hsz
  generalize ewN xs = N at *
  generalize ewT xs = T at *
  generalize ewK xs = K at *
  generalize ewE xs = E at *
  by_cases hE : E = 0
  · subst hE
    rw [decide_eq_true rfl, Bool.true_and]
    have H1 := hid (fun a1 l1 c1 W (h : Reads .u8 W a1 l1 c1 N) => ref11_Charset a1 l1 c1 N W h (by have := h.size; have := HB.out.1; omega))
    have H2 := hid (fun a1 l1 c1 W (h : Reads .u8 W a1 l1 c1 T) => ref14_Read a1 l1 c1 T W h (by have := h.size; have := HB.out.2; omega))
    have H3 := hid (fun a1 l1 c1 W (h : Reads .u8 W a1 l1 c1 T) => ref20_Check a1 l1 c1 T W h (by have := h.size; have := HB.out.2; omega))
    generalize csN (keyB N) = C at *
    generalize csNE (keyB N) = CE at *
    generalize codE T = TE at *
    generalize chkW T = TW at *
    by_cases hC : CE = 0
    · subst hC
      rw [decide_eq_true rfl, Bool.true_and]
      by_cases hK : K = 1
      · subst hK
        rw [if_pos rfl]
        go_enter Tryz.func19, Tryz.ntmps19
        go_wp2_with (first
          | (go_at_call 34; (with_reducible refine HP.out.mono ?_); rintro e w1 ⟨a1, l1, c1, a2, l2, c2, rfl, r1, r2, hb1⟩; have hal := (Below.refl w1.heap.size w1).alloc (Nat.le_refl _) (.cells #[.slice a1 l1 c1, .int .i64 1, .slice a2 l2 c2] 72); have r1' := r1.below hal; have r2' := r2.below hal; have hw := hb1.alloc hb1.size (.cells #[.slice a1 l1 c1, .int .i64 1, .slice a2 l2 c2] 72); have BW := Blk.new w1 72 #[.slice a1 l1 c1, .int .i64 1, .slice a2 l2 c2])
          | (go_at_call 38; (with_reducible refine (H1.out _ _ _ _ r1').mono ?_); rintro e w2 ⟨rfl, hb2⟩; have B2 := BW.below hb2 (by simp); have d1 := B2.cell (i := 1) rfl; have d2 := B2.cell (i := 2) rfl; have r22 := r2'.below hb2; have hw2 := below_then hw hb2)
          | (go_at_call 39; (with_reducible refine (H2.out _ _ _ _ r22).mono ?_); rintro e w3 ⟨v3, rfl, ho3, hb3⟩; have hw3 := below_then hw2 hb3))
        go_ret
        exact ⟨ret_bool (by first | rfl | simp), hw3⟩
      · rw [if_neg hK]
        have hK' : (K == 1) = false := by simpa using hK
        clear hK
        go_enter Tryz.func19, Tryz.ntmps19
        go_wp2_with (first
          | (go_at_call 34; (with_reducible refine HP.out.mono ?_); rintro e w1 ⟨a1, l1, c1, a2, l2, c2, rfl, r1, r2, hb1⟩; have hal := (Below.refl w1.heap.size w1).alloc (Nat.le_refl _) (.cells #[.slice a1 l1 c1, .int .i64 K, .slice a2 l2 c2] 72); have r1' := r1.below hal; have r2' := r2.below hal; have hw := hb1.alloc hb1.size (.cells #[.slice a1 l1 c1, .int .i64 K, .slice a2 l2 c2] 72); have BW := Blk.new w1 72 #[.slice a1 l1 c1, .int .i64 K, .slice a2 l2 c2])
          | (go_at_call 38; (with_reducible refine (H1.out _ _ _ _ r1').mono ?_); rintro e w2 ⟨rfl, hb2⟩; have B2 := BW.below hb2 (by simp); have d1 := B2.cell (i := 1) rfl; have d2 := B2.cell (i := 2) rfl; have r22 := r2'.below hb2; have hw2 := below_then hw hb2)
          | (go_at_call 40; (with_reducible refine (H3.out _ _ _ _ r22).mono ?_); rintro e w3 ⟨rfl, hb3⟩; have hw3 := below_then hw2 hb3))
        go_ret
        exact ⟨ret_bool (by first | rfl | simp), hw3⟩
    · rw [decide_eq_false hC, Bool.false_and]
      have hC' : (CE != 0) = true := by simpa using hC
      clear hC
      go_enter Tryz.func19, Tryz.ntmps19
      go_wp2_with (first
        | (go_at_call 34; (with_reducible refine HP.out.mono ?_); rintro e w1 ⟨a1, l1, c1, a2, l2, c2, rfl, r1, r2, hb1⟩; have hal := (Below.refl w1.heap.size w1).alloc (Nat.le_refl _) (.cells #[.slice a1 l1 c1, .int .i64 K, .slice a2 l2 c2] 72); have r1' := r1.below hal; have hw := hb1.alloc hb1.size (.cells #[.slice a1 l1 c1, .int .i64 K, .slice a2 l2 c2] 72))
        | (go_at_call 38; (with_reducible refine (H1.out _ _ _ _ r1').mono ?_); rintro e w2 ⟨rfl, hb2⟩; have hw2 := below_then hw hb2))
      go_ret
      exact ⟨rfl, hw2⟩
  · rw [decide_eq_false hE, Bool.false_and]
    have hE' : (E != 0) = true := by simpa using hE
    clear hE
    go_enter Tryz.func19, Tryz.ntmps19
    go_wp2_with (go_at_call 34; (with_reducible refine HP.out.mono ?_); rintro e w1 ⟨a1, l1, c1, a2, l2, c2, rfl, r1, r2, hb1⟩; have hw := hb1.alloc hb1.size (.cells #[.slice a1 l1 c1, .int .i64 K, .slice a2 l2 c2] 72))
    go_ret
    exact ⟨rfl, hw⟩
set_option maxRecDepth 100000 in
set_option maxHeartbeats 4000000 in
theorem ref29_Charset (a : Option Addr) (len cap : Nat) (xs : List Int) (w : World) (hr : Reads .u8 w a len cap xs) (hN : len < 1000000) :
    Calls Tryz.prog 20 #[.slice a len cap] w fun e w' => e = .returned (.int .i64 (ewH xs)) ∧ Below w.heap.size w w' := by
  have hP0 := ref29_Parse a len cap xs w hr (by omega)
  unfold ParP at hP0
  have HP := hid hP0
  clear hP0
  have hNl := ewN_len xs
  have hsz := hr.size
  rw [hsz] at hNl
  have HB := hid (show (ewN xs).length < 1000000 by omega)
  unfold ewH
  clear hr hNl hsz
  generalize ewN xs = N at *
  generalize ewT xs = T at *
  generalize ewK xs = K at *
  generalize ewE xs = E at *
  have H1 := hid (fun a1 l1 c1 W (h : Reads .u8 W a1 l1 c1 N) => ref11_Charset a1 l1 c1 N W h (by have := h.size; have := HB.out; omega))
  generalize csN (keyB N) = C at *
  generalize csNE (keyB N) = CE at *
  by_cases hE : E = 0
  · subst hE
    rw [if_pos rfl]
    by_cases hC : CE = 0
    · subst hC
      rw [if_pos rfl]
      go_enter Tryz.func20, Tryz.ntmps20
      go_wp2_with (first
        | (go_at_call 34; (with_reducible refine HP.out.mono ?_); rintro e w1 ⟨a1, l1, c1, a2, l2, c2, rfl, r1, r2, hb1⟩; have hal := (Below.refl w1.heap.size w1).alloc (Nat.le_refl _) (.cells #[.slice a1 l1 c1, .int .i64 K, .slice a2 l2 c2] 72); have r1' := r1.below hal; have hw := hb1.alloc hb1.size (.cells #[.slice a1 l1 c1, .int .i64 K, .slice a2 l2 c2] 72))
        | (go_at_call 38; (with_reducible refine (H1.out _ _ _ _ r1').mono ?_); rintro e w2 ⟨rfl, hb2⟩; have hw2 := below_then hw hb2))
      go_ret
      exact ⟨rfl, hw2⟩
    · rw [if_neg hC]
      have hC' : (CE != 0) = true := by simpa using hC
      clear hC
      go_enter Tryz.func20, Tryz.ntmps20
      go_wp2_with (first
        | (go_at_call 34; (with_reducible refine HP.out.mono ?_); rintro e w1 ⟨a1, l1, c1, a2, l2, c2, rfl, r1, r2, hb1⟩; have hal := (Below.refl w1.heap.size w1).alloc (Nat.le_refl _) (.cells #[.slice a1 l1 c1, .int .i64 K, .slice a2 l2 c2] 72); have r1' := r1.below hal; have hw := hb1.alloc hb1.size (.cells #[.slice a1 l1 c1, .int .i64 K, .slice a2 l2 c2] 72))
        | (go_at_call 38; (with_reducible refine (H1.out _ _ _ _ r1').mono ?_); rintro e w2 ⟨rfl, hb2⟩; have hw2 := below_then hw hb2))
      go_ret
      exact ⟨rfl, hw2⟩
  · rw [if_neg hE]
    have hE' : (E != 0) = true := by simpa using hE
    clear hE
    go_enter Tryz.func20, Tryz.ntmps20
    go_wp2_with (go_at_call 34; (with_reducible refine HP.out.mono ?_); rintro e w1 ⟨a1, l1, c1, a2, l2, c2, rfl, r1, r2, hb1⟩; have hw := hb1.alloc hb1.size (.cells #[.slice a1 l1 c1, .int .i64 K, .slice a2 l2 c2] 72))
    go_ret
    exact ⟨rfl, hw⟩
set_option maxRecDepth 100000 in
set_option maxHeartbeats 4000000 in
theorem ref29_ReadO (a : Option Addr) (len cap : Nat) (xs : List Int) (w : World) (hr : Reads .u8 w a len cap xs) (hN : len < 1000000) :
    Calls Tryz.prog 18 #[.slice a len cap] w fun e w' => ∃ a' l' c', e = .returned (.tuple #[.slice a' l' c', .bool (decide (ewE xs = 0))]) ∧ Own .i32 21 w.heap.size w' (.slice a' l' c') (ewR xs) ∧ Below w.heap.size w w' := by
  have hP0 := ref29_Parse a len cap xs w hr (by omega)
  unfold ParP at hP0
  have HP := hid hP0
  clear hP0
  have HR := hid hr
  have hTl := ewT_len xs
  have hBl := ewB_len xs
  have hsz := hr.size
  rw [hsz] at hTl hBl
  have HB := hid (show (ewT xs).length < 1000000 ∧ (ewB xs).length < 1000000 from ⟨by omega, by omega⟩)
  have HC := hid (fun W (hW : Below w.heap.size w W) => ref29_Charset a len cap xs W (hr.below hW) hN)
  unfold ewR
  unfold ewB at HB ⊢
  clear hr hTl hBl hsz
  generalize ewN xs = N at *
  generalize ewT xs = T at *
  generalize ewK xs = K at *
  generalize ewE xs = E at *
  generalize ewH xs = H at *
  by_cases hE : E = 0
  · subst hE
    rw [decide_eq_true rfl, if_pos rfl]
    have H1 := hid (fun a1 l1 c1 W (h : Reads .u8 W a1 l1 c1 T) => ref15_Read a1 l1 c1 T W h (by have := h.size; have := HB.out.1; omega))
    have H2 := hid (fun a1 l1 c1 W (h : Reads .u8 W a1 l1 c1 T) => ref20_Read a1 l1 c1 T W h (by have := h.size; have := HB.out.1; omega))
    by_cases hK : K = 1
    · subst hK
      rw [if_pos rfl] at HB ⊢
      have H3 := hid (fun a1 l1 c1 W (h : Reads .u8 W a1 l1 c1 (looL T)) => ref13_ReadO H a1 l1 c1 (looL T) W h (by have := h.size; have := HB.out.2; omega))
      go_enter Tryz.func18, Tryz.ntmps18
      go_wp2_with (first
        | (go_at_call 34; (with_reducible refine HP.out.mono ?_); rintro e w1 ⟨a1, l1, c1, a2, l2, c2, rfl, r1, r2, hb1⟩; have hal := (Below.refl w1.heap.size w1).alloc (Nat.le_refl _) (.cells #[.slice a1 l1 c1, .int .i64 1, .slice a2 l2 c2] 72); have r2' := r2.below hal; have hw := hb1.alloc hb1.size (.cells #[.slice a1 l1 c1, .int .i64 1, .slice a2 l2 c2] 72))
        | (go_at_call 35; (with_reducible refine (H1.out _ _ _ _ r2').mono ?_); rintro e w2 ⟨v2, rfl, ho2, hb2⟩; (obtain ⟨a3, c3, rfl, r3⟩ := ho2.reads); have hw2 := below_then hw hb2)
        | (go_at_call 20; (with_reducible refine (HC.out _ hw2).mono ?_); rintro e w3 ⟨rfl, hb3⟩; have hw3 := below_then hw2 hb3; have r33 := r3.below hb3)
        | (go_at_call 37; (with_reducible refine (H3.out _ _ _ _ r33).mono ?_); rintro e w4 ⟨a4, l4, c4, rfl, r4, hb4⟩))
      go_ret2
      exact ⟨_, _, _, rfl, own_mono r4 hw3.size, below_then hw3 hb4⟩
    · rw [if_neg hK] at HB ⊢
      have hK' : (K == 1) = false := by simpa using hK
      clear hK
      have H3 := hid (fun a1 l1 c1 W (h : Reads .u8 W a1 l1 c1 (readW T)) => ref13_ReadO H a1 l1 c1 (readW T) W h (by have := h.size; have := HB.out.2; omega))
      go_enter Tryz.func18, Tryz.ntmps18
      go_wp2_with (first
        | (go_at_call 34; (with_reducible refine HP.out.mono ?_); rintro e w1 ⟨a1, l1, c1, a2, l2, c2, rfl, r1, r2, hb1⟩; have hal := (Below.refl w1.heap.size w1).alloc (Nat.le_refl _) (.cells #[.slice a1 l1 c1, .int .i64 K, .slice a2 l2 c2] 72); have r2' := r2.below hal; have hw := hb1.alloc hb1.size (.cells #[.slice a1 l1 c1, .int .i64 K, .slice a2 l2 c2] 72))
        | (go_at_call 36; (with_reducible refine (H2.out _ _ _ _ r2').mono ?_); rintro e w2 ⟨v2, rfl, ho2, hb2⟩; (obtain ⟨a3, c3, rfl, r3⟩ := ho2.reads); have hw2 := below_then hw hb2)
        | (go_at_call 20; (with_reducible refine (HC.out _ hw2).mono ?_); rintro e w3 ⟨rfl, hb3⟩; have hw3 := below_then hw2 hb3; have r33 := r3.below hb3)
        | (go_at_call 37; (with_reducible refine (H3.out _ _ _ _ r33).mono ?_); rintro e w4 ⟨a4, l4, c4, rfl, r4, hb4⟩))
      go_ret2
      exact ⟨_, _, _, rfl, own_mono r4 hw3.size, below_then hw3 hb4⟩
  · rw [decide_eq_false hE, if_neg hE]
    have hE' : (E != 0) = true := by simpa using hE
    clear hE
    go_enter Tryz.func18, Tryz.ntmps18
    go_wp2_with (go_at_call 34; (with_reducible refine HP.out.mono ?_); rintro e w1 ⟨a1, l1, c1, a2, l2, c2, rfl, r1, r2, hb1⟩; have hw := hb1.alloc hb1.size (.cells #[.slice a1 l1 c1, .int .i64 K, .slice a2 l2 c2] 72))
    go_ret2
    exact ⟨none, 0, 0, rfl, Own.nil _ _ _ _, hw⟩
theorem ref29_Read (a : Option Addr) (len cap : Nat) (xs : List Int) (w : World) (hr : Reads .u8 w a len cap xs) (hN : len < 1000000) :
    Calls Tryz.prog 18 #[.slice a len cap] w fun e w' => ∃ a' l' c', e = .returned (.tuple #[.slice a' l' c', .bool (decide (ewE xs = 0))]) ∧ Reads .i32 w' a' l' c' (ewR xs) ∧ Below w.heap.size w w' := by
  refine (ref29_ReadO a len cap xs w hr hN).mono ?_
  rintro e w' ⟨a', l', c', rfl, ho, hb⟩
  obtain ⟨a2, c2, hv, hrd⟩ := ho.reads
  simp only [Value.slice.injEq] at hv
  obtain ⟨rfl, rfl, rfl⟩ := hv
  exact ⟨_, _, _, rfl, hrd, hb⟩
theorem ref29_Over (n : Int) (w : World) :
    Calls Tryz.prog 45 #[.int .i64 n] w fun e w' => e = .returned (.int .i64 (ewO n)) ∧ Below w.heap.size w w' := by
  by_cases hn : 1 ≤ n ∧ n ≤ 5
  · have hs := nm_size hn
    have HN := hid (ref11_Name n w)
    rw [ewO_eq hn]
    change Hid (Calls Tryz.prog 54 #[.int .i64 n] w fun e w' => e = .returned (.string (nmS n)) ∧ Below w.heap.size w w') at HN
    generalize nmS n = S at *
    obtain ⟨h1, h2⟩ := hn
    have q1 : ¬ n < 1 := by omega
    have q2 : ¬ 5 < n := by omega
    clear h1 h2
    go_enter Tryz.func45, Tryz.ntmps45
    go_wp2_with (go_at_call 54; (with_reducible refine HN.out.mono ?_); rintro e w1 ⟨rfl, hb1⟩)
    go_ret
    exact ⟨ret_int (by omega), hb1⟩
  · have e0 : ewO n = 0 := by unfold ewO; rw [if_neg hn]
    rw [e0]
    rcases (show n < 1 ∨ (¬ n < 1 ∧ 5 < n) by omega) with h | ⟨h, h2⟩
    all_goals
      clear hn e0
      go_enter Tryz.func45, Tryz.ntmps45
      go_wp2_with fail
      go_ret
      exact ⟨rfl, Below.refl _ _⟩
end Go.Proofs.YtdglnpkkfkagaaaGreat
