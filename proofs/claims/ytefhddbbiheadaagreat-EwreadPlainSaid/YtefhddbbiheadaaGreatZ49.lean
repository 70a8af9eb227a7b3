/-
  Texts of ours laid together: R29c, R32.
-/
import Derived.Test.YtefhddbbiheadaaGreatZ48

/-! R29c -/
namespace Go.Proofs.YtefhddbbiheadaaGreat
open Go.RowKit
set_option linter.unusedVariables false

set_option maxRecDepth 100000 in
set_option maxHeartbeats 4000000 in
theorem ref29_Strict (a : Option Addr) (len cap : Nat) (xs : List Int) (w : World) (hr : Reads .u8 w a len cap xs) (hN : len < 1000000) :
    Calls Tryz.prog 25 #[.slice a len cap] w fun e w' => e = .returned (.bool (ewS xs)) ∧ Below w.heap.size w w' := by
  have hP0 := ref29_Parse a len cap xs w hr (by omega)
  unfold ParP at hP0
  have HP := hid hP0
  clear hP0
  have hNl := ewN_len xs
  have hTl := ewT_len xs
  have hsz := hr.size
  rw [hsz] at hNl hTl
  have HB := hid (show (ewN xs).length < 1000000 ∧ (ewT xs).length < 1000000 from ⟨by omega, by omega⟩)
  unfold ewS
  clear hr hNl hTl hsz
  generalize ewN xs = N at *
  generalize ewT xs = T at *
  generalize ewK xs = K at *
  generalize ewE xs = E at *
  by_cases hE : E = 0
  · subst hE
    rw [decide_eq_true rfl, Bool.true_and]
    have H1 := hid (fun a1 l1 c1 W (h : Reads .u8 W a1 l1 c1 N) => ref11_Charset a1 l1 c1 N W h (by have := h.size; have := HB.out.1; omega))
    have H2 := hid (fun a1 l1 c1 W (h : Reads .u8 W a1 l1 c1 T) => ref14_Read a1 l1 c1 T W h (by have := h.size; have := HB.out.2; omega))
    have H3 := hid (fun a1 l1 c1 W (h : Reads .u8 W a1 l1 c1 T) => ref20_Check a1 l1 c1 T W h (by have := h.size; have := HB.out.2; omega))
    generalize csN (keyB N) = C at *
    generalize csNE (keyB N) = CE at *
    generalize codE T = TE at *
    generalize chkW T = TW at *
    by_cases hC : CE = 0
    · subst hC
      rw [decide_eq_true rfl, Bool.true_and]
      by_cases hK : K = 1
      · subst hK
        rw [if_pos rfl]
        go_enter Tryz.func25, Tryz.ntmps25
        go_wp2_with (first
          | (go_at_call 37; (with_reducible refine HP.out.mono ?_); rintro e w1 ⟨a1, l1, c1, a2, l2, c2, rfl, r1, r2, hb1⟩; have hal := (Below.refl w1.heap.size w1).alloc (Nat.le_refl _) (.cells #[.slice a1 l1 c1, .int .i64 1, .slice a2 l2 c2] 59); have r1' := r1.below hal; have r2' := r2.below hal; have hw := hb1.alloc hb1.size (.cells #[.slice a1 l1 c1, .int .i64 1, .slice a2 l2 c2] 59); have BW := Blk.new w1 59 #[.slice a1 l1 c1, .int .i64 1, .slice a2 l2 c2])
          | (go_at_call 41; (with_reducible refine (H1.out _ _ _ _ r1').mono ?_); rintro e w2 ⟨rfl, hb2⟩; have B2 := BW.below hb2 (by simp); have d1 := B2.cell (i := 1) rfl; have d2 := B2.cell (i := 2) rfl; have r22 := r2'.below hb2; have hw2 := below_then hw hb2)
          | (go_at_call 42; (with_reducible refine (H2.out _ _ _ _ r22).mono ?_); rintro e w3 ⟨v3, rfl, ho3, hb3⟩; have hw3 := below_then hw2 hb3))
        go_ret
        exact ⟨ret_bool (by first | rfl | simp), hw3⟩
      · rw [if_neg hK]
        have hK' : (K == 1) = false := by simpa using hK
        clear hK
        go_enter Tryz.func25, Tryz.ntmps25
        go_wp2_with (first
          | (go_at_call 37; (with_reducible refine HP.out.mono ?_); rintro e w1 ⟨a1, l1, c1, a2, l2, c2, rfl, r1, r2, hb1⟩; have hal := (Below.refl w1.heap.size w1).alloc (Nat.le_refl _) (.cells #[.slice a1 l1 c1, .int .i64 K, .slice a2 l2 c2] 59); have r1' := r1.below hal; have r2' := r2.below hal; have hw := hb1.alloc hb1.size (.cells #[.slice a1 l1 c1, .int .i64 K, .slice a2 l2 c2] 59); have BW := Blk.new w1 59 #[.slice a1 l1 c1, .int .i64 K, .slice a2 l2 c2])
          | (go_at_call 41; (with_reducible refine (H1.out _ _ _ _ r1').mono ?_); rintro e w2 ⟨rfl, hb2⟩; have B2 := BW.below hb2 (by simp); have d1 := B2.cell (i := 1) rfl; have d2 := B2.cell (i := 2) rfl; have r22 := r2'.below hb2; have hw2 := below_then hw hb2)
          | (go_at_call 43; (with_reducible refine (H3.out _ _ _ _ r22).mono ?_); rintro e w3 ⟨rfl, hb3⟩; have hw3 := below_then hw2 hb3))
        go_ret
        exact ⟨ret_bool (by first | rfl | simp), hw3⟩
    · rw [decide_eq_false hC, Bool.false_and]
      have hC' : (CE != 0) = true := by simpa using hC
      clear hC
      go_enter Tryz.func25, Tryz.ntmps25
      go_wp2_with (first
        | (go_at_call 37; (with_reducible refine HP.out.mono ?_); rintro e w1 ⟨a1, l1, c1, a2, l2, c2, rfl, r1, r2, hb1⟩; have hal := (Below.refl w1.heap.size w1).alloc (Nat.le_refl _) (.cells #[.slice a1 l1 c1, .int .i64 K, .slice a2 l2 c2] 59); have r1' := r1.below hal; have hw := hb1.alloc hb1.size (.cells #[.slice a1 l1 c1, .int .i64 K, .slice a2 l2 c2] 59))
        | (go_at_call 41; (with_reducible refine (H1.out _ _ _ _ r1').mono ?_); rintro e w2 ⟨rfl, hb2⟩; have hw2 := below_then hw hb2))
      go_ret
      exact ⟨rfl, hw2⟩
  · rw [decide_eq_false hE, Bool.false_and]
    have hE' : (E != 0) = true := by simpa using hE
    clear hE
    go_enter Tryz.func25, Tryz.ntmps25
    go_wp2_with (go_at_call 37; (with_reducible refine HP.out.mono ?_); rintro e w1 ⟨a1, l1, c1, a2, l2, c2, rfl, r1, r2, hb1⟩; have hw := hb1.alloc hb1.size (.cells #[.slice a1 l1 c1, .int .i64 K, .slice a2 l2 c2] 59))
    go_ret
    exact ⟨rfl, hw⟩
set_option maxRecDepth 100000 in
set_option maxHeartbeats 4000000 in
theorem ref29_Charset (a : Option Addr) (len cap : Nat) (xs : List Int) (w : World) (hr : Reads .u8 w a len cap xs) (hN : len < 1000000) :
    Calls Tryz.prog 24 #[.slice a len cap] w fun e w' => e = .returned (.int .i64 (ewH xs)) ∧ Below w.heap.size w w' := by
  have hP0 := ref29_Parse a len cap xs w hr (by omega)
  unfold ParP at hP0
  have HP := hid hP0
  clear hP0
  have hNl := ewN_len xs
  have hsz := hr.size
  rw [hsz] at hNl
  have HB := hid (show (ewN xs).length < 1000000 by omega)
  unfold ewH
  clear hr hNl hsz
  generalize ewN xs = N at *
  generalize ewT xs = T at *
  generalize ewK xs = K at *
  generalize ewE xs = E at *
  have H1 := hid (fun a1 l1 c1 W (h : Reads .u8 W a1 l1 c1 N) => ref11_Charset a1 l1 c1 N W h (by have := h.size; have := HB.out; omega))
  generalize csN (keyB N) = C at *
  generalize csNE (keyB N) = CE at *
  by_cases hE : E = 0
  · subst hE
    rw [if_pos rfl]
    by_cases hC : CE = 0
    · subst hC
      rw [if_pos rfl]
      go_enter Tryz.func24, Tryz.ntmps24
      go_wp2_with (first
        | (go_at_call 37; (with_reducible refine HP.out.mono ?_); rintro e w1 ⟨a1, l1, c1, a2, l2, c2, rfl, r1, r2, hb1⟩; have hal := (Below.refl w1.heap.size w1).alloc (Nat.le_refl _) (.cells #[.slice a1 l1 c1, .int .i64 K, .slice a2 l2 c2] 59); have r1' := r1.below hal; have hw := hb1.alloc hb1.size (.cells #[.slice a1 l1 c1, .int .i64 K, .slice a2 l2 c2] 59))
        | (go_at_call 41; (with_reducible refine (H1.out _ _ _ _ r1').mono ?_); rintro e w2 ⟨rfl, hb2⟩; have hw2 := below_then hw hb2))
      go_ret
      exact ⟨rfl, hw2⟩
    · rw [if_neg hC]
      have hC' : (CE != 0) = true := by simpa using hC
      clear hC
      go_enter Tryz.func24, Tryz.ntmps24
      go_wp2_with (first
        | (go_at_call 37; (with_reducible refine HP.out.mono ?_); rintro e w1 ⟨a1, l1, c1, a2, l2, c2, rfl, r1, r2, hb1⟩; have hal := (Below.refl w1.heap.size w1).alloc (Nat.le_refl _) (.cells #[.slice a1 l1 c1, .int .i64 K, .slice a2 l2 c2] 59); have r1' := r1.below hal; have hw := hb1.alloc hb1.size (.cells #[.slice a1 l1 c1, .int .i64 K, .slice a2 l2 c2] 59))
        | (go_at_call 41; (with_reducible refine (H1.out _ _ _ _ r1').mono ?_); rintro e w2 ⟨rfl, hb2⟩; have hw2 := below_then hw hb2))
      go_ret
      exact ⟨rfl, hw2⟩
  · rw [if_neg hE]
    have hE' : (E != 0) = true := by simpa using hE
    clear hE
    go_enter Tryz.func24, Tryz.ntmps24
    go_wp2_with (go_at_call 37; (with_reducible refine HP.out.mono ?_); rintro e w1 ⟨a1, l1, c1, a2, l2, c2, rfl, r1, r2, hb1⟩; have hw := hb1.alloc hb1.size (.cells #[.slice a1 l1 c1, .int .i64 K, .slice a2 l2 c2] 59))
    go_ret
    exact ⟨rfl, hw⟩
set_option maxRecDepth 100000 in
set_option maxHeartbeats 4000000 in
theorem ref29_ReadO (a : Option Addr) (len cap : Nat) (xs : List Int) (w : World) (hr : Reads .u8 w a len cap xs) (hN : len < 1000000) :
    Calls Tryz.prog 23 #[.slice a len cap] w fun e w' => ∃ a' l' c', e = .returned (.tuple #[.slice a' l' c', .bool (decide (ewE xs = 0))]) ∧ Own .i32 21 w.heap.size w' (.slice a' l' c') (ewR xs) ∧ Below w.heap.size w w' := by
  have hP0 := ref29_Parse a len cap xs w hr (by omega)
  unfold ParP at hP0
  have HP := hid hP0
  clear hP0
  have HR := hid hr
  have hTl := ewT_len xs
  have hBl := ewB_len xs
  have hsz := hr.size
  rw [hsz] at hTl hBl
  have HB := hid (show (ewT xs).length < 1000000 ∧ (ewB xs).length < 1000000 from ⟨by omega, by omega⟩)
  have HC := hid (fun W (hW : Below w.heap.size w W) => ref29_Charset a len cap xs W (hr.below hW) hN)
  unfold ewR
  unfold ewB at HB ⊢
  clear hr hTl hBl hsz
  generalize ewN xs = N at *
  generalize ewT xs = T at *
  generalize ewK xs = K at *
  generalize ewE xs = E at *
  generalize ewH xs = H at *
  by_cases hE : E = 0
  · subst hE
    rw [decide_eq_true rfl, if_pos rfl]
    have H1 := hid (fun a1 l1 c1 W (h : Reads .u8 W a1 l1 c1 T) => ref15_Read a1 l1 c1 T W h (by have := h.size; have := HB.out.1; omega))
    have H2 := hid (fun a1 l1 c1 W (h : Reads .u8 W a1 l1 c1 T) => ref20_Read a1 l1 c1 T W h (by have := h.size; have := HB.out.1; omega))
    by_cases hK : K = 1
    · subst hK
      rw [if_pos rfl] at HB ⊢
      have H3 := hid (fun a1 l1 c1 W (h : Reads .u8 W a1 l1 c1 (looL T)) => ref13_ReadO H a1 l1 c1 (looL T) W h (by have := h.size; have := HB.out.2; omega))
      go_enter Tryz.func23, Tryz.ntmps23
      go_wp2_with (first
        | (go_at_call 37; (with_reducible refine HP.out.mono ?_); rintro e w1 ⟨a1, l1, c1, a2, l2, c2, rfl, r1, r2, hb1⟩; have hal := (Below.refl w1.heap.size w1).alloc (Nat.le_refl _) (.cells #[.slice a1 l1 c1, .int .i64 1, .slice a2 l2 c2] 59); have r2' := r2.below hal; have hw := hb1.alloc hb1.size (.cells #[.slice a1 l1 c1, .int .i64 1, .slice a2 l2 c2] 59))
        | (go_at_call 38; (with_reducible refine (H1.out _ _ _ _ r2').mono ?_); rintro e w2 ⟨v2, rfl, ho2, hb2⟩; (obtain ⟨a3, c3, rfl, r3⟩ := ho2.reads); have hw2 := below_then hw hb2)
        | (go_at_call 24; (with_reducible refine (HC.out _ hw2).mono ?_); rintro e w3 ⟨rfl, hb3⟩; have hw3 := below_then hw2 hb3; have r33 := r3.below hb3)
        | (go_at_call 40; (with_reducible refine (H3.out _ _ _ _ r33).mono ?_); rintro e w4 ⟨a4, l4, c4, rfl, r4, hb4⟩))
      go_ret2
      exact ⟨_, _, _, rfl, own_mono r4 hw3.size, below_then hw3 hb4⟩
    · rw [if_neg hK] at HB ⊢
      have hK' : (K == 1) = false := by simpa using hK
      clear hK
      have H3 := hid (fun a1 l1 c1 W (h : Reads .u8 W a1 l1 c1 (readW T)) => ref13_ReadO H a1 l1 c1 (readW T) W h (by have := h.size; have := HB.out.2; omega))
      go_enter Tryz.func23, Tryz.ntmps23
      go_wp2_with (first
        | (go_at_call 37; (with_reducible refine HP.out.mono ?_); rintro e w1 ⟨a1, l1, c1, a2, l2, c2, rfl, r1, r2, hb1⟩; have hal := (Below.refl w1.heap.size w1).alloc (Nat.le_refl _) (.cells #[.slice a1 l1 c1, .int .i64 K, .slice a2 l2 c2] 59); have r2' := r2.below hal; have hw := hb1.alloc hb1.size (.cells #[.slice a1 l1 c1, .int .i64 K, .slice a2 l2 c2] 59))
        | (go_at_call 39; (with_reducible refine (H2.out _ _ _ _ r2').mono ?_); rintro e w2 ⟨v2, rfl, ho2, hb2⟩; (obtain ⟨a3, c3, rfl, r3⟩ := ho2.reads); have hw2 := below_then hw hb2)
        | (go_at_call 24; (with_reducible refine (HC.out _ hw2).mono ?_); rintro e w3 ⟨rfl, hb3⟩; have hw3 := below_then hw2 hb3; have r33 := r3.below hb3)
        | (go_at_call 40; (with_reducible refine (H3.out _ _ _ _ r33).mono ?_); rintro e w4 ⟨a4, l4, c4, rfl, r4, hb4⟩))
      go_ret2
      exact ⟨_, _, _, rfl, own_mono r4 hw3.size, below_then hw3 hb4⟩
  · rw [decide_eq_false hE, if_neg hE]
    have hE' : (E != 0) = true := by simpa using hE
    clear hE
    go_enter Tryz.func23, Tryz.ntmps23
    go_wp2_with (go_at_call 37; (with_reducible refine HP.out.mono ?_); rintro e w1 ⟨a1, l1, c1, a2, l2, c2, rfl, r1, r2, hb1⟩; have hw := hb1.alloc hb1.size (.cells #[.slice a1 l1 c1, .int .i64 K, .slice a2 l2 c2] 59))
    go_ret2
    exact ⟨none, 0, 0, rfl, Own.nil _ _ _ _, hw⟩
theorem ref29_Read (a : Option Addr) (len cap : Nat) (xs : List Int) (w : World) (hr : Reads .u8 w a len cap xs) (hN : len < 1000000) :
    Calls Tryz.prog 23 #[.slice a len cap] w fun e w' => ∃ a' l' c', e = .returned (.tuple #[.slice a' l' c', .bool (decide (ewE xs = 0))]) ∧ Reads .i32 w' a' l' c' (ewR xs) ∧ Below w.heap.size w w' := by
  refine (ref29_ReadO a len cap xs w hr hN).mono ?_
  rintro e w' ⟨a', l', c', rfl, ho, hb⟩
  obtain ⟨a2, c2, hv, hrd⟩ := ho.reads
  simp only [Value.slice.injEq] at hv
  obtain ⟨rfl, rfl, rfl⟩ := hv
  exact ⟨_, _, _, rfl, hrd, hb⟩
end Go.Proofs.YtefhddbbiheadaaGreat

/-! R32 -/
namespace Go.Proofs.YtefhddbbiheadaaGreat
open Go.RowKit
set_option linter.unusedVariables false

theorem tw_at (p : Int → Bool) : ∀ (r : List Int) (m : Nat) (c : Int), m ≤ (r.takeWhile p).length → r[m]? = some c → p c = decide (m < (r.takeWhile p).length)
  | [], m, c, _, h => by simp at h
  | x :: r, m, c, hm, h => by
    rw [List.takeWhile_cons] at hm ⊢
    cases hx : p x
    · rw [hx] at hm
      simp only [Bool.false_eq_true, if_false, List.length_nil] at hm ⊢
      obtain rfl : m = 0 := by omega
      simp at h
      subst h
      simpa using hx
    · rw [hx] at hm
      simp only [if_true, List.length_cons] at hm ⊢
      cases m with
      | zero => simp at h; subst h; simpa using hx
      | succ m =>
        have := tw_at p r m c (by omega) (by simpa using h)
        rw [this, decide_eq_decide]
        omega
theorem turn_at {s : List Int} {m : Nat} {x c : Int} (hx : s[0]? = some x) (hm : m ≤ turnN s) (hc : s[m]? = some c) : (gp c == gp x) = decide (m < turnN s) := by
  cases s with
  | nil => simp at hx
  | cons y r =>
    simp at hx
    subst hx
    rw [turn_cons] at hm ⊢
    cases m with
    | zero =>
      simp at hc
      subst hc
      simp
      omega
    | succ m =>
      have := tw_at (fun c => gp c == gp y) r m c (by omega) (by simpa using hc)
      rw [this, decide_eq_decide]
      omega
theorem ref32_gap (c : Int) (w : World) : Calls Tryz.prog 55 #[.int .u8 c] w fun e w' => e = .returned (.bool (gp c)) ∧ w = w' := by
  unfold gp
  by_cases h1 : c = 32
  · subst h1
    go_enter Tryz.func55, Tryz.ntmps55
    go_wp2_with fail
    go_ret
    exact ⟨rfl, rfl⟩
  · by_cases h2 : c = 9
    · subst h2
      go_enter Tryz.func55, Tryz.ntmps55
      go_wp2_with fail
      go_ret
      exact ⟨rfl, rfl⟩
    · by_cases h3 : c = 13
      · subst h3
        go_enter Tryz.func55, Tryz.ntmps55
        go_wp2_with fail
        go_ret
        exact ⟨rfl, rfl⟩
      · have e1 : (c == 32) = false := by simpa using h1
        have e2 : (c == 9) = false := by simpa using h2
        have e3 : (c == 13) = false := by simpa using h3
        have e4 : Hid ((c == 10) = decide (c = 32 ∨ c = 9 ∨ c = 13 ∨ c = 10)) := by rw [Hid, Bool.eq_iff_iff]; simp [h1, h2, h3]
        clear h1 h2 h3
        go_enter Tryz.func55, Tryz.ntmps55
        go_wp2_with fail
        go_ret
        exact ⟨ret_bool e4.out, rfl⟩
set_option maxRecDepth 100000 in
set_option maxHeartbeats 2000000 in
theorem ref32_Kind (a : Option Addr) (len cap : Nat) (xs : List Int) (w : World) (hr : Reads .u8 w a len cap xs) (hN : len < 1000000) :
    Calls Tryz.prog 56 #[.slice a len cap] w fun e w' => e = .returned (.int .i64 (kdW xs)) ∧ Below w.heap.size w w' := by
  have hl := hr.len_le
  have hP0 := ref29_Parse a len cap xs w hr (by omega)
  unfold ParP at hP0
  have HP := hid hP0
  have HR := hid hr
  have hsz := hr.size
  have hkd : kdW xs = if (decide (0 < len) && xs.all gp) = true then 1 else if ewE xs = 0 then 3 else 2 := by
    unfold kdW
    have : (xs ≠ [] ∧ xs.all gp = true) ↔ (decide (0 < len) && xs.all gp) = true := by
      rw [Bool.and_eq_true, decide_eq_true_eq, ← hsz, List.length_pos_iff]
    by_cases h : xs ≠ [] ∧ xs.all gp = true
    · rw [if_pos h, if_pos (this.1 h)]
    · rw [if_neg h, if_neg (fun hh => h (this.2 hh))]
  obtain ⟨D, hD⟩ : ∃ D, D = kdW xs := ⟨_, rfl⟩
  rw [← hD] at hkd ⊢
  have HD := hid hkd
  clear hr hP0 hkd hsz hD
  generalize ewN xs = N at *
  generalize ewT xs = T at *
  generalize ewK xs = K at *
  generalize ewE xs = E at *
  go_enter Tryz.func56, Tryz.ntmps56
  go_wp2_with fail
  go_loop [3, 4] (fun v i => ∃ (k : Nat) (b : Bool), k ≤ len ∧ i = .int .i64 k ∧ v = .bool b ∧ Hid (b = (decide (0 < len) && (xs.take k).all gp))) (fun _ i => len - (intOf i).toNat)
  case atStart => exact ⟨0, decide (0 < len), Nat.zero_le _, rfl, by simp, by simp [Hid]⟩
  case round =>
    obtain ⟨k, b, hk, rfl, rfl, hb⟩ := hrel
    by_cases hlt : k < len
    · obtain ⟨b', off, x, rfl, _, hc, h0, h1, hx⟩ := HR.out.get8 hlt
      have z1 : (k : Int) < (len : Int) := by omega
      cases b
      · have HB : Hid (false = (decide (0 < len) && (xs.take (k + 1)).all gp)) := by
          rw [Hid, hx.out.2, List.all_append, ← Bool.and_assoc, ← hb.out]; rfl
        clear hx hb
        go_wp2_with fail
        go_round
        case rel => exact ⟨k + 1, false, by omega, by go_num, rfl, HB⟩
        case measure => simp [intOf]; omega
      · have HB : Hid (gp x = (decide (0 < len) && (xs.take (k + 1)).all gp)) := by
          rw [Hid, hx.out.2, List.all_append, ← Bool.and_assoc, ← hb.out]; simp
        clear hx hb
        go_wp2_with (go_at_call 55; (with_reducible refine (ref32_gap _ _).mono ?_); rintro e w' ⟨rfl, rfl⟩)
        go_round
        case rel => exact ⟨k + 1, gp x, by omega, by go_num, rfl, HB⟩
        case measure => simp [intOf]; omega
    · obtain rfl : k = len := by omega
      have z1 : ¬ (k : Int) < (k : Int) := by omega
      have hb' := hb.out
      rw [HR.out.all (Nat.le_refl _)] at hb'
      have HB := hid hb'
      clear hb hb'
      cases b
      · by_cases hE : E = 0
        · subst hE
          go_wp2_with (go_at_call 37; (with_reducible refine HP.out.mono ?_); rintro e w1 ⟨a1, l1, c1, a2, l2, c2, rfl, r1, r2, hb1⟩)
          go_ret
          exact ⟨ret_int (by rw [HD.out, ← HB.out]; rfl), hb1.alloc hb1.size _⟩
        · have hE' : (E == 0) = false := by simpa using hE
          have HE := hid hE
          clear hE
          go_wp2_with (go_at_call 37; (with_reducible refine HP.out.mono ?_); rintro e w1 ⟨a1, l1, c1, a2, l2, c2, rfl, r1, r2, hb1⟩)
          go_ret
          exact ⟨ret_int (by rw [HD.out, ← HB.out, if_neg Bool.false_ne_true, if_neg HE.out]), hb1.alloc hb1.size _⟩
      · go_wp2_with fail
        go_ret
        exact ⟨ret_int (by rw [HD.out, ← HB.out]; rfl), Below.refl _ _⟩
set_option maxRecDepth 100000 in
set_option maxHeartbeats 1000000 in
theorem ref32_Hidden (a : Option Addr) (n c : Nat) (ps : List (Int × List Int)) (i : Nat) (w : World) (hr : RwsG shPc w a n c ps) (hi : i < n) (hN : n < 1000000) :
    Calls Tryz.prog 36 #[.slice a n c, .int .i64 i] w fun e w' => e = .returned (.bool (hidP (ps.map Prod.fst) i)) ∧ w = w' := by
  have hsz := hr.size
  have hrm := hr.room
  have key : ∀ (j : Nat) (k : Int) (x : List Int), ps[j]? = some (k, x) → (ps.map Prod.fst).getD j 0 = k := by
    intro j k x h
    rw [List.getD_eq_getElem?_getD, List.getElem?_map, h]; rfl
  obtain ⟨b, off, k0, x0, ai, li, ci, rfl, hbw, hc0, _, _, hg0, _⟩ := hr.get2 hi
  have e0 := key _ _ _ hg0
  obtain ⟨R, hR⟩ : ∃ R, R = hidP (ps.map Prod.fst) i := ⟨_, rfl⟩
  have hR2 := hR
  unfold hidP at hR2
  rw [e0, List.length_map, hsz] at hR2
  rw [← hR]
  have q0 : (0 : Int) ≤ (i : Int) := by omega
  have q1 : (i : Int) < (n : Int) := by omega
  by_cases h1 : k0 = 1
  · subst h1
    by_cases h2 : 0 < i
    · by_cases h3 : i + 1 < n
      · obtain ⟨b', off', k1, x1, ai1, li1, ci1, hb', _, hc1, _, _, hg1, _⟩ := hr.get2 (i := i - 1) (by omega)
        cases hb'
        obtain ⟨b', off', k2, x2, ai2, li2, ci2, hb', _, hc2, _, _, hg2, _⟩ := hr.get2 (i := i + 1) h3
        cases hb'
        rw [key _ _ _ hg1, key _ _ _ hg2] at hR2
        have p0 : (0 : Int) < (i : Int) := by omega
        have p1 : (i : Int) + 1 < (n : Int) := by omega
        have p2 : IntKind.i64.wrap ((i : Int) + 1) = (i : Int) + 1 := IntWalk.i64_in _ (by omega)
        have p3 : (0 : Int) ≤ (i : Int) - 1 := by omega
        have p4 : (i : Int) - 1 < (n : Int) := by omega
        have p5 : ((i : Int) - 1).toNat = i - 1 := by omega
        have p6 : ((i : Int) + 1).toNat = i + 1 := by omega
        have p7 : (0 : Int) ≤ (i : Int) + 1 := by omega
        have HRR := hid hR2
        clear hR hR2 hg0 hg1 hg2 hr key e0 hsz
        by_cases h4 : k1 = 3
        · subst h4
          have HV : Hid ((k2 == 3) = R) := by
            rw [Hid, HRR.out, decide_eq_true (rfl : (1 : Int) = 1), decide_eq_true h2, decide_eq_true h3, decide_eq_true (rfl : (3 : Int) = 3), Bool.eq_iff_iff]; simp
          go_enter Tryz.func36, Tryz.ntmps36
          go_wp2_with fail
          go_ret
          exact ⟨ret_bool HV.out, rfl⟩
        · have h4' : (k1 == 3) = false := by simpa using h4
          have HV : Hid (false = R) := by
            rw [Hid, HRR.out, decide_eq_false h4]; simp
          clear h4
          go_enter Tryz.func36, Tryz.ntmps36
          go_wp2_with fail
          go_ret
          exact ⟨ret_bool HV.out, rfl⟩
      · have HV : Hid (false = R) := by
          rw [Hid, hR2, decide_eq_false h3]; simp
        have p0 : (0 : Int) < (i : Int) := by omega
        have p1 : ¬ (i : Int) + 1 < (n : Int) := by omega
        have p2 : IntKind.i64.wrap ((i : Int) + 1) = (i : Int) + 1 := IntWalk.i64_in _ (by omega)
        clear hR hR2 hg0 hr key e0 hsz
        go_enter Tryz.func36, Tryz.ntmps36
        go_wp2_with fail
        go_ret
        exact ⟨ret_bool HV.out, rfl⟩
    · obtain rfl : i = 0 := by omega
      have HV : Hid (false = R) := by
        rw [Hid, hR2, decide_eq_false h2]; simp
      rw [Nat.zero_mul, Nat.add_zero] at hc0
      clear hR hR2 hg0 hr key e0 hsz
      go_enter Tryz.func36, Tryz.ntmps36
      go_wp2_with fail
      go_ret
      exact ⟨ret_bool HV.out, rfl⟩
  · have h1' : (k0 == 1) = false := by simpa using h1
    have HV : Hid (false = R) := by
      rw [Hid, hR2, decide_eq_false h1]; simp
    clear hR hR2 hg0 hr key e0 hsz h1
    go_enter Tryz.func36, Tryz.ntmps36
    go_wp2_with fail
    go_ret
    exact ⟨ret_bool HV.out, rfl⟩
end Go.Proofs.YtefhddbbiheadaaGreat
