/-
  Texts of ours laid together: C29.
-/
import Derived.Deep.RegionHeld3
import Derived.Test.YtplceogclmgnnaaGreatZ39

/-! C29 -/
namespace Go.Proofs.YtplceogclmgnnaaGreat
open Go.RowKit
set_option linter.unusedVariables false

theorem ewform_isRight (k : Int) (a : Option Addr) (len cap : Nat) (xs : List Int) (w : World) (hr : Reads .u8 w a len cap xs) (hN : len < 1000000) :
    Calls Tryz.prog 40 #[.int .i64 k, .slice a len cap] w fun e w' => e = .returned (.bool (if k = 1 then decide (codE xs = 0) else decide (chkW xs = 0))) ∧ Below w.heap.size w w' := by
  by_cases hk : k = 1
  · subst hk
    rw [if_pos rfl]
    have H := hid (bcode_Right a len cap xs w hr (by omega))
    generalize decide (codE xs = 0) = E at *
    clear hr
    go_enter Tryz.func40, Tryz.ntmps40
    go_wp2_with (go_at_call 78; (with_reducible refine H.out.mono ?_); rintro e w1 ⟨rfl, hb1⟩)
    go_ret
    exact ⟨rfl, hb1⟩
  · rw [if_neg hk]
    have H := hid (qword_Check a len cap xs w hr (by omega))
    have hk' : (k == 1) = false := by simpa using hk
    generalize chkW xs = E at *
    clear hr hk
    go_enter Tryz.func40, Tryz.ntmps40
    go_wp2_with (go_at_call 79; (with_reducible refine H.out.mono ?_); rintro e w1 ⟨rfl, hb1⟩)
    go_ret
    exact ⟨ret_bool (by first | rfl | simp), hb1⟩
theorem ewform_decode (k : Int) (a : Option Addr) (len cap : Nat) (xs : List Int) (w : World) (hr : Reads .u8 w a len cap xs) (hN : len < 1000000) :
    Calls Tryz.prog 35 #[.int .i64 k, .slice a len cap] w fun e w' => ∃ a' l' c', e = .returned (.slice a' l' c') ∧ Reads .u8 w' a' l' c' (if k = 1 then looL xs else readW xs) ∧ Below w.heap.size w w' := by
  by_cases hk : k = 1
  · subst hk
    rw [if_pos rfl]
    have H := hid (bloose_Read a len cap xs w hr (by omega))
    generalize looL xs = E at *
    clear hr
    go_enter Tryz.func35, Tryz.ntmps35
    go_wp2_with (go_at_call 66; (with_reducible refine H.out.mono ?_); rintro e w1 ⟨a1, l1, c1, rfl, r1, hb1⟩)
    go_ret
    exact ⟨_, _, _, rfl, r1, hb1⟩
  · rw [if_neg hk]
    have H := hid (qword_Read a len cap xs w hr (by omega))
    have hk' : (k == 1) = false := by simpa using hk
    generalize readW xs = E at *
    clear hr hk
    go_enter Tryz.func35, Tryz.ntmps35
    go_wp2_with (go_at_call 67; (with_reducible refine H.out.mono ?_); rintro e w1 ⟨a1, l1, c1, rfl, r1, hb1⟩)
    go_ret
    exact ⟨_, _, _, rfl, r1, hb1⟩
theorem ewform_encode (k : Int) (a : Option Addr) (len cap : Nat) (xs : List Int) (w : World) (hr : Reads .u8 w a len cap xs) (hN : len < 1000000) (hk : k = 1 ∨ k = 2) :
    Calls Tryz.prog 47 #[.int .i64 k, .slice a len cap] w fun e w' => ∃ a' l' c', e = .returned (.slice a' l' c') ∧ Reads .u8 w' a' l' c' (ewTx k xs) ∧ Below w.heap.size w w' := by
  unfold ewTx
  rcases hk with rfl | rfl
  · rw [if_neg (by decide)]
    have H := hid (bcode_Lay a len cap xs w hr (by omega))
    generalize layB xs = E at *
    clear hr
    go_enter Tryz.func47, Tryz.ntmps47
    go_wp2_with (go_at_call 85; (with_reducible refine H.out.mono ?_); rintro e w1 ⟨v1, rfl, o1, hb1⟩; obtain ⟨a1, c1, rfl, r1⟩ := o1.reads)
    go_ret
    exact ⟨_, _, _, rfl, r1, hb1⟩
  · rw [if_pos rfl]
    have H := hid (qword_Lay a len cap xs w hr (by omega))
    generalize layW xs = E at *
    clear hr
    go_enter Tryz.func47, Tryz.ntmps47
    go_wp2_with (go_at_call 86; (with_reducible refine H.out.mono ?_); rintro e w1 ⟨a1, l1, c1, rfl, r1, hb1⟩)
    go_ret
    exact ⟨_, _, _, rfl, r1, hb1⟩
theorem lenB_len (s : List Int) : lenB (s.length : Int) = ((layB s).length : Int) := by
  rw [layB_len]
  unfold lenB
  split <;> omega
theorem ewform_textLen (k : Int) (a : Option Addr) (len cap : Nat) (xs : List Int) (w : World) (hr : Reads .u8 w a len cap xs) (hN : len < 1000000) (hk : k = 1 ∨ k = 2) :
    Calls Tryz.prog 44 #[.int .i64 k, .slice a len cap] w fun e w' => e = .returned (.int .i64 ((ewTx k xs).length)) ∧ Below w.heap.size w w' := by
  unfold ewTx
  rcases hk with rfl | rfl
  · rw [if_neg (by decide), ← lenB_len, hr.size]
    have H := hid (bcode_Len (len : Int) w (by omega))
    generalize lenB (len : Int) = E at *
    clear hr
    go_enter Tryz.func44, Tryz.ntmps44
    go_wp2_with (go_at_call 80; (with_reducible refine H.out.mono ?_); rintro e w1 ⟨rfl, rfl⟩)
    go_ret
    exact ⟨rfl, Below.refl _ _⟩
  · rw [if_pos rfl]
    have H := hid (qword_Len a len cap xs w hr (by omega))
    generalize (layW xs).length = E at *
    clear hr
    go_enter Tryz.func44, Tryz.ntmps44
    go_wp2_with (go_at_call 81; (with_reducible refine H.out.mono ?_); rintro e w1 ⟨rfl, hb1⟩)
    go_ret
    exact ⟨rfl, hb1⟩
def ltS (k : Int) : ByteArray := if k = 1 then { data := #[66] } else { data := #[81] }
theorem ewform_letterOf (k : Int) (w : World) : Calls Tryz.prog 84 #[.int .i64 k] w fun e w' => e = .returned (.string (ltS k)) ∧ w = w' := by
  unfold ltS
  by_cases hk : k = 1
  · subst hk
    rw [if_pos rfl]
    go_enter Tryz.func84, Tryz.ntmps84
    go_wp2_with fail
    go_ret
    exact ⟨rfl, rfl⟩
  · rw [if_neg hk]
    have hk' : (k == 1) = false := by simpa using hk
    clear hk
    go_enter Tryz.func84, Tryz.ntmps84
    go_wp2_with fail
    go_ret
    exact ⟨rfl, rfl⟩
def ahS (n k : Int) : ByteArray := ((({ data := #[61, 63] } ++ nmS n) ++ { data := #[63] }) ++ ltS k) ++ { data := #[63] }
theorem octB_ap (a b : ByteArray) : octB' (a ++ b) = octB' a ++ octB' b := by
  unfold octB'
  rw [ByteArray.data_append, Array.toList_append, List.map_append]
theorem octB_len (a : ByteArray) : (octB' a).length = a.size := by unfold octB'; rw [List.length_map, Array.length_toList]; rfl
theorem ahS_oct (n k : Int) (hk : k = 1 ∨ k = 2) : octB' (ahS n k) = [61, 63] ++ nmL n ++ ewMk k := by
  unfold ahS
  rw [octB_ap, octB_ap, octB_ap, octB_ap]
  change ((([61, 63] ++ nmL n) ++ [63]) ++ octB' (ltS k)) ++ [63] = _
  rcases hk with rfl | rfl
  · rw [show octB' (ltS 1) = [66] from rfl, show ewMk 1 = [63, 66, 63] from rfl]; simp
  · rw [show octB' (ltS 2) = [81] from rfl, show ewMk 2 = [63, 81, 63] from rfl]; simp
theorem ahS_size {n : Int} (k : Int) (hn : 1 ≤ n ∧ n ≤ 5) : (ahS n k).size = (nmS n).size + 5 ∧ (ahS n k).size ≤ 17 := by
  have h := nm_size hn
  have hl : (ltS k).size = 1 := by unfold ltS; split <;> rfl
  have : (ahS n k).size = (nmS n).size + 5 := by
    unfold ahS
    rw [ByteArray.size_append, ByteArray.size_append, ByteArray.size_append, ByteArray.size_append, hl]
    have e1 : (ByteArray.mk #[61, 63]).size = 2 := rfl
    have e2 : (ByteArray.mk #[63]).size = 1 := rfl
    omega
  exact ⟨this, by omega⟩
theorem ewform_ahead (n k : Int) (w : World) : Calls Tryz.prog 46 #[.int .i64 n, .int .i64 k] w fun e w' => e = .returned (.string (ahS n k)) ∧ Below w.heap.size w w' := by
  have HN := hid (label_Name n w)
  change Hid (Calls Tryz.prog 83 #[.int .i64 n] w fun e w' => e = .returned (.string (nmS n)) ∧ Below w.heap.size w w') at HN
  have HL := hid (ewform_letterOf k)
  have hs : (nmS n).size ≤ 12 := by
    by_cases hn : 1 ≤ n ∧ n ≤ 5
    · exact (nm_size hn).1
    · have e : nm11 n = [] := by
        have h := nm_in n
        rw [decide_eq_false hn] at h
        cases hl : nm11 n with
        | nil => rfl
        | cons s l => rw [hl] at h; simp at h
      unfold nmS
      rw [e]
      decide
  have hl : (ltS k).size ≤ 1 := by unfold ltS; split <;> decide
  unfold ahS
  generalize nmS n = S at *
  generalize ltS k = L at *
  go_enter Tryz.func46, Tryz.ntmps46
  go_wp2_with (first
    | (go_at_call 83; (with_reducible refine HN.out.mono ?_); rintro e w1 ⟨rfl, hb1⟩)
    | (go_at_call 84; (with_reducible refine (HL.out _).mono ?_); rintro e w2 ⟨rfl, rfl⟩))
  go_ret
  exact ⟨rfl, hb1⟩
theorem ewform_Over (n : Int) (w : World) (hn : (Lit.int .i64 n).wf = true) :
    Calls Tryz.prog 21 #[.int .i64 n] w fun e w' => e = .returned (.int .i64 (ewO n)) ∧ Below w.heap.size w w' := by
  have HI := hid (label_IsCharset n w)
  by_cases h : 1 ≤ n ∧ n ≤ 5
  · rw [decide_eq_true h] at HI
    rw [ewO_eq h]
    obtain ⟨h1, h2⟩ := ahS_size 1 h
    rw [show 7 + ((nmS n).size : Int) = ((ahS n 1).size : Int) + 2 by omega]
    have HA := hid (ewform_ahead n 1)
    generalize ahS n 1 = S at *
    clear h1 h
    go_enter Tryz.func21, Tryz.ntmps21
    go_wp2_with (first
      | (go_at_call 43; (with_reducible refine HI.out.mono ?_); rintro e w1 ⟨rfl, hb1⟩)
      | (go_at_call 46; (with_reducible refine (HA.out _).mono ?_); rintro e w2 ⟨rfl, hb2⟩; have hw2 := below_then hb1 hb2))
    go_ret
    exact ⟨rfl, hw2⟩
  · rw [decide_eq_false h] at HI
    have e0 : ewO n = 0 := by unfold ewO; rw [if_neg h]
    rw [e0]
    clear e0 h
    go_enter Tryz.func21, Tryz.ntmps21
    go_wp2_with (go_at_call 43; (with_reducible refine HI.out.mono ?_); rintro e w1 ⟨rfl, hb1⟩)
    go_ret
    exact ⟨rfl, hb1⟩
theorem ewform_Is (a : Option Addr) (len cap : Nat) (xs : List Int) (w : World) (hr : Reads .u8 w a len cap xs) (hN : len < 100000) :
    Calls Tryz.prog 11 #[.slice a len cap] w fun e w' => e = .returned (.bool (decide (ewE xs = 0))) ∧ Below w.heap.size w w' := by
  have HP := hid (ewform_Parse a len cap xs w hr hN)
  clear hr
  generalize ewN xs = N at *
  generalize ewT xs = T at *
  generalize ewK xs = K at *
  generalize ewE xs = E at *
  go_enter Tryz.func11, Tryz.ntmps11
  go_wp2_with (go_at_call 8; (with_reducible refine HP.out.mono ?_); rintro e w1 ⟨a1, l1, c1, a2, l2, c2, rfl, r1, r2, hb1⟩; have hw := hb1.alloc hb1.size (.cells #[.slice a1 l1 c1, .int .i64 K, .slice a2 l2 c2] 25))
  go_ret
  exact ⟨ret_bool (by first | rfl | simp), hw⟩
theorem ewform_charsetOf (a : Option Addr) (len cap : Nat) (xs : List Int) (w : World) (hr : Reads .u8 w a len cap xs) (hN : len < 1000000) :
    Calls Tryz.prog 34 #[.slice a len cap] w fun e w' => e = .returned (.int .i64 (if csNE (keyB xs) = 0 then csN (keyB xs) else 2)) ∧ Below w.heap.size w w' := by
  have H := hid (label_Charset a len cap xs w hr (by omega))
  clear hr
  generalize csNE (keyB xs) = E at *
  generalize csN (keyB xs) = C at *
  by_cases hE : E = 0
  · subst hE
    rw [if_pos rfl]
    go_enter Tryz.func34, Tryz.ntmps34
    go_wp2_with (go_at_call 39; (with_reducible refine H.out.mono ?_); rintro e w1 ⟨rfl, hb1⟩)
    go_ret
    exact ⟨rfl, hb1⟩
  · rw [if_neg hE]
    have hE' : (E != 0) = true := by simpa using hE
    clear hE
    go_enter Tryz.func34, Tryz.ntmps34
    go_wp2_with (go_at_call 39; (with_reducible refine H.out.mono ?_); rintro e w1 ⟨rfl, hb1⟩)
    go_ret
    exact ⟨rfl, hb1⟩
theorem ewform_Charset (a : Option Addr) (len cap : Nat) (xs : List Int) (w : World) (hr : Reads .u8 w a len cap xs) (hN : len < 100000) :
    Calls Tryz.prog 15 #[.slice a len cap] w fun e w' => e = .returned (.int .i64 (ewH xs)) ∧ Below w.heap.size w w' := by
  have HP := hid (ewform_Parse a len cap xs w hr hN)
  have hNl := ewN_len xs
  rw [hr.size] at hNl
  have HC := hid (fun a1 l1 c1 W (h : Reads .u8 W a1 l1 c1 (ewN xs)) => ewform_charsetOf a1 l1 c1 _ W h (by have := h.size; omega))
  unfold ewH
  clear hr hNl
  generalize (if csNE (keyB (ewN xs)) = 0 then csN (keyB (ewN xs)) else 2) = H at *
  generalize ewN xs = N at *
  generalize ewT xs = T at *
  generalize ewK xs = K at *
  generalize ewE xs = E at *
  by_cases hE : E = 0
  · subst hE
    rw [if_pos rfl]
    go_enter Tryz.func15, Tryz.ntmps15
    go_wp2_with (first
      | (go_at_call 8; (with_reducible refine HP.out.mono ?_); rintro e w1 ⟨a1, l1, c1, a2, l2, c2, rfl, r1, r2, hb1⟩; have hal := (Below.refl w1.heap.size w1).alloc (Nat.le_refl _) (.cells #[.slice a1 l1 c1, .int .i64 K, .slice a2 l2 c2] 25); have r1' := r1.below hal; have hw := hb1.alloc hb1.size (.cells #[.slice a1 l1 c1, .int .i64 K, .slice a2 l2 c2] 25))
      | (go_at_call 34; (with_reducible refine (HC.out _ _ _ _ r1').mono ?_); rintro e w2 ⟨rfl, hb2⟩; have hw2 := below_then hw hb2))
    go_ret
    exact ⟨rfl, hw2⟩
  · rw [if_neg hE]
    have hE' : (E != 0) = true := by simpa using hE
    clear hE
    go_enter Tryz.func15, Tryz.ntmps15
    go_wp2_with (go_at_call 8; (with_reducible refine HP.out.mono ?_); rintro e w1 ⟨a1, l1, c1, a2, l2, c2, rfl, r1, r2, hb1⟩; have hw := hb1.alloc hb1.size (.cells #[.slice a1 l1 c1, .int .i64 K, .slice a2 l2 c2] 25))
    go_ret
    exact ⟨rfl, hw⟩
theorem ewform_Strict (a : Option Addr) (len cap : Nat) (xs : List Int) (w : World) (hr : Reads .u8 w a len cap xs) (hN : len < 100000) :
    Calls Tryz.prog 17 #[.slice a len cap] w fun e w' => e = .returned (.bool (ewS xs)) ∧ Below w.heap.size w w' := by
  have HP := hid (ewform_Parse a len cap xs w hr hN)
  have hNl := ewN_len xs
  have hTl := ewT_len xs
  rw [hr.size] at hNl hTl
  have H1 := hid (fun a1 l1 c1 W (h : Reads .u8 W a1 l1 c1 (ewN xs)) => label_Charset a1 l1 c1 _ W h (by have := h.size; omega))
  have H2 := hid (fun a1 l1 c1 W (h : Reads .u8 W a1 l1 c1 (ewT xs)) => ewform_isRight (ewK xs) a1 l1 c1 _ W h (by have := h.size; omega))
  unfold ewS
  clear hr hNl hTl
  generalize (if ewK xs = 1 then decide (codE (ewT xs) = 0) else decide (chkW (ewT xs) = 0)) = R at *
  generalize csNE (keyB (ewN xs)) = C at *
  generalize csN (keyB (ewN xs)) = D at *
  generalize ewN xs = N at *
  generalize ewT xs = T at *
  generalize ewK xs = K at *
  generalize ewE xs = E at *
  by_cases hE : E = 0
  · subst hE
    rw [decide_eq_true rfl, Bool.true_and]
    by_cases hC : C = 0
    · subst hC
      rw [decide_eq_true rfl, Bool.true_and]
      go_enter Tryz.func17, Tryz.ntmps17
      go_wp2_with (first
        | (go_at_call 8; (with_reducible refine HP.out.mono ?_); rintro e w1 ⟨a1, l1, c1, a2, l2, c2, rfl, r1, r2, hb1⟩; have hal := (Below.refl w1.heap.size w1).alloc (Nat.le_refl _) (.cells #[.slice a1 l1 c1, .int .i64 K, .slice a2 l2 c2] 25); have r1' := r1.below hal; have r2' := r2.below hal; have hw := hb1.alloc hb1.size (.cells #[.slice a1 l1 c1, .int .i64 K, .slice a2 l2 c2] 25); have BW := Blk.new w1 25 #[.slice a1 l1 c1, .int .i64 K, .slice a2 l2 c2])
        | (go_at_call 39; (with_reducible refine (H1.out _ _ _ _ r1').mono ?_); rintro e w2 ⟨rfl, hb2⟩; have B2 := BW.below hb2 (by simp); have d1 := B2.cell (i := 1) rfl; have d2 := B2.cell (i := 2) rfl; have r22 := r2'.below hb2; have hw2 := below_then hw hb2)
        | (go_at_call 40; (with_reducible refine (H2.out _ _ _ _ r22).mono ?_); rintro e w3 ⟨rfl, hb3⟩; have hw3 := below_then hw2 hb3))
      go_ret
      exact ⟨ret_bool (by first | rfl | simp), hw3⟩
    · rw [decide_eq_false hC, Bool.false_and]
      have hC' : (C == 0) = false := by simpa using hC
      clear hC
      go_enter Tryz.func17, Tryz.ntmps17
      go_wp2_with (first
        | (go_at_call 8; (with_reducible refine HP.out.mono ?_); rintro e w1 ⟨a1, l1, c1, a2, l2, c2, rfl, r1, r2, hb1⟩; have hal := (Below.refl w1.heap.size w1).alloc (Nat.le_refl _) (.cells #[.slice a1 l1 c1, .int .i64 K, .slice a2 l2 c2] 25); have r1' := r1.below hal; have hw := hb1.alloc hb1.size (.cells #[.slice a1 l1 c1, .int .i64 K, .slice a2 l2 c2] 25))
        | (go_at_call 39; (with_reducible refine (H1.out _ _ _ _ r1').mono ?_); rintro e w2 ⟨rfl, hb2⟩; have hw2 := below_then hw hb2))
      go_ret
      exact ⟨ret_bool (by first | rfl | simp), hw2⟩
  · rw [decide_eq_false hE, Bool.false_and]
    have hE' : (E != 0) = true := by simpa using hE
    clear hE
    go_enter Tryz.func17, Tryz.ntmps17
    go_wp2_with (go_at_call 8; (with_reducible refine HP.out.mono ?_); rintro e w1 ⟨a1, l1, c1, a2, l2, c2, rfl, r1, r2, hb1⟩; have hw := hb1.alloc hb1.size (.cells #[.slice a1 l1 c1, .int .i64 K, .slice a2 l2 c2] 25))
    go_ret
    exact ⟨rfl, hw⟩
set_option maxHeartbeats 2000000 in
theorem ewform_Read (a : Option Addr) (len cap : Nat) (xs : List Int) (w : World) (hr : Reads .u8 w a len cap xs) (hN : len < 100000) :
    Calls Tryz.prog 12 #[.slice a len cap] w fun e w' => ∃ a' l' c', e = .returned (.tuple #[.slice a' l' c', .bool (decide (ewE xs = 0))]) ∧ Reads .i32 w' a' l' c' (ewR xs) ∧ Below w.heap.size w w' := by
  have HP := hid (ewform_Parse a len cap xs w hr hN)
  have hNl := ewN_len xs
  have hTl := ewT_len xs
  have hBl := ewB_len xs
  rw [hr.size] at hNl hTl hBl
  have H1 := hid (fun a1 l1 c1 W (h : Reads .u8 W a1 l1 c1 (ewN xs)) => ewform_charsetOf a1 l1 c1 _ W h (by have := h.size; omega))
  have H2 := hid (fun a1 l1 c1 W (h : Reads .u8 W a1 l1 c1 (ewT xs)) => ewform_decode (ewK xs) a1 l1 c1 _ W h (by have := h.size; omega))
  have H3 := hid (fun n a1 l1 c1 W (h : Reads .u8 W a1 l1 c1 (ewB xs)) => codec_Read n a1 l1 c1 _ W h (by have := h.size; omega))
  unfold ewR ewH
  unfold ewB at H3 ⊢
  clear hr hNl hTl hBl
  generalize (if ewK xs = 1 then looL (ewT xs) else readW (ewT xs)) = B at *
  generalize (if csNE (keyB (ewN xs)) = 0 then csN (keyB (ewN xs)) else 2) = H at *
  generalize ewN xs = N at *
  generalize ewT xs = T at *
  generalize ewK xs = K at *
  generalize ewE xs = E at *
  by_cases hE : E = 0
  · subst hE
    rw [decide_eq_true rfl, if_pos rfl, if_pos rfl]
    go_enter Tryz.func12, Tryz.ntmps12
    go_wp2_with (go_at_call 8; (with_reducible refine HP.out.mono ?_); rintro e w1 ⟨a1, l1, c1, a2, l2, c2, rfl, r1, r2, hb1⟩; have hal := (Below.refl w1.heap.size w1).alloc (Nat.le_refl _) (.cells #[.slice a1 l1 c1, .int .i64 K, .slice a2 l2 c2] 25); have r1' := r1.below hal; have r2' := r2.below hal; have hw := hb1.alloc hb1.size (.cells #[.slice a1 l1 c1, .int .i64 K, .slice a2 l2 c2] 25); have BW := Blk.new w1 25 #[.slice a1 l1 c1, .int .i64 K, .slice a2 l2 c2])
    have hsz1 : w1.heap.size < (w1.alloc (.cells #[.slice a1 l1 c1, .int .i64 K, .slice a2 l2 c2] 25)).heap.size := by simp
    generalize (w1.alloc (.cells #[.slice a1 l1 c1, .int .i64 K, .slice a2 l2 c2] 25)) = W at *
    have BD : Blk W.drew w1.heap.size 25 #[.slice a1 l1 c1, .int .i64 K, .slice a2 l2 c2] := BW
    have r1D := r1'.below (below_drew (Below.refl W.heap.size W))
    have r2D := r2'.below (below_drew (Below.refl W.heap.size W))
    have hwD := below_drew hw
    have hszD : w1.heap.size < W.drew.heap.size := hsz1
    have d0 := BD.cell (i := 0) rfl
    have d1 := BD.cell (i := 1) rfl
    have d2 := BD.cell (i := 2) rfl
    go_region_held3 (fun w' => w'.cell? ⟨w1.heap.size, 0, none⟩ = some (.slice a1 l1 c1) ∧ w'.cell? ⟨w1.heap.size, 1, none⟩ = some (.int .i64 K) ∧ w'.cell? ⟨w1.heap.size, 2, none⟩ = some (.slice a2 l2 c2)) (first | exact ⟨d0, d1, d2⟩ | exact ⟨d10, d11, d12⟩ | exact ⟨d20, d21, d22⟩ | exact ⟨d30, d31, d32⟩)
      (first
      | (go_at_call 34; (with_reducible refine (H1.out _ _ _ _ r1D).mono ?_); rintro e w2 ⟨rfl, h2⟩; have t2 := below_then hwD h2; have B2 := BD.below h2 BD.lt; have d10 := B2.cell (i := 0) rfl; have d11 := B2.cell (i := 1) rfl; have d12 := B2.cell (i := 2) rfl; have r22 := r2D.below h2)
      | (go_at_call 35; (with_reducible refine (H2.out _ _ _ _ r22).mono ?_); rintro e w3 ⟨a3, l3, c3, rfl, r3, h3⟩; have t3 := below_then t2 h3; have B3 := B2.below h3 B2.lt; have d20 := B3.cell (i := 0) rfl; have d21 := B3.cell (i := 1) rfl; have d22 := B3.cell (i := 2) rfl)
      | (go_at_call 33; (with_reducible refine (H3.out _ _ _ _ _ r3).mono ?_); rintro e w4 ⟨a4, l4, c4, rfl, r4, h4⟩; have t4 := below_then t3 h4; have B4 := B3.below h4 B3.lt; have d30 := B4.cell (i := 0) rfl; have d31 := B4.cell (i := 1) rfl; have d32 := B4.cell (i := 2) rfl))
    all_goals
      go_wp2_with fail
      go_ret2
      exact ⟨_, _, _, rfl, r4, t4⟩
  · rw [decide_eq_false hE, if_neg hE]
    have hE' : (E != 0) = true := by simpa using hE
    clear hE
    go_enter Tryz.func12, Tryz.ntmps12
    go_wp2_with (go_at_call 8; (with_reducible refine HP.out.mono ?_); rintro e w1 ⟨a1, l1, c1, a2, l2, c2, rfl, r1, r2, hb1⟩; have hw := hb1.alloc hb1.size (.cells #[.slice a1 l1 c1, .int .i64 K, .slice a2 l2 c2] 25))
    go_ret2
    exact ⟨none, 0, 0, rfl, Reads.nil _ _ _ _ (Nat.zero_le _), hw⟩
/-- The three pieces, joined. -/
theorem cat63 (W : World) (a1 : Option Addr) (l1 c1 : Nat) (A : List Int) (r1 : Reads .u8 W a1 l1 c1 A) (a2 : Option Addr) (l2 c2 : Nat) (T : List Int) (r2 : Reads .u8 W a2 l2 c2 T) (h1 : l1 < 10000000) (h2 : l2 < 10000000) :
    Calls Tryz.prog 45 #[.slice (some ⟨W.heap.size + 1, 0, none⟩) 3 3] ((W.alloc (.cells #[.int .u8 63, .int .u8 61] 5 (2, 3))).alloc (.cells #[.slice a1 l1 c1, .slice a2 l2 c2, .slice (some ⟨W.heap.size, 0, none⟩) 2 2] 22)) fun e w' => ∃ v, e = .returned v ∧ Own .u8 5 W.heap.size w' v (A ++ T ++ [63, 61]) ∧ Below W.heap.size W w' := by
  have b2 := (Below.refl W.heap.size W).alloc (Nat.le_refl _) (.cells #[.int .u8 63, .int .u8 61] 5 (2, 3))
  have b3 := (Below.refl (W.alloc (.cells #[.int .u8 63, .int .u8 61] 5 (2, 3))).heap.size (W.alloc (.cells #[.int .u8 63, .int .u8 61] 5 (2, 3)))).alloc (Nat.le_refl _) (.cells #[.slice a1 l1 c1, .slice a2 l2 c2, .slice (some ⟨W.heap.size, 0, none⟩) 2 2] 22)
  have q1 := (r1.below b2).below b3
  have q2 := (r2.below b2).below b3
  have q3 := (Reads_litB .u8 5 (2, 3) W _ rfl [63, 61] (by decide) (by decide)).below b3
  have hz1 := r1.size
  have hz2 := r2.size
  have R : Rws ((W.alloc (.cells #[.int .u8 63, .int .u8 61] 5 (2, 3))).alloc (.cells #[.slice a1 l1 c1, .slice a2 l2 c2, .slice (some ⟨W.heap.size, 0, none⟩) 2 2] 22)) (some ⟨W.heap.size + 1, 0, none⟩) 3 3 [A, T, [63, 61]] := by
    refine ⟨rfl, by decide, by decide, fun _ => ⟨W.heap.size + 1, 0, rfl, by simp, fun i x hx => ?_⟩⟩
    have hc := fun j (v : Value) (h : (#[.slice a1 l1 c1, .slice a2 l2 c2, .slice (some ⟨W.heap.size, 0, none⟩) 2 2] : Array Value)[j]? = some v) => (show ((W.alloc (.cells #[.int .u8 63, .int .u8 61] 5 (2, 3))).alloc (.cells #[.slice a1 l1 c1, .slice a2 l2 c2, .slice (some ⟨W.heap.size, 0, none⟩) 2 2] 22)).cell? ⟨W.heap.size + 1, 0 + j, none⟩ = some v by
      rw [Nat.zero_add, World.cell?_alloc_at _ _ _ _ (by simp)]
      exact h)
    match i, hx with
    | 0, hx => cases hx; exact ⟨_, _, _, hc 0 _ rfl, q1⟩
    | 1, hx => cases hx; exact ⟨_, _, _, hc 1 _ rfl, q2⟩
    | 2, hx => cases hx; exact ⟨_, _, _, hc 2 _ rfl, q3⟩
    | i + 3, hx => simp at hx
  refine (slices_Concat _ 3 3 _ _ R (by simp; omega) (by decide)).mono ?_
  rintro e w' ⟨v, rfl, ho, hb⟩
  refine ⟨v, rfl, ?_, (b2.trans (b3.mono (by simp))).trans (hb.mono (by simp; omega))⟩
  have h := own_mono ho (show W.heap.size ≤ ((W.alloc (.cells #[.int .u8 63, .int .u8 61] 5 (2, 3))).alloc (.cells #[.slice a1 l1 c1, .slice a2 l2 c2, .slice (some ⟨W.heap.size, 0, none⟩) 2 2] 22)).heap.size by simp; omega)
  simpa using h
set_option maxHeartbeats 2000000 in
theorem ewform_Lay (n k : Int) (a : Option Addr) (len cap : Nat) (xs : List Int) (w : World) (hr : Reads .u8 w a len cap xs) (hN : len < 100000) (hn : (Lit.int .i64 n).wf = true) (hk : (Lit.int .i64 k).wf = true) :
    Calls Tryz.prog 19 #[.int .i64 n, .int .i64 k, .slice a len cap] w fun e w' => ∃ a' l' c', e = .returned (.tuple #[.slice a' l' c', .int .i64 (ewLE n k xs)]) ∧ Reads .u8 w' a' l' c' (ewL n k xs) ∧ Below w.heap.size w w' := by
  have HI := hid (label_IsCharset n w)
  have HK := hid (ewform_isCode k)
  have hsz := hr.size
  by_cases h : 1 ≤ n ∧ n ≤ 5
  · rw [decide_eq_true h] at HI
    by_cases h2 : (k = 1 ∨ k = 2) ∧ xs ≠ []
    · have hkk := h2.1
      have hE : ewLE n k xs = if 75 < (ewX n k xs).length then 12 else 0 := by unfold ewLE; rw [if_pos h, if_pos h2]
      have hL : ewL n k xs = if 75 < (ewX n k xs).length then [] else ewX n k xs := by
        unfold ewL
        rw [hE]
        split <;> simp_all
      rw [decide_eq_true (show 1 ≤ k ∧ k ≤ 2 by omega)] at HK
      have hpos : 0 < len := by have := List.length_pos_iff.2 h2.2; omega
      have hp0 : ((len : Int) == 0) = false := by simp; omega
      have hxl := ewX_len (k := k) h xs
      have hob := ewO_bd n
      have htl := ewTx_len k xs
      have HT := hid (fun W (hb : Below w.heap.size w W) => ewform_textLen k a len cap xs W (hr.below hb) (by omega) hkk)
      have HO := hid (fun W => ewform_Over n W hn)
      rw [hE, hL]
      by_cases h75 : 75 < (ewX n k xs).length
      · rw [if_pos h75, if_pos h75]
        have hgt : (75 : Int) - ewO n < ((ewTx k xs).length : Int) := by omega
        clear hE hL hxl htl h2 hkk hr hsz
        generalize (ewTx k xs).length = TL at *
        generalize ewO n = O at *
        clear h h75
        go_enter Tryz.func19, Tryz.ntmps19
        go_wp2_with (first
          | (go_at_call 43; (with_reducible refine HI.out.mono ?_); rintro e w1 ⟨rfl, hb1⟩)
          | (go_at_call 27; (with_reducible refine (HK.out _).mono ?_); rintro e w' ⟨rfl, rfl⟩)
          | (go_at_call 44; (with_reducible refine (HT.out _ hb1).mono ?_); rintro e w2 ⟨rfl, hb2⟩; have hw2 := below_then hb1 hb2)
          | (go_at_call 21; (with_reducible refine (HO.out _).mono ?_); rintro e w3 ⟨rfl, hb3⟩; have hw3 := below_then hw2 hb3))
        go_ret2
        exact ⟨none, 0, 0, rfl, Reads.nil _ _ _ _ (Nat.zero_le _), hw3⟩
      · rw [if_neg h75, if_neg h75]
        have hgt : ¬ (75 : Int) - ewO n < ((ewTx k xs).length : Int) := by omega
        have HA := hid (ewform_ahead n k)
        have HEn := hid (fun W (hb : Below w.heap.size w W) => ewform_encode k a len cap xs W (hr.below hb) (by omega) hkk)
        have hao := ahS_oct n k hkk
        have has := ahS_size k h
        have hX : Hid ((([61, 63] ++ nmL n ++ ewMk k) ++ ewTx k xs) ++ [63, 61] = ewX n k xs) := rfl
        have htl2 : (ewTx k xs).length < 1000000 := by omega
        clear hE hL hxl htl h2 hkk hr hsz h75
        generalize ewX n k xs = X at *
        generalize ewTx k xs = T at *
        generalize ewO n = O at *
        generalize ahS n k = S at *
        generalize [61, 63] ++ nmL n ++ ewMk k = A at *
        have HS := hid hao
        have hs17 : S.size ≤ 17 := has.2
        clear h hao has
        go_enter Tryz.func19, Tryz.ntmps19
        go_wp2_with (first
          | (go_at_call 43; (with_reducible refine HI.out.mono ?_); rintro e w1 ⟨rfl, hb1⟩)
          | (go_at_call 27; (with_reducible refine (HK.out _).mono ?_); rintro e w' ⟨rfl, rfl⟩)
          | (go_at_call 44; (with_reducible refine (HT.out _ hb1).mono ?_); rintro e w2 ⟨rfl, hb2⟩; have hw2 := below_then hb1 hb2)
          | (go_at_call 21; (with_reducible refine (HO.out _).mono ?_); rintro e w3 ⟨rfl, hb3⟩; have hw3 := below_then hw2 hb3)
          | (go_at_call 46; (with_reducible refine (HA.out _).mono ?_); rintro e w4 ⟨rfl, hb4⟩; have hw4 := below_then hw3 hb4; (obtain ⟨w5, C5, kc, hL5, hb5⟩ := conv_strL (P := Tryz.prog) (src := 9) (dst := 22) (e := 5) Tryz.underlying9 Tryz.underlying22 Tryz.underlying5 w4 S (by omega)); rw [HS.out] at hL5; have r5 := hL5.reads; have hw5 := below_then hw4 hb5)
          | (go_at_call 47; (with_reducible refine (HEn.out _ hw5).mono ?_); rintro e w6 ⟨a6, l6, c6, rfl, r6, hb6⟩; have hw6 := below_then hw5 hb6; have r56 := r5.below hb6; have kc2 := convB (P := Tryz.prog) (t := 22) (e := 5) Tryz.underlying22 Tryz.underlying5 w6 w6.heap.size rfl; have hl6 : l6 < 10000000 := (by have := r6.size; omega))
          | (go_at_call 45; (with_reducible refine (cat63 w6 _ _ _ A r56 _ _ _ T r6 (by omega) hl6).mono ?_); rintro e w7 ⟨v7, rfl, o7, hb7⟩; have hw7 := below_then hw6 hb7; (obtain ⟨a7, n7, c7, rfl, r7⟩ : ∃ a n c, v7 = .slice a n c ∧ Reads .u8 w7 a n c ((A ++ T) ++ [63, 61]) := (by obtain ⟨a, c, h1, h2⟩ := o7.reads; exact ⟨_, _, _, h1, h2⟩))))
        rw [hX.out] at r7
        go_ret2
        exact ⟨_, _, _, rfl, r7, hw7⟩
    · have hE : ewLE n k xs = 3 := by unfold ewLE; rw [if_pos h, if_neg h2]
      have hL : ewL n k xs = [] := by unfold ewL; rw [hE]; rfl
      rw [hE, hL]
      have hD : decide (1 ≤ k ∧ k ≤ 2) = false ∨ (decide (1 ≤ k ∧ k ≤ 2) = true ∧ len = 0) := by
        by_cases hk2 : 1 ≤ k ∧ k ≤ 2
        · refine .inr ⟨decide_eq_true hk2, ?_⟩
          have hx : xs = [] := by
            by_cases hx : xs = []
            · exact hx
            · exact absurd ⟨by omega, hx⟩ h2
          rw [← hsz, hx]; rfl
        · exact .inl (decide_eq_false hk2)
      clear hE hL h2 hr hsz h
      rcases hD with hD | ⟨hD, rfl⟩
      all_goals
        rw [hD] at HK
        clear hD
        go_enter Tryz.func19, Tryz.ntmps19
        go_wp2_with (first
          | (go_at_call 43; (with_reducible refine HI.out.mono ?_); rintro e w1 ⟨rfl, hb1⟩)
          | (go_at_call 27; (with_reducible refine (HK.out _).mono ?_); rintro e w' ⟨rfl, rfl⟩))
        go_ret2
        exact ⟨none, 0, 0, rfl, Reads.nil _ _ _ _ (Nat.zero_le _), hb1⟩
  · rw [decide_eq_false h] at HI
    have hE : ewLE n k xs = 10 := by unfold ewLE; rw [if_neg h]
    have hL : ewL n k xs = [] := by unfold ewL; rw [hE]; rfl
    rw [hE, hL]
    clear hE hL h hr hsz
    go_enter Tryz.func19, Tryz.ntmps19
    go_wp2_with (go_at_call 43; (with_reducible refine HI.out.mono ?_); rintro e w1 ⟨rfl, hb1⟩)
    go_ret2
    exact ⟨none, 0, 0, rfl, Reads.nil _ _ _ _ (Nat.zero_le _), hb1⟩
end Go.Proofs.YtplceogclmgnnaaGreat
