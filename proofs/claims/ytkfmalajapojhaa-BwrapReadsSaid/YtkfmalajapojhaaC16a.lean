/-
  Contracts of package bwrap's functions: what is laid.
-/
import Derived.Test.YtkfmalajapojhaaRows
import Derived.Test.YtkfmalajapojhaaR16
import Derived.Test.YtkfmalajapojhaaD16c
import Derived.Test.YtkfmalajapojhaaApt
import Derived.Test.YtkfmalajapojhaaC14c
import Derived.Test.YtkfmalajapojhaaKeep
import Derived.Deep.LoopGhost
namespace Go.Proofs.Ytkfmalajapojhaa
open Go.RowKit
set_option linter.unusedVariables false

theorem bwrap_LinesS (n : Int) (w : World) (hn : n ≤ 1099511627776) :
    Calls Try.prog 12 #[.int .i64 n] w fun e w' => e = .returned (.int .i64 (lineN n)) ∧ w = w' := by
  unfold lineN lenB
  by_cases h : n < 1
  · rw [if_pos h]
    go_enter Try.func12, Try.ntmps12
    go_wp2
    go_ret
    exact ⟨rfl, rfl⟩
  · have h1 : 1 ≤ n := by omega
    rw [if_neg h]
    clear h
    go_enter Try.func12, Try.ntmps12
    go_wp2
    all_goals
      go_ret
      exact ⟨ret_int (by omega), rfl⟩
theorem bwrap_Lines (n : Int) (w : World) (hn : n ≤ 1099511627776) :
    Calls Try.prog 12 #[.int .i64 n] w fun e w' => e = .returned (.int .i64 (lineN n)) ∧ Below w.heap.size w w' :=
  (bwrap_LinesS n w hn).mono fun e w' ⟨h1, h2⟩ => ⟨h1, h2 ▸ Below.refl _ _⟩
theorem bwrap_LenS (n : Int) (w : World) (hn : n ≤ 1099511627776) :
    Calls Try.prog 11 #[.int .i64 n] w fun e w' => e = .returned (.int .i64 (wlenN n)) ∧ w = w' := by
  have hb := lenB_bd hn
  have hl : 0 ≤ lineN n ∧ lineN n ≤ 2199023255552 := by unfold lineN; omega
  have hE : Hid (lenB n + lineN n * 2 = wlenN n) := by unfold Hid wlenN; omega
  go_enter Try.func11, Try.ntmps11
  go_wp2_with (first
    | (go_at_call 24; (with_reducible refine (bcode_Len _ _ hn).mono ?_); rintro e w4 ⟨rfl, rfl⟩)
    | (go_at_call 12; (with_reducible refine (bwrap_LinesS _ _ hn).mono ?_); rintro e w4 ⟨rfl, rfl⟩))
  go_ret
  exact ⟨ret_int hE.out, rfl⟩
theorem bwrap_Len (n : Int) (w : World) (hn : n ≤ 1099511627776) :
    Calls Try.prog 11 #[.int .i64 n] w fun e w' => e = .returned (.int .i64 (wlenN n)) ∧ Below w.heap.size w w' :=
  (bwrap_LenS n w hn).mono fun e w' ⟨h1, h2⟩ => ⟨h1, h2 ▸ Below.refl _ _⟩
def fltE (n : Nat) (b : Bool) : Int := if 76 < n then 12 else if b = false then 4 else if n = 0 then 3 else 0
theorem bwrap_fault (a : Option Addr) (len cap : Nat) (b : Bool) (w : World) (hl : len < 1000000000) :
    Calls Try.prog 35 #[.slice a len cap, .bool b] w fun e w' => e = .returned (.int .i64 (fltE len b)) ∧ w = w' := by
  unfold fltE
  by_cases h : 76 < len
  · rw [if_pos h]
    go_enter Try.func35, Try.ntmps35
    go_wp2
    go_ret
    exact ⟨rfl, rfl⟩
  · rw [if_neg h]
    cases b
    · rw [if_pos rfl]
      go_enter Try.func35, Try.ntmps35
      go_wp2
      go_ret
      exact ⟨rfl, rfl⟩
    · rw [if_neg (by decide)]
      by_cases h0 : len = 0
      · subst h0
        go_enter Try.func35, Try.ntmps35
        go_wp2
        go_ret
        exact ⟨rfl, rfl⟩
      · rw [if_neg h0]
        go_enter Try.func35, Try.ntmps35
        go_wp2
        go_ret
        exact ⟨rfl, rfl⟩
set_option maxHeartbeats 2000000 in
theorem bwrap_LayO (a : Option Addr) (len cap : Nat) (xs : List Int) (w : World) (hr : Reads .u8 w a len cap xs) (hN : len < 10000000) :
    Calls Try.prog 8 #[.slice a len cap] w fun e w' => ∃ v, e = .returned v ∧ Own .u8 5 w.heap.size w' v (wrapL (layB xs)) ∧ Below w.heap.size w w' := by
  have HR := hid hr
  have hsz := hr.size
  clear hr
  obtain ⟨C, hC⟩ : ∃ C, C = layB xs := ⟨_, rfl⟩
  have hcl := layB_len xs
  have hwl := wrapL_le (layB xs)
  rw [← hC] at hcl hwl ⊢
  rw [hsz] at hcl
  have HW : (wrapL C).length < 100000000 := by omega
  have hb := lenB_bd (n := (len : Int)) (by omega)
  have hlB : lenB (len : Int) ≤ 2 * len + 8 := by unfold lenB; split <;> omega
  obtain ⟨M, hM, hM1⟩ : ∃ M : Nat, wlenN (len : Int) = M ∧ M < 1000000000 := ⟨(wlenN (len : Int)).toNat, by unfold wlenN lineN; omega, by unfold wlenN lineN; omega⟩
  have HM := hid hM
  have HC := hid hC
  obtain ⟨K, hK⟩ : ∃ K, K = C.length := ⟨_, rfl⟩
  rw [← hK] at hcl
  have HK := hid hK
  clear hM hC hwl hb hlB hK
  go_enter Try.func8, Try.ntmps8
  go_wp2
  go_step3
  go_wp2_with (first
    | (go_at_call 11; (with_reducible refine (bwrap_LenS _ _ (by omega)).mono ?_); rintro e w' ⟨rfl, rfl⟩; rw [HM.out])
    | (at_make; go_must (refine wpList_make0 (n := M) CT8 rfl _ _ rfl rfl rfl (Below.refl _ _) (by omega) ?_); intro v1 w1 ho1 hb1; have HR1 := hid (HR.out.below hb1))
    | (go_at_call 22; (with_reducible refine (bcode_Lay _ _ _ _ _ HR1.out (by omega)).mono ?_); rintro e w2 ⟨v2, rfl, ho2, hb2⟩; rw [← HC.out] at ho2; obtain ⟨a2, c2, hv2, hr2⟩ := ho2.reads; rw [← HK.out] at hv2 hr2; subst hv2))
  go_step3
  go_wp2
  have hbes : Bes .u8 w2 v1 a2 K c2 C := ⟨hr2, fun b off _ ha hv => by
    have h1 := ho2.fresh b off ha
    have h2 := ho1.blockLt b hv
    omega⟩
  have hown2 := ho1.below hb2
  have hbel2 := below_then hb1 hb2
  have hsz2 := hbel2.size
  clear hr2 ho2
  go_loopg [3, 4] K (fun g v s wr => ∃ a' m c' ys O, s = .slice a' m c' ∧ m ≤ g ∧ Bes .u8 wr v a' m c' ys ∧ Own .u8 5 w.heap.size wr v O ∧ w.heap.size ≤ wr.heap.size ∧ Below w.heap.size w wr ∧ Hid (O ++ wrapL ys = wrapL C))
  case atStart => exact ⟨a2, K, c2, C, [], rfl, Nat.le_refl _, hbes, hown2, hsz2, hbel2, rfl⟩
  case round =>
    obtain ⟨a', m, c', ys, O, rfl, hmg, hbe, hown, hws, hbel, hE⟩ := hrel
    have hys := hbe.1.size
    have hrm := hbe.1.room
    have htp := hbe.1.top
    have hOl := congrArg List.length hE.out
    rw [List.length_append] at hOl
    have hO : O.length < 100000000 := by omega
    clear hOl
    by_cases h0 : 0 < m
    · cases gk with
      | zero => exfalso; omega
      | succ g =>
        go_wp2
        go_loopg [3, 4, 18] 80 (fun g2 v s s18 wr => ∃ i : Nat, i + g2 = 80 ∧ s = .slice a' m c' ∧ s18 = .int .i64 i ∧ i ≤ 76 ∧ i ≤ m ∧ Bes .u8 wr v a' m c' ys ∧ Own .u8 5 w.heap.size wr v (O ++ ys.take i) ∧ w.heap.size ≤ wr.heap.size ∧ Below w.heap.size w wr)
        case atStart => exact ⟨0, by omega, rfl, rfl, by omega, by omega, hbe, by simpa using hown, hws, hbel⟩
        case round =>
          clear hbe hown hws hbel
          obtain ⟨i, hig, rfl, rfl, hi76, him, hbe, hown, hws, hbel⟩ := hrel
          have hl3 : (O ++ ys.take i).length < 100000100 := by rw [List.length_append, List.length_take]; omega
          by_cases hlt : i < m
          · by_cases h76 : i = 76
            · subst h76
              have hp := hbe.piece (l := 76) (r := m) (by omega) (Nat.le_refl _)
              rw [List.take_of_length_le (by omega)] at hp
              have HP := hid hp
              have hE' : Hid ((O ++ ys.take 76) ++ [13, 10] ++ wrapL (ys.drop 76) = wrapL C) := by
                unfold Hid
                rw [← hE.out, wrapL_more (c := ys) (by omega)]
                simp only [List.append_assoc]
              have hi : (76 : Int) ≤ c' := by omega
              obtain ⟨b, off, x, rfl, _, hcell, hx0, hx1, hx⟩ := hbe.1.get8 hlt
              have hp2 := HP.out
              rw [if_neg (by omega : ¬ c' = 76)] at hp2
              have HP2 := hid hp2
              clear hp hp2 HP hE
              go_wp2_with (first
                | (at_builtin; go_must (refine wpList_moreA (st := 9) CT8 rfl _ _ Try.underlying9 rfl [13, 10] rfl rfl rfl hown hws hbel (by simp; omega) (by decide) ?_); intro v5 w5 ho5 hb5 hk5))
              have hbe5 := hk5 _ _ _ _ _ HP2.out
              go_roundg g
              case measure => omega
              case rel => exact ⟨_, _, _, _, _, rfl, by omega, hbe5, ho5, hb5.size, hb5, hE'⟩
            · obtain ⟨b, off, x, rfl, _, hcell, hx0, hx1, hx⟩ := hbe.1.get8 hlt
              have hne : ((i : Int) == 76) = false := by rw [beq_eq_false_iff_ne]; omega
              cases gk with
              | zero => exfalso; omega
              | succ g2 =>
                go_wp2_with (first
                  | (at_builtin; go_must (refine wpList_pushA CT8 rfl _ _ rfl rfl ⟨_, rfl⟩ hown hws hbel (by omega) (mk_u8 hx0 hx1) ?_); intro v5 w5 ho5 hb5 hk5))
                have hbe5 := hk5 _ _ _ _ _ hbe
                rw [List.append_assoc, ← hx.out.2] at ho5
                go_roundg g2
                case measure => omega
                case rel => exact ⟨i + 1, by omega, rfl, by go_num, by omega, by omega, hbe5, ho5, hb5.size, hb5⟩
          · obtain rfl : i = m := by omega
            rw [List.take_of_length_le (by omega)] at hown
            have hE' : Hid (O ++ ys ++ [13, 10] = wrapL C) := by
              unfold Hid
              rw [← hE.out, wrapL_one (c := ys) (by omega) (by omega)]
              simp only [List.append_assoc]
            have hl4 : (O ++ ys).length < 100000100 := by rw [List.length_append]; omega
            clear hE
            go_wp2_with (first
              | (at_builtin; go_must (refine wpList_moreA (st := 9) CT8 rfl _ _ Try.underlying9 rfl [13, 10] rfl rfl rfl hown hws hbel (by simp at hl4 ⊢; omega) (by decide) ?_); intro v5 w5 ho5 hb5 hk5))
            try rw [Exit.noGoto_ret]
            rw [hE'.out] at ho5
            go_ret
            exact ⟨_, rfl, ho5, hb5⟩
    · obtain rfl : m = 0 := by omega
      obtain rfl : ys = [] := List.eq_nil_of_length_eq_zero hys
      have hE' := hE.out
      rw [wrapL_nil, List.append_nil] at hE'
      rw [hE'] at hown
      clear hE hE' hbe
      go_wp2
      rw [Exit.noGoto_ret]
      go_ret
      exact ⟨_, rfl, hown, hbel⟩
theorem bwrap_Lay (a : Option Addr) (len cap : Nat) (xs : List Int) (w : World) (hr : Reads .u8 w a len cap xs) (hN : len < 10000000) :
    Calls Try.prog 8 #[.slice a len cap] w fun e w' => ∃ a' len' cap', e = .returned (.slice a' len' cap') ∧ Reads .u8 w' a' len' cap' (wrapL (layB xs)) ∧ Below w.heap.size w w' :=
  (bwrap_LayO a len cap xs w hr hN).mono fun e w' ⟨v, h1, h2, h3⟩ => by
    obtain ⟨a', len', cap', rfl, hr'⟩ := h2.back
    exact ⟨a', len', cap', h1, hr', h3⟩
end Go.Proofs.Ytkfmalajapojhaa
