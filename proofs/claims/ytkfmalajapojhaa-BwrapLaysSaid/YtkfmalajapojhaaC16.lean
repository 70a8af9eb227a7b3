/-
  Contracts of package bwrap's functions: lines are read.
-/
import Derived.Test.YtkfmalajapojhaaCutB
import Derived.Test.YtkfmalajapojhaaC16a
import Derived.Test.YtkfmalajapojhaaC15
namespace Go.Proofs.Ytkfmalajapojhaa
open Go.RowKit
set_option linter.unusedVariables false

theorem litCr (wr : World) (B : Nat) (hB : wr.heap.size = B) : Reads .u8 (wr.alloc (.cells #[.int .u8 13, .int .u8 10] 5 (2, 3))) (some ⟨B, 0, none⟩) 2 2 [13, 10] :=
  Reads_litB .u8 5 (2, 3) wr B hB [13, 10] (by decide) (by decide)
theorem cutq_no (a : Option Addr) (len cap : Nat) (xs : List Int) (wr : World) (B : Nat) (hB : wr.heap.size = B) (hr : Reads .u8 wr a len cap xs) (h0 : 0 < len) (hN : len < 4294967281) (hm : Mx wr) (hi : crI xs = -1) :
    Calls Try.prog 34 #[.slice a len cap, .slice (some ⟨B, 0, none⟩) 2 2] (wr.alloc (.cells #[.int .u8 13, .int .u8 10] 5 (2, 3))) fun e w' => e = .returned (.tuple #[.slice a len cap, .slice none 0 0, .bool false]) ∧ Below wr.heap.size wr w' := by
  have hb : Below wr.heap.size wr (wr.alloc (.cells #[.int .u8 13, .int .u8 10] 5 (2, 3))) := (Below.refl _ _).alloc (Nat.le_refl _) _
  refine (cut_no a len cap xs _ 2 _ (hr.below hb) (litCr wr B hB) h0 hN (hm.below hb) hi).mono ?_
  rintro e w' ⟨rfl, q, rfl⟩
  exact ⟨rfl, Below.drewN hb q⟩
theorem cutq_yes (a : Option Addr) (len cap : Nat) (xs : List Int) (wr : World) (B : Nat) (hB : wr.heap.size = B) (hr : Reads .u8 wr a len cap xs) (h0 : 0 < len) (hN : len < 4294967281) (hm : Mx wr) (i : Nat) (hi : crI xs = i) (R : Option Addr) (hR : R = if cap = i + 2 then a else a.map (·.add (i + 2))) (L C : Nat) (hL : L = len - (i + 2)) (hC : C = cap - (i + 2)) :
    Calls Try.prog 34 #[.slice a len cap, .slice (some ⟨B, 0, none⟩) 2 2] (wr.alloc (.cells #[.int .u8 13, .int .u8 10] 5 (2, 3))) fun e w' => e = .returned (.tuple #[.slice a i cap, .slice R L C, .bool true]) ∧ Below wr.heap.size wr w' := by
  subst hR hL hC
  have hb : Below wr.heap.size wr (wr.alloc (.cells #[.int .u8 13, .int .u8 10] 5 (2, 3))) := (Below.refl _ _).alloc (Nat.le_refl _) _
  refine (cut_yes a len cap xs _ 2 _ (hr.below hb) (litCr wr B hB) h0 hN (hm.below hb) i hi).mono ?_
  rintro e w' ⟨rfl, q, rfl⟩
  exact ⟨rfl, Below.drewN hb q⟩
set_option maxHeartbeats 2000000 in
theorem bwrap_joined (a : Option Addr) (len cap : Nat) (xs : List Int) (w : World) (hr : Reads .u8 w a len cap xs) (hN : len < 10000000) (hm : Mx w) :
    Calls Try.prog 26 #[.slice a len cap] w fun e w' => ∃ v, e = .returned (.tuple #[v, .int .i64 (jE xs)]) ∧ Own .u8 5 w.heap.size w' v (jL xs) ∧ Below w.heap.size w w' := by
  have HR := hid hr
  have HM := hid hm
  clear hr hm
  go_enter Try.func26, Try.ntmps26
  go_wp2_with (at_make; go_must (refine wpList_make0 (n := len) CT8 rfl _ _ rfl rfl rfl (Below.refl _ _) (by omega) ?_); intro v1 w1 ho1 hb1)
  go_loopw [0, 4] (fun s v wr => ∃ a' m c' ys O, s = .slice a' m c' ∧ m ≤ len ∧ Reads .u8 w a' m c' ys ∧ Own .u8 5 w.heap.size wr v O ∧ O.length + m ≤ len ∧ Below w.heap.size w wr ∧ Hid (lns ys 0 O = lns xs 0 [])) (fun s _ _ => lenV s)
  case atStart => exact ⟨a, len, cap, xs, [], rfl, Nat.le_refl _, HR.out, ho1, by simp, hb1, rfl⟩
  case round =>
    obtain ⟨a', m, c', ys, O, rfl, hml, hry, hown, hO, hbel, hE⟩ := hrel
    have hys := hry.size
    have hrm := hry.room
    have kc := convB (P := Try.prog) (t := 22) (e := 5) Try.underlying22 Try.underlying5 wr wr.heap.size rfl
    have HRY := hid (hry.below hbel)
    have HMR := hid (HM.out.below hbel)
    by_cases h0 : 0 < m
    · rcases crI_cases hry.wf with ⟨hi, hn⟩ | ⟨i, hi, hil, h13, h10, hn⟩
      · have hL := lns_open O hn (by omega)
        rw [hE.out, hys] at hL
        have HI := hid hi
        clear hi hn hE hry
        by_cases h76 : 76 < m
        · rw [if_pos h76] at hL
          have e : Hid (jE xs = 12) := by unfold Hid jE; rw [hL]
          have el : Hid (jL xs = []) := by unfold Hid jL; rw [hL]
          have hF : fltE m false = 12 := by unfold fltE; rw [if_pos h76]
          clear hL
          go_wp2_with (first
            | (go_at_call 34; (with_reducible refine (cutq_no _ _ _ ys _ _ rfl HRY.out h0 (by omega) HMR.out HI.out).mono ?_); rintro e w4 ⟨rfl, hb4⟩; have ho4 := hown.below hb4; have hbl4 := below_then' hbel hb4 (Nat.le_refl _))
            | (go_at_call 35; (with_reducible refine (bwrap_fault _ _ _ _ _ (by omega)).mono ?_); rintro e w5 ⟨rfl, rfl⟩; rw [hF]))
          go_ret2
          exact ⟨_, by rw [e.out]; rfl, by rw [el.out]; exact Own.nil _ _ _ _, hbl4⟩
        · rw [if_neg h76] at hL
          have e : Hid (jE xs = 4) := by unfold Hid jE; rw [hL]
          have el : Hid (jL xs = []) := by unfold Hid jL; rw [hL]
          have hF : fltE m false = 4 := by unfold fltE; rw [if_neg h76, if_pos rfl]
          clear hL
          go_wp2_with (first
            | (go_at_call 34; (with_reducible refine (cutq_no _ _ _ ys _ _ rfl HRY.out h0 (by omega) HMR.out HI.out).mono ?_); rintro e w4 ⟨rfl, hb4⟩; have ho4 := hown.below hb4; have hbl4 := below_then' hbel hb4 (Nat.le_refl _))
            | (go_at_call 35; (with_reducible refine (bwrap_fault _ _ _ _ _ (by omega)).mono ?_); rintro e w5 ⟨rfl, rfl⟩; rw [hF]))
          go_ret2
          exact ⟨_, by rw [e.out]; rfl, by rw [el.out]; exact Own.nil _ _ _ _, hbl4⟩
      · have hL := lns_cut O hn h13 h10
        rw [hE.out] at hL
        rw [hys] at hil
        have HI := hid hi
        have hpc := hry.piece (l := i + 2) (r := m) hil (Nat.le_refl _)
        rw [List.take_of_length_le (by omega)] at hpc
        obtain ⟨R, hR2⟩ : ∃ R, R = if c' = i + 2 then a' else a'.map (·.add (i + 2)) := ⟨_, rfl⟩
        obtain ⟨L, hL2⟩ : ∃ L, L = m - (i + 2) := ⟨_, rfl⟩
        obtain ⟨C, hC2⟩ : ∃ C, C = c' - (i + 2) := ⟨_, rfl⟩
        rw [← hR2, ← hL2, ← hC2] at hpc
        have hLm : L + 2 + i = m := by omega
        have HR2 := hid hR2
        have HL2 := hid hL2
        have HC2 := hid hC2
        have HPC := hid hpc
        clear hpc hR2 hL2 hC2
        have HPR := hid (hry.pre (n := i) (by omega))
        clear hi hn hE hry h13 h10
        by_cases h76 : 76 < i
        · rw [if_pos h76] at hL
          have e : Hid (jE xs = 12) := by unfold Hid jE; rw [hL]
          have el : Hid (jL xs = []) := by unfold Hid jL; rw [hL]
          have hF : fltE i true = 12 := by unfold fltE; rw [if_pos h76]
          clear hL
          go_wp2_with (first
            | (go_at_call 34; (with_reducible refine (cutq_yes _ _ _ ys _ _ rfl HRY.out h0 (by omega) HMR.out i HI.out R HR2.out L C HL2.out HC2.out).mono ?_); rintro e w4 ⟨rfl, hb4⟩; have ho4 := hown.below hb4; have hbl4 := below_then' hbel hb4 (Nat.le_refl _))
            | (go_at_call 35; (with_reducible refine (bwrap_fault _ _ _ _ _ (by omega)).mono ?_); rintro e w5 ⟨rfl, rfl⟩; rw [hF]))
          go_ret2
          exact ⟨_, by rw [e.out]; rfl, by rw [el.out]; exact Own.nil _ _ _ _, hbl4⟩
        · rw [if_neg h76] at hL
          by_cases hi0 : i = 0
          · rw [if_pos hi0] at hL
            have e : Hid (jE xs = 3) := by unfold Hid jE; rw [hL]
            have el : Hid (jL xs = []) := by unfold Hid jL; rw [hL]
            subst hi0
            have hF : fltE 0 true = 3 := rfl
            clear hL
            go_wp2_with (first
              | (go_at_call 34; (with_reducible refine (cutq_yes _ _ _ ys _ _ rfl HRY.out h0 (by omega) HMR.out 0 HI.out R HR2.out L C HL2.out HC2.out).mono ?_); rintro e w4 ⟨rfl, hb4⟩; have ho4 := hown.below hb4; have hbl4 := below_then' hbel hb4 (Nat.le_refl _))
              | (go_at_call 35; (with_reducible refine (bwrap_fault _ _ _ _ _ (by omega)).mono ?_); rintro e w5 ⟨rfl, rfl⟩; rw [hF]))
            go_ret2
            exact ⟨_, by rw [e.out]; rfl, by rw [el.out]; exact Own.nil _ _ _ _, hbl4⟩
          · rw [if_neg hi0] at hL
            have HL := hid hL.symm
            have hF : fltE i true = 0 := by unfold fltE; rw [if_neg h76, if_neg (by decide), if_neg hi0]
            clear hL
            go_wp2_with (first
              | (go_at_call 34; (with_reducible refine (cutq_yes _ _ _ ys _ _ rfl HRY.out h0 (by omega) HMR.out i HI.out R HR2.out L C HL2.out HC2.out).mono ?_); rintro e w4 ⟨rfl, hb4⟩; have ho4 := hown.below hb4; have hbl4 := below_then' hbel hb4 (Nat.le_refl _))
              | (go_at_call 35; (with_reducible refine (bwrap_fault _ _ _ _ _ (by omega)).mono ?_); rintro e w5 ⟨rfl, rfl⟩; rw [hF])
              | (at_builtin; go_must (refine wpList_more CT8 rfl _ _ rfl rfl rfl ho4 hbl4 (HPR.out.below hbl4) (by omega) ?_); intro v6 w6 ho6 hb6))
            have hil2 : (ys.take i).length = i := by rw [List.length_take]; omega
            have HO : (O ++ ys.take i).length + L ≤ len := by rw [List.length_append, hil2]; omega
            have HPC2 := HPC.out
            clear HPC HPR HRY HMR hF
            go_roundw
            case rel => exact ⟨_, _, _, _, _, rfl, by omega, HPC2, ho6, HO, hb6, HL⟩
            case measure => simp [lenV]; omega
    · obtain rfl : m = 0 := by omega
      obtain rfl : ys = [] := List.eq_nil_of_length_eq_zero hys
      have hL := hE.out
      rw [lns, if_neg (by omega)] at hL
      have e : Hid (jE xs = 0) := by unfold Hid jE; rw [← hL]
      have el : Hid (jL xs = O) := by unfold Hid jL; rw [← hL]
      clear hE hL hry kc
      go_wp2_with fail
      go_ret2
      exact ⟨_, by rw [e.out]; rfl, by rw [el.out]; exact hown, hbel⟩
set_option maxHeartbeats 1000000 in
theorem bwrap_Read (a : Option Addr) (len cap : Nat) (xs : List Int) (w : World) (hr : Reads .u8 w a len cap xs) (hN : len < 1000000) (hm : Mx w) :
    Calls Try.prog 16 #[.slice a len cap] w fun e w' => ∃ a' len' cap', e = .returned (.tuple #[.slice a' len' cap', .int .i64 (chkE xs)]) ∧ Reads .u8 w' a' len' cap' (if chkE xs = 0 then codL (chkL xs) else []) ∧ Below w.heap.size w w' := by
  have HR := hid hr
  have HM := hid hm
  have hsz := hr.size
  clear hr hm
  obtain ⟨E, hE⟩ : ∃ E, E = jE xs := ⟨_, rfl⟩
  have HJ := bwrap_joined a len cap xs w HR.out (by omega) HM.out
  rw [← hE] at HJ
  have HJ := hid HJ
  obtain ⟨R, hR⟩ : ∃ R, R = if chkE xs = 0 then codL (chkL xs) else [] := ⟨_, rfl⟩
  obtain ⟨F, hF⟩ : ∃ F, F = chkE xs := ⟨_, rfl⟩
  rw [← hR, ← hF]
  by_cases h0 : E = 0
  · subst h0
    have e : Hid (codE (jL xs) = F) := by unfold Hid; rw [hF, chkE_j, if_pos hE.symm]
    have el : Hid (R = codL (jL xs)) := by
      unfold Hid
      rw [hR]
      by_cases hc : chkE xs = 0
      · rw [if_pos hc, (chkL_j hc).2]
      · rw [if_neg hc, cod_no (by rw [e.out, hF]; exact hc)]
    have hl := jL_le xs
    rw [hsz] at hl
    clear hE hR hF
    go_enter Try.func16, Try.ntmps16
    go_wp2_with (first
      | (go_at_call 26; (with_reducible refine HJ.out.mono ?_); rintro e w1 ⟨v1, rfl, ho1, hb1⟩; obtain ⟨a1, c1, rfl, hr1⟩ := ho1.reads)
      | (go_at_call 27; (with_reducible refine (bcode_Read _ _ _ _ _ hr1 (by omega)).mono ?_); rintro e w2 ⟨v2, rfl, ho2, hb2⟩; obtain ⟨a2, c2, rfl, hr2⟩ := ho2.reads))
    go_ret2
    exact ⟨_, _, _, ret_si e.out, by rw [el.out]; exact hr2, below_then hb1 hb2⟩
  · have e : Hid (E = F) := by unfold Hid; rw [hF, chkE_j, if_neg (by rw [← hE]; exact h0), hE]
    have el : Hid (R = []) := by
      unfold Hid
      rw [hR, if_neg (by rw [← hF, ← e.out]; exact h0)]
    have hne : (E != 0) = true := by simpa using h0
    clear hE hR hF
    go_enter Try.func16, Try.ntmps16
    go_wp2_with (first
      | (go_at_call 26; (with_reducible refine HJ.out.mono ?_); rintro e w1 ⟨v1, rfl, ho1, hb1⟩; obtain ⟨a1, c1, rfl, hr1⟩ := ho1.reads))
    go_ret2
    exact ⟨none, 0, 0, ret_si e.out, by rw [el.out]; exact Reads.nil _ _ _ _ (Nat.zero_le _), hb1⟩
theorem bwrap_Check (a : Option Addr) (len cap : Nat) (xs : List Int) (w : World) (hr : Reads .u8 w a len cap xs) (hN : len < 1000000) (hm : Mx w) :
    Calls Try.prog 18 #[.slice a len cap] w fun e w' => e = .returned (.int .i64 (chkE xs)) ∧ Below w.heap.size w w' := by
  have HB := hid (bwrap_Read a len cap xs w hr hN hm)
  clear hr hm
  go_enter Try.func18, Try.ntmps18
  go_wp2_with (go_at_call 16; (with_reducible refine HB.out.mono ?_); rintro e w1 ⟨a1, l1, c1, rfl, hr1, hb1⟩)
  go_ret
  exact ⟨rfl, hb1⟩
theorem bwrap_Loose (a : Option Addr) (len cap : Nat) (xs : List Int) (w : World) (hr : Reads .u8 w a len cap xs) (hN : len < 10000000) :
    Calls Try.prog 20 #[.slice a len cap] w fun e w' => ∃ a' len' cap', e = .returned (.slice a' len' cap') ∧ Reads .u8 w' a' len' cap' (looL xs) ∧ Below w.heap.size w w' := by
  go_enter Try.func20, Try.ntmps20
  go_wp2_with (go_at_call 31; (with_reducible refine (bloose_Read _ _ _ _ _ hr (by omega)).mono ?_); rintro e w1 ⟨a1, l1, c1, rfl, hr1, hb1⟩)
  go_ret
  exact ⟨_, _, _, rfl, hr1, hb1⟩
theorem bwrap_Again (a : Option Addr) (len cap : Nat) (xs : List Int) (w : World) (hr : Reads .u8 w a len cap xs) (hN : len < 10000000) :
    Calls Try.prog 21 #[.slice a len cap] w fun e w' => ∃ a' len' cap', e = .returned (.slice a' len' cap') ∧ Reads .u8 w' a' len' cap' (wrapL (layB (looL xs))) ∧ Below w.heap.size w w' := by
  have hsz := hr.size
  have hle := looL_le xs
  go_enter Try.func21, Try.ntmps21
  go_wp2_with (first
    | (go_at_call 20; (with_reducible refine (bwrap_Loose _ _ _ _ _ hr hN).mono ?_); rintro e w1 ⟨a1, l1, c1, rfl, hr1, hb1⟩; have hl1 := hr1.size)
    | (go_at_call 8; (with_reducible refine (bwrap_Lay _ _ _ _ _ hr1 (by omega)).mono ?_); rintro e w2 ⟨a2, l2, c2, rfl, hr2, hb2⟩; have hb2' := below_then hb1 hb2))
  go_ret
  exact ⟨_, _, _, rfl, hr2, hb2'⟩
end Go.Proofs.Ytkfmalajapojhaa
