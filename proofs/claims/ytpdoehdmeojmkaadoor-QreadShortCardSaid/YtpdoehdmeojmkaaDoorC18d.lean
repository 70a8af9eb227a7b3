/-
  Contracts of package qpage's functions: what is right, and how many lines end softly (those that the translation has).
-/
import Derived.Test.YtpdoehdmeojmkaaDoorC18a
import Derived.Test.YtpdoehdmeojmkaaDoorCntB
import Derived.Test.YtpdoehdmeojmkaaDoorFirst
namespace Go.Proofs.YtpdoehdmeojmkaaDoor
open Go.RowKit
set_option linter.unusedVariables false

set_option maxRecDepth 100000 in
set_option maxHeartbeats 1000000 in
theorem qpage_escapes (a : Option Addr) (len cap : Nat) (xs : List Int) (k : Nat) (w : World) (hr : Reads .u8 w a len cap xs) (hk : k < len) :
    Calls Tryd.prog 68 #[.slice a len cap, .int .i64 k] w fun e w' => e = .returned (.bool (escAt xs k)) ∧ ∃ n, w' = w.drewN n := by
  have hl := hr.len_le
  have hrm := hr.room
  have hsz := hr.size
  rw [esc_same]
  have HT := hid (take_c a len cap xs k 61 w hr (WalkArith.wf_i64 (by omega)))
  cases hok : takeOk xs k 61
  · rw [hok] at HT
    clear hr hsz
    go_enter Tryd.func68, Tryd.ntmps68
    go_wp2_with (go_at_call 27; (refine HT.out.mono ?_); rintro e w' ⟨rfl, n, rfl⟩)
    go_ret
    exact ⟨rfl, _, rfl⟩
  · rw [hok] at HT
    have hk3 : k + 3 ≤ len := by
      have := hok
      unfold takeOk at this
      simp only [Bool.and_eq_true, decide_eq_true_eq] at this
      omega
    have hp := hr.piece (l := k) (r := k + 3) (by omega) hk3
    rw [if_neg (show ¬ cap = k by omega), List.drop_take, show k + 3 - k = 3 by omega] at hp
    obtain ⟨b, off, x, rfl, _, _, _, _, _⟩ := hr.get8 hk
    rw [Option.map_some, Addr.add_lit] at hp
    have HP := hid hp
    clear hp hr hsz
    have q1 : (0 : Int) ≤ (k : Int) := by omega
    have q2 : (k : Int) ≤ (k : Int) + 3 := by omega
    have q3 : (k : Int) + 3 ≤ (cap : Int) := by omega
    have q4 : ((k : Int) + 3).toNat = k + 3 := by omega
    go_enter Tryd.func68, Tryd.ntmps68
    go_wp2_with (first
      | (go_at_call 27; (refine HT.out.mono ?_); rintro e w' ⟨rfl, n, rfl⟩; have HP2 := hid (HP.out.below (Below.drewN (Below.refl _ _) n)))
      | (go_at_call 83; (with_reducible refine (capital_c _ _ _ _ _ HP2.out).mono ?_); rintro e w2 ⟨rfl, rfl⟩))
    go_ret
    exact ⟨rfl, _, rfl⟩
set_option maxRecDepth 100000 in
set_option maxHeartbeats 2000000 in
theorem qpage_allMayStand (a : Option Addr) (len cap : Nat) (xs : List Int) (w : World) (hr : Reads .u8 w a len cap xs) :
    Calls Tryd.prog 47 #[.slice a len cap] w fun e w' => e = .returned (.bool ((List.range len).all (sgnOk xs))) ∧ Below w.heap.size w w' := by
  have HR := hid hr
  have hl := hr.len_le
  have HSZ := hid hr.size
  clear hr
  go_enter Tryd.func47, Tryd.ntmps47
  go_wp2_with fail
  go_loopw [7] (fun i wr => ∃ k : Nat, k ≤ len ∧ i = .int .i64 k ∧ Hid ((List.range k).all (sgnOk xs) = true) ∧ Below w.heap.size w wr) (fun i _ => len - (intOf i).toNat)
  case atStart => exact ⟨0, Nat.zero_le _, rfl, rfl, Below.refl _ _⟩
  case round =>
    obtain ⟨k, hk, rfl, hn, hbel⟩ := hrel
    by_cases hlt : k < len
    · have HE0 := hid (qpage_escapes a len cap xs k wr (HR.out.below hbel) hlt)
      obtain ⟨b, off, x, rfl, _, hc, h0, h1, hx⟩ := (HR.out.below hbel).get8 hlt
      have hS := sgn_bad hx.out.1 h0 h1
      rw [HSZ.out] at hS
      have hw := hbel.size
      cases h6 : isB 6 x
      · rw [h6, Bool.false_and] at hS
        have HF := hid (range_no hlt hS)
        clear hS HE0
        go_wp2_with (go_at_call 67; (with_reducible refine (is_c _ _ _ h0 h1).mono ?_); rintro e w' ⟨rfl, rfl⟩; rw [h6])
        go_ret
        exact ⟨ret_bool HF.out.symm, hbel⟩
      · rw [h6, Bool.true_and] at hS
        by_cases h61 : x = 61
        · subst h61
          by_cases hlast : k + 1 < len
          · rw [if_pos ⟨rfl, hlast⟩] at hS
            have q1 : ((k : Int) != (len : Int) - 1) = true := by simp; omega
            cases hE : escAt xs k
            · rw [hE] at hS
              have HF := hid (range_no hlt hS)
              rw [hE] at HE0
              clear hS
              go_wp2_with (first
                | (go_at_call 67; (with_reducible refine (is_c _ _ _ h0 h1).mono ?_); rintro e w' ⟨rfl, rfl⟩; rw [h6])
                | (go_at_call 68; (refine HE0.out.mono ?_); rintro e w2 ⟨rfl, n, rfl⟩))
              go_ret
              exact ⟨ret_bool HF.out.symm, Below.drewN hbel _⟩
            · rw [hE] at hS
              have HF := hid (range_on hn.out hS)
              rw [hE] at HE0
              clear hS
              go_wp2_with (first
                | (go_at_call 67; (with_reducible refine (is_c _ _ _ h0 h1).mono ?_); rintro e w' ⟨rfl, rfl⟩; rw [h6])
                | (go_at_call 68; (refine HE0.out.mono ?_); rintro e w2 ⟨rfl, n, rfl⟩))
              go_roundw
              case rel => exact ⟨k + 1, by omega, by go_num, HF, Below.drewN hbel _⟩
              case measure => simp [intOf]; omega
          · rw [if_neg (fun hh => hlast hh.2)] at hS
            have HF := hid (range_on hn.out hS)
            have q1 : ((k : Int) != (len : Int) - 1) = false := by simp; omega
            clear hS HE0
            go_wp2_with (go_at_call 67; (with_reducible refine (is_c _ _ _ h0 h1).mono ?_); rintro e w' ⟨rfl, rfl⟩; rw [h6])
            go_roundw
            case rel => exact ⟨k + 1, by omega, by go_num, HF, hbel⟩
            case measure => simp [intOf]; omega
        · rw [if_neg (fun hh => h61 hh.1)] at hS
          have HF := hid (range_on hn.out hS)
          have q1 : (x == 61) = false := by simpa using h61
          clear hS HE0 h61
          go_wp2_with (go_at_call 67; (with_reducible refine (is_c _ _ _ h0 h1).mono ?_); rintro e w' ⟨rfl, rfl⟩; rw [h6])
          go_roundw
          case rel => exact ⟨k + 1, by omega, by go_num, HF, hbel⟩
          case measure => simp [intOf]; omega
    · obtain rfl : k = len := by omega
      go_wp2_with fail
      go_ret
      exact ⟨ret_bool hn.out.symm, hbel⟩
theorem qpage_endsBlank (a : Option Addr) (len cap : Nat) (xs : List Int) (w : World) (hr : Reads .u8 w a len cap xs) :
    Calls Tryd.prog 48 #[.slice a len cap] w fun e w' => e = .returned (.bool (!endOk xs)) ∧ w = w' := by
  have hl := hr.len_le
  by_cases h0 : 0 < len
  · obtain ⟨p, rfl⟩ : ∃ p, len = p + 1 := ⟨len - 1, by omega⟩
    obtain ⟨b, off, x, rfl, _, hc, hx0, hx1, hx⟩ := hr.get8 (i := p) (by omega)
    have hE : Hid ((!endOk xs) = isB 2 x) := by
      unfold Hid endOk
      rw [List.getLast?_eq_getElem?, hr.size, show p + 1 - 1 = p by omega, hx.out.1]
      simp
    have q1 : decide ((0 : Int) < (p : Int) + 1) = true := decide_eq_true (by omega)
    clear hr h0
    go_enter Tryd.func48, Tryd.ntmps48
    go_wp2_with (go_at_call 67; (with_reducible refine (is_c _ _ _ hx0 hx1).mono ?_); rintro e w' ⟨rfl, rfl⟩)
    go_ret
    exact ⟨ret_bool hE.out.symm, rfl⟩
  · obtain rfl : len = 0 := by omega
    obtain rfl : xs = [] := List.eq_nil_of_length_eq_zero hr.size
    clear hr h0
    go_enter Tryd.func48, Tryd.ntmps48
    go_wp2_with fail
    go_ret
    exact ⟨rfl, rfl⟩
theorem rgtB_eq (xs : List Int) : rgtB xs = ((List.range xs.length).all (sgnOk xs) && endOk xs) := rfl
set_option maxRecDepth 100000 in
set_option maxHeartbeats 1000000 in
theorem qpage_fault (a : Option Addr) (len cap : Nat) (xs : List Int) (ends : Bool) (w : World) (hr : Reads .u8 w a len cap xs) :
    Calls Tryd.prog 31 #[.slice a len cap, .bool ends] w fun e w' => e = .returned (.int .i64 (faultI xs ends)) ∧ Below w.heap.size w w' := by
  have hl := hr.len_le
  have hA := qpage_allMayStand a len cap xs w hr
  have HR := hid hr
  unfold faultI
  rw [rgtB_eq, hr.size]
  clear hr
  by_cases h76 : 76 < len
  · rw [if_pos h76]
    clear hA
    go_enter Tryd.func31, Tryd.ntmps31
    go_wp2_with fail
    go_ret
    exact ⟨rfl, Below.refl _ _⟩
  · rw [if_neg h76]
    cases ends
    · rw [if_pos rfl]
      clear hA
      go_enter Tryd.func31, Tryd.ntmps31
      go_wp2_with fail
      go_ret
      exact ⟨rfl, Below.refl _ _⟩
    · rw [if_neg (by decide)]
      cases hS : (List.range len).all (sgnOk xs)
      · rw [hS] at hA
        have HA := hid hA
        clear hA hS
        rw [Bool.false_and, if_neg (by decide)]
        go_enter Tryd.func31, Tryd.ntmps31
        go_wp2_with (go_at_call 47; (refine HA.out.mono ?_); rintro e w2 ⟨rfl, hb2⟩)
        go_ret
        exact ⟨rfl, hb2⟩
      · rw [hS] at hA
        have HA := hid hA
        clear hA hS
        rw [Bool.true_and]
        cases hE : endOk xs
        · rw [if_neg (by decide)]
          go_enter Tryd.func31, Tryd.ntmps31
          go_wp2_with (first
            | (go_at_call 47; (refine HA.out.mono ?_); rintro e w2 ⟨rfl, hb2⟩)
            | (go_at_call 48; (with_reducible refine (qpage_endsBlank _ _ _ _ _ (HR.out.below hb2)).mono ?_); rintro e w3 ⟨rfl, rfl⟩; rw [hE]))
          go_ret
          exact ⟨rfl, hb2⟩
        · rw [if_pos rfl]
          go_enter Tryd.func31, Tryd.ntmps31
          go_wp2_with (first
            | (go_at_call 47; (refine HA.out.mono ?_); rintro e w2 ⟨rfl, hb2⟩)
            | (go_at_call 48; (with_reducible refine (qpage_endsBlank _ _ _ _ _ (HR.out.below hb2)).mono ?_); rintro e w3 ⟨rfl, rfl⟩; rw [hE]))
          go_ret
          exact ⟨rfl, hb2⟩
set_option maxRecDepth 100000 in
set_option maxHeartbeats 2000000 in
theorem qpage_Check (a : Option Addr) (len cap : Nat) (xs : List Int) (w : World) (hr : Reads .u8 w a len cap xs) (hN : len < 1000000) (hm : Mx w) :
    Calls Tryd.prog 19 #[.slice a len cap] w fun e w' => e = .returned (.int .i64 (checkQ xs)) ∧ Below w.heap.size w w' := by
  have HR := hid hr
  have HM := hid hm
  clear hr hm
  go_enter Tryd.func19, Tryd.ntmps19
  go_wp2_with fail
  go_loopw [0] (fun s wr => ∃ a' m c' ys, s = .slice a' m c' ∧ m ≤ len ∧ Reads .u8 w a' m c' ys ∧ Below w.heap.size w wr ∧ Hid (checkQ ys = checkQ xs)) (fun s _ => lenV s)
  case atStart => exact ⟨a, len, cap, xs, rfl, Nat.le_refl _, HR.out, Below.refl _ _, rfl⟩
  case round =>
    obtain ⟨a', m, c', ys, rfl, hml, hry, hbel, hE⟩ := hrel
    have hys := hry.size
    have hrm := hry.room
    have kc := convB (P := Tryd.prog) (t := 22) (e := 5) Tryd.underlying22 Tryd.underlying5 wr wr.heap.size rfl
    have HRY := hid (hry.below hbel)
    have HMR := hid (HM.out.below hbel)
    by_cases h0 : 0 < m
    · rcases crI_cases hry.wf with ⟨hi, hn⟩ | ⟨i, hi, hil, h13, h10, hn⟩
      · obtain ⟨hL, hL0⟩ := chk_open (s := ys) (by omega) hn
        obtain ⟨f, hf⟩ : ∃ f, f = faultI ys false := ⟨_, rfl⟩
        rw [← hf] at hL hL0
        have q1 : (f != 0) = true := by simpa using hL0
        have HF := hid hf
        have HL := hid (hL.symm.trans hE.out)
        have HI := hid hi
        clear hf hL hL0 hi hn hE hry
        go_wp2_with (first
          | (go_at_call 30; (with_reducible refine (cutq_no _ _ _ ys _ _ rfl HRY.out h0 (by omega) HMR.out HI.out).mono ?_); rintro e w4 ⟨rfl, hb4⟩; have hbl4 := below_then' hbel hb4 (Nat.le_refl _); have HR4 := hid (HRY.out.below hb4))
          | (go_at_call 31; (with_reducible refine (qpage_fault _ _ _ ys _ _ HR4.out).mono ?_); rintro e w5 ⟨rfl, hb5⟩; rw [← HF.out]; have hbl5 := below_then' hbl4 hb5 (Nat.le_refl _)))
        go_ret
        exact ⟨ret_int HL.out, hbl5⟩
      · have hL := chk_cut hn h13 h10
        rw [hE.out] at hL
        rw [hys] at hil
        have HI := hid hi
        have hpc := hry.piece (l := i + 2) (r := m) hil (Nat.le_refl _)
        rw [List.take_of_length_le (by omega)] at hpc
        obtain ⟨R, hR2⟩ : ∃ R, R = if c' = i + 2 then a' else a'.map (·.add (i + 2)) := ⟨_, rfl⟩
        obtain ⟨L, hL2⟩ : ∃ L, L = m - (i + 2) := ⟨_, rfl⟩
        obtain ⟨C, hC2⟩ : ∃ C, C = c' - (i + 2) := ⟨_, rfl⟩
        rw [← hR2, ← hL2, ← hC2] at hpc
        have hLm : L + 2 + i = m := by omega
        have HR2 := hid hR2
        have HL2 := hid hL2
        have HC2 := hid hC2
        have HPC := hid hpc
        clear hpc hR2 hL2 hC2
        have HPR := hid (hry.pre (n := i) (by omega))
        obtain ⟨f, hf⟩ : ∃ f, f = faultI (ys.take i) true := ⟨_, rfl⟩
        rw [← hf] at hL
        have HF := hid hf
        clear hf hi hn hE hry h13 h10
        by_cases hf0 : f = 0
        · rw [if_pos hf0] at hL
          have HE := hid hL.symm
          subst hf0
          clear hL
          go_wp2_with (first
            | (go_at_call 30; (with_reducible refine (cutq_yes _ _ _ ys _ _ rfl HRY.out h0 (by omega) HMR.out i HI.out R HR2.out L C HL2.out HC2.out).mono ?_); rintro e w4 ⟨rfl, hb4⟩; have hbl4 := below_then' hbel hb4 (Nat.le_refl _); have HR4 := hid (HPR.out.below hbl4))
            | (go_at_call 31; (with_reducible refine (qpage_fault _ _ _ (ys.take i) _ _ HR4.out).mono ?_); rintro e w5 ⟨rfl, hb5⟩; rw [← HF.out]; have hbl5 := below_then' hbl4 hb5 (Nat.le_refl _)))
          go_roundw
          case rel => exact ⟨R, L, C, _, rfl, by omega, HPC.out, hbl5, HE.out⟩
          case measure => simp [lenV]; omega
        · rw [if_neg hf0] at hL
          have q1 : (f != 0) = true := by simpa using hf0
          have HL := hid hL.symm
          clear hL hf0
          go_wp2_with (first
            | (go_at_call 30; (with_reducible refine (cutq_yes _ _ _ ys _ _ rfl HRY.out h0 (by omega) HMR.out i HI.out R HR2.out L C HL2.out HC2.out).mono ?_); rintro e w4 ⟨rfl, hb4⟩; have hbl4 := below_then' hbel hb4 (Nat.le_refl _); have HR4 := hid (HPR.out.below hbl4))
            | (go_at_call 31; (with_reducible refine (qpage_fault _ _ _ (ys.take i) _ _ HR4.out).mono ?_); rintro e w5 ⟨rfl, hb5⟩; rw [← HF.out]; have hbl5 := below_then' hbl4 hb5 (Nat.le_refl _)))
          go_ret
          exact ⟨ret_int HL.out, hbl5⟩
    · have hz : m = 0 := by omega
      subst hz
      obtain rfl : ys = [] := List.eq_nil_of_length_eq_zero hys
      have HL := hid (chk_nil.symm.trans hE.out)
      clear hE
      go_wp2_with fail
      go_ret
      exact ⟨ret_int HL.out, hbel⟩
end Go.Proofs.YtpdoehdmeojmkaaDoor
