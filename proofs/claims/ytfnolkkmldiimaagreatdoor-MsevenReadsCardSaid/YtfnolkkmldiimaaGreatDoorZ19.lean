/-
  Texts of ours laid together: C24a.
-/
import Derived.Test.YtfnolkkmldiimaaGreatDoorRows
import Derived.Test.YtfnolkkmldiimaaGreatDoorZ18

/-! C24a -/
namespace Go.Proofs.YtfnolkkmldiimaaGreatDoor
open Go.RowKit
set_option linter.unusedVariables false

theorem mseven_isPlain (c : Int) (w : World) :
    Calls Tryz.prog 31 #[.int .i32 c] w fun e w' => e = .returned (.bool (mbPrt c)) ∧ w = w' := by
  by_cases h1 : 32 ≤ c
  · by_cases h2 : c ≤ 126
    · have hd : mbPrt c = true := (mbPrt_iff c).2 ⟨h1, h2⟩
      rw [hd]
      clear hd
      go_enter Tryz.func31, Tryz.ntmps31
      go_wp2_with fail
      go_ret
      exact ⟨rfl, rfl⟩
    · have hd : mbPrt c = false := by unfold mbPrt; exact decide_eq_false (fun h => h2 h.2)
      rw [hd]
      clear hd
      go_enter Tryz.func31, Tryz.ntmps31
      go_wp2_with fail
      go_ret
      exact ⟨rfl, rfl⟩
  · have hd : mbPrt c = false := by unfold mbPrt; exact decide_eq_false (fun h => h1 h.1)
    rw [hd]
    clear hd
    go_enter Tryz.func31, Tryz.ntmps31
    go_wp2_with fail
    go_ret
    exact ⟨rfl, rfl⟩
theorem mseven_needsRun (c : Int) (w : World) :
    Calls Tryz.prog 46 #[.int .i32 c] w fun e w' => e = .returned (.bool (notP c)) ∧ w = w' := by
  unfold notP
  have HP := hid (mseven_isPlain c w)
  generalize mbPrt c = B at *
  go_enter Tryz.func46, Tryz.ntmps46
  go_wp2_with (go_at_call 31; (with_reducible refine HP.out.mono ?_); rintro e w' ⟨rfl, rfl⟩)
  go_ret
  exact ⟨rfl, rfl⟩
theorem mseven_Direct (c : Int) (w : World) :
    Calls Tryz.prog 13 #[.int .i32 c] w fun e w' => e = .returned (.bool (mbDir c)) ∧ Below w.heap.size w w' := by
  unfold mbDir
  have HP := hid (mseven_isPlain c w)
  cases hp : mbPrt c
  all_goals
    rw [hp] at HP
    clear hp
    by_cases h : c = 38
    · rw [decide_eq_false (by omega : ¬ c ≠ 38)]
      subst h
      go_enter Tryz.func13, Tryz.ntmps13
      go_wp2_with (go_at_call 31; (with_reducible refine HP.out.mono ?_); rintro e w' ⟨rfl, rfl⟩)
      go_ret
      exact ⟨rfl, Below.refl _ _⟩
    · have e3 : (c != 38) = true := by simpa using h
      rw [decide_eq_true h]
      clear h
      go_enter Tryz.func13, Tryz.ntmps13
      go_wp2_with (go_at_call 31; (with_reducible refine HP.out.mono ?_); rintro e w' ⟨rfl, rfl⟩)
      go_ret
      exact ⟨rfl, Below.refl _ _⟩
set_option maxHeartbeats 1000000 in
theorem idx_plain (a : Option Addr) (len cap : Nat) (xs : List Int) (w : World) (hr : Reads .i32 w a len cap xs) :
    Calls Tryz.prog 71 #[.slice a len cap, .func (.func 31) #[] #[]] w fun e w' => e = .returned (.int .i64 (idxI mbPrt xs)) ∧ w = w' := by
  have hl := hr.len_le
  have HR := hid hr
  clear hr
  go_enter Tryz.func71, Tryz.ntmps71
  go_wp2
  go_loop [8] (fun i => ∃ k : Nat, k ≤ len ∧ i = .int .i64 k ∧ Hid ((xs.take k).any mbPrt = false)) (fun i => len - (intOf i).toNat)
  case atStart => exact ⟨0, Nat.zero_le _, rfl, rfl⟩
  case round =>
    obtain ⟨k, hk, rfl, hn⟩ := hrel
    by_cases hlt : k < len
    · obtain ⟨b, off, x, rfl, _, hc, h0, h1, hx⟩ := HR.out.getR hlt
      cases hs : mbPrt x
      · have H := hid hs
        go_wp2_with (go_at_call 31; (with_reducible refine (mseven_isPlain _ _).mono ?_); rintro e w' ⟨rfl, rfl⟩; rw [hs])
        go_round
        case rel => exact ⟨k + 1, by omega, by go_num, none_yes hx.out.2 hn.out H.out⟩
        case measure => simp [intOf]; omega
      · have H := hid hs
        go_wp2_with (go_at_call 31; (with_reducible refine (mseven_isPlain _ _).mono ?_); rintro e w' ⟨rfl, rfl⟩; rw [hs])
        go_ret
        exact ⟨ret_int (idx_hit hx.out.1 hn.out H.out).symm, rfl⟩
    · go_wp2
      go_ret
      exact ⟨ret_int (by rw [← HR.out.all (show len ≤ k by omega)]; exact (idx_none hn.out).symm), rfl⟩
set_option maxHeartbeats 1000000 in
theorem idx_needs (a : Option Addr) (len cap : Nat) (xs : List Int) (w : World) (hr : Reads .i32 w a len cap xs) :
    Calls Tryz.prog 71 #[.slice a len cap, .func (.func 46) #[] #[]] w fun e w' => e = .returned (.int .i64 (idxI notP xs)) ∧ w = w' := by
  have hl := hr.len_le
  have HR := hid hr
  clear hr
  go_enter Tryz.func71, Tryz.ntmps71
  go_wp2
  go_loop [8] (fun i => ∃ k : Nat, k ≤ len ∧ i = .int .i64 k ∧ Hid ((xs.take k).any notP = false)) (fun i => len - (intOf i).toNat)
  case atStart => exact ⟨0, Nat.zero_le _, rfl, rfl⟩
  case round =>
    obtain ⟨k, hk, rfl, hn⟩ := hrel
    by_cases hlt : k < len
    · obtain ⟨b, off, x, rfl, _, hc, h0, h1, hx⟩ := HR.out.getR hlt
      cases hs : notP x
      · have H := hid hs
        go_wp2_with (go_at_call 46; (with_reducible refine (mseven_needsRun _ _).mono ?_); rintro e w' ⟨rfl, rfl⟩; rw [hs])
        go_round
        case rel => exact ⟨k + 1, by omega, by go_num, none_yes hx.out.2 hn.out H.out⟩
        case measure => simp [intOf]; omega
      · have H := hid hs
        go_wp2_with (go_at_call 46; (with_reducible refine (mseven_needsRun _ _).mono ?_); rintro e w' ⟨rfl, rfl⟩; rw [hs])
        go_ret
        exact ⟨ret_int (idx_hit hx.out.1 hn.out H.out).symm, rfl⟩
    · go_wp2
      go_ret
      exact ⟨ret_int (by rw [← HR.out.all (show len ≤ k by omega)]; exact (idx_none hn.out).symm), rfl⟩
theorem mseven_isOther (c : Int) (w : World) (h0 : 0 ≤ c) (h1 : c ≤ 255) :
    Calls Tryz.prog 34 #[.int .u8 c] w fun e w' => e = .returned (.bool (notM c)) ∧ w = w' := by
  have hV := bmod_Value c w h0 h1
  unfold notM
  generalize isM c = D at *
  generalize valM c = V at *
  have HV := hid hV
  clear hV
  go_enter Tryz.func34, Tryz.ntmps34
  go_wp2_with (go_at_call 55; (with_reducible refine HV.out.mono ?_); rintro e w' ⟨rfl, rfl⟩)
  go_ret
  exact ⟨rfl, rfl⟩
set_option maxHeartbeats 1000000 in
theorem idx_notM (a : Option Addr) (len cap : Nat) (xs : List Int) (w : World) (hr : Reads .u8 w a len cap xs) :
    Calls Tryz.prog 54 #[.slice a len cap, .func (.func 34) #[] #[]] w fun e w' => e = .returned (.int .i64 (idxI notM xs)) ∧ w = w' := by
  have hl := hr.len_le
  have HR := hid hr
  clear hr
  go_enter Tryz.func54, Tryz.ntmps54
  go_wp2
  go_loop [8] (fun i => ∃ k : Nat, k ≤ len ∧ i = .int .i64 k ∧ Hid ((xs.take k).any notM = false)) (fun i => len - (intOf i).toNat)
  case atStart => exact ⟨0, Nat.zero_le _, rfl, rfl⟩
  case round =>
    obtain ⟨k, hk, rfl, hn⟩ := hrel
    by_cases hlt : k < len
    · obtain ⟨b, off, x, rfl, _, hc, h0, h1, hx⟩ := HR.out.get8 hlt
      cases hs : notM x
      · have H := hid hs
        go_wp2_with (go_at_call 34; (with_reducible refine (mseven_isOther _ _ h0 h1).mono ?_); rintro e w' ⟨rfl, rfl⟩; rw [hs])
        go_round
        case rel => exact ⟨k + 1, by omega, by go_num, none_yes hx.out.2 hn.out H.out⟩
        case measure => simp [intOf]; omega
      · have H := hid hs
        go_wp2_with (go_at_call 34; (with_reducible refine (mseven_isOther _ _ h0 h1).mono ?_); rintro e w' ⟨rfl, rfl⟩; rw [hs])
        go_ret
        exact ⟨ret_int (idx_hit hx.out.1 hn.out H.out).symm, rfl⟩
    · go_wp2
      go_ret
      exact ⟨ret_int (by rw [← HR.out.all (show len ≤ k by omega)]; exact (idx_none hn.out).symm), rfl⟩
theorem has_notM (a : Option Addr) (len cap : Nat) (xs : List Int) (w : World) (hr : Reads .u8 w a len cap xs) :
    Calls Tryz.prog 33 #[.slice a len cap, .func (.func 34) #[] #[]] w fun e w' => e = .returned (.bool (xs.any notM)) ∧ w = w' := by
  have hip := idx_pos notM xs
  have HI := hid (idx_notM a len cap xs w hr)
  generalize idxI notM xs = I at *
  have HP := hid hip
  clear hip hr
  go_enter Tryz.func33, Tryz.ntmps33
  go_wp2_with (go_at_call 54; (with_reducible refine HI.out.mono ?_); rintro e w' ⟨rfl, rfl⟩)
  go_ret
  exact ⟨ret_bool HP.out, rfl⟩
set_option maxHeartbeats 1000000 in
theorem mseven_cutR (fv : Value) (f : Int → Bool) (hI : ∀ a len cap xs w, Reads .i32 w a len cap xs → Calls Tryz.prog 71 #[.slice a len cap, fv] w fun e w' => e = .returned (.int .i64 (idxI f xs)) ∧ w = w')
    (a : Option Addr) (len cap : Nat) (xs : List Int) (w0 w : World) (hr : Reads .i32 w0 a len cap xs) (hb : Below w0.heap.size w0 w) :
    Calls Tryz.prog 45 #[.slice a len cap, fv] w fun e w' => ∃ m c1 a2 c2, m = cntF f xs ∧ m ≤ len ∧ e = .returned (.tuple #[.slice a m c1, .slice a2 (len - m) c2]) ∧ Reads .i32 w0 a m c1 (xs.take m) ∧ Reads .i32 w0 a2 (len - m) c2 (xs.drop m) ∧ Below w.heap.size w w' := by
  have hx := idx_cntF f xs
  have HI := hid (hI a len cap xs w (hr.below hb))
  have hrm := hr.room
  have htp := hr.len_le
  have hsz := hr.size
  obtain ⟨m, hm⟩ : ∃ m, m = cntF f xs := ⟨_, rfl⟩
  have hml : m ≤ len := by rw [hm, ← hsz]; exact cntF_le f xs
  have hp1 := hid (hr.pre hml)
  have hp2 := hr.piece (l := m) (r := len) hml (Nat.le_refl _)
  rw [List.take_of_length_le (by omega)] at hp2
  have HM := hid hm
  have q0 : (0 : Int) ≤ (m : Int) := by omega
  have q1 : (m : Int) ≤ (len : Int) := by omega
  have q2 : (m : Int) ≤ (cap : Int) := by omega
  have q3 : (len : Int) ≤ (cap : Int) := by omega
  by_cases ha : xs.any f = true
  · rw [if_pos ha, ← hm] at hx
    rw [hx] at HI
    have n0 : ¬ (m : Int) < 0 := by omega
    clear hx ha hm hI hr hsz
    by_cases hc : cap = m
    all_goals
      first | (rw [if_pos hc] at hp2; have r3 : (cap = m) = True := eq_true hc; clear hc) | (rw [if_neg hc] at hp2; have r3 : (cap = m) = False := eq_false hc; clear hc)
      have HP2 := hid hp2
      clear hp2
      go_enter Tryz.func45, Tryz.ntmps45
      go_wp2_with (go_at_call 71; (with_reducible refine HI.out.mono ?_); rintro e w' ⟨rfl, rfl⟩)
      go_quiet (fail)
      go_wp2_with fail
      go_ret2
      exact ⟨m, _, _, _, HM.out, hml, rfl, hp1.out, HP2.out, Below.drewN (Below.refl _ _) _⟩
  · rw [if_neg ha] at hx
    have ha' : xs.any f = false := by simpa using ha
    obtain rfl : m = len := by rw [hm, cntF_all ha', hsz]
    rw [hx] at HI
    clear hx ha ha' hm hI hr hsz
    by_cases hc : cap = m
    all_goals
      first | (rw [if_pos hc] at hp2; have r3 : (cap = m) = True := eq_true hc; clear hc) | (rw [if_neg hc] at hp2; have r3 : (cap = m) = False := eq_false hc; clear hc)
      have HP2 := hid hp2
      clear hp2
      go_enter Tryz.func45, Tryz.ntmps45
      go_wp2_with (go_at_call 71; (with_reducible refine HI.out.mono ?_); rintro e w' ⟨rfl, rfl⟩)
      go_quiet (fail)
      go_wp2_with fail
      go_ret2
      exact ⟨m, _, _, _, HM.out, hml, by rw [Nat.sub_self]; rfl, hp1.out, HP2.out, Below.drewN (Below.refl _ _) _⟩
set_option maxHeartbeats 1000000 in
theorem mseven_cutB (fv : Value) (f : Int → Bool) (hI : ∀ a len cap xs w, Reads .u8 w a len cap xs → Calls Tryz.prog 54 #[.slice a len cap, fv] w fun e w' => e = .returned (.int .i64 (idxI f xs)) ∧ w = w')
    (a : Option Addr) (len cap : Nat) (xs : List Int) (w0 w : World) (hr : Reads .u8 w0 a len cap xs) (hb : Below w0.heap.size w0 w) :
    Calls Tryz.prog 103 #[.slice a len cap, fv] w fun e w' => ∃ m c1 a2 c2, m = cntF f xs ∧ m ≤ len ∧ e = .returned (.tuple #[.slice a m c1, .slice a2 (len - m) c2]) ∧ Reads .u8 w0 a m c1 (xs.take m) ∧ Reads .u8 w0 a2 (len - m) c2 (xs.drop m) ∧ Below w.heap.size w w' := by
  have hx := idx_cntF f xs
  have HI := hid (hI a len cap xs w (hr.below hb))
  have hrm := hr.room
  have htp := hr.len_le
  have hsz := hr.size
  obtain ⟨m, hm⟩ : ∃ m, m = cntF f xs := ⟨_, rfl⟩
  have hml : m ≤ len := by rw [hm, ← hsz]; exact cntF_le f xs
  have hp1 := hid (hr.pre hml)
  have hp2 := hr.piece (l := m) (r := len) hml (Nat.le_refl _)
  rw [List.take_of_length_le (by omega)] at hp2
  have HM := hid hm
  have q0 : (0 : Int) ≤ (m : Int) := by omega
  have q1 : (m : Int) ≤ (len : Int) := by omega
  have q2 : (m : Int) ≤ (cap : Int) := by omega
  have q3 : (len : Int) ≤ (cap : Int) := by omega
  by_cases ha : xs.any f = true
  · rw [if_pos ha, ← hm] at hx
    rw [hx] at HI
    have n0 : ¬ (m : Int) < 0 := by omega
    clear hx ha hm hI hr hsz
    by_cases hc : cap = m
    all_goals
      first | (rw [if_pos hc] at hp2; have r3 : (cap = m) = True := eq_true hc; clear hc) | (rw [if_neg hc] at hp2; have r3 : (cap = m) = False := eq_false hc; clear hc)
      have HP2 := hid hp2
      clear hp2
      go_enter Tryz.func103, Tryz.ntmps103
      go_wp2_with (go_at_call 54; (with_reducible refine HI.out.mono ?_); rintro e w' ⟨rfl, rfl⟩)
      go_quiet (fail)
      go_wp2_with fail
      go_ret2
      exact ⟨m, _, _, _, HM.out, hml, rfl, hp1.out, HP2.out, Below.drewN (Below.refl _ _) _⟩
  · rw [if_neg ha] at hx
    have ha' : xs.any f = false := by simpa using ha
    obtain rfl : m = len := by rw [hm, cntF_all ha', hsz]
    rw [hx] at HI
    clear hx ha ha' hm hI hr hsz
    by_cases hc : cap = m
    all_goals
      first | (rw [if_pos hc] at hp2; have r3 : (cap = m) = True := eq_true hc; clear hc) | (rw [if_neg hc] at hp2; have r3 : (cap = m) = False := eq_false hc; clear hc)
      have HP2 := hid hp2
      clear hp2
      go_enter Tryz.func103, Tryz.ntmps103
      go_wp2_with (go_at_call 54; (with_reducible refine HI.out.mono ?_); rintro e w' ⟨rfl, rfl⟩)
      go_quiet (fail)
      go_wp2_with fail
      go_ret2
      exact ⟨m, _, _, _, HM.out, hml, by rw [Nat.sub_self]; rfl, hp1.out, HP2.out, Below.drewN (Below.refl _ _) _⟩
end Go.Proofs.YtfnolkkmldiimaaGreatDoor
