/-
  Contracts of package bmod's functions.
-/
import Derived.Test.YtnbhheahfmknfaaDoorC14d
import Derived.Test.YtnbhheahfmknfaaDoorRep
import Derived.Test.YtnbhheahfmknfaaDoorD17
import Derived.Test.YtnbhheahfmknfaaDoorFirst
namespace Go.Proofs.YtnbhheahfmknfaaDoor
open Go.RowKit
set_option linter.unusedVariables false

theorem turn_repl (p q : Int) (xs : List Int) : replL p q xs = turnL p q xs := rfl
theorem turnL_len (p q : Int) (xs : List Int) : (turnL p q xs).length = xs.length := by unfold turnL; rw [List.length_map]
/-- The strict code of the same digits. -/
def filM (xs : List Int) : List Int := fill4 (turnL 44 47 xs)
theorem fil_cod {xs : List Int} (ha : xs.all isM = true) (h4 : xs.length % 4 ≠ 1) : codE (filM xs) = modE xs ∧ codL (filM xs) = modL xs := by
  have hd := turnL_dig ha
  have hl := turnL_len 44 47 xs
  have hE : eqEnd (filM xs) = (turnL 44 47 xs).length := by
    unfold filM fill4
    refine eqEnd_app (fun x hx => dig_ne (List.all_eq_true.1 hd x hx)) ?_
    rw [hl]; omega
  have hD : codD (filM xs) = turnL 44 47 xs := by
    unfold codD
    rw [hE]
    unfold filM fill4
    rw [List.take_left]
  have hm : (filM xs).length % 4 = 0 := by
    unfold filM fill4
    rw [List.length_append, List.length_replicate]; omega
  have e : codE (filM xs) = modE xs := by
    unfold codE modE
    rw [hD, if_pos hd, if_pos hm, if_pos ha, if_neg h4]
  exact ⟨e, by unfold codL modL; rw [e, hD]⟩

theorem bmod_Value (c : Int) (w : World) (h0 : 0 ≤ c) (h1 : c ≤ 255) :
    Calls Tryd.prog 7 #[.int .u8 c] w fun e w' => e = .returned (.tuple #[.int .i64 (valM c), .bool (isM c)]) ∧ w = w' := by
  by_cases c1 : c = 44
  · subst c1
    have h := val_of val_47
    have HV := bcode_Value 47 w (by decide) (by decide)
    rw [h.2.2.1, h.2.2.2] at HV
    have HV := hid HV
    clear h
    go_enter Tryd.func7, Tryd.ntmps7
    go_wp2_with (go_at_call 20; (with_reducible refine HV.out.mono ?_); rintro e w1 ⟨rfl, rfl⟩)
    go_ret2
    exact ⟨rfl, rfl⟩
  by_cases c2 : c = 47
  · subst c2
    go_enter Tryd.func7, Tryd.ntmps7
    go_wp2
    go_ret2
    exact ⟨rfl, rfl⟩
  have e : Hid (valM c = valI c ∧ isM c = isDig c) := by unfold Hid valM isM; rw [if_neg c1, if_neg c2, if_neg c1, if_neg c2]; exact ⟨rfl, rfl⟩
  have b1 : (c == 44) = false := by simpa using c1
  have b2 : (c == 47) = false := by simpa using c2
  clear c1 c2
  go_enter Tryd.func7, Tryd.ntmps7
  go_wp2_with (go_at_call 20; (with_reducible refine (bcode_Value _ _ h0 h1).mono ?_); rintro e w1 ⟨rfl, rfl⟩)
  go_ret2
  exact ⟨ret_ib e.out.1.symm e.out.2.symm, rfl⟩
theorem rep_lit (p q : Int) (hp : (Lit.int .u8 p).wf = true) (hq : (Lit.int .u8 q).wf = true) (a : Option Addr) (len cap : Nat) (xs : List Int) (w : World) (hr : Reads .u8 w a len cap xs) (hN : len < 100000000) :
    Calls Tryd.prog 29 #[.slice a len cap, .slice (some ⟨w.heap.size, 0, none⟩) 1 1, .slice (some ⟨w.heap.size + 1, 0, none⟩) 1 1] ((w.alloc (.cells #[.int .u8 p] 5)).alloc (.cells #[.int .u8 q] 5)) fun e w' => ∃ v, e = .returned v ∧ Own .u8 5 w.heap.size w' v (turnL p q xs) ∧ Below w.heap.size w w' := by
  have b1 : Below w.heap.size w (w.alloc (.cells #[.int .u8 p] 5)) := (Below.refl _ _).alloc (Nat.le_refl _) _
  have b2 : Below (w.alloc (.cells #[.int .u8 p] 5)).heap.size (w.alloc (.cells #[.int .u8 p] 5)) ((w.alloc (.cells #[.int .u8 p] 5)).alloc (.cells #[.int .u8 q] 5)) := (Below.refl _ _).alloc (Nat.le_refl _) _
  have r1 : Reads .u8 (w.alloc (.cells #[.int .u8 p] 5)) (some ⟨w.heap.size, 0, none⟩) 1 1 [p] := Reads.lit .u8 5 w [p] (by simp [maxLen]) (by intro x hx; rw [List.mem_singleton.1 hx]; exact hp)
  have r2 : Reads .u8 ((w.alloc (.cells #[.int .u8 p] 5)).alloc (.cells #[.int .u8 q] 5)) (some ⟨w.heap.size + 1, 0, none⟩) 1 1 [q] := by
    have := Reads.lit .u8 5 (w.alloc (.cells #[.int .u8 p] 5)) [q] (by simp [maxLen]) (by intro x hx; rw [List.mem_singleton.1 hx]; exact hq)
    simpa using this
  refine (bytes_ReplaceAll1 a len cap xs _ _ 1 1 p q _ ((hr.below b1).below b2) (r1.below b2) r2 hN).mono ?_
  rintro e w' ⟨v, rfl, ho, hb⟩
  exact ⟨v, rfl, own_mono ho (by simp; omega), (below_then b1 b2).trans (hb.mono (by simp; omega))⟩
theorem bmod_UsualO (a : Option Addr) (len cap : Nat) (xs : List Int) (w : World) (hr : Reads .u8 w a len cap xs) (hN : len < 100000000) :
    Calls Tryd.prog 16 #[.slice a len cap] w fun e w' => ∃ v, e = .returned v ∧ Own .u8 5 w.heap.size w' v (turnL 44 47 xs) ∧ Below w.heap.size w w' := by
  have HC := hid (rep_lit 44 47 (by decide) (by decide) a len cap xs w hr hN)
  clear hr
  go_enter Tryd.func16, Tryd.ntmps16
  go_wp2_with (go_at_call 29; (with_reducible refine HC.out.mono ?_); rintro e w1 ⟨v1, rfl, ho1, hb1⟩)
  go_ret
  exact ⟨_, rfl, ho1, hb1⟩
theorem bmod_Usual (a : Option Addr) (len cap : Nat) (xs : List Int) (w : World) (hr : Reads .u8 w a len cap xs) (hN : len < 100000000) :
    Calls Tryd.prog 16 #[.slice a len cap] w fun e w' => ∃ a' len' cap', e = .returned (.slice a' len' cap') ∧ Reads .u8 w' a' len' cap' (turnL 44 47 xs) ∧ Below w.heap.size w w' := by
  refine (bmod_UsualO a len cap xs w hr hN).mono ?_
  rintro e w' ⟨v, rfl, ho, hb⟩
  obtain ⟨a', c', rfl, hr'⟩ := ho.reads
  exact ⟨_, _, _, rfl, hr', hb⟩
theorem bmod_ModifiedO (a : Option Addr) (len cap : Nat) (xs : List Int) (w : World) (hr : Reads .u8 w a len cap xs) (hN : len < 100000000) :
    Calls Tryd.prog 18 #[.slice a len cap] w fun e w' => ∃ v, e = .returned v ∧ Own .u8 5 w.heap.size w' v (turnL 47 44 xs) ∧ Below w.heap.size w w' := by
  have HC := hid (rep_lit 47 44 (by decide) (by decide) a len cap xs w hr hN)
  clear hr
  go_enter Tryd.func18, Tryd.ntmps18
  go_wp2_with (go_at_call 29; (with_reducible refine HC.out.mono ?_); rintro e w1 ⟨v1, rfl, ho1, hb1⟩)
  go_ret
  exact ⟨_, rfl, ho1, hb1⟩
theorem bmod_Modified (a : Option Addr) (len cap : Nat) (xs : List Int) (w : World) (hr : Reads .u8 w a len cap xs) (hN : len < 100000000) :
    Calls Tryd.prog 18 #[.slice a len cap] w fun e w' => ∃ a' len' cap', e = .returned (.slice a' len' cap') ∧ Reads .u8 w' a' len' cap' (turnL 47 44 xs) ∧ Below w.heap.size w w' := by
  refine (bmod_ModifiedO a len cap xs w hr hN).mono ?_
  rintro e w' ⟨v, rfl, ho, hb⟩
  obtain ⟨a', c', rfl, hr'⟩ := ho.reads
  exact ⟨_, _, _, rfl, hr', hb⟩
theorem bmod_LayO (a : Option Addr) (len cap : Nat) (xs : List Int) (w : World) (hr : Reads .u8 w a len cap xs) (hN : len < 10000000) :
    Calls Tryd.prog 9 #[.slice a len cap] w fun e w' => ∃ v, e = .returned v ∧ Own .u8 5 w.heap.size w' v (layM xs) ∧ Below w.heap.size w w' := by
  have HR := hid hr
  have hsz := hr.size
  clear hr
  have HL := hid (show (bareB xs).length = len + (len + 2) / 3 by unfold bareB; rw [List.length_map, v64_len, hsz])
  go_enter Tryd.func9, Tryd.ntmps9
  go_wp2_with (first
    | (go_at_call 22; (with_reducible refine (bcode_Bare _ _ _ _ _ HR.out (by omega)).mono ?_); rintro e w1 ⟨v1, rfl, ho1, hb1⟩; obtain ⟨a1, c1, hv1, hr1⟩ := ho1.reads; rw [HL.out] at hv1 hr1; subst hv1)
    | (go_at_call 18; (with_reducible refine (bmod_ModifiedO _ _ _ _ _ hr1 (by omega)).mono ?_); rintro e w2 ⟨v2, rfl, ho2, hb2⟩))
  go_ret
  exact ⟨_, rfl, own_mono ho2 hb1.size, below_then hb1 hb2⟩
theorem bmod_Lay (a : Option Addr) (len cap : Nat) (xs : List Int) (w : World) (hr : Reads .u8 w a len cap xs) (hN : len < 10000000) :
    Calls Tryd.prog 9 #[.slice a len cap] w fun e w' => ∃ a' len' cap', e = .returned (.slice a' len' cap') ∧ Reads .u8 w' a' len' cap' (layM xs) ∧ Below w.heap.size w w' := by
  refine (bmod_LayO a len cap xs w hr hN).mono ?_
  rintro e w' ⟨v, rfl, ho, hb⟩
  obtain ⟨a', c', rfl, hr'⟩ := ho.reads
  exact ⟨_, _, _, rfl, hr', hb⟩
set_option maxHeartbeats 1000000 in
theorem bmod_Len (n : Int) (w : World) (hn : n ≤ 1099511627776) :
    Calls Tryd.prog 12 #[.int .i64 n] w fun e w' => e = .returned (.int .i64 (lenM n)) ∧ Below w.heap.size w w' := by
  by_cases h : n < 1
  · go_enter Tryd.func12, Tryd.ntmps12
    go_wp2
    go_ret
    exact ⟨ret_int (by unfold lenM; rw [if_pos h]), Below.refl _ _⟩
  · have h0 : 0 ≤ n := by omega
    have hE : lenM n = n / 3 * 4 + (if n % 3 = 0 then 0 else if n % 3 = 1 then 2 else 3) := by unfold lenM; rw [if_neg h]
    have hq : n % 3 = 0 ∨ n % 3 = 1 ∨ n % 3 = 2 := by omega
    rcases hq with hq | hq | hq
    all_goals
      rw [hq] at hE
      have HE := hid hE
      clear hE
      go_enter Tryd.func12, Tryd.ntmps12
      go_wp2
      go_ret
      exact ⟨ret_int (by rw [HE.out]; simp), Below.refl _ _⟩
set_option maxHeartbeats 1000000 in
theorem bmod_allDigits (a : Option Addr) (len cap : Nat) (xs : List Int) (w : World) (hr : Reads .u8 w a len cap xs) :
    Calls Tryd.prog 24 #[.slice a len cap] w fun e w' => e = .returned (.bool (xs.all isM)) ∧ w = w' := by
  have HR := hid hr
  have hl := hr.len_le
  clear hr
  go_enter Tryd.func24, Tryd.ntmps24
  go_wp2_with fail
  go_loop [9] (fun i => ∃ k : Nat, k ≤ len ∧ i = .int .i64 k ∧ Hid ((xs.take k).all isM = true)) (fun i => len - (intOf i).toNat)
  case atStart => exact ⟨0, Nat.zero_le _, rfl, rfl⟩
  case round =>
    obtain ⟨k, hk, rfl, hn⟩ := hrel
    by_cases hlt : k < len
    · obtain ⟨b, off, x, rfl, _, hc, h0, h1, hx⟩ := HR.out.get8 hlt
      cases hd : isM x
      · have HV := bmod_Value x w h0 h1
        rw [hd] at HV
        have HV := hid HV
        have HD := hid hd
        clear hd
        go_wp2_with (go_at_call 7; (with_reducible refine HV.out.mono ?_); rintro e w' ⟨rfl, rfl⟩)
        go_ret
        exact ⟨ret_bool (all_no hx.out.1 HD.out).symm, rfl⟩
      · have HV := bmod_Value x w h0 h1
        rw [hd] at HV
        have HV := hid HV
        have HD := hid hd
        clear hd
        go_wp2_with (go_at_call 7; (with_reducible refine HV.out.mono ?_); rintro e w' ⟨rfl, rfl⟩)
        go_round
        case rel => exact ⟨k + 1, by omega, by go_num, all_yes hx.out.2 hn.out HD.out⟩
        case measure => simp [intOf]; omega
    · go_wp2_with fail
      go_ret
      exact ⟨ret_bool (by rw [← HR.out.all (show len ≤ k by omega)]; exact hn.out.symm), rfl⟩
set_option maxHeartbeats 1000000 in
theorem bmod_filled (a : Option Addr) (len cap : Nat) (xs : List Int) (w : World) (hr : Reads .u8 w a len cap xs) (hN : len < 10000000) :
    Calls Tryd.prog 26 #[.slice a len cap] w fun e w' => ∃ v, e = .returned v ∧ Own .u8 5 w.heap.size w' v (filM xs) ∧ Below w.heap.size w w' := by
  have HU := hid (bmod_UsualO a len cap xs w hr (by omega))
  have HL := hid (show (turnL 44 47 xs).length = len by rw [turnL_len, hr.size])
  clear hr
  go_enter Tryd.func26, Tryd.ntmps26
  go_wp2_with (go_at_call 16; (with_reducible refine HU.out.mono ?_); rintro e w1 ⟨v1, rfl, ho1, hb1⟩)
  go_loopw [3] (fun v wr => ∃ j a' c', v = .slice a' (len + j) c' ∧ j ≤ (4 - len % 4) % 4 ∧ Own .u8 5 w.heap.size wr (.slice a' (len + j) c') (turnL 44 47 xs ++ List.replicate j 61) ∧ Below w.heap.size w wr) (fun v _ => len + 4 - lenV v)
  case atStart =>
    obtain ⟨a1, c1, rfl, hr1⟩ := ho1.reads
    rw [HL.out] at ho1 ⊢
    exact ⟨0, a1, c1, rfl, Nat.zero_le _, by simpa using ho1, hb1⟩
  case round =>
    obtain ⟨j, a', c', rfl, hj, hown, hbel⟩ := hrel
    by_cases h4 : (len + j) % 4 = 0
    · have h4i : ((len : Int) + (j : Int)) % 4 = 0 := by omega
      have hjj : j = (4 - len % 4) % 4 := by omega
      have e : turnL 44 47 xs ++ List.replicate j 61 = filM xs := by unfold filM fill4; rw [HL.out, ← hjj]
      rw [e] at hown
      clear e hjj h4
      go_wp2_with fail
      go_ret
      exact ⟨_, rfl, hown, hbel⟩
    · have h4i : ¬ ((len : Int) + (j : Int)) % 4 = 0 := by omega
      have hj2 : j + 1 ≤ (4 - len % 4) % 4 := by omega
      have hlj : (turnL 44 47 xs ++ List.replicate j 61).length = len + j := by rw [List.length_append, List.length_replicate, HL.out]
      have HLJ := hid hlj
      have E1 := hid (show turnL 44 47 xs ++ List.replicate j (61 : Int) ++ [61] = turnL 44 47 xs ++ List.replicate (j + 1) 61 by rw [List.append_assoc, List.replicate_succ'])
      have E2 := hid (show (turnL 44 47 xs ++ List.replicate (j + 1) (61 : Int)).length = len + (j + 1) by rw [List.length_append, List.length_replicate, HL.out])
      clear hlj h4
      go_wp2_with (at_builtin; go_must (refine wpList_push CT8 rfl _ _ rfl rfl ⟨_, rfl⟩ hown hbel (by rw [HLJ.out]; omega) (by decide) ?_); intro v3 w3 ho3 hb3; rw [E1.out] at ho3; obtain ⟨a3, c3, hv3, hr3⟩ := ho3.reads; rw [E2.out] at hv3; subst hv3; clear hr3)
      go_roundw
      case rel => exact ⟨j + 1, a3, c3, rfl, hj2, ho3, hb3⟩
      case measure => simp [lenV]; omega
set_option maxHeartbeats 1000000 in
theorem bmod_Read (a : Option Addr) (len cap : Nat) (xs : List Int) (w : World) (hr : Reads .u8 w a len cap xs) (hN : len < 1000000) :
    Calls Tryd.prog 14 #[.slice a len cap] w fun e w' => ∃ a' len' cap', e = .returned (.tuple #[.slice a' len' cap', .int .i64 (modE xs)]) ∧ Reads .u8 w' a' len' cap' (modL xs) ∧ Below w.heap.size w w' := by
  have HA := hid (bmod_allDigits a len cap xs w hr)
  have hsz := hr.size
  have hl := hr.len_le
  cases ha : xs.all isM
  · have e : Hid (modE xs = 3) := by unfold Hid modE; rw [ha]; rfl
    have el : Hid (modL xs = []) := mod_no (by rw [e.out]; decide)
    rw [ha] at HA
    clear ha hr
    go_enter Tryd.func14, Tryd.ntmps14
    go_wp2_with (go_at_call 24; (with_reducible refine HA.out.mono ?_); rintro e w1 ⟨rfl, rfl⟩)
    go_ret2
    exact ⟨none, 0, 0, by rw [e.out]; rfl, by rw [el.out]; exact Reads.nil _ _ _ _ (Nat.zero_le _), Below.refl _ _⟩
  · rw [ha] at HA
    by_cases h4 : len % 4 = 1
    · have h4i : (len : Int) % 4 = 1 := by omega
      have e : Hid (modE xs = 4) := by unfold Hid modE; rw [if_pos ha, if_pos (by rw [hsz]; exact h4)]
      have el : Hid (modL xs = []) := mod_no (by rw [e.out]; decide)
      clear ha hr h4
      go_enter Tryd.func14, Tryd.ntmps14
      go_wp2_with (go_at_call 24; (with_reducible refine HA.out.mono ?_); rintro e w1 ⟨rfl, rfl⟩)
      go_ret2
      exact ⟨none, 0, 0, by rw [e.out]; rfl, by rw [el.out]; exact Reads.nil _ _ _ _ (Nat.zero_le _), Below.refl _ _⟩
    · have h4i : ((len : Int) % 4 == 1) = false := by simp; omega
      have hc := fil_cod ha (by rw [hsz]; exact h4)
      have HF := hid (bmod_filled a len cap xs w hr (by omega))
      have HLn := hid (show (filM xs).length < 10000000 by unfold filM fill4; rw [List.length_append, List.length_replicate, turnL_len, hsz]; omega)
      have HC1 := hid hc.1
      have HC2 := hid hc.2
      clear ha hr h4 hc
      go_enter Tryd.func14, Tryd.ntmps14
      go_wp2_with (first
        | (go_at_call 24; (with_reducible refine HA.out.mono ?_); rintro e w1 ⟨rfl, rfl⟩)
        | (go_at_call 26; (with_reducible refine HF.out.mono ?_); rintro e w1 ⟨v1, rfl, ho1, hb1⟩; obtain ⟨a1, c1, rfl, hr1⟩ := ho1.reads)
        | (go_at_call 25; (with_reducible refine (bcode_Read _ _ _ _ w1 hr1 HLn.out).mono ?_); rintro e w2 ⟨v2, rfl, ho2, hb2⟩; obtain ⟨a2, c2, rfl, hr2⟩ := ho2.reads))
      go_ret2
      exact ⟨a2, (codL (filM xs)).length, c2, by rw [HC1.out]; rfl, by rw [← HC2.out]; exact hr2, below_then hb1 hb2⟩
end Go.Proofs.YtnbhheahfmknfaaDoor
