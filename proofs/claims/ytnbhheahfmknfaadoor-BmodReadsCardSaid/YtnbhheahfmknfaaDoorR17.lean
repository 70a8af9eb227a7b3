/-
  Contracts of the document's own functions of layer 17 (those that the translation has).
-/
import Derived.Test.YtnbhheahfmknfaaDoorR14
import Derived.Test.YtnbhheahfmknfaaDoorD17
namespace Go.Proofs.YtnbhheahfmknfaaDoor
open Go.RowKit
set_option linter.unusedVariables false

set_option maxHeartbeats 1000000 in
theorem ref17_turned (a : Option Addr) (len cap : Nat) (xs : List Int) (p q : Int) (w : World) (hr : Reads .u8 w a len cap xs) (hq : 0 ≤ q ∧ q ≤ 255) (hN : len < 100000000) :
    Calls Tryd.prog 30 #[.slice a len cap, .int .u8 p, .int .u8 q] w fun e w' => ∃ v, e = .returned v ∧ Own .u8 5 w.heap.size w' v (turnL p q xs) ∧ Below w.heap.size w w' := by
  have HR := hid hr
  have hsz := hr.size
  clear hr
  go_enter Tryd.func30, Tryd.ntmps30
  go_wp2
  go_loopw [7, 8] (fun v i wr => ∃ k : Nat, k ≤ len ∧ i = .int .i64 k ∧ Own .u8 5 w.heap.size wr v (turnL p q (xs.take k)) ∧ Below w.heap.size w wr) (fun _ i _ => len - (intOf i).toNat)
  case atStart => exact ⟨0, Nat.zero_le _, rfl, Own.nil _ _ _ _, Below.refl _ _⟩
  case round =>
    obtain ⟨k, hk, rfl, hown', hbel'⟩ := hrel
    by_cases hlt : k < len
    · obtain ⟨b, off, x, rfl, _, hc, h0, h1, hx⟩ := (HR.out.below hbel').get8 hlt
      have e1 : turnL p q (xs.take k) ++ [turnI p q x] = turnL p q (xs.take (k + 1)) := by unfold turnL; rw [hx.out.2]; simp
      have hl : (turnL p q (xs.take k)).length ≤ k := by unfold turnL; rw [List.length_map, List.length_take]; omega
      by_cases hxp : x = p
      · have e : turnI p q x = q := if_pos hxp
        have hb : (x == p) = true := by simpa using hxp
        rw [e] at e1
        have E1 := hid e1
        clear e1 hxp e
        go_wp2_with (at_builtin; go_must (refine wpList_push ST8 rfl _ _ rfl rfl ⟨_, rfl⟩ hown' hbel' (by omega) (mk_u8 hq.1 hq.2) ?_); intro v' w' ho2 hb3)
        rw [E1.out] at ho2
        clear hown' hbel'
        go_wp2_with fail
        go_roundw
        case rel => exact ⟨k + 1, by omega, by go_num, ho2, hb3⟩
        case measure => simp [intOf]; omega
      · have e : turnI p q x = x := if_neg hxp
        have hb : (x == p) = false := by simpa using hxp
        rw [e] at e1
        have E1 := hid e1
        clear e1 hxp e
        go_wp2_with (at_builtin; go_must (refine wpList_push ST8 rfl _ _ rfl rfl ⟨_, rfl⟩ hown' hbel' (by omega) (mk_u8 h0 h1) ?_); intro v' w' ho2 hb3)
        rw [E1.out] at ho2
        clear hown' hbel'
        go_wp2_with fail
        go_roundw
        case rel => exact ⟨k + 1, by omega, by go_num, ho2, hb3⟩
        case measure => simp [intOf]; omega
    · rw [HR.out.all (show len ≤ k by omega)] at hown'
      go_wp2_with fail
      go_ret
      exact ⟨_, rfl, hown', hbel'⟩
theorem ref17_Usual (a : Option Addr) (len cap : Nat) (xs : List Int) (w : World) (hr : Reads .u8 w a len cap xs) (hN : len < 100000000) :
    Calls Tryd.prog 17 #[.slice a len cap] w fun e w' => ∃ v, e = .returned v ∧ Own .u8 5 w.heap.size w' v (turnL 44 47 xs) ∧ Below w.heap.size w w' := by
  have HR := hid hr
  clear hr
  go_enter Tryd.func17, Tryd.ntmps17
  go_wp2_with (go_at_call 30; (with_reducible refine (ref17_turned _ _ _ _ _ _ _ HR.out (by omega) hN).mono ?_); rintro e w1 ⟨v1, rfl, ho1, hb1⟩)
  go_ret
  exact ⟨_, rfl, ho1, hb1⟩
theorem ref17_Modified (a : Option Addr) (len cap : Nat) (xs : List Int) (w : World) (hr : Reads .u8 w a len cap xs) (hN : len < 100000000) :
    Calls Tryd.prog 19 #[.slice a len cap] w fun e w' => ∃ v, e = .returned v ∧ Own .u8 5 w.heap.size w' v (turnL 47 44 xs) ∧ Below w.heap.size w w' := by
  have HR := hid hr
  clear hr
  go_enter Tryd.func19, Tryd.ntmps19
  go_wp2_with (go_at_call 30; (with_reducible refine (ref17_turned _ _ _ _ _ _ _ HR.out (by omega) hN).mono ?_); rintro e w1 ⟨v1, rfl, ho1, hb1⟩)
  go_ret
  exact ⟨_, rfl, ho1, hb1⟩
theorem ref17_Lay (a : Option Addr) (len cap : Nat) (xs : List Int) (w : World) (hr : Reads .u8 w a len cap xs) (hN : len < 10000000) :
    Calls Tryd.prog 11 #[.slice a len cap] w fun e w' => ∃ v, e = .returned v ∧ Own .u8 5 w.heap.size w' v (layM xs) ∧ Below w.heap.size w w' := by
  have HR := hid hr
  have hsz := hr.size
  clear hr
  have hbl : (bareB xs).length = len + (len + 2) / 3 := by unfold bareB; rw [List.length_map, v64_len, hsz]
  have HL := hid hbl
  clear hbl
  go_enter Tryd.func11, Tryd.ntmps11
  go_wp2_with (first
    | (go_at_call 23; (with_reducible refine (ref14_Bare _ _ _ _ _ HR.out (by omega)).mono ?_); rintro e w1 ⟨v1, rfl, ho1, hb1⟩; obtain ⟨a1, c1, hv1, hr1⟩ := ho1.reads; rw [HL.out] at hv1 hr1; subst hv1)
    | (go_at_call 19; (with_reducible refine (ref17_Modified _ _ _ _ _ hr1 (by omega)).mono ?_); rintro e w2 ⟨v2, rfl, ho2, hb2⟩))
  go_ret
  exact ⟨_, rfl, own_mono ho2 hb1.size, below_then hb1 hb2⟩
theorem ref17_Value (c : Int) (w : World) (h0 : 0 ≤ c) (h1 : c ≤ 255) :
    Calls Tryd.prog 8 #[.int .u8 c] w fun e w' => e = .returned (.tuple #[.int .i64 (valM c), .bool (isM c)]) ∧ w = w' := by
  by_cases c1 : c = 44
  · subst c1
    go_enter Tryd.func8, Tryd.ntmps8
    go_wp2
    go_ret2
    exact ⟨rfl, rfl⟩
  by_cases c2 : c = 47
  · subst c2
    go_enter Tryd.func8, Tryd.ntmps8
    go_wp2
    go_ret2
    exact ⟨rfl, rfl⟩
  have e : Hid (valM c = valI c ∧ isM c = isDig c) := by unfold Hid valM isM; rw [if_neg c1, if_neg c2, if_neg c1, if_neg c2]; exact ⟨rfl, rfl⟩
  have b1 : (c == 44) = false := by simpa using c1
  have b2 : (c == 47) = false := by simpa using c2
  clear c1 c2
  go_enter Tryd.func8, Tryd.ntmps8
  go_wp2_with (go_at_call 21; (with_reducible refine (ref14_Value _ _ h0 h1).mono ?_); rintro e w1 ⟨rfl, rfl⟩)
  go_ret2
  exact ⟨ret_ib e.out.1.symm e.out.2.symm, rfl⟩
theorem ref17_Len (n : Int) (w : World) (hn : n ≤ 1099511627776) :
    Calls Tryd.prog 13 #[.int .i64 n] w fun e w' => e = .returned (.int .i64 (lenM n)) ∧ Below w.heap.size w w' := by
  by_cases h : n < 1
  · go_enter Tryd.func13, Tryd.ntmps13
    go_wp2
    go_ret
    exact ⟨ret_int (by unfold lenM; rw [if_pos h]), Below.refl _ _⟩
  · have h0 : 0 ≤ n := by omega
    have hE : lenM n = n / 3 * 4 + (if n % 3 = 0 then 0 else if n % 3 = 1 then 2 else 3) := by unfold lenM; rw [if_neg h]
    have hq : n % 3 = 0 ∨ n % 3 = 1 ∨ n % 3 = 2 := by omega
    rcases hq with hq | hq | hq
    all_goals
      rw [hq] at hE
      have HE := hid hE
      clear hE
      go_enter Tryd.func13, Tryd.ntmps13
      go_wp2
      go_ret
      exact ⟨ret_int (by rw [HE.out]; simp), (Below.refl _ _).alloc (Nat.le_refl _) _⟩
set_option maxHeartbeats 4000000 in
theorem ref17_Read (a : Option Addr) (len cap : Nat) (xs : List Int) (w : World) (hr : Reads .u8 w a len cap xs) (hN : len < 10000000) :
    Calls Tryd.prog 15 #[.slice a len cap] w fun e w' => ∃ v, e = .returned (.tuple #[v, .int .i64 (modE xs)]) ∧ Own .u8 5 w.heap.size w' v (modL xs) ∧ Below w.heap.size w w' := by
  have HR := hid hr
  have hsz := hr.size
  clear hr
  go_enter Tryd.func15, Tryd.ntmps15
  go_wp2
  go_loop [4] (fun i => ∃ k : Nat, k ≤ len ∧ i = .int .i64 k ∧ Hid ((xs.take k).all isM = true)) (fun i => len - (intOf i).toNat)
  case atStart => exact ⟨0, Nat.zero_le _, rfl, rfl⟩
  case round =>
    obtain ⟨k, hk, rfl, hn⟩ := hrel
    by_cases hlt : k < len
    · obtain ⟨b, off, x, rfl, _, hc, h0, h1, hx⟩ := HR.out.get8 hlt
      cases hd : isM x
      · have e : Hid (modE xs = 3) := by unfold Hid modE; rw [if_neg (by rw [all_no hx.out.1 hd]; decide)]
        have hV := ref17_Value x w h0 h1
        rw [hd] at hV
        have HV := hid hV
        clear hV hd
        go_wp2_with (go_at_call 8; (with_reducible refine HV.out.mono ?_); rintro e w4 ⟨rfl, rfl⟩)
        go_ret2
        exact ⟨_, by rw [e.out]; rfl, by rw [mod_no (by rw [e.out]; decide)]; exact Own.nil _ _ _ _, Below.refl _ _⟩
      · have HD := hid hd
        have hV := ref17_Value x w h0 h1
        rw [hd] at hV
        have HV := hid hV
        clear hV hd
        go_wp2_with (go_at_call 8; (with_reducible refine HV.out.mono ?_); rintro e w4 ⟨rfl, rfl⟩)
        go_round
        case rel => exact ⟨k + 1, by omega, by go_num, all_yes hx.out.2 hn.out HD.out⟩
        case measure => simp [intOf]; omega
    · have hn' := hn.out
      rw [HR.out.all (show len ≤ k by omega)] at hn'
      have HA := hid hn'
      clear hn'
      by_cases h4 : len % 4 = 1
      · have h4i : ((len : Int) % 4 == 1) = true := by rw [beq_iff_eq]; omega
        have e : Hid (modE xs = 4) := by unfold Hid modE; rw [if_pos HA.out, hsz, if_pos h4]
        clear h4
        go_wp2_with fail
        go_ret2
        exact ⟨_, by rw [e.out]; rfl, by rw [mod_no (by rw [e.out]; decide)]; exact Own.nil _ _ _ _, Below.refl _ _⟩
      · have h4i : ((len : Int) % 4 == 1) = false := by rw [beq_eq_false_iff_ne]; omega
        have hul : (turnL 44 47 xs).length = len := by unfold turnL; rw [List.length_map, hsz]
        have HUL := hid hul
        have HVL : Hid (valsL (turnL 44 47 xs) = bits6 ((turnL 44 47 xs).map valI)) := by unfold Hid valsL; rw [if_pos (turnL_dig HA.out)]
        have HDD := hid (turnL_dig HA.out)
        have hlen : (bits6 ((turnL 44 47 xs).map valI)).length = 6 * len := by rw [bits6_len, List.length_map, hul]
        have hrd := rd_bits _ (turnV6 xs)
        rw [hlen] at hrd
        have HRD := hid hrd
        have HLEN := hid hlen
        have HO1 : Hid (∀ b ∈ bits6 ((turnL 44 47 xs).map valI), b = 0 ∨ b = 1) := by
          intro b hb
          unfold bits6 bit6 at hb
          rw [List.mem_flatMap] at hb
          obtain ⟨x, _, hb⟩ := hb
          simp only [List.mem_cons, List.not_mem_nil, or_false] at hb
          omega
        clear hrd hlen hul
        cases ho : ok64 ((turnL 44 47 xs).map valI)
        · have e : Hid (modE xs = 3) := by unfold Hid modE; rw [if_pos HA.out, hsz, if_neg h4, ho]; rfl
          have HO := hid ho
          clear ho h4
          go_wp2_with (first
            | (go_at_call 17; (with_reducible refine (ref17_Usual _ _ _ _ _ HR.out (by omega)).mono ?_); rintro e w1 ⟨v1, rfl, ho1, hb1⟩; obtain ⟨a1, c1, hv1, hr1⟩ := ho1.reads; rw [HUL.out] at hv1 hr1; subst hv1; have hV := ref14_Values a1 len c1 _ w1 hr1 (by omega); rw [HDD.out, HVL.out] at hV; have HV := hid hV; clear hV)
            | (go_at_call 27; (with_reducible refine HV.out.mono ?_); rintro e w2 ⟨v2, rfl, ho2, hb2⟩; obtain ⟨a2, c2, hv2, hr2⟩ := ho2.reads; rw [HLEN.out] at hv2 hr2; subst hv2; have hq := ref14_Octets a2 (6 * len) c2 _ w2 hr2 HO1.out (by omega); rw [HRD.out.2, HO.out] at hq; have HQ := hid hq; have hb2' := below_then hb1 hb2; clear hq)
            | (go_at_call 28; (with_reducible refine HQ.out.mono ?_); rintro e w3 ⟨v3, rfl, ho3, hb3⟩; have hb3' := below_then hb2' hb3))
          go_ret2
          exact ⟨_, by rw [e.out]; rfl, by rw [mod_no (by rw [e.out]; decide)]; exact Own.nil _ _ _ _, hb3'⟩
        · have e : Hid (modE xs = 0) := by unfold Hid modE; rw [if_pos HA.out, hsz, if_neg h4, if_pos ho]
          have el : Hid (modL xs = rd64 ((turnL 44 47 xs).map valI)) := by unfold Hid modL; rw [if_pos e.out]
          have HO := hid ho
          clear ho h4
          go_wp2_with (first
            | (go_at_call 17; (with_reducible refine (ref17_Usual _ _ _ _ _ HR.out (by omega)).mono ?_); rintro e w1 ⟨v1, rfl, ho1, hb1⟩; obtain ⟨a1, c1, hv1, hr1⟩ := ho1.reads; rw [HUL.out] at hv1 hr1; subst hv1; have hV := ref14_Values a1 len c1 _ w1 hr1 (by omega); rw [HDD.out, HVL.out] at hV; have HV := hid hV; clear hV)
            | (go_at_call 27; (with_reducible refine HV.out.mono ?_); rintro e w2 ⟨v2, rfl, ho2, hb2⟩; obtain ⟨a2, c2, hv2, hr2⟩ := ho2.reads; rw [HLEN.out] at hv2 hr2; subst hv2; have hq := ref14_Octets a2 (6 * len) c2 _ w2 hr2 HO1.out (by omega); rw [HRD.out.2, HO.out, HRD.out.1] at hq; have HQ := hid hq; have hb2' := below_then hb1 hb2; clear hq)
            | (go_at_call 28; (with_reducible refine HQ.out.mono ?_); rintro e w3 ⟨v3, rfl, ho3, hb3⟩; have hb3' := below_then hb2' hb3))
          go_ret2
          exact ⟨_, by rw [e.out]; rfl, by rw [el.out]; exact own_mono ho3 hb2'.size, hb3'⟩
end Go.Proofs.YtnbhheahfmknfaaDoor
