/-
  Contracts of the document's own functions of layer 2.
-/
import Derived.Test.YtckeejhbfamebaaR01
import Derived.Test.YtckeejhbfamebaaD02
import Derived.IntWalk
namespace Go.Proofs.Ytckeejhbfamebaa
open Go.RowKit
set_option linter.unusedVariables false


theorem dig_mod (n : Int) : (n.tmod 16 + 16).tmod 16 = n % 16 := by
  have h1 : -15 ≤ n.tmod 16 ∧ n.tmod 16 ≤ 15 := by
    rcases Int.le_total 0 n with h | h
    · rw [Int.tmod_eq_emod_of_nonneg h]; omega
    · obtain ⟨m, rfl⟩ : ∃ m, n = -m := ⟨-n, by omega⟩
      rw [Int.neg_tmod, Int.tmod_eq_emod_of_nonneg (by omega)]; omega
  rw [Int.tmod_eq_emod_of_nonneg (by omega)]
  rcases Int.le_total 0 n with h | h
  · rw [Int.tmod_eq_emod_of_nonneg h]; omega
  · obtain ⟨m, rfl⟩ : ∃ m, n = -m := ⟨-n, by omega⟩
    rw [Int.neg_tmod, Int.tmod_eq_emod_of_nonneg (by omega)]; omega

theorem dig_wrap (n : Int) : (wrap64 (n.tmod 16 + 16)).tmod 16 = n % 16 := by
  have h1 : -15 ≤ n.tmod 16 ∧ n.tmod 16 ≤ 15 := by
    rcases Int.le_total 0 n with h | h
    · rw [Int.tmod_eq_emod_of_nonneg h]; omega
    · obtain ⟨m, rfl⟩ : ∃ m, n = -m := ⟨-n, by omega⟩
      rw [Int.neg_tmod, Int.tmod_eq_emod_of_nonneg (by omega)]; omega
  have h2 : wrap64 (n.tmod 16 + 16) = n.tmod 16 + 16 := by unfold wrap64; omega
  rw [h2, dig_mod]
set_option maxHeartbeats 1000000 in
theorem digit_r (n : Int) (w : World) :
    Calls Try.prog 38 #[.int .i64 n] w fun e w' => e = .returned (.int .u8 (digI (n % 16))) ∧ w = w' := by
  have hm := dig_wrap n
  have hb : 0 ≤ n % 16 ∧ n % 16 ≤ 15 := by omega
  go_enter Try.func38, Try.ntmps38
  go_wp2
  all_goals (go_ret; exact ⟨ret_int (by unfold digI; split <;> omega), rfl⟩)
theorem digit_n (n : Int) (w : World) (h0 : 0 ≤ n) (h1 : n ≤ 15) :
    Calls Try.prog 38 #[.int .i64 n] w fun e w' => e = .returned (.int .u8 (digI n)) ∧ w = w' := by
  have := digit_r n w
  rwa [show n % 16 = n by omega] at this
set_option maxHeartbeats 1000000 in
theorem value_r (c : Int) (w : World) (h0 : 0 ≤ c) (h1 : c ≤ 255) :
    Calls Try.prog 33 #[.int .u8 c] w fun e w' => e = .returned (.tuple #[.int .i64 (hexV c), .bool (hexO c)]) ∧ w = w' := by
  go_enter Try.func33, Try.ntmps33
  go_wp2
  go_loop [4] (fun i => ∃ k : Nat, k ≤ 16 ∧ i = .int .i64 k ∧ Hid (∀ j : Nat, j < k → digM j c = false)) (fun i => 16 - (intOf i).toNat)
  case atStart => exact ⟨0, Nat.zero_le _, rfl, fun j hj => absurd hj (by omega)⟩
  case round =>
    obtain ⟨k, hk, rfl, hn⟩ := hrel
    by_cases hlt : k < 16
    · have hb := digI_bd k (by omega) (by omega)
      go_wp2_with (go_at_call 38; (with_reducible refine (digit_n _ _ (by omega) (by omega)).mono ?_); rintro e w' ⟨rfl, rfl⟩)
      · have hh := digM_hit k c (by omega) (by omega) (digM_a ‹_›)
        go_ret2
        exact ⟨ret_ib hh.1.symm hh.2.symm, rfl⟩
      · have hh := digM_hit k c (by omega) (by omega) (digM_b ‹_› ‹_›)
        go_ret2
        exact ⟨ret_ib hh.1.symm hh.2.symm, rfl⟩
      all_goals
        go_round
        case rel => exact ⟨k + 1, by omega, by go_num, digM_next hn.out (by first | exact digM_nb ‹_› | exact digM_na ‹_› ‹_›)⟩
        case measure => simp [intOf]; omega
    · go_wp2_with fail
      have := digM_none c (fun j hj => hn.out j (by omega))
      go_ret2
      exact ⟨ret_ib this.1.symm this.2.symm, rfl⟩

set_option maxHeartbeats 1000000 in
theorem take_r (a : Option Addr) (len cap : Nat) (xs : List Int) (k s : Int) (w : World) (hr : Reads .u8 w a len cap xs) (hk : (Lit.int .i64 k).wf = true) :
    Calls Try.prog 25 #[.slice a len cap, .int .i64 k, .int .u8 s] w fun e w' => e = .returned (.tuple #[.int .u8 (takeV xs k s), .bool (takeOk xs k s)]) ∧ w = w' := by
  have hl := hr.len_le
  have hs := hr.size
  have hw := wf_i64 hk
  clear hk
  by_cases h0 : 0 ≤ k
  · by_cases h1 : k ≤ (len : Int) - 3
    · obtain ⟨k, rfl⟩ := Int.eq_ofNat_of_zero_le h0
      obtain ⟨b, off, x0, rfl, _, c0, l0, u0, f0⟩ := hr.get8 (i := k) (by omega)
      obtain ⟨b', off', x1, hb, _, c1, l1, u1, f1⟩ := hr.get8 (i := k + 1) (by omega)
      cases hb
      obtain ⟨b', off', x2, hb, _, c2, l2, u2, f2⟩ := hr.get8 (i := k + 2) (by omega)
      cases hb
      have T := hid (take_at (s := s) f0.out.1 f1.out.1 f2.out.1)
      have b1 := hexV_bd x1
      have b2 := hexV_bd x2
      clear hr hs
      cases e0 : (x0 != s)
      · have e0' : (x0 == s) = true := by simpa using e0
        rw [e0'] at T
        cases e1 : hexO x1
        · rw [e1] at T
          go_enter Try.func25, Try.ntmps25
          go_wp2_with (go_at_call 33; (with_reducible refine (value_r _ _ (by assumption) (by assumption)).mono ?_); rintro e w' ⟨rfl, rfl⟩)
          go_ret2
          exact ⟨ret_ib (by rw [T.out.2]; rfl) (by rw [T.out.1]; rfl), rfl⟩
        · cases e2 : hexO x2
          · rw [e1, e2] at T
            go_enter Try.func25, Try.ntmps25
            go_wp2_with (go_at_call 33; (with_reducible refine (value_r _ _ (by assumption) (by assumption)).mono ?_); rintro e w' ⟨rfl, rfl⟩)
            go_ret2
            exact ⟨ret_ib (by rw [T.out.2]; rfl) (by rw [T.out.1]; rfl), rfl⟩
          · rw [e1, e2] at T
            go_enter Try.func25, Try.ntmps25
            go_wp2_with (go_at_call 33; (with_reducible refine (value_r _ _ (by assumption) (by assumption)).mono ?_); rintro e w' ⟨rfl, rfl⟩)
            go_ret2
            exact ⟨ret_ib (by rw [T.out.2]; rfl) (by rw [T.out.1]; rfl), rfl⟩
      · have e0' : (x0 == s) = false := by simpa using e0
        rw [e0'] at T
        go_enter Try.func25, Try.ntmps25
        go_wp2_with fail
        go_ret2
        exact ⟨ret_ib (by rw [T.out.2]; rfl) (by rw [T.out.1]; rfl), rfl⟩
    · have T := hid (take_out (s := s) (k := k) (xs := xs) (.inr (by rw [hs]; omega)))
      have h1' : (len : Int) - 3 < k := by omega
      clear hr hs h1
      go_enter Try.func25, Try.ntmps25
      go_wp2_with fail
      all_goals
        go_ret2
        exact ⟨ret_ib T.out.2.symm T.out.1.symm, rfl⟩
  · have T := hid (take_out (s := s) (k := k) (xs := xs) (.inl (by omega)))
    have h0' : k < 0 := by omega
    clear hr hs h0
    go_enter Try.func25, Try.ntmps25
    go_wp2_with fail
    all_goals
      go_ret2
      exact ⟨ret_ib T.out.2.symm T.out.1.symm, rfl⟩

theorem digit_hi (x : Int) (w : World) (h0 : 0 ≤ x) (h1 : x ≤ 255) :
    Calls Try.prog 38 #[.int .i64 (x / 16)] w fun e w' => e = .returned (.int .u8 (digI (x / 16))) ∧ w = w' := digit_n _ _ (by omega) (by omega)
theorem digit_lo (x : Int) (w : World) (h0 : 0 ≤ x) (h1 : x ≤ 255) :
    Calls Try.prog 38 #[.int .i64 (x % 16)] w fun e w' => e = .returned (.int .u8 (digI (x % 16))) ∧ w = w' := digit_n _ _ (by omega) (by omega)
/-- The walk's spellings of an octet's two digits. -/
theorem spell (x : Int) (h0 : 0 ≤ x) (h1 : x ≤ 255) : IntKind.i64.wrap x = x ∧ x.tdiv 16 = x / 16 ∧ x.tmod 16 = x % 16 ∧ IntKind.i64.wrap (x / 16) = x / 16 ∧ IntKind.i64.wrap (x % 16) = x % 16 :=
  ⟨IntWalk.i64_in _ (by omega), Int.tdiv_eq_ediv_of_nonneg h0, Int.tmod_eq_emod_of_nonneg h0, IntWalk.i64_in _ (by omega), IntWalk.i64_in _ (by omega)⟩

set_option maxHeartbeats 1000000 in
theorem put_r (a : Option Addr) (len cap : Nat) (xs : List Int) (s c : Int) (w : World) (hr : Reads .u8 w a len cap xs) (hN : len < 1000000000) (h0 : 0 ≤ c) (h1 : c ≤ 255) (hs : (Lit.int .u8 s).wf = true) :
    Calls Try.prog 32 #[.slice a len cap, .int .u8 s, .int .u8 c] w fun e w' => ∃ a' len' cap', e = .returned (.slice a' len' cap') ∧ Reads .u8 w' a' len' cap' (escI xs s c) ∧ Below w.heap.size w w' := by
  have HR := hid hr
  have hsz := hr.size
  clear hr
  have hwf := hid (dig3_wf s c hs h0 h1)
  have he : Hid (xs ++ [s, digI (c / 16), digI (c % 16)] = escI xs s c) := hid rfl
  go_enter Try.func32, Try.ntmps32
  go_wp2_with (first
    | (go_at_call 38; (with_reducible refine (digit_n _ _ (by omega) (by omega)).mono ?_); rintro e w' ⟨rfl, rfl⟩)
    | (at_builtin; (refine wpList_pushs ST8 [s, digI (c / 16), digI (c % 16)] rfl _ _ rfl rfl ⟨_, rfl⟩ ho2 hb2 (by simp; omega) hwf.out ?_); intro v3 w3 ho3 hb3)
    | (at_builtin; go_must (refine wpList_more ST8 rfl _ _ rfl rfl rfl (Own.nil _ _ _ _) (Below.refl _ _) HR.out (by simp; omega) ?_); intro v2 w2 ho2 hb2))
  obtain ⟨a', len', cap', rfl, hrd⟩ := ho3.back
  go_ret
  exact ⟨a', len', cap', rfl, by simpa [escI] using hrd, hb3⟩

end Go.Proofs.Ytckeejhbfamebaa
