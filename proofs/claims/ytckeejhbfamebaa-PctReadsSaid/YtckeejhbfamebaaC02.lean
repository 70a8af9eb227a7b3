/-
  Contracts of package hexa's functions.
-/
import Derived.Test.YtckeejhbfamebaaC01
import Derived.Test.YtckeejhbfamebaaD02b
import Derived.StillTailTactics
namespace Go.Proofs.Ytckeejhbfamebaa
open Go.RowKit
set_option linter.unusedVariables false

set_option maxHeartbeats 1000000 in
theorem digit_c (n : Int) (w : World) :
    Calls Try.prog 37 #[.int .i64 n] w fun e w' => e = .returned (.int .u8 (digI (n % 16))) ∧ w = w' := by
  obtain ⟨m, hm⟩ : ∃ m : Nat, n % 16 = (m : Int) := ⟨(n % 16).toNat, by omega⟩
  have ha : bits .and .i64 n 15 = (m : Int) := by rw [and15, hm]
  have hlt : m < 16 := by omega
  rw [hm]
  clear hm
  go_enter Try.func37, Try.ntmps37
  go_wp2
  go_ret
  exact ⟨ret_int (digS_get m _), rfl⟩
theorem digit_lo_c (x : Int) (w : World) : Calls Try.prog 37 #[.int .i64 x] w fun e w' => e = .returned (.int .u8 (digI (x % 16))) ∧ w = w' := digit_c x w
theorem digit_hi_c (x : Int) (w : World) (h0 : 0 ≤ x) (h1 : x ≤ 255) : Calls Try.prog 37 #[.int .i64 (x / 16)] w fun e w' => e = .returned (.int .u8 (digI (x / 16))) ∧ w = w' := by
  have := digit_c (x / 16) w
  rwa [show x / 16 % 16 = x / 16 by omega] at this
theorem lower_d (k : Nat) (h : k < digS.size) (w : World) :
    Calls Try.prog 45 #[.int .u8 ((digS[k]'h).toNat : Int)] w fun e w' => e = .returned (.int .u8 (lowI (digI k))) ∧ w = w' := by
  have hk : k < 16 := h
  have hb := digI_bd k (by omega) (by omega)
  rw [digS_get k h]
  exact lower_c _ w (by omega) (by omega)
set_option maxHeartbeats 1000000 in
theorem value_c (c : Int) (w : World) (h0 : 0 ≤ c) (h1 : c ≤ 255) :
    Calls Try.prog 44 #[.int .u8 c] w fun e w' => e = .returned (.tuple #[.int .i64 (hexV c), .bool (hexO c)]) ∧ w = w' := by
  go_enter Try.func44, Try.ntmps44
  go_wp2_with (go_at_call 45; (with_reducible refine (lower_c _ _ h0 h1).mono ?_); rintro e w' ⟨rfl, rfl⟩)
  go_loop [8] (fun i => ∃ k : Nat, k ≤ 16 ∧ i = .int .i64 k ∧ Hid (∀ j : Nat, j < k → digM j c = false)) (fun i => 16 - (intOf i).toNat)
  case atStart => exact ⟨0, Nat.zero_le _, rfl, fun j hj => absurd hj (by omega)⟩
  case round =>
    obtain ⟨k, hk, rfl, hn⟩ := hrel
    by_cases hlt : k < 16
    · have hM := digM_low k c (by omega) (by omega) h0 h1
      have HM := hid hM
      clear hM
      go_wp2_with (go_at_call 45; (with_reducible refine (lower_d _ _ _).mono ?_); rintro e w' ⟨rfl, rfl⟩)
      · have hh := digM_hit k c (by omega) (by omega) (by rw [← HM.out]; first | assumption | exact beq_iff_eq.2 ‹_›)
        go_ret2
        exact ⟨ret_ib hh.1.symm hh.2.symm, rfl⟩
      · go_round
        case rel => exact ⟨k + 1, by omega, by go_num, digM_next hn.out (by rw [← HM.out]; first | assumption | exact beq_eq_false_iff_ne.2 ‹_›)⟩
        case measure => simp [intOf]; omega
    · go_wp2_with fail
      have := digM_none c (fun j hj => hn.out j (by omega))
      go_ret2
      exact ⟨ret_ib this.1.symm this.2.symm, rfl⟩

theorem joinB (a b : Int) (ha0 : 0 ≤ a) (ha1 : a ≤ 15) (hb0 : 0 ≤ b) (hb1 : b ≤ 15) : 0 ≤ bits .or .i64 (16 * a) b ∧ bits .or .i64 (16 * a) b ≤ 255 := by rw [join16 a b ha0 ha1 hb0 hb1]; omega
def pairO (x y : Int) : Bool := hexO x && hexO y
def pairV (x y : Int) : Int := if pairO x y = true then 16 * hexV x + hexV y else 0
set_option maxHeartbeats 1000000 in
theorem read1_c (x y : Int) (w : World) (h0 : 0 ≤ x) (h1 : x ≤ 255) (h2 : 0 ≤ y) (h3 : y ≤ 255) :
    Calls Try.prog 40 #[.int .u8 x, .int .u8 y] w fun e w' => e = .returned (.tuple #[.int .u8 (pairV x y), .bool (pairO x y)]) ∧ w = w' := by
  have b1 := hexV_bd x
  have b2 := hexV_bd y
  cases e1 : hexO x
  · go_enter Try.func40, Try.ntmps40
    go_wp2_with (go_at_call 44; (with_reducible refine (value_c _ _ (by assumption) (by assumption)).mono ?_); rintro e w' ⟨rfl, rfl⟩)
    go_ret2
    exact ⟨ret_ib (by simp [pairV, pairO, e1]) (by simp [pairO, e1]), rfl⟩
  · cases e2 : hexO y
    · go_enter Try.func40, Try.ntmps40
      go_wp2_with (go_at_call 44; (with_reducible refine (value_c _ _ (by assumption) (by assumption)).mono ?_); rintro e w' ⟨rfl, rfl⟩)
      go_ret2
      exact ⟨ret_ib (by simp [pairV, pairO, e2]) (by simp [pairO, e2]), rfl⟩
    · go_enter Try.func40, Try.ntmps40
      go_wp2_with (go_at_call 44; (with_reducible refine (value_c _ _ (by assumption) (by assumption)).mono ?_); rintro e w' ⟨rfl, rfl⟩)
      go_ret2
      exact ⟨ret_ib (by rw [Int.mul_comm, join16 _ _ b1.1 b1.2 b2.1 b2.2]; simp [pairV, pairO, e1, e2]; omega) (by simp [pairO, e1, e2]), rfl⟩
set_option maxHeartbeats 1000000 in
theorem lay1_c (w0 w : World) (v : Value) (xs : List Int) (c : Int) (hown : Own .u8 5 w0.heap.size w v xs) (hb : Below w0.heap.size w0 w) (hl : xs.length < 100000000000) (h0 : 0 ≤ c) (h1 : c ≤ 255) :
    Calls Try.prog 31 #[v, .int .u8 c] w fun e w' => ∃ v', e = .returned v' ∧ Own .u8 5 w0.heap.size w' v' (xs ++ [digI (c / 16), digI (c % 16)]) ∧ Below w0.heap.size w0 w' := by
  have hwf := hid (dig2_wf c h0 h1)
  go_enter Try.func31, Try.ntmps31
  go_wp2_with (first
    | (go_at_call 37; (with_reducible refine (digit_hi_c _ _ h0 h1).mono ?_); rintro e w' ⟨rfl, rfl⟩)
    | (go_at_call 37; (with_reducible refine (digit_lo_c _ _).mono ?_); rintro e w' ⟨rfl, rfl⟩)
    | (at_builtin; go_must (refine wpList_pushs CT8 [digI (c / 16), digI (c % 16)] rfl _ _ rfl rfl ⟨_, rfl⟩ hown hb (by simp; omega) hwf.out ?_); intro v3 w3 ho3 hb3))
  go_ret
  exact ⟨_, rfl, ho3, hb3⟩

set_option maxHeartbeats 1000000 in
theorem put_c (a : Option Addr) (len cap : Nat) (xs : List Int) (s c : Int) (w : World) (hr : Reads .u8 w a len cap xs) (hN : len < 1000000000) (h0 : 0 ≤ c) (h1 : c ≤ 255) (hs : (Lit.int .u8 s).wf = true) :
    Calls Try.prog 23 #[.slice a len cap, .int .u8 s, .int .u8 c] w fun e w' => ∃ a' len' cap', e = .returned (.slice a' len' cap') ∧ Reads .u8 w' a' len' cap' (escI xs s c) ∧ Below w.heap.size w w' := by
  have HR := hid hr
  have hsz := hr.size
  clear hr
  go_enter Try.func23, Try.ntmps23
  go_wp2_with (first
    | (at_make; (refine wpList_make0 (n := len + 3) CT8 rfl _ _ rfl rfl (by go_num) (Below.refl _ _) (by omega) ?_); intro v1 w1 ho1 hb1)
    | (go_at_call 31; go_must (refine (lay1_c w _ _ _ c ho3 hb3 (by simp; omega) h0 h1).mono ?_); rintro e w4 ⟨v4, rfl, ho4, hb4⟩)
    | (at_builtin; (refine wpList_push CT8 rfl _ _ rfl rfl ⟨_, rfl⟩ ho2 hb2 (by simp; omega) hs ?_); intro v3 w3 ho3 hb3)
    | (at_builtin; go_must (refine wpList_more CT8 rfl _ _ rfl rfl rfl ho1 hb1 (HR.out.below hb1) (by simp; omega) ?_); intro v2 w2 ho2 hb2))
  obtain ⟨a', len', cap', rfl, hrd⟩ := ho4.back
  go_ret
  exact ⟨a', len', cap', rfl, by simpa [escI] using hrd, hb4⟩

set_option maxHeartbeats 1000000 in
theorem take_c (a : Option Addr) (len cap : Nat) (xs : List Int) (k s : Int) (w : World) (hr : Reads .u8 w a len cap xs) (hk : (Lit.int .i64 k).wf = true) :
    Calls Try.prog 35 #[.slice a len cap, .int .i64 k, .int .u8 s] w fun e w' => e = .returned (.tuple #[.int .u8 (takeV xs k s), .bool (takeOk xs k s)]) ∧ ∃ n, w' = w.drewN n := by
  have hl := hr.len_le
  have hs := hr.size
  have hw := wf_i64 hk
  clear hk
  by_cases h0 : 0 ≤ k
  · by_cases h1 : k ≤ (len : Int) - 3
    · obtain ⟨k, rfl⟩ := Int.eq_ofNat_of_zero_le h0
      obtain ⟨b, off, x0, rfl, _, c0, l0, u0, f0⟩ := hr.get8 (i := k) (by omega)
      obtain ⟨b', off', x1, hb, _, c1, l1, u1, f1⟩ := hr.get8 (i := k + 1) (by omega)
      cases hb
      obtain ⟨b', off', x2, hb, _, c2, l2, u2, f2⟩ := hr.get8 (i := k + 2) (by omega)
      cases hb
      have T := hid (take_at (s := s) f0.out.1 f1.out.1 f2.out.1)
      clear hr hs
      cases e0 : (x0 != s)
      · have e0' : (x0 == s) = true := by simpa using e0
        rw [e0'] at T
        go_enter Try.func35, Try.ntmps35
        go_wp2_with fail
        have w1 : IntKind.i64.wrap ((k : Int) + 1) = (k : Int) + 1 := IntWalk.i64_in _ (by omega)
        have w2 : IntKind.i64.wrap ((k : Int) + 2) = (k : Int) + 2 := IntWalk.i64_in _ (by omega)
        have p1 : 0 ≤ (k : Int) + 1 := by omega
        have p2 : 0 ≤ (k : Int) + 2 := by omega
        have q1 : (k : Int) + 1 < len := by omega
        have q2 : (k : Int) + 2 < len := by omega
        have t1 : ((k : Int) + 1).toNat = k + 1 := by omega
        have t2 : ((k : Int) + 2).toNat = k + 2 := by omega
        go_quiet ((go_at_call 40; exact Calls.quiet_of_same (Calls.flip (read1_c _ _ _ l1 u1 l2 u2))))
        clear w1 w2 p1 p2 q1 q2 t1 t2
        go_wp2_with fail
        go_ret2
        exact ⟨ret_ib (by rw [T.out.2]; rfl) (by rw [T.out.1]; rfl), ⟨_, rfl⟩⟩
      · have e0' : (x0 == s) = false := by simpa using e0
        rw [e0'] at T
        go_enter Try.func35, Try.ntmps35
        go_wp2_with fail
        go_ret2
        exact ⟨ret_ib (by rw [T.out.2]; rfl) (by rw [T.out.1]; rfl), ⟨0, rfl⟩⟩
    · have T := hid (take_out (s := s) (k := k) (xs := xs) (.inr (by rw [hs]; omega)))
      have h1' : (len : Int) - 3 < k := by omega
      clear hr hs h1
      go_enter Try.func35, Try.ntmps35
      go_wp2_with fail
      all_goals
        go_ret2
        exact ⟨ret_ib T.out.2.symm T.out.1.symm, ⟨0, rfl⟩⟩
  · have T := hid (take_out (s := s) (k := k) (xs := xs) (.inl (by omega)))
    have h0' : k < 0 := by omega
    clear hr hs h0
    go_enter Try.func35, Try.ntmps35
    go_wp2_with fail
    all_goals
      go_ret2
      exact ⟨ret_ib T.out.2.symm T.out.1.symm, ⟨0, rfl⟩⟩

end Go.Proofs.Ytckeejhbfamebaa
