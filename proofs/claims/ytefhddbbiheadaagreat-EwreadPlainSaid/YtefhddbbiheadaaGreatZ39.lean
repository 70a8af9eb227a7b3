/-
  Texts of ours laid together: D02b, C02, R02.
-/
import Derived.IntWalk
import Derived.StillTailTactics
import Derived.Test.YtefhddbbiheadaaGreatZ38

/-! D02b -/
namespace Go.Proofs.YtefhddbbiheadaaGreat
open Go.RowKit
set_option linter.unusedVariables false

theorem digM_low (k c : Int) (hk0 : 0 ≤ k) (hk1 : k ≤ 15) (h0 : 0 ≤ c) (h1 : c ≤ 255) : (lowI (digI k) == lowI c) = digM k c := by
  rw [Bool.eq_iff_iff]
  unfold digM digI lowI
  simp only [Bool.or_eq_true, beq_iff_eq, Bool.and_eq_true, decide_eq_true_eq]
  constructor <;> (intro h; (repeat' split at h) <;> (repeat' split) <;> omega)
/-- The low four bits. -/
theorem and15 (n : Int) : bits .and .i64 n 15 = n % 16 := by
  show IntKind.i64.wrap ((BitVec.ofInt 64 n &&& BitVec.ofInt 64 15).toNat : Int) = _
  rw [BitVec.toNat_and, BitVec.toNat_ofInt, BitVec.toNat_ofInt]
  rw [show ((15 : Int) % (2 ^ 64 : Nat)).toNat = 2 ^ 4 - 1 by decide, Nat.and_two_pow_sub_one_eq_mod]
  rw [IntWalk.i64_in _ (by omega)]
  omega
/-- Two digits together. -/
theorem join_fin : ∀ a b : Fin 16, bits .or .i64 ((16 * a.val : Nat) : Int) (b.val : Int) = ((16 * a.val + b.val : Nat) : Int) := by decide +kernel
theorem join16 (a b : Int) (ha0 : 0 ≤ a) (ha1 : a ≤ 15) (hb0 : 0 ≤ b) (hb1 : b ≤ 15) : bits .or .i64 (16 * a) b = 16 * a + b := by
  have := join_fin ⟨a.toNat, by omega⟩ ⟨b.toNat, by omega⟩
  simp only at this
  rwa [show ((16 * a.toNat : Nat) : Int) = 16 * a by omega, show ((b.toNat : Nat) : Int) = b by omega, show ((16 * a.toNat + b.toNat : Nat) : Int) = 16 * a + b by omega] at this

abbrev digS : ByteArray := { data := #[48, 49, 50, 51, 52, 53, 54, 55, 56, 57, 65, 66, 67, 68, 69, 70] }
theorem digS_fin : ∀ k : Fin 16, ((digS.data[k.val]'(by have := k.isLt; simp)).toNat : Int) = digI (k.val : Int) := by decide +kernel
theorem digS_get (k : Nat) (h : k < digS.size) : ((digS[k]'h).toNat : Int) = digI k := digS_fin ⟨k, h⟩

/-- Has a text no small digits above nine? -/
def capB (x : Int) : Bool := !(decide (97 ≤ x) && decide (x ≤ 102))
/-- A row of octets that is filled out of pairs of digits. -/
def fillP (xs : List Int) (n j : Nat) : List Int := pairs (xs.take (2 * j)) ++ List.replicate (n - j) 0
theorem fillP_zero (xs : List Int) (n : Nat) : fillP xs n 0 = List.replicate n 0 := by simp [fillP, pairs]
theorem fillP_len {xs : List Int} {n j : Nat} (h : 2 * j ≤ xs.length) (hj : j ≤ n) : (fillP xs n j).length = n := by
  unfold fillP
  rw [List.length_append, pairs_len j _ (by rw [List.length_take]; omega), List.length_replicate]; omega
theorem fillP_all {xs : List Int} {n j : Nat} (hj : n ≤ j) (h : xs.length ≤ 2 * j) : fillP xs n j = pairs xs := by
  unfold fillP
  rw [List.take_of_length_le h, show n - j = 0 by omega]; simp
theorem fillP_set {xs : List Int} {n j : Nat} {x y : Int} (hj : j < n) (h : 2 * j ≤ xs.length) (hx : xs.take (2 * j + 1) = xs.take (2 * j) ++ [x]) (hy : xs.take (2 * j + 1 + 1) = xs.take (2 * j + 1) ++ [y]) :
    (fillP xs n j).set j (16 * hexV x + hexV y) = fillP xs n (j + 1) := by
  unfold fillP
  rw [pairs_next h hx hy]
  have hl : (pairs (xs.take (2 * j))).length = j := pairs_len j _ (by rw [List.length_take]; omega)
  rw [List.set_append_right _ _ (by omega), hl, Nat.sub_self, show n - j = (n - (j + 1)) + 1 by omega, List.replicate_succ]
  simp

end Go.Proofs.YtefhddbbiheadaaGreat

/-! C02 -/
namespace Go.Proofs.YtefhddbbiheadaaGreat
open Go.RowKit
set_option linter.unusedVariables false

theorem lower_d (k : Nat) (h : k < digS.size) (w : World) :
    Calls Tryz.prog 111 #[.int .u8 ((digS[k]'h).toNat : Int)] w fun e w' => e = .returned (.int .u8 (lowI (digI k))) ∧ w = w' := by
  have hk : k < 16 := h
  have hb := digI_bd k (by omega) (by omega)
  rw [digS_get k h]
  exact lower_c _ w (by omega) (by omega)
set_option maxHeartbeats 1000000 in
theorem value_c (c : Int) (w : World) (h0 : 0 ≤ c) (h1 : c ≤ 255) :
    Calls Tryz.prog 170 #[.int .u8 c] w fun e w' => e = .returned (.tuple #[.int .i64 (hexV c), .bool (hexO c)]) ∧ w = w' := by
  go_enter Tryz.func170, Tryz.ntmps170
  go_wp2_with (go_at_call 111; (with_reducible refine (lower_c _ _ h0 h1).mono ?_); rintro e w' ⟨rfl, rfl⟩)
  go_loop [8] (fun i => ∃ k : Nat, k ≤ 16 ∧ i = .int .i64 k ∧ Hid (∀ j : Nat, j < k → digM j c = false)) (fun i => 16 - (intOf i).toNat)
  case atStart => exact ⟨0, Nat.zero_le _, rfl, fun j hj => absurd hj (by omega)⟩
  case round =>
    obtain ⟨k, hk, rfl, hn⟩ := hrel
    by_cases hlt : k < 16
    · have hM := digM_low k c (by omega) (by omega) h0 h1
      have HM := hid hM
      clear hM
      go_wp2_with (go_at_call 111; (with_reducible refine (lower_d _ _ _).mono ?_); rintro e w' ⟨rfl, rfl⟩)
      · have hh := digM_hit k c (by omega) (by omega) (by rw [← HM.out]; first | assumption | exact beq_iff_eq.2 ‹_›)
        go_ret2
        exact ⟨ret_ib hh.1.symm hh.2.symm, rfl⟩
      · go_round
        case rel => exact ⟨k + 1, by omega, by go_num, digM_next hn.out (by rw [← HM.out]; first | assumption | exact beq_eq_false_iff_ne.2 ‹_›)⟩
        case measure => simp [intOf]; omega
    · go_wp2_with fail
      have := digM_none c (fun j hj => hn.out j (by omega))
      go_ret2
      exact ⟨ret_ib this.1.symm this.2.symm, rfl⟩

theorem joinB (a b : Int) (ha0 : 0 ≤ a) (ha1 : a ≤ 15) (hb0 : 0 ≤ b) (hb1 : b ≤ 15) : 0 ≤ bits .or .i64 (16 * a) b ∧ bits .or .i64 (16 * a) b ≤ 255 := by rw [join16 a b ha0 ha1 hb0 hb1]; omega
def pairO (x y : Int) : Bool := hexO x && hexO y
def pairV (x y : Int) : Int := if pairO x y = true then 16 * hexV x + hexV y else 0
set_option maxHeartbeats 1000000 in
theorem read1_c (x y : Int) (w : World) (h0 : 0 ≤ x) (h1 : x ≤ 255) (h2 : 0 ≤ y) (h3 : y ≤ 255) :
    Calls Tryz.prog 152 #[.int .u8 x, .int .u8 y] w fun e w' => e = .returned (.tuple #[.int .u8 (pairV x y), .bool (pairO x y)]) ∧ w = w' := by
  have b1 := hexV_bd x
  have b2 := hexV_bd y
  cases e1 : hexO x
  · go_enter Tryz.func152, Tryz.ntmps152
    go_wp2_with (go_at_call 170; (with_reducible refine (value_c _ _ (by assumption) (by assumption)).mono ?_); rintro e w' ⟨rfl, rfl⟩)
    go_ret2
    exact ⟨ret_ib (by simp [pairV, pairO, e1]) (by simp [pairO, e1]), rfl⟩
  · cases e2 : hexO y
    · go_enter Tryz.func152, Tryz.ntmps152
      go_wp2_with (go_at_call 170; (with_reducible refine (value_c _ _ (by assumption) (by assumption)).mono ?_); rintro e w' ⟨rfl, rfl⟩)
      go_ret2
      exact ⟨ret_ib (by simp [pairV, pairO, e2]) (by simp [pairO, e2]), rfl⟩
    · go_enter Tryz.func152, Tryz.ntmps152
      go_wp2_with (go_at_call 170; (with_reducible refine (value_c _ _ (by assumption) (by assumption)).mono ?_); rintro e w' ⟨rfl, rfl⟩)
      go_ret2
      exact ⟨ret_ib (by rw [Int.mul_comm, join16 _ _ b1.1 b1.2 b2.1 b2.2]; simp [pairV, pairO, e1, e2]; omega) (by simp [pairO, e1, e2]), rfl⟩


set_option maxHeartbeats 1000000 in
theorem take_c (a : Option Addr) (len cap : Nat) (xs : List Int) (k s : Int) (w : World) (hr : Reads .u8 w a len cap xs) (hk : (Lit.int .i64 k).wf = true) :
    Calls Tryz.prog 136 #[.slice a len cap, .int .i64 k, .int .u8 s] w fun e w' => e = .returned (.tuple #[.int .u8 (takeV xs k s), .bool (takeOk xs k s)]) ∧ ∃ n, w' = w.drewN n := by
  have hl := hr.len_le
  have hs := hr.size
  have hw := wf_i64 hk
  clear hk
  by_cases h0 : 0 ≤ k
  · by_cases h1 : k ≤ (len : Int) - 3
    · obtain ⟨k, rfl⟩ := Int.eq_ofNat_of_zero_le h0
      obtain ⟨b, off, x0, rfl, _, c0, l0, u0, f0⟩ := hr.get8 (i := k) (by omega)
      obtain ⟨b', off', x1, hb, _, c1, l1, u1, f1⟩ := hr.get8 (i := k + 1) (by omega)
      cases hb
      obtain ⟨b', off', x2, hb, _, c2, l2, u2, f2⟩ := hr.get8 (i := k + 2) (by omega)
      cases hb
      have T := hid (take_at (s := s) f0.out.1 f1.out.1 f2.out.1)
      clear hr hs
      cases e0 : (x0 != s)
      · have e0' : (x0 == s) = true := by simpa using e0
        rw [e0'] at T
        go_enter Tryz.func136, Tryz.ntmps136
        go_wp2_with fail
        have w1 : IntKind.i64.wrap ((k : Int) + 1) = (k : Int) + 1 := IntWalk.i64_in _ (by omega)
        have w2 : IntKind.i64.wrap ((k : Int) + 2) = (k : Int) + 2 := IntWalk.i64_in _ (by omega)
        have p1 : 0 ≤ (k : Int) + 1 := by omega
        have p2 : 0 ≤ (k : Int) + 2 := by omega
        have q1 : (k : Int) + 1 < len := by omega
        have q2 : (k : Int) + 2 < len := by omega
        have t1 : ((k : Int) + 1).toNat = k + 1 := by omega
        have t2 : ((k : Int) + 2).toNat = k + 2 := by omega
        go_quiet ((go_at_call 152; exact Calls.quiet_of_same (Calls.flip (read1_c _ _ _ l1 u1 l2 u2))))
        clear w1 w2 p1 p2 q1 q2 t1 t2
        go_wp2_with fail
        go_ret2
        exact ⟨ret_ib (by rw [T.out.2]; rfl) (by rw [T.out.1]; rfl), ⟨_, rfl⟩⟩
      · have e0' : (x0 == s) = false := by simpa using e0
        rw [e0'] at T
        go_enter Tryz.func136, Tryz.ntmps136
        go_wp2_with fail
        go_ret2
        exact ⟨ret_ib (by rw [T.out.2]; rfl) (by rw [T.out.1]; rfl), ⟨0, rfl⟩⟩
    · have T := hid (take_out (s := s) (k := k) (xs := xs) (.inr (by rw [hs]; omega)))
      have h1' : (len : Int) - 3 < k := by omega
      clear hr hs h1
      go_enter Tryz.func136, Tryz.ntmps136
      go_wp2_with fail
      all_goals
        go_ret2
        exact ⟨ret_ib T.out.2.symm T.out.1.symm, ⟨0, rfl⟩⟩
  · have T := hid (take_out (s := s) (k := k) (xs := xs) (.inl (by omega)))
    have h0' : k < 0 := by omega
    clear hr hs h0
    go_enter Tryz.func136, Tryz.ntmps136
    go_wp2_with fail
    all_goals
      go_ret2
      exact ⟨ret_ib T.out.2.symm T.out.1.symm, ⟨0, rfl⟩⟩

end Go.Proofs.YtefhddbbiheadaaGreat

/-! R02 -/
namespace Go.Proofs.YtefhddbbiheadaaGreat
open Go.RowKit
set_option linter.unusedVariables false


theorem dig_mod (n : Int) : (n.tmod 16 + 16).tmod 16 = n % 16 := by
  have h1 : -15 ≤ n.tmod 16 ∧ n.tmod 16 ≤ 15 := by
    rcases Int.le_total 0 n with h | h
    · rw [Int.tmod_eq_emod_of_nonneg h]; omega
    · obtain ⟨m, rfl⟩ : ∃ m, n = -m := ⟨-n, by omega⟩
      rw [Int.neg_tmod, Int.tmod_eq_emod_of_nonneg (by omega)]; omega
  rw [Int.tmod_eq_emod_of_nonneg (by omega)]
  rcases Int.le_total 0 n with h | h
  · rw [Int.tmod_eq_emod_of_nonneg h]; omega
  · obtain ⟨m, rfl⟩ : ∃ m, n = -m := ⟨-n, by omega⟩
    rw [Int.neg_tmod, Int.tmod_eq_emod_of_nonneg (by omega)]; omega

theorem dig_wrap (n : Int) : (wrap64 (n.tmod 16 + 16)).tmod 16 = n % 16 := by
  have h1 : -15 ≤ n.tmod 16 ∧ n.tmod 16 ≤ 15 := by
    rcases Int.le_total 0 n with h | h
    · rw [Int.tmod_eq_emod_of_nonneg h]; omega
    · obtain ⟨m, rfl⟩ : ∃ m, n = -m := ⟨-n, by omega⟩
      rw [Int.neg_tmod, Int.tmod_eq_emod_of_nonneg (by omega)]; omega
  have h2 : wrap64 (n.tmod 16 + 16) = n.tmod 16 + 16 := by unfold wrap64; omega
  rw [h2, dig_mod]
set_option maxHeartbeats 1000000 in
theorem digit_r (n : Int) (w : World) :
    Calls Tryz.prog 124 #[.int .i64 n] w fun e w' => e = .returned (.int .u8 (digI (n % 16))) ∧ w = w' := by
  have hm := dig_wrap n
  have hb : 0 ≤ n % 16 ∧ n % 16 ≤ 15 := by omega
  go_enter Tryz.func124, Tryz.ntmps124
  go_wp2
  all_goals (go_ret; exact ⟨ret_int (by unfold digI; split <;> omega), rfl⟩)
theorem digit_n (n : Int) (w : World) (h0 : 0 ≤ n) (h1 : n ≤ 15) :
    Calls Tryz.prog 124 #[.int .i64 n] w fun e w' => e = .returned (.int .u8 (digI n)) ∧ w = w' := by
  have := digit_r n w
  rwa [show n % 16 = n by omega] at this
set_option maxHeartbeats 1000000 in
theorem value_r (c : Int) (w : World) (h0 : 0 ≤ c) (h1 : c ≤ 255) :
    Calls Tryz.prog 93 #[.int .u8 c] w fun e w' => e = .returned (.tuple #[.int .i64 (hexV c), .bool (hexO c)]) ∧ w = w' := by
  go_enter Tryz.func93, Tryz.ntmps93
  go_wp2
  go_loop [4] (fun i => ∃ k : Nat, k ≤ 16 ∧ i = .int .i64 k ∧ Hid (∀ j : Nat, j < k → digM j c = false)) (fun i => 16 - (intOf i).toNat)
  case atStart => exact ⟨0, Nat.zero_le _, rfl, fun j hj => absurd hj (by omega)⟩
  case round =>
    obtain ⟨k, hk, rfl, hn⟩ := hrel
    by_cases hlt : k < 16
    · have hb := digI_bd k (by omega) (by omega)
      go_wp2_with (go_at_call 124; (with_reducible refine (digit_n _ _ (by omega) (by omega)).mono ?_); rintro e w' ⟨rfl, rfl⟩)
      · have hh := digM_hit k c (by omega) (by omega) (digM_a ‹_›)
        go_ret2
        exact ⟨ret_ib hh.1.symm hh.2.symm, rfl⟩
      · have hh := digM_hit k c (by omega) (by omega) (digM_b ‹_› ‹_›)
        go_ret2
        exact ⟨ret_ib hh.1.symm hh.2.symm, rfl⟩
      all_goals
        go_round
        case rel => exact ⟨k + 1, by omega, by go_num, digM_next hn.out (by first | exact digM_nb ‹_› | exact digM_na ‹_› ‹_›)⟩
        case measure => simp [intOf]; omega
    · go_wp2_with fail
      have := digM_none c (fun j hj => hn.out j (by omega))
      go_ret2
      exact ⟨ret_ib this.1.symm this.2.symm, rfl⟩

set_option maxHeartbeats 1000000 in
theorem take_r (a : Option Addr) (len cap : Nat) (xs : List Int) (k s : Int) (w : World) (hr : Reads .u8 w a len cap xs) (hk : (Lit.int .i64 k).wf = true) :
    Calls Tryz.prog 63 #[.slice a len cap, .int .i64 k, .int .u8 s] w fun e w' => e = .returned (.tuple #[.int .u8 (takeV xs k s), .bool (takeOk xs k s)]) ∧ w = w' := by
  have hl := hr.len_le
  have hs := hr.size
  have hw := wf_i64 hk
  clear hk
  by_cases h0 : 0 ≤ k
  · by_cases h1 : k ≤ (len : Int) - 3
    · obtain ⟨k, rfl⟩ := Int.eq_ofNat_of_zero_le h0
      obtain ⟨b, off, x0, rfl, _, c0, l0, u0, f0⟩ := hr.get8 (i := k) (by omega)
      obtain ⟨b', off', x1, hb, _, c1, l1, u1, f1⟩ := hr.get8 (i := k + 1) (by omega)
      cases hb
      obtain ⟨b', off', x2, hb, _, c2, l2, u2, f2⟩ := hr.get8 (i := k + 2) (by omega)
      cases hb
      have T := hid (take_at (s := s) f0.out.1 f1.out.1 f2.out.1)
      have b1 := hexV_bd x1
      have b2 := hexV_bd x2
      clear hr hs
      cases e0 : (x0 != s)
      · have e0' : (x0 == s) = true := by simpa using e0
        rw [e0'] at T
        cases e1 : hexO x1
        · rw [e1] at T
          go_enter Tryz.func63, Tryz.ntmps63
          go_wp2_with (go_at_call 93; (with_reducible refine (value_r _ _ (by assumption) (by assumption)).mono ?_); rintro e w' ⟨rfl, rfl⟩)
          go_ret2
          exact ⟨ret_ib (by rw [T.out.2]; rfl) (by rw [T.out.1]; rfl), rfl⟩
        · cases e2 : hexO x2
          · rw [e1, e2] at T
            go_enter Tryz.func63, Tryz.ntmps63
            go_wp2_with (go_at_call 93; (with_reducible refine (value_r _ _ (by assumption) (by assumption)).mono ?_); rintro e w' ⟨rfl, rfl⟩)
            go_ret2
            exact ⟨ret_ib (by rw [T.out.2]; rfl) (by rw [T.out.1]; rfl), rfl⟩
          · rw [e1, e2] at T
            go_enter Tryz.func63, Tryz.ntmps63
            go_wp2_with (go_at_call 93; (with_reducible refine (value_r _ _ (by assumption) (by assumption)).mono ?_); rintro e w' ⟨rfl, rfl⟩)
            go_ret2
            exact ⟨ret_ib (by rw [T.out.2]; rfl) (by rw [T.out.1]; rfl), rfl⟩
      · have e0' : (x0 == s) = false := by simpa using e0
        rw [e0'] at T
        go_enter Tryz.func63, Tryz.ntmps63
        go_wp2_with fail
        go_ret2
        exact ⟨ret_ib (by rw [T.out.2]; rfl) (by rw [T.out.1]; rfl), rfl⟩
    · have T := hid (take_out (s := s) (k := k) (xs := xs) (.inr (by rw [hs]; omega)))
      have h1' : (len : Int) - 3 < k := by omega
      clear hr hs h1
      go_enter Tryz.func63, Tryz.ntmps63
      go_wp2_with fail
      all_goals
        go_ret2
        exact ⟨ret_ib T.out.2.symm T.out.1.symm, rfl⟩
  · have T := hid (take_out (s := s) (k := k) (xs := xs) (.inl (by omega)))
    have h0' : k < 0 := by omega
    clear hr hs h0
    go_enter Tryz.func63, Tryz.ntmps63
    go_wp2_with fail
    all_goals
      go_ret2
      exact ⟨ret_ib T.out.2.symm T.out.1.symm, rfl⟩

theorem digit_hi (x : Int) (w : World) (h0 : 0 ≤ x) (h1 : x ≤ 255) :
    Calls Tryz.prog 124 #[.int .i64 (x / 16)] w fun e w' => e = .returned (.int .u8 (digI (x / 16))) ∧ w = w' := digit_n _ _ (by omega) (by omega)
theorem digit_lo (x : Int) (w : World) (h0 : 0 ≤ x) (h1 : x ≤ 255) :
    Calls Tryz.prog 124 #[.int .i64 (x % 16)] w fun e w' => e = .returned (.int .u8 (digI (x % 16))) ∧ w = w' := digit_n _ _ (by omega) (by omega)
/-- The walk's spellings of an octet's two digits. -/
theorem spell (x : Int) (h0 : 0 ≤ x) (h1 : x ≤ 255) : IntKind.i64.wrap x = x ∧ x.tdiv 16 = x / 16 ∧ x.tmod 16 = x % 16 ∧ IntKind.i64.wrap (x / 16) = x / 16 ∧ IntKind.i64.wrap (x % 16) = x % 16 :=
  ⟨IntWalk.i64_in _ (by omega), Int.tdiv_eq_ediv_of_nonneg h0, Int.tmod_eq_emod_of_nonneg h0, IntWalk.i64_in _ (by omega), IntWalk.i64_in _ (by omega)⟩


end Go.Proofs.YtefhddbbiheadaaGreat
