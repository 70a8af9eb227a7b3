/-
  Texts of ours laid together: D02b, C02, R02.
-/
import Derived.IntWalk
import Derived.StillTailTactics
import Derived.Test.YtdglnpkkfkagaaaGreatZ29

/-! D02b -/
namespace Go.Proofs.YtdglnpkkfkagaaaGreat
open Go.RowKit
set_option linter.unusedVariables false

theorem digM_low (k c : Int) (hk0 : 0 ≤ k) (hk1 : k ≤ 15) (h0 : 0 ≤ c) (h1 : c ≤ 255) : (lowI (digI k) == lowI c) = digM k c := by
  rw [Bool.eq_iff_iff]
  unfold digM digI lowI
  simp only [Bool.or_eq_true, beq_iff_eq, Bool.and_eq_true, decide_eq_true_eq]
  constructor <;> (intro h; (repeat' split at h) <;> (repeat' split) <;> omega)
/-- The low four bits. -/
theorem and15 (n : Int) : bits .and .i64 n 15 = n % 16 := by
  show IntKind.i64.wrap ((BitVec.ofInt 64 n &&& BitVec.ofInt 64 15).toNat : Int) = _
  rw [BitVec.toNat_and, BitVec.toNat_ofInt, BitVec.toNat_ofInt]
  rw [show ((15 : Int) % (2 ^ 64 : Nat)).toNat = 2 ^ 4 - 1 by decide, Nat.and_two_pow_sub_one_eq_mod]
  rw [IntWalk.i64_in _ (by omega)]
  omega
/-- Two digits together. -/
theorem join_fin : ∀ a b : Fin 16, bits .or .i64 ((16 * a.val : Nat) : Int) (b.val : Int) = ((16 * a.val + b.val : Nat) : Int) := by decide +kernel
theorem join16 (a b : Int) (ha0 : 0 ≤ a) (ha1 : a ≤ 15) (hb0 : 0 ≤ b) (hb1 : b ≤ 15) : bits .or .i64 (16 * a) b = 16 * a + b := by
  have := join_fin ⟨a.toNat, by omega⟩ ⟨b.toNat, by omega⟩
  simp only at this
  rwa [show ((16 * a.toNat : Nat) : Int) = 16 * a by omega, show ((b.toNat : Nat) : Int) = b by omega, show ((16 * a.toNat + b.toNat : Nat) : Int) = 16 * a + b by omega] at this

abbrev digS : ByteArray := { data := #[48, 49, 50, 51, 52, 53, 54, 55, 56, 57, 65, 66, 67, 68, 69, 70] }
theorem digS_fin : ∀ k : Fin 16, ((digS.data[k.val]'(by have := k.isLt; simp)).toNat : Int) = digI (k.val : Int) := by decide +kernel
theorem digS_get (k : Nat) (h : k < digS.size) : ((digS[k]'h).toNat : Int) = digI k := digS_fin ⟨k, h⟩

/-- Has a text no small digits above nine? -/
def capB (x : Int) : Bool := !(decide (97 ≤ x) && decide (x ≤ 102))
/-- A row of octets that is filled out of pairs of digits. -/
def fillP (xs : List Int) (n j : Nat) : List Int := pairs (xs.take (2 * j)) ++ List.replicate (n - j) 0
theorem fillP_zero (xs : List Int) (n : Nat) : fillP xs n 0 = List.replicate n 0 := by simp [fillP, pairs]
theorem fillP_len {xs : List Int} {n j : Nat} (h : 2 * j ≤ xs.length) (hj : j ≤ n) : (fillP xs n j).length = n := by
  unfold fillP
  rw [List.length_append, pairs_len j _ (by rw [List.length_take]; omega), List.length_replicate]; omega
theorem fillP_all {xs : List Int} {n j : Nat} (hj : n ≤ j) (h : xs.length ≤ 2 * j) : fillP xs n j = pairs xs := by
  unfold fillP
  rw [List.take_of_length_le h, show n - j = 0 by omega]; simp
theorem fillP_set {xs : List Int} {n j : Nat} {x y : Int} (hj : j < n) (h : 2 * j ≤ xs.length) (hx : xs.take (2 * j + 1) = xs.take (2 * j) ++ [x]) (hy : xs.take (2 * j + 1 + 1) = xs.take (2 * j + 1) ++ [y]) :
    (fillP xs n j).set j (16 * hexV x + hexV y) = fillP xs n (j + 1) := by
  unfold fillP
  rw [pairs_next h hx hy]
  have hl : (pairs (xs.take (2 * j))).length = j := pairs_len j _ (by rw [List.length_take]; omega)
  rw [List.set_append_right _ _ (by omega), hl, Nat.sub_self, show n - j = (n - (j + 1)) + 1 by omega, List.replicate_succ]
  simp

end Go.Proofs.YtdglnpkkfkagaaaGreat

/-! C02 -/
namespace Go.Proofs.YtdglnpkkfkagaaaGreat
open Go.RowKit
set_option linter.unusedVariables false

set_option maxHeartbeats 1000000 in
theorem digit_c (n : Int) (w : World) :
    Calls Tryz.prog 151 #[.int .i64 n] w fun e w' => e = .returned (.int .u8 (digI (n % 16))) ∧ w = w' := by
  obtain ⟨m, hm⟩ : ∃ m : Nat, n % 16 = (m : Int) := ⟨(n % 16).toNat, by omega⟩
  have ha : bits .and .i64 n 15 = (m : Int) := by rw [and15, hm]
  have hlt : m < 16 := by omega
  rw [hm]
  clear hm
  go_enter Tryz.func151, Tryz.ntmps151
  go_wp2
  go_ret
  exact ⟨ret_int (digS_get m _), rfl⟩
theorem digit_lo_c (x : Int) (w : World) : Calls Tryz.prog 151 #[.int .i64 x] w fun e w' => e = .returned (.int .u8 (digI (x % 16))) ∧ w = w' := digit_c x w
theorem digit_hi_c (x : Int) (w : World) (h0 : 0 ≤ x) (h1 : x ≤ 255) : Calls Tryz.prog 151 #[.int .i64 (x / 16)] w fun e w' => e = .returned (.int .u8 (digI (x / 16))) ∧ w = w' := by
  have := digit_c (x / 16) w
  rwa [show x / 16 % 16 = x / 16 by omega] at this

set_option maxHeartbeats 1000000 in
theorem lay1_c (w0 w : World) (v : Value) (xs : List Int) (c : Int) (hown : Own .u8 5 w0.heap.size w v xs) (hb : Below w0.heap.size w0 w) (hl : xs.length < 100000000000) (h0 : 0 ≤ c) (h1 : c ≤ 255) :
    Calls Tryz.prog 146 #[v, .int .u8 c] w fun e w' => ∃ v', e = .returned v' ∧ Own .u8 5 w0.heap.size w' v' (xs ++ [digI (c / 16), digI (c % 16)]) ∧ Below w0.heap.size w0 w' := by
  have hwf := hid (dig2_wf c h0 h1)
  go_enter Tryz.func146, Tryz.ntmps146
  go_wp2_with (first
    | (go_at_call 151; (with_reducible refine (digit_hi_c _ _ h0 h1).mono ?_); rintro e w' ⟨rfl, rfl⟩)
    | (go_at_call 151; (with_reducible refine (digit_lo_c _ _).mono ?_); rintro e w' ⟨rfl, rfl⟩)
    | (at_builtin; go_must (refine wpList_pushs CT8 [digI (c / 16), digI (c % 16)] rfl _ _ rfl rfl ⟨_, rfl⟩ hown hb (by simp; omega) hwf.out ?_); intro v3 w3 ho3 hb3))
  go_ret
  exact ⟨_, rfl, ho3, hb3⟩

set_option maxHeartbeats 1000000 in
theorem put_c (a : Option Addr) (len cap : Nat) (xs : List Int) (s c : Int) (w : World) (hr : Reads .u8 w a len cap xs) (hN : len < 1000000000) (h0 : 0 ≤ c) (h1 : c ≤ 255) (hs : (Lit.int .u8 s).wf = true) :
    Calls Tryz.prog 133 #[.slice a len cap, .int .u8 s, .int .u8 c] w fun e w' => ∃ a' len' cap', e = .returned (.slice a' len' cap') ∧ Reads .u8 w' a' len' cap' (escI xs s c) ∧ Below w.heap.size w w' := by
  have HR := hid hr
  have hsz := hr.size
  clear hr
  go_enter Tryz.func133, Tryz.ntmps133
  go_wp2_with (first
    | (at_make; (refine wpList_make0 (n := len + 3) CT8 rfl _ _ rfl rfl (by go_num) (Below.refl _ _) (by omega) ?_); intro v1 w1 ho1 hb1)
    | (go_at_call 146; go_must (refine (lay1_c w _ _ _ c ho3 hb3 (by simp; omega) h0 h1).mono ?_); rintro e w4 ⟨v4, rfl, ho4, hb4⟩)
    | (at_builtin; (refine wpList_push CT8 rfl _ _ rfl rfl ⟨_, rfl⟩ ho2 hb2 (by simp; omega) hs ?_); intro v3 w3 ho3 hb3)
    | (at_builtin; go_must (refine wpList_more CT8 rfl _ _ rfl rfl rfl ho1 hb1 (HR.out.below hb1) (by simp; omega) ?_); intro v2 w2 ho2 hb2))
  obtain ⟨a', len', cap', rfl, hrd⟩ := ho4.back
  go_ret
  exact ⟨a', len', cap', rfl, by simpa [escI] using hrd, hb4⟩


end Go.Proofs.YtdglnpkkfkagaaaGreat

/-! R02 -/
namespace Go.Proofs.YtdglnpkkfkagaaaGreat
open Go.RowKit
set_option linter.unusedVariables false


theorem dig_mod (n : Int) : (n.tmod 16 + 16).tmod 16 = n % 16 := by
  have h1 : -15 ≤ n.tmod 16 ∧ n.tmod 16 ≤ 15 := by
    rcases Int.le_total 0 n with h | h
    · rw [Int.tmod_eq_emod_of_nonneg h]; omega
    · obtain ⟨m, rfl⟩ : ∃ m, n = -m := ⟨-n, by omega⟩
      rw [Int.neg_tmod, Int.tmod_eq_emod_of_nonneg (by omega)]; omega
  rw [Int.tmod_eq_emod_of_nonneg (by omega)]
  rcases Int.le_total 0 n with h | h
  · rw [Int.tmod_eq_emod_of_nonneg h]; omega
  · obtain ⟨m, rfl⟩ : ∃ m, n = -m := ⟨-n, by omega⟩
    rw [Int.neg_tmod, Int.tmod_eq_emod_of_nonneg (by omega)]; omega

theorem dig_wrap (n : Int) : (wrap64 (n.tmod 16 + 16)).tmod 16 = n % 16 := by
  have h1 : -15 ≤ n.tmod 16 ∧ n.tmod 16 ≤ 15 := by
    rcases Int.le_total 0 n with h | h
    · rw [Int.tmod_eq_emod_of_nonneg h]; omega
    · obtain ⟨m, rfl⟩ : ∃ m, n = -m := ⟨-n, by omega⟩
      rw [Int.neg_tmod, Int.tmod_eq_emod_of_nonneg (by omega)]; omega
  have h2 : wrap64 (n.tmod 16 + 16) = n.tmod 16 + 16 := by unfold wrap64; omega
  rw [h2, dig_mod]
set_option maxHeartbeats 1000000 in
theorem digit_r (n : Int) (w : World) :
    Calls Tryz.prog 115 #[.int .i64 n] w fun e w' => e = .returned (.int .u8 (digI (n % 16))) ∧ w = w' := by
  have hm := dig_wrap n
  have hb : 0 ≤ n % 16 ∧ n % 16 ≤ 15 := by omega
  go_enter Tryz.func115, Tryz.ntmps115
  go_wp2
  all_goals (go_ret; exact ⟨ret_int (by unfold digI; split <;> omega), rfl⟩)
theorem digit_n (n : Int) (w : World) (h0 : 0 ≤ n) (h1 : n ≤ 15) :
    Calls Tryz.prog 115 #[.int .i64 n] w fun e w' => e = .returned (.int .u8 (digI n)) ∧ w = w' := by
  have := digit_r n w
  rwa [show n % 16 = n by omega] at this
set_option maxHeartbeats 1000000 in
theorem value_r (c : Int) (w : World) (h0 : 0 ≤ c) (h1 : c ≤ 255) :
    Calls Tryz.prog 94 #[.int .u8 c] w fun e w' => e = .returned (.tuple #[.int .i64 (hexV c), .bool (hexO c)]) ∧ w = w' := by
  go_enter Tryz.func94, Tryz.ntmps94
  go_wp2
  go_loop [4] (fun i => ∃ k : Nat, k ≤ 16 ∧ i = .int .i64 k ∧ Hid (∀ j : Nat, j < k → digM j c = false)) (fun i => 16 - (intOf i).toNat)
  case atStart => exact ⟨0, Nat.zero_le _, rfl, fun j hj => absurd hj (by omega)⟩
  case round =>
    obtain ⟨k, hk, rfl, hn⟩ := hrel
    by_cases hlt : k < 16
    · have hb := digI_bd k (by omega) (by omega)
      go_wp2_with (go_at_call 115; (with_reducible refine (digit_n _ _ (by omega) (by omega)).mono ?_); rintro e w' ⟨rfl, rfl⟩)
      · have hh := digM_hit k c (by omega) (by omega) (digM_a ‹_›)
        go_ret2
        exact ⟨ret_ib hh.1.symm hh.2.symm, rfl⟩
      · have hh := digM_hit k c (by omega) (by omega) (digM_b ‹_› ‹_›)
        go_ret2
        exact ⟨ret_ib hh.1.symm hh.2.symm, rfl⟩
      all_goals
        go_round
        case rel => exact ⟨k + 1, by omega, by go_num, digM_next hn.out (by first | exact digM_nb ‹_› | exact digM_na ‹_› ‹_›)⟩
        case measure => simp [intOf]; omega
    · go_wp2_with fail
      have := digM_none c (fun j hj => hn.out j (by omega))
      go_ret2
      exact ⟨ret_ib this.1.symm this.2.symm, rfl⟩

set_option maxHeartbeats 1000000 in
theorem take_r (a : Option Addr) (len cap : Nat) (xs : List Int) (k s : Int) (w : World) (hr : Reads .u8 w a len cap xs) (hk : (Lit.int .i64 k).wf = true) :
    Calls Tryz.prog 62 #[.slice a len cap, .int .i64 k, .int .u8 s] w fun e w' => e = .returned (.tuple #[.int .u8 (takeV xs k s), .bool (takeOk xs k s)]) ∧ w = w' := by
  have hl := hr.len_le
  have hs := hr.size
  have hw := wf_i64 hk
  clear hk
  by_cases h0 : 0 ≤ k
  · by_cases h1 : k ≤ (len : Int) - 3
    · obtain ⟨k, rfl⟩ := Int.eq_ofNat_of_zero_le h0
      obtain ⟨b, off, x0, rfl, _, c0, l0, u0, f0⟩ := hr.get8 (i := k) (by omega)
      obtain ⟨b', off', x1, hb, _, c1, l1, u1, f1⟩ := hr.get8 (i := k + 1) (by omega)
      cases hb
      obtain ⟨b', off', x2, hb, _, c2, l2, u2, f2⟩ := hr.get8 (i := k + 2) (by omega)
      cases hb
      have T := hid (take_at (s := s) f0.out.1 f1.out.1 f2.out.1)
      have b1 := hexV_bd x1
      have b2 := hexV_bd x2
      clear hr hs
      cases e0 : (x0 != s)
      · have e0' : (x0 == s) = true := by simpa using e0
        rw [e0'] at T
        cases e1 : hexO x1
        · rw [e1] at T
          go_enter Tryz.func62, Tryz.ntmps62
          go_wp2_with (go_at_call 94; (with_reducible refine (value_r _ _ (by assumption) (by assumption)).mono ?_); rintro e w' ⟨rfl, rfl⟩)
          go_ret2
          exact ⟨ret_ib (by rw [T.out.2]; rfl) (by rw [T.out.1]; rfl), rfl⟩
        · cases e2 : hexO x2
          · rw [e1, e2] at T
            go_enter Tryz.func62, Tryz.ntmps62
            go_wp2_with (go_at_call 94; (with_reducible refine (value_r _ _ (by assumption) (by assumption)).mono ?_); rintro e w' ⟨rfl, rfl⟩)
            go_ret2
            exact ⟨ret_ib (by rw [T.out.2]; rfl) (by rw [T.out.1]; rfl), rfl⟩
          · rw [e1, e2] at T
            go_enter Tryz.func62, Tryz.ntmps62
            go_wp2_with (go_at_call 94; (with_reducible refine (value_r _ _ (by assumption) (by assumption)).mono ?_); rintro e w' ⟨rfl, rfl⟩)
            go_ret2
            exact ⟨ret_ib (by rw [T.out.2]; rfl) (by rw [T.out.1]; rfl), rfl⟩
      · have e0' : (x0 == s) = false := by simpa using e0
        rw [e0'] at T
        go_enter Tryz.func62, Tryz.ntmps62
        go_wp2_with fail
        go_ret2
        exact ⟨ret_ib (by rw [T.out.2]; rfl) (by rw [T.out.1]; rfl), rfl⟩
    · have T := hid (take_out (s := s) (k := k) (xs := xs) (.inr (by rw [hs]; omega)))
      have h1' : (len : Int) - 3 < k := by omega
      clear hr hs h1
      go_enter Tryz.func62, Tryz.ntmps62
      go_wp2_with fail
      all_goals
        go_ret2
        exact ⟨ret_ib T.out.2.symm T.out.1.symm, rfl⟩
  · have T := hid (take_out (s := s) (k := k) (xs := xs) (.inl (by omega)))
    have h0' : k < 0 := by omega
    clear hr hs h0
    go_enter Tryz.func62, Tryz.ntmps62
    go_wp2_with fail
    all_goals
      go_ret2
      exact ⟨ret_ib T.out.2.symm T.out.1.symm, rfl⟩

theorem digit_hi (x : Int) (w : World) (h0 : 0 ≤ x) (h1 : x ≤ 255) :
    Calls Tryz.prog 115 #[.int .i64 (x / 16)] w fun e w' => e = .returned (.int .u8 (digI (x / 16))) ∧ w = w' := digit_n _ _ (by omega) (by omega)
theorem digit_lo (x : Int) (w : World) (h0 : 0 ≤ x) (h1 : x ≤ 255) :
    Calls Tryz.prog 115 #[.int .i64 (x % 16)] w fun e w' => e = .returned (.int .u8 (digI (x % 16))) ∧ w = w' := digit_n _ _ (by omega) (by omega)
/-- The walk's spellings of an octet's two digits. -/
theorem spell (x : Int) (h0 : 0 ≤ x) (h1 : x ≤ 255) : IntKind.i64.wrap x = x ∧ x.tdiv 16 = x / 16 ∧ x.tmod 16 = x % 16 ∧ IntKind.i64.wrap (x / 16) = x / 16 ∧ IntKind.i64.wrap (x % 16) = x % 16 :=
  ⟨IntWalk.i64_in _ (by omega), Int.tdiv_eq_ediv_of_nonneg h0, Int.tmod_eq_emod_of_nonneg h0, IntWalk.i64_in _ (by omega), IntWalk.i64_in _ (by omega)⟩

set_option maxHeartbeats 1000000 in
theorem put_r (a : Option Addr) (len cap : Nat) (xs : List Int) (s c : Int) (w : World) (hr : Reads .u8 w a len cap xs) (hN : len < 1000000000) (h0 : 0 ≤ c) (h1 : c ≤ 255) (hs : (Lit.int .u8 s).wf = true) :
    Calls Tryz.prog 103 #[.slice a len cap, .int .u8 s, .int .u8 c] w fun e w' => ∃ a' len' cap', e = .returned (.slice a' len' cap') ∧ Reads .u8 w' a' len' cap' (escI xs s c) ∧ Below w.heap.size w w' := by
  have HR := hid hr
  have hsz := hr.size
  clear hr
  have hwf := hid (dig3_wf s c hs h0 h1)
  have he : Hid (xs ++ [s, digI (c / 16), digI (c % 16)] = escI xs s c) := hid rfl
  go_enter Tryz.func103, Tryz.ntmps103
  go_wp2_with (first
    | (go_at_call 115; (with_reducible refine (digit_n _ _ (by omega) (by omega)).mono ?_); rintro e w' ⟨rfl, rfl⟩)
    | (at_builtin; (refine wpList_pushs ST8 [s, digI (c / 16), digI (c % 16)] rfl _ _ rfl rfl ⟨_, rfl⟩ ho2 hb2 (by simp; omega) hwf.out ?_); intro v3 w3 ho3 hb3)
    | (at_builtin; go_must (refine wpList_more ST8 rfl _ _ rfl rfl rfl (Own.nil _ _ _ _) (Below.refl _ _) HR.out (by simp; omega) ?_); intro v2 w2 ho2 hb2))
  obtain ⟨a', len', cap', rfl, hrd⟩ := ho3.back
  go_ret
  exact ⟨a', len', cap', rfl, by simpa [escI] using hrd, hb3⟩

end Go.Proofs.YtdglnpkkfkagaaaGreat
