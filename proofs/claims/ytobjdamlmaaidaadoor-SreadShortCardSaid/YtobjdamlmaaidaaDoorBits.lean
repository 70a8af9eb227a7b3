/-
  Operations on bits as arithmetic, of numbers that are not negative; they speak of no program.
-/
import Derived.Test.YtobjdamlmaaidaaDoorBase
import Derived.IntWalk
import Derived.Laws.BitsAllLaws
namespace Go.Proofs.YtobjdamlmaaidaaDoor
open Go.RowKit
set_option linter.unusedVariables false

theorem ofInt_nn (n : Nat) (a : Int) (h0 : 0 ≤ a) (h1 : a < 2 ^ n) : (BitVec.ofInt n a).toNat = a.toNat := by
  rw [BitVec.toNat_ofInt]
  have : ((2 ^ n : Nat) : Int) = 2 ^ n := by simp
  rw [this, Int.emod_eq_of_lt h0 h1]
theorem join_nn (j : Nat) (a b : Int) (h0 : 0 ≤ a) (hj : a % 2 ^ j = 0) (h1 : 0 ≤ b) (h2 : b < 2 ^ j) : ((a.toNat ||| b.toNat : Nat) : Int) = a + b := by
  obtain ⟨A, rfl⟩ := Int.eq_ofNat_of_zero_le h0
  obtain ⟨B, rfl⟩ := Int.eq_ofNat_of_zero_le h1
  have e : ((2 ^ j : Nat) : Int) = 2 ^ j := by simp
  rw [← e] at hj h2
  rw [Int.toNat_natCast, Int.toNat_natCast, nat_join j A B (by omega) (by omega)]; simp
theorem mask_nn (j : Nat) (a : Int) (h0 : 0 ≤ a) : ((a.toNat &&& (2 ^ j - 1) : Nat) : Int) = a % 2 ^ j := by
  obtain ⟨A, rfl⟩ := Int.eq_ofNat_of_zero_le h0
  rw [Int.toNat_natCast, Nat.and_two_pow_sub_one_eq_mod]
  simp

theorem or_u8 (j : Nat) (a b : Int) (h0 : 0 ≤ a) (hj : a % 2 ^ j = 0) (h1 : 0 ≤ b) (h2 : b < 2 ^ j) (h3 : a + b ≤ 255) : bits .or .u8 a b = a + b := by
  show IntKind.u8.wrap ((BitVec.ofInt 8 a ||| BitVec.ofInt 8 b).toNat : Int) = _
  rw [BitVec.toNat_or, ofInt_nn 8 a h0 (by omega), ofInt_nn 8 b h1 (by omega), join_nn j a b h0 hj h1 h2, IntWalk.u8_in _ (by omega)]
theorem or_u32 (j : Nat) (a b : Int) (h0 : 0 ≤ a) (hj : a % 2 ^ j = 0) (h1 : 0 ≤ b) (h2 : b < 2 ^ j) (h3 : a + b ≤ 4294967295) : bits .or .u32 a b = a + b := by
  show IntKind.u32.wrap ((BitVec.ofInt 32 a ||| BitVec.ofInt 32 b).toNat : Int) = _
  rw [BitVec.toNat_or, ofInt_nn 32 a h0 (by omega), ofInt_nn 32 b h1 (by omega), join_nn j a b h0 hj h1 h2, IntWalk.u32_in _ (by omega)]
theorem or_u16 (j : Nat) (a b : Int) (h0 : 0 ≤ a) (hj : a % 2 ^ j = 0) (h1 : 0 ≤ b) (h2 : b < 2 ^ j) (h3 : a + b ≤ 65535) : bits .or .u16 a b = a + b := by
  show IntKind.u16.wrap ((BitVec.ofInt 16 a ||| BitVec.ofInt 16 b).toNat : Int) = _
  rw [BitVec.toNat_or, ofInt_nn 16 a h0 (by omega), ofInt_nn 16 b h1 (by omega), join_nn j a b h0 hj h1 h2, IntWalk.u16_in _ (by omega)]
theorem or_i32 (j : Nat) (a b : Int) (h0 : 0 ≤ a) (hj : a % 2 ^ j = 0) (h1 : 0 ≤ b) (h2 : b < 2 ^ j) (h3 : a + b ≤ 2147483647) : bits .or .i32 a b = a + b := by
  show IntKind.i32.wrap ((BitVec.ofInt 32 a ||| BitVec.ofInt 32 b).toNat : Int) = _
  rw [BitVec.toNat_or, ofInt_nn 32 a h0 (by omega), ofInt_nn 32 b h1 (by omega), join_nn j a b h0 hj h1 h2, IntWalk.i32_in _ (by omega)]
theorem or_i64 (j : Nat) (a b : Int) (h0 : 0 ≤ a) (hj : a % 2 ^ j = 0) (h1 : 0 ≤ b) (h2 : b < 2 ^ j) (h3 : a + b ≤ 9223372036854775807) : bits .or .i64 a b = a + b := by
  show IntKind.i64.wrap ((BitVec.ofInt 64 a ||| BitVec.ofInt 64 b).toNat : Int) = _
  rw [BitVec.toNat_or, ofInt_nn 64 a h0 (by omega), ofInt_nn 64 b h1 (by omega), join_nn j a b h0 hj h1 h2, IntWalk.i64_in _ (by omega)]

theorem emod_le_self (a p : Int) (h0 : 0 ≤ a) (hp : 0 < p) : a % p ≤ a := by
  obtain ⟨A, rfl⟩ := Int.eq_ofNat_of_zero_le h0
  obtain ⟨P, rfl⟩ := Int.eq_ofNat_of_zero_le (Int.le_of_lt hp)
  exact_mod_cast Nat.mod_le A P
/-- The lowest j bits: m = 2 ^ j - 1. -/
theorem and_u8 (j : Nat) (a m : Int) (hm : m = 2 ^ j - 1) (hj : m ≤ 255) (h0 : 0 ≤ a) (h1 : a ≤ 255) : bits .and .u8 a m = a % 2 ^ j := by
  have hp : (0 : Int) < 2 ^ j := Int.pow_pos (by decide)
  have e : m.toNat = 2 ^ j - 1 := by rw [hm, show ((2 : Int) ^ j) = ((2 ^ j : Nat) : Int) by simp]; have := Nat.two_pow_pos j; omega
  show IntKind.u8.wrap ((BitVec.ofInt 8 a &&& BitVec.ofInt 8 m).toNat : Int) = _
  rw [BitVec.toNat_and, ofInt_nn 8 a h0 (by omega), ofInt_nn 8 m (by omega) (by omega), e, mask_nn j a h0]
  have h2 := Int.emod_nonneg a (show (2 : Int) ^ j ≠ 0 by omega)
  have h3 := emod_le_self a (2 ^ j) h0 hp
  exact IntWalk.u8_in _ (by omega)
/-- The lowest j bits: m = 2 ^ j - 1. -/
theorem and_u16 (j : Nat) (a m : Int) (hm : m = 2 ^ j - 1) (hj : m ≤ 65535) (h0 : 0 ≤ a) (h1 : a ≤ 65535) : bits .and .u16 a m = a % 2 ^ j := by
  have hp : (0 : Int) < 2 ^ j := Int.pow_pos (by decide)
  have e : m.toNat = 2 ^ j - 1 := by rw [hm, show ((2 : Int) ^ j) = ((2 ^ j : Nat) : Int) by simp]; have := Nat.two_pow_pos j; omega
  show IntKind.u16.wrap ((BitVec.ofInt 16 a &&& BitVec.ofInt 16 m).toNat : Int) = _
  rw [BitVec.toNat_and, ofInt_nn 16 a h0 (by omega), ofInt_nn 16 m (by omega) (by omega), e, mask_nn j a h0]
  have h2 := Int.emod_nonneg a (show (2 : Int) ^ j ≠ 0 by omega)
  have h3 := emod_le_self a (2 ^ j) h0 hp
  exact IntWalk.u16_in _ (by omega)
/-- The lowest j bits: m = 2 ^ j - 1. -/
theorem and_u32 (j : Nat) (a m : Int) (hm : m = 2 ^ j - 1) (hj : m ≤ 4294967295) (h0 : 0 ≤ a) (h1 : a ≤ 4294967295) : bits .and .u32 a m = a % 2 ^ j := by
  have hp : (0 : Int) < 2 ^ j := Int.pow_pos (by decide)
  have e : m.toNat = 2 ^ j - 1 := by rw [hm, show ((2 : Int) ^ j) = ((2 ^ j : Nat) : Int) by simp]; have := Nat.two_pow_pos j; omega
  show IntKind.u32.wrap ((BitVec.ofInt 32 a &&& BitVec.ofInt 32 m).toNat : Int) = _
  rw [BitVec.toNat_and, ofInt_nn 32 a h0 (by omega), ofInt_nn 32 m (by omega) (by omega), e, mask_nn j a h0]
  have h2 := Int.emod_nonneg a (show (2 : Int) ^ j ≠ 0 by omega)
  have h3 := emod_le_self a (2 ^ j) h0 hp
  exact IntWalk.u32_in _ (by omega)
/-- The lowest j bits: m = 2 ^ j - 1. -/
theorem and_i32 (j : Nat) (a m : Int) (hm : m = 2 ^ j - 1) (hj : m ≤ 2147483647) (h0 : 0 ≤ a) (h1 : a ≤ 2147483647) : bits .and .i32 a m = a % 2 ^ j := by
  have hp : (0 : Int) < 2 ^ j := Int.pow_pos (by decide)
  have e : m.toNat = 2 ^ j - 1 := by rw [hm, show ((2 : Int) ^ j) = ((2 ^ j : Nat) : Int) by simp]; have := Nat.two_pow_pos j; omega
  show IntKind.i32.wrap ((BitVec.ofInt 32 a &&& BitVec.ofInt 32 m).toNat : Int) = _
  rw [BitVec.toNat_and, ofInt_nn 32 a h0 (by omega), ofInt_nn 32 m (by omega) (by omega), e, mask_nn j a h0]
  have h2 := Int.emod_nonneg a (show (2 : Int) ^ j ≠ 0 by omega)
  have h3 := emod_le_self a (2 ^ j) h0 hp
  exact IntWalk.i32_in _ (by omega)
/-- The lowest j bits: m = 2 ^ j - 1. -/
theorem and_i64 (j : Nat) (a m : Int) (hm : m = 2 ^ j - 1) (hj : m ≤ 9223372036854775807) (h0 : 0 ≤ a) (h1 : a ≤ 9223372036854775807) : bits .and .i64 a m = a % 2 ^ j := by
  have hp : (0 : Int) < 2 ^ j := Int.pow_pos (by decide)
  have e : m.toNat = 2 ^ j - 1 := by rw [hm, show ((2 : Int) ^ j) = ((2 ^ j : Nat) : Int) by simp]; have := Nat.two_pow_pos j; omega
  show IntKind.i64.wrap ((BitVec.ofInt 64 a &&& BitVec.ofInt 64 m).toNat : Int) = _
  rw [BitVec.toNat_and, ofInt_nn 64 a h0 (by omega), ofInt_nn 64 m (by omega) (by omega), e, mask_nn j a h0]
  have h2 := Int.emod_nonneg a (show (2 : Int) ^ j ≠ 0 by omega)
  have h3 := emod_le_self a (2 ^ j) h0 hp
  exact IntWalk.i64_in _ (by omega)

/-! ### 'and not' with the lowest j bits: they are cleared -/
theorem clear_nat (n j A : Nat) (hj : j ≤ n) (hA : A < 2 ^ n) : A &&& (2 ^ n - 1 - (2 ^ j - 1)) = 2 ^ j * (A / 2 ^ j) := by
  have e : 2 ^ n - 1 - (2 ^ j - 1) = 2 ^ j * (2 ^ (n - j) - 1) := by
    have h1 : 2 ^ n = 2 ^ j * 2 ^ (n - j) := by rw [← Nat.pow_add]; congr 1; omega
    have h2 := Nat.two_pow_pos j
    have h3 := Nat.two_pow_pos (n - j)
    rw [Nat.mul_sub, h1, Nat.mul_one]
    omega
  rw [e]
  apply Nat.eq_of_testBit_eq
  intro i
  rw [Nat.testBit_and, Nat.testBit_two_pow_mul, Nat.testBit_two_pow_mul, Nat.testBit_two_pow_sub_one, Nat.testBit_div_two_pow]
  by_cases h1 : j ≤ i
  · rw [show i - j + j = i by omega]
    by_cases h2 : i < n
    · simp [h1, show i - j < n - j by omega]
    · have : A.testBit i = false := Nat.testBit_lt_two_pow (Nat.lt_of_lt_of_le hA (Nat.pow_le_pow_right (by decide) (by omega)))
      simp [this]
  · simp [h1]
theorem clear_u16 (j : Nat) (a m : Int) (hj : j ≤ 16) (hm : m = 2 ^ j - 1) (h0 : 0 ≤ a) (h1 : a ≤ 65535) : bits .andNot .u16 a m = 2 ^ j * (a / 2 ^ j) := by
  have hp : (0 : Int) < 2 ^ j := Int.pow_pos (by decide)
  have hpn := Nat.two_pow_pos j
  have hp16 : 2 ^ j ≤ 2 ^ 16 := Nat.pow_le_pow_right (by decide) hj
  have e0 : ((2 : Int) ^ j) = ((2 ^ j : Nat) : Int) := by simp
  have e : m.toNat = 2 ^ j - 1 := by rw [hm, e0]; omega
  obtain ⟨A, rfl⟩ := Int.eq_ofNat_of_zero_le h0
  show IntKind.u16.wrap ((BitVec.ofInt 16 (A : Int) &&& ~~~ BitVec.ofInt 16 m).toNat : Int) = _
  rw [BitVec.toNat_and, BitVec.toNat_not, ofInt_nn 16 A h0 (by omega), ofInt_nn 16 m (by omega) (by rw [hm, e0]; omega), e, Int.toNat_natCast, clear_nat 16 j A hj (by omega)]
  have h2 := Nat.mul_div_le A (2 ^ j)
  rw [IntWalk.u16_in _ (by omega), e0]
  simp
end Go.Proofs.YtobjdamlmaaidaaDoor
