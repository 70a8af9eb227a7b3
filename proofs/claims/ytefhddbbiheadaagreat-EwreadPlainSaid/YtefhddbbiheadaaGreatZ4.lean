/-
  Texts of ours laid together: D10, D12, Bits.
-/
import Derived.IntWalk
import Derived.Laws.BitsAllLaws
import Derived.Test.YtefhddbbiheadaaGreatZ3

/-! D10 -/
namespace Go.Proofs.YtefhddbbiheadaaGreat
open Go.RowKit
set_option linter.unusedVariables false

def tab10 : List Int := [8364, 65533, 8218, 402, 8222, 8230, 8224, 8225, 710, 8240, 352, 8249, 338, 65533, 381, 65533, 65533, 8216, 8217, 8220, 8221, 8226, 8211, 8212, 732, 8482, 353, 8250, 339, 65533, 382, 376]
def sg10 (x : Int) : Int := if x < 128 ∨ 159 < x then x else tab10.getD (x - 128).toNat 0
theorem tab10_bd : ∀ n : Fin 32, 0 ≤ tab10.getD n.val 0 ∧ tab10.getD n.val 0 ≤ 65533 := by decide
theorem sg10_bd (x : Int) (h0 : 0 ≤ x) (h1 : x ≤ 255) : 0 ≤ sg10 x ∧ sg10 x ≤ 65533 := by
  unfold sg10
  split
  · omega
  · exact tab10_bd ⟨(x - 128).toNat, by omega⟩
theorem sg10_wf (x : Int) (h0 : 0 ≤ x) (h1 : x ≤ 255) : (Lit.int .i32 (sg10 x)).wf = true := mk_r (by have := sg10_bd x h0 h1; omega) (by have := sg10_bd x h0 h1; omega)
set_option maxRecDepth 100000 in
theorem once10 : Once sg10 := by
  have h : ∀ n : Fin 256, sg10 (n.val : Int) = 65533 ∨ putN sg10 (sg10 (n.val : Int)) = some n.val := by decide +kernel
  intro n hn h5
  exact (h ⟨n, hn⟩).resolve_left h5

end Go.Proofs.YtefhddbbiheadaaGreat

/-! D12 -/
namespace Go.Proofs.YtefhddbbiheadaaGreat
open Go.RowKit
set_option linter.unusedVariables false

/-- Has the charset n the sign c? -/
def hasR (n c : Int) : Bool := if n = 1 then decide (0 ≤ c ∧ c < 128) else if n = 2 then hasI sg08 c else if n = 3 then hasI sg09 c else if n = 4 then hasI sg10 c else if n = 5 then scB c else false
def allR (n : Int) (xs : List Int) : Bool := decide (1 ≤ n ∧ n ≤ 5) && xs.all (hasR n)
def lackR (n : Int) (xs : List Int) : Int := idxI (fun c => !hasR n c) xs
def selN (xs : List Int) : Int := first1 (fun n => xs.all (hasR n)) 5
def selE (xs : List Int) : Int := if selN xs = 0 then 7 else 0
/-- The sum of 1 shifted left by the number of each charset up to k. -/
def setN (c : Int) : Nat → Int
  | 0 => 0
  | k + 1 => setN c k + if hasR ((k : Int) + 1) c = true then 2 ^ (k + 1) else 0
def sizN (n : Int) : Nat → Nat
  | 0 => 0
  | k + 1 => sizN n k + if hasR n (k : Int) = true then 1 else 0
def sizeI (n : Int) : Int := if n = 1 then 128 else if n = 2 then 256 else if n = 3 then 256 else if n = 4 then 251 else if n = 5 then 1112064 else 0

theorem hasR_none {n : Int} (h : ¬ (1 ≤ n ∧ n ≤ 5)) (c : Int) : hasR n c = false := by
  unfold hasR
  rw [if_neg (by omega), if_neg (by omega), if_neg (by omega), if_neg (by omega), if_neg (by omega)]
theorem sizN_le (n : Int) (k : Nat) : sizN n k ≤ k := by
  induction k with
  | zero => exact Nat.le_refl _
  | succ k ih => unfold sizN; split <;> omega
theorem sizN_len (n : Int) (k : Nat) : sizN n k = ((List.range k).filter (fun j : Nat => hasR n (j : Int))).length := by
  induction k with
  | zero => rfl
  | succ k ih =>
    unfold sizN
    rw [List.range_succ, List.filter_append, List.length_append, ih]
    cases hh : hasR n (k : Int) <;> simp [hh]
/-- As many signs as octets that have one. -/
theorem siz_sg {sg : Int → Int} (ho : Once sg) {M : Nat} (hs : ∀ n : Nat, n < 256 → sg n = 65533 ∨ (0 ≤ sg n ∧ sg n < M)) :
    ((List.range M).filter (fun j : Nat => hasI sg (j : Int))).length = ((List.range 256).filter (fun n : Nat => decide (sg (n : Int) ≠ 65533))).length := by
  have hp : ((List.range M).filter (fun j : Nat => hasI sg (j : Int))).Perm (((List.range 256).filter (fun n : Nat => decide (sg (n : Int) ≠ 65533))).map (fun n : Nat => (sg (n : Int)).toNat)) := by
    refine (List.perm_ext_iff_of_nodup (List.nodup_range.filter _) ?_).2 fun j => ?_
    · rw [List.nodup_iff_pairwise_ne, List.pairwise_map]
      refine List.Pairwise.imp_of_mem ?_ (List.nodup_iff_pairwise_ne.1 (List.nodup_range.filter _))
      intro a b ha hb hne he
      simp only [List.mem_filter, List.mem_range, decide_eq_true_eq] at ha hb
      have h1 := hs a ha.1
      have h2 := hs b hb.1
      have e : sg (a : Int) = sg (b : Int) := by omega
      have e1 := ho a ha.1 ha.2
      have e2 := ho b hb.1 hb.2
      rw [e, e2] at e1
      exact hne (Option.some.inj e1).symm
    · simp only [List.mem_filter, List.mem_range, List.mem_map, decide_eq_true_eq]
      constructor
      · rintro ⟨hj, hh⟩
        unfold hasI at hh
        obtain ⟨n, hn⟩ := Option.isSome_iff_exists.1 hh
        obtain ⟨h1, h2, h3⟩ := put_some hn
        exact ⟨n, ⟨h1, by rw [h2]; exact h3⟩, by rw [h2]; omega⟩
      · rintro ⟨n, ⟨h1, h2⟩, rfl⟩
        have h3 := (hs n h1).resolve_left h2
        refine ⟨by omega, ?_⟩
        rw [Int.toNat_of_nonneg h3.1]
        unfold hasI
        rw [ho n h1 h2]
        rfl
  rw [hp.length_eq, List.length_map]
set_option maxRecDepth 100000 in
theorem sg_small : ∀ n : Fin 256, (0 ≤ sg08 (n.val : Int) ∧ sg08 (n.val : Int) < 8704) ∧ (0 ≤ sg09 (n.val : Int) ∧ sg09 (n.val : Int) < 8704) ∧ (sg10 (n.val : Int) = 65533 ∨ (0 ≤ sg10 (n.val : Int) ∧ sg10 (n.val : Int) < 8704)) := by decide +kernel
theorem sizN_ascii (k : Nat) (h : 128 ≤ k) : sizN 1 k = 128 := by
  have low : ∀ k : Nat, k ≤ 128 → sizN 1 k = k := by
    intro k
    induction k with
    | zero => intro _; rfl
    | succ k ih =>
      intro hk
      unfold sizN
      rw [ih (by omega), if_pos (by unfold hasR; rw [if_pos rfl]; exact decide_eq_true (by omega))]
  induction k with
  | zero => omega
  | succ k ih =>
    by_cases hk : 128 ≤ k
    · unfold sizN
      rw [ih hk, if_neg (by unfold hasR; rw [if_pos rfl]; simp; omega)]
    · rw [low (k + 1) (by omega)]; omega
theorem sizN_none {n : Int} (h : ¬ (1 ≤ n ∧ n ≤ 5)) (k : Nat) : sizN n k = 0 := by
  induction k with
  | zero => rfl
  | succ k ih => unfold sizN; rw [ih, hasR_none h]; rfl
theorem hasR_2 : hasR 2 = hasI sg08 := by funext c; rfl
theorem hasR_3 : hasR 3 = hasI sg09 := by funext c; rfl
theorem hasR_4 : hasR 4 = hasI sg10 := by funext c; rfl
theorem siz_all {n : Int} (h : n ≠ 5) : (sizN n 8704 : Int) = sizeI n := by
  unfold sizeI
  by_cases h1 : n = 1
  · subst h1; rw [sizN_ascii _ (by omega), if_pos rfl]; rfl
  rw [if_neg h1]
  by_cases h2 : n = 2
  · subst h2
    rw [if_pos rfl, sizN_len, hasR_2, siz_sg once08 fun n hn => .inr (sg_small ⟨n, hn⟩).1]
    decide +kernel
  rw [if_neg h2]
  by_cases h3 : n = 3
  · subst h3
    rw [if_pos rfl, sizN_len, hasR_3, siz_sg once09 fun n hn => .inr (sg_small ⟨n, hn⟩).2.1]
    decide +kernel
  rw [if_neg h3]
  by_cases h4 : n = 4
  · subst h4
    rw [if_pos rfl, sizN_len, hasR_4, siz_sg once10 fun n hn => (sg_small ⟨n, hn⟩).2.2]
    decide +kernel
  rw [if_neg h4, if_neg h, sizN_none (by omega)]
  rfl
theorem set_bd (c : Int) : ∀ k : Nat, k ≤ 5 → 0 ≤ setN c k ∧ setN c k ≤ 62 := by
  have h : ∀ k : Nat, 0 ≤ setN c k ∧ setN c k ≤ 2 ^ (k + 1) - 2 := by
    intro k
    induction k with
    | zero => exact ⟨Int.le_refl _, by simp [setN]⟩
    | succ k ih =>
      unfold setN
      have e : (2 : Int) ^ (k + 1 + 1) = 2 * 2 ^ (k + 1) := by rw [Int.pow_succ]; omega
      have p : (0 : Int) < 2 ^ (k + 1) := Int.pow_pos (by decide)
      split <;> omega
  intro k hk
  have h0 := h k
  have : k = 0 ∨ k = 1 ∨ k = 2 ∨ k = 3 ∨ k = 4 ∨ k = 5 := by omega
  rcases this with rfl | rfl | rfl | rfl | rfl | rfl <;> (simp at h0 ⊢; omega)
/-- What the sufficient charset is (P12.3). -/
theorem sel_hit {xs : List Int} {k : Nat} (hk : k < 5) (hb : xs.all (hasR ((k : Int) + 1)) = true) (hn : ∀ j : Nat, j < k → xs.all (hasR ((j : Int) + 1)) = false) : selN xs = (k : Int) + 1 ∧ selE xs = 0 := by
  have h : selN xs = (k : Int) + 1 := first1_hit hk hb hn
  refine ⟨h, ?_⟩
  unfold selE
  rw [h, if_neg (by omega)]
theorem sel_no {xs : List Int} (hn : ∀ j : Nat, j < 5 → xs.all (hasR ((j : Int) + 1)) = false) : selN xs = 0 ∧ selE xs = 7 := by
  have h : selN xs = 0 := first1_no hn
  refine ⟨h, ?_⟩
  unfold selE
  rw [h, if_pos rfl]
end Go.Proofs.YtefhddbbiheadaaGreat

/-! Bits -/
namespace Go.Proofs.YtefhddbbiheadaaGreat
open Go.RowKit
set_option linter.unusedVariables false

theorem ofInt_nn (n : Nat) (a : Int) (h0 : 0 ≤ a) (h1 : a < 2 ^ n) : (BitVec.ofInt n a).toNat = a.toNat := by
  rw [BitVec.toNat_ofInt]
  have : ((2 ^ n : Nat) : Int) = 2 ^ n := by simp
  rw [this, Int.emod_eq_of_lt h0 h1]
theorem join_nn (j : Nat) (a b : Int) (h0 : 0 ≤ a) (hj : a % 2 ^ j = 0) (h1 : 0 ≤ b) (h2 : b < 2 ^ j) : ((a.toNat ||| b.toNat : Nat) : Int) = a + b := by
  obtain ⟨A, rfl⟩ := Int.eq_ofNat_of_zero_le h0
  obtain ⟨B, rfl⟩ := Int.eq_ofNat_of_zero_le h1
  have e : ((2 ^ j : Nat) : Int) = 2 ^ j := by simp
  rw [← e] at hj h2
  rw [Int.toNat_natCast, Int.toNat_natCast, nat_join j A B (by omega) (by omega)]; simp
theorem mask_nn (j : Nat) (a : Int) (h0 : 0 ≤ a) : ((a.toNat &&& (2 ^ j - 1) : Nat) : Int) = a % 2 ^ j := by
  obtain ⟨A, rfl⟩ := Int.eq_ofNat_of_zero_le h0
  rw [Int.toNat_natCast, Nat.and_two_pow_sub_one_eq_mod]
  simp

theorem or_u8 (j : Nat) (a b : Int) (h0 : 0 ≤ a) (hj : a % 2 ^ j = 0) (h1 : 0 ≤ b) (h2 : b < 2 ^ j) (h3 : a + b ≤ 255) : bits .or .u8 a b = a + b := by
  show IntKind.u8.wrap ((BitVec.ofInt 8 a ||| BitVec.ofInt 8 b).toNat : Int) = _
  rw [BitVec.toNat_or, ofInt_nn 8 a h0 (by omega), ofInt_nn 8 b h1 (by omega), join_nn j a b h0 hj h1 h2, IntWalk.u8_in _ (by omega)]
theorem or_u32 (j : Nat) (a b : Int) (h0 : 0 ≤ a) (hj : a % 2 ^ j = 0) (h1 : 0 ≤ b) (h2 : b < 2 ^ j) (h3 : a + b ≤ 4294967295) : bits .or .u32 a b = a + b := by
  show IntKind.u32.wrap ((BitVec.ofInt 32 a ||| BitVec.ofInt 32 b).toNat : Int) = _
  rw [BitVec.toNat_or, ofInt_nn 32 a h0 (by omega), ofInt_nn 32 b h1 (by omega), join_nn j a b h0 hj h1 h2, IntWalk.u32_in _ (by omega)]
theorem or_u16 (j : Nat) (a b : Int) (h0 : 0 ≤ a) (hj : a % 2 ^ j = 0) (h1 : 0 ≤ b) (h2 : b < 2 ^ j) (h3 : a + b ≤ 65535) : bits .or .u16 a b = a + b := by
  show IntKind.u16.wrap ((BitVec.ofInt 16 a ||| BitVec.ofInt 16 b).toNat : Int) = _
  rw [BitVec.toNat_or, ofInt_nn 16 a h0 (by omega), ofInt_nn 16 b h1 (by omega), join_nn j a b h0 hj h1 h2, IntWalk.u16_in _ (by omega)]
theorem or_i32 (j : Nat) (a b : Int) (h0 : 0 ≤ a) (hj : a % 2 ^ j = 0) (h1 : 0 ≤ b) (h2 : b < 2 ^ j) (h3 : a + b ≤ 2147483647) : bits .or .i32 a b = a + b := by
  show IntKind.i32.wrap ((BitVec.ofInt 32 a ||| BitVec.ofInt 32 b).toNat : Int) = _
  rw [BitVec.toNat_or, ofInt_nn 32 a h0 (by omega), ofInt_nn 32 b h1 (by omega), join_nn j a b h0 hj h1 h2, IntWalk.i32_in _ (by omega)]
theorem or_i64 (j : Nat) (a b : Int) (h0 : 0 ≤ a) (hj : a % 2 ^ j = 0) (h1 : 0 ≤ b) (h2 : b < 2 ^ j) (h3 : a + b ≤ 9223372036854775807) : bits .or .i64 a b = a + b := by
  show IntKind.i64.wrap ((BitVec.ofInt 64 a ||| BitVec.ofInt 64 b).toNat : Int) = _
  rw [BitVec.toNat_or, ofInt_nn 64 a h0 (by omega), ofInt_nn 64 b h1 (by omega), join_nn j a b h0 hj h1 h2, IntWalk.i64_in _ (by omega)]

theorem emod_le_self (a p : Int) (h0 : 0 ≤ a) (hp : 0 < p) : a % p ≤ a := by
  obtain ⟨A, rfl⟩ := Int.eq_ofNat_of_zero_le h0
  obtain ⟨P, rfl⟩ := Int.eq_ofNat_of_zero_le (Int.le_of_lt hp)
  exact_mod_cast Nat.mod_le A P
/-- The lowest j bits: m = 2 ^ j - 1. -/
theorem and_u8 (j : Nat) (a m : Int) (hm : m = 2 ^ j - 1) (hj : m ≤ 255) (h0 : 0 ≤ a) (h1 : a ≤ 255) : bits .and .u8 a m = a % 2 ^ j := by
  have hp : (0 : Int) < 2 ^ j := Int.pow_pos (by decide)
  have e : m.toNat = 2 ^ j - 1 := by rw [hm, show ((2 : Int) ^ j) = ((2 ^ j : Nat) : Int) by simp]; have := Nat.two_pow_pos j; omega
  show IntKind.u8.wrap ((BitVec.ofInt 8 a &&& BitVec.ofInt 8 m).toNat : Int) = _
  rw [BitVec.toNat_and, ofInt_nn 8 a h0 (by omega), ofInt_nn 8 m (by omega) (by omega), e, mask_nn j a h0]
  have h2 := Int.emod_nonneg a (show (2 : Int) ^ j ≠ 0 by omega)
  have h3 := emod_le_self a (2 ^ j) h0 hp
  exact IntWalk.u8_in _ (by omega)
/-- The lowest j bits: m = 2 ^ j - 1. -/
theorem and_u16 (j : Nat) (a m : Int) (hm : m = 2 ^ j - 1) (hj : m ≤ 65535) (h0 : 0 ≤ a) (h1 : a ≤ 65535) : bits .and .u16 a m = a % 2 ^ j := by
  have hp : (0 : Int) < 2 ^ j := Int.pow_pos (by decide)
  have e : m.toNat = 2 ^ j - 1 := by rw [hm, show ((2 : Int) ^ j) = ((2 ^ j : Nat) : Int) by simp]; have := Nat.two_pow_pos j; omega
  show IntKind.u16.wrap ((BitVec.ofInt 16 a &&& BitVec.ofInt 16 m).toNat : Int) = _
  rw [BitVec.toNat_and, ofInt_nn 16 a h0 (by omega), ofInt_nn 16 m (by omega) (by omega), e, mask_nn j a h0]
  have h2 := Int.emod_nonneg a (show (2 : Int) ^ j ≠ 0 by omega)
  have h3 := emod_le_self a (2 ^ j) h0 hp
  exact IntWalk.u16_in _ (by omega)
/-- The lowest j bits: m = 2 ^ j - 1. -/
theorem and_u32 (j : Nat) (a m : Int) (hm : m = 2 ^ j - 1) (hj : m ≤ 4294967295) (h0 : 0 ≤ a) (h1 : a ≤ 4294967295) : bits .and .u32 a m = a % 2 ^ j := by
  have hp : (0 : Int) < 2 ^ j := Int.pow_pos (by decide)
  have e : m.toNat = 2 ^ j - 1 := by rw [hm, show ((2 : Int) ^ j) = ((2 ^ j : Nat) : Int) by simp]; have := Nat.two_pow_pos j; omega
  show IntKind.u32.wrap ((BitVec.ofInt 32 a &&& BitVec.ofInt 32 m).toNat : Int) = _
  rw [BitVec.toNat_and, ofInt_nn 32 a h0 (by omega), ofInt_nn 32 m (by omega) (by omega), e, mask_nn j a h0]
  have h2 := Int.emod_nonneg a (show (2 : Int) ^ j ≠ 0 by omega)
  have h3 := emod_le_self a (2 ^ j) h0 hp
  exact IntWalk.u32_in _ (by omega)
/-- The lowest j bits: m = 2 ^ j - 1. -/
theorem and_i32 (j : Nat) (a m : Int) (hm : m = 2 ^ j - 1) (hj : m ≤ 2147483647) (h0 : 0 ≤ a) (h1 : a ≤ 2147483647) : bits .and .i32 a m = a % 2 ^ j := by
  have hp : (0 : Int) < 2 ^ j := Int.pow_pos (by decide)
  have e : m.toNat = 2 ^ j - 1 := by rw [hm, show ((2 : Int) ^ j) = ((2 ^ j : Nat) : Int) by simp]; have := Nat.two_pow_pos j; omega
  show IntKind.i32.wrap ((BitVec.ofInt 32 a &&& BitVec.ofInt 32 m).toNat : Int) = _
  rw [BitVec.toNat_and, ofInt_nn 32 a h0 (by omega), ofInt_nn 32 m (by omega) (by omega), e, mask_nn j a h0]
  have h2 := Int.emod_nonneg a (show (2 : Int) ^ j ≠ 0 by omega)
  have h3 := emod_le_self a (2 ^ j) h0 hp
  exact IntWalk.i32_in _ (by omega)
/-- The lowest j bits: m = 2 ^ j - 1. -/
theorem and_i64 (j : Nat) (a m : Int) (hm : m = 2 ^ j - 1) (hj : m ≤ 9223372036854775807) (h0 : 0 ≤ a) (h1 : a ≤ 9223372036854775807) : bits .and .i64 a m = a % 2 ^ j := by
  have hp : (0 : Int) < 2 ^ j := Int.pow_pos (by decide)
  have e : m.toNat = 2 ^ j - 1 := by rw [hm, show ((2 : Int) ^ j) = ((2 ^ j : Nat) : Int) by simp]; have := Nat.two_pow_pos j; omega
  show IntKind.i64.wrap ((BitVec.ofInt 64 a &&& BitVec.ofInt 64 m).toNat : Int) = _
  rw [BitVec.toNat_and, ofInt_nn 64 a h0 (by omega), ofInt_nn 64 m (by omega) (by omega), e, mask_nn j a h0]
  have h2 := Int.emod_nonneg a (show (2 : Int) ^ j ≠ 0 by omega)
  have h3 := emod_le_self a (2 ^ j) h0 hp
  exact IntWalk.i64_in _ (by omega)

/-! ### 'and not' with the lowest j bits: they are cleared -/
theorem clear_nat (n j A : Nat) (hj : j ≤ n) (hA : A < 2 ^ n) : A &&& (2 ^ n - 1 - (2 ^ j - 1)) = 2 ^ j * (A / 2 ^ j) := by
  have e : 2 ^ n - 1 - (2 ^ j - 1) = 2 ^ j * (2 ^ (n - j) - 1) := by
    have h1 : 2 ^ n = 2 ^ j * 2 ^ (n - j) := by rw [← Nat.pow_add]; congr 1; omega
    have h2 := Nat.two_pow_pos j
    have h3 := Nat.two_pow_pos (n - j)
    rw [Nat.mul_sub, h1, Nat.mul_one]
    omega
  rw [e]
  apply Nat.eq_of_testBit_eq
  intro i
  rw [Nat.testBit_and, Nat.testBit_two_pow_mul, Nat.testBit_two_pow_mul, Nat.testBit_two_pow_sub_one, Nat.testBit_div_two_pow]
  by_cases h1 : j ≤ i
  · rw [show i - j + j = i by omega]
    by_cases h2 : i < n
    · simp [h1, show i - j < n - j by omega]
    · have : A.testBit i = false := Nat.testBit_lt_two_pow (Nat.lt_of_lt_of_le hA (Nat.pow_le_pow_right (by decide) (by omega)))
      simp [this]
  · simp [h1]
theorem clear_u16 (j : Nat) (a m : Int) (hj : j ≤ 16) (hm : m = 2 ^ j - 1) (h0 : 0 ≤ a) (h1 : a ≤ 65535) : bits .andNot .u16 a m = 2 ^ j * (a / 2 ^ j) := by
  have hp : (0 : Int) < 2 ^ j := Int.pow_pos (by decide)
  have hpn := Nat.two_pow_pos j
  have hp16 : 2 ^ j ≤ 2 ^ 16 := Nat.pow_le_pow_right (by decide) hj
  have e0 : ((2 : Int) ^ j) = ((2 ^ j : Nat) : Int) := by simp
  have e : m.toNat = 2 ^ j - 1 := by rw [hm, e0]; omega
  obtain ⟨A, rfl⟩ := Int.eq_ofNat_of_zero_le h0
  show IntKind.u16.wrap ((BitVec.ofInt 16 (A : Int) &&& ~~~ BitVec.ofInt 16 m).toNat : Int) = _
  rw [BitVec.toNat_and, BitVec.toNat_not, ofInt_nn 16 A h0 (by omega), ofInt_nn 16 m (by omega) (by rw [hm, e0]; omega), e, Int.toNat_natCast, clear_nat 16 j A hj (by omega)]
  have h2 := Nat.mul_div_le A (2 ^ j)
  rw [IntWalk.u16_in _ (by omega), e0]
  simp
end Go.Proofs.YtefhddbbiheadaaGreat
