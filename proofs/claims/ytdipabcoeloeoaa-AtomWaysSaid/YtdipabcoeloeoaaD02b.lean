/-
  Layer 2, in plain words: more about digits, for the program's own way of reckoning them.
-/
import Derived.Test.YtdipabcoeloeoaaD02
import Derived.IntWalk
namespace Go.Proofs.Ytdipabcoeloeoaa
open Go.RowKit
set_option linter.unusedVariables false

theorem digM_low (k c : Int) (hk0 : 0 ≤ k) (hk1 : k ≤ 15) (h0 : 0 ≤ c) (h1 : c ≤ 255) : (lowI (digI k) == lowI c) = digM k c := by
  rw [Bool.eq_iff_iff]
  unfold digM digI lowI
  simp only [Bool.or_eq_true, beq_iff_eq, Bool.and_eq_true, decide_eq_true_eq]
  constructor <;> (intro h; (repeat' split at h) <;> (repeat' split) <;> omega)
/-- The low four bits. -/
theorem and15 (n : Int) : bits .and .i64 n 15 = n % 16 := by
  show IntKind.i64.wrap ((BitVec.ofInt 64 n &&& BitVec.ofInt 64 15).toNat : Int) = _
  rw [BitVec.toNat_and, BitVec.toNat_ofInt, BitVec.toNat_ofInt]
  rw [show ((15 : Int) % (2 ^ 64 : Nat)).toNat = 2 ^ 4 - 1 by decide, Nat.and_two_pow_sub_one_eq_mod]
  rw [IntWalk.i64_in _ (by omega)]
  omega
/-- Two digits together. -/
theorem join_fin : ∀ a b : Fin 16, bits .or .i64 ((16 * a.val : Nat) : Int) (b.val : Int) = ((16 * a.val + b.val : Nat) : Int) := by decide +kernel
theorem join16 (a b : Int) (ha0 : 0 ≤ a) (ha1 : a ≤ 15) (hb0 : 0 ≤ b) (hb1 : b ≤ 15) : bits .or .i64 (16 * a) b = 16 * a + b := by
  have := join_fin ⟨a.toNat, by omega⟩ ⟨b.toNat, by omega⟩
  simp only at this
  rwa [show ((16 * a.toNat : Nat) : Int) = 16 * a by omega, show ((b.toNat : Nat) : Int) = b by omega, show ((16 * a.toNat + b.toNat : Nat) : Int) = 16 * a + b by omega] at this

abbrev digS : ByteArray := { data := #[48, 49, 50, 51, 52, 53, 54, 55, 56, 57, 65, 66, 67, 68, 69, 70] }
theorem digS_fin : ∀ k : Fin 16, ((digS.data[k.val]'(by have := k.isLt; simp)).toNat : Int) = digI (k.val : Int) := by decide +kernel
theorem digS_get (k : Nat) (h : k < digS.size) : ((digS[k]'h).toNat : Int) = digI k := digS_fin ⟨k, h⟩

/-- Has a text no small digits above nine? -/
def capB (x : Int) : Bool := !(decide (97 ≤ x) && decide (x ≤ 102))
/-- A row of octets that is filled out of pairs of digits. -/
def fillP (xs : List Int) (n j : Nat) : List Int := pairs (xs.take (2 * j)) ++ List.replicate (n - j) 0
theorem fillP_zero (xs : List Int) (n : Nat) : fillP xs n 0 = List.replicate n 0 := by simp [fillP, pairs]
theorem fillP_len {xs : List Int} {n j : Nat} (h : 2 * j ≤ xs.length) (hj : j ≤ n) : (fillP xs n j).length = n := by
  unfold fillP
  rw [List.length_append, pairs_len j _ (by rw [List.length_take]; omega), List.length_replicate]; omega
theorem fillP_all {xs : List Int} {n j : Nat} (hj : n ≤ j) (h : xs.length ≤ 2 * j) : fillP xs n j = pairs xs := by
  unfold fillP
  rw [List.take_of_length_le h, show n - j = 0 by omega]; simp
theorem fillP_set {xs : List Int} {n j : Nat} {x y : Int} (hj : j < n) (h : 2 * j ≤ xs.length) (hx : xs.take (2 * j + 1) = xs.take (2 * j) ++ [x]) (hy : xs.take (2 * j + 1 + 1) = xs.take (2 * j + 1) ++ [y]) :
    (fillP xs n j).set j (16 * hexV x + hexV y) = fillP xs n (j + 1) := by
  unfold fillP
  rw [pairs_next h hx hy]
  have hl : (pairs (xs.take (2 * j))).length = j := pairs_len j _ (by rw [List.length_take]; omega)
  rw [List.set_append_right _ _ (by omega), hl, Nat.sub_self, show n - j = (n - (j + 1)) + 1 by omega, List.replicate_succ]
  simp

end Go.Proofs.Ytdipabcoeloeoaa
