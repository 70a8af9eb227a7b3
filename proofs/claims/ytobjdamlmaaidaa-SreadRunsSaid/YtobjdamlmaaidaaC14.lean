/-
  Contracts of package bcode's functions: digits, their numbers, lengths.
-/
import Derived.Test.YtobjdamlmaaidaaRows
import Derived.Test.YtobjdamlmaaidaaC01
import Derived.Test.YtobjdamlmaaidaaR14b
import Derived.Test.YtobjdamlmaaidaaBits
import Derived.Test.YtobjdamlmaaidaaSto
import Derived.Lib.Bytealg
import Derived.Laws.CopyOwn
import Derived.IntWalk
namespace Go.Proofs.Ytobjdamlmaaidaa
open Go.RowKit
set_option linter.unusedVariables false
set_option maxRecDepth 100000

abbrev digS64 : ByteArray := { data := #[65, 66, 67, 68, 69, 70, 71, 72, 73, 74, 75, 76, 77, 78, 79, 80, 81, 82, 83, 84, 85, 86, 87, 88, 89, 90, 97, 98, 99, 100, 101, 102, 103, 104, 105, 106, 107, 108, 109, 110, 111, 112, 113, 114, 115, 116, 117, 118, 119, 120, 121, 122, 48, 49, 50, 51, 52, 53, 54, 55, 56, 57, 43, 47] }
theorem digS64_fin : ∀ k : Fin 64, ((digS64.data[k.val]'(by have := k.isLt; simp)).toNat : Int) = dg64 (k.val : Int) := by decide +kernel
theorem digS64_get (k : Nat) (h : k < digS64.size) : ((digS64[k]'h).toNat : Int) = dg64 k := digS64_fin ⟨k, h⟩
theorem and63 (n : Int) : bits .and .i64 n 63 = n % 64 := by
  show IntKind.i64.wrap ((BitVec.ofInt 64 n &&& BitVec.ofInt 64 63).toNat : Int) = _
  rw [BitVec.toNat_and, BitVec.toNat_ofInt, BitVec.toNat_ofInt]
  rw [show ((63 : Int) % (2 ^ 64 : Nat)).toNat = 2 ^ 6 - 1 by decide, Nat.and_two_pow_sub_one_eq_mod]
  rw [IntWalk.i64_in _ (by omega)]
  omega
/-- The place of a digit in the alphabet, or -1. -/
def at64 (c : Int) : Int := if isDig c then valI c else -1
theorem idx64_fin : ∀ c : Fin 256, Lib.indexByte digS64.data.toList (c.val.toUInt8) = at64 (c.val : Int) := by decide +kernel
theorem idx64 (c : Int) (h0 : 0 ≤ c) (h1 : c ≤ 255) : Lib.indexByte digS64.data.toList c.toNat.toUInt8 = at64 c := by
  have := idx64_fin ⟨c.toNat, by omega⟩
  simp only at this
  rwa [show ((c.toNat : Nat) : Int) = c by omega] at this

theorem ibS (s : ByteArray) (c : Int) (w : World) : (callFunc 44 #[.string s, .int .u8 c]).run Try.prog w = .ok (.value (.int .i64 (Lib.indexByte s.data.toList c.toNat.toUInt8))) w := by
  rw [run_callFunc_extern (fn := Try.f44) (e := Extern.BytealgIndexByte.indexByte) (by kernel_rfl) (by kernel_rfl) (by kernel_rfl) (by kernel_rfl) (by kernel_rfl)]
  rw [Lib.run_indexByteString]; rfl
theorem slite64 (c : Int) (w : World) (h0 : 0 ≤ c) (h1 : c ≤ 255) :
    Calls Try.prog 39 #[.string digS64, .int .u8 c] w fun e w' => e = .returned (.int .i64 (at64 c)) ∧ w = w' := by
  have hx := ibS digS64 c w
  rw [idx64 c h0 h1] at hx
  go_enter Try.func39, Try.ntmps39
  go_wp2
  go_ret
  exact ⟨rfl, rfl⟩
theorem strings64 (c : Int) (w : World) (h0 : 0 ≤ c) (h1 : c ≤ 255) :
    Calls Try.prog 36 #[.string digS64, .int .u8 c] w fun e w' => e = .returned (.int .i64 (at64 c)) ∧ w = w' := by
  go_enter Try.func36, Try.ntmps36
  go_wp2_with (go_at_call 39; (with_reducible refine (slite64 _ _ h0 h1).mono ?_); rintro e w' ⟨rfl, rfl⟩)
  go_ret
  exact ⟨rfl, rfl⟩
theorem bcode_Value (c : Int) (w : World) (h0 : 0 ≤ c) (h1 : c ≤ 255) :
    Calls Try.prog 30 #[.int .u8 c] w fun e w' => e = .returned (.tuple #[.int .i64 (valI c), .bool (isDig c)]) ∧ w = w' := by
  have hs := strings64 c w h0 h1
  have hb := val_bd c
  obtain ⟨hb0, hb1⟩ := hb
  cases hd : isDig c
  · have hv : valI c = 0 := by unfold isDig at hd; unfold valI; cases h : valN c with | none => rfl | some n => rw [h] at hd; cases hd
    unfold at64 at hs
    rw [hd, if_neg (by decide)] at hs
    rw [hv]
    have HS := hid hs
    clear hs hd hv
    go_enter Try.func30, Try.ntmps30
    go_wp2_with (go_at_call 36; (with_reducible refine HS.out.mono ?_); rintro e w' ⟨rfl, rfl⟩)
    go_ret2
    exact ⟨rfl, rfl⟩
  · unfold at64 at hs
    rw [hd, if_pos rfl] at hs
    obtain ⟨v, hv⟩ : ∃ v, v = valI c := ⟨_, rfl⟩
    rw [← hv] at hs hb0 hb1 ⊢
    have HS := hid hs
    clear hs hd hv
    go_enter Try.func30, Try.ntmps30
    go_wp2_with (go_at_call 36; (with_reducible refine HS.out.mono ?_); rintro e w' ⟨rfl, rfl⟩)
    go_ret2
    exact ⟨rfl, rfl⟩
end Go.Proofs.Ytobjdamlmaaidaa
