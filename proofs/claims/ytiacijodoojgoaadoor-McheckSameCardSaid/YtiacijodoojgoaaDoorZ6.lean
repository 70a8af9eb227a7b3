/-
  Texts of ours laid together: Bits, Sto, C14.
-/
import Derived.IntWalk
import Derived.Laws.BitsAllLaws
import Derived.Deep.WholeRow
import Derived.Test.YtiacijodoojgoaaDoorRows
import Derived.Lib.Bytealg
import Derived.Laws.CopyOwn
import Derived.Test.YtiacijodoojgoaaDoorZ5

/-! Bits -/
namespace Go.Proofs.YtiacijodoojgoaaDoor
open Go.RowKit
set_option linter.unusedVariables false

theorem ofInt_nn (n : Nat) (a : Int) (h0 : 0 ≤ a) (h1 : a < 2 ^ n) : (BitVec.ofInt n a).toNat = a.toNat := by
  rw [BitVec.toNat_ofInt]
  have : ((2 ^ n : Nat) : Int) = 2 ^ n := by simp
  rw [this, Int.emod_eq_of_lt h0 h1]
theorem join_nn (j : Nat) (a b : Int) (h0 : 0 ≤ a) (hj : a % 2 ^ j = 0) (h1 : 0 ≤ b) (h2 : b < 2 ^ j) : ((a.toNat ||| b.toNat : Nat) : Int) = a + b := by
  obtain ⟨A, rfl⟩ := Int.eq_ofNat_of_zero_le h0
  obtain ⟨B, rfl⟩ := Int.eq_ofNat_of_zero_le h1
  have e : ((2 ^ j : Nat) : Int) = 2 ^ j := by simp
  rw [← e] at hj h2
  rw [Int.toNat_natCast, Int.toNat_natCast, nat_join j A B (by omega) (by omega)]; simp
theorem mask_nn (j : Nat) (a : Int) (h0 : 0 ≤ a) : ((a.toNat &&& (2 ^ j - 1) : Nat) : Int) = a % 2 ^ j := by
  obtain ⟨A, rfl⟩ := Int.eq_ofNat_of_zero_le h0
  rw [Int.toNat_natCast, Nat.and_two_pow_sub_one_eq_mod]
  simp

theorem or_u8 (j : Nat) (a b : Int) (h0 : 0 ≤ a) (hj : a % 2 ^ j = 0) (h1 : 0 ≤ b) (h2 : b < 2 ^ j) (h3 : a + b ≤ 255) : bits .or .u8 a b = a + b := by
  show IntKind.u8.wrap ((BitVec.ofInt 8 a ||| BitVec.ofInt 8 b).toNat : Int) = _
  rw [BitVec.toNat_or, ofInt_nn 8 a h0 (by omega), ofInt_nn 8 b h1 (by omega), join_nn j a b h0 hj h1 h2, IntWalk.u8_in _ (by omega)]
theorem or_u32 (j : Nat) (a b : Int) (h0 : 0 ≤ a) (hj : a % 2 ^ j = 0) (h1 : 0 ≤ b) (h2 : b < 2 ^ j) (h3 : a + b ≤ 4294967295) : bits .or .u32 a b = a + b := by
  show IntKind.u32.wrap ((BitVec.ofInt 32 a ||| BitVec.ofInt 32 b).toNat : Int) = _
  rw [BitVec.toNat_or, ofInt_nn 32 a h0 (by omega), ofInt_nn 32 b h1 (by omega), join_nn j a b h0 hj h1 h2, IntWalk.u32_in _ (by omega)]
theorem or_u16 (j : Nat) (a b : Int) (h0 : 0 ≤ a) (hj : a % 2 ^ j = 0) (h1 : 0 ≤ b) (h2 : b < 2 ^ j) (h3 : a + b ≤ 65535) : bits .or .u16 a b = a + b := by
  show IntKind.u16.wrap ((BitVec.ofInt 16 a ||| BitVec.ofInt 16 b).toNat : Int) = _
  rw [BitVec.toNat_or, ofInt_nn 16 a h0 (by omega), ofInt_nn 16 b h1 (by omega), join_nn j a b h0 hj h1 h2, IntWalk.u16_in _ (by omega)]
theorem or_i32 (j : Nat) (a b : Int) (h0 : 0 ≤ a) (hj : a % 2 ^ j = 0) (h1 : 0 ≤ b) (h2 : b < 2 ^ j) (h3 : a + b ≤ 2147483647) : bits .or .i32 a b = a + b := by
  show IntKind.i32.wrap ((BitVec.ofInt 32 a ||| BitVec.ofInt 32 b).toNat : Int) = _
  rw [BitVec.toNat_or, ofInt_nn 32 a h0 (by omega), ofInt_nn 32 b h1 (by omega), join_nn j a b h0 hj h1 h2, IntWalk.i32_in _ (by omega)]
theorem or_i64 (j : Nat) (a b : Int) (h0 : 0 ≤ a) (hj : a % 2 ^ j = 0) (h1 : 0 ≤ b) (h2 : b < 2 ^ j) (h3 : a + b ≤ 9223372036854775807) : bits .or .i64 a b = a + b := by
  show IntKind.i64.wrap ((BitVec.ofInt 64 a ||| BitVec.ofInt 64 b).toNat : Int) = _
  rw [BitVec.toNat_or, ofInt_nn 64 a h0 (by omega), ofInt_nn 64 b h1 (by omega), join_nn j a b h0 hj h1 h2, IntWalk.i64_in _ (by omega)]

theorem emod_le_self (a p : Int) (h0 : 0 ≤ a) (hp : 0 < p) : a % p ≤ a := by
  obtain ⟨A, rfl⟩ := Int.eq_ofNat_of_zero_le h0
  obtain ⟨P, rfl⟩ := Int.eq_ofNat_of_zero_le (Int.le_of_lt hp)
  exact_mod_cast Nat.mod_le A P
/-- The lowest j bits: m = 2 ^ j - 1. -/
theorem and_u8 (j : Nat) (a m : Int) (hm : m = 2 ^ j - 1) (hj : m ≤ 255) (h0 : 0 ≤ a) (h1 : a ≤ 255) : bits .and .u8 a m = a % 2 ^ j := by
  have hp : (0 : Int) < 2 ^ j := Int.pow_pos (by decide)
  have e : m.toNat = 2 ^ j - 1 := by rw [hm, show ((2 : Int) ^ j) = ((2 ^ j : Nat) : Int) by simp]; have := Nat.two_pow_pos j; omega
  show IntKind.u8.wrap ((BitVec.ofInt 8 a &&& BitVec.ofInt 8 m).toNat : Int) = _
  rw [BitVec.toNat_and, ofInt_nn 8 a h0 (by omega), ofInt_nn 8 m (by omega) (by omega), e, mask_nn j a h0]
  have h2 := Int.emod_nonneg a (show (2 : Int) ^ j ≠ 0 by omega)
  have h3 := emod_le_self a (2 ^ j) h0 hp
  exact IntWalk.u8_in _ (by omega)
/-- The lowest j bits: m = 2 ^ j - 1. -/
theorem and_u16 (j : Nat) (a m : Int) (hm : m = 2 ^ j - 1) (hj : m ≤ 65535) (h0 : 0 ≤ a) (h1 : a ≤ 65535) : bits .and .u16 a m = a % 2 ^ j := by
  have hp : (0 : Int) < 2 ^ j := Int.pow_pos (by decide)
  have e : m.toNat = 2 ^ j - 1 := by rw [hm, show ((2 : Int) ^ j) = ((2 ^ j : Nat) : Int) by simp]; have := Nat.two_pow_pos j; omega
  show IntKind.u16.wrap ((BitVec.ofInt 16 a &&& BitVec.ofInt 16 m).toNat : Int) = _
  rw [BitVec.toNat_and, ofInt_nn 16 a h0 (by omega), ofInt_nn 16 m (by omega) (by omega), e, mask_nn j a h0]
  have h2 := Int.emod_nonneg a (show (2 : Int) ^ j ≠ 0 by omega)
  have h3 := emod_le_self a (2 ^ j) h0 hp
  exact IntWalk.u16_in _ (by omega)
/-- The lowest j bits: m = 2 ^ j - 1. -/
theorem and_u32 (j : Nat) (a m : Int) (hm : m = 2 ^ j - 1) (hj : m ≤ 4294967295) (h0 : 0 ≤ a) (h1 : a ≤ 4294967295) : bits .and .u32 a m = a % 2 ^ j := by
  have hp : (0 : Int) < 2 ^ j := Int.pow_pos (by decide)
  have e : m.toNat = 2 ^ j - 1 := by rw [hm, show ((2 : Int) ^ j) = ((2 ^ j : Nat) : Int) by simp]; have := Nat.two_pow_pos j; omega
  show IntKind.u32.wrap ((BitVec.ofInt 32 a &&& BitVec.ofInt 32 m).toNat : Int) = _
  rw [BitVec.toNat_and, ofInt_nn 32 a h0 (by omega), ofInt_nn 32 m (by omega) (by omega), e, mask_nn j a h0]
  have h2 := Int.emod_nonneg a (show (2 : Int) ^ j ≠ 0 by omega)
  have h3 := emod_le_self a (2 ^ j) h0 hp
  exact IntWalk.u32_in _ (by omega)
/-- The lowest j bits: m = 2 ^ j - 1. -/
theorem and_i32 (j : Nat) (a m : Int) (hm : m = 2 ^ j - 1) (hj : m ≤ 2147483647) (h0 : 0 ≤ a) (h1 : a ≤ 2147483647) : bits .and .i32 a m = a % 2 ^ j := by
  have hp : (0 : Int) < 2 ^ j := Int.pow_pos (by decide)
  have e : m.toNat = 2 ^ j - 1 := by rw [hm, show ((2 : Int) ^ j) = ((2 ^ j : Nat) : Int) by simp]; have := Nat.two_pow_pos j; omega
  show IntKind.i32.wrap ((BitVec.ofInt 32 a &&& BitVec.ofInt 32 m).toNat : Int) = _
  rw [BitVec.toNat_and, ofInt_nn 32 a h0 (by omega), ofInt_nn 32 m (by omega) (by omega), e, mask_nn j a h0]
  have h2 := Int.emod_nonneg a (show (2 : Int) ^ j ≠ 0 by omega)
  have h3 := emod_le_self a (2 ^ j) h0 hp
  exact IntWalk.i32_in _ (by omega)
/-- The lowest j bits: m = 2 ^ j - 1. -/
theorem and_i64 (j : Nat) (a m : Int) (hm : m = 2 ^ j - 1) (hj : m ≤ 9223372036854775807) (h0 : 0 ≤ a) (h1 : a ≤ 9223372036854775807) : bits .and .i64 a m = a % 2 ^ j := by
  have hp : (0 : Int) < 2 ^ j := Int.pow_pos (by decide)
  have e : m.toNat = 2 ^ j - 1 := by rw [hm, show ((2 : Int) ^ j) = ((2 ^ j : Nat) : Int) by simp]; have := Nat.two_pow_pos j; omega
  show IntKind.i64.wrap ((BitVec.ofInt 64 a &&& BitVec.ofInt 64 m).toNat : Int) = _
  rw [BitVec.toNat_and, ofInt_nn 64 a h0 (by omega), ofInt_nn 64 m (by omega) (by omega), e, mask_nn j a h0]
  have h2 := Int.emod_nonneg a (show (2 : Int) ^ j ≠ 0 by omega)
  have h3 := emod_le_self a (2 ^ j) h0 hp
  exact IntWalk.i64_in _ (by omega)

/-! ### 'and not' with the lowest j bits: they are cleared -/
theorem clear_nat (n j A : Nat) (hj : j ≤ n) (hA : A < 2 ^ n) : A &&& (2 ^ n - 1 - (2 ^ j - 1)) = 2 ^ j * (A / 2 ^ j) := by
  have e : 2 ^ n - 1 - (2 ^ j - 1) = 2 ^ j * (2 ^ (n - j) - 1) := by
    have h1 : 2 ^ n = 2 ^ j * 2 ^ (n - j) := by rw [← Nat.pow_add]; congr 1; omega
    have h2 := Nat.two_pow_pos j
    have h3 := Nat.two_pow_pos (n - j)
    rw [Nat.mul_sub, h1, Nat.mul_one]
    omega
  rw [e]
  apply Nat.eq_of_testBit_eq
  intro i
  rw [Nat.testBit_and, Nat.testBit_two_pow_mul, Nat.testBit_two_pow_mul, Nat.testBit_two_pow_sub_one, Nat.testBit_div_two_pow]
  by_cases h1 : j ≤ i
  · rw [show i - j + j = i by omega]
    by_cases h2 : i < n
    · simp [h1, show i - j < n - j by omega]
    · have : A.testBit i = false := Nat.testBit_lt_two_pow (Nat.lt_of_lt_of_le hA (Nat.pow_le_pow_right (by decide) (by omega)))
      simp [this]
  · simp [h1]
theorem clear_u16 (j : Nat) (a m : Int) (hj : j ≤ 16) (hm : m = 2 ^ j - 1) (h0 : 0 ≤ a) (h1 : a ≤ 65535) : bits .andNot .u16 a m = 2 ^ j * (a / 2 ^ j) := by
  have hp : (0 : Int) < 2 ^ j := Int.pow_pos (by decide)
  have hpn := Nat.two_pow_pos j
  have hp16 : 2 ^ j ≤ 2 ^ 16 := Nat.pow_le_pow_right (by decide) hj
  have e0 : ((2 : Int) ^ j) = ((2 ^ j : Nat) : Int) := by simp
  have e : m.toNat = 2 ^ j - 1 := by rw [hm, e0]; omega
  obtain ⟨A, rfl⟩ := Int.eq_ofNat_of_zero_le h0
  show IntKind.u16.wrap ((BitVec.ofInt 16 (A : Int) &&& ~~~ BitVec.ofInt 16 m).toNat : Int) = _
  rw [BitVec.toNat_and, BitVec.toNat_not, ofInt_nn 16 A h0 (by omega), ofInt_nn 16 m (by omega) (by rw [hm, e0]; omega), e, Int.toNat_natCast, clear_nat 16 j A hj (by omega)]
  have h2 := Nat.mul_div_le A (2 ^ j)
  rw [IntWalk.u16_in _ (by omega), e0]
  simp
end Go.Proofs.YtiacijodoojgoaaDoor

/-! Sto -/
namespace Go.Proofs.YtiacijodoojgoaaDoor
open Go.RowKit
set_option linter.unusedVariables false

theorem ints_one (k : IntKind) (xs : List Int) : ((xs.map (Value.int k)).toArray).all (·.oneCell') = true := by
  rw [Array.all_eq_true_iff_forall_mem]
  intro v hv
  simp only [List.mem_toArray, List.mem_map] at hv
  obtain ⟨x, _, rfl⟩ := hv
  rfl
theorem wpList_storeNew {P : Program} {ops : Array Oper} {rest : List Oper} {op : Oper} {a : Act} {w0 w : World} {Q : Exit → Act → World → Prop} (k : IntKind) (xs : List Int) (ty : TypeId) (x y : Operand) (hgd : op.guard = none) (ho : op.op = .store ty x y)
    (c : Array Value) (hw : w = w0.alloc (.cells c ty)) (hx : a.eval x = .pointer (some ⟨w0.heap.size, 0, none⟩)) (hy : a.eval y = .agg (xs.map (Value.int k)).toArray)
    (hi : (P.info? ty).map (·.size) = some xs.length) (hs : c.size = xs.length)
    (h : wpList P ops Q rest (a.put op.dst undef) (w0.alloc (.cells (xs.map (Value.int k)).toArray ty))) : wpList P ops Q (op :: rest) a w := by
  subst hw
  refine wpList_plain hgd fun K hK => ?_
  have hrun := run_storeVar_new (P := P) w0 ty c (xs.map (Value.int k)).toArray (by simpa using hi) (by simpa using hs) (ints_one k xs)
  unfold Oper.wp execOp
  simp only [ho, hx, hy, Instr.storeAt, Instr.sureAddr, Sem.run_bind, Sem.run_pure, Result.andThen_ok, hrun]
  exact hK _ _ h
/-- A literal of the call's own may be written on. -/
theorem Own.ofLit (k : IntKind) (e : TypeId) (w : World) (xs : List Int) (hm : xs.length ≤ maxLen) (hwf : ∀ x ∈ xs, (Lit.int k x).wf = true) :
    Own k e w.heap.size (w.alloc (.cells (xs.map (Value.int k)).toArray e)) (.slice (some ⟨w.heap.size, 0, none⟩) xs.length xs.length) xs := by
  refine ⟨⟨by simp, .inr ⟨w.heap.size, xs.length, (xs.map (Value.int k)).toArray, rfl, Nat.le_refl _, heap_alloc_last w _, Nat.le_refl _, hm, by simp, ?_⟩⟩, hwf⟩
  rw [List.toList_toArray, Nat.mul_one]
  exact List.take_of_length_le (by simp)
/-- A row of the call's own that is full: the block's cells. -/
theorem Own.whole {k : IntKind} {e : TypeId} {base : Nat} {w : World} {g n : Nat} {xs : List Int} (h : Own k e base w (.slice (some ⟨g, 0, none⟩) n n) xs) (hn : 0 < n) : w.heap[g]? = some (.cells (xs.map (Value.int k)).toArray e (0, 0)) := by
  obtain ⟨⟨hl, h1⟩, _⟩ := h
  rcases h1 with ⟨h', _⟩ | ⟨g', cap, cur, hv, _, hg, _, _, hcs, htk⟩
  · simp at h'
  · simp only [Value.slice.injEq, Option.some.injEq, Addr.mk.injEq, and_true] at hv
    obtain ⟨rfl, hnx, hcap⟩ := hv
    have : cur.toList = xs.map (Value.int k) := by
      rw [← htk, List.take_of_length_le]
      rw [Array.length_toList, hcs, ← hcap, hnx]; exact Nat.le_refl _
    rw [hg, ← this]
/-- A whole array out of a block: one step of a walk. -/
theorem wpList_load_row {P : Program} {ops : Array Oper} {rest : List Oper} {o : Oper} {a : Act} {w : World} {Q : Exit → Act → World → Prop} (hgd : o.guard = none) (ty : TypeId) (x : Operand) (ho : o.op = .load ty x)
    (g : Nat) (cs : Array Value) (hx : a.eval x = .pointer (some ⟨g, 0, none⟩)) (t : TypeId) (fr : Nat × Nat) (hg : w.heap[g]? = some (.cells cs t fr)) (n : Nat) (e : TypeId) (hu : P.underlying ty = some (.array n e)) (hi : (P.info? ty).map (·.size) = some cs.size)
    (h : wpList P ops Q rest (a.put o.dst (.agg cs)) w) : wpList P ops Q (o :: rest) a w := by
  refine wpList_plain hgd fun K hK => ?_
  have hrun := run_loadVar_row (P := P) w g t ty cs fr _ hg hu rfl hi
  unfold Oper.wp execOp
  simp only [ho, hx, Instr.loadAt, Instr.sureAddr, Sem.run_bind, Sem.run_pure, Result.andThen_ok, hrun]
  exact hK _ _ h
/-- A function's result that is an array: it lies in a block. -/
theorem results_cell {fn : Func} {s : Tmp} {ty : TypeId} (h : fn.results = #[.cell s ty]) (tmps : Array Value) (P : Program) (w : World) (g : Nat) (cs : Array Value) (t : TypeId) (fr : Nat × Nat)
    (hx : tmps.getD s undef = .pointer (some ⟨g, 0, none⟩)) (hg : w.heap[g]? = some (.cells cs t fr)) (n : Nat) (e : TypeId) (hu : P.underlying ty = some (.array n e)) (hi : (P.info? ty).map (·.size) = some cs.size) :
    (results fn tmps).run P w = .ok (.agg cs) w := by
  have hrun := run_loadVar_row (P := P) w g t ty cs fr _ hg hu rfl hi
  have hx' : tmps[s]?.getD undef = .pointer (some ⟨g, 0, none⟩) := by simpa using hx
  simp [results, h, hx', asAddr, hrun]
end Go.Proofs.YtiacijodoojgoaaDoor

/-! C14 -/
namespace Go.Proofs.YtiacijodoojgoaaDoor
open Go.RowKit
set_option linter.unusedVariables false
set_option maxRecDepth 100000

abbrev digS64 : ByteArray := { data := #[65, 66, 67, 68, 69, 70, 71, 72, 73, 74, 75, 76, 77, 78, 79, 80, 81, 82, 83, 84, 85, 86, 87, 88, 89, 90, 97, 98, 99, 100, 101, 102, 103, 104, 105, 106, 107, 108, 109, 110, 111, 112, 113, 114, 115, 116, 117, 118, 119, 120, 121, 122, 48, 49, 50, 51, 52, 53, 54, 55, 56, 57, 43, 47] }
theorem digS64_fin : ∀ k : Fin 64, ((digS64.data[k.val]'(by have := k.isLt; simp)).toNat : Int) = dg64 (k.val : Int) := by decide +kernel
theorem digS64_get (k : Nat) (h : k < digS64.size) : ((digS64[k]'h).toNat : Int) = dg64 k := digS64_fin ⟨k, h⟩
theorem and63 (n : Int) : bits .and .i64 n 63 = n % 64 := by
  show IntKind.i64.wrap ((BitVec.ofInt 64 n &&& BitVec.ofInt 64 63).toNat : Int) = _
  rw [BitVec.toNat_and, BitVec.toNat_ofInt, BitVec.toNat_ofInt]
  rw [show ((63 : Int) % (2 ^ 64 : Nat)).toNat = 2 ^ 6 - 1 by decide, Nat.and_two_pow_sub_one_eq_mod]
  rw [IntWalk.i64_in _ (by omega)]
  omega
/-- The place of a digit in the alphabet, or -1. -/
def at64 (c : Int) : Int := if isDig c then valI c else -1
theorem idx64_fin : ∀ c : Fin 256, Lib.indexByte digS64.data.toList (c.val.toUInt8) = at64 (c.val : Int) := by decide +kernel
theorem idx64 (c : Int) (h0 : 0 ≤ c) (h1 : c ≤ 255) : Lib.indexByte digS64.data.toList c.toNat.toUInt8 = at64 c := by
  have := idx64_fin ⟨c.toNat, by omega⟩
  simp only at this
  rwa [show ((c.toNat : Nat) : Int) = c by omega] at this

theorem ibS (s : ByteArray) (c : Int) (w : World) : (callFunc 113 #[.string s, .int .u8 c]).run Tryd.prog w = .ok (.value (.int .i64 (Lib.indexByte s.data.toList c.toNat.toUInt8))) w := by
  rw [run_callFunc_extern (fn := Tryd.f113) (e := Extern.BytealgIndexByte.indexByte) (by kernel_rfl) (by kernel_rfl) (by kernel_rfl) (by kernel_rfl) (by kernel_rfl)]
  rw [Lib.run_indexByteString]; rfl
theorem slite64 (c : Int) (w : World) (h0 : 0 ≤ c) (h1 : c ≤ 255) :
    Calls Tryd.prog 108 #[.string digS64, .int .u8 c] w fun e w' => e = .returned (.int .i64 (at64 c)) ∧ w = w' := by
  have hx := ibS digS64 c w
  rw [idx64 c h0 h1] at hx
  go_enter Tryd.func108, Tryd.ntmps108
  go_wp2
  go_ret
  exact ⟨rfl, rfl⟩
theorem strings64 (c : Int) (w : World) (h0 : 0 ≤ c) (h1 : c ≤ 255) :
    Calls Tryd.prog 101 #[.string digS64, .int .u8 c] w fun e w' => e = .returned (.int .i64 (at64 c)) ∧ w = w' := by
  go_enter Tryd.func101, Tryd.ntmps101
  go_wp2_with (go_at_call 108; (with_reducible refine (slite64 _ _ h0 h1).mono ?_); rintro e w' ⟨rfl, rfl⟩)
  go_ret
  exact ⟨rfl, rfl⟩
theorem bcode_Value (c : Int) (w : World) (h0 : 0 ≤ c) (h1 : c ≤ 255) :
    Calls Tryd.prog 91 #[.int .u8 c] w fun e w' => e = .returned (.tuple #[.int .i64 (valI c), .bool (isDig c)]) ∧ w = w' := by
  have hs := strings64 c w h0 h1
  have hb := val_bd c
  obtain ⟨hb0, hb1⟩ := hb
  cases hd : isDig c
  · have hv : valI c = 0 := by unfold isDig at hd; unfold valI; cases h : valN c with | none => rfl | some n => rw [h] at hd; cases hd
    unfold at64 at hs
    rw [hd, if_neg (by decide)] at hs
    rw [hv]
    have HS := hid hs
    clear hs hd hv
    go_enter Tryd.func91, Tryd.ntmps91
    go_wp2_with (go_at_call 101; (with_reducible refine HS.out.mono ?_); rintro e w' ⟨rfl, rfl⟩)
    go_ret2
    exact ⟨rfl, rfl⟩
  · unfold at64 at hs
    rw [hd, if_pos rfl] at hs
    obtain ⟨v, hv⟩ : ∃ v, v = valI c := ⟨_, rfl⟩
    rw [← hv] at hs hb0 hb1 ⊢
    have HS := hid hs
    clear hs hd hv
    go_enter Tryd.func91, Tryd.ntmps91
    go_wp2_with (go_at_call 101; (with_reducible refine HS.out.mono ?_); rintro e w' ⟨rfl, rfl⟩)
    go_ret2
    exact ⟨rfl, rfl⟩
end Go.Proofs.YtiacijodoojgoaaDoor
