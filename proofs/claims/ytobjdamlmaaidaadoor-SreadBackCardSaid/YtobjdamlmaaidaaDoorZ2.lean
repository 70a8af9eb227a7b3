/-
  Texts of ours laid together: Bits, Sto, C14, D04, D04b, D05, D06, D22.
-/
import Derived.IntWalk
import Derived.Laws.BitsAllLaws
import Derived.Deep.WholeRow
import Derived.Test.YtobjdamlmaaidaaDoorRows
import Derived.Lib.Bytealg
import Derived.Laws.CopyOwn
import Derived.Test.YtobjdamlmaaidaaDoorZ1

/-! Bits -/
namespace Go.Proofs.YtobjdamlmaaidaaDoor
open Go.RowKit
set_option linter.unusedVariables false

theorem ofInt_nn (n : Nat) (a : Int) (h0 : 0 ≤ a) (h1 : a < 2 ^ n) : (BitVec.ofInt n a).toNat = a.toNat := by
  rw [BitVec.toNat_ofInt]
  have : ((2 ^ n : Nat) : Int) = 2 ^ n := by simp
  rw [this, Int.emod_eq_of_lt h0 h1]
theorem join_nn (j : Nat) (a b : Int) (h0 : 0 ≤ a) (hj : a % 2 ^ j = 0) (h1 : 0 ≤ b) (h2 : b < 2 ^ j) : ((a.toNat ||| b.toNat : Nat) : Int) = a + b := by
  obtain ⟨A, rfl⟩ := Int.eq_ofNat_of_zero_le h0
  obtain ⟨B, rfl⟩ := Int.eq_ofNat_of_zero_le h1
  have e : ((2 ^ j : Nat) : Int) = 2 ^ j := by simp
  rw [← e] at hj h2
  rw [Int.toNat_natCast, Int.toNat_natCast, nat_join j A B (by omega) (by omega)]; simp
theorem mask_nn (j : Nat) (a : Int) (h0 : 0 ≤ a) : ((a.toNat &&& (2 ^ j - 1) : Nat) : Int) = a % 2 ^ j := by
  obtain ⟨A, rfl⟩ := Int.eq_ofNat_of_zero_le h0
  rw [Int.toNat_natCast, Nat.and_two_pow_sub_one_eq_mod]
  simp

theorem or_u8 (j : Nat) (a b : Int) (h0 : 0 ≤ a) (hj : a % 2 ^ j = 0) (h1 : 0 ≤ b) (h2 : b < 2 ^ j) (h3 : a + b ≤ 255) : bits .or .u8 a b = a + b := by
  show IntKind.u8.wrap ((BitVec.ofInt 8 a ||| BitVec.ofInt 8 b).toNat : Int) = _
  rw [BitVec.toNat_or, ofInt_nn 8 a h0 (by omega), ofInt_nn 8 b h1 (by omega), join_nn j a b h0 hj h1 h2, IntWalk.u8_in _ (by omega)]
theorem or_u32 (j : Nat) (a b : Int) (h0 : 0 ≤ a) (hj : a % 2 ^ j = 0) (h1 : 0 ≤ b) (h2 : b < 2 ^ j) (h3 : a + b ≤ 4294967295) : bits .or .u32 a b = a + b := by
  show IntKind.u32.wrap ((BitVec.ofInt 32 a ||| BitVec.ofInt 32 b).toNat : Int) = _
  rw [BitVec.toNat_or, ofInt_nn 32 a h0 (by omega), ofInt_nn 32 b h1 (by omega), join_nn j a b h0 hj h1 h2, IntWalk.u32_in _ (by omega)]
theorem or_u16 (j : Nat) (a b : Int) (h0 : 0 ≤ a) (hj : a % 2 ^ j = 0) (h1 : 0 ≤ b) (h2 : b < 2 ^ j) (h3 : a + b ≤ 65535) : bits .or .u16 a b = a + b := by
  show IntKind.u16.wrap ((BitVec.ofInt 16 a ||| BitVec.ofInt 16 b).toNat : Int) = _
  rw [BitVec.toNat_or, ofInt_nn 16 a h0 (by omega), ofInt_nn 16 b h1 (by omega), join_nn j a b h0 hj h1 h2, IntWalk.u16_in _ (by omega)]
theorem or_i32 (j : Nat) (a b : Int) (h0 : 0 ≤ a) (hj : a % 2 ^ j = 0) (h1 : 0 ≤ b) (h2 : b < 2 ^ j) (h3 : a + b ≤ 2147483647) : bits .or .i32 a b = a + b := by
  show IntKind.i32.wrap ((BitVec.ofInt 32 a ||| BitVec.ofInt 32 b).toNat : Int) = _
  rw [BitVec.toNat_or, ofInt_nn 32 a h0 (by omega), ofInt_nn 32 b h1 (by omega), join_nn j a b h0 hj h1 h2, IntWalk.i32_in _ (by omega)]
theorem or_i64 (j : Nat) (a b : Int) (h0 : 0 ≤ a) (hj : a % 2 ^ j = 0) (h1 : 0 ≤ b) (h2 : b < 2 ^ j) (h3 : a + b ≤ 9223372036854775807) : bits .or .i64 a b = a + b := by
  show IntKind.i64.wrap ((BitVec.ofInt 64 a ||| BitVec.ofInt 64 b).toNat : Int) = _
  rw [BitVec.toNat_or, ofInt_nn 64 a h0 (by omega), ofInt_nn 64 b h1 (by omega), join_nn j a b h0 hj h1 h2, IntWalk.i64_in _ (by omega)]

theorem emod_le_self (a p : Int) (h0 : 0 ≤ a) (hp : 0 < p) : a % p ≤ a := by
  obtain ⟨A, rfl⟩ := Int.eq_ofNat_of_zero_le h0
  obtain ⟨P, rfl⟩ := Int.eq_ofNat_of_zero_le (Int.le_of_lt hp)
  exact_mod_cast Nat.mod_le A P
/-- The lowest j bits: m = 2 ^ j - 1. -/
theorem and_u8 (j : Nat) (a m : Int) (hm : m = 2 ^ j - 1) (hj : m ≤ 255) (h0 : 0 ≤ a) (h1 : a ≤ 255) : bits .and .u8 a m = a % 2 ^ j := by
  have hp : (0 : Int) < 2 ^ j := Int.pow_pos (by decide)
  have e : m.toNat = 2 ^ j - 1 := by rw [hm, show ((2 : Int) ^ j) = ((2 ^ j : Nat) : Int) by simp]; have := Nat.two_pow_pos j; omega
  show IntKind.u8.wrap ((BitVec.ofInt 8 a &&& BitVec.ofInt 8 m).toNat : Int) = _
  rw [BitVec.toNat_and, ofInt_nn 8 a h0 (by omega), ofInt_nn 8 m (by omega) (by omega), e, mask_nn j a h0]
  have h2 := Int.emod_nonneg a (show (2 : Int) ^ j ≠ 0 by omega)
  have h3 := emod_le_self a (2 ^ j) h0 hp
  exact IntWalk.u8_in _ (by omega)
/-- The lowest j bits: m = 2 ^ j - 1. -/
theorem and_u16 (j : Nat) (a m : Int) (hm : m = 2 ^ j - 1) (hj : m ≤ 65535) (h0 : 0 ≤ a) (h1 : a ≤ 65535) : bits .and .u16 a m = a % 2 ^ j := by
  have hp : (0 : Int) < 2 ^ j := Int.pow_pos (by decide)
  have e : m.toNat = 2 ^ j - 1 := by rw [hm, show ((2 : Int) ^ j) = ((2 ^ j : Nat) : Int) by simp]; have := Nat.two_pow_pos j; omega
  show IntKind.u16.wrap ((BitVec.ofInt 16 a &&& BitVec.ofInt 16 m).toNat : Int) = _
  rw [BitVec.toNat_and, ofInt_nn 16 a h0 (by omega), ofInt_nn 16 m (by omega) (by omega), e, mask_nn j a h0]
  have h2 := Int.emod_nonneg a (show (2 : Int) ^ j ≠ 0 by omega)
  have h3 := emod_le_self a (2 ^ j) h0 hp
  exact IntWalk.u16_in _ (by omega)
/-- The lowest j bits: m = 2 ^ j - 1. -/
theorem and_u32 (j : Nat) (a m : Int) (hm : m = 2 ^ j - 1) (hj : m ≤ 4294967295) (h0 : 0 ≤ a) (h1 : a ≤ 4294967295) : bits .and .u32 a m = a % 2 ^ j := by
  have hp : (0 : Int) < 2 ^ j := Int.pow_pos (by decide)
  have e : m.toNat = 2 ^ j - 1 := by rw [hm, show ((2 : Int) ^ j) = ((2 ^ j : Nat) : Int) by simp]; have := Nat.two_pow_pos j; omega
  show IntKind.u32.wrap ((BitVec.ofInt 32 a &&& BitVec.ofInt 32 m).toNat : Int) = _
  rw [BitVec.toNat_and, ofInt_nn 32 a h0 (by omega), ofInt_nn 32 m (by omega) (by omega), e, mask_nn j a h0]
  have h2 := Int.emod_nonneg a (show (2 : Int) ^ j ≠ 0 by omega)
  have h3 := emod_le_self a (2 ^ j) h0 hp
  exact IntWalk.u32_in _ (by omega)
/-- The lowest j bits: m = 2 ^ j - 1. -/
theorem and_i32 (j : Nat) (a m : Int) (hm : m = 2 ^ j - 1) (hj : m ≤ 2147483647) (h0 : 0 ≤ a) (h1 : a ≤ 2147483647) : bits .and .i32 a m = a % 2 ^ j := by
  have hp : (0 : Int) < 2 ^ j := Int.pow_pos (by decide)
  have e : m.toNat = 2 ^ j - 1 := by rw [hm, show ((2 : Int) ^ j) = ((2 ^ j : Nat) : Int) by simp]; have := Nat.two_pow_pos j; omega
  show IntKind.i32.wrap ((BitVec.ofInt 32 a &&& BitVec.ofInt 32 m).toNat : Int) = _
  rw [BitVec.toNat_and, ofInt_nn 32 a h0 (by omega), ofInt_nn 32 m (by omega) (by omega), e, mask_nn j a h0]
  have h2 := Int.emod_nonneg a (show (2 : Int) ^ j ≠ 0 by omega)
  have h3 := emod_le_self a (2 ^ j) h0 hp
  exact IntWalk.i32_in _ (by omega)
/-- The lowest j bits: m = 2 ^ j - 1. -/
theorem and_i64 (j : Nat) (a m : Int) (hm : m = 2 ^ j - 1) (hj : m ≤ 9223372036854775807) (h0 : 0 ≤ a) (h1 : a ≤ 9223372036854775807) : bits .and .i64 a m = a % 2 ^ j := by
  have hp : (0 : Int) < 2 ^ j := Int.pow_pos (by decide)
  have e : m.toNat = 2 ^ j - 1 := by rw [hm, show ((2 : Int) ^ j) = ((2 ^ j : Nat) : Int) by simp]; have := Nat.two_pow_pos j; omega
  show IntKind.i64.wrap ((BitVec.ofInt 64 a &&& BitVec.ofInt 64 m).toNat : Int) = _
  rw [BitVec.toNat_and, ofInt_nn 64 a h0 (by omega), ofInt_nn 64 m (by omega) (by omega), e, mask_nn j a h0]
  have h2 := Int.emod_nonneg a (show (2 : Int) ^ j ≠ 0 by omega)
  have h3 := emod_le_self a (2 ^ j) h0 hp
  exact IntWalk.i64_in _ (by omega)

/-! ### 'and not' with the lowest j bits: they are cleared -/
theorem clear_nat (n j A : Nat) (hj : j ≤ n) (hA : A < 2 ^ n) : A &&& (2 ^ n - 1 - (2 ^ j - 1)) = 2 ^ j * (A / 2 ^ j) := by
  have e : 2 ^ n - 1 - (2 ^ j - 1) = 2 ^ j * (2 ^ (n - j) - 1) := by
    have h1 : 2 ^ n = 2 ^ j * 2 ^ (n - j) := by rw [← Nat.pow_add]; congr 1; omega
    have h2 := Nat.two_pow_pos j
    have h3 := Nat.two_pow_pos (n - j)
    rw [Nat.mul_sub, h1, Nat.mul_one]
    omega
  rw [e]
  apply Nat.eq_of_testBit_eq
  intro i
  rw [Nat.testBit_and, Nat.testBit_two_pow_mul, Nat.testBit_two_pow_mul, Nat.testBit_two_pow_sub_one, Nat.testBit_div_two_pow]
  by_cases h1 : j ≤ i
  · rw [show i - j + j = i by omega]
    by_cases h2 : i < n
    · simp [h1, show i - j < n - j by omega]
    · have : A.testBit i = false := Nat.testBit_lt_two_pow (Nat.lt_of_lt_of_le hA (Nat.pow_le_pow_right (by decide) (by omega)))
      simp [this]
  · simp [h1]
theorem clear_u16 (j : Nat) (a m : Int) (hj : j ≤ 16) (hm : m = 2 ^ j - 1) (h0 : 0 ≤ a) (h1 : a ≤ 65535) : bits .andNot .u16 a m = 2 ^ j * (a / 2 ^ j) := by
  have hp : (0 : Int) < 2 ^ j := Int.pow_pos (by decide)
  have hpn := Nat.two_pow_pos j
  have hp16 : 2 ^ j ≤ 2 ^ 16 := Nat.pow_le_pow_right (by decide) hj
  have e0 : ((2 : Int) ^ j) = ((2 ^ j : Nat) : Int) := by simp
  have e : m.toNat = 2 ^ j - 1 := by rw [hm, e0]; omega
  obtain ⟨A, rfl⟩ := Int.eq_ofNat_of_zero_le h0
  show IntKind.u16.wrap ((BitVec.ofInt 16 (A : Int) &&& ~~~ BitVec.ofInt 16 m).toNat : Int) = _
  rw [BitVec.toNat_and, BitVec.toNat_not, ofInt_nn 16 A h0 (by omega), ofInt_nn 16 m (by omega) (by rw [hm, e0]; omega), e, Int.toNat_natCast, clear_nat 16 j A hj (by omega)]
  have h2 := Nat.mul_div_le A (2 ^ j)
  rw [IntWalk.u16_in _ (by omega), e0]
  simp
end Go.Proofs.YtobjdamlmaaidaaDoor

/-! Sto -/
namespace Go.Proofs.YtobjdamlmaaidaaDoor
open Go.RowKit
set_option linter.unusedVariables false

theorem ints_one (k : IntKind) (xs : List Int) : ((xs.map (Value.int k)).toArray).all (·.oneCell') = true := by
  rw [Array.all_eq_true_iff_forall_mem]
  intro v hv
  simp only [List.mem_toArray, List.mem_map] at hv
  obtain ⟨x, _, rfl⟩ := hv
  rfl
theorem wpList_storeNew {P : Program} {ops : Array Oper} {rest : List Oper} {op : Oper} {a : Act} {w0 w : World} {Q : Exit → Act → World → Prop} (k : IntKind) (xs : List Int) (ty : TypeId) (x y : Operand) (hgd : op.guard = none) (ho : op.op = .store ty x y)
    (c : Array Value) (hw : w = w0.alloc (.cells c ty)) (hx : a.eval x = .pointer (some ⟨w0.heap.size, 0, none⟩)) (hy : a.eval y = .agg (xs.map (Value.int k)).toArray)
    (hi : (P.info? ty).map (·.size) = some xs.length) (hs : c.size = xs.length)
    (h : wpList P ops Q rest (a.put op.dst undef) (w0.alloc (.cells (xs.map (Value.int k)).toArray ty))) : wpList P ops Q (op :: rest) a w := by
  subst hw
  refine wpList_plain hgd fun K hK => ?_
  have hrun := run_storeVar_new (P := P) w0 ty c (xs.map (Value.int k)).toArray (by simpa using hi) (by simpa using hs) (ints_one k xs)
  unfold Oper.wp execOp
  simp only [ho, hx, hy, Instr.storeAt, Instr.sureAddr, Sem.run_bind, Sem.run_pure, Result.andThen_ok, hrun]
  exact hK _ _ h
/-- A literal of the call's own may be written on. -/
theorem Own.ofLit (k : IntKind) (e : TypeId) (w : World) (xs : List Int) (hm : xs.length ≤ maxLen) (hwf : ∀ x ∈ xs, (Lit.int k x).wf = true) :
    Own k e w.heap.size (w.alloc (.cells (xs.map (Value.int k)).toArray e)) (.slice (some ⟨w.heap.size, 0, none⟩) xs.length xs.length) xs := by
  refine ⟨⟨by simp, .inr ⟨w.heap.size, xs.length, (xs.map (Value.int k)).toArray, rfl, Nat.le_refl _, heap_alloc_last w _, Nat.le_refl _, hm, by simp, ?_⟩⟩, hwf⟩
  rw [List.toList_toArray, Nat.mul_one]
  exact List.take_of_length_le (by simp)
/-- A row of the call's own that is full: the block's cells. -/
theorem Own.whole {k : IntKind} {e : TypeId} {base : Nat} {w : World} {g n : Nat} {xs : List Int} (h : Own k e base w (.slice (some ⟨g, 0, none⟩) n n) xs) (hn : 0 < n) : w.heap[g]? = some (.cells (xs.map (Value.int k)).toArray e (0, 0)) := by
  obtain ⟨⟨hl, h1⟩, _⟩ := h
  rcases h1 with ⟨h', _⟩ | ⟨g', cap, cur, hv, _, hg, _, _, hcs, htk⟩
  · simp at h'
  · simp only [Value.slice.injEq, Option.some.injEq, Addr.mk.injEq, and_true] at hv
    obtain ⟨rfl, hnx, hcap⟩ := hv
    have : cur.toList = xs.map (Value.int k) := by
      rw [← htk, List.take_of_length_le]
      rw [Array.length_toList, hcs, ← hcap, hnx]; exact Nat.le_refl _
    rw [hg, ← this]
/-- A whole array out of a block: one step of a walk. -/
theorem wpList_load_row {P : Program} {ops : Array Oper} {rest : List Oper} {o : Oper} {a : Act} {w : World} {Q : Exit → Act → World → Prop} (hgd : o.guard = none) (ty : TypeId) (x : Operand) (ho : o.op = .load ty x)
    (g : Nat) (cs : Array Value) (hx : a.eval x = .pointer (some ⟨g, 0, none⟩)) (t : TypeId) (fr : Nat × Nat) (hg : w.heap[g]? = some (.cells cs t fr)) (n : Nat) (e : TypeId) (hu : P.underlying ty = some (.array n e)) (hi : (P.info? ty).map (·.size) = some cs.size)
    (h : wpList P ops Q rest (a.put o.dst (.agg cs)) w) : wpList P ops Q (o :: rest) a w := by
  refine wpList_plain hgd fun K hK => ?_
  have hrun := run_loadVar_row (P := P) w g t ty cs fr _ hg hu rfl hi
  unfold Oper.wp execOp
  simp only [ho, hx, Instr.loadAt, Instr.sureAddr, Sem.run_bind, Sem.run_pure, Result.andThen_ok, hrun]
  exact hK _ _ h
/-- A function's result that is an array: it lies in a block. -/
theorem results_cell {fn : Func} {s : Tmp} {ty : TypeId} (h : fn.results = #[.cell s ty]) (tmps : Array Value) (P : Program) (w : World) (g : Nat) (cs : Array Value) (t : TypeId) (fr : Nat × Nat)
    (hx : tmps.getD s undef = .pointer (some ⟨g, 0, none⟩)) (hg : w.heap[g]? = some (.cells cs t fr)) (n : Nat) (e : TypeId) (hu : P.underlying ty = some (.array n e)) (hi : (P.info? ty).map (·.size) = some cs.size) :
    (results fn tmps).run P w = .ok (.agg cs) w := by
  have hrun := run_loadVar_row (P := P) w g t ty cs fr _ hg hu rfl hi
  have hx' : tmps[s]?.getD undef = .pointer (some ⟨g, 0, none⟩) := by simpa using hx
  simp [results, h, hx', asAddr, hrun]
end Go.Proofs.YtobjdamlmaaidaaDoor

/-! C14 -/
namespace Go.Proofs.YtobjdamlmaaidaaDoor
open Go.RowKit
set_option linter.unusedVariables false
set_option maxRecDepth 100000

abbrev digS64 : ByteArray := { data := #[65, 66, 67, 68, 69, 70, 71, 72, 73, 74, 75, 76, 77, 78, 79, 80, 81, 82, 83, 84, 85, 86, 87, 88, 89, 90, 97, 98, 99, 100, 101, 102, 103, 104, 105, 106, 107, 108, 109, 110, 111, 112, 113, 114, 115, 116, 117, 118, 119, 120, 121, 122, 48, 49, 50, 51, 52, 53, 54, 55, 56, 57, 43, 47] }
theorem digS64_fin : ∀ k : Fin 64, ((digS64.data[k.val]'(by have := k.isLt; simp)).toNat : Int) = dg64 (k.val : Int) := by decide +kernel
theorem digS64_get (k : Nat) (h : k < digS64.size) : ((digS64[k]'h).toNat : Int) = dg64 k := digS64_fin ⟨k, h⟩
theorem and63 (n : Int) : bits .and .i64 n 63 = n % 64 := by
  show IntKind.i64.wrap ((BitVec.ofInt 64 n &&& BitVec.ofInt 64 63).toNat : Int) = _
  rw [BitVec.toNat_and, BitVec.toNat_ofInt, BitVec.toNat_ofInt]
  rw [show ((63 : Int) % (2 ^ 64 : Nat)).toNat = 2 ^ 6 - 1 by decide, Nat.and_two_pow_sub_one_eq_mod]
  rw [IntWalk.i64_in _ (by omega)]
  omega
/-- The place of a digit in the alphabet, or -1. -/
def at64 (c : Int) : Int := if isDig c then valI c else -1
theorem idx64_fin : ∀ c : Fin 256, Lib.indexByte digS64.data.toList (c.val.toUInt8) = at64 (c.val : Int) := by decide +kernel
theorem idx64 (c : Int) (h0 : 0 ≤ c) (h1 : c ≤ 255) : Lib.indexByte digS64.data.toList c.toNat.toUInt8 = at64 c := by
  have := idx64_fin ⟨c.toNat, by omega⟩
  simp only at this
  rwa [show ((c.toNat : Nat) : Int) = c by omega] at this

set_option maxHeartbeats 1000000 in
theorem bcode_Digit (n : Int) (w : World) :
    Calls Tryd.prog 91 #[.int .i64 n] w fun e w' => e = .returned (.int .u8 (dg64 (n % 64))) ∧ w = w' := by
  obtain ⟨m, hm⟩ : ∃ m : Nat, n % 64 = (m : Int) := ⟨(n % 64).toNat, by omega⟩
  have ha : bits .and .i64 n 63 = (m : Int) := by rw [and63, hm]
  have hlt : m < 64 := by omega
  rw [hm]
  clear hm
  go_enter Tryd.func91, Tryd.ntmps91
  go_wp2
  go_ret
  exact ⟨ret_int (digS64_get m _), rfl⟩
theorem ibS (s : ByteArray) (c : Int) (w : World) : (callFunc 85 #[.string s, .int .u8 c]).run Tryd.prog w = .ok (.value (.int .i64 (Lib.indexByte s.data.toList c.toNat.toUInt8))) w := by
  rw [run_callFunc_extern (fn := Tryd.f85) (e := Extern.BytealgIndexByte.indexByte) (by kernel_rfl) (by kernel_rfl) (by kernel_rfl) (by kernel_rfl) (by kernel_rfl)]
  rw [Lib.run_indexByteString]; rfl
theorem slite64 (c : Int) (w : World) (h0 : 0 ≤ c) (h1 : c ≤ 255) :
    Calls Tryd.prog 68 #[.string digS64, .int .u8 c] w fun e w' => e = .returned (.int .i64 (at64 c)) ∧ w = w' := by
  have hx := ibS digS64 c w
  rw [idx64 c h0 h1] at hx
  go_enter Tryd.func68, Tryd.ntmps68
  go_wp2
  go_ret
  exact ⟨rfl, rfl⟩
theorem strings64 (c : Int) (w : World) (h0 : 0 ≤ c) (h1 : c ≤ 255) :
    Calls Tryd.prog 57 #[.string digS64, .int .u8 c] w fun e w' => e = .returned (.int .i64 (at64 c)) ∧ w = w' := by
  go_enter Tryd.func57, Tryd.ntmps57
  go_wp2_with (go_at_call 68; (with_reducible refine (slite64 _ _ h0 h1).mono ?_); rintro e w' ⟨rfl, rfl⟩)
  go_ret
  exact ⟨rfl, rfl⟩
theorem bcode_Value (c : Int) (w : World) (h0 : 0 ≤ c) (h1 : c ≤ 255) :
    Calls Tryd.prog 46 #[.int .u8 c] w fun e w' => e = .returned (.tuple #[.int .i64 (valI c), .bool (isDig c)]) ∧ w = w' := by
  have hs := strings64 c w h0 h1
  have hb := val_bd c
  obtain ⟨hb0, hb1⟩ := hb
  cases hd : isDig c
  · have hv : valI c = 0 := by unfold isDig at hd; unfold valI; cases h : valN c with | none => rfl | some n => rw [h] at hd; cases hd
    unfold at64 at hs
    rw [hd, if_neg (by decide)] at hs
    rw [hv]
    have HS := hid hs
    clear hs hd hv
    go_enter Tryd.func46, Tryd.ntmps46
    go_wp2_with (go_at_call 57; (with_reducible refine HS.out.mono ?_); rintro e w' ⟨rfl, rfl⟩)
    go_ret2
    exact ⟨rfl, rfl⟩
  · unfold at64 at hs
    rw [hd, if_pos rfl] at hs
    obtain ⟨v, hv⟩ : ∃ v, v = valI c := ⟨_, rfl⟩
    rw [← hv] at hs hb0 hb1 ⊢
    have HS := hid hs
    clear hs hd hv
    go_enter Tryd.func46, Tryd.ntmps46
    go_wp2_with (go_at_call 57; (with_reducible refine HS.out.mono ?_); rintro e w' ⟨rfl, rfl⟩)
    go_ret2
    exact ⟨rfl, rfl⟩
set_option maxHeartbeats 1000000 in
theorem bcode_Len (n : Int) (w : World) (hn : n ≤ 1099511627776) :
    Calls Tryd.prog 83 #[.int .i64 n] w fun e w' => e = .returned (.int .i64 (lenB n)) ∧ w = w' := by
  unfold lenB
  by_cases h : n < 1
  · go_enter Tryd.func83, Tryd.ntmps83
    go_wp2
    go_ret
    exact ⟨ret_int (by first | rfl | rw [if_pos h]), rfl⟩
  · have h1 : 1 ≤ n := by omega
    rw [if_neg h]
    clear h
    go_enter Tryd.func83, Tryd.ntmps83
    go_wp2
    all_goals
      go_ret
      exact ⟨ret_int (by omega), rfl⟩
theorem or3 (a b c : Int) (ha0 : 0 ≤ a) (ha1 : a ≤ 255) (hb0 : 0 ≤ b) (hb1 : b ≤ 255) (hc0 : 0 ≤ c) (hc1 : c ≤ 255) : bits .or .i64 (bits .or .i64 (a * 65536) (b * 256)) c = a * 65536 + b * 256 + c := by
  rw [or_i64 16 (a * 65536) (b * 256) (by omega) (by omega) (by omega) (by omega) (by omega), or_i64 8 _ c (by omega) (by omega) (by omega) (by omega) (by omega)]
theorem heap_two (w : World) (x y : Obj) : ((w.alloc x).alloc y).heap[w.heap.size + 1]? = some y := by
  rw [show w.heap.size + 1 = (w.alloc x).heap.size by simp]; exact heap_alloc_last _ _
theorem rowCell {w : World} {g : Nat} {L : List Value} {t : TypeId} {fz : Nat × Nat} (h : w.heap[g]? = some (.cells L.toArray t fz)) {j : Nat} {v : Value} (hj : L[j]? = some v) : w.cell? ⟨g, j, none⟩ = some v := by
  simp [World.cell?, h, hj]
/-- The digits of a group, filled up from the place behind the last octet on (so far as place k). -/
def rowD (m k : Nat) (q0 q1 q2 q3 : Int) : List Int := [q0, q1, if m < 2 ∧ 2 < k then 61 else q2, if m < 3 ∧ 3 < k then 61 else q3]
theorem rowD_set {m k : Nat} {q0 q1 q2 q3 : Int} (h2 : 2 ≤ k) (hm : m < k) (h4 : k < 4) : (rowD m k q0 q1 q2 q3).set k 61 = rowD m (k + 1) q0 q1 q2 q3 := by
  have hk : k = 2 ∨ k = 3 := by omega
  rcases hk with rfl | rfl
  · simp [rowD, show m < 2 from hm]
  · by_cases h : m < 2 <;> simp [rowD, h, show m < 3 from hm]
/-- Two blocks more: what was there stands; the second one's first cells are the row. -/
theorem two_alloc (w : World) (x y : Obj) : Below w.heap.size w ((w.alloc x).alloc y) := ((Below.refl _ _).alloc (Nat.le_refl _) _).alloc (by simp) _
set_option maxHeartbeats 4000000 in
theorem bcode_laidM (b off m cap : Nat) (c0 c1 c2 : Int) (cs : List Value) (w : World) (hm : m = 1 ∨ m = 2 ∨ m = 3) (hcs : cs.length = m) (hone : ∀ v ∈ cs, v.oneCell' = true) (hbl : b < w.heap.size)
    (hsrc : ∀ j v, cs[j]? = some v → w.cell? ⟨b, off + j, none⟩ = some v) (hspl : splice [Value.int .u8 0, .int .u8 0, .int .u8 0] 0 cs = [.int .u8 c0, .int .u8 c1, .int .u8 c2]) (h0 : O8 c0) (h1 : O8 c1) (h2 : O8 c2) :
    Calls Tryd.prog 84 #[.slice (some ⟨b, off, none⟩) m cap] w fun e w' => e = .returned (.agg #[.int .u8 (dg64 (c0 / 4)), .int .u8 (dg64 (c0 % 4 * 16 + c1 / 16)), .int .u8 (if m < 2 then 61 else dg64 (c1 % 16 * 4 + c2 / 64)), .int .u8 (if m < 3 then 61 else dg64 (c2 % 64))]) ∧ Below w.heap.size w w' := by
  unfold O8 at h0 h1 h2
  have hor := or3 c0 c1 c2 h0.1 h0.2 h1.1 h1.2 h2.1 h2.2
  have hu0 : 0 ≤ c0 := h0.1
  have hu1 : c0 ≤ 255 := h0.2
  have hv0 : 0 ≤ c1 := h1.1
  have hv1 : c1 ≤ 255 := h1.2
  have hw0 : 0 ≤ c2 := h2.1
  have hw1 : c2 ≤ 255 := h2.2
  have HS := hid (fun (x y : Obj) j v (hv : cs[j]? = some v) => (show (((w.alloc x).alloc y).cell? ((⟨b, off, none⟩ : Addr).add j) = some v) by rw [Addr.add_lit, (two_alloc w x y).cell (p := ⟨b, off + j, none⟩) hbl]; exact hsrc j v hv))
  have HP := hid hspl
  have HC := hid hcs
  have HO := hid hone
  clear h0 h1 h2 hsrc hspl hcs hone
  obtain ⟨V, hV⟩ : ∃ V, V = c0 * 65536 + c1 * 256 + c2 := ⟨_, rfl⟩
  rw [← hV] at hor
  have hV0 : 0 ≤ V := by omega
  have hV1 : V ≤ 16777215 := by omega
  have E0 : Hid (V / 262144 % 64 = c0 / 4) := by unfold Hid; omega
  have E1 : Hid (V / 4096 % 64 = c0 % 4 * 16 + c1 / 16) := by unfold Hid; omega
  have E2 : Hid (V / 64 % 64 = c1 % 16 * 4 + c2 / 64) := by unfold Hid; omega
  have E3 : Hid (V % 64 = c2 % 64) := by unfold Hid; omega
  have HW := hid (show ∀ z ∈ [dg64 (V / 262144 % 64), dg64 (V / 4096 % 64), dg64 (V / 64 % 64), dg64 (V % 64)], (Lit.int .u8 z).wf = true by
    intro z hz
    simp only [List.mem_cons, List.not_mem_nil, or_false] at hz
    rcases hz with rfl | rfl | rfl | rfl <;> exact dg_wf ⟨by omega, by omega⟩)
  clear hV
  rcases hm with rfl | rfl | rfl
  · go_enter Tryd.func84, Tryd.ntmps84
    go_wp2_with (first
      | (refine wpList_copy_splice rfl (.tmp 7) (.tmp 8) 25 25 rfl 5 Tryd.underlying25 (by kernel_rfl) (some ⟨w.heap.size + 1, 0, none⟩) (some ⟨b, off, none⟩) 3 3 1 cap rfl rfl (w.heap.size + 1) 0 [.int .u8 0, .int .u8 0, .int .u8 0] 120 (heap_two w _ _) cs (by rw [HC.out]; decide) (fun _ => ⟨rfl, _, rfl, HS.out _ _⟩) (by rw [HC.out]; decide) HO.out (w.heap.size + 1) (w.alloc (.cells #[.int .u8 0, .int .u8 0, .int .u8 0, .int .u8 0] 114)) ((Below.refl _ _).alloc (by simp) _) (by omega) ?_; intro w2 HG2 hB2; rw [HP.out] at HG2; have k0 := rowCell HG2.out (j := 0) rfl; have k1 := rowCell HG2.out (j := 1) rfl; have k2 := rowCell HG2.out (j := 2) rfl; clear HG2)
      | (go_at_call 91; (with_reducible refine (bcode_Digit _ _).mono ?_); rintro e w' ⟨rfl, rfl⟩)
      | (refine wpList_storeNew (w0 := w2) .u8 [dg64 (V / 262144 % 64), dg64 (V / 4096 % 64), dg64 (V / 64 % 64), dg64 (V % 64)] _ _ _ rfl rfl _ rfl rfl rfl (by kernel_rfl) rfl ?_))
    have ho0 := Own.ofLit .u8 114 w2 [dg64 (V / 262144 % 64), dg64 (V / 4096 % 64), dg64 (V / 64 % 64), dg64 (V % 64)] (by simp [maxLen]) HW.out
    have hres : w2.heap[w.heap.size]? = some (.cells #[.int .u8 0, .int .u8 0, .int .u8 0, .int .u8 0] 114 (0, 0)) := (hB2.block w.heap.size (by omega)).trans (heap_alloc_last w _)
    have hlt2 : w.heap.size < w2.heap.size := by have := hB2.size; simp at this; omega
    have HRES := hid hres
    clear hres
    go_loopw [6] (fun i wr => ∃ k : Nat, 2 ≤ k ∧ k ≤ 4 ∧ i = .int .i64 k ∧ Own .u8 114 w2.heap.size wr (.slice (some ⟨w2.heap.size, 0, none⟩) 4 4) (rowD 1 k (dg64 (V / 262144 % 64)) (dg64 (V / 4096 % 64)) (dg64 (V / 64 % 64)) (dg64 (V % 64))) ∧ Below w2.heap.size w2 wr) (fun i _ => 4 - (intOf i).toNat)
    case atStart => exact ⟨2, by omega, by omega, rfl, ho0, (Below.refl _ _).alloc (Nat.le_refl _) _⟩
    case round =>
      obtain ⟨k, hk0, hk1, rfl, hown, hbel⟩ := hrel
      by_cases hlt : k < 4
      · obtain ⟨hcell, hfz⟩ := hown.at (j := k) hlt
        obtain ⟨ho2, hb2⟩ := hown.store hbel k (y := 61) (by decide)
        rw [rowD_set (by omega) (by omega) hlt] at ho2
        have HO2 := hid ho2
        clear ho2
        go_wp2_with fail
        go_roundw
        case rel => exact ⟨k + 1, by omega, by omega, by go_num, HO2.out, hb2⟩
        case measure => simp [intOf]; omega
      · obtain rfl : k = 4 := by omega
        rw [show rowD 1 4 (dg64 (V / 262144 % 64)) (dg64 (V / 4096 % 64)) (dg64 (V / 64 % 64)) (dg64 (V % 64)) = [dg64 (V / 262144 % 64), dg64 (V / 4096 % 64), 61, 61] by simp [rowD]] at hown
        have hrow := hid (hown.whole (by decide))
        have hsz : Hid ((Tryd.prog.info? 114).map (·.size) = some 4) := by unfold Hid; kernel_rfl
        have hr2 := hid ((hbel.block w.heap.size hlt2).trans HRES.out)
        go_wp2_with (first
          | (refine wpList_load_row rfl 114 (.tmp 5) rfl w2.heap.size _ rfl _ _ hrow.out 4 5 Tryd.underlying114 hsz.out ?_)
          | (refine wpList_store_row rfl 114 (.tmp 2) (.tmp 44) rfl w.heap.size _ rfl rfl _ _ hr2.out hsz.out rfl (ints_one .u8 [dg64 (V / 262144 % 64), dg64 (V / 4096 % 64), 61, 61]) ?_))
        refine bodyPost_ret (results_cell rfl _ _ _ w.heap.size _ _ _ rfl (setRow_heap wr w.heap.size _ _ _ _ hr2.out) 4 5 Tryd.underlying114 hsz.out) rfl ?_
        refine ⟨by rw [E0.out, E1.out], ?_⟩
        exact (((Below.refl _ _).alloc (Nat.le_refl _) _).trans (hB2.mono (by omega))).trans (hbel.mono (by omega)) |>.trans ⟨rfl, rfl, rfl, by simp [World.setRow], fun k hk => setRow_other wr w.heap.size k _ (by omega)⟩
  · go_enter Tryd.func84, Tryd.ntmps84
    go_wp2_with (first
      | (refine wpList_copy_splice rfl (.tmp 7) (.tmp 8) 25 25 rfl 5 Tryd.underlying25 (by kernel_rfl) (some ⟨w.heap.size + 1, 0, none⟩) (some ⟨b, off, none⟩) 3 3 2 cap rfl rfl (w.heap.size + 1) 0 [.int .u8 0, .int .u8 0, .int .u8 0] 120 (heap_two w _ _) cs (by rw [HC.out]; decide) (fun _ => ⟨rfl, _, rfl, HS.out _ _⟩) (by rw [HC.out]; decide) HO.out (w.heap.size + 1) (w.alloc (.cells #[.int .u8 0, .int .u8 0, .int .u8 0, .int .u8 0] 114)) ((Below.refl _ _).alloc (by simp) _) (by omega) ?_; intro w2 HG2 hB2; rw [HP.out] at HG2; have k0 := rowCell HG2.out (j := 0) rfl; have k1 := rowCell HG2.out (j := 1) rfl; have k2 := rowCell HG2.out (j := 2) rfl; clear HG2)
      | (go_at_call 91; (with_reducible refine (bcode_Digit _ _).mono ?_); rintro e w' ⟨rfl, rfl⟩)
      | (refine wpList_storeNew (w0 := w2) .u8 [dg64 (V / 262144 % 64), dg64 (V / 4096 % 64), dg64 (V / 64 % 64), dg64 (V % 64)] _ _ _ rfl rfl _ rfl rfl rfl (by kernel_rfl) rfl ?_))
    have ho0 := Own.ofLit .u8 114 w2 [dg64 (V / 262144 % 64), dg64 (V / 4096 % 64), dg64 (V / 64 % 64), dg64 (V % 64)] (by simp [maxLen]) HW.out
    have hres : w2.heap[w.heap.size]? = some (.cells #[.int .u8 0, .int .u8 0, .int .u8 0, .int .u8 0] 114 (0, 0)) := (hB2.block w.heap.size (by omega)).trans (heap_alloc_last w _)
    have hlt2 : w.heap.size < w2.heap.size := by have := hB2.size; simp at this; omega
    have HRES := hid hres
    clear hres
    go_loopw [6] (fun i wr => ∃ k : Nat, 3 ≤ k ∧ k ≤ 4 ∧ i = .int .i64 k ∧ Own .u8 114 w2.heap.size wr (.slice (some ⟨w2.heap.size, 0, none⟩) 4 4) (rowD 2 k (dg64 (V / 262144 % 64)) (dg64 (V / 4096 % 64)) (dg64 (V / 64 % 64)) (dg64 (V % 64))) ∧ Below w2.heap.size w2 wr) (fun i _ => 4 - (intOf i).toNat)
    case atStart => exact ⟨3, by omega, by omega, rfl, ho0, (Below.refl _ _).alloc (Nat.le_refl _) _⟩
    case round =>
      obtain ⟨k, hk0, hk1, rfl, hown, hbel⟩ := hrel
      by_cases hlt : k < 4
      · obtain ⟨hcell, hfz⟩ := hown.at (j := k) hlt
        obtain ⟨ho2, hb2⟩ := hown.store hbel k (y := 61) (by decide)
        rw [rowD_set (by omega) (by omega) hlt] at ho2
        have HO2 := hid ho2
        clear ho2
        go_wp2_with fail
        go_roundw
        case rel => exact ⟨k + 1, by omega, by omega, by go_num, HO2.out, hb2⟩
        case measure => simp [intOf]; omega
      · obtain rfl : k = 4 := by omega
        rw [show rowD 2 4 (dg64 (V / 262144 % 64)) (dg64 (V / 4096 % 64)) (dg64 (V / 64 % 64)) (dg64 (V % 64)) = [dg64 (V / 262144 % 64), dg64 (V / 4096 % 64), dg64 (V / 64 % 64), 61] by simp [rowD]] at hown
        have hrow := hid (hown.whole (by decide))
        have hsz : Hid ((Tryd.prog.info? 114).map (·.size) = some 4) := by unfold Hid; kernel_rfl
        have hr2 := hid ((hbel.block w.heap.size hlt2).trans HRES.out)
        go_wp2_with (first
          | (refine wpList_load_row rfl 114 (.tmp 5) rfl w2.heap.size _ rfl _ _ hrow.out 4 5 Tryd.underlying114 hsz.out ?_)
          | (refine wpList_store_row rfl 114 (.tmp 2) (.tmp 44) rfl w.heap.size _ rfl rfl _ _ hr2.out hsz.out rfl (ints_one .u8 [dg64 (V / 262144 % 64), dg64 (V / 4096 % 64), dg64 (V / 64 % 64), 61]) ?_))
        refine bodyPost_ret (results_cell rfl _ _ _ w.heap.size _ _ _ rfl (setRow_heap wr w.heap.size _ _ _ _ hr2.out) 4 5 Tryd.underlying114 hsz.out) rfl ?_
        refine ⟨by rw [E0.out, E1.out, E2.out], ?_⟩
        exact (((Below.refl _ _).alloc (Nat.le_refl _) _).trans (hB2.mono (by omega))).trans (hbel.mono (by omega)) |>.trans ⟨rfl, rfl, rfl, by simp [World.setRow], fun k hk => setRow_other wr w.heap.size k _ (by omega)⟩
  · go_enter Tryd.func84, Tryd.ntmps84
    go_wp2_with (first
      | (refine wpList_copy_splice rfl (.tmp 7) (.tmp 8) 25 25 rfl 5 Tryd.underlying25 (by kernel_rfl) (some ⟨w.heap.size + 1, 0, none⟩) (some ⟨b, off, none⟩) 3 3 3 cap rfl rfl (w.heap.size + 1) 0 [.int .u8 0, .int .u8 0, .int .u8 0] 120 (heap_two w _ _) cs (by rw [HC.out]; decide) (fun _ => ⟨rfl, _, rfl, HS.out _ _⟩) (by rw [HC.out]; decide) HO.out (w.heap.size + 1) (w.alloc (.cells #[.int .u8 0, .int .u8 0, .int .u8 0, .int .u8 0] 114)) ((Below.refl _ _).alloc (by simp) _) (by omega) ?_; intro w2 HG2 hB2; rw [HP.out] at HG2; have k0 := rowCell HG2.out (j := 0) rfl; have k1 := rowCell HG2.out (j := 1) rfl; have k2 := rowCell HG2.out (j := 2) rfl; clear HG2)
      | (go_at_call 91; (with_reducible refine (bcode_Digit _ _).mono ?_); rintro e w' ⟨rfl, rfl⟩)
      | (refine wpList_storeNew (w0 := w2) .u8 [dg64 (V / 262144 % 64), dg64 (V / 4096 % 64), dg64 (V / 64 % 64), dg64 (V % 64)] _ _ _ rfl rfl _ rfl rfl rfl (by kernel_rfl) rfl ?_))
    have ho0 := Own.ofLit .u8 114 w2 [dg64 (V / 262144 % 64), dg64 (V / 4096 % 64), dg64 (V / 64 % 64), dg64 (V % 64)] (by simp [maxLen]) HW.out
    have hres : w2.heap[w.heap.size]? = some (.cells #[.int .u8 0, .int .u8 0, .int .u8 0, .int .u8 0] 114 (0, 0)) := (hB2.block w.heap.size (by omega)).trans (heap_alloc_last w _)
    have hlt2 : w.heap.size < w2.heap.size := by have := hB2.size; simp at this; omega
    have HRES := hid hres
    clear hres
    go_loopw [6] (fun i wr => ∃ k : Nat, 4 ≤ k ∧ k ≤ 4 ∧ i = .int .i64 k ∧ Own .u8 114 w2.heap.size wr (.slice (some ⟨w2.heap.size, 0, none⟩) 4 4) (rowD 3 k (dg64 (V / 262144 % 64)) (dg64 (V / 4096 % 64)) (dg64 (V / 64 % 64)) (dg64 (V % 64))) ∧ Below w2.heap.size w2 wr) (fun i _ => 4 - (intOf i).toNat)
    case atStart => exact ⟨4, by omega, by omega, rfl, ho0, (Below.refl _ _).alloc (Nat.le_refl _) _⟩
    case round =>
      obtain ⟨k, hk0, hk1, rfl, hown, hbel⟩ := hrel
      by_cases hlt : k < 4
      · exact absurd hlt (by omega)
      · obtain rfl : k = 4 := by omega
        rw [show rowD 3 4 (dg64 (V / 262144 % 64)) (dg64 (V / 4096 % 64)) (dg64 (V / 64 % 64)) (dg64 (V % 64)) = [dg64 (V / 262144 % 64), dg64 (V / 4096 % 64), dg64 (V / 64 % 64), dg64 (V % 64)] by simp [rowD]] at hown
        have hrow := hid (hown.whole (by decide))
        have hsz : Hid ((Tryd.prog.info? 114).map (·.size) = some 4) := by unfold Hid; kernel_rfl
        have hr2 := hid ((hbel.block w.heap.size hlt2).trans HRES.out)
        go_wp2_with (first
          | (refine wpList_load_row rfl 114 (.tmp 5) rfl w2.heap.size _ rfl _ _ hrow.out 4 5 Tryd.underlying114 hsz.out ?_)
          | (refine wpList_store_row rfl 114 (.tmp 2) (.tmp 44) rfl w.heap.size _ rfl rfl _ _ hr2.out hsz.out rfl (ints_one .u8 [dg64 (V / 262144 % 64), dg64 (V / 4096 % 64), dg64 (V / 64 % 64), dg64 (V % 64)]) ?_))
        refine bodyPost_ret (results_cell rfl _ _ _ w.heap.size _ _ _ rfl (setRow_heap wr w.heap.size _ _ _ _ hr2.out) 4 5 Tryd.underlying114 hsz.out) rfl ?_
        refine ⟨by rw [E0.out, E1.out, E2.out, E3.out], ?_⟩
        exact (((Below.refl _ _).alloc (Nat.le_refl _) _).trans (hB2.mono (by omega))).trans (hbel.mono (by omega)) |>.trans ⟨rfl, rfl, rfl, by simp [World.setRow], fun k hk => setRow_other wr w.heap.size k _ (by omega)⟩
end Go.Proofs.YtobjdamlmaaidaaDoor

/-! D04 -/
namespace Go.Proofs.YtobjdamlmaaidaaDoor
open Go.RowKit
set_option linter.unusedVariables false

/-- The first element: where it lies. -/
theorem Reads.head8 {w : World} {a : Option Addr} {len cap : Nat} {x : Int} {r : List Int} (h : Reads .u8 w a len cap (x :: r)) :
    ∃ b off, a = some ⟨b, off, none⟩ ∧ b < w.heap.size ∧ w.cell? ⟨b, off, none⟩ = some (.int .u8 x) ∧ 0 ≤ x ∧ x ≤ 255 := by
  have hl : 0 < len := by have := h.size; simp at this; omega
  obtain ⟨b, off, y, rfl, hb, hc, h0, h1, hx⟩ := h.get8 hl
  obtain rfl : x = y := by have := hx.out.1; simpa using this
  exact ⟨b, off, rfl, hb, by simpa using hc, h0, h1⟩

/-- How many octets a number has; which. -/
def lenI (c : Int) : Nat := if scB c = true then (if c < 128 then 1 else if c < 2048 then 2 else if c < 65536 then 3 else 4) else 0
def octs (c : Int) : List Int :=
  if scB c = true then
    (if c < 128 then [c] else if c < 2048 then [192 + c / 64, 128 + c % 64] else if c < 65536 then [224 + c / 4096, 128 + c / 64 % 64, 128 + c % 64]
     else [240 + c / 262144, 128 + c / 4096 % 64, 128 + c / 64 % 64, 128 + c % 64])
  else []
theorem octs_len (c : Int) : (octs c).length = lenI c := by
  unfold octs lenI; (repeat' split) <;> rfl
theorem len_pos (c : Int) : (0 < lenI c) ↔ scB c = true := by
  unfold lenI; split
  · (repeat' split) <;> simp_all
  · simp_all
theorem lenI_le (c : Int) : lenI c ≤ 4 := by unfold lenI; (repeat' split) <;> omega
theorem octs_wf (c : Int) : ∀ x ∈ octs c, (Lit.int .u8 x).wf = true := by
  intro x hx
  unfold octs at hx
  split at hx
  · rename_i h
    have := (scB_iff c).1 h
    (repeat' split at hx) <;> simp only [List.mem_cons, List.not_mem_nil, or_false] at hx
    · subst hx; exact mk_u8 (by omega) (by omega)
    · rcases hx with rfl | rfl <;> exact mk_u8 (by omega) (by omega)
    · rcases hx with rfl | rfl | rfl <;> exact mk_u8 (by omega) (by omega)
    · rcases hx with rfl | rfl | rfl | rfl <;> exact mk_u8 (by omega) (by omega)
  · cases hx

/-- How many octets begin so; does an octet follow; may it stand there. -/
def startN (a : Int) : Nat := if a < 128 then 1 else if a < 194 then 0 else if a < 224 then 2 else if a < 240 then 3 else if a ≤ 244 then 4 else 0
def folB (y : Int) : Bool := decide (128 ≤ y ∧ y ≤ 191)
def loU (a : Int) : Int := if a = 224 then 160 else if a = 240 then 144 else 128
def hiU (a : Int) : Int := if a = 237 then 159 else if a = 244 then 143 else 191
def okU (a : Int) (i : Nat) (y : Int) : Bool := if i = 1 then decide (loU a ≤ y ∧ y ≤ hiU a) else folB y
def runU (a : Int) : Nat → List Int → Nat
  | _, [] => 0
  | i, y :: r => if i < startN a ∧ okU a i y = true then 1 + runU a (i + 1) r else 0
/-- How many octets are well formed so far. -/
def farN : List Int → Nat
  | [] => 0
  | a :: r => if startN a = 0 then 0 else 1 + runU a 1 r
def markI (n : Nat) : Int := if n = 2 then 192 else if n = 3 then 224 else if n = 4 then 240 else 0
def accU (c : Int) (ys : List Int) : Int := ys.foldl (fun c y => 64 * c + (y - 128)) c
/-- The bits of the octets that are well formed so far. -/
def topU (a : Int) (r : List Int) (k : Nat) : Int := accU (a - markI (startN a)) (r.take (k - 1))
def whole (xs : List Int) : Bool := decide (xs.head?.map startN = some (farN xs) ∧ 0 < farN xs)
def takC (xs : List Int) : Int := if whole xs = true then topU (xs.headD 0) xs.tail (farN xs) else 0
def takN (xs : List Int) : Nat := if xs = [] then 0 else max (farN xs) 1
def takE (xs : List Int) : Int := if whole xs = true then 0 else if farN xs = xs.length then 4 else 3
def subN (xs : List Int) : Nat := if takE xs = 0 then 0 else takN xs

theorem startN_le (a : Int) : startN a ≤ 4 := by unfold startN; (repeat' split) <;> omega
theorem run_step {a : Int} {r : List Int} {k : Nat} {y : Int} (hk : 1 ≤ k) (hy : r[k - 1]? = some y) (h1 : k < startN a) (h2 : okU a k y = true) :
    k + runU a k (r.drop (k - 1)) = (k + 1) + runU a (k + 1) (r.drop (k + 1 - 1)) := by
  have hl : k - 1 < r.length := (List.getElem?_eq_some_iff.1 hy).1
  have e : r[k - 1] = y := (List.getElem?_eq_some_iff.1 hy).2
  rw [List.drop_eq_getElem_cons hl, e, runU, if_pos ⟨h1, h2⟩, show k - 1 + 1 = k + 1 - 1 by omega]; omega
theorem run_stop {a : Int} {r : List Int} {k : Nat} {y : Int} (hk : 1 ≤ k) (hy : r[k - 1]? = some y) (h : ¬ (k < startN a) ∨ okU a k y = false) :
    k + runU a k (r.drop (k - 1)) = k := by
  have hl : k - 1 < r.length := (List.getElem?_eq_some_iff.1 hy).1
  have e : r[k - 1] = y := (List.getElem?_eq_some_iff.1 hy).2
  have hn : ¬ (k < startN a ∧ okU a k y = true) := by
    rcases h with h | h
    · exact fun hh => h hh.1
    · exact fun hh => by rw [h] at hh; exact absurd hh.2 (by decide)
  rw [List.drop_eq_getElem_cons hl, e, runU, if_neg hn]; rfl
theorem run_end {a : Int} {r : List Int} {k : Nat} (h : r.length ≤ k - 1) : k + runU a k (r.drop (k - 1)) = k := by
  rw [List.drop_of_length_le h]; rfl
theorem run_full {a : Int} {r : List Int} {k : Nat} (h : startN a ≤ k) : k + runU a k (r.drop (k - 1)) = k := by
  cases hr : r.drop (k - 1) with
  | nil => rfl
  | cons y r' => rw [runU, if_neg (by omega)]; rfl
theorem run_le (a : Int) : ∀ (r : List Int) (i : Nat), runU a i r ≤ r.length
  | [], _ => Nat.le_refl _
  | y :: r, i => by
    rw [runU]; split
    · have := run_le a r (i + 1); simp; omega
    · exact Nat.zero_le _
theorem far_le (xs : List Int) : farN xs ≤ xs.length := by
  cases xs with
  | nil => exact Nat.le_refl _
  | cons a r => rw [farN]; split
                · exact Nat.zero_le _
                · have := run_le a r 1; simp; omega
theorem run_max (a : Int) : ∀ (r : List Int) (i : Nat), 1 ≤ startN a → i ≤ startN a → i + runU a i r ≤ startN a
  | [], i, _, h => by simpa [runU] using h
  | y :: r, i, h1, h => by
    rw [runU]; split
    · rename_i hh; have := run_max a r (i + 1) h1 (by omega); omega
    · simpa using h
theorem far_max {a : Int} {r : List Int} : farN (a :: r) ≤ startN a := by
  rw [farN]; split
  · omega
  · exact run_max a r 1 (by omega) (by omega)

theorem run_ok (a : Int) : ∀ (r : List Int) (i j : Nat), j < runU a i r → ∃ y, r[j]? = some y ∧ okU a (i + j) y = true
  | [], _, _, h => by simp [runU] at h
  | y :: r, i, j, h => by
    rw [runU] at h
    split at h
    · rename_i hh
      cases j with
      | zero => exact ⟨y, rfl, by simpa using hh.2⟩
      | succ j =>
        obtain ⟨z, h1, h2⟩ := run_ok a r (i + 1) j (by omega)
        exact ⟨z, by simpa using h1, by rwa [show i + (j + 1) = i + 1 + j by omega]⟩
    · omega
theorem far_ok {a y : Int} {r : List Int} {k : Nat} (hk : 1 ≤ k) (h : k < farN (a :: r)) (hy : r[k - 1]? = some y) : okU a k y = true := by
  rw [farN] at h
  split at h
  · omega
  · obtain ⟨z, h1, h2⟩ := run_ok a r 1 (k - 1) (by omega)
    rw [hy] at h1
    cases h1
    rwa [show 1 + (k - 1) = k by omega] at h2

/-- The bits of what is well formed so far, and of what is left. -/
def shf (l : Nat) : Int := if l = 0 then 1 else if l = 1 then 64 else if l = 2 then 4096 else 262144
def topGood (a : Int) (k : Nat) (t : Int) : Prop := (k = 1 ∧ t = a - markI (startN a)) ∨ (2 ≤ k ∧ lenI (t * shf (startN a - k)) = startN a)

theorem acc_snoc (c : Int) (ys : List Int) (y : Int) : accU c (ys ++ [y]) = 64 * accU c ys + (y - 128) := by simp [accU]
theorem top_one (a : Int) (r : List Int) : topU a r 1 = a - markI (startN a) := by simp [topU, accU]
theorem top_next {a : Int} {r : List Int} {k : Nat} {y : Int} (hk : 1 ≤ k) (h : r.take (k - 1 + 1) = r.take (k - 1) ++ [y]) : topU a r (k + 1) = 64 * topU a r k + (y - 128) := by
  unfold topU
  rw [show k + 1 - 1 = k - 1 + 1 by omega, h, acc_snoc]

/-- The number's length, as arithmetic. -/
theorem lenI_1 {c : Int} : lenI c = 1 ↔ 0 ≤ c ∧ c < 128 := by
  unfold lenI scB; simp only [decide_eq_true_eq]; (repeat' split) <;> omega
theorem lenI_2 {c : Int} : lenI c = 2 ↔ 128 ≤ c ∧ c < 2048 := by
  unfold lenI scB; simp only [decide_eq_true_eq]; (repeat' split) <;> omega
theorem lenI_3 {c : Int} : lenI c = 3 ↔ 2048 ≤ c ∧ c < 65536 ∧ ¬ (55296 ≤ c ∧ c ≤ 57343) := by
  unfold lenI scB; simp only [decide_eq_true_eq]; (repeat' split) <;> omega
theorem lenI_4 {c : Int} : lenI c = 4 ↔ 65536 ≤ c ∧ c ≤ 1114111 := by
  unfold lenI scB; simp only [decide_eq_true_eq]; (repeat' split) <;> omega
theorem start_2 {a : Int} : startN a = 2 ↔ 194 ≤ a ∧ a < 224 := by unfold startN; (repeat' split) <;> omega
theorem start_3 {a : Int} : startN a = 3 ↔ 224 ≤ a ∧ a < 240 := by unfold startN; (repeat' split) <;> omega
theorem start_4 {a : Int} : startN a = 4 ↔ 240 ≤ a ∧ a ≤ 244 := by unfold startN; (repeat' split) <;> omega
theorem start_1 {a : Int} : startN a = 1 ↔ a < 128 := by unfold startN; (repeat' split) <;> omega
theorem fol_iff (y : Int) : folB y = true ↔ 128 ≤ y ∧ y ≤ 191 := decide_eq_true_iff

/-- The program's test of one octet more is the document's. -/
theorem some_iff {a y t : Int} {k : Nat} (hk : 1 ≤ k) (hkw : k < startN a) (hg : topGood a k t) (hy : folB y = true) :
    lenI ((64 * t + (y - 128)) * shf (startN a - k - 1)) = startN a ↔ okU a k y = true := by
  rw [fol_iff] at hy
  have hs := startN_le a
  rcases hg with ⟨rfl, rfl⟩ | ⟨h2, hg⟩
  · have hok : okU a 1 y = true ↔ loU a ≤ y ∧ y ≤ hiU a := by simp [okU]
    rw [hok]
    rcases (show startN a = 2 ∨ startN a = 3 ∨ startN a = 4 by omega) with h | h | h
    · rw [h, show shf (2 - 1 - 1) = 1 by rfl, show markI 2 = 192 by rfl, lenI_2]
      rw [start_2] at h
      unfold loU hiU; (repeat' split) <;> omega
    · rw [h, show shf (3 - 1 - 1) = 64 by rfl, show markI 3 = 224 by rfl, lenI_3]
      rw [start_3] at h
      unfold loU hiU; (repeat' split) <;> omega
    · rw [h, show shf (4 - 1 - 1) = 4096 by rfl, show markI 4 = 240 by rfl, lenI_4]
      rw [start_4] at h
      unfold loU hiU; (repeat' split) <;> omega
  · have hok : okU a k y = true := by unfold okU; rw [if_neg (by omega)]; rw [fol_iff]; exact hy
    rw [hok]
    simp only [iff_true]
    rcases (show (startN a = 3 ∧ k = 2) ∨ (startN a = 4 ∧ k = 2) ∨ (startN a = 4 ∧ k = 3) by omega) with ⟨h, rfl⟩ | ⟨h, rfl⟩ | ⟨h, rfl⟩
    · rw [h, show shf (3 - 2) = 64 by rfl, lenI_3] at hg
      rw [h, show shf (3 - 2 - 1) = 1 by rfl, lenI_3]; omega
    · rw [h, show shf (4 - 2) = 4096 by rfl, lenI_4] at hg
      rw [h, show shf (4 - 2 - 1) = 64 by rfl, lenI_4]; omega
    · rw [h, show shf (4 - 3) = 64 by rfl, lenI_4] at hg
      rw [h, show shf (4 - 3 - 1) = 1 by rfl, lenI_4]; omega
theorem good_next {a y t : Int} {k : Nat} (hk : 1 ≤ k) (hkw : k < startN a) (hg : topGood a k t) (hf : folB y = true) (hy : okU a k y = true) : topGood a (k + 1) (64 * t + (y - 128)) :=
  .inr ⟨by omega, by have := (some_iff hk hkw hg hf).2 hy; rwa [show startN a - (k + 1) = startN a - k - 1 by omega]⟩
theorem ok_fol {a y : Int} {k : Nat} (h : okU a k y = true) : folB y = true := by
  rw [fol_iff]
  unfold okU at h
  split at h
  · rw [decide_eq_true_iff] at h
    unfold loU hiU at h; (repeat' split at h) <;> omega
  · exact (fol_iff y).1 h
theorem good_bd {a t : Int} {k : Nat} (h0 : 0 ≤ a) (hk : 1 ≤ k) (hkw : k ≤ startN a) (hg : topGood a k t) : 0 ≤ t ∧ t ≤ 1114111 ∧ (k < startN a → 0 ≤ t ∧ t ≤ 17407) ∧ (k + 2 ≤ startN a → t ≤ 271) ∧ (k + 3 ≤ startN a → t ≤ 4) := by
  have hs := startN_le a
  rcases hg with ⟨rfl, rfl⟩ | ⟨h2, hg⟩
  · rcases (show startN a = 1 ∨ startN a = 2 ∨ startN a = 3 ∨ startN a = 4 by omega) with h | h | h | h
    · rw [h]; rw [start_1] at h; simp only [markI]; simp; omega
    · rw [h]; rw [start_2] at h; simp only [markI]; simp; omega
    · rw [h]; rw [start_3] at h; simp only [markI]; simp; omega
    · rw [h]; rw [start_4] at h; simp only [markI]; simp; omega
  · rcases (show (startN a = 2 ∧ k = 2) ∨ (startN a = 3 ∧ k = 2) ∨ (startN a = 3 ∧ k = 3) ∨ (startN a = 4 ∧ k = 2) ∨ (startN a = 4 ∧ k = 3) ∨ (startN a = 4 ∧ k = 4) by omega) with ⟨h, rfl⟩ | ⟨h, rfl⟩ | ⟨h, rfl⟩ | ⟨h, rfl⟩ | ⟨h, rfl⟩ | ⟨h, rfl⟩
    · rw [h, show shf (2 - 2) = 1 by rfl, lenI_2] at hg; omega
    · rw [h, show shf (3 - 2) = 64 by rfl, lenI_3] at hg; omega
    · rw [h, show shf (3 - 3) = 1 by rfl, lenI_3] at hg; omega
    · rw [h, show shf (4 - 2) = 4096 by rfl, lenI_4] at hg; omega
    · rw [h, show shf (4 - 3) = 64 by rfl, lenI_4] at hg; omega
    · rw [h, show shf (4 - 4) = 1 by rfl, lenI_4] at hg; omega

theorem tail_get {a y : Int} {r : List Int} {k : Nat} (hk : 1 ≤ k) (h : (a :: r)[k]? = some y) : r[k - 1]? = some y := by
  obtain ⟨k, rfl⟩ : ∃ m, k = m + 1 := ⟨k - 1, by omega⟩
  simpa using h
theorem tail_take {y : Int} {r : List Int} {k : Nat} (h : r[k - 1]? = some y) : r.take (k - 1 + 1) = r.take (k - 1) ++ [y] := by
  have hl := (List.getElem?_eq_some_iff.1 h).1
  have e := (List.getElem?_eq_some_iff.1 h).2
  rw [take_next hl, e]
theorem far_cons {a : Int} {r : List Int} (h : startN a ≠ 0) : farN (a :: r) = 1 + runU a 1 (r.drop (1 - 1)) := by rw [farN, if_neg h]; rfl
theorem far_zero {a : Int} {r : List Int} (h : startN a = 0) : farN (a :: r) = 0 := by rw [farN, if_pos h]
theorem ok_one {a y : Int} : okU a 1 y = true ↔ loU a ≤ y ∧ y ≤ hiU a := by simp [okU]
theorem ok_two {a y : Int} {k : Nat} (hk : k ≠ 1) : okU a k y = true ↔ 128 ≤ y ∧ y ≤ 191 := by unfold okU; rw [if_neg hk, fol_iff]

/-- Take's answers, from the far end. -/
theorem take_of {a : Int} {r : List Int} : whole (a :: r) = decide (startN a = farN (a :: r) ∧ 0 < farN (a :: r)) := by
  unfold whole; simp

theorem take_nil : takC [] = 0 ∧ takN [] = 0 ∧ takE [] = 4 := by decide
theorem take_whole {a : Int} {r : List Int} (h : startN a = farN (a :: r)) (h0 : 0 < farN (a :: r)) : takC (a :: r) = topU a r (farN (a :: r)) ∧ takN (a :: r) = farN (a :: r) ∧ takE (a :: r) = 0 := by
  have hw : whole (a :: r) = true := by rw [take_of]; exact decide_eq_true ⟨h, h0⟩
  refine ⟨by unfold takC; rw [if_pos hw]; rfl, by unfold takN; rw [if_neg (by simp)]; omega, by unfold takE; rw [if_pos hw]⟩
theorem take_part {a : Int} {r : List Int} (h : ¬ (startN a = farN (a :: r) ∧ 0 < farN (a :: r))) (h1 : farN (a :: r) = (a :: r).length) : takC (a :: r) = 0 ∧ takN (a :: r) = farN (a :: r) ∧ takE (a :: r) = 4 := by
  have hw : whole (a :: r) = false := by rw [take_of]; exact decide_eq_false h
  refine ⟨by unfold takC; rw [hw]; rfl, by unfold takN; rw [if_neg (by simp)]; simp at h1; omega, by unfold takE; rw [hw, if_neg (by simp), if_pos h1]⟩
theorem take_form {a : Int} {r : List Int} (h : ¬ (startN a = farN (a :: r) ∧ 0 < farN (a :: r))) (h1 : farN (a :: r) ≠ (a :: r).length) : takC (a :: r) = 0 ∧ takN (a :: r) = max (farN (a :: r)) 1 ∧ takE (a :: r) = 3 := by
  have hw : whole (a :: r) = false := by rw [take_of]; exact decide_eq_false h
  refine ⟨by unfold takC; rw [hw]; rfl, by unfold takN; rw [if_neg (by simp)], by unfold takE; rw [hw, if_neg (by simp), if_neg h1]⟩

end Go.Proofs.YtobjdamlmaaidaaDoor

/-! D04b -/
namespace Go.Proofs.YtobjdamlmaaidaaDoor
open Go.RowKit
set_option linter.unusedVariables false

theorem len_start {c : Int} (hs : scB c = true) : ∃ a r, octs c = a :: r ∧ startN a = lenI c ∧ 0 ≤ a ∧ a ≤ 255 := by
  have h := (scB_iff c).1 hs
  rcases (show c < 128 ∨ (128 ≤ c ∧ c < 2048) ∨ (2048 ≤ c ∧ c < 65536) ∨ 65536 ≤ c by omega) with c1 | ⟨c1, c2⟩ | ⟨c1, c2⟩ | c1
  · rw [lenI_1.2 ⟨by omega, c1⟩]
    refine ⟨c, [], by unfold octs; rw [if_pos hs, if_pos c1], start_1.2 c1, by omega, by omega⟩
  · rw [lenI_2.2 ⟨by omega, c2⟩]
    refine ⟨_, _, by unfold octs; rw [if_pos hs, if_neg (by omega), if_pos c2], start_2.2 ⟨by omega, by omega⟩, by omega, by omega⟩
  · rw [lenI_3.2 ⟨by omega, c2, h.2.2⟩]
    refine ⟨_, _, by unfold octs; rw [if_pos hs, if_neg (by omega), if_neg (by omega), if_pos c2], start_3.2 ⟨by omega, by omega⟩, by omega, by omega⟩
  · rw [lenI_4.2 ⟨by omega, h.2.1⟩]
    refine ⟨_, _, by unfold octs; rw [if_pos hs, if_neg (by omega), if_neg (by omega), if_neg (by omega)], start_4.2 ⟨by omega, by omega⟩, by omega, by omega⟩

/-- A sign's octets, whatever stands behind. -/
theorem far_octs (c : Int) (t : List Int) (hs : scB c = true) : farN (octs c ++ t) = lenI c ∧ topU ((octs c ++ t).headD 0) (octs c ++ t).tail (lenI c) = c := by
  have h := (scB_iff c).1 hs
  rcases (show c < 128 ∨ (128 ≤ c ∧ c < 2048) ∨ (2048 ≤ c ∧ c < 65536) ∨ 65536 ≤ c by omega) with c1 | ⟨c1, c2⟩ | ⟨c1, c2⟩ | c1
  · have ho : octs c = [c] := by unfold octs; rw [if_pos hs, if_pos c1]
    have hst := start_1.2 c1
    rw [ho, lenI_1.2 ⟨by omega, c1⟩]
    constructor
    · show farN (c :: t) = 1
      rw [far_cons (by omega), run_full (by omega)]
    · show topU c t 1 = c
      rw [top_one, hst]; simp [markI]
  · have ho : octs c = [192 + c / 64, 128 + c % 64] := by unfold octs; rw [if_pos hs, if_neg (by omega), if_pos c2]
    have hst : startN (192 + c / 64) = 2 := start_2.2 ⟨by omega, by omega⟩
    have o1 : okU (192 + c / 64) 1 (128 + c % 64) = true := by rw [ok_one]; unfold loU hiU; (repeat' split) <;> omega
    rw [ho, lenI_2.2 ⟨by omega, c2⟩]
    constructor
    · show farN ((192 + c / 64) :: (128 + c % 64) :: t) = 2
      rw [far_cons (by omega), run_step (Nat.le_refl _) rfl (by omega) o1, run_full (by omega)]
    · show topU (192 + c / 64) ((128 + c % 64) :: t) 2 = c
      simp only [topU, hst, markI, accU, List.take, List.foldl]; simp; omega
  · have ho : octs c = [224 + c / 4096, 128 + c / 64 % 64, 128 + c % 64] := by unfold octs; rw [if_pos hs, if_neg (by omega), if_neg (by omega), if_pos c2]
    have hst : startN (224 + c / 4096) = 3 := start_3.2 ⟨by omega, by omega⟩
    have o1 : okU (224 + c / 4096) 1 (128 + c / 64 % 64) = true := by rw [ok_one]; unfold loU hiU; (repeat' split) <;> omega
    have o2 : okU (224 + c / 4096) 2 (128 + c % 64) = true := by rw [ok_two (by omega)]; omega
    rw [ho, lenI_3.2 ⟨by omega, c2, h.2.2⟩]
    constructor
    · show farN ((224 + c / 4096) :: (128 + c / 64 % 64) :: (128 + c % 64) :: t) = 3
      rw [far_cons (by omega), run_step (Nat.le_refl _) rfl (by omega) o1, run_step (by omega) rfl (by omega) o2, run_full (by omega)]
    · show topU (224 + c / 4096) ((128 + c / 64 % 64) :: (128 + c % 64) :: t) 3 = c
      simp only [topU, hst, markI, accU, List.take, List.foldl]; simp; omega
  · have ho : octs c = [240 + c / 262144, 128 + c / 4096 % 64, 128 + c / 64 % 64, 128 + c % 64] := by unfold octs; rw [if_pos hs, if_neg (by omega), if_neg (by omega), if_neg (by omega)]
    have hst : startN (240 + c / 262144) = 4 := start_4.2 ⟨by omega, by omega⟩
    have o1 : okU (240 + c / 262144) 1 (128 + c / 4096 % 64) = true := by rw [ok_one]; unfold loU hiU; (repeat' split) <;> omega
    have o2 : okU (240 + c / 262144) 2 (128 + c / 64 % 64) = true := by rw [ok_two (by omega)]; omega
    have o3 : okU (240 + c / 262144) 3 (128 + c % 64) = true := by rw [ok_two (by omega)]; omega
    rw [ho, lenI_4.2 ⟨by omega, h.2.1⟩]
    constructor
    · show farN ((240 + c / 262144) :: (128 + c / 4096 % 64) :: (128 + c / 64 % 64) :: (128 + c % 64) :: t) = 4
      rw [far_cons (by omega), run_step (Nat.le_refl _) rfl (by omega) o1, run_step (by omega) rfl (by omega) o2, run_step (by omega) rfl (by omega) o3, run_full (by omega)]
    · show topU (240 + c / 262144) ((128 + c / 4096 % 64) :: (128 + c / 64 % 64) :: (128 + c % 64) :: t) 4 = c
      simp only [topU, hst, markI, accU, List.take, List.foldl]; simp; omega

theorem take_octs (c : Int) (t : List Int) (hs : scB c = true) : takC (octs c ++ t) = c ∧ takN (octs c ++ t) = lenI c ∧ takE (octs c ++ t) = 0 := by
  have hf := far_octs c t hs
  obtain ⟨a, r, ho, hst, _, _⟩ := len_start hs
  rw [ho, List.cons_append] at hf ⊢
  have hp := (len_pos c).2 hs
  have T := take_whole (a := a) (r := r ++ t) (by rw [hf.1, hst]) (by rw [hf.1]; exact hp)
  rw [hf.1] at T
  exact ⟨T.1.trans hf.2, T.2.1, T.2.2⟩

/-- What is taken is a sign, and its octets. -/
theorem octs_take (xs : List Int) (hb : ∀ x ∈ xs, 0 ≤ x ∧ x ≤ 255) (h : takE xs = 0) : scB (takC xs) = true ∧ octs (takC xs) = xs.take (takN xs) ∧ takN xs = lenI (takC xs) ∧ takN xs ≤ xs.length := by
  have hw : whole xs = true := by
    unfold takE at h
    split at h
    · assumption
    · split at h <;> omega
  cases xs with
  | nil => exact absurd h (by decide)
  | cons a r =>
    rw [take_of, decide_eq_true_iff] at hw
    have T := take_whole hw.1 hw.2
    have hl := far_le (a :: r)
    have ha := hb a (List.mem_cons_self)
    have h4 := startN_le a
    rw [T.1, T.2.1]
    have key : octs (topU a r (farN (a :: r))) = (a :: r).take (farN (a :: r)) ∧ lenI (topU a r (farN (a :: r))) = farN (a :: r) := by
      have get : ∀ k, k < r.length → ∃ y, r[k]? = some y := fun k hk => ⟨r[k], List.getElem?_eq_getElem hk⟩
      have sc : ∀ t : Int, 0 < lenI t → scB t = true := fun t ht => (len_pos t).1 ht
      rcases (show startN a = 1 ∨ startN a = 2 ∨ startN a = 3 ∨ startN a = 4 by omega) with hn | hn | hn | hn
      all_goals
        have hF := hw.1.symm.trans hn
        rw [hF] at hl
        have g1 : topGood a 1 (topU a r 1) := .inl ⟨rfl, top_one a r⟩
        have okF := fun k (hk : 1 ≤ k) (hk2 : k < farN (a :: r)) y hy => far_ok (a := a) (y := y) (r := r) hk hk2 hy
        rw [hF] at okF ⊢
      · have hst := start_1.1 hn
        rw [top_one, hn, show markI 1 = 0 by rfl, Int.sub_zero]
        have hlen : lenI a = 1 := lenI_1.2 ⟨ha.1, hst⟩
        refine ⟨?_, hlen⟩
        unfold octs
        rw [if_pos (sc a (by omega)), if_pos hst]; rfl
      · match r, hl, okF with
        | b :: r, hl, okF =>
          have o1 := okF 1 (by omega) (by omega) b rfl
          have hst := start_2.1 hn
          have hg := good_next (Nat.le_refl 1) (by omega) (.inl ⟨rfl, rfl⟩) (ok_fol o1) o1
          rcases hg with ⟨h', _⟩ | ⟨_, hg⟩
          · omega
          have hbb := (fol_iff b).1 (ok_fol o1)
          have ht : topU a (b :: r) 2 = 64 * (a - markI (startN a)) + (b - 128) := by simp [topU, accU]
          rw [ht]
          rw [hn, show shf (2 - (1 + 1)) = 1 by rfl, Int.mul_one] at hg
          rw [show markI 2 = 192 by rfl] at hg
          rw [hn, show markI 2 = 192 by rfl]
          refine ⟨?_, hg⟩
          have hc := lenI_2.1 hg
          unfold octs
          rw [if_pos (sc _ (by omega)), if_neg (by omega), if_pos hc.2, show (64 * (a - 192) + (b - 128)) / 64 = a - 192 by omega, show (64 * (a - 192) + (b - 128)) % 64 = b - 128 by omega,
            show 192 + (a - 192) = a by omega, show 128 + (b - 128) = b by omega]
          rfl
      · match r, hl, okF with
        | b :: c :: r, hl, okF =>
          have o1 := okF 1 (by omega) (by omega) b rfl
          have o2 := okF 2 (by omega) (by omega) c rfl
          have hst := start_3.1 hn
          have hg := good_next (by omega) (by omega) (good_next (Nat.le_refl 1) (by omega) (.inl ⟨rfl, rfl⟩) (ok_fol o1) o1) (ok_fol o2) o2
          rcases hg with ⟨h', _⟩ | ⟨_, hg⟩
          · omega
          have hbb := (fol_iff b).1 (ok_fol o1)
          have hcc := (fol_iff c).1 (ok_fol o2)
          have ht : topU a (b :: c :: r) 3 = 64 * (64 * (a - markI (startN a)) + (b - 128)) + (c - 128) := by simp [topU, accU]
          rw [ht]
          rw [hn, show shf (3 - (1 + 1 + 1)) = 1 by rfl, Int.mul_one] at hg
          rw [show markI 3 = 224 by rfl] at hg
          rw [hn, show markI 3 = 224 by rfl]
          refine ⟨?_, hg⟩
          have hc := lenI_3.1 hg
          unfold octs
          rw [if_pos (sc _ (by omega)), if_neg (by omega), if_neg (by omega), if_pos hc.2.1]
          generalize hv : 64 * (64 * (a - 224) + (b - 128)) + (c - 128) = v at *
          rw [show 224 + v / 4096 = a by omega, show 128 + v / 64 % 64 = b by omega, show 128 + v % 64 = c by omega]
          rfl
      · match r, hl, okF with
        | b :: c :: d :: r, hl, okF =>
          have o1 := okF 1 (by omega) (by omega) b rfl
          have o2 := okF 2 (by omega) (by omega) c rfl
          have o3 := okF 3 (by omega) (by omega) d rfl
          have hst := start_4.1 hn
          have hg := good_next (by omega) (by omega) (good_next (by omega) (by omega) (good_next (Nat.le_refl 1) (by omega) (.inl ⟨rfl, rfl⟩) (ok_fol o1) o1) (ok_fol o2) o2) (ok_fol o3) o3
          rcases hg with ⟨h', _⟩ | ⟨_, hg⟩
          · omega
          have hbb := (fol_iff b).1 (ok_fol o1)
          have hcc := (fol_iff c).1 (ok_fol o2)
          have hdd := (fol_iff d).1 (ok_fol o3)
          have ht : topU a (b :: c :: d :: r) 4 = 64 * (64 * (64 * (a - markI (startN a)) + (b - 128)) + (c - 128)) + (d - 128) := by simp [topU, accU]
          rw [ht]
          rw [hn, show shf (4 - (1 + 1 + 1 + 1)) = 1 by rfl, Int.mul_one] at hg
          rw [show markI 4 = 240 by rfl] at hg
          rw [hn, show markI 4 = 240 by rfl]
          refine ⟨?_, hg⟩
          have hc := lenI_4.1 hg
          unfold octs
          rw [if_pos (sc _ (by omega)), if_neg (by omega), if_neg (by omega), if_neg (by omega)]
          generalize hv : 64 * (64 * (64 * (a - 240) + (b - 128)) + (c - 128)) + (d - 128) = v at *
          rw [show 240 + v / 262144 = a by omega, show 128 + v / 4096 % 64 = b by omega, show 128 + v / 64 % 64 = c by omega, show 128 + v % 64 = d by omega]
          rfl
    exact ⟨(len_pos _).1 (by rw [key.2]; exact hw.2), key.1, key.2.symm, hl⟩

/-- No two signs have the same octets, none begins another one's. -/
theorem octs_one (a b : Int) (ha : scB a = true) (hb : scB b = true) (hl : lenI a ≤ lenI b) (h : octs a = (octs b).take (lenI a)) : a = b := by
  have h1 := (take_octs b [] hb).1
  have h2 := (take_octs a ((octs b).drop (lenI a)) ha).1
  rw [h, List.take_append_drop] at h2
  rw [List.append_nil] at h1
  exact h2.symm.trans h1
theorem tak_bd (xs : List Int) (h : takE xs ≠ 0) : takN xs ≤ xs.length ∧ (0 < takN xs ↔ 0 < xs.length) := by
  have h1 := far_le xs
  unfold takN
  cases xs with
  | nil => simp
  | cons a r => rw [if_neg (by simp)]; simp at h1 ⊢; omega

end Go.Proofs.YtobjdamlmaaidaaDoor

/-! D05 -/
namespace Go.Proofs.YtobjdamlmaaidaaDoor
open Go.RowKit
set_option linter.unusedVariables false

/-- A text's octets; how many. -/
def octL (t : List Int) : List Int := t.flatMap octs
def lenL (t : List Int) : Nat := (octL t).length
/-- What is read next, and what is told of it. -/
def sign1 (xs : List Int) : Int × Int := (if takE xs = 0 then takC xs else 65533, takE xs)
def sigF : Nat → List Int → List (Int × Int)
  | 0, _ => []
  | n + 1, xs => if xs = [] then [] else sign1 xs :: sigF n (xs.drop (takN xs))
/-- What octets are read as, each sign with what is told of it. -/
def sigs (xs : List Int) : List (Int × Int) := sigF xs.length xs
def txt (xs : List Int) : List Int := (sigs xs).map Prod.fst
/-- The first error; how many there are. -/
def errP : List (Int × Int) → Int
  | [] => 0
  | p :: r => if p.2 = 0 then errP r else p.2
def brkP (ps : List (Int × Int)) : Nat := ps.countP (fun p => decide (p.2 ≠ 0))

theorem octL_nil : octL [] = [] := rfl
theorem octL_app (a b : List Int) : octL (a ++ b) = octL a ++ octL b := by simp [octL]
theorem octL_snoc {xs : List Int} {k : Nat} {x : Int} (h : xs.take (k + 1) = xs.take k ++ [x]) : octL (xs.take (k + 1)) = octL (xs.take k) ++ octs x := by rw [h, octL_app]; simp [octL]
theorem lenL_snoc {xs : List Int} {k : Nat} {x : Int} (h : xs.take (k + 1) = xs.take k ++ [x]) : lenL (xs.take (k + 1)) = lenL (xs.take k) + lenI x := by unfold lenL; rw [octL_snoc h, List.length_append, octs_len]
theorem octL_wf (t : List Int) : ∀ x ∈ octL t, (Lit.int .u8 x).wf = true := by
  intro x hx
  obtain ⟨c, _, hc⟩ := List.mem_flatMap.1 hx
  exact octs_wf c x hc
theorem octL_bd (t : List Int) : ∀ x ∈ octL t, 0 ≤ x ∧ x ≤ 255 := fun x hx => wf_u8 (octL_wf t x hx)
theorem lenL_le : ∀ t : List Int, lenL t ≤ 4 * t.length
  | [] => Nat.le_refl _
  | c :: t => by
    have h := lenL_le t
    have h4 := lenI_le c
    unfold lenL at h ⊢
    rw [show octL (c :: t) = octs c ++ octL t from rfl, List.length_append, octs_len]; simp; omega
theorem lenL_take (t : List Int) (k : Nat) : lenL (t.take k) ≤ 4 * t.length := by
  have h := lenL_le (t.take k); simp at h; omega

theorem takN_pos {xs : List Int} (h : xs ≠ []) : 0 < takN xs := by unfold takN; rw [if_neg h]; omega
theorem takN_le (xs : List Int) : takN xs ≤ xs.length := by
  have h := far_le xs
  unfold takN
  split
  · omega
  · rename_i h0
    have : 0 < xs.length := by cases xs with | nil => exact absurd rfl h0 | cons => simp
    omega
theorem sigF_eq : ∀ (n m : Nat) (xs : List Int), xs.length ≤ n → xs.length ≤ m → sigF n xs = sigF m xs
  | 0, 0, _, _, _ => rfl
  | 0, m + 1, xs, h, _ => by
    obtain rfl : xs = [] := List.eq_nil_of_length_eq_zero (by omega)
    rfl
  | n + 1, 0, xs, _, h => by
    obtain rfl : xs = [] := List.eq_nil_of_length_eq_zero (by omega)
    rfl
  | n + 1, m + 1, xs, h, h' => by
    unfold sigF
    split
    · rfl
    · rename_i h0
      have := takN_pos h0
      rw [sigF_eq n m (xs.drop (takN xs)) (by simp; omega) (by simp; omega)]
theorem sigs_nil : sigs [] = [] := rfl
theorem sigs_cons {xs : List Int} (h : xs ≠ []) : sigs xs = sign1 xs :: sigs (xs.drop (takN xs)) := by
  have hp := takN_pos h
  obtain ⟨n, hn⟩ : ∃ n, xs.length = n + 1 := ⟨xs.length - 1, by have : 0 < xs.length := List.length_pos_iff.2 h
                                                                omega⟩
  show sigF xs.length xs = _
  rw [hn]
  show (if xs = [] then [] else sign1 xs :: sigF n (xs.drop (takN xs))) = _
  rw [if_neg h]
  congr 1
  exact sigF_eq _ _ _ (by simp; omega) (Nat.le_refl _)
/-- By signs, from the front. -/
theorem sigs_ind {p : List Int → Prop} (h0 : p []) (h1 : ∀ xs, xs ≠ [] → p (xs.drop (takN xs)) → p xs) : ∀ xs, p xs := by
  have key : ∀ (n : Nat) (xs : List Int), xs.length ≤ n → p xs := by
    intro n
    induction n with
    | zero => intro xs h; obtain rfl : xs = [] := List.eq_nil_of_length_eq_zero (by omega)
              exact h0
    | succ n ih =>
      intro xs h
      by_cases he : xs = []
      · subst he; exact h0
      · exact h1 xs he (ih _ (by have := takN_pos he; simp; omega))
  exact fun xs => key _ xs (Nat.le_refl _)

theorem errP_app (a b : List (Int × Int)) (h : ∀ p ∈ a, p.2 = 0) : errP (a ++ b) = errP b := by
  induction a with
  | nil => rfl
  | cons p a ih =>
    rw [List.cons_append, errP, if_pos (h p (List.mem_cons_self)), ih (fun q hq => h q (List.mem_cons_of_mem _ hq))]
theorem errP_zero {ps : List (Int × Int)} : errP ps = 0 ↔ ∀ p ∈ ps, p.2 = 0 := by
  induction ps with
  | nil => simp [errP]
  | cons p ps ih =>
    rw [errP]
    split
    · rename_i h; rw [ih]; simp [h]
    · rename_i h; simp [h]
theorem errP_snoc (ps : List (Int × Int)) (p : Int × Int) : errP (ps ++ [p]) = if errP ps = 0 then p.2 else errP ps := by
  split
  · rename_i h; rw [errP_app _ _ (errP_zero.1 h)]; simp [errP]; intro h; exact h.symm
  · rename_i h
    induction ps with
    | nil => exact absurd rfl h
    | cons q ps ih =>
      rw [List.cons_append, errP, errP]
      rw [errP] at h
      split
      · rename_i hq; rw [if_pos hq] at h; exact ih h
      · rfl
theorem errP_pre {a b : List (Int × Int)} (h : a <+: b) (h0 : errP a ≠ 0) : errP b = errP a := by
  obtain ⟨r, rfl⟩ := h
  induction a with
  | nil => exact absurd rfl h0
  | cons q a ih =>
    rw [List.cons_append, errP, errP]
    rw [errP] at h0
    split
    · rename_i hq; rw [if_pos hq] at h0; exact ih h0
    · rfl
/-- What is read strictly. -/
def strL (xs : List Int) : List Int := if errP (sigs xs) = 0 then txt xs else []
theorem txt_len (xs : List Int) : (txt xs).length = (sigs xs).length := by simp [txt]
theorem brkP_snoc (ps : List (Int × Int)) (p : Int × Int) : brkP (ps ++ [p]) = brkP ps + if p.2 = 0 then 0 else 1 := by
  unfold brkP; rw [List.countP_append]; simp [List.countP_cons]
theorem brkP_le (ps : List (Int × Int)) : brkP ps ≤ ps.length := List.countP_le_length
theorem brkP_zero (ps : List (Int × Int)) : brkP ps = 0 ↔ errP ps = 0 := by
  rw [errP_zero]; unfold brkP; rw [List.countP_eq_zero]; simp

theorem takE_of (xs : List Int) : takE xs = 0 ∨ takE xs = 3 ∨ takE xs = 4 := by
  unfold takE; (repeat' split) <;> simp
theorem takC_sc {xs : List Int} (hb : ∀ x ∈ xs, 0 ≤ x ∧ x ≤ 255) (h : takE xs = 0) : scB (takC xs) = true := (octs_take xs hb h).1
theorem sign_sc {xs : List Int} (hb : ∀ x ∈ xs, 0 ≤ x ∧ x ≤ 255) : scB (sign1 xs).1 = true := by
  unfold sign1; simp only; split
  · rename_i h; exact takC_sc hb h
  · decide
theorem bd_drop {xs : List Int} (n : Nat) (hb : ∀ x ∈ xs, 0 ≤ x ∧ x ≤ 255) : ∀ x ∈ xs.drop n, 0 ≤ x ∧ x ≤ 255 := fun x hx => hb x (List.mem_of_mem_drop hx)
/-- What is read is right. -/
theorem txt_sc : ∀ xs : List Int, (∀ x ∈ xs, 0 ≤ x ∧ x ≤ 255) → (txt xs).all scB = true := by
  refine sigs_ind (fun _ => rfl) fun xs h ih hb => ?_
  unfold txt
  rw [sigs_cons h, List.map_cons, List.all_cons, sign_sc hb, Bool.true_and]
  exact ih (bd_drop _ hb)
theorem sigs_len : ∀ xs : List Int, (sigs xs).length ≤ xs.length := by
  refine sigs_ind (Nat.le_refl _) fun xs h ih => ?_
  have hp := takN_pos h
  have hl : 0 < xs.length := List.length_pos_iff.2 h
  rw [sigs_cons h]; simp at ih ⊢; omega
theorem sigs_pos (xs : List Int) : (0 < (sigs xs).length) ↔ 0 < xs.length := by
  by_cases h : xs = []
  · subst h; simp [sigs_nil]
  · have hl : 0 < xs.length := List.length_pos_iff.2 h
    rw [sigs_cons h]; simp [hl]
/-- What is laid is read. -/
theorem sigs_octL : ∀ (t rest : List Int), t.all scB = true → sigs (octL t ++ rest) = t.map (fun c => (c, 0)) ++ sigs rest
  | [], rest, _ => rfl
  | c :: t, rest, h => by
    rw [List.all_cons, Bool.and_eq_true] at h
    have T := take_octs c (octL t ++ rest) h.1
    have hl := octs_len c
    have hp := (len_pos c).2 h.1
    have e : octL (c :: t) ++ rest = octs c ++ (octL t ++ rest) := by rw [show octL (c :: t) = octs c ++ octL t from rfl, List.append_assoc]
    rw [e, sigs_cons (by intro h0; have := congrArg List.length h0; simp [hl] at this; omega), T.2.1]
    rw [show (octs c ++ (octL t ++ rest)).drop (lenI c) = octL t ++ rest by rw [← hl]; simp, sigs_octL t rest h.2]
    simp [sign1, T.1, T.2.2]
theorem sigs_laid {t : List Int} (h : t.all scB = true) : sigs (octL t) = t.map (fun c => (c, 0)) := by
  have := sigs_octL t [] h
  simpa [sigs_nil] using this
theorem txt_laid {t : List Int} (h : t.all scB = true) : txt (octL t) = t := by unfold txt; rw [sigs_laid h]; simp [Function.comp_def]
theorem err_laid {t : List Int} (h : t.all scB = true) : errP (sigs (octL t)) = 0 := by
  rw [sigs_laid h, errP_zero]; intro p hp; obtain ⟨c, _, rfl⟩ := List.mem_map.1 hp; rfl
/-- Octets that are right are laid as they were. -/
theorem octL_txt : ∀ xs : List Int, (∀ x ∈ xs, 0 ≤ x ∧ x ≤ 255) → errP (sigs xs) = 0 → octL (txt xs) = xs := by
  refine sigs_ind (fun _ _ => rfl) fun xs h ih hb he => ?_
  rw [sigs_cons h, errP] at he
  split at he
  · rename_i h0
    have h0' : takE xs = 0 := h0
    have O := octs_take xs hb h0'
    have := ih (bd_drop _ hb) he
    unfold txt at this ⊢
    rw [sigs_cons h, List.map_cons, show octL ((sign1 xs).1 :: (sigs (xs.drop (takN xs))).map Prod.fst) = octs (sign1 xs).1 ++ octL ((sigs (xs.drop (takN xs))).map Prod.fst) from rfl, this]
    rw [show (sign1 xs).1 = takC xs by unfold sign1; simp only; rw [if_pos h0'], O.2.1, List.take_append_drop]
  · rename_i h0; exact absurd he h0
theorem txt_wf {xs : List Int} (hb : ∀ x ∈ xs, 0 ≤ x ∧ x ≤ 255) : ∀ x ∈ txt xs, (Lit.int .i32 x).wf = true := by
  intro x hx
  have h := List.all_eq_true.1 (txt_sc xs hb) x hx
  have := (scB_iff x).1 h
  exact mk_r (by omega) (by omega)

end Go.Proofs.YtobjdamlmaaidaaDoor

/-! D06 -/
namespace Go.Proofs.YtobjdamlmaaidaaDoor
open Go.RowKit
set_option linter.unusedVariables false

theorem wf_u16 {x : Int} (h : (Lit.int .u16 x).wf = true) : 0 ≤ x ∧ x ≤ 65535 := bounds_u16 h
theorem mk_u16 {x : Int} (h0 : 0 ≤ x) (h1 : x ≤ 65535) : (Lit.int .u16 x).wf = true := WalkArith.wf_u16 (by omega)
theorem Reads.get16 {w : World} {a : Option Addr} {len cap : Nat} {xs : List Int} (h : Reads .u16 w a len cap xs) {i : Nat} (hi : i < len) :
    ∃ b off x, a = some ⟨b, off, none⟩ ∧ b < w.heap.size ∧ w.cell? ⟨b, off + i, none⟩ = some (.int .u16 x) ∧ 0 ≤ x ∧ x ≤ 65535 ∧ Hid (xs[i]? = some x ∧ xs.take (i + 1) = xs.take i ++ [x]) := by
  obtain ⟨b, off, x, ha, hb, hc, hx⟩ := h.get hi
  obtain ⟨h1, h2, h3⟩ := hx.out
  exact ⟨b, off, x, ha, hb, hc, (wf_u16 h3).1, (wf_u16 h3).2, h1, h2⟩

/-- High and low surrogates; a sign's units. -/
def hiB (u : Int) : Bool := decide (55296 ≤ u ∧ u ≤ 56319)
def loB (u : Int) : Bool := decide (56320 ≤ u ∧ u ≤ 57343)
def uns (c : Int) : List Int := if scB c = true then (if c < 65536 then [c] else [55296 + (c - 65536) / 1024, 56320 + (c - 65536) % 1024]) else []
def lenU (c : Int) : Nat := (uns c).length
def unL (t : List Int) : List Int := t.flatMap uns
def pairU (x y : Int) : Int := 65536 + 1024 * (x - 55296) + (y - 56320)
theorem hiB_iff (u : Int) : hiB u = true ↔ 55296 ≤ u ∧ u ≤ 56319 := decide_eq_true_iff
theorem loB_iff (u : Int) : loB u = true ↔ 56320 ≤ u ∧ u ≤ 57343 := decide_eq_true_iff
theorem hi_lo (u : Int) : surB u = (hiB u || loB u) := by rw [Bool.eq_iff_iff, Bool.or_eq_true, surB_iff, hiB_iff, loB_iff]; omega
theorem hi_clear (u : Int) : (1024 * (u / 1024) == 55296) = hiB u := by rw [Bool.eq_iff_iff, beq_iff_eq, hiB_iff]; omega
theorem lo_clear (u : Int) : (1024 * (u / 1024) == 56320) = loB u := by rw [Bool.eq_iff_iff, beq_iff_eq, loB_iff]; omega

theorem lenU_le (c : Int) : lenU c ≤ 2 := by unfold lenU uns; (repeat' split) <;> simp
theorem uns_wf (c : Int) : ∀ x ∈ uns c, (Lit.int .u16 x).wf = true := by
  intro x hx
  unfold uns at hx
  split at hx
  · rename_i h
    have := (scB_iff c).1 h
    split at hx
    · simp at hx; subst hx; exact mk_u16 (by omega) (by omega)
    · simp at hx
      rcases hx with rfl | rfl
      · exact mk_u16 (by omega) (by omega)
      · exact mk_u16 (by omega) (by omega)
  · cases hx
theorem unL_app (a b : List Int) : unL (a ++ b) = unL a ++ unL b := by simp [unL]
theorem unL_snoc {xs : List Int} {k : Nat} {x : Int} (h : xs.take (k + 1) = xs.take k ++ [x]) : unL (xs.take (k + 1)) = unL (xs.take k) ++ uns x := by rw [h, unL_app]; simp [unL]
theorem unL_wf (t : List Int) : ∀ x ∈ unL t, (Lit.int .u16 x).wf = true := by
  intro x hx
  obtain ⟨c, _, hc⟩ := List.mem_flatMap.1 hx
  exact uns_wf c x hc
theorem unL_bd (t : List Int) : ∀ x ∈ unL t, 0 ≤ x ∧ x ≤ 65535 := fun x hx => wf_u16 (unL_wf t x hx)
theorem unL_len : ∀ t : List Int, (unL t).length ≤ 2 * t.length
  | [] => Nat.le_refl _
  | c :: t => by
    have h := unL_len t
    have h2 := lenU_le c
    unfold lenU at h2
    rw [show unL (c :: t) = uns c ++ unL t from rfl, List.length_append]; simp; omega
theorem unL_take (t : List Int) (k : Nat) : (unL (t.take k)).length ≤ 2 * t.length := by
  have h := unL_len (t.take k); simp at h; omega

/-- Is there a pair in front? What is read next, of how many units. -/
def utP : List Int → Bool
  | x :: y :: _ => hiB x && loB y
  | _ => false
def utN (xs : List Int) : Nat := if utP xs = true then 2 else 1
def ut1 (xs : List Int) : Int × Int :=
  if utP xs = true then (pairU (xs.getD 0 0) (xs.getD 1 0), 0)
  else if surB (xs.getD 0 0) = true then (65533, if xs.length = 1 ∧ hiB (xs.getD 0 0) = true then 4 else 3)
  else (xs.getD 0 0, 0)
/-- What units are read as, each sign with what is told of it. -/
def usigs : List Int → List (Int × Int)
  | [] => []
  | [x] => [ut1 [x]]
  | x :: y :: r => if utP (x :: y :: r) = true then ut1 (x :: y :: r) :: usigs r else ut1 (x :: y :: r) :: usigs (y :: r)
def utxt (xs : List Int) : List Int := (usigs xs).map Prod.fst
def ustr (xs : List Int) : List Int := if errP (usigs xs) = 0 then utxt xs else []

theorem utN_pos (xs : List Int) : 0 < utN xs := by unfold utN; split <;> omega
theorem utN_le {xs : List Int} (h : xs ≠ []) : utN xs ≤ xs.length := by
  unfold utN
  match xs, h with
  | [], h => exact absurd rfl h
  | [x], _ => simp [utP]
  | x :: y :: r, _ => split <;> simp <;> omega
theorem usigs_nil : usigs [] = [] := rfl
theorem usigs_cons {xs : List Int} (h : xs ≠ []) : usigs xs = ut1 xs :: usigs (xs.drop (utN xs)) := by
  match xs, h with
  | [], h => exact absurd rfl h
  | [x], _ => rfl
  | x :: y :: r, _ =>
    rw [usigs]
    unfold utN
    split <;> rfl
theorem usigs_ind {p : List Int → Prop} (h0 : p []) (h1 : ∀ xs, xs ≠ [] → p (xs.drop (utN xs)) → p xs) : ∀ xs, p xs := by
  have key : ∀ (n : Nat) (xs : List Int), xs.length ≤ n → p xs := by
    intro n
    induction n with
    | zero => intro xs h; obtain rfl : xs = [] := List.eq_nil_of_length_eq_zero (by omega)
              exact h0
    | succ n ih =>
      intro xs h
      by_cases he : xs = []
      · subst he; exact h0
      · exact h1 xs he (ih _ (by have := utN_pos xs; simp; omega))
  exact fun xs => key _ xs (Nat.le_refl _)
theorem utxt_len (xs : List Int) : (utxt xs).length = (usigs xs).length := by simp [utxt]
theorem usigs_len : ∀ xs : List Int, (usigs xs).length ≤ xs.length := by
  refine usigs_ind (Nat.le_refl _) fun xs h ih => ?_
  have hp := utN_pos xs
  have hl : 0 < xs.length := List.length_pos_iff.2 h
  rw [usigs_cons h]; simp at ih ⊢; omega
theorem ut_fst_sc {xs : List Int} (hne : xs ≠ []) (hb : ∀ x ∈ xs, 0 ≤ x ∧ x ≤ 65535) : scB (ut1 xs).1 = true := by
  match xs, hne with
  | [], h => exact absurd rfl h
  | [x], _ =>
    have h0 := hb x (by simp)
    unfold ut1 utP
    simp only [List.getD_cons_zero]
    rw [if_neg (by simp)]
    split
    · simp only; decide
    · rename_i h
      rw [Bool.not_eq_true, surB_not] at h
      rw [scB_iff]; simp only; omega
  | x :: y :: r, _ =>
    have h0 := hb x (by simp)
    have h1 := hb y (by simp)
    unfold ut1 utP
    simp only [List.getD_cons_zero, List.getD_cons_succ]
    split
    · rename_i h
      rw [Bool.and_eq_true, hiB_iff, loB_iff] at h
      rw [scB_iff]; simp only [pairU]; omega
    · split
      · simp only; decide
      · rename_i _ h
        rw [Bool.not_eq_true, surB_not] at h
        rw [scB_iff]; simp only; omega
theorem bd16_drop {xs : List Int} (n : Nat) (hb : ∀ x ∈ xs, 0 ≤ x ∧ x ≤ 65535) : ∀ x ∈ xs.drop n, 0 ≤ x ∧ x ≤ 65535 := fun x hx => hb x (List.mem_of_mem_drop hx)
/-- What is read is right. -/
theorem utxt_sc : ∀ xs : List Int, (∀ x ∈ xs, 0 ≤ x ∧ x ≤ 65535) → (utxt xs).all scB = true := by
  refine usigs_ind (fun _ => rfl) fun xs h ih hb => ?_
  unfold utxt
  rw [usigs_cons h, List.map_cons, List.all_cons, ut_fst_sc h hb, Bool.true_and]
  exact ih (bd16_drop _ hb)
theorem utxt_wf {xs : List Int} (hb : ∀ x ∈ xs, 0 ≤ x ∧ x ≤ 65535) : ∀ x ∈ utxt xs, (Lit.int .i32 x).wf = true := by
  intro x hx
  have h := List.all_eq_true.1 (utxt_sc xs hb) x hx
  have := (scB_iff x).1 h
  exact mk_r (by omega) (by omega)
/-- A sign's units, read again. -/
theorem ut_uns (c : Int) (r : List Int) (h : scB c = true) : ut1 (uns c ++ r) = (c, 0) ∧ (uns c ++ r).drop (utN (uns c ++ r)) = r ∧ uns c ++ r ≠ [] := by
  have hc := (scB_iff c).1 h
  by_cases h1 : c < 65536
  · have e : uns c = [c] := by unfold uns; rw [if_pos h, if_pos h1]
    have hh : hiB c = false := by unfold hiB; rw [decide_eq_false_iff_not]; omega
    have hp : utP (c :: r) = false := by cases r <;> simp [utP, hh]
    have hs : surB c = false := (surB_not c).2 (by omega)
    rw [e]
    refine ⟨?_, ?_, by simp⟩
    · simp [ut1, hp, hs]
    · simp [utN, hp]
  · have e : uns c = [55296 + (c - 65536) / 1024, 56320 + (c - 65536) % 1024] := by unfold uns; rw [if_pos h, if_neg h1]
    have hh : hiB (55296 + (c - 65536) / 1024) = true := (hiB_iff _).2 (by omega)
    have hl : loB (56320 + (c - 65536) % 1024) = true := (loB_iff _).2 (by omega)
    have hp : utP ((55296 + (c - 65536) / 1024) :: (56320 + (c - 65536) % 1024) :: r) = true := by simp [utP, hh, hl]
    rw [e]
    refine ⟨?_, ?_, by simp⟩
    · simp only [ut1, List.cons_append, List.nil_append, hp, if_true, List.getD_cons_zero, List.getD_cons_succ, pairU, Prod.mk.injEq, and_true]; omega
    · simp [utN, hp]
theorem usigs_unL : ∀ (t rest : List Int), t.all scB = true → usigs (unL t ++ rest) = t.map (fun c => (c, 0)) ++ usigs rest
  | [], rest, _ => rfl
  | c :: t, rest, h => by
    rw [List.all_cons, Bool.and_eq_true] at h
    obtain ⟨h1, h2, h3⟩ := ut_uns c (unL t ++ rest) h.1
    rw [show unL (c :: t) ++ rest = uns c ++ (unL t ++ rest) by rw [show unL (c :: t) = uns c ++ unL t from rfl, List.append_assoc]]
    rw [usigs_cons h3, h1, h2, usigs_unL t rest h.2]; rfl
/-- What is laid is read. -/
theorem usigs_laid {t : List Int} (h : t.all scB = true) : usigs (unL t) = t.map (fun c => (c, 0)) := by
  have := usigs_unL t [] h
  simpa [usigs_nil] using this
theorem utxt_laid {t : List Int} (h : t.all scB = true) : utxt (unL t) = t := by unfold utxt; rw [usigs_laid h]; simp [Function.comp_def]
theorem uerr_laid {t : List Int} (h : t.all scB = true) : errP (usigs (unL t)) = 0 := by
  rw [usigs_laid h, errP_zero]; intro p hp; obtain ⟨c, _, rfl⟩ := List.mem_map.1 hp; rfl
theorem ustr_laid {t : List Int} (h : t.all scB = true) : ustr (unL t) = t := by unfold ustr; rw [if_pos (uerr_laid h), utxt_laid h]
theorem uns_pair {x y : Int} (h : (hiB x && loB y) = true) : uns (pairU x y) = [x, y] := by
  rw [Bool.and_eq_true, hiB_iff, loB_iff] at h
  unfold uns pairU
  rw [if_pos ((scB_iff _).2 (by omega)), if_neg (by omega)]
  congr 1
  · omega
  · congr 1; omega
/-- A sign that is read without an error is laid as its units; with one, otherwise. -/
theorem uns_ut {xs : List Int} (hne : xs ≠ []) (hb : ∀ x ∈ xs, 0 ≤ x ∧ x ≤ 65535) (r : List Int) :
    (uns (ut1 xs).1 ++ r = xs ↔ (ut1 xs).2 = 0 ∧ r = xs.drop (utN xs)) := by
  match xs, hne with
  | [], h => exact absurd rfl h
  | [x], _ =>
    have h0 := hb x (by simp)
    have hp : utP [x] = false := rfl
    cases hs : surB x
    · have := (surB_not x).1 hs
      simp [ut1, utN, hp, hs, uns, show scB x = true from (scB_iff x).2 (by omega), show x < 65536 by omega]
    · have := (surB_iff x).1 hs
      have e : uns 65533 = [65533] := by decide
      simp [ut1, utN, hp, hs, e]
      intro _
      constructor
      · intro h; omega
      · intro h; split at h <;> simp at h
  | x :: y :: r', _ =>
    have h0 := hb x (by simp)
    have h1 := hb y (by simp)
    cases hp : utP (x :: y :: r')
    · cases hs : surB x
      · have := (surB_not x).1 hs
        simp [ut1, utN, hp, hs, uns, show scB x = true from (scB_iff x).2 (by omega), show x < 65536 by omega]
      · have := (surB_iff x).1 hs
        have e : uns 65533 = [65533] := by decide
        simp [ut1, utN, hp, hs, e]
        omega
    · have h2 := uns_pair (x := x) (y := y) hp
      simp [ut1, utN, hp, h2]
/-- What is read is laid as the same units, if these were right, and only then. -/
theorem unL_back : ∀ xs : List Int, (∀ x ∈ xs, 0 ≤ x ∧ x ≤ 65535) → (unL (utxt xs) = xs ↔ errP (usigs xs) = 0) := by
  refine usigs_ind (fun _ => by simp [utxt, usigs_nil, unL, errP]) fun xs h ih hb => ?_
  have hi := ih (bd16_drop _ hb)
  have hu := uns_ut h hb (unL (utxt (xs.drop (utN xs))))
  have e : unL (utxt xs) = uns (ut1 xs).1 ++ unL (utxt (xs.drop (utN xs))) := by
    unfold utxt; rw [usigs_cons h, List.map_cons]; rfl
  rw [e, hu, hi, usigs_cons h, errP]
  split
  · rename_i h0; simp [h0]
  · rename_i h0; simp [h0]

/-- Does a list begin so? -/
def hdB (f : Int → Bool) : List Int → Bool
  | [] => false
  | x :: _ => f x
theorem utP_hd (xs : List Int) : utP xs = (hdB hiB xs && hdB loB (xs.drop 1)) := by
  match xs with
  | [] => rfl
  | [x] => simp [utP, hdB]
  | x :: y :: r => rfl

/-- Units as octets, octets as units. -/
def ocU (u : List Int) : List Int := u.flatMap fun x => [x / 256, x % 256]
def prU : List Int → List Int
  | x :: y :: r => (256 * x + y) :: prU r
  | _ => []
theorem ocU_snoc {xs : List Int} {k : Nat} {x : Int} (h : xs.take (k + 1) = xs.take k ++ [x]) : ocU (xs.take (k + 1)) = ocU (xs.take k) ++ [x / 256, x % 256] := by rw [h]; simp [ocU]
theorem ocU_len (u : List Int) : (ocU u).length = 2 * u.length := by
  induction u with
  | nil => rfl
  | cons x u ih => rw [show ocU (x :: u) = x / 256 :: x % 256 :: ocU u from rfl]; simp [ih]; omega
theorem ocU_wf {u : List Int} (hb : ∀ x ∈ u, 0 ≤ x ∧ x ≤ 65535) : ∀ x ∈ ocU u, (Lit.int .u8 x).wf = true := by
  intro x hx
  obtain ⟨c, hc, h⟩ := List.mem_flatMap.1 hx
  have := hb c hc
  simp at h
  rcases h with rfl | rfl <;> exact mk_u8 (by omega) (by omega)
theorem prU_ocU : ∀ u : List Int, prU (ocU u) = u
  | [] => rfl
  | x :: u => by
    rw [show ocU (x :: u) = x / 256 :: x % 256 :: ocU u from rfl, prU, prU_ocU u]
    congr 1; omega
theorem prU_len : ∀ s : List Int, (prU s).length = s.length / 2
  | [] => rfl
  | [_] => by simp [prU]
  | x :: y :: r => by rw [prU, List.length_cons, prU_len r]; simp; omega
theorem ocU_prU : ∀ s : List Int, s.length % 2 = 0 → (∀ x ∈ s, 0 ≤ x ∧ x ≤ 255) → ocU (prU s) = s
  | [], _, _ => rfl
  | [_], h, _ => by simp at h
  | x :: y :: r, h, hb => by
    have h0 := hb x (by simp)
    have h1 := hb y (by simp)
    rw [prU, show ocU ((256 * x + y) :: prU r) = (256 * x + y) / 256 :: (256 * x + y) % 256 :: ocU (prU r) from rfl, ocU_prU r (by simp at h; omega) (fun z hz => hb z (by simp [hz]))]
    congr 1
    · omega
    · congr 1; omega
theorem prU_wf : ∀ s : List Int, (∀ x ∈ s, 0 ≤ x ∧ x ≤ 255) → ∀ x ∈ prU s, (Lit.int .u16 x).wf = true
  | [], _, x, hx => by cases hx
  | [_], _, x, hx => by cases hx
  | a :: b :: r, hb, x, hx => by
    rw [prU] at hx
    have h0 := hb a (by simp)
    have h1 := hb b (by simp)
    rcases List.mem_cons.1 hx with rfl | hx
    · exact mk_u16 (by omega) (by omega)
    · exact prU_wf r (fun z hz => hb z (by simp [hz])) x hx
theorem prU_step {s : List Int} {k : Nat} {x y : Int} (h0 : s[k]? = some x) (h1 : s[k + 1]? = some y) : prU (s.drop k) = (256 * x + y) :: prU (s.drop (k + 2)) := by
  have hk : k + 1 < s.length := (List.getElem?_eq_some_iff.1 h1).1
  have e0 : s[k] = x := (List.getElem?_eq_some_iff.1 h0).2
  have e1 : s[k + 1] = y := (List.getElem?_eq_some_iff.1 h1).2
  rw [List.drop_eq_getElem_cons (by omega), List.drop_eq_getElem_cons hk, e0, e1, prU]

end Go.Proofs.YtobjdamlmaaidaaDoor

/-! D22 -/
namespace Go.Proofs.YtobjdamlmaaidaaDoor
open Go.RowKit
set_option linter.unusedVariables false

def dirT : List Int := [39, 40, 41, 44, 45, 46, 47, 58, 63, 32, 9, 13, 10]
def dirB (c : Int) : Bool := decide (65 ≤ c ∧ c ≤ 90) || decide (97 ≤ c ∧ c ≤ 122) || decide (48 ≤ c ∧ c ≤ 57) || dirT.any (fun x => decide (x = c))
def codU (t : List Int) : List Int := if t.all scB = true then bareB (ocU (unL t)) else []
/-- A run is closed (none: nothing is laid); what is laid, behind a run that is open. -/
def closeU (run : List Int) : List Int := if run = [] then [] else 43 :: (codU run ++ [45])
def layU : List Int → List Int → List Int
  | [], run => closeU run
  | c :: r, run => if dirB c = true then closeU run ++ (c :: layU r []) else if run = [] ∧ c = 43 then 43 :: 45 :: layU r [] else layU r (run ++ [c])
def runN : List Int → Bool → Nat
  | [], _ => 0
  | c :: r, b => if dirB c = true then runN r false else if b = false ∧ c ≠ 43 then 1 + runN r true else runN r b
theorem runN_le : ∀ (xs : List Int) (b : Bool), runN xs b ≤ xs.length
  | [], _ => Nat.le_refl _
  | c :: r, b => by
    have h1 := runN_le r false
    have h2 := runN_le r true
    have h3 := runN_le r b
    rw [runN, List.length_cons]
    split
    · omega
    · split <;> omega
def sevB (x : Int) : Bool := decide (x ≤ 126) && (decide (32 ≤ x) || decide (x = 9) || decide (x = 10) || decide (x = 13))
def lay7 (t : List Int) : List Int := if t.all scB = true then layU t [] else []
def lay7E (t : List Int) : Int := if t.all scB = true then 0 else 7

theorem dir_bd {c : Int} (h : dirB c = true) : 9 ≤ c ∧ c ≤ 122 := by
  unfold dirB dirT at h
  simp only [List.any_cons, List.any_nil, Bool.or_eq_true, decide_eq_true_eq, Bool.or_false] at h
  omega
theorem dir_sev {c : Int} (h : dirB c = true) : sevB c = true := by
  unfold dirB dirT at h
  simp only [List.any_cons, List.any_nil, Bool.or_eq_true, decide_eq_true_eq, Bool.or_false] at h
  unfold sevB
  simp only [Bool.and_eq_true, Bool.or_eq_true, decide_eq_true_eq]
  omega
theorem dir_sc {c : Int} (h : dirB c = true) : scB c = true := by
  have := dir_bd h
  exact (scB_iff c).2 (by omega)
theorem layU_run : ∀ (u rest acc : List Int), (∀ x ∈ u, dirB x = false) → acc ≠ [] → layU (u ++ rest) acc = layU rest (acc ++ u)
  | [], rest, acc, _, _ => by simp
  | x :: u, rest, acc, h, ha => by
    have hx := h x (List.mem_cons_self ..)
    rw [List.cons_append, layU, if_neg (by rw [hx]; decide), if_neg (fun hh => ha hh.1), layU_run u rest (acc ++ [x]) (fun y hy => h y (List.mem_cons_of_mem _ hy)) (by simp)]
    simp
/-- A run stops ahead of a direct sign, or at the end. -/
def stopU (r : List Int) : Prop := r = [] ∨ ∃ c s, r = c :: s ∧ dirB c = true
theorem layU_stop {rest acc : List Int} (h : stopU rest) : layU rest acc = closeU acc ++ layU rest [] := by
  rcases h with rfl | ⟨c, s, rfl, hc⟩
  · simp [layU, closeU]
  · rw [layU, layU, if_pos hc, if_pos hc]; rfl
theorem layU_one {u rest : List Int} {x : Int} (hx : dirB x = false) (h43 : x ≠ 43) (hu : ∀ y ∈ u, dirB y = false) (h : stopU rest) : layU (x :: (u ++ rest)) [] = 43 :: (codU (x :: u) ++ (45 :: layU rest [])) := by
  rw [layU, if_neg (by rw [hx]; decide), if_neg (fun hh => h43 hh.2), List.nil_append, layU_run u rest [x] hu (by simp), layU_stop h]
  unfold closeU
  rw [if_neg (by simp)]
  simp
theorem layU_dir {c : Int} (h : dirB c = true) (r : List Int) : layU (c :: r) [] = c :: layU r [] := by
  rw [layU, if_pos h]; rfl
theorem layU_plus (r : List Int) : layU (43 :: r) [] = 43 :: 45 :: layU r [] := by
  rw [layU, if_neg (by decide), if_pos ⟨rfl, rfl⟩]
/-- A text of direct signs is itself, and has no run (P22.3). -/
theorem layU_all : ∀ {t : List Int}, t.all dirB = true → layU t [] = t ∧ runN t false = 0
  | [], _ => ⟨rfl, rfl⟩
  | c :: t, h => by
    simp only [List.all_cons, Bool.and_eq_true] at h
    have ih := layU_all h.2
    rw [layU_dir h.1, ih.1, runN, if_pos h.1]
    exact ⟨rfl, ih.2⟩
theorem sev_dig : ∀ n : Fin 64, sevB (dg64 (n.val : Int)) = true := by decide +kernel
theorem bare_sev {xs : List Int} (hb : ∀ v ∈ v64 xs, V6 v) : (bareB xs).all sevB = true := by
  unfold bareB
  rw [List.all_map, List.all_eq_true]
  intro v hv
  have h := hb v hv
  have := sev_dig ⟨v.toNat, by have := h.1; have := h.2; omega⟩
  rwa [show ((⟨v.toNat, by have := h.1; have := h.2; omega⟩ : Fin 64).val : Int) = v by simp; have := h.1; omega] at this
end Go.Proofs.YtobjdamlmaaidaaDoor
