/-
  Texts of ours laid together: C14b, C14c, C15a, C15, D02b, C02, R02.
-/
import Derived.Test.YtpmkgpnielolbaaRows
import Derived.IntWalk
import Derived.StillTailTactics
import Derived.Test.YtpmkgpnielolbaaZ22

/-! C14b -/
namespace Go.Proofs.Ytpmkgpnielolbaa
open Go.RowKit
set_option linter.unusedVariables false

theorem u8_wf {x : Int} (h : (Lit.int .u8 x).wf = true) : O8 x := ⟨(wf_u8 h).1, (wf_u8 h).2⟩
theorem lay_group (ys : List Int) : layB ys = layB (ys.take 3) ++ layB (ys.drop 3) := by
  match ys with
  | [] => rfl
  | [a] => simp [layB, fill4, bareB, v64]
  | [a, b] => simp [layB, fill4, bareB, v64]
  | a :: b :: c :: r =>
    simp only [List.take_succ_cons, List.take_zero, List.drop_succ_cons, List.drop_zero]
    unfold layB fill4 bareB
    simp only [v64, List.map_cons, List.length_cons, List.map_nil, List.length_nil]
    rw [show (4 - ((v64 r).map dg64).length.succ.succ.succ.succ % 4) % 4 = (4 - ((v64 r).map dg64).length % 4) % 4 by omega]
    simp
theorem lay_part {ys : List Int} {n : Nat} (h : n = 3 ∨ (ys.length ≤ n ∧ n ≤ 3)) : layB ys = layB (ys.take n) ++ layB (ys.drop n) := by
  rcases h with rfl | ⟨h, _⟩
  · exact lay_group ys
  · rw [List.take_of_length_le h, List.drop_of_length_le h]
    show layB ys = layB ys ++ []
    rw [List.append_nil]
theorem layB_wf {xs : List Int} (h : ∀ x ∈ xs, O8 x) : ∀ z ∈ layB xs, (Lit.int .u8 z).wf = true := by
  intro z hz
  unfold layB fill4 bareB at hz
  rcases List.mem_append.1 hz with hz | hz
  · obtain ⟨v, hv, rfl⟩ := List.mem_map.1 hz
    exact dg_wf (v64_bd xs h v hv)
  · rw [List.eq_of_mem_replicate hz]; decide
theorem lay_le (xs : List Int) : (layB xs).length ≤ 2 * xs.length + 8 := by
  unfold layB fill4 bareB
  rw [List.length_append, List.length_replicate, List.length_map, v64_len]
  omega

end Go.Proofs.Ytpmkgpnielolbaa

/-! C14c -/
namespace Go.Proofs.Ytpmkgpnielolbaa
open Go.RowKit
set_option linter.unusedVariables false

/-- Numbers of digits together, the first k of them; what is missing is 0. -/
def dat (xs : List Int) (k : Nat) : Int := valI (xs.getD k 61)
def acc6 (xs : List Int) : Nat → Int
  | 0 => 0
  | k + 1 => acc6 xs k * 64 + dat xs k
theorem dat_bd (xs : List Int) (k : Nat) : 0 ≤ dat xs k ∧ dat xs k ≤ 63 := val_bd _
theorem acc_bd (xs : List Int) (k : Nat) (h : k ≤ 3) : 0 ≤ acc6 xs k ∧ acc6 xs k ≤ 262143 := by
  have h0 := dat_bd xs 0
  have h1 := dat_bd xs 1
  have h2 := dat_bd xs 2
  have hk : k = 0 ∨ k = 1 ∨ k = 2 ∨ k = 3 := by omega
  rcases hk with rfl | rfl | rfl | rfl <;> simp only [acc6] <;> omega
theorem val_61 : valI 61 = 0 := by decide +kernel
theorem dat_at {xs : List Int} {k : Nat} {x : Int} (h : xs[k]? = some x) : dat xs k = valI x := by unfold dat; simp [List.getD, h]
theorem dat_out {xs : List Int} {k : Nat} (h : xs.length ≤ k) : dat xs k = 0 := by unfold dat; rw [List.getD_eq_getElem?_getD, List.getElem?_eq_none h]; exact val_61
/-- Three octets of what four digits make; and as many of them as are whole. -/
theorem rd_group {xs : List Int} (h1 : 1 ≤ xs.length) (h4 : xs.length ≤ 4) : rd64 (xs.map valI) = [acc6 xs 4 / 65536 % 256, acc6 xs 4 / 256 % 256, acc6 xs 4 % 256].take (xs.length * 6 / 8) := by
  match xs with
  | [a] => simp [rd64]
  | [a, b] =>
    have ha := val_bd a
    have hb := val_bd b
    have h2 := dat_out (xs := [a, b]) (k := 2) (by simp)
    have h3 := dat_out (xs := [a, b]) (k := 3) (by simp)
    unfold V6 at ha hb
    have e : acc6 [a, b] 4 = (valI a * 64 + valI b) * 4096 := by simp only [acc6, h2, h3]; rw [dat_at (x := a) rfl, dat_at (x := b) rfl]; omega
    rw [e]
    simp only [List.map_cons, List.map_nil, rd64, List.length_cons, List.length_nil, List.take_succ_cons, List.take_zero]
    exact cons2 (by omega) rfl
  | [a, b, c] =>
    have ha := val_bd a
    have hb := val_bd b
    have hc := val_bd c
    have h3 := dat_out (xs := [a, b, c]) (k := 3) (by simp)
    unfold V6 at ha hb hc
    have e : acc6 [a, b, c] 4 = ((valI a * 64 + valI b) * 64 + valI c) * 64 := by simp only [acc6, h3]; rw [dat_at (x := a) rfl, dat_at (x := b) rfl, dat_at (x := c) rfl]; omega
    rw [e]
    simp only [List.map_cons, List.map_nil, rd64, List.length_cons, List.length_nil, List.take_succ_cons, List.take_zero]
    exact cons2 (by omega) (cons2 (by omega) rfl)
  | [a, b, c, d] =>
    have ha := val_bd a
    have hb := val_bd b
    have hc := val_bd c
    have hd := val_bd d
    unfold V6 at ha hb hc hd
    have e : acc6 [a, b, c, d] 4 = ((valI a * 64 + valI b) * 64 + valI c) * 64 + valI d := by simp only [acc6]; rw [dat_at (x := a) rfl, dat_at (x := b) rfl, dat_at (x := c) rfl, dat_at (x := d) rfl]; omega
    rw [e]
    simp only [List.map_cons, List.map_nil, rd64, List.length_cons, List.length_nil, List.take_succ_cons, List.take_zero]
    exact cons2 (by omega) (cons2 (by omega) (cons2 (by omega) rfl))
  | [] => simp at h1
  | _ :: _ :: _ :: _ :: _ :: _ => simp at h4

theorem rd_four (ys : List Int) : rd64 ys = rd64 (ys.take 4) ++ rd64 (ys.drop 4) := by
  match ys with
  | [] => rfl
  | [a] => rfl
  | [a, b] => rfl
  | [a, b, c] => rfl
  | a :: b :: c :: d :: r => rfl
theorem rd_part {ys : List Int} {n : Nat} (h : n = 4 ∨ (ys.length ≤ n ∧ n ≤ 4)) : rd64 (ys.map valI) = rd64 ((ys.take n).map valI) ++ rd64 ((ys.drop n).map valI) := by
  rcases h with rfl | ⟨h, _⟩
  · rw [List.map_take, List.map_drop]; exact rd_four _
  · rw [List.take_of_length_le h, List.drop_of_length_le h]
    show _ = _ ++ []
    rw [List.append_nil]
end Go.Proofs.Ytpmkgpnielolbaa

/-! C15a -/
namespace Go.Proofs.Ytpmkgpnielolbaa
open Go.RowKit Go.Shelf
set_option linter.unusedVariables false
attribute [local go_sem] Oper.semAt_some

/-- A digit with its number, as yield is handed it. -/
def encD (c : Int) : Array Value := #[.int .u8 c, .int .i64 (valI c)]

theorem cut_take (xs : List Int) : xs.take (cutEq xs).length = cutEq xs := by
  unfold cutEq
  induction xs with
  | nil => rfl
  | cons x xs ih =>
    by_cases h : noEq x = true
    · rw [List.takeWhile_cons_of_pos h, List.length_cons, List.take_succ_cons, ih]
    · rw [List.takeWhile_cons_of_neg h]; rfl
theorem cut_le (xs : List Int) : (cutEq xs).length ≤ xs.length := (List.takeWhile_sublist _).length_le
theorem reads_cut {w : World} {a : Option Addr} {len cap : Nat} {xs : List Int} (hr : Reads .u8 w a len cap xs) : Reads .u8 w a (cutEq xs).length cap (cutEq xs) := by
  have h := hr.pre (n := (cutEq xs).length) (by have := cut_le xs; have := hr.size; omega)
  rwa [cut_take] at h


/-! ### the iterator -/
theorem digL_take {xs : List Int} {k : Nat} {c : Int} (h : (cutEq xs).take (k + 1) = (cutEq xs).take k ++ [c]) : ((cutEq xs).take (k + 1)).filter isDig = ((cutEq xs).take k).filter isDig ++ (if isDig c = true then [c] else []) := by
  rw [h, List.filter_append]
  congr 1
  cases hd : isDig c <;> simp [hd]
theorem dig_n (xs : List Int) : (looL xs).length = (digL xs).length / 4 * 3 + (digL xs).length % 4 * 6 / 8 ∧ drpN xs = (digL xs).length % 4 * 6 % 8 := by
  constructor
  · unfold looL
    rw [rd64_len, List.length_map]
    omega
  · unfold drpN
    omega
end Go.Proofs.Ytpmkgpnielolbaa

/-! C15 -/
namespace Go.Proofs.Ytpmkgpnielolbaa
open Go.RowKit Go.Shelf
set_option linter.unusedVariables false
attribute [local go_sem] Oper.semAt_some

theorem digL_wf {xs : List Int} (h : ∀ x ∈ xs, (Lit.int .u8 x).wf = true) : ∀ x ∈ digL xs, (Lit.int .u8 x).wf = true := fun x hx => h x ((List.takeWhile_sublist _).mem (List.mem_filter.1 hx).1)
/-! ### what is read, digit by digit -/
/-- The bits that are left over, as a number. -/
def lft : List Int → Int
  | _ :: _ :: _ :: _ :: t => lft t
  | [_, _, r] => r % 4
  | [_, q] => q % 16
  | [p] => p
  | [] => 0
theorem lft_snoc (v : Int) (hv : V6 v) : ∀ vs : List Int, (∀ x ∈ vs, V6 x) →
    (vs.length % 4 = 0 → rd64 (vs ++ [v]) = rd64 vs ∧ lft (vs ++ [v]) = v ∧ lft vs = 0) ∧
    (vs.length % 4 = 1 → rd64 (vs ++ [v]) = rd64 vs ++ [(lft vs * 64 + v) / 16] ∧ lft (vs ++ [v]) = (lft vs * 64 + v) % 16 ∧ 0 ≤ lft vs ∧ lft vs ≤ 63) ∧
    (vs.length % 4 = 2 → rd64 (vs ++ [v]) = rd64 vs ++ [(lft vs * 64 + v) / 4] ∧ lft (vs ++ [v]) = (lft vs * 64 + v) % 4 ∧ 0 ≤ lft vs ∧ lft vs ≤ 15) ∧
    (vs.length % 4 = 3 → rd64 (vs ++ [v]) = rd64 vs ++ [lft vs * 64 + v] ∧ lft (vs ++ [v]) = 0 ∧ 0 ≤ lft vs ∧ lft vs ≤ 3) := by
  obtain ⟨v0, v1⟩ := hv
  refine ind4 ?_ ?_ ?_ ?_ ?_
  · intro _; simp [rd64, lft]
  · intro p h
    obtain ⟨p0, p1⟩ := h p (by simp)
    refine ⟨fun h => by simp at h, fun _ => ⟨?_, ?_, p0, p1⟩, fun h => by simp at h, fun h => by simp at h⟩
    · show [p * 4 + v / 16] = [(p * 64 + v) / 16]
      rw [show (p * 64 + v) / 16 = p * 4 + v / 16 by omega]
    · show v % 16 = (p * 64 + v) % 16
      omega
  · intro p q h
    obtain ⟨q0, q1⟩ := h q (by simp)
    refine ⟨fun h => by simp at h, fun h => by simp at h, fun _ => ⟨?_, ?_, ?_, ?_⟩, fun h => by simp at h⟩
    · show [p * 4 + q / 16, q % 16 * 16 + v / 4] = [p * 4 + q / 16, (q % 16 * 64 + v) / 4]
      rw [show (q % 16 * 64 + v) / 4 = q % 16 * 16 + v / 4 by omega]
    · show v % 4 = (q % 16 * 64 + v) % 4
      omega
    · show 0 ≤ q % 16
      omega
    · show q % 16 ≤ 15
      omega
  · intro p q r h
    obtain ⟨r0, r1⟩ := h r (by simp)
    refine ⟨fun h => by simp at h, fun h => by simp at h, fun h => by simp at h, fun _ => ⟨rfl, rfl, ?_, ?_⟩⟩
    · show 0 ≤ r % 4
      omega
    · show r % 4 ≤ 3
      omega
  · intro p q r s t ih h
    have i := ih (fun x hx => h x (by simp [hx]))
    have e : (p :: q :: r :: s :: t).length % 4 = t.length % 4 := by simp only [List.length_cons]; omega
    rw [e]
    refine ⟨fun h => ?_, fun h => ?_, fun h => ?_, fun h => ?_⟩
    · obtain ⟨i1, i2, i3⟩ := i.1 h
      exact ⟨by simp only [List.cons_append, rd64, i1], i2, i3⟩
    · obtain ⟨i1, i2, i3⟩ := i.2.1 h
      exact ⟨by simp only [List.cons_append, rd64, i1, lft], i2, i3⟩
    · obtain ⟨i1, i2, i3⟩ := i.2.2.1 h
      exact ⟨by simp only [List.cons_append, rd64, i1, lft], i2, i3⟩
    · obtain ⟨i1, i2, i3⟩ := i.2.2.2 h
      exact ⟨by simp only [List.cons_append, rd64, i1, lft], i2, i3⟩
/-- .. where an octet more has come together: m bits are left over. -/
theorem lft_step (v : Int) (hv : V6 v) (vs : List Int) (hvs : ∀ x ∈ vs, V6 x) (h : vs.length % 4 ≠ 0) :
    ∃ m : Nat, m ≤ 4 ∧ 6 * vs.length % 8 = m + 2 ∧ 6 * (vs.length + 1) % 8 = m ∧ rd64 (vs ++ [v]) = rd64 vs ++ [(lft vs * 64 + v) / 2 ^ m] ∧ lft (vs ++ [v]) = (lft vs * 64 + v) % 2 ^ m ∧ 0 ≤ lft vs ∧ lft vs ≤ 63 ∧ 0 ≤ (lft vs * 64 + v) / 2 ^ m ∧ (lft vs * 64 + v) / 2 ^ m ≤ 255 := by
  obtain ⟨_, k1, k2, k3⟩ := lft_snoc v hv vs hvs
  obtain ⟨v0, v1⟩ := hv
  rcases (show vs.length % 4 = 1 ∨ vs.length % 4 = 2 ∨ vs.length % 4 = 3 by omega) with h | h | h
  · obtain ⟨e1, e2, z0, z1⟩ := k1 h
    exact ⟨4, by omega, by omega, by omega, e1, e2, z0, z1, by omega, by omega⟩
  · obtain ⟨e1, e2, z0, z1⟩ := k2 h
    exact ⟨2, by omega, by omega, by omega, e1, e2, z0, by omega, by omega, by omega⟩
  · obtain ⟨e1, e2, z0, z1⟩ := k3 h
    exact ⟨0, by omega, by omega, by omega, by rw [e1]; simp, by rw [e2]; simp, z0, by omega, by simp; omega, by simp; omega⟩
theorem mask_i64 (m : Nat) (hm : m ≤ 4) (n : Int) : bits .and .i64 n (2 ^ m - 1) = n % 2 ^ m := by
  rcases (show m = 0 ∨ m = 1 ∨ m = 2 ∨ m = 3 ∨ m = 4 by omega) with h | h | h | h | h <;> subst h
  all_goals
    show IntKind.i64.wrap ((BitVec.ofInt 64 n &&& BitVec.ofInt 64 _).toNat : Int) = _
    rw [BitVec.toNat_and, BitVec.toNat_ofInt, BitVec.toNat_ofInt]
  · rw [show (((2 ^ 0 - 1 : Int)) % ((2 ^ 64 : Nat) : Int)).toNat = 2 ^ 0 - 1 by decide, Nat.and_two_pow_sub_one_eq_mod, IntWalk.i64_in _ (by omega)]; omega
  · rw [show (((2 ^ 1 - 1 : Int)) % ((2 ^ 64 : Nat) : Int)).toNat = 2 ^ 1 - 1 by decide, Nat.and_two_pow_sub_one_eq_mod, IntWalk.i64_in _ (by omega)]; omega
  · rw [show (((2 ^ 2 - 1 : Int)) % ((2 ^ 64 : Nat) : Int)).toNat = 2 ^ 2 - 1 by decide, Nat.and_two_pow_sub_one_eq_mod, IntWalk.i64_in _ (by omega)]; omega
  · rw [show (((2 ^ 3 - 1 : Int)) % ((2 ^ 64 : Nat) : Int)).toNat = 2 ^ 3 - 1 by decide, Nat.and_two_pow_sub_one_eq_mod, IntWalk.i64_in _ (by omega)]; omega
  · rw [show (((2 ^ 4 - 1 : Int)) % ((2 ^ 64 : Nat) : Int)).toNat = 2 ^ 4 - 1 by decide, Nat.and_two_pow_sub_one_eq_mod, IntWalk.i64_in _ (by omega)]; omega
theorem looL_wf (xs : List Int) : ∀ x ∈ looL xs, (Lit.int .u8 x).wf = true := by
  have key : ∀ vs : List Int, (∀ v ∈ vs, V6 v) → ∀ x ∈ rd64 vs, 0 ≤ x ∧ x ≤ 255 := by
    refine ind4 ?_ ?_ ?_ ?_ ?_
    · intro _ x hx; cases hx
    · intro p _ x hx; cases hx
    · intro p q h x hx
      obtain ⟨p0, p1⟩ := h p (by simp)
      obtain ⟨q0, q1⟩ := h q (by simp)
      simp only [rd64, List.mem_cons, List.not_mem_nil, or_false] at hx
      omega
    · intro p q r h x hx
      obtain ⟨p0, p1⟩ := h p (by simp)
      obtain ⟨q0, q1⟩ := h q (by simp)
      obtain ⟨r0, r1⟩ := h r (by simp)
      simp only [rd64, List.mem_cons, List.not_mem_nil, or_false] at hx
      omega
    · intro p q r s t ih h x hx
      obtain ⟨p0, p1⟩ := h p (by simp)
      obtain ⟨q0, q1⟩ := h q (by simp)
      obtain ⟨r0, r1⟩ := h r (by simp)
      obtain ⟨s0, s1⟩ := h s (by simp)
      simp only [rd64, List.mem_cons] at hx
      rcases hx with hx | hx | hx | hx
      · omega
      · omega
      · omega
      · exact ih (fun x hx => h x (by simp [hx])) x hx
  intro x hx
  have := key _ (digL_v6 xs) x hx
  exact mk_u8 this.1 this.2

end Go.Proofs.Ytpmkgpnielolbaa

/-! D02b -/
namespace Go.Proofs.Ytpmkgpnielolbaa
open Go.RowKit
set_option linter.unusedVariables false

theorem digM_low (k c : Int) (hk0 : 0 ≤ k) (hk1 : k ≤ 15) (h0 : 0 ≤ c) (h1 : c ≤ 255) : (lowI (digI k) == lowI c) = digM k c := by
  rw [Bool.eq_iff_iff]
  unfold digM digI lowI
  simp only [Bool.or_eq_true, beq_iff_eq, Bool.and_eq_true, decide_eq_true_eq]
  constructor <;> (intro h; (repeat' split at h) <;> (repeat' split) <;> omega)
/-- The low four bits. -/
theorem and15 (n : Int) : bits .and .i64 n 15 = n % 16 := by
  show IntKind.i64.wrap ((BitVec.ofInt 64 n &&& BitVec.ofInt 64 15).toNat : Int) = _
  rw [BitVec.toNat_and, BitVec.toNat_ofInt, BitVec.toNat_ofInt]
  rw [show ((15 : Int) % (2 ^ 64 : Nat)).toNat = 2 ^ 4 - 1 by decide, Nat.and_two_pow_sub_one_eq_mod]
  rw [IntWalk.i64_in _ (by omega)]
  omega
/-- Two digits together. -/
theorem join_fin : ∀ a b : Fin 16, bits .or .i64 ((16 * a.val : Nat) : Int) (b.val : Int) = ((16 * a.val + b.val : Nat) : Int) := by decide +kernel
theorem join16 (a b : Int) (ha0 : 0 ≤ a) (ha1 : a ≤ 15) (hb0 : 0 ≤ b) (hb1 : b ≤ 15) : bits .or .i64 (16 * a) b = 16 * a + b := by
  have := join_fin ⟨a.toNat, by omega⟩ ⟨b.toNat, by omega⟩
  simp only at this
  rwa [show ((16 * a.toNat : Nat) : Int) = 16 * a by omega, show ((b.toNat : Nat) : Int) = b by omega, show ((16 * a.toNat + b.toNat : Nat) : Int) = 16 * a + b by omega] at this

abbrev digS : ByteArray := { data := #[48, 49, 50, 51, 52, 53, 54, 55, 56, 57, 65, 66, 67, 68, 69, 70] }
theorem digS_fin : ∀ k : Fin 16, ((digS.data[k.val]'(by have := k.isLt; simp)).toNat : Int) = digI (k.val : Int) := by decide +kernel
theorem digS_get (k : Nat) (h : k < digS.size) : ((digS[k]'h).toNat : Int) = digI k := digS_fin ⟨k, h⟩

/-- Has a text no small digits above nine? -/
def capB (x : Int) : Bool := !(decide (97 ≤ x) && decide (x ≤ 102))
/-- A row of octets that is filled out of pairs of digits. -/
def fillP (xs : List Int) (n j : Nat) : List Int := pairs (xs.take (2 * j)) ++ List.replicate (n - j) 0
theorem fillP_zero (xs : List Int) (n : Nat) : fillP xs n 0 = List.replicate n 0 := by simp [fillP, pairs]
theorem fillP_len {xs : List Int} {n j : Nat} (h : 2 * j ≤ xs.length) (hj : j ≤ n) : (fillP xs n j).length = n := by
  unfold fillP
  rw [List.length_append, pairs_len j _ (by rw [List.length_take]; omega), List.length_replicate]; omega
theorem fillP_all {xs : List Int} {n j : Nat} (hj : n ≤ j) (h : xs.length ≤ 2 * j) : fillP xs n j = pairs xs := by
  unfold fillP
  rw [List.take_of_length_le h, show n - j = 0 by omega]; simp
theorem fillP_set {xs : List Int} {n j : Nat} {x y : Int} (hj : j < n) (h : 2 * j ≤ xs.length) (hx : xs.take (2 * j + 1) = xs.take (2 * j) ++ [x]) (hy : xs.take (2 * j + 1 + 1) = xs.take (2 * j + 1) ++ [y]) :
    (fillP xs n j).set j (16 * hexV x + hexV y) = fillP xs n (j + 1) := by
  unfold fillP
  rw [pairs_next h hx hy]
  have hl : (pairs (xs.take (2 * j))).length = j := pairs_len j _ (by rw [List.length_take]; omega)
  rw [List.set_append_right _ _ (by omega), hl, Nat.sub_self, show n - j = (n - (j + 1)) + 1 by omega, List.replicate_succ]
  simp

end Go.Proofs.Ytpmkgpnielolbaa

/-! C02 -/
namespace Go.Proofs.Ytpmkgpnielolbaa
open Go.RowKit
set_option linter.unusedVariables false





end Go.Proofs.Ytpmkgpnielolbaa

/-! R02 -/
namespace Go.Proofs.Ytpmkgpnielolbaa
open Go.RowKit
set_option linter.unusedVariables false


theorem dig_mod (n : Int) : (n.tmod 16 + 16).tmod 16 = n % 16 := by
  have h1 : -15 ≤ n.tmod 16 ∧ n.tmod 16 ≤ 15 := by
    rcases Int.le_total 0 n with h | h
    · rw [Int.tmod_eq_emod_of_nonneg h]; omega
    · obtain ⟨m, rfl⟩ : ∃ m, n = -m := ⟨-n, by omega⟩
      rw [Int.neg_tmod, Int.tmod_eq_emod_of_nonneg (by omega)]; omega
  rw [Int.tmod_eq_emod_of_nonneg (by omega)]
  rcases Int.le_total 0 n with h | h
  · rw [Int.tmod_eq_emod_of_nonneg h]; omega
  · obtain ⟨m, rfl⟩ : ∃ m, n = -m := ⟨-n, by omega⟩
    rw [Int.neg_tmod, Int.tmod_eq_emod_of_nonneg (by omega)]; omega

theorem dig_wrap (n : Int) : (wrap64 (n.tmod 16 + 16)).tmod 16 = n % 16 := by
  have h1 : -15 ≤ n.tmod 16 ∧ n.tmod 16 ≤ 15 := by
    rcases Int.le_total 0 n with h | h
    · rw [Int.tmod_eq_emod_of_nonneg h]; omega
    · obtain ⟨m, rfl⟩ : ∃ m, n = -m := ⟨-n, by omega⟩
      rw [Int.neg_tmod, Int.tmod_eq_emod_of_nonneg (by omega)]; omega
  have h2 : wrap64 (n.tmod 16 + 16) = n.tmod 16 + 16 := by unfold wrap64; omega
  rw [h2, dig_mod]
set_option maxHeartbeats 1000000 in
theorem digit_r (n : Int) (w : World) :
    Calls Try.prog 65 #[.int .i64 n] w fun e w' => e = .returned (.int .u8 (digI (n % 16))) ∧ w = w' := by
  have hm := dig_wrap n
  have hb : 0 ≤ n % 16 ∧ n % 16 ≤ 15 := by omega
  go_enter Try.func65, Try.ntmps65
  go_wp2
  all_goals (go_ret; exact ⟨ret_int (by unfold digI; split <;> omega), rfl⟩)
theorem digit_n (n : Int) (w : World) (h0 : 0 ≤ n) (h1 : n ≤ 15) :
    Calls Try.prog 65 #[.int .i64 n] w fun e w' => e = .returned (.int .u8 (digI n)) ∧ w = w' := by
  have := digit_r n w
  rwa [show n % 16 = n by omega] at this


theorem digit_hi (x : Int) (w : World) (h0 : 0 ≤ x) (h1 : x ≤ 255) :
    Calls Try.prog 65 #[.int .i64 (x / 16)] w fun e w' => e = .returned (.int .u8 (digI (x / 16))) ∧ w = w' := digit_n _ _ (by omega) (by omega)
theorem digit_lo (x : Int) (w : World) (h0 : 0 ≤ x) (h1 : x ≤ 255) :
    Calls Try.prog 65 #[.int .i64 (x % 16)] w fun e w' => e = .returned (.int .u8 (digI (x % 16))) ∧ w = w' := digit_n _ _ (by omega) (by omega)
/-- The walk's spellings of an octet's two digits. -/
theorem spell (x : Int) (h0 : 0 ≤ x) (h1 : x ≤ 255) : IntKind.i64.wrap x = x ∧ x.tdiv 16 = x / 16 ∧ x.tmod 16 = x % 16 ∧ IntKind.i64.wrap (x / 16) = x / 16 ∧ IntKind.i64.wrap (x % 16) = x % 16 :=
  ⟨IntWalk.i64_in _ (by omega), Int.tdiv_eq_ediv_of_nonneg h0, Int.tmod_eq_emod_of_nonneg h0, IntWalk.i64_in _ (by omega), IntWalk.i64_in _ (by omega)⟩

set_option maxHeartbeats 1000000 in
theorem put_r (a : Option Addr) (len cap : Nat) (xs : List Int) (s c : Int) (w : World) (hr : Reads .u8 w a len cap xs) (hN : len < 1000000000) (h0 : 0 ≤ c) (h1 : c ≤ 255) (hs : (Lit.int .u8 s).wf = true) :
    Calls Try.prog 52 #[.slice a len cap, .int .u8 s, .int .u8 c] w fun e w' => ∃ a' len' cap', e = .returned (.slice a' len' cap') ∧ Reads .u8 w' a' len' cap' (escI xs s c) ∧ Below w.heap.size w w' := by
  have HR := hid hr
  have hsz := hr.size
  clear hr
  have hwf := hid (dig3_wf s c hs h0 h1)
  have he : Hid (xs ++ [s, digI (c / 16), digI (c % 16)] = escI xs s c) := hid rfl
  go_enter Try.func52, Try.ntmps52
  go_wp2_with (first
    | (go_at_call 65; (with_reducible refine (digit_n _ _ (by omega) (by omega)).mono ?_); rintro e w' ⟨rfl, rfl⟩)
    | (at_builtin; (refine wpList_pushs ST8 [s, digI (c / 16), digI (c % 16)] rfl _ _ rfl rfl ⟨_, rfl⟩ ho2 hb2 (by simp; omega) hwf.out ?_); intro v3 w3 ho3 hb3)
    | (at_builtin; go_must (refine wpList_more ST8 rfl _ _ rfl rfl rfl (Own.nil _ _ _ _) (Below.refl _ _) HR.out (by simp; omega) ?_); intro v2 w2 ho2 hb2))
  obtain ⟨a', len', cap', rfl, hrd⟩ := ho3.back
  go_ret
  exact ⟨a', len', cap', rfl, by simpa [escI] using hrd, hb3⟩

end Go.Proofs.Ytpmkgpnielolbaa
