/-
  Layer 23, in plain words: a run's bits, taken digit by digit.
-/
import Derived.Test.YtobjdamlmaaidaaDoorD23
namespace Go.Proofs.YtobjdamlmaaidaaDoor
open Go.RowKit
set_option linter.unusedVariables false

theorem pow2_le {m n : Nat} (h : m ≤ n) : (2 : Int) ^ m ≤ 2 ^ n := by
  have := Nat.pow_le_pow_right (n := 2) (by omega) h
  exact_mod_cast this
theorem parts_mul {n : Nat} (hn : 0 < n) (f : List Int → Int) : ∀ (q : Nat) (x y : List Int), x.length = n * q → parts n f (x ++ y) = parts n f x ++ parts n f y
  | 0, x, y, h => by
    obtain rfl : x = [] := List.eq_nil_of_length_eq_zero (by omega)
    rw [parts_short f (l := []) (by simpa using hn)]; rfl
  | q + 1, x, y, h => by
    have h1 : n * (q + 1) = n * q + n := Nat.mul_succ n q
    have hl : (x.take n).length = n := by rw [List.length_take]; omega
    have e := List.take_append_drop n x
    rw [← e, List.append_assoc, parts_app hn f hl, parts_app hn f hl, parts_mul hn f q (x.drop n) y (by rw [List.length_drop]; omega)]
    rfl
theorem rest_len (l : List Int) : (restD l).length = l.length % 16 := by unfold restD; rw [List.length_drop]; omega
theorem rest_all (l : List Int) : ∃ x, x.length = 16 * (l.length / 16) ∧ l = x ++ restD l :=
  ⟨l.take (16 * (l.length / 16)), by rw [List.length_take]; omega, (List.take_append_drop _ _).symm⟩
theorem bit6_01 (v : Int) : ∀ b ∈ bit6 v, b = 0 ∨ b = 1 := by
  intro b hb
  unfold bit6 at hb
  simp only [List.mem_cons, List.not_mem_nil, or_false] at hb
  omega
theorem num_bit6 {v : Int} (h : V6 v) : numL (bit6 v) = v := by
  unfold V6 at h
  simp only [numL, bit6, List.foldl_cons, List.foldl_nil]
  omega
theorem num_lt2 {l : List Int} (h : ∀ b ∈ l, b = 0 ∨ b = 1) : 0 ≤ numL l ∧ numL l < 2 ^ l.length := by
  have := num_lt7 l 0 h (Int.le_refl _)
  unfold numL
  simpa using this
/-- Six bits more, that make no unit yet. -/
theorem step_less {l : List Int} (v : Int) (hv : V6 v) (hm : l.length % 16 < 10) :
    parts 16 numL (l ++ bit6 v) = parts 16 numL l ∧ numL (restD (l ++ bit6 v)) = numL (restD l) * 64 + v := by
  obtain ⟨x, hx, hl⟩ := rest_all l
  have hr := rest_len l
  have h6 : (bit6 v).length = 6 := rfl
  constructor
  · conv => lhs; rw [hl]
    conv => rhs; rw [hl]
    rw [List.append_assoc, parts_mul (by decide) numL _ x _ hx, parts_mul (by decide) numL _ x _ hx, parts_short numL (l := restD l ++ bit6 v) (by rw [List.length_append]; omega), parts_short numL (l := restD l) (by omega)]
  · have e : restD (l ++ bit6 v) = restD l ++ bit6 v := by
      unfold restD
      rw [List.length_append, h6, show 16 * ((l.length + 6) / 16) = 16 * (l.length / 16) by omega, List.drop_append_of_le_length (by omega)]
    rw [e, num_app, num_bit6 hv, h6]
    rfl
/-- .. that make a unit, and leave j bits over. -/
theorem step_unit {l : List Int} (v : Int) (hv : V6 v) (j : Nat) (hj : l.length % 16 = j + 10) :
    parts 16 numL (l ++ bit6 v) = parts 16 numL l ++ [(numL (restD l) * 64 + v) / 2 ^ j] ∧ numL (restD (l ++ bit6 v)) = (numL (restD l) * 64 + v) % 2 ^ j := by
  obtain ⟨x, hx, hl⟩ := rest_all l
  have hr := rest_len l
  have h6 : (bit6 v).length = 6 := rfl
  obtain ⟨y, hy⟩ : ∃ y, y = restD l ++ bit6 v := ⟨_, rfl⟩
  have hyl : y.length = 16 + j := by rw [hy, List.length_append]; omega
  have hyn : numL y = numL (restD l) * 64 + v := by rw [hy, num_app, num_bit6 hv, h6]; rfl
  have hs : y = y.take 16 ++ y.drop 16 := (List.take_append_drop 16 y).symm
  have h16 : (y.take 16).length = 16 := by rw [List.length_take]; omega
  have hdl : (y.drop 16).length = j := by rw [List.length_drop]; omega
  have hd01 : ∀ b ∈ y.drop 16, b = 0 ∨ b = 1 := by
    intro b hb
    have h := List.mem_of_mem_drop hb
    -- j bits of the last six
    have : y.drop 16 = (bit6 v).drop (6 - j) := by
      rw [hy, List.drop_append, List.drop_of_length_le (by omega), List.nil_append]
      congr 1
      omega
    rw [this] at hb
    exact bit6_01 v b (List.mem_of_mem_drop hb)
  have hlt := num_lt2 hd01
  rw [hdl] at hlt
  have hnum : numL y = numL (y.take 16) * 2 ^ j + numL (y.drop 16) := by
    conv => lhs; rw [hs]
    rw [num_app, hdl]
  have hp : (0 : Int) < 2 ^ j := Int.pow_pos (by decide)
  rw [← hyn, hnum]
  constructor
  · rw [Int.add_comm, Int.add_mul_ediv_right _ _ (by omega), Int.ediv_eq_zero_of_lt hlt.1 hlt.2, Int.zero_add]
    conv => lhs; rw [hl]
    conv => rhs; rw [hl]
    rw [List.append_assoc, ← hy, parts_mul (by decide) numL _ x _ hx, parts_mul (by decide) numL _ x _ hx, parts_short numL (l := restD l) (by omega), List.append_nil]
    conv => lhs; rw [hs]
    rw [parts_app (by decide) numL h16, parts_short numL (l := y.drop 16) (by omega)]
  · rw [Int.add_comm, Int.add_mul_emod_self_right, Int.emod_eq_of_lt hlt.1 hlt.2]
    have e : restD (l ++ bit6 v) = y.drop 16 := by
      unfold restD
      rw [List.length_append, h6, show 16 * ((l.length + 6) / 16) = 16 * (l.length / 16) + 16 by omega, hy]
      conv => lhs; rw [hl]
      rw [List.append_assoc, ← List.drop_drop, show 16 * ((x ++ restD l).length / 16) = x.length by rw [← hl, hx], List.drop_left]
    rw [e]
/-- The bits of some digits of all. -/
theorem vlD_snoc {d : List Int} (h : d.all isDig = true) {k : Nat} {x : Int} (hx : d.take (k + 1) = d.take k ++ [x]) : vlD (d.take (k + 1)) = vlD (d.take k) ++ bit6 (valI x) := by
  have h1 : (d.take (k + 1)).all isDig = true := List.all_eq_true.2 fun y hy => List.all_eq_true.1 h y (List.mem_of_mem_take hy)
  have h2 : (d.take k).all isDig = true := List.all_eq_true.2 fun y hy => List.all_eq_true.1 h y (List.mem_of_mem_take hy)
  unfold vlD
  rw [if_pos h1, if_pos h2, hx, List.map_append]
  unfold bits6
  rw [List.flatMap_append]
  simp
theorem vlD_take {d : List Int} (h : d.all isDig = true) {k : Nat} (hk : k ≤ d.length) : (vlD (d.take k)).length = 6 * k := by
  have h2 : (d.take k).all isDig = true := List.all_eq_true.2 fun y hy => List.all_eq_true.1 h y (List.mem_of_mem_take hy)
  unfold vlD
  rw [if_pos h2, bits6_len, List.length_map, List.length_take]
  omega
end Go.Proofs.YtobjdamlmaaidaaDoor
