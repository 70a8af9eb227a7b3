/-
  Contracts of package bcode's functions: what is read.
-/
import Derived.Test.YtobjdamlmaaidaaDoorSuf
import Derived.Test.YtobjdamlmaaidaaDoorC14b
import Derived.Test.YtobjdamlmaaidaaDoorStrB
namespace Go.Proofs.YtobjdamlmaaidaaDoor
open Go.RowKit
set_option linter.unusedVariables false

/-- Numbers of digits together, the first k of them; what is missing is 0. -/
def dat (xs : List Int) (k : Nat) : Int := valI (xs.getD k 61)
def acc6 (xs : List Int) : Nat → Int
  | 0 => 0
  | k + 1 => acc6 xs k * 64 + dat xs k
theorem dat_bd (xs : List Int) (k : Nat) : 0 ≤ dat xs k ∧ dat xs k ≤ 63 := val_bd _
theorem acc_bd (xs : List Int) (k : Nat) (h : k ≤ 3) : 0 ≤ acc6 xs k ∧ acc6 xs k ≤ 262143 := by
  have h0 := dat_bd xs 0
  have h1 := dat_bd xs 1
  have h2 := dat_bd xs 2
  have hk : k = 0 ∨ k = 1 ∨ k = 2 ∨ k = 3 := by omega
  rcases hk with rfl | rfl | rfl | rfl <;> simp only [acc6] <;> omega
theorem val_61 : valI 61 = 0 := by decide +kernel
theorem dat_at {xs : List Int} {k : Nat} {x : Int} (h : xs[k]? = some x) : dat xs k = valI x := by unfold dat; simp [List.getD, h]
theorem dat_out {xs : List Int} {k : Nat} (h : xs.length ≤ k) : dat xs k = 0 := by unfold dat; rw [List.getD_eq_getElem?_getD, List.getElem?_eq_none h]; exact val_61
/-- Three octets of what four digits make; and as many of them as are whole. -/
theorem rd_group {xs : List Int} (h1 : 1 ≤ xs.length) (h4 : xs.length ≤ 4) : rd64 (xs.map valI) = [acc6 xs 4 / 65536 % 256, acc6 xs 4 / 256 % 256, acc6 xs 4 % 256].take (xs.length * 6 / 8) := by
  match xs with
  | [a] => simp [rd64]
  | [a, b] =>
    have ha := val_bd a
    have hb := val_bd b
    have h2 := dat_out (xs := [a, b]) (k := 2) (by simp)
    have h3 := dat_out (xs := [a, b]) (k := 3) (by simp)
    unfold V6 at ha hb
    have e : acc6 [a, b] 4 = (valI a * 64 + valI b) * 4096 := by simp only [acc6, h2, h3]; rw [dat_at (x := a) rfl, dat_at (x := b) rfl]; omega
    rw [e]
    simp only [List.map_cons, List.map_nil, rd64, List.length_cons, List.length_nil, List.take_succ_cons, List.take_zero]
    exact cons2 (by omega) rfl
  | [a, b, c] =>
    have ha := val_bd a
    have hb := val_bd b
    have hc := val_bd c
    have h3 := dat_out (xs := [a, b, c]) (k := 3) (by simp)
    unfold V6 at ha hb hc
    have e : acc6 [a, b, c] 4 = ((valI a * 64 + valI b) * 64 + valI c) * 64 := by simp only [acc6, h3]; rw [dat_at (x := a) rfl, dat_at (x := b) rfl, dat_at (x := c) rfl]; omega
    rw [e]
    simp only [List.map_cons, List.map_nil, rd64, List.length_cons, List.length_nil, List.take_succ_cons, List.take_zero]
    exact cons2 (by omega) (cons2 (by omega) rfl)
  | [a, b, c, d] =>
    have ha := val_bd a
    have hb := val_bd b
    have hc := val_bd c
    have hd := val_bd d
    unfold V6 at ha hb hc hd
    have e : acc6 [a, b, c, d] 4 = ((valI a * 64 + valI b) * 64 + valI c) * 64 + valI d := by simp only [acc6]; rw [dat_at (x := a) rfl, dat_at (x := b) rfl, dat_at (x := c) rfl, dat_at (x := d) rfl]; omega
    rw [e]
    simp only [List.map_cons, List.map_nil, rd64, List.length_cons, List.length_nil, List.take_succ_cons, List.take_zero]
    exact cons2 (by omega) (cons2 (by omega) (cons2 (by omega) rfl))
  | [] => simp at h1
  | _ :: _ :: _ :: _ :: _ :: _ => simp at h4

theorem rd_four (ys : List Int) : rd64 ys = rd64 (ys.take 4) ++ rd64 (ys.drop 4) := by
  match ys with
  | [] => rfl
  | [a] => rfl
  | [a, b] => rfl
  | [a, b, c] => rfl
  | a :: b :: c :: d :: r => rfl
theorem rd_part {ys : List Int} {n : Nat} (h : n = 4 ∨ (ys.length ≤ n ∧ n ≤ 4)) : rd64 (ys.map valI) = rd64 ((ys.take n).map valI) ++ rd64 ((ys.drop n).map valI) := by
  rcases h with rfl | ⟨h, _⟩
  · rw [List.map_take, List.map_drop]; exact rd_four _
  · rw [List.take_of_length_le h, List.drop_of_length_le h]
    show _ = _ ++ []
    rw [List.append_nil]
end Go.Proofs.YtobjdamlmaaidaaDoor
