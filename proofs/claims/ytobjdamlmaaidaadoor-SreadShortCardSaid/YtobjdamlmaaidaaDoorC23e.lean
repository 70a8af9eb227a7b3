/-
  Contracts of package sread: what is laid of what is read.
-/
import Derived.Test.YtobjdamlmaaidaaDoorC23d
import Derived.Test.YtobjdamlmaaidaaDoorC22
namespace Go.Proofs.YtobjdamlmaaidaaDoor
open Go.RowKit
set_option linter.unusedVariables false

theorem layU_le : ∀ (n : Nat) (xs : List Int), xs.length ≤ n → (layU xs []).length ≤ 10 * xs.length
  | 0, xs, h => by
    obtain rfl : xs = [] := List.eq_nil_of_length_eq_zero (by omega)
    simp [layU, closeU]
  | n + 1, xs, h => by
    obtain ⟨m, j, _, _, hm, hj, hp, _, _, hlay, _⟩ := layU_next xs
    by_cases h0 : xs = []
    · subst h0; simp [layU, closeU]
    · have := hp h0
      have h1 := aloneU_len (xs.take m)
      have h2 := closeU_len ((xs.drop m).take j)
      have h3 := layU_le n ((xs.drop m).drop j) (by rw [List.length_drop, List.length_drop]; omega)
      rw [hlay, List.length_append, List.length_append]
      simp only [List.length_take, List.length_drop] at h1 h2 h3
      omega
theorem lay7_le (t : List Int) : (lay7 t).length ≤ 10 * t.length := by
  unfold lay7
  split
  · exact layU_le _ t (Nat.le_refl _)
  · simp
theorem lay7_ok {t : List Int} (h : t.all scB = true) : lay7E t = 0 := by unfold lay7E; rw [if_pos h]
theorem rd7S_laid {t : List Int} (h : t.all scB = true) : rd7 (lay7 t) = t ∧ rd7E (lay7 t) = 0 ∧ rd7S (lay7 t) = t := by
  obtain ⟨h1, h2⟩ := read_lay7 h
  refine ⟨h1, h2, ?_⟩
  unfold rd7S
  unfold rd7E at h2
  split
  · exact h1
  · rename_i hn
    rw [if_neg hn] at h2
    cases h2
set_option maxHeartbeats 1000000 in
theorem sread_Again (a : Option Addr) (len cap : Nat) (xs : List Int) (w : World) (hr : Reads .u8 w a len cap xs) (hN : len < 100000) :
    Calls Tryd.prog 9 #[.slice a len cap] w fun e w' => ∃ a' l' c', e = .returned (.tuple #[.slice a' l' c', .int .i64 0]) ∧ Reads .u8 w' a' l' c' (lay7 (rd7 xs)) ∧ Below w.heap.size w w' := by
  have HR := hid (sread_Read a len cap xs w hr hN)
  have hle := rd7_len xs
  have hE := lay7_ok (rd7_sc xs (fun x hx => (wf_u8 (hr.wf x hx)).1))
  have hsz := hr.size
  have HL := hid (fun W a1 l1 c1 (h : Reads .i32 W a1 l1 c1 (rd7 xs)) (hl : l1 < 1000000) => by
    have := useven_Lay a1 l1 c1 (rd7 xs) W h hl
    rw [hE] at this
    exact this)
  obtain ⟨n, hn⟩ : ∃ n, n = (rd7 xs).length := ⟨_, rfl⟩
  rw [← hn] at HR hle
  clear hr hE hn
  go_enter Tryd.func9, Tryd.ntmps9
  go_wp2_with (first
    | (go_at_call 11; (with_reducible refine HR.out.mono ?_); rintro e w1 ⟨a1, c1, rfl, r1, h1⟩)
    | (go_at_call 20; (with_reducible refine (HL.out _ _ _ _ r1 (by omega)).mono ?_); rintro e w2 ⟨v2, rfl, o2, h2⟩; obtain ⟨a2, c2, rfl, r2⟩ := o2.reads; have t2 := below_then h1 h2))
  go_ret2
  exact ⟨_, _, _, rfl, r2, t2⟩
end Go.Proofs.YtobjdamlmaaidaaDoor
