/-
  Contracts of the library's functions on octets that look at a beginning: bytes.HasPrefix, bytes.CutPrefix at one octet (those that the translation has).
-/
import Derived.Test.YtldmoopdffenfaaDoorRows
import Derived.Test.YtldmoopdffenfaaDoorStrB
namespace Go.Proofs.YtldmoopdffenfaaDoor
open Go.RowKit
set_option linter.unusedVariables false

theorem bytes_HasPrefix (a : Option Addr) (len cap : Nat) (xs : List Int) (a2 : Option Addr) (m cap2 : Nat) (ys : List Int) (w : World) (hr : Reads .u8 w a len cap xs) (hr2 : Reads .u8 w a2 m cap2 ys) :
    Calls Tryd.prog 26 #[.slice a len cap, .slice a2 m cap2] w fun e w' => e = .returned (.bool (decide (xs.take m = ys))) ∧ w = w' := by
  have hl := hr.len_le
  have hrm := hr.room
  have hsz := hr.size
  have hm := hr2.size
  by_cases h : m ≤ len
  · have hq := bytes_Equal _ _ _ _ _ _ _ _ w (hr.pre h) hr2
    generalize decide (xs.take m = ys) = F at hq ⊢
    have HQ := hid hq
    clear hq hr hr2 hsz hm
    go_enter Tryd.func26, Tryd.ntmps26
    go_wp2_with (go_at_call 35; (with_reducible refine HQ.out.mono ?_); rintro e w' ⟨rfl, rfl⟩)
    go_ret
    exact ⟨rfl, rfl⟩
  · have hF : decide (xs.take m = ys) = false := decide_eq_false (by intro h; have := congrArg List.length h; rw [List.length_take] at this; omega)
    rw [hF]
    have h' : len < m := by omega
    clear hr hr2 hF hsz hm h
    go_enter Tryd.func26, Tryd.ntmps26
    go_wp2_with fail
    go_ret
    exact ⟨rfl, rfl⟩
/-- bytes.CutPrefix at one octet: what is left reads as it did in w0. -/
theorem bytes_CutPrefix1 (a : Option Addr) (len cap : Nat) (xs : List Int) (a2 : Option Addr) (cap2 : Nat) (c : Int) (w0 w : World) (hr : Reads .u8 w0 a len cap xs) (hb : Below w0.heap.size w0 w) (hr2 : Reads .u8 w a2 1 cap2 [c]) :
    Calls Tryd.prog 22 #[.slice a len cap, .slice a2 1 cap2] w fun e w' => ∃ a' l' c', e = .returned (.tuple #[.slice a' l' c', .bool (decide (xs.take 1 = [c]))]) ∧ Reads .u8 w0 a' l' c' (if decide (xs.take 1 = [c]) = true then xs.drop 1 else xs) ∧ w = w' := by
  have hq := bytes_HasPrefix a len cap xs a2 1 cap2 [c] w (hr.below hb) hr2
  have hl := hr.len_le
  have hrm := hr.room
  have hsz := hr.size
  cases hh : decide (xs.take 1 = [c])
  · rw [hh] at hq
    rw [if_neg (by decide)]
    have HQ := hid hq
    have HR := hid hr
    clear hq hr hr2 hh
    go_enter Tryd.func22, Tryd.ntmps22
    go_wp2_with (go_at_call 26; (with_reducible refine HQ.out.mono ?_); rintro e w' ⟨rfl, rfl⟩)
    go_ret2
    exact ⟨_, _, _, rfl, HR.out, rfl⟩
  · rw [hh] at hq
    rw [if_pos rfl]
    have hpos : 1 ≤ len := by
      have := congrArg List.length (of_decide_eq_true hh)
      rw [List.length_take, List.length_cons, List.length_nil] at this
      omega
    have hp := hr.piece (l := 1) (r := len) hpos (Nat.le_refl _)
    rw [List.take_of_length_le (by omega)] at hp
    have HQ := hid hq
    have q1 : (1 : Int) ≤ (len : Int) := by omega
    have q3 : (1 : Int) ≤ (cap : Int) := by omega
    have q4 : (len : Int) ≤ (cap : Int) := by omega
    clear hq hr hr2 hh hsz
    by_cases hc : cap = 1
    all_goals
      first | (rw [if_pos hc] at hp; have r3 : (cap = 1) = True := eq_true hc; clear hc) | (rw [if_neg hc] at hp; have r3 : (cap = 1) = False := eq_false hc; clear hc)
      have HP := hid hp
      clear hp
      go_enter Tryd.func22, Tryd.ntmps22
      go_wp2_with (go_at_call 26; (with_reducible refine HQ.out.mono ?_); rintro e w' ⟨rfl, rfl⟩)
      go_ret2
      exact ⟨_, _, _, rfl, HP.out, rfl⟩
/-- bytes.CutPrefix at a beginning of any length: what is left reads as it did in w0. -/
theorem bytes_CutPrefixN (a : Option Addr) (len cap : Nat) (xs : List Int) (a2 : Option Addr) (m cap2 : Nat) (ys : List Int) (w0 w : World) (hr : Reads .u8 w0 a len cap xs) (hb : Below w0.heap.size w0 w) (hr2 : Reads .u8 w a2 m cap2 ys) :
    Calls Tryd.prog 22 #[.slice a len cap, .slice a2 m cap2] w fun e w' => ∃ a' l' c', e = .returned (.tuple #[.slice a' l' c', .bool (decide (xs.take m = ys))]) ∧ Reads .u8 w0 a' l' c' (if decide (xs.take m = ys) = true then xs.drop m else xs) ∧ w = w' := by
  have hq := bytes_HasPrefix a len cap xs a2 m cap2 ys w (hr.below hb) hr2
  have hl := hr.len_le
  have hrm := hr.room
  have hsz := hr.size
  have hm := hr2.size
  cases hh : decide (xs.take m = ys)
  · rw [hh] at hq
    rw [if_neg (by decide)]
    have HQ := hid hq
    have HR := hid hr
    clear hq hr hr2 hh
    go_enter Tryd.func22, Tryd.ntmps22
    go_wp2_with (go_at_call 26; (with_reducible refine HQ.out.mono ?_); rintro e w' ⟨rfl, rfl⟩)
    go_ret2
    exact ⟨_, _, _, rfl, HR.out, rfl⟩
  · rw [hh] at hq
    rw [if_pos rfl]
    have hpos : m ≤ len := by
      have := congrArg List.length (of_decide_eq_true hh)
      rw [List.length_take] at this
      omega
    have hp := hr.piece (l := m) (r := len) hpos (Nat.le_refl _)
    rw [List.take_of_length_le (by omega)] at hp
    have HQ := hid hq
    have q1 : (m : Int) ≤ (len : Int) := by omega
    have q3 : (m : Int) ≤ (cap : Int) := by omega
    have q4 : (len : Int) ≤ (cap : Int) := by omega
    have q5 : ((len : Int) - (m : Int)).toNat = len - m := by omega
    have q6 : ((cap : Int) - (m : Int)).toNat = cap - m := by omega
    clear hq hr hr2 hh hsz hm
    by_cases hc : cap = m
    all_goals
      first | (rw [if_pos hc] at hp; have r3 : (cap = m) = True := eq_true hc; clear hc) | (rw [if_neg hc] at hp; have r3 : (cap = m) = False := eq_false hc; clear hc)
      have HP := hid hp
      clear hp
      go_enter Tryd.func22, Tryd.ntmps22
      go_wp2_with (go_at_call 26; (with_reducible refine HQ.out.mono ?_); rintro e w' ⟨rfl, rfl⟩)
      go_ret2
      exact ⟨_, _, _, rfl, HP.out, rfl⟩
end Go.Proofs.YtldmoopdffenfaaDoor
