/-
  Contracts of the library's functions on octets that look at an end of one octet: bytes.HasSuffix, bytes.CutSuffix (those that the translation has).
-/
import Derived.Test.YtpdoehdmeojmkaaDoorStrB
namespace Go.Proofs.YtpdoehdmeojmkaaDoor
open Go.RowKit
set_option linter.unusedVariables false

/-- bytes.HasSuffix at one octet. -/
theorem bytes_HasSuffix1 (a : Option Addr) (len cap : Nat) (xs : List Int) (a2 : Option Addr) (cap2 : Nat) (c : Int) (w : World) (hr : Reads .u8 w a len cap xs) (hr2 : Reads .u8 w a2 1 cap2 [c]) :
    Calls Tryd.prog 51 #[.slice a len cap, .slice a2 1 cap2] w fun e w' => e = .returned (.bool (decide (0 < len ∧ xs.getD (len - 1) 0 = c))) ∧ w = w' := by
  have hl := hr.len_le
  have hsz := hr.size
  have hrm := hr.room
  have HR2 := hid hr2
  clear hr2
  by_cases h : 1 ≤ len
  · have hp := hr.piece (l := len - 1) (r := len) (by omega) (by omega)
    rw [List.take_of_length_le (by omega), if_neg (show ¬ cap = len - 1 by omega)] at hp
    obtain ⟨b, off, x, rfl, _, hc, hx0, hx1, hx⟩ := hr.get8 (i := len - 1) (by omega)
    have hd : xs.drop (len - 1) = [x] := by
      rw [List.drop_eq_getElem_cons (by omega), List.drop_of_length_le (by omega)]
      have := hx.out.1
      rw [List.getElem?_eq_getElem (by omega)] at this
      rw [Option.some.inj this]
    rw [hd, Option.map_some, Addr.add_lit] at hp
    have hg : xs.getD (len - 1) 0 = x := by simp [List.getD, hx.out.1]
    rw [hg]
    have hq := bytes_Equal _ _ _ _ _ _ _ _ w hp HR2.out
    have hd2 : decide ([x] = [c]) = decide (0 < len ∧ x = c) := by
      rw [Bool.eq_iff_iff, decide_eq_true_iff, decide_eq_true_iff]
      constructor
      · intro h; exact ⟨by omega, by simpa using h⟩
      · intro h; rw [h.2]
    rw [hd2] at hq
    obtain ⟨F, hF⟩ : ∃ F, F = decide (0 < len ∧ x = c) := ⟨_, rfl⟩
    rw [← hF] at hq ⊢
    clear hF
    have HQ := hid hq
    clear hq hd2 hp hd hg hr hsz
    have hix : ((len : Int) - 1) = ((len - 1 : Nat) : Int) := by omega
    go_enter Tryd.func51, Tryd.ntmps51
    go_wp2_with (go_at_call 58; (with_reducible refine HQ.out.mono ?_); rintro e w' ⟨rfl, rfl⟩)
    go_ret
    exact ⟨rfl, rfl⟩
  · obtain rfl : len = 0 := by omega
    clear hr
    go_enter Tryd.func51, Tryd.ntmps51
    go_wp2_with fail
    go_ret
    exact ⟨ret_bool (by simp), rfl⟩
/-- bytes.CutSuffix at one octet: what is left is a beginning. -/
theorem bytes_CutSuffix1 (a : Option Addr) (len cap : Nat) (xs : List Int) (a2 : Option Addr) (cap2 : Nat) (c : Int) (w : World) (hr : Reads .u8 w a len cap xs) (hr2 : Reads .u8 w a2 1 cap2 [c]) :
    Calls Tryd.prog 36 #[.slice a len cap, .slice a2 1 cap2] w fun e w' => e = .returned (.tuple #[.slice a (if 0 < len ∧ xs.getD (len - 1) 0 = c then len - 1 else len) cap, .bool (decide (0 < len ∧ xs.getD (len - 1) 0 = c))]) ∧ w = w' := by
  have hq := bytes_HasSuffix1 a len cap xs a2 cap2 c w hr hr2
  have hl := hr.len_le
  have hrm := hr.room
  by_cases h : 0 < len ∧ xs.getD (len - 1) 0 = c
  · rw [decide_eq_true h] at hq ⊢
    rw [if_pos h]
    have HQ := hid hq
    have hpos : 1 ≤ len := h.1
    have hix : ((len : Int) - 1) = ((len - 1 : Nat) : Int) := by omega
    clear hq h hr hr2
    go_enter Tryd.func36, Tryd.ntmps36
    go_wp2_with (go_at_call 51; (with_reducible refine HQ.out.mono ?_); rintro e w' ⟨rfl, rfl⟩)
    go_ret2
    exact ⟨rfl, rfl⟩
  · rw [decide_eq_false h] at hq ⊢
    rw [if_neg h]
    have HQ := hid hq
    clear hq h hr hr2
    go_enter Tryd.func36, Tryd.ntmps36
    go_wp2_with (go_at_call 51; (with_reducible refine HQ.out.mono ?_); rintro e w' ⟨rfl, rfl⟩)
    go_ret2
    exact ⟨rfl, rfl⟩
end Go.Proofs.YtpdoehdmeojmkaaDoor
