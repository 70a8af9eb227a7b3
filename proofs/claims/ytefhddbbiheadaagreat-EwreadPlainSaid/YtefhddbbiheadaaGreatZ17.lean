/-
  Texts of ours laid together: Suf, R01.
-/
import Derived.Test.YtefhddbbiheadaaGreatRows
import Derived.Test.YtefhddbbiheadaaGreatZ16

/-! Suf -/
namespace Go.Proofs.YtefhddbbiheadaaGreat
open Go.RowKit
set_option linter.unusedVariables false

/-- bytes.HasSuffix at one octet. -/
theorem bytes_HasSuffix1 (a : Option Addr) (len cap : Nat) (xs : List Int) (a2 : Option Addr) (cap2 : Nat) (c : Int) (w : World) (hr : Reads .u8 w a len cap xs) (hr2 : Reads .u8 w a2 1 cap2 [c]) :
    Calls Tryz.prog 130 #[.slice a len cap, .slice a2 1 cap2] w fun e w' => e = .returned (.bool (decide (0 < len ∧ xs.getD (len - 1) 0 = c))) ∧ w = w' := by
  have hl := hr.len_le
  have hsz := hr.size
  have hrm := hr.room
  have HR2 := hid hr2
  clear hr2
  by_cases h : 1 ≤ len
  · have hp := hr.piece (l := len - 1) (r := len) (by omega) (by omega)
    rw [List.take_of_length_le (by omega), if_neg (show ¬ cap = len - 1 by omega)] at hp
    obtain ⟨b, off, x, rfl, _, hc, hx0, hx1, hx⟩ := hr.get8 (i := len - 1) (by omega)
    have hd : xs.drop (len - 1) = [x] := by
      rw [List.drop_eq_getElem_cons (by omega), List.drop_of_length_le (by omega)]
      have := hx.out.1
      rw [List.getElem?_eq_getElem (by omega)] at this
      rw [Option.some.inj this]
    rw [hd, Option.map_some, Addr.add_lit] at hp
    have hg : xs.getD (len - 1) 0 = x := by simp [List.getD, hx.out.1]
    rw [hg]
    have hq := bytes_Equal _ _ _ _ _ _ _ _ w hp HR2.out
    have hd2 : decide ([x] = [c]) = decide (0 < len ∧ x = c) := by
      rw [Bool.eq_iff_iff, decide_eq_true_iff, decide_eq_true_iff]
      constructor
      · intro h; exact ⟨by omega, by simpa using h⟩
      · intro h; rw [h.2]
    rw [hd2] at hq
    obtain ⟨F, hF⟩ : ∃ F, F = decide (0 < len ∧ x = c) := ⟨_, rfl⟩
    rw [← hF] at hq ⊢
    clear hF
    have HQ := hid hq
    clear hq hd2 hp hd hg hr hsz
    have hix : ((len : Int) - 1) = ((len - 1 : Nat) : Int) := by omega
    go_enter Tryz.func130, Tryz.ntmps130
    go_wp2_with (go_at_call 126; (with_reducible refine HQ.out.mono ?_); rintro e w' ⟨rfl, rfl⟩)
    go_ret
    exact ⟨rfl, rfl⟩
  · obtain rfl : len = 0 := by omega
    clear hr
    go_enter Tryz.func130, Tryz.ntmps130
    go_wp2_with fail
    go_ret
    exact ⟨ret_bool (by simp), rfl⟩
/-- bytes.CutSuffix at one octet: what is left is a beginning. -/
theorem bytes_CutSuffix1 (a : Option Addr) (len cap : Nat) (xs : List Int) (a2 : Option Addr) (cap2 : Nat) (c : Int) (w : World) (hr : Reads .u8 w a len cap xs) (hr2 : Reads .u8 w a2 1 cap2 [c]) :
    Calls Tryz.prog 105 #[.slice a len cap, .slice a2 1 cap2] w fun e w' => e = .returned (.tuple #[.slice a (if 0 < len ∧ xs.getD (len - 1) 0 = c then len - 1 else len) cap, .bool (decide (0 < len ∧ xs.getD (len - 1) 0 = c))]) ∧ w = w' := by
  have hq := bytes_HasSuffix1 a len cap xs a2 cap2 c w hr hr2
  have hl := hr.len_le
  have hrm := hr.room
  by_cases h : 0 < len ∧ xs.getD (len - 1) 0 = c
  · rw [decide_eq_true h] at hq ⊢
    rw [if_pos h]
    have HQ := hid hq
    have hpos : 1 ≤ len := h.1
    have hix : ((len : Int) - 1) = ((len - 1 : Nat) : Int) := by omega
    clear hq h hr hr2
    go_enter Tryz.func105, Tryz.ntmps105
    go_wp2_with (go_at_call 130; (with_reducible refine HQ.out.mono ?_); rintro e w' ⟨rfl, rfl⟩)
    go_ret2
    exact ⟨rfl, rfl⟩
  · rw [decide_eq_false h] at hq ⊢
    rw [if_neg h]
    have HQ := hid hq
    clear hq h hr hr2
    go_enter Tryz.func105, Tryz.ntmps105
    go_wp2_with (go_at_call 130; (with_reducible refine HQ.out.mono ?_); rintro e w' ⟨rfl, rfl⟩)
    go_ret2
    exact ⟨rfl, rfl⟩
/-- bytes.HasSuffix at n octets. -/
theorem bytes_HasSuffixN (a : Option Addr) (len cap : Nat) (xs : List Int) (a2 : Option Addr) (n cap2 : Nat) (ys : List Int) (w : World) (hr : Reads .u8 w a len cap xs) (hr2 : Reads .u8 w a2 n cap2 ys) (h0 : 0 < n) :
    Calls Tryz.prog 130 #[.slice a len cap, .slice a2 n cap2] w fun e w' => e = .returned (.bool (decide (n ≤ len ∧ xs.drop (len - n) = ys))) ∧ w = w' := by
  have hl := hr.len_le
  have hsz := hr.size
  have hrm := hr.room
  have hl2 := hr2.len_le
  have HR2 := hid hr2
  clear hr2
  by_cases h : n ≤ len
  · have hp := hr.piece (l := len - n) (r := len) (by omega) (by omega)
    rw [List.take_of_length_le (by omega), if_neg (show ¬ cap = len - n by omega), show len - (len - n) = n by omega] at hp
    obtain ⟨b, off, rfl, _, _⟩ := hr.cell (by omega)
    rw [Option.map_some, Addr.add_lit] at hp
    have hq := bytes_Equal _ _ _ _ _ _ _ _ w hp HR2.out
    have hd2 : decide (xs.drop (len - n) = ys) = decide (n ≤ len ∧ xs.drop (len - n) = ys) := by
      rw [Bool.eq_iff_iff, decide_eq_true_iff, decide_eq_true_iff]
      exact ⟨fun e => ⟨h, e⟩, fun e => e.2⟩
    rw [hd2] at hq
    obtain ⟨F, hF⟩ : ∃ F, F = decide (n ≤ len ∧ xs.drop (len - n) = ys) := ⟨_, rfl⟩
    rw [← hF] at hq ⊢
    clear hF
    have HQ := hid hq
    clear hq hd2 hp hr hsz
    have hix : ((len : Int) - (n : Int)) = ((len - n : Nat) : Int) := by omega
    have hlc : len - n ≤ cap := by omega
    have hll : len - n ≤ len := by omega
    have hln : len - (len - n) = n := by omega
    have hcn : (cap = len - n) = False := by simp; omega
    go_enter Tryz.func130, Tryz.ntmps130
    go_wp2_with (go_at_call 126; (with_reducible refine HQ.out.mono ?_); rintro e w' ⟨rfl, rfl⟩)
    go_ret
    exact ⟨rfl, rfl⟩
  · clear hr
    have hF : decide (n ≤ len ∧ xs.drop (len - n) = ys) = false := decide_eq_false (fun e => h e.1)
    rw [hF]
    have hlt : len < n := by omega
    clear hF h
    go_enter Tryz.func130, Tryz.ntmps130
    go_wp2_with fail
    go_ret
    exact ⟨rfl, rfl⟩
/-- bytes.CutSuffix at n octets: what is left is a beginning. -/
theorem bytes_CutSuffixN (a : Option Addr) (len cap : Nat) (xs : List Int) (a2 : Option Addr) (n cap2 : Nat) (ys : List Int) (w : World) (hr : Reads .u8 w a len cap xs) (hr2 : Reads .u8 w a2 n cap2 ys) (h0 : 0 < n) :
    Calls Tryz.prog 105 #[.slice a len cap, .slice a2 n cap2] w fun e w' => e = .returned (.tuple #[.slice a (if n ≤ len ∧ xs.drop (len - n) = ys then len - n else len) cap, .bool (decide (n ≤ len ∧ xs.drop (len - n) = ys))]) ∧ w = w' := by
  have hq := bytes_HasSuffixN a len cap xs a2 n cap2 ys w hr hr2 h0
  have hl := hr.len_le
  have hl2 := hr2.len_le
  have hrm := hr.room
  by_cases h : n ≤ len ∧ xs.drop (len - n) = ys
  · rw [decide_eq_true h] at hq ⊢
    rw [if_pos h]
    have HQ := hid hq
    have hpos := h.1
    have hix : ((len : Int) - (n : Int)) = ((len - n : Nat) : Int) := by omega
    have hll : len - n ≤ len := by omega
    have hlc : len - n ≤ cap := by omega
    clear hq h hr hr2
    go_enter Tryz.func105, Tryz.ntmps105
    go_wp2_with (go_at_call 130; (with_reducible refine HQ.out.mono ?_); rintro e w' ⟨rfl, rfl⟩)
    go_ret2
    exact ⟨rfl, rfl⟩
  · rw [decide_eq_false h] at hq ⊢
    rw [if_neg h]
    have HQ := hid hq
    clear hq h hr hr2
    go_enter Tryz.func105, Tryz.ntmps105
    go_wp2_with (go_at_call 130; (with_reducible refine HQ.out.mono ?_); rintro e w' ⟨rfl, rfl⟩)
    go_ret2
    exact ⟨rfl, rfl⟩
end Go.Proofs.YtefhddbbiheadaaGreat

/-! R01 -/
namespace Go.Proofs.YtefhddbbiheadaaGreat
open Go.RowKit

theorem ST8 : SliceT Tryz.prog 22 5 .u8 1 := ⟨Tryz.underlying22, by kernel_rfl, by decide⟩

theorem lower_r (c : Int) (w : World) (h0 : 0 ≤ c) (h1 : c ≤ 255) :
    Calls Tryz.prog 90 #[.int .u8 c] w fun e w' => e = .returned (.int .u8 (lowI c)) ∧ w = w' := by
  go_enter Tryz.func90, Tryz.ntmps90
  go_wp2
  all_goals (go_ret; exact ⟨ret_int (by unfold lowI; split <;> omega), rfl⟩)
set_option maxHeartbeats 1000000 in
theorem fold_rN (a : Option Addr) (len cap : Nat) (xs : List Int) (w : World) (hr : Reads .u8 w a len cap xs) (hN : len < 1000000000000) :
    Calls Tryz.prog 66 #[.slice a len cap] w fun e w' => ∃ a' cap', e = .returned (.slice a' len cap') ∧ Reads .u8 w' a' len cap' (xs.map lowI) ∧ Below w.heap.size w w' ∧ (∀ b off, 0 < len → a' = some ⟨b, off, none⟩ → w.heap.size ≤ b) := by
  have HR := hid hr
  have hs := hr.size
  clear hr
  go_enter Tryz.func66, Tryz.ntmps66
  go_wp2
  go_loopw [3, 4] (fun v i wr => ∃ k : Nat, k ≤ len ∧ i = .int .i64 k ∧ Own .u8 5 w.heap.size wr v ((xs.take k).map lowI) ∧ Below w.heap.size w wr) (fun _ i _ => len - (intOf i).toNat)
  case atStart => exact ⟨0, Nat.zero_le _, rfl, Own.nil _ _ _ _, Below.refl _ _⟩
  case round =>
    obtain ⟨k, hk, rfl, hown', hbel'⟩ := hrel
    by_cases hlt : k < len
    · obtain ⟨b, off, x, rfl, _, hc, h0, h1, hx⟩ := (HR.out.below hbel').get8 hlt
      go_wp2_with (first
        | (go_at_call 90; refine (lower_r _ _ h0 h1).mono ?_; rintro e w' ⟨rfl, rfl⟩)
        | (at_builtin; go_must (refine wpList_push ST8 rfl _ _ rfl rfl ⟨_, rfl⟩ hown' hbel' (by simp; omega) (low_wf x h0 h1) ?_); intro v' w' ho2 hb2))
      have e1 : (xs.take k).map lowI ++ [lowI x] = (xs.take (k + 1)).map lowI := by rw [hx.out.2]; simp
      rw [e1] at ho2
      clear e1 hown' hbel'
      go_wp2
      go_roundw
      case rel => exact ⟨k + 1, by omega, by go_num, ho2, hb2⟩
      case measure => simp [intOf]; omega
    · go_wp2
      go_ret
      obtain ⟨a', cap', hv, hrd⟩ := hown'.reads
      have hlt' := hown'.1.lt
      rw [hv] at hlt'
      rw [HR.out.all (show len ≤ k by omega)] at hv hrd
      simp only [List.length_map, hs] at hv hrd
      exact ⟨a', cap', by rw [← hv]; rfl, hrd, hbel', fun b off _ ha => (hlt' b (by rw [ha]; rfl)).1⟩
theorem fold_r (a : Option Addr) (len cap : Nat) (xs : List Int) (w : World) (hr : Reads .u8 w a len cap xs) (hN : len < 1000000000000) :
    Calls Tryz.prog 66 #[.slice a len cap] w fun e w' => ∃ a' cap', e = .returned (.slice a' len cap') ∧ Reads .u8 w' a' len cap' (xs.map lowI) ∧ Below w.heap.size w w' :=
  (fold_rN a len cap xs w hr hN).mono fun _ _ ⟨a', c', h1, h2, h3, _⟩ => ⟨a', c', h1, h2, h3⟩

end Go.Proofs.YtefhddbbiheadaaGreat
