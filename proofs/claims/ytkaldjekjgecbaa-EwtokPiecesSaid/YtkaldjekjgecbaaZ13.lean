/-
  Texts of ours laid together: Pre, Suf, R01.
-/
import Derived.Test.YtkaldjekjgecbaaRows
import Derived.Test.YtkaldjekjgecbaaZ12

/-! Pre -/
namespace Go.Proofs.Ytkaldjekjgecbaa
open Go.RowKit
set_option linter.unusedVariables false

theorem bytes_HasPrefix (a : Option Addr) (len cap : Nat) (xs : List Int) (a2 : Option Addr) (m cap2 : Nat) (ys : List Int) (w : World) (hr : Reads .u8 w a len cap xs) (hr2 : Reads .u8 w a2 m cap2 ys) :
    Calls Try.prog 46 #[.slice a len cap, .slice a2 m cap2] w fun e w' => e = .returned (.bool (decide (xs.take m = ys))) ∧ w = w' := by
  have hl := hr.len_le
  have hrm := hr.room
  have hsz := hr.size
  have hm := hr2.size
  by_cases h : m ≤ len
  · have hq := bytes_Equal _ _ _ _ _ _ _ _ w (hr.pre h) hr2
    generalize decide (xs.take m = ys) = F at hq ⊢
    have HQ := hid hq
    clear hq hr hr2 hsz hm
    go_enter Try.func46, Try.ntmps46
    go_wp2_with (go_at_call 51; (with_reducible refine HQ.out.mono ?_); rintro e w' ⟨rfl, rfl⟩)
    go_ret
    exact ⟨rfl, rfl⟩
  · have hF : decide (xs.take m = ys) = false := decide_eq_false (by intro h; have := congrArg List.length h; rw [List.length_take] at this; omega)
    rw [hF]
    have h' : len < m := by omega
    clear hr hr2 hF hsz hm h
    go_enter Try.func46, Try.ntmps46
    go_wp2_with fail
    go_ret
    exact ⟨rfl, rfl⟩
/-- bytes.CutPrefix at one octet: what is left reads as it did in w0. -/
theorem bytes_CutPrefix1 (a : Option Addr) (len cap : Nat) (xs : List Int) (a2 : Option Addr) (cap2 : Nat) (c : Int) (w0 w : World) (hr : Reads .u8 w0 a len cap xs) (hb : Below w0.heap.size w0 w) (hr2 : Reads .u8 w a2 1 cap2 [c]) :
    Calls Try.prog 40 #[.slice a len cap, .slice a2 1 cap2] w fun e w' => ∃ a' l' c', e = .returned (.tuple #[.slice a' l' c', .bool (decide (xs.take 1 = [c]))]) ∧ Reads .u8 w0 a' l' c' (if decide (xs.take 1 = [c]) = true then xs.drop 1 else xs) ∧ w = w' := by
  have hq := bytes_HasPrefix a len cap xs a2 1 cap2 [c] w (hr.below hb) hr2
  have hl := hr.len_le
  have hrm := hr.room
  have hsz := hr.size
  cases hh : decide (xs.take 1 = [c])
  · rw [hh] at hq
    rw [if_neg (by decide)]
    have HQ := hid hq
    have HR := hid hr
    clear hq hr hr2 hh
    go_enter Try.func40, Try.ntmps40
    go_wp2_with (go_at_call 46; (with_reducible refine HQ.out.mono ?_); rintro e w' ⟨rfl, rfl⟩)
    go_ret2
    exact ⟨_, _, _, rfl, HR.out, rfl⟩
  · rw [hh] at hq
    rw [if_pos rfl]
    have hpos : 1 ≤ len := by
      have := congrArg List.length (of_decide_eq_true hh)
      rw [List.length_take, List.length_cons, List.length_nil] at this
      omega
    have hp := hr.piece (l := 1) (r := len) hpos (Nat.le_refl _)
    rw [List.take_of_length_le (by omega)] at hp
    have HQ := hid hq
    have q1 : (1 : Int) ≤ (len : Int) := by omega
    have q3 : (1 : Int) ≤ (cap : Int) := by omega
    have q4 : (len : Int) ≤ (cap : Int) := by omega
    clear hq hr hr2 hh hsz
    by_cases hc : cap = 1
    all_goals
      first | (rw [if_pos hc] at hp; have r3 : (cap = 1) = True := eq_true hc; clear hc) | (rw [if_neg hc] at hp; have r3 : (cap = 1) = False := eq_false hc; clear hc)
      have HP := hid hp
      clear hp
      go_enter Try.func40, Try.ntmps40
      go_wp2_with (go_at_call 46; (with_reducible refine HQ.out.mono ?_); rintro e w' ⟨rfl, rfl⟩)
      go_ret2
      exact ⟨_, _, _, rfl, HP.out, rfl⟩
/-- bytes.CutPrefix at a beginning of any length: what is left reads as it did in w0. -/
theorem bytes_CutPrefixN (a : Option Addr) (len cap : Nat) (xs : List Int) (a2 : Option Addr) (m cap2 : Nat) (ys : List Int) (w0 w : World) (hr : Reads .u8 w0 a len cap xs) (hb : Below w0.heap.size w0 w) (hr2 : Reads .u8 w a2 m cap2 ys) :
    Calls Try.prog 40 #[.slice a len cap, .slice a2 m cap2] w fun e w' => ∃ a' l' c', e = .returned (.tuple #[.slice a' l' c', .bool (decide (xs.take m = ys))]) ∧ Reads .u8 w0 a' l' c' (if decide (xs.take m = ys) = true then xs.drop m else xs) ∧ w = w' := by
  have hq := bytes_HasPrefix a len cap xs a2 m cap2 ys w (hr.below hb) hr2
  have hl := hr.len_le
  have hrm := hr.room
  have hsz := hr.size
  have hm := hr2.size
  cases hh : decide (xs.take m = ys)
  · rw [hh] at hq
    rw [if_neg (by decide)]
    have HQ := hid hq
    have HR := hid hr
    clear hq hr hr2 hh
    go_enter Try.func40, Try.ntmps40
    go_wp2_with (go_at_call 46; (with_reducible refine HQ.out.mono ?_); rintro e w' ⟨rfl, rfl⟩)
    go_ret2
    exact ⟨_, _, _, rfl, HR.out, rfl⟩
  · rw [hh] at hq
    rw [if_pos rfl]
    have hpos : m ≤ len := by
      have := congrArg List.length (of_decide_eq_true hh)
      rw [List.length_take] at this
      omega
    have hp := hr.piece (l := m) (r := len) hpos (Nat.le_refl _)
    rw [List.take_of_length_le (by omega)] at hp
    have HQ := hid hq
    have q1 : (m : Int) ≤ (len : Int) := by omega
    have q3 : (m : Int) ≤ (cap : Int) := by omega
    have q4 : (len : Int) ≤ (cap : Int) := by omega
    have q5 : ((len : Int) - (m : Int)).toNat = len - m := by omega
    have q6 : ((cap : Int) - (m : Int)).toNat = cap - m := by omega
    clear hq hr hr2 hh hsz hm
    by_cases hc : cap = m
    all_goals
      first | (rw [if_pos hc] at hp; have r3 : (cap = m) = True := eq_true hc; clear hc) | (rw [if_neg hc] at hp; have r3 : (cap = m) = False := eq_false hc; clear hc)
      have HP := hid hp
      clear hp
      go_enter Try.func40, Try.ntmps40
      go_wp2_with (go_at_call 46; (with_reducible refine HQ.out.mono ?_); rintro e w' ⟨rfl, rfl⟩)
      go_ret2
      exact ⟨_, _, _, rfl, HP.out, rfl⟩
end Go.Proofs.Ytkaldjekjgecbaa

/-! Suf -/
namespace Go.Proofs.Ytkaldjekjgecbaa
open Go.RowKit
set_option linter.unusedVariables false

/-- bytes.HasSuffix at one octet. -/
theorem bytes_HasSuffix1 (a : Option Addr) (len cap : Nat) (xs : List Int) (a2 : Option Addr) (cap2 : Nat) (c : Int) (w : World) (hr : Reads .u8 w a len cap xs) (hr2 : Reads .u8 w a2 1 cap2 [c]) :
    Calls Try.prog 47 #[.slice a len cap, .slice a2 1 cap2] w fun e w' => e = .returned (.bool (decide (0 < len ∧ xs.getD (len - 1) 0 = c))) ∧ w = w' := by
  have hl := hr.len_le
  have hsz := hr.size
  have hrm := hr.room
  have HR2 := hid hr2
  clear hr2
  by_cases h : 1 ≤ len
  · have hp := hr.piece (l := len - 1) (r := len) (by omega) (by omega)
    rw [List.take_of_length_le (by omega), if_neg (show ¬ cap = len - 1 by omega)] at hp
    obtain ⟨b, off, x, rfl, _, hc, hx0, hx1, hx⟩ := hr.get8 (i := len - 1) (by omega)
    have hd : xs.drop (len - 1) = [x] := by
      rw [List.drop_eq_getElem_cons (by omega), List.drop_of_length_le (by omega)]
      have := hx.out.1
      rw [List.getElem?_eq_getElem (by omega)] at this
      rw [Option.some.inj this]
    rw [hd, Option.map_some, Addr.add_lit] at hp
    have hg : xs.getD (len - 1) 0 = x := by simp [List.getD, hx.out.1]
    rw [hg]
    have hq := bytes_Equal _ _ _ _ _ _ _ _ w hp HR2.out
    have hd2 : decide ([x] = [c]) = decide (0 < len ∧ x = c) := by
      rw [Bool.eq_iff_iff, decide_eq_true_iff, decide_eq_true_iff]
      constructor
      · intro h; exact ⟨by omega, by simpa using h⟩
      · intro h; rw [h.2]
    rw [hd2] at hq
    obtain ⟨F, hF⟩ : ∃ F, F = decide (0 < len ∧ x = c) := ⟨_, rfl⟩
    rw [← hF] at hq ⊢
    clear hF
    have HQ := hid hq
    clear hq hd2 hp hd hg hr hsz
    have hix : ((len : Int) - 1) = ((len - 1 : Nat) : Int) := by omega
    go_enter Try.func47, Try.ntmps47
    go_wp2_with (go_at_call 51; (with_reducible refine HQ.out.mono ?_); rintro e w' ⟨rfl, rfl⟩)
    go_ret
    exact ⟨rfl, rfl⟩
  · obtain rfl : len = 0 := by omega
    clear hr
    go_enter Try.func47, Try.ntmps47
    go_wp2_with fail
    go_ret
    exact ⟨ret_bool (by simp), rfl⟩
/-- bytes.CutSuffix at one octet: what is left is a beginning. -/
theorem bytes_CutSuffix1 (a : Option Addr) (len cap : Nat) (xs : List Int) (a2 : Option Addr) (cap2 : Nat) (c : Int) (w : World) (hr : Reads .u8 w a len cap xs) (hr2 : Reads .u8 w a2 1 cap2 [c]) :
    Calls Try.prog 41 #[.slice a len cap, .slice a2 1 cap2] w fun e w' => e = .returned (.tuple #[.slice a (if 0 < len ∧ xs.getD (len - 1) 0 = c then len - 1 else len) cap, .bool (decide (0 < len ∧ xs.getD (len - 1) 0 = c))]) ∧ w = w' := by
  have hq := bytes_HasSuffix1 a len cap xs a2 cap2 c w hr hr2
  have hl := hr.len_le
  have hrm := hr.room
  by_cases h : 0 < len ∧ xs.getD (len - 1) 0 = c
  · rw [decide_eq_true h] at hq ⊢
    rw [if_pos h]
    have HQ := hid hq
    have hpos : 1 ≤ len := h.1
    have hix : ((len : Int) - 1) = ((len - 1 : Nat) : Int) := by omega
    clear hq h hr hr2
    go_enter Try.func41, Try.ntmps41
    go_wp2_with (go_at_call 47; (with_reducible refine HQ.out.mono ?_); rintro e w' ⟨rfl, rfl⟩)
    go_ret2
    exact ⟨rfl, rfl⟩
  · rw [decide_eq_false h] at hq ⊢
    rw [if_neg h]
    have HQ := hid hq
    clear hq h hr hr2
    go_enter Try.func41, Try.ntmps41
    go_wp2_with (go_at_call 47; (with_reducible refine HQ.out.mono ?_); rintro e w' ⟨rfl, rfl⟩)
    go_ret2
    exact ⟨rfl, rfl⟩
/-- bytes.HasSuffix at n octets. -/
theorem bytes_HasSuffixN (a : Option Addr) (len cap : Nat) (xs : List Int) (a2 : Option Addr) (n cap2 : Nat) (ys : List Int) (w : World) (hr : Reads .u8 w a len cap xs) (hr2 : Reads .u8 w a2 n cap2 ys) (h0 : 0 < n) :
    Calls Try.prog 47 #[.slice a len cap, .slice a2 n cap2] w fun e w' => e = .returned (.bool (decide (n ≤ len ∧ xs.drop (len - n) = ys))) ∧ w = w' := by
  have hl := hr.len_le
  have hsz := hr.size
  have hrm := hr.room
  have hl2 := hr2.len_le
  have HR2 := hid hr2
  clear hr2
  by_cases h : n ≤ len
  · have hp := hr.piece (l := len - n) (r := len) (by omega) (by omega)
    rw [List.take_of_length_le (by omega), if_neg (show ¬ cap = len - n by omega), show len - (len - n) = n by omega] at hp
    obtain ⟨b, off, rfl, _, _⟩ := hr.cell (by omega)
    rw [Option.map_some, Addr.add_lit] at hp
    have hq := bytes_Equal _ _ _ _ _ _ _ _ w hp HR2.out
    have hd2 : decide (xs.drop (len - n) = ys) = decide (n ≤ len ∧ xs.drop (len - n) = ys) := by
      rw [Bool.eq_iff_iff, decide_eq_true_iff, decide_eq_true_iff]
      exact ⟨fun e => ⟨h, e⟩, fun e => e.2⟩
    rw [hd2] at hq
    obtain ⟨F, hF⟩ : ∃ F, F = decide (n ≤ len ∧ xs.drop (len - n) = ys) := ⟨_, rfl⟩
    rw [← hF] at hq ⊢
    clear hF
    have HQ := hid hq
    clear hq hd2 hp hr hsz
    have hix : ((len : Int) - (n : Int)) = ((len - n : Nat) : Int) := by omega
    have hlc : len - n ≤ cap := by omega
    have hll : len - n ≤ len := by omega
    have hln : len - (len - n) = n := by omega
    have hcn : (cap = len - n) = False := by simp; omega
    go_enter Try.func47, Try.ntmps47
    go_wp2_with (go_at_call 51; (with_reducible refine HQ.out.mono ?_); rintro e w' ⟨rfl, rfl⟩)
    go_ret
    exact ⟨rfl, rfl⟩
  · clear hr
    have hF : decide (n ≤ len ∧ xs.drop (len - n) = ys) = false := decide_eq_false (fun e => h e.1)
    rw [hF]
    have hlt : len < n := by omega
    clear hF h
    go_enter Try.func47, Try.ntmps47
    go_wp2_with fail
    go_ret
    exact ⟨rfl, rfl⟩
/-- bytes.CutSuffix at n octets: what is left is a beginning. -/
theorem bytes_CutSuffixN (a : Option Addr) (len cap : Nat) (xs : List Int) (a2 : Option Addr) (n cap2 : Nat) (ys : List Int) (w : World) (hr : Reads .u8 w a len cap xs) (hr2 : Reads .u8 w a2 n cap2 ys) (h0 : 0 < n) :
    Calls Try.prog 41 #[.slice a len cap, .slice a2 n cap2] w fun e w' => e = .returned (.tuple #[.slice a (if n ≤ len ∧ xs.drop (len - n) = ys then len - n else len) cap, .bool (decide (n ≤ len ∧ xs.drop (len - n) = ys))]) ∧ w = w' := by
  have hq := bytes_HasSuffixN a len cap xs a2 n cap2 ys w hr hr2 h0
  have hl := hr.len_le
  have hl2 := hr2.len_le
  have hrm := hr.room
  by_cases h : n ≤ len ∧ xs.drop (len - n) = ys
  · rw [decide_eq_true h] at hq ⊢
    rw [if_pos h]
    have HQ := hid hq
    have hpos := h.1
    have hix : ((len : Int) - (n : Int)) = ((len - n : Nat) : Int) := by omega
    have hll : len - n ≤ len := by omega
    have hlc : len - n ≤ cap := by omega
    clear hq h hr hr2
    go_enter Try.func41, Try.ntmps41
    go_wp2_with (go_at_call 47; (with_reducible refine HQ.out.mono ?_); rintro e w' ⟨rfl, rfl⟩)
    go_ret2
    exact ⟨rfl, rfl⟩
  · rw [decide_eq_false h] at hq ⊢
    rw [if_neg h]
    have HQ := hid hq
    clear hq h hr hr2
    go_enter Try.func41, Try.ntmps41
    go_wp2_with (go_at_call 47; (with_reducible refine HQ.out.mono ?_); rintro e w' ⟨rfl, rfl⟩)
    go_ret2
    exact ⟨rfl, rfl⟩
end Go.Proofs.Ytkaldjekjgecbaa

/-! R01 -/
namespace Go.Proofs.Ytkaldjekjgecbaa
open Go.RowKit

theorem ST8 : SliceT Try.prog 22 5 .u8 1 := ⟨Try.underlying22, by kernel_rfl, by decide⟩

theorem lower_r (c : Int) (w : World) (h0 : 0 ≤ c) (h1 : c ≤ 255) :
    Calls Try.prog 38 #[.int .u8 c] w fun e w' => e = .returned (.int .u8 (lowI c)) ∧ w = w' := by
  go_enter Try.func38, Try.ntmps38
  go_wp2
  all_goals (go_ret; exact ⟨ret_int (by unfold lowI; split <;> omega), rfl⟩)
set_option maxHeartbeats 1000000 in
theorem like_r (a : Option Addr) (len cap : Nat) (xs : List Int) (a2 : Option Addr) (len2 cap2 : Nat) (ys : List Int) (w : World) (hr : Reads .u8 w a len cap xs) (hr2 : Reads .u8 w a2 len2 cap2 ys) :
    Calls Try.prog 17 #[.slice a len cap, .slice a2 len2 cap2] w fun e w' => e = .returned (.bool (decide (xs = ys))) ∧ ∃ n, w' = w.drewN n := by
  have hl := hr.len_le
  have hl2 := hr2.len_le
  have HR := hid hr
  have HR2 := hid hr2
  clear hr hr2
  by_cases he : len = len2
  · subst he
    go_enter Try.func17, Try.ntmps17
    go_wp2
    go_loopw [5] (fun i wr => ∃ k : Nat, k ≤ len ∧ i = .int .i64 k ∧ Hid (xs.take k = ys.take k) ∧ ∃ n, wr = w.drewN n) (fun i _ => len - (intOf i).toNat)
    case atStart => exact ⟨0, Nat.zero_le _, rfl, rfl, 0, rfl⟩
    case round =>
      obtain ⟨k, hk, rfl, hn, n, rfl⟩ := hrel
      by_cases hlt : k < len
      · obtain ⟨b, off, x, rfl, _, hc, h0, h1, hx⟩ := HR.out.get8 hlt
        obtain ⟨b2, off2, y, rfl, _, hc2, h02, h12, hy⟩ := HR2.out.get8 hlt
        go_wp2
        go_quiet (fail)
        go_wp2
        · go_ret
          exact ⟨ret_bool (eq_no hx.out.1 hy.out.1 ‹_›).symm, by simp only [World.drewN_drewN]; exact ⟨_, rfl⟩⟩
        · go_roundw
          case rel => exact ⟨k + 1, by omega, by go_num, eq_yes hx.out.2 hy.out.2 hn.out ‹_›, _, rfl⟩
          case measure => simp [intOf]; omega
      · go_wp2
        go_ret
        exact ⟨ret_bool (by rw [← HR.out.all (show len ≤ k by omega), ← HR2.out.all (show len ≤ k by omega)]; exact (decide_eq_true hn.out).symm), _, rfl⟩
  · have hne : ((len : Int) != len2) = true := by simp; omega
    go_enter Try.func17, Try.ntmps17
    go_wp2
    go_ret
    exact ⟨ret_bool (eq_len (by rw [HR.out.size, HR2.out.size]; exact he)).symm, 0, rfl⟩

end Go.Proofs.Ytkaldjekjgecbaa
