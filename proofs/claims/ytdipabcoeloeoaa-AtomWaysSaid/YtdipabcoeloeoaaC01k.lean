/-
  Contracts of package octet's functions on kinds, trimming, folding (those that the translation has).
-/
import Derived.Test.YtdipabcoeloeoaaRows
import Derived.Test.YtdipabcoeloeoaaD01
import Derived.Deep.CutBlock
import Derived.Test.YtdipabcoeloeoaaC01
namespace Go.Proofs.Ytdipabcoeloeoaa
open Go.RowKit
set_option linter.unusedVariables false

theorem alnum_c (c : Int) (w : World) (h0 : 0 ≤ c) (h1 : c ≤ 255) :
    Calls Try.prog 41 #[.int .u8 c] w fun e w' => e = .returned (.int .i64 (alnumI c)) ∧ w = w' := by
  have hb := low_bd c h0 h1
  go_enter Try.func41, Try.ntmps41
  go_wp2_with (go_at_call 44; refine (lower_c _ _ h0 h1).mono ?_; rintro e w' ⟨rfl, rfl⟩)
  all_goals (go_ret; exact ⟨ret_int (by unfold alnumI; (repeat' split) <;> first | rfl | omega), rfl⟩)
theorem ibs (s : ByteArray) (c : Int) (w : World) : (callFunc 48 #[.string s, .int .u8 c]).run Try.prog w = .ok (.value (.int .i64 (firstIdx s c.toNat.toUInt8))) w := by
  rw [run_callFunc_extern (fn := Try.f48) (e := Extern.BytealgIndexByte.indexByte) (by kernel_rfl) (by kernel_rfl) (by kernel_rfl) (by kernel_rfl) (by kernel_rfl), run_indexByte_string]
  rfl
theorem among_c (s : ByteArray) (c : Int) (w : World) :
    Calls Try.prog 45 #[.string s, .int .u8 c] w fun e w' => e = .returned (.bool (hasB s c)) ∧ w = w' := by
  have hx := ibs s c w
  go_enter Try.func45, Try.ntmps45
  go_wp2
  go_ret
  exact ⟨ret_bool (firstIdx_nonneg _ _), rfl⟩
theorem syn_c (c : Int) (w : World) :
    Calls Try.prog 42 #[.int .u8 c] w fun e w' => e = .returned (.int .i64 (synI c)) ∧ w = w' := by
  go_enter Try.func42, Try.ntmps42
  go_wp2_with (go_at_call 45; refine (among_c _ _ _).mono ?_; rintro e w' ⟨rfl, rfl⟩)
  all_goals (go_ret; exact ⟨ret_int (by unfold synI; simp [*]), rfl⟩)
theorem cod_c (c : Int) (w : World) (h0 : 0 ≤ c) (h1 : c ≤ 255) :
    Calls Try.prog 43 #[.int .u8 c] w fun e w' => e = .returned (.int .i64 (codI c)) ∧ w = w' := by
  go_enter Try.func43, Try.ntmps43
  go_wp2_with (first | (go_at_call 45; refine (among_c _ _ _).mono ?_; rintro e w' ⟨rfl, rfl⟩) | (go_at_call 41; refine (alnum_c _ _ h0 h1).mono ?_; rintro e w' ⟨rfl, rfl⟩))
  all_goals (go_ret; exact ⟨ret_int (by unfold codI; simp only [*, if_true, if_false, Bool.false_eq_true]; try rfl), rfl⟩)
theorem kinds_c (c : Int) (w : World) (h0 : 0 ≤ c) (h1 : c ≤ 255) :
    Calls Try.prog 37 #[.int .u8 c] w fun e w' => e = .returned (.int .i64 (kindI c)) ∧ w = w' := by
  go_enter Try.func37, Try.ntmps37
  go_wp2_with (first | (go_at_call 41; refine (alnum_c _ _ h0 h1).mono ?_; rintro e w' ⟨rfl, rfl⟩) | (go_at_call 42; refine (syn_c _ _).mono ?_; rintro e w' ⟨rfl, rfl⟩) | (go_at_call 43; refine (cod_c _ _ h0 h1).mono ?_; rintro e w' ⟨rfl, rfl⟩))
  all_goals (go_ret; exact ⟨ret_int (by simp only [beq_iff_eq, beq_eq_false_iff_ne] at *; unfold kindI; (repeat' split) <;> first | rfl | omega), rfl⟩)
theorem is_c (c kinds : Int) (w : World) (h0 : 0 ≤ c) (h1 : c ≤ 255) :
    Calls Try.prog 29 #[.int .u8 c, .int .i64 kinds] w fun e w' => e = .returned (.bool (isB kinds c)) ∧ w = w' := by
  go_enter Try.func29, Try.ntmps29
  go_wp2_with (go_at_call 37; refine (kinds_c _ _ h0 h1).mono ?_; rintro e w' ⟨rfl, rfl⟩)
  go_ret
  exact ⟨rfl, rfl⟩
set_option maxHeartbeats 1000000 in
theorem all_c (a : Option Addr) (len cap : Nat) (xs : List Int) (kinds : Int) (w : World) (hr : Reads .u8 w a len cap xs) :
    Calls Try.prog 35 #[.slice a len cap, .int .i64 kinds] w fun e w' => e = .returned (.bool (xs.all (isB kinds))) ∧ w = w' := by
  have hl := hr.len_le
  have HR := hid hr
  clear hr
  go_enter Try.func35, Try.ntmps35
  go_wp2
  go_loop [9] (fun i => ∃ k : Nat, k ≤ len ∧ i = .int .i64 k ∧ Hid ((xs.take k).all (isB kinds) = true)) (fun i => len - (intOf i).toNat)
  case atStart => exact ⟨0, Nat.zero_le _, rfl, rfl⟩
  case round =>
    obtain ⟨k, hk, rfl, hn⟩ := hrel
    by_cases hlt : k < len
    · obtain ⟨b, off, x, rfl, _, hc, h0, h1, hx⟩ := HR.out.get8 hlt
      go_wp2_with (go_at_call 29; refine (is_c _ _ _ h0 h1).mono ?_; rintro e w' ⟨rfl, rfl⟩)
      · go_ret
        exact ⟨ret_bool (all_no hx.out.1 (by simpa using ‹(!isB kinds x) = true›)).symm, rfl⟩
      · go_round
        case rel => exact ⟨k + 1, by omega, by go_num, all_yes hx.out.2 hn.out (by simpa using ‹(!isB kinds x) = false›)⟩
        case measure => simp [intOf]; omega
    · go_wp2
      go_ret
      exact ⟨ret_bool (by rw [← HR.out.all (show len ≤ k by omega)]; exact hn.out.symm), rfl⟩
end Go.Proofs.Ytdipabcoeloeoaa
