/-
  Contracts of package utfall's functions: texts laid.
-/
import Derived.Test.YtgeadmpbfbdopaaC05c
namespace Go.Proofs.Ytgeadmpbfbdopaa
open Go.RowKit
set_option linter.unusedVariables false

theorem put_nil5 (c : Int) (w : World) (hs : scB c = true) :
    Calls Try.prog 67 #[.slice none 0 0, .int .i32 c] w fun e w' => ∃ a' cap', e = .returned (.tuple #[.slice a' (lenI c) cap', .int .i64 0]) ∧ Reads .u8 w' a' (lenI c) cap' (octs c) ∧ Below w.heap.size w w' := by
  have := utfone_Put none 0 0 [] c w (Reads.nil _ _ _ _ (Nat.zero_le _)) (by decide) hs
  simpa only [Nat.zero_add, List.nil_append] using this
set_option maxHeartbeats 1000000 in
theorem utfall_Len (a : Option Addr) (len cap : Nat) (xs : List Int) (w : World) (hr : Reads .i32 w a len cap xs) (hN : len < 100000000000) :
    Calls Try.prog 66 #[.slice a len cap] w fun e w' => e = .returned (.int .i64 (lenL xs)) ∧ w = w' := by
  have hl := hr.len_le
  have HR := hid hr
  have hsz := hr.size
  clear hr
  go_enter Try.func66, Try.ntmps66
  go_wp2
  go_loop [3, 8] (fun n i => ∃ k : Nat, k ≤ len ∧ i = .int .i64 k ∧ n = .int .i64 (lenL (xs.take k))) (fun _ i => len - (intOf i).toNat)
  case atStart => exact ⟨0, Nat.zero_le _, rfl, rfl⟩
  case round =>
    obtain ⟨k, hk, rfl, rfl⟩ := hrel
    by_cases hlt : k < len
    · obtain ⟨b, off, x, rfl, _, hc, h0, h1, hx⟩ := HR.out.getR hlt
      have hb1 := lenL_take xs k
      have hb2 := lenI_le x
      rw [hsz] at hb1
      go_wp2_with (go_at_call 27; (with_reducible refine (utfone_Len _ _).mono ?_); rintro e w' ⟨rfl, rfl⟩)
      go_round
      case rel => exact ⟨k + 1, by omega, by go_num, by rw [lenL_snoc hx.out.2]; push_cast; rfl⟩
      case measure => simp [intOf]; omega
    · go_wp2
      go_ret
      exact ⟨ret_int (by rw [HR.out.all (by omega)]), rfl⟩
set_option maxHeartbeats 1000000 in
theorem utfall_LayNo (a : Option Addr) (len cap : Nat) (xs : List Int) (w : World) (hr : Reads .i32 w a len cap xs) (hs : xs.all scB = false) :
    Calls Try.prog 45 #[.slice a len cap] w fun e w' => e = .returned (.tuple #[.slice none 0 0, .int .i64 7]) ∧ w = w' := by
  have HR := hid hr
  clear hr
  go_enter Try.func45, Try.ntmps45
  go_wp2_with (go_at_call 65; (with_reducible refine (scalar_Right _ _ _ _ _ HR.out).mono ?_); rintro e w' ⟨rfl, rfl⟩)
  go_ret2
  exact ⟨rfl, rfl⟩
set_option maxHeartbeats 1000000 in
theorem utfall_Lay (a : Option Addr) (len cap : Nat) (xs : List Int) (w : World) (hr : Reads .i32 w a len cap xs) (hN : len < 100000000) (hs : xs.all scB = true) :
    Calls Try.prog 45 #[.slice a len cap] w fun e w' => ∃ a' cap', e = .returned (.tuple #[.slice a' (lenL xs) cap', .int .i64 0]) ∧ Reads .u8 w' a' (lenL xs) cap' (octL xs) ∧ Below w.heap.size w w' := by
  have HR := hid hr
  have hsz := hr.size
  have hll := lenL_le xs
  rw [hsz] at hll
  have HS := hid (List.all_eq_true.1 hs)
  clear hr
  go_enter Try.func45, Try.ntmps45
  go_wp2_with (first
    | (go_at_call 65; (with_reducible refine (scalar_Right _ _ _ _ _ HR.out).mono ?_); rintro e w' ⟨rfl, rfl⟩)
    | (go_at_call 66; (with_reducible refine (utfall_Len _ _ _ _ _ HR.out (by omega)).mono ?_); rintro e w' ⟨rfl, rfl⟩)
    | (at_make; (refine wpList_make0 (n := lenL xs) CT8 rfl _ _ rfl rfl rfl (Below.refl _ _) (by omega) ?_); intro v1 w1 ho1 hb1))
  go_loopw [4, 17] (fun v i wr => ∃ k : Nat, k ≤ len ∧ i = .int .i64 k ∧ Own .u8 5 w.heap.size wr v (octL (xs.take k)) ∧ Below w.heap.size w wr) (fun _ i _ => len - (intOf i).toNat)
  case atStart => exact ⟨0, Nat.zero_le _, rfl, ho1, hb1⟩
  case round =>
    obtain ⟨k, hk, rfl, hown', hbel'⟩ := hrel
    by_cases hlt : k < len
    · obtain ⟨b, off, x, rfl, _, hc, h0, h1, hx⟩ := (HR.out.below hbel').getR hlt
      have hsx := hid (HS.out x (List.mem_of_getElem? hx.out.1))
      have hb1 : (octL (xs.take k)).length ≤ 4 * xs.length := lenL_take xs k
      have hb2 := lenI_le x
      rw [hsz] at hb1
      go_wp2_with (first
        | (go_at_call 67; (with_reducible refine (put_nil5 _ _ hsx.out).mono ?_); rintro e w2 ⟨a2, c2, rfl, hr2, hb2⟩; have ho2 := hown'.below hb2; have hbl2 := below_then hbel' hb2)
        | (at_builtin; go_must (refine wpList_more CT8 rfl _ _ rfl rfl rfl ho2 hbl2 hr2 (by omega) ?_); intro v3 w3 ho3 hb3))
      rw [← octL_snoc hx.out.2] at ho3
      clear hown' hbel'
      go_roundw
      case rel => exact ⟨k + 1, by omega, by go_num, ho3, hb3⟩
      case measure => simp [intOf]; omega
    · go_wp2_with fail
      obtain ⟨a', cap', rfl, hrd⟩ := hown'.reads
      rw [HR.out.all (show len ≤ k by omega)] at hrd
      go_ret2
      exact ⟨a', cap', by rw [HR.out.all (show len ≤ k by omega)]; rfl, hrd, hbel'⟩

end Go.Proofs.Ytgeadmpbfbdopaa
