/-
  Contracts of package units' functions: texts laid, octets.
-/
import Derived.Test.YtobjdamlmaaidaaDoorC06
namespace Go.Proofs.YtobjdamlmaaidaaDoor
open Go.RowKit
set_option linter.unusedVariables false

theorem half_with (h c : Int) (w : World) (hh : h = 55296 ∨ h = 56320) (h0 : 0 ≤ c) (h1 : c ≤ 2147483647) :
    Calls Tryd.prog 78 #[.int .u16 h, .int .i32 c] w fun e w' => e = .returned (.int .u16 (h + c % 1024)) ∧ w = w' := by
  have e1 := and_i32 10 c 1023 (by decide) (by decide) h0 h1
  have e2 := or_u16 10 h (c % 1024) (by omega) (by omega) (by omega) (by omega) (by omega)
  go_enter Tryd.func78, Tryd.ntmps78
  go_wp2
  go_ret
  exact ⟨rfl, rfl⟩
set_option maxHeartbeats 1000000 in
theorem units_lay (v : Value) (xs : List Int) (c : Int) (w0 w : World) (ho : Own .u16 70 w0.heap.size w v xs) (hb : Below w0.heap.size w0 w) (hn : xs.length < 100000000000) (hs : scB c = true) :
    Calls Tryd.prog 65 #[v, .int .i32 c] w fun e w' => ∃ v', e = .returned v' ∧ Own .u16 70 w0.heap.size w' v' (xs ++ uns c) ∧ Below w0.heap.size w0 w' := by
  have hc := (scB_iff c).1 hs
  have hwf := hid (uns_wf c)
  by_cases h1 : c < 65536
  · have e : uns c = [c] := by unfold uns; rw [if_pos hs, if_pos h1]
    rw [e] at hwf ⊢
    clear e
    go_enter Tryd.func65, Tryd.ntmps65
    go_wp2_with (at_builtin; go_must (refine wpList_push CT16 rfl _ _ rfl rfl ⟨_, rfl⟩ ho hb (by omega) (hwf.out c (List.mem_singleton.2 rfl)) ?_); intro v3 w3 ho3 hb3)
    go_ret
    exact ⟨_, rfl, ho3, hb3⟩
  · have e : uns c = [55296 + (c - 65536) / 1024 % 1024, 56320 + (c - 65536) % 1024] := by unfold uns; rw [if_pos hs, if_neg h1, show (c - 65536) / 1024 % 1024 = (c - 65536) / 1024 by omega]
    rw [e] at hwf ⊢
    clear e
    go_enter Tryd.func65, Tryd.ntmps65
    go_wp2_with (first
      | (go_at_call 78; (with_reducible refine (half_with _ _ _ (by omega) (by omega) (by omega)).mono ?_); rintro e w' ⟨rfl, rfl⟩)
      | (at_builtin; go_must (refine wpList_pushs CT16 [55296 + (c - 65536) / 1024 % 1024, 56320 + (c - 65536) % 1024] rfl _ _ rfl rfl ⟨_, rfl⟩ ho hb (by simp; omega) hwf.out ?_); intro v3 w3 ho3 hb3))
    go_ret
    exact ⟨_, rfl, ho3, hb3⟩
set_option maxHeartbeats 1000000 in
theorem units_LayNo (a : Option Addr) (len cap : Nat) (xs : List Int) (w : World) (hr : Reads .i32 w a len cap xs) (hs : xs.all scB = false) :
    Calls Tryd.prog 54 #[.slice a len cap] w fun e w' => e = .returned (.tuple #[.slice none 0 0, .int .i64 7]) ∧ w = w' := by
  have HR := hid hr
  clear hr
  go_enter Tryd.func54, Tryd.ntmps54
  go_wp2_with (go_at_call 28; (with_reducible refine (scalar_Right _ _ _ _ _ HR.out).mono ?_); rintro e w' ⟨rfl, rfl⟩)
  go_ret2
  exact ⟨rfl, rfl⟩
set_option maxHeartbeats 1000000 in
theorem units_Lay (a : Option Addr) (len cap : Nat) (xs : List Int) (w : World) (hr : Reads .i32 w a len cap xs) (hN : len < 10000000000) (hs : xs.all scB = true) :
    Calls Tryd.prog 54 #[.slice a len cap] w fun e w' => ∃ a' cap', e = .returned (.tuple #[.slice a' (unL xs).length cap', .int .i64 0]) ∧ Reads .u16 w' a' (unL xs).length cap' (unL xs) ∧ Below w.heap.size w w' := by
  have HR := hid hr
  have hsz := hr.size
  have HS := hid (List.all_eq_true.1 hs)
  clear hr
  go_enter Tryd.func54, Tryd.ntmps54
  go_wp2_with (first
    | (go_at_call 28; (with_reducible refine (scalar_Right _ _ _ _ _ HR.out).mono ?_); rintro e w' ⟨rfl, rfl⟩)
    | (at_make; (refine wpList_make0 (n := len) CT16 rfl _ _ rfl rfl rfl (Below.refl _ _) (by omega) ?_); intro v1 w1 ho1 hb1))
  go_loopw [4, 15] (fun v i wr => ∃ k : Nat, k ≤ len ∧ i = .int .i64 k ∧ Own .u16 70 w.heap.size wr v (unL (xs.take k)) ∧ Below w.heap.size w wr) (fun _ i _ => len - (intOf i).toNat)
  case atStart => exact ⟨0, Nat.zero_le _, rfl, ho1, hb1⟩
  case round =>
    obtain ⟨k, hk, rfl, hown', hbel'⟩ := hrel
    by_cases hlt : k < len
    · obtain ⟨b, off, x, rfl, _, hc, h0, h1, hx⟩ := (HR.out.below hbel').getR hlt
      have hsx := hid (HS.out x (List.mem_of_getElem? hx.out.1))
      have hb1 := unL_take xs k
      rw [hsz] at hb1
      go_wp2_with (go_at_call 65; (with_reducible refine (units_lay _ _ _ _ _ hown' hbel' (by omega) hsx.out).mono ?_); rintro e w3 ⟨v3, rfl, ho3, hb3⟩)
      rw [← unL_snoc hx.out.2] at ho3
      clear hown' hbel'
      go_roundw
      case rel => exact ⟨k + 1, by omega, by go_num, ho3, hb3⟩
      case measure => simp [intOf]; omega
    · go_wp2_with fail
      obtain ⟨a', cap', rfl, hrd⟩ := hown'.reads
      rw [HR.out.all (show len ≤ k by omega)] at hrd
      go_ret2
      exact ⟨a', cap', by rw [HR.out.all (show len ≤ k by omega)]; rfl, hrd, hbel'⟩
set_option maxHeartbeats 1000000 in
theorem units_Octets (a : Option Addr) (len cap : Nat) (xs : List Int) (w : World) (hr : Reads .u16 w a len cap xs) (hN : len < 10000000000) :
    Calls Tryd.prog 56 #[.slice a len cap] w fun e w' => ∃ a' cap', e = .returned (.slice a' (ocU xs).length cap') ∧ Reads .u8 w' a' (ocU xs).length cap' (ocU xs) ∧ Below w.heap.size w w' := by
  have HR := hid hr
  have hsz := hr.size
  clear hr
  go_enter Tryd.func56, Tryd.ntmps56
  go_wp2_with (at_make; (refine wpList_make0 (n := 2 * len) CT8 rfl _ _ rfl rfl rfl (Below.refl _ _) (by omega) ?_); intro v1 w1 ho1 hb1)
  go_loopw [3, 12] (fun v i wr => ∃ k : Nat, k ≤ len ∧ i = .int .i64 k ∧ Own .u8 5 w.heap.size wr v (ocU (xs.take k)) ∧ Below w.heap.size w wr) (fun _ i _ => len - (intOf i).toNat)
  case atStart => exact ⟨0, Nat.zero_le _, rfl, ho1, hb1⟩
  case round =>
    obtain ⟨k, hk, rfl, hown', hbel'⟩ := hrel
    by_cases hlt : k < len
    · obtain ⟨b, off, x, rfl, _, hc, h0, h1, hx⟩ := (HR.out.below hbel').get16 hlt
      have hb1 := ocU_len (xs.take k)
      rw [List.length_take] at hb1
      have hwf : Hid (∀ y ∈ [x / 256, x % 256], (Lit.int .u8 y).wf = true) := by
        intro y hy; simp at hy; rcases hy with rfl | rfl <;> exact mk_u8 (by omega) (by omega)
      go_wp2_with (at_builtin; go_must (refine wpList_pushs CT8 [x / 256, x % 256] rfl _ _ rfl rfl ⟨_, rfl⟩ hown' hbel' (by simp; omega) hwf.out ?_); intro v3 w3 ho3 hb3)
      rw [← ocU_snoc hx.out.2] at ho3
      clear hown' hbel'
      go_roundw
      case rel => exact ⟨k + 1, by omega, by go_num, ho3, hb3⟩
      case measure => simp [intOf]; omega
    · go_wp2_with fail
      obtain ⟨a', cap', rfl, hrd⟩ := hown'.reads
      rw [HR.out.all (show len ≤ k by omega)] at hrd
      go_ret
      exact ⟨a', cap', by rw [HR.out.all (show len ≤ k by omega)]; rfl, hrd, hbel'⟩
end Go.Proofs.YtobjdamlmaaidaaDoor
