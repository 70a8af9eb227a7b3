/-
  Contracts of package latin's functions (those that the translation has).
-/
import Derived.Test.YtgeadmpbfbdopaaRows
import Derived.Test.YtgeadmpbfbdopaaC01
import Derived.Test.YtgeadmpbfbdopaaC03
import Derived.Test.YtgeadmpbfbdopaaD08
namespace Go.Proofs.Ytgeadmpbfbdopaa
open Go.RowKit
set_option linter.unusedVariables false

theorem latin_Has (c : Int) (w : World) :
    Calls Try.prog 51 #[.int .i32 c] w fun e w' => e = .returned (.bool (hasI sg08 c)) ∧ w = w' := by
  have H := hid (has08 c)
  go_enter Try.func51, Try.ntmps51
  go_wp2
  all_goals (go_ret; exact ⟨ret_bool (by rw [H.out]; simp; omega), rfl⟩)
theorem latin_Put (c : Int) (w : World) :
    Calls Try.prog 62 #[.int .i32 c] w fun e w' => e = .returned (.tuple #[.int .u8 (putI sg08 c), .bool (hasI sg08 c)]) ∧ w = w' := by
  cases hs : hasI sg08 c
  · have H := hid hs
    have hE := hid (putI_no hs)
    go_enter Try.func62, Try.ntmps62
    go_wp2_with (go_at_call 51; (with_reducible refine (latin_Has _ _).mono ?_); rintro e w' ⟨rfl, rfl⟩)
    go_ret2
    exact ⟨ret_ib hE.out.symm rfl, rfl⟩
  · have h1 := of_decide_eq_true ((has08 c).symm.trans hs)
    have hE := hid (put08 c h1.1 h1.2).1
    obtain ⟨h0, h1⟩ := h1
    have hmod : c % 256 = c := by omega
    have H := hid hs
    go_enter Try.func62, Try.ntmps62
    go_wp2_with (go_at_call 51; (with_reducible refine (latin_Has _ _).mono ?_); rintro e w' ⟨rfl, rfl⟩)
    go_ret2
    exact ⟨ret_ib hE.out.symm rfl, rfl⟩
theorem latin_Sign (x : Int) (w : World) (h0 : 0 ≤ x) (h1 : x ≤ 255) :
    Calls Try.prog 59 #[.int .u8 x] w fun e w' => e = .returned (.int .i32 (sg08 x)) ∧ w = w' := by
  go_enter Try.func59, Try.ntmps59
  go_wp2
  all_goals (go_ret; exact ⟨ret_int rfl, rfl⟩)
set_option maxHeartbeats 1000000 in
theorem latin_Lay (a : Option Addr) (len cap : Nat) (xs : List Int) (w : World) (hr : Reads .i32 w a len cap xs) (hN : len < 100000000000) :
    Calls Try.prog 42 #[.slice a len cap] w fun e w' => ∃ a' len' cap', e = .returned (.tuple #[.slice a' len' cap', .int .i64 (csE sg08 xs)]) ∧ Reads .u8 w' a' len' cap' (csL sg08 xs) ∧ Below w.heap.size w w' := by
  have HR := hid hr
  have hsz := hr.size
  clear hr
  go_enter Try.func42, Try.ntmps42
  go_wp2_with (at_make; refine wpList_zeros CT8 rfl _ _ rfl (w0 := w) rfl rfl (Below.refl _ _) (by omega) (by decide) ?_; intro g w1 hown hbel)
  obtain ⟨w1, rfl⟩ : ∃ x : World, x = w1 := ⟨_, rfl⟩
  go_loopw [13] (fun i wr => ∃ k : Nat, k ≤ len ∧ i = .int .i64 k ∧ Hid ((xs.take k).all (hasI sg08) = true) ∧ Own .u8 5 w.heap.size wr (.slice (some ⟨g, 0, none⟩) len len) (fill (putI sg08) xs k) ∧ Below w.heap.size w wr) (fun i _ => len - (intOf i).toNat)
  case atStart => exact ⟨0, Nat.zero_le _, rfl, rfl, by rw [fill_zero, hsz]; exact hown, hbel⟩
  case round =>
    obtain ⟨k, hk, rfl, hn, hown', hbel'⟩ := hrel
    by_cases hlt : k < len
    · obtain ⟨b, off, x, rfl, _, hc, h0, h1, hx⟩ := (HR.out.below hbel').getR hlt
      obtain ⟨hcell, hfz⟩ := hown'.at (j := k) (by rw [fill_len] <;> omega)
      obtain ⟨ho2, hb2⟩ := hown'.store hbel' k (put_wf sg08 x)
      rw [fill_set (putI sg08) (by omega) hx.out.2] at ho2
      have HO := hid ho2
      have HB := hid hb2
      have HB0 := hid hbel'
      clear ho2 hb2 hown' hbel'
      cases hs : hasI sg08 x
      · have H := hid hs
        have hF := hid (all_no hx.out.1 hs)
        go_wp2_with (go_at_call 62; (with_reducible refine (latin_Put _ _).mono ?_); rintro e w' ⟨rfl, rfl⟩)
        go_ret2
        exact ⟨none, 0, 0, ret_si (by unfold csE; simp [hF.out]), by unfold csL; simp only [hF.out]; exact Reads.nil _ _ _ _ (Nat.zero_le _), HB0.out⟩
      · have H := hid hs
        go_wp2_with (go_at_call 62; (with_reducible refine (latin_Put _ _).mono ?_); rintro e w' ⟨rfl, rfl⟩)
        go_roundw
        case rel => exact ⟨k + 1, by omega, by go_num, all_yes hx.out.2 hn.out H.out, HO.out, HB.out⟩
        case measure => simp [intOf]; omega
    · have hn' := hn.out
      rw [HR.out.all (show len ≤ k by omega)] at hn'
      have hF := hid hn'
      clear hn'
      go_wp2
      go_ret2
      obtain ⟨a', cap', hv, hrd⟩ := hown'.reads
      rw [fill_all (putI sg08) xs k (by omega)] at hv hrd
      simp only [Value.slice.injEq] at hv
      obtain ⟨rfl, hl2, rfl⟩ := hv
      exact ⟨_, _, _, ret_si (by unfold csE; simp [hF.out]), by unfold csL; simp only [hF.out]; rw [← hl2] at hrd; exact hrd, hbel'⟩
set_option maxHeartbeats 1000000 in
theorem latin_Read (a : Option Addr) (len cap : Nat) (xs : List Int) (w : World) (hr : Reads .u8 w a len cap xs) (hN : len < 100000000000) :
    Calls Try.prog 35 #[.slice a len cap] w fun e w' => ∃ a' cap', e = .returned (.slice a' len cap') ∧ Reads .i32 w' a' len cap' (xs.map sg08) ∧ Below w.heap.size w w' := by
  have HR := hid hr
  have hsz := hr.size
  clear hr
  go_enter Try.func35, Try.ntmps35
  go_wp2_with (at_make; refine wpList_zeros CTR rfl _ _ rfl (w0 := w) rfl rfl (Below.refl _ _) (by omega) (by decide) ?_; intro g w1 hown hbel)
  obtain ⟨w1, rfl⟩ : ∃ x : World, x = w1 := ⟨_, rfl⟩
  go_loopw [10] (fun i wr => ∃ k : Nat, k ≤ len ∧ i = .int .i64 k ∧ Own .i32 21 w.heap.size wr (.slice (some ⟨g, 0, none⟩) len len) (fill sg08 xs k) ∧ Below w.heap.size w wr) (fun i _ => len - (intOf i).toNat)
  case atStart => exact ⟨0, Nat.zero_le _, rfl, by rw [fill_zero, hsz]; exact hown, hbel⟩
  case round =>
    obtain ⟨k, hk, rfl, hown', hbel'⟩ := hrel
    by_cases hlt : k < len
    · obtain ⟨b, off, x, rfl, _, hc, h0, h1, hx⟩ := (HR.out.below hbel').get8 hlt
      obtain ⟨hcell, hfz⟩ := hown'.at (j := k) (by rw [fill_len] <;> omega)
      obtain ⟨ho2, hb2⟩ := hown'.store hbel' k (sg08_wf x h0 h1)
      rw [fill_set sg08 (by omega) hx.out.2] at ho2
      have HO := hid ho2
      have HB := hid hb2
      clear ho2 hb2 hown' hbel'
      go_wp2_with (go_at_call 59; (with_reducible refine (latin_Sign _ _ h0 h1).mono ?_); rintro e w' ⟨rfl, rfl⟩)
      go_roundw
      case rel => exact ⟨k + 1, by omega, by go_num, HO.out, HB.out⟩
      case measure => simp [intOf]; omega
    · go_wp2
      go_ret
      obtain ⟨a', cap', hv, hrd⟩ := hown'.reads
      rw [fill_all sg08 xs k (by omega)] at hv hrd
      simp only [List.length_map, hsz] at hv hrd
      exact ⟨a', cap', by rw [← hv]; rfl, hrd, hbel'⟩

end Go.Proofs.Ytgeadmpbfbdopaa
