/-
  Contracts of package latnine's functions that go over texts.
-/
import Derived.Test.YtgeadmpbfbdopaaC09a
namespace Go.Proofs.Ytgeadmpbfbdopaa
open Go.RowKit
set_option linter.unusedVariables false

set_option maxHeartbeats 1000000 in
theorem latnine_Lay (a : Option Addr) (len cap : Nat) (xs : List Int) (w : World) (hr : Reads .i32 w a len cap xs) (hN : len < 100000000000) :
    Calls Try.prog 43 #[.slice a len cap] w fun e w' => ∃ a' len' cap', e = .returned (.tuple #[.slice a' len' cap', .int .i64 (csE sg09 xs)]) ∧ Reads .u8 w' a' len' cap' (csL sg09 xs) ∧ Below w.heap.size w w' := by
  have HR := hid hr
  have hsz := hr.size
  clear hr
  go_enter Try.func43, Try.ntmps43
  go_wp2_with (at_make; refine wpList_zeros CT8 rfl _ _ rfl (w0 := w) rfl rfl (Below.refl _ _) (by omega) (by decide) ?_; intro g w1 hown hbel)
  obtain ⟨w1, rfl⟩ : ∃ x : World, x = w1 := ⟨_, rfl⟩
  go_loopw [14] (fun i wr => ∃ k : Nat, k ≤ len ∧ i = .int .i64 k ∧ Hid ((xs.take k).all (hasI sg09) = true) ∧ Own .u8 5 w.heap.size wr (.slice (some ⟨g, 0, none⟩) len len) (fill (putI sg09) xs k) ∧ Below w.heap.size w wr) (fun i _ => len - (intOf i).toNat)
  case atStart => exact ⟨0, Nat.zero_le _, rfl, rfl, by rw [fill_zero, hsz]; exact hown, hbel⟩
  case round =>
    obtain ⟨k, hk, rfl, hn, hown', hbel'⟩ := hrel
    by_cases hlt : k < len
    · obtain ⟨b, off, x, rfl, _, hc, h0, h1, hx⟩ := (HR.out.below hbel').getR hlt
      cases hs : hasI sg09 x
      · have H := hid hs
        have hF := hid (all_no hx.out.1 hs)
        go_wp2_with (go_at_call 63; (with_reducible refine (latnine_Put _ _).mono ?_); rintro e w2 ⟨rfl, hb2⟩)
        go_ret2
        exact ⟨none, 0, 0, ret_si (by unfold csE; simp [hF.out]), by unfold csL; simp only [hF.out]; exact Reads.nil _ _ _ _ (Nat.zero_le _), below_then hbel' hb2⟩
      · have H := hid hs
        go_wp2_with (go_at_call 63; (with_reducible refine (latnine_Put _ _).mono ?_); rintro e w2 ⟨rfl, hb2⟩; obtain ⟨hcell, hfz⟩ := (hown'.below hb2).at (j := k) (by rw [fill_len] <;> omega))
        obtain ⟨ho2, hb3⟩ := (hown'.below hb2).store (below_then hbel' hb2) k (put_wf sg09 x)
        rw [fill_set (putI sg09) (by omega) hx.out.2] at ho2
        go_roundw
        case rel => exact ⟨k + 1, by omega, by go_num, all_yes hx.out.2 hn.out H.out, ho2, hb3⟩
        case measure => simp [intOf]; omega
    · have hn' := hn.out
      rw [HR.out.all (show len ≤ k by omega)] at hn'
      have hF := hid hn'
      clear hn'
      go_wp2
      go_ret2
      obtain ⟨a', cap', hv, hrd⟩ := hown'.reads
      rw [fill_all (putI sg09) xs k (by omega)] at hv hrd
      simp only [Value.slice.injEq] at hv
      obtain ⟨rfl, hl2, rfl⟩ := hv
      exact ⟨_, _, _, ret_si (by unfold csE; simp [hF.out]), by unfold csL; simp only [hF.out]; rw [← hl2] at hrd; exact hrd, hbel'⟩
set_option maxHeartbeats 1000000 in
theorem latnine_Read (a : Option Addr) (len cap : Nat) (xs : List Int) (w : World) (hr : Reads .u8 w a len cap xs) (hN : len < 100000000000) :
    Calls Try.prog 32 #[.slice a len cap] w fun e w' => ∃ a' cap', e = .returned (.slice a' len cap') ∧ Reads .i32 w' a' len cap' (xs.map sg09) ∧ Below w.heap.size w w' := by
  have HR := hid hr
  have hsz := hr.size
  clear hr
  go_enter Try.func32, Try.ntmps32
  go_wp2_with (at_make; refine wpList_zeros CTR rfl _ _ rfl (w0 := w) rfl rfl (Below.refl _ _) (by omega) (by decide) ?_; intro g w1 hown hbel)
  obtain ⟨w1, rfl⟩ : ∃ x : World, x = w1 := ⟨_, rfl⟩
  go_loopw [11] (fun i wr => ∃ k : Nat, k ≤ len ∧ i = .int .i64 k ∧ Own .i32 21 w.heap.size wr (.slice (some ⟨g, 0, none⟩) len len) (fill sg09 xs k) ∧ Below w.heap.size w wr) (fun i _ => len - (intOf i).toNat)
  case atStart => exact ⟨0, Nat.zero_le _, rfl, by rw [fill_zero, hsz]; exact hown, hbel⟩
  case round =>
    obtain ⟨k, hk, rfl, hown', hbel'⟩ := hrel
    by_cases hlt : k < len
    · obtain ⟨b, off, x, rfl, _, hc, h0, h1, hx⟩ := (HR.out.below hbel').get8 hlt
      go_wp2_with (go_at_call 56; (with_reducible refine (latnine_Sign _ _ h0 h1).mono ?_); rintro e w2 ⟨rfl, hb2⟩; obtain ⟨hcell, hfz⟩ := (hown'.below hb2).at (j := k) (by rw [fill_len] <;> omega))
      obtain ⟨ho2, hb3⟩ := (hown'.below hb2).store (below_then hbel' hb2) k (sg09_wf x h0 h1)
      rw [fill_set sg09 (by omega) hx.out.2] at ho2
      go_roundw
      case rel => exact ⟨k + 1, by omega, by go_num, ho2, hb3⟩
      case measure => simp [intOf]; omega
    · go_wp2
      go_ret
      obtain ⟨a', cap', hv, hrd⟩ := hown'.reads
      rw [fill_all sg09 xs k (by omega)] at hv hrd
      simp only [List.length_map, hsz] at hv hrd
      exact ⟨a', cap', by rw [← hv]; rfl, hrd, hbel'⟩

end Go.Proofs.Ytgeadmpbfbdopaa
