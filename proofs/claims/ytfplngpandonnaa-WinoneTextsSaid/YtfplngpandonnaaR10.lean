/-
  Contracts of the document's own functions of layer 10 (those that the translation has).
-/
import Derived.Test.YtfplngpandonnaaRows
import Derived.Test.YtfplngpandonnaaR01
import Derived.Test.YtfplngpandonnaaR03
import Derived.Test.YtfplngpandonnaaD10
namespace Go.Proofs.Ytfplngpandonnaa
open Go.RowKit
set_option linter.unusedVariables false

set_option maxHeartbeats 1000000 in
theorem ref10_Sign (x : Int) (w : World) (h0 : 0 ≤ x) (h1 : x ≤ 255) :
    Calls Try.prog 10 #[.int .u8 x] w fun e w' => e = .returned (.int .i32 (sg10 x)) ∧ Below w.heap.size w w' := by
  by_cases hx : x < 128
  · have hE : Hid (sg10 x = x) := by unfold Hid sg10; rw [if_pos (.inl hx)]
    go_enter Try.func10, Try.ntmps10
    go_wp2
    go_ret
    exact ⟨ret_int hE.out.symm, Below.refl _ _⟩
  · by_cases hx2 : 159 < x
    · have hE : Hid (sg10 x = x) := by unfold Hid sg10; rw [if_pos (.inr hx2)]
      go_enter Try.func10, Try.ntmps10
      go_wp2
      go_ret
      exact ⟨ret_int hE.out.symm, Below.refl _ _⟩
    · obtain ⟨n, hn, rfl⟩ : ∃ n : Nat, n < 32 ∧ x = (n : Int) + 128 := ⟨(x - 128).toNat, by omega, by omega⟩
      have hE : Hid (sg10 ((n : Int) + 128) = tab10.getD n 0) := by unfold Hid sg10; rw [if_neg (by omega), show ((n : Int) + 128 - 128).toNat = n by omega]
      have hs : (n : Int) + 128 - 128 = n := by omega
      have hs2 : (n : Int) % 256 = n := by omega
      go_enter Try.func10, Try.ntmps10
      go_wp2
      go_ret
      refine ⟨?_, (Below.refl _ _).alloc (Nat.le_refl _) _⟩
      rw [hE.out]
      show Ending.returned ((tab10.map (Value.int .i32))[n]'(by simpa [tab10] using hn)) = _
      rw [List.getElem_map, List.getD_eq_getElem?_getD, List.getElem?_eq_getElem (by simpa [tab10] using hn)]
      rfl
set_option maxHeartbeats 1000000 in
set_option maxRecDepth 100000 in
theorem ref10_Put (c : Int) (w : World) :
    Calls Try.prog 7 #[.int .i32 c] w fun e w' => e = .returned (.tuple #[.int .u8 (putI sg10 c), .bool (hasI sg10 c)]) ∧ Below w.heap.size w w' := by
  go_enter Try.func7, Try.ntmps7
  go_wp2
  go_loopw [4] (fun i wr => ∃ k : Nat, k ≤ 256 ∧ i = .int .i64 k ∧ Hid (∀ j : Nat, j < k → ¬ (sg10 j = c ∧ c ≠ 65533)) ∧ Below w.heap.size w wr) (fun i _ => 256 - (intOf i).toNat)
  case atStart => exact ⟨0, Nat.zero_le _, rfl, fun j hj => by omega, Below.refl _ _⟩
  case round =>
    obtain ⟨k, hk, rfl, hn, hB⟩ := hrel
    by_cases hlt : k < 256
    · have hk0 : (0 : Int) ≤ k := by omega
      have hk1 : (k : Int) ≤ 255 := by omega
      have hmod : (k : Int) % 256 = k := by omega
      by_cases hs : sg10 k = c
      · by_cases hc : c = 65533
        · have hE := hid hs
          have hC := hid hc
          subst hc
          have hb : (sg10 k == 65533) = true := by simpa using hs
          clear hs
          go_wp2_with (go_at_call 10; (with_reducible refine (ref10_Sign _ _ hk0 hk1).mono ?_); rintro e w1 ⟨rfl, hb1⟩; have hB1 := below_then' hB hb1 (Nat.le_refl _))
          go_roundw
          case rel => exact ⟨k + 1, by omega, by go_num, fun j hj h2 => h2.2 rfl, hB1⟩
          case measure => simp [intOf]; omega
        · have H := hid (put_of (put_hit hlt hs hc hn.out))
          have hb : (sg10 k == c) = true := by simpa using hs
          have hcb : (c != 65533) = true := by simpa using hc
          clear hs hc
          go_wp2_with (go_at_call 10; (with_reducible refine (ref10_Sign _ _ hk0 hk1).mono ?_); rintro e w1 ⟨rfl, hb1⟩; have hB1 := below_then' hB hb1 (Nat.le_refl _))
          go_ret2
          exact ⟨ret_ib H.out.1.symm H.out.2.symm, hB1⟩
      · have hb : (sg10 k == c) = false := by simpa using hs
        have hs' := hid hs
        clear hs
        go_wp2_with (go_at_call 10; (with_reducible refine (ref10_Sign _ _ hk0 hk1).mono ?_); rintro e w1 ⟨rfl, hb1⟩; have hB1 := below_then' hB hb1 (Nat.le_refl _))
        go_roundw
        case rel =>
          refine ⟨k + 1, by omega, by go_num, fun j hj h2 => ?_, hB1⟩
          by_cases hjk : j < k
          · exact hn.out j hjk h2
          · have : j = k := by omega
            subst this
            exact hs'.out h2.1
        case measure => simp [intOf]; omega
    · have H := hid (put_no (put_none (sg := sg10) (c := c) fun j hj => hn.out j (by omega)))
      go_wp2
      go_ret2
      exact ⟨ret_ib H.out.1.symm H.out.2.symm, hB⟩
set_option maxHeartbeats 1000000 in
theorem ref10_Lacks (a : Option Addr) (len cap : Nat) (xs : List Int) (w : World) (hr : Reads .i32 w a len cap xs) :
    Calls Try.prog 16 #[.slice a len cap] w fun e w' => e = .returned (.int .i64 (idxI (fun c => !hasI sg10 c) xs)) ∧ Below w.heap.size w w' := by
  have hl := hr.len_le
  have HR := hid hr
  clear hr
  go_enter Try.func16, Try.ntmps16
  go_wp2
  go_loopw [3] (fun i wr => ∃ k : Nat, k ≤ len ∧ i = .int .i64 k ∧ Hid ((xs.take k).any (fun c => !hasI sg10 c) = false) ∧ Below w.heap.size w wr) (fun i _ => len - (intOf i).toNat)
  case atStart => exact ⟨0, Nat.zero_le _, rfl, rfl, Below.refl _ _⟩
  case round =>
    obtain ⟨k, hk, rfl, hn, hB⟩ := hrel
    by_cases hlt : k < len
    · obtain ⟨b, off, x, rfl, _, hc, h0, h1, hx⟩ := (HR.out.below hB).getR hlt
      cases hs : hasI sg10 x
      · have H := hid hs
        go_wp2_with (go_at_call 7; (with_reducible refine (ref10_Put _ _).mono ?_); rintro e w1 ⟨rfl, hb1⟩; have hB1 := below_then' hB hb1 (Nat.le_refl _))
        go_ret
        exact ⟨ret_int (idx_hit hx.out.1 hn.out (by simp [H.out])).symm, hB1⟩
      · have H := hid hs
        go_wp2_with (go_at_call 7; (with_reducible refine (ref10_Put _ _).mono ?_); rintro e w1 ⟨rfl, hb1⟩; have hB1 := below_then' hB hb1 (Nat.le_refl _))
        go_roundw
        case rel => exact ⟨k + 1, by omega, by go_num, none_yes hx.out.2 hn.out (by simp [H.out]), hB1⟩
        case measure => simp [intOf]; omega
    · go_wp2
      go_ret
      exact ⟨ret_int (by rw [← HR.out.all (show len ≤ k by omega)]; exact (idx_none hn.out).symm), hB⟩
set_option maxHeartbeats 1000000 in
theorem ref10_Lay (a : Option Addr) (len cap : Nat) (xs : List Int) (w : World) (hr : Reads .i32 w a len cap xs) (hN : len < 100000000000) :
    Calls Try.prog 13 #[.slice a len cap] w fun e w' => ∃ a' len' cap', e = .returned (.tuple #[.slice a' len' cap', .int .i64 (csE sg10 xs)]) ∧ Reads .u8 w' a' len' cap' (csL sg10 xs) ∧ Below w.heap.size w w' := by
  have HR := hid hr
  have hsz := hr.size
  clear hr
  have hb := hid (cs_lack sg10 xs)
  cases h1 : xs.all (hasI sg10)
  · have hn : ¬ idxI (fun c => !hasI sg10 c) xs < 0 := by have := hb.out; rw [h1] at this; simpa using this
    have hn' : 0 ≤ idxI (fun c => !hasI sg10 c) xs := by omega
    have H1 := hid h1
    clear h1 hn
    go_enter Try.func13, Try.ntmps13
    go_wp2_with (go_at_call 16; (with_reducible refine (ref10_Lacks _ _ _ _ _ HR.out).mono ?_); rintro e w1 ⟨rfl, hb1⟩)
    go_ret2
    exact ⟨none, 0, 0, ret_si (by unfold csE; simp [H1.out]), by unfold csL; simp only [H1.out]; exact Reads.nil _ _ _ _ (Nat.zero_le _), hb1⟩
  · have hn : idxI (fun c => !hasI sg10 c) xs < 0 := by have := hb.out; rw [h1] at this; simpa using this
    have H1 := hid h1
    clear h1
    go_enter Try.func13, Try.ntmps13
    go_wp2_with (go_at_call 16; (with_reducible refine (ref10_Lacks _ _ _ _ _ HR.out).mono ?_); rintro e w1 ⟨rfl, hb1⟩)
    go_loopw [4, 5] (fun v i wr => ∃ k : Nat, k ≤ len ∧ i = .int .i64 k ∧ Own .u8 5 w.heap.size wr v ((xs.take k).map (putI sg10)) ∧ Below w.heap.size w wr) (fun _ i _ => len - (intOf i).toNat)
    case atStart => exact ⟨0, Nat.zero_le _, rfl, Own.nil _ _ _ _, hb1⟩
    case round =>
      obtain ⟨k, hk, rfl, hown', hbel'⟩ := hrel
      by_cases hlt : k < len
      · obtain ⟨b, off, x, rfl, _, hc, h0, h1, hx⟩ := (HR.out.below hbel').getR hlt
        have e1 : Hid ((xs.take k).map (putI sg10) ++ [putI sg10 x] = (xs.take (k + 1)).map (putI sg10)) := by rw [Hid, hx.out.2]; simp
        go_wp2_with (first
          | (go_at_call 7; (with_reducible refine (ref10_Put _ _).mono ?_); rintro e w2 ⟨rfl, hb2⟩; have hown2 := hown'.below hb2; have hbel2 := below_then' hbel' hb2 (Nat.le_refl _))
          | (at_builtin; go_must (refine wpList_push ST8 rfl _ _ rfl rfl ⟨_, rfl⟩ hown2 hbel2 (by simp; omega) (put_wf _ _) ?_); intro v' w' ho2 hb3))
        rw [e1.out] at ho2
        clear hown' hbel' hown2 hbel2
        go_wp2
        go_roundw
        case rel => exact ⟨k + 1, by omega, by go_num, ho2, hb3⟩
        case measure => simp [intOf]; omega
      · rw [HR.out.all (show len ≤ k by omega)] at hown'
        go_wp2
        obtain ⟨a', len', cap', rfl, hrd⟩ := hown'.back
        go_ret2
        exact ⟨a', len', cap', ret_si (by unfold csE; simp [H1.out]), by unfold csL; simp only [H1.out]; exact hrd, hbel'⟩
set_option maxHeartbeats 1000000 in
theorem ref10_Read (a : Option Addr) (len cap : Nat) (xs : List Int) (w : World) (hr : Reads .u8 w a len cap xs) (hN : len < 100000000000) :
    Calls Try.prog 19 #[.slice a len cap] w fun e w' => ∃ a' cap', e = .returned (.slice a' len cap') ∧ Reads .i32 w' a' len cap' (xs.map sg10) ∧ Below w.heap.size w w' := by
  have HR := hid hr
  have hsz := hr.size
  clear hr
  go_enter Try.func19, Try.ntmps19
  go_wp2
  go_loopw [3, 4] (fun v i wr => ∃ k : Nat, k ≤ len ∧ i = .int .i64 k ∧ Own .i32 21 w.heap.size wr v ((xs.take k).map sg10) ∧ Below w.heap.size w wr) (fun _ i _ => len - (intOf i).toNat)
  case atStart => exact ⟨0, Nat.zero_le _, rfl, Own.nil _ _ _ _, Below.refl _ _⟩
  case round =>
    obtain ⟨k, hk, rfl, hown', hbel'⟩ := hrel
    by_cases hlt : k < len
    · obtain ⟨b, off, x, rfl, _, hc, h0, h1, hx⟩ := (HR.out.below hbel').get8 hlt
      have e1 : Hid ((xs.take k).map sg10 ++ [sg10 x] = (xs.take (k + 1)).map sg10) := by rw [Hid, hx.out.2]; simp
      go_wp2_with (first
        | (go_at_call 10; (with_reducible refine (ref10_Sign _ _ h0 h1).mono ?_); rintro e w2 ⟨rfl, hb2⟩; have hown2 := hown'.below hb2; have hbel2 := below_then' hbel' hb2 (Nat.le_refl _))
        | (at_builtin; go_must (refine wpList_push STR rfl _ _ rfl rfl ⟨_, rfl⟩ hown2 hbel2 (by simp; omega) (sg10_wf _ h0 h1) ?_); intro v' w' ho2 hb3))
      rw [e1.out] at ho2
      clear hown' hbel' hown2 hbel2
      go_wp2
      go_roundw
      case rel => exact ⟨k + 1, by omega, by go_num, ho2, hb3⟩
      case measure => simp [intOf]; omega
    · go_wp2
      go_ret
      obtain ⟨a', cap', hv, hrd⟩ := hown'.reads
      rw [HR.out.all (show len ≤ k by omega)] at hv hrd
      simp only [List.length_map, hsz] at hv hrd
      exact ⟨a', cap', by rw [← hv]; rfl, hrd, hbel'⟩

end Go.Proofs.Ytfplngpandonnaa
