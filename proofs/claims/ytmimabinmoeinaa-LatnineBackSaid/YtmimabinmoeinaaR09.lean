/-
  Contracts of the document's own functions of layer 09 (those that the translation has).
-/
import Derived.Test.YtmimabinmoeinaaRows
import Derived.Test.YtmimabinmoeinaaR01
import Derived.Test.YtmimabinmoeinaaR03
import Derived.Test.YtmimabinmoeinaaD09
namespace Go.Proofs.Ytmimabinmoeinaa
open Go.RowKit
set_option linter.unusedVariables false

theorem ref09_Sign (x : Int) (w : World) (h0 : 0 ≤ x) (h1 : x ≤ 255) :
    Calls Try.prog 10 #[.int .u8 x] w fun e w' => e = .returned (.int .i32 (sg09 x)) ∧ w = w' := by
  go_enter Try.func10, Try.ntmps10
  go_wp2
  all_goals (go_ret; exact ⟨ret_int (by unfold sg09; simp_all), rfl⟩)
set_option maxHeartbeats 1000000 in
set_option maxRecDepth 100000 in
theorem ref09_Put (c : Int) (w : World) :
    Calls Try.prog 7 #[.int .i32 c] w fun e w' => e = .returned (.tuple #[.int .u8 (putI sg09 c), .bool (hasI sg09 c)]) ∧ w = w' := by
  go_enter Try.func7, Try.ntmps7
  go_wp2
  go_loop [4] (fun i => ∃ k : Nat, k ≤ 256 ∧ i = .int .i64 k ∧ Hid (∀ j : Nat, j < k → ¬ (sg09 j = c ∧ c ≠ 65533))) (fun i => 256 - (intOf i).toNat)
  case atStart => exact ⟨0, Nat.zero_le _, rfl, fun j hj => by omega⟩
  case round =>
    obtain ⟨k, hk, rfl, hn⟩ := hrel
    by_cases hlt : k < 256
    · have hk0 : (0 : Int) ≤ k := by omega
      have hk1 : (k : Int) ≤ 255 := by omega
      have hmod : (k : Int) % 256 = k := by omega
      by_cases hs : sg09 k = c
      · by_cases hc : c = 65533
        · have hE := hid hs
          have hC := hid hc
          subst hc
          have hb : (sg09 k == 65533) = true := by simpa using hs
          clear hs
          go_wp2_with (go_at_call 10; (with_reducible refine (ref09_Sign _ _ hk0 hk1).mono ?_); rintro e w' ⟨rfl, rfl⟩)
          go_round
          case rel => exact ⟨k + 1, by omega, by go_num, fun j hj h2 => h2.2 rfl⟩
          case measure => simp [intOf]; omega
        · have H := hid (put_of (put_hit hlt hs hc hn.out))
          have hb : (sg09 k == c) = true := by simpa using hs
          have hcb : (c != 65533) = true := by simpa using hc
          clear hs hc
          go_wp2_with (go_at_call 10; (with_reducible refine (ref09_Sign _ _ hk0 hk1).mono ?_); rintro e w' ⟨rfl, rfl⟩)
          go_ret2
          exact ⟨ret_ib H.out.1.symm H.out.2.symm, rfl⟩
      · have hb : (sg09 k == c) = false := by simpa using hs
        have hs' := hid hs
        clear hs
        go_wp2_with (go_at_call 10; (with_reducible refine (ref09_Sign _ _ hk0 hk1).mono ?_); rintro e w' ⟨rfl, rfl⟩)
        go_round
        case rel =>
          refine ⟨k + 1, by omega, by go_num, fun j hj h2 => ?_⟩
          by_cases hjk : j < k
          · exact hn.out j hjk h2
          · have : j = k := by omega
            subst this
            exact hs'.out h2.1
        case measure => simp [intOf]; omega
    · have H := hid (put_no (put_none (sg := sg09) (c := c) fun j hj => hn.out j (by omega)))
      go_wp2
      go_ret2
      exact ⟨ret_ib H.out.1.symm H.out.2.symm, rfl⟩
set_option maxHeartbeats 1000000 in
theorem ref09_Lacks (a : Option Addr) (len cap : Nat) (xs : List Int) (w : World) (hr : Reads .i32 w a len cap xs) :
    Calls Try.prog 16 #[.slice a len cap] w fun e w' => e = .returned (.int .i64 (idxI (fun c => !hasI sg09 c) xs)) ∧ w = w' := by
  have hl := hr.len_le
  have HR := hid hr
  clear hr
  go_enter Try.func16, Try.ntmps16
  go_wp2
  go_loop [3] (fun i => ∃ k : Nat, k ≤ len ∧ i = .int .i64 k ∧ Hid ((xs.take k).any (fun c => !hasI sg09 c) = false)) (fun i => len - (intOf i).toNat)
  case atStart => exact ⟨0, Nat.zero_le _, rfl, rfl⟩
  case round =>
    obtain ⟨k, hk, rfl, hn⟩ := hrel
    by_cases hlt : k < len
    · obtain ⟨b, off, x, rfl, _, hc, h0, h1, hx⟩ := HR.out.getR hlt
      cases hs : hasI sg09 x
      · have H := hid hs
        go_wp2_with (go_at_call 7; (with_reducible refine (ref09_Put _ _).mono ?_); rintro e w' ⟨rfl, rfl⟩)
        go_ret
        exact ⟨ret_int (idx_hit hx.out.1 hn.out (by simp [H.out])).symm, rfl⟩
      · have H := hid hs
        go_wp2_with (go_at_call 7; (with_reducible refine (ref09_Put _ _).mono ?_); rintro e w' ⟨rfl, rfl⟩)
        go_round
        case rel => exact ⟨k + 1, by omega, by go_num, none_yes hx.out.2 hn.out (by simp [H.out])⟩
        case measure => simp [intOf]; omega
    · go_wp2
      go_ret
      exact ⟨ret_int (by rw [← HR.out.all (show len ≤ k by omega)]; exact (idx_none hn.out).symm), rfl⟩
set_option maxHeartbeats 1000000 in
theorem ref09_Lay (a : Option Addr) (len cap : Nat) (xs : List Int) (w : World) (hr : Reads .i32 w a len cap xs) (hN : len < 100000000000) :
    Calls Try.prog 13 #[.slice a len cap] w fun e w' => ∃ a' len' cap', e = .returned (.tuple #[.slice a' len' cap', .int .i64 (csE sg09 xs)]) ∧ Reads .u8 w' a' len' cap' (csL sg09 xs) ∧ Below w.heap.size w w' := by
  have HR := hid hr
  have hsz := hr.size
  clear hr
  have hb := hid (cs_lack sg09 xs)
  cases h1 : xs.all (hasI sg09)
  · have hn : ¬ idxI (fun c => !hasI sg09 c) xs < 0 := by have := hb.out; rw [h1] at this; simpa using this
    have hn' : 0 ≤ idxI (fun c => !hasI sg09 c) xs := by omega
    have H1 := hid h1
    clear h1 hn
    go_enter Try.func13, Try.ntmps13
    go_wp2_with (go_at_call 16; (with_reducible refine (ref09_Lacks _ _ _ _ _ HR.out).mono ?_); rintro e w' ⟨rfl, rfl⟩)
    go_ret2
    exact ⟨none, 0, 0, ret_si (by unfold csE; simp [H1.out]), by unfold csL; simp only [H1.out]; exact Reads.nil _ _ _ _ (Nat.zero_le _), Below.refl _ _⟩
  · have hn : idxI (fun c => !hasI sg09 c) xs < 0 := by have := hb.out; rw [h1] at this; simpa using this
    have H1 := hid h1
    clear h1
    go_enter Try.func13, Try.ntmps13
    go_wp2_with (go_at_call 16; (with_reducible refine (ref09_Lacks _ _ _ _ _ HR.out).mono ?_); rintro e w' ⟨rfl, rfl⟩)
    go_loopw [4, 5] (fun v i wr => ∃ k : Nat, k ≤ len ∧ i = .int .i64 k ∧ Own .u8 5 w.heap.size wr v ((xs.take k).map (putI sg09)) ∧ Below w.heap.size w wr) (fun _ i _ => len - (intOf i).toNat)
    case atStart => exact ⟨0, Nat.zero_le _, rfl, Own.nil _ _ _ _, Below.refl _ _⟩
    case round =>
      obtain ⟨k, hk, rfl, hown', hbel'⟩ := hrel
      by_cases hlt : k < len
      · obtain ⟨b, off, x, rfl, _, hc, h0, h1, hx⟩ := (HR.out.below hbel').getR hlt
        have e1 : Hid ((xs.take k).map (putI sg09) ++ [putI sg09 x] = (xs.take (k + 1)).map (putI sg09)) := by rw [Hid, hx.out.2]; simp
        go_wp2_with (first
          | (go_at_call 7; (with_reducible refine (ref09_Put _ _).mono ?_); rintro e w' ⟨rfl, rfl⟩)
          | (at_builtin; go_must (refine wpList_push ST8 rfl _ _ rfl rfl ⟨_, rfl⟩ hown' hbel' (by simp; omega) (put_wf _ _) ?_); intro v' w' ho2 hb2))
        rw [e1.out] at ho2
        clear hown' hbel'
        go_wp2
        go_roundw
        case rel => exact ⟨k + 1, by omega, by go_num, ho2, hb2⟩
        case measure => simp [intOf]; omega
      · rw [HR.out.all (show len ≤ k by omega)] at hown'
        go_wp2
        obtain ⟨a', len', cap', rfl, hrd⟩ := hown'.back
        go_ret2
        exact ⟨a', len', cap', ret_si (by unfold csE; simp [H1.out]), by unfold csL; simp only [H1.out]; exact hrd, hbel'⟩
set_option maxHeartbeats 1000000 in
theorem ref09_Read (a : Option Addr) (len cap : Nat) (xs : List Int) (w : World) (hr : Reads .u8 w a len cap xs) (hN : len < 100000000000) :
    Calls Try.prog 19 #[.slice a len cap] w fun e w' => ∃ a' cap', e = .returned (.slice a' len cap') ∧ Reads .i32 w' a' len cap' (xs.map sg09) ∧ Below w.heap.size w w' := by
  have HR := hid hr
  have hsz := hr.size
  clear hr
  go_enter Try.func19, Try.ntmps19
  go_wp2
  go_loopw [3, 4] (fun v i wr => ∃ k : Nat, k ≤ len ∧ i = .int .i64 k ∧ Own .i32 21 w.heap.size wr v ((xs.take k).map sg09) ∧ Below w.heap.size w wr) (fun _ i _ => len - (intOf i).toNat)
  case atStart => exact ⟨0, Nat.zero_le _, rfl, Own.nil _ _ _ _, Below.refl _ _⟩
  case round =>
    obtain ⟨k, hk, rfl, hown', hbel'⟩ := hrel
    by_cases hlt : k < len
    · obtain ⟨b, off, x, rfl, _, hc, h0, h1, hx⟩ := (HR.out.below hbel').get8 hlt
      have e1 : Hid ((xs.take k).map sg09 ++ [sg09 x] = (xs.take (k + 1)).map sg09) := by rw [Hid, hx.out.2]; simp
      go_wp2_with (first
        | (go_at_call 10; (with_reducible refine (ref09_Sign _ _ h0 h1).mono ?_); rintro e w' ⟨rfl, rfl⟩)
        | (at_builtin; go_must (refine wpList_push STR rfl _ _ rfl rfl ⟨_, rfl⟩ hown' hbel' (by simp; omega) (sg09_wf _ h0 h1) ?_); intro v' w' ho2 hb2))
      rw [e1.out] at ho2
      clear hown' hbel'
      go_wp2
      go_roundw
      case rel => exact ⟨k + 1, by omega, by go_num, ho2, hb2⟩
      case measure => simp [intOf]; omega
    · go_wp2
      go_ret
      obtain ⟨a', cap', hv, hrd⟩ := hown'.reads
      rw [HR.out.all (show len ≤ k by omega)] at hv hrd
      simp only [List.length_map, hsz] at hv hrd
      exact ⟨a', cap', by rw [← hv]; rfl, hrd, hbel'⟩

end Go.Proofs.Ytmimabinmoeinaa
