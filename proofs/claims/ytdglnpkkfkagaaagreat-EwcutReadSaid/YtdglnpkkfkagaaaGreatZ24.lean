/-
  Texts of ours laid together: R10, R12.
-/
import Derived.Test.YtdglnpkkfkagaaaGreatRows
import Derived.Test.YtdglnpkkfkagaaaGreatZ23

/-! R10 -/
namespace Go.Proofs.YtdglnpkkfkagaaaGreat
open Go.RowKit
set_option linter.unusedVariables false

set_option maxHeartbeats 1000000 in
theorem ref10_Sign (x : Int) (w : World) (h0 : 0 ≤ x) (h1 : x ≤ 255) :
    Calls Tryz.prog 65 #[.int .u8 x] w fun e w' => e = .returned (.int .i32 (sg10 x)) ∧ Below w.heap.size w w' := by
  by_cases hx : x < 128
  · have hE : Hid (sg10 x = x) := by unfold Hid sg10; rw [if_pos (.inl hx)]
    go_enter Tryz.func65, Tryz.ntmps65
    go_wp2
    go_ret
    exact ⟨ret_int hE.out.symm, Below.refl _ _⟩
  · by_cases hx2 : 159 < x
    · have hE : Hid (sg10 x = x) := by unfold Hid sg10; rw [if_pos (.inr hx2)]
      go_enter Tryz.func65, Tryz.ntmps65
      go_wp2
      go_ret
      exact ⟨ret_int hE.out.symm, Below.refl _ _⟩
    · obtain ⟨n, hn, rfl⟩ : ∃ n : Nat, n < 32 ∧ x = (n : Int) + 128 := ⟨(x - 128).toNat, by omega, by omega⟩
      have hE : Hid (sg10 ((n : Int) + 128) = tab10.getD n 0) := by unfold Hid sg10; rw [if_neg (by omega), show ((n : Int) + 128 - 128).toNat = n by omega]
      have hs : (n : Int) + 128 - 128 = n := by omega
      have hs2 : (n : Int) % 256 = n := by omega
      go_enter Tryz.func65, Tryz.ntmps65
      go_wp2
      go_ret
      refine ⟨?_, (Below.refl _ _).alloc (Nat.le_refl _) _⟩
      rw [hE.out]
      show Ending.returned ((tab10.map (Value.int .i32))[n]'(by simpa [tab10] using hn)) = _
      rw [List.getElem_map, List.getD_eq_getElem?_getD, List.getElem?_eq_getElem (by simpa [tab10] using hn)]
      rfl
set_option maxHeartbeats 1000000 in
set_option maxRecDepth 100000 in
theorem ref10_Put (c : Int) (w : World) :
    Calls Tryz.prog 89 #[.int .i32 c] w fun e w' => e = .returned (.tuple #[.int .u8 (putI sg10 c), .bool (hasI sg10 c)]) ∧ Below w.heap.size w w' := by
  go_enter Tryz.func89, Tryz.ntmps89
  go_wp2
  go_loopw [4] (fun i wr => ∃ k : Nat, k ≤ 256 ∧ i = .int .i64 k ∧ Hid (∀ j : Nat, j < k → ¬ (sg10 j = c ∧ c ≠ 65533)) ∧ Below w.heap.size w wr) (fun i _ => 256 - (intOf i).toNat)
  case atStart => exact ⟨0, Nat.zero_le _, rfl, fun j hj => by omega, Below.refl _ _⟩
  case round =>
    obtain ⟨k, hk, rfl, hn, hB⟩ := hrel
    by_cases hlt : k < 256
    · have hk0 : (0 : Int) ≤ k := by omega
      have hk1 : (k : Int) ≤ 255 := by omega
      have hmod : (k : Int) % 256 = k := by omega
      by_cases hs : sg10 k = c
      · by_cases hc : c = 65533
        · have hE := hid hs
          have hC := hid hc
          subst hc
          have hb : (sg10 k == 65533) = true := by simpa using hs
          clear hs
          go_wp2_with (go_at_call 65; (with_reducible refine (ref10_Sign _ _ hk0 hk1).mono ?_); rintro e w1 ⟨rfl, hb1⟩; have hB1 := below_then' hB hb1 (Nat.le_refl _))
          go_roundw
          case rel => exact ⟨k + 1, by omega, by go_num, fun j hj h2 => h2.2 rfl, hB1⟩
          case measure => simp [intOf]; omega
        · have H := hid (put_of (put_hit hlt hs hc hn.out))
          have hb : (sg10 k == c) = true := by simpa using hs
          have hcb : (c != 65533) = true := by simpa using hc
          clear hs hc
          go_wp2_with (go_at_call 65; (with_reducible refine (ref10_Sign _ _ hk0 hk1).mono ?_); rintro e w1 ⟨rfl, hb1⟩; have hB1 := below_then' hB hb1 (Nat.le_refl _))
          go_ret2
          exact ⟨ret_ib H.out.1.symm H.out.2.symm, hB1⟩
      · have hb : (sg10 k == c) = false := by simpa using hs
        have hs' := hid hs
        clear hs
        go_wp2_with (go_at_call 65; (with_reducible refine (ref10_Sign _ _ hk0 hk1).mono ?_); rintro e w1 ⟨rfl, hb1⟩; have hB1 := below_then' hB hb1 (Nat.le_refl _))
        go_roundw
        case rel =>
          refine ⟨k + 1, by omega, by go_num, fun j hj h2 => ?_, hB1⟩
          by_cases hjk : j < k
          · exact hn.out j hjk h2
          · have : j = k := by omega
            subst this
            exact hs'.out h2.1
        case measure => simp [intOf]; omega
    · have H := hid (put_no (put_none (sg := sg10) (c := c) fun j hj => hn.out j (by omega)))
      go_wp2
      go_ret2
      exact ⟨ret_ib H.out.1.symm H.out.2.symm, hB⟩

end Go.Proofs.YtdglnpkkfkagaaaGreat

/-! R12 -/
namespace Go.Proofs.YtdglnpkkfkagaaaGreat
open Go.RowKit
set_option linter.unusedVariables false

set_option maxHeartbeats 1000000 in
theorem ref12_Has (n c : Int) (w : World) :
    Calls Tryz.prog 86 #[.int .i64 n, .int .i32 c] w fun e w' => e = .returned (.bool (hasR n c)) ∧ Below w.heap.size w w' := by
  by_cases h1 : n = 1
  · subst h1
    have e : Hid (hasR 1 c = decide (0 ≤ c ∧ c < 128)) := by unfold Hid hasR; rw [if_pos rfl]
    by_cases c0 : 0 ≤ c
    · by_cases c1 : c < 128
      · go_enter Tryz.func86, Tryz.ntmps86
        go_wp2
        go_ret
        exact ⟨ret_bool (by rw [e.out]; simp [c0, c1]), Below.refl _ _⟩
      · go_enter Tryz.func86, Tryz.ntmps86
        go_wp2
        go_ret
        exact ⟨ret_bool (by rw [e.out]; exact (decide_eq_false (by omega)).symm), Below.refl _ _⟩
    · go_enter Tryz.func86, Tryz.ntmps86
      go_wp2
      go_ret
      exact ⟨ret_bool (by rw [e.out]; exact (decide_eq_false (by omega)).symm), Below.refl _ _⟩
  by_cases h2 : n = 2
  · subst h2
    have e : Hid (hasR 2 c = hasI sg08 c) := rfl
    go_enter Tryz.func86, Tryz.ntmps86
    go_wp2_with (go_at_call 87; (with_reducible refine (ref08_Put _ _).mono ?_); rintro e w' ⟨rfl, rfl⟩)
    go_ret
    exact ⟨ret_bool e.out.symm, Below.refl _ _⟩
  by_cases h3 : n = 3
  · subst h3
    have e : Hid (hasR 3 c = hasI sg09 c) := rfl
    go_enter Tryz.func86, Tryz.ntmps86
    go_wp2_with (go_at_call 88; (with_reducible refine (ref09_Put _ _).mono ?_); rintro e w' ⟨rfl, rfl⟩)
    go_ret
    exact ⟨ret_bool e.out.symm, Below.refl _ _⟩
  by_cases h4 : n = 4
  · subst h4
    have e : Hid (hasR 4 c = hasI sg10 c) := rfl
    go_enter Tryz.func86, Tryz.ntmps86
    go_wp2_with (go_at_call 89; (with_reducible refine (ref10_Put _ _).mono ?_); rintro e w1 ⟨rfl, hb1⟩)
    go_ret
    exact ⟨ret_bool e.out.symm, hb1⟩
  by_cases h5 : n = 5
  · subst h5
    have e : Hid (hasR 5 c = scB c) := rfl
    go_enter Tryz.func86, Tryz.ntmps86
    go_wp2_with (go_at_call 113; (with_reducible refine (ref03_Is _ _).mono ?_); rintro e w' ⟨rfl, rfl⟩)
    go_ret
    exact ⟨ret_bool e.out.symm, Below.refl _ _⟩
  have e := hid (hasR_none (n := n) (by omega) c)
  have b1 : (n == 1) = false := by simpa using h1
  have b2 : (n == 2) = false := by simpa using h2
  have b3 : (n == 3) = false := by simpa using h3
  have b4 : (n == 4) = false := by simpa using h4
  have b5 : (n == 5) = false := by simpa using h5
  clear h1 h2 h3 h4 h5
  go_enter Tryz.func86, Tryz.ntmps86
  go_wp2
  go_ret
  exact ⟨ret_bool e.out.symm, Below.refl _ _⟩
set_option maxHeartbeats 1000000 in
theorem ref12_Lacks (n : Int) (a : Option Addr) (len cap : Nat) (xs : List Int) (w : World) (hr : Reads .i32 w a len cap xs) :
    Calls Tryz.prog 79 #[.int .i64 n, .slice a len cap] w fun e w' => e = .returned (.int .i64 (lackR n xs)) ∧ Below w.heap.size w w' := by
  have hl := hr.len_le
  have HR := hid hr
  clear hr
  go_enter Tryz.func79, Tryz.ntmps79
  go_wp2
  go_loopw [5] (fun i wr => ∃ k : Nat, k ≤ len ∧ i = .int .i64 k ∧ Hid ((xs.take k).any (fun c => !hasR n c) = false) ∧ Below w.heap.size w wr) (fun i _ => len - (intOf i).toNat)
  case atStart => exact ⟨0, Nat.zero_le _, rfl, rfl, Below.refl _ _⟩
  case round =>
    obtain ⟨k, hk, rfl, hn, hB⟩ := hrel
    by_cases hlt : k < len
    · obtain ⟨b, off, x, rfl, _, hc, h0, h1, hx⟩ := (HR.out.below hB).getR hlt
      cases hs : hasR n x
      · have H := hid hs
        go_wp2_with (go_at_call 86; (with_reducible refine (ref12_Has _ _ _).mono ?_); rintro e w1 ⟨rfl, hb1⟩; have hB1 := below_then' hB hb1 (Nat.le_refl _))
        go_ret
        exact ⟨ret_int (idx_hit hx.out.1 hn.out (by simp [H.out])).symm, hB1⟩
      · have H := hid hs
        go_wp2_with (go_at_call 86; (with_reducible refine (ref12_Has _ _ _).mono ?_); rintro e w1 ⟨rfl, hb1⟩; have hB1 := below_then' hB hb1 (Nat.le_refl _))
        go_roundw
        case rel => exact ⟨k + 1, by omega, by go_num, none_yes hx.out.2 hn.out (by simp [H.out]), hB1⟩
        case measure => simp [intOf]; omega
    · go_wp2
      go_ret
      exact ⟨ret_int (by unfold lackR; rw [← HR.out.all (show len ≤ k by omega)]; exact (idx_none hn.out).symm), hB⟩
theorem ref12_All (n : Int) (a : Option Addr) (len cap : Nat) (xs : List Int) (w : World) (hr : Reads .i32 w a len cap xs) :
    Calls Tryz.prog 50 #[.int .i64 n, .slice a len cap] w fun e w' => e = .returned (.bool (allR n xs)) ∧ Below w.heap.size w w' := by
  have HR := hid hr
  clear hr
  have hA : decide (lackR n xs < 0) = xs.all (hasR n) := by unfold lackR; rw [idx_neg]; simp
  by_cases h1 : 1 ≤ n
  · by_cases h5 : n ≤ 5
    · have e : Hid (allR n xs = decide (lackR n xs < 0)) := by unfold Hid allR; rw [decide_eq_true (p := 1 ≤ n ∧ n ≤ 5) ⟨h1, h5⟩, hA]; rfl
      clear hA
      go_enter Tryz.func50, Tryz.ntmps50
      go_wp2_with (go_at_call 79; (with_reducible refine (ref12_Lacks _ _ _ _ _ _ HR.out).mono ?_); rintro e w1 ⟨rfl, hb1⟩)
      all_goals
        go_ret
        exact ⟨ret_bool (by rw [e.out]; try simp [*]), hb1⟩
    · have e : Hid (allR n xs = false) := by unfold Hid allR; rw [decide_eq_false (by omega)]; rfl
      clear hA
      go_enter Tryz.func50, Tryz.ntmps50
      go_wp2
      go_ret
      exact ⟨ret_bool (by rw [e.out]), Below.refl _ _⟩
  · have e : Hid (allR n xs = false) := by unfold Hid allR; rw [decide_eq_false (by omega)]; rfl
    clear hA
    go_enter Tryz.func50, Tryz.ntmps50
    go_wp2
    go_ret
    exact ⟨ret_bool (by rw [e.out]), Below.refl _ _⟩
set_option maxHeartbeats 1000000 in
theorem ref12_Select (a : Option Addr) (len cap : Nat) (xs : List Int) (w : World) (hr : Reads .i32 w a len cap xs) :
    Calls Tryz.prog 28 #[.slice a len cap] w fun e w' => e = .returned (.tuple #[.int .i64 (selN xs), .int .i64 (selE xs)]) ∧ Below w.heap.size w w' := by
  have HR := hid hr
  clear hr
  go_enter Tryz.func28, Tryz.ntmps28
  go_wp2
  go_loopw [4] (fun i wr => ∃ k : Nat, k ≤ 5 ∧ i = .int .i64 ((k : Int) + 1) ∧ Hid (∀ j : Nat, j < k → xs.all (hasR ((j : Int) + 1)) = false) ∧ Below w.heap.size w wr) (fun i _ => 6 - (intOf i).toNat)
  case atStart => exact ⟨0, Nat.zero_le _, rfl, fun j hj => by omega, Below.refl _ _⟩
  case round =>
    obtain ⟨k, hk, rfl, hn, hB⟩ := hrel
    by_cases hlt : k < 5
    · have R1 := HR.out.below hB
      have e : allR ((k : Int) + 1) xs = xs.all (hasR ((k : Int) + 1)) := by unfold allR; rw [decide_eq_true (p := 1 ≤ (k : Int) + 1 ∧ (k : Int) + 1 ≤ 5) (by omega)]; rfl
      cases hs : xs.all (hasR ((k : Int) + 1))
      · have H := hid hs
        rw [hs] at e
        go_wp2_with (go_at_call 50; (with_reducible refine (ref12_All _ _ _ _ _ _ R1).mono ?_); rintro e w1 ⟨rfl, hb1⟩; have hB1 := below_then' hB hb1 (Nat.le_refl _))
        go_roundw
        case rel =>
          refine ⟨k + 1, by omega, by go_num, fun i hi => ?_, hB1⟩
          by_cases hik : i < k
          · exact hn.out i hik
          · obtain rfl : i = k := by omega
            exact H.out
        case measure => simp [intOf]; omega
      · have H := hid (sel_hit hlt hs hn.out)
        rw [hs] at e
        go_wp2_with (go_at_call 50; (with_reducible refine (ref12_All _ _ _ _ _ _ R1).mono ?_); rintro e w1 ⟨rfl, hb1⟩; have hB1 := below_then' hB hb1 (Nat.le_refl _))
        go_ret2
        exact ⟨ret_ii H.out.1.symm H.out.2.symm, hB1⟩
    · have hk5 : k = 5 := by omega
      subst hk5
      have H := hid (sel_no hn.out)
      go_wp2
      go_ret2
      exact ⟨ret_ii H.out.1.symm H.out.2.symm, hB⟩
end Go.Proofs.YtdglnpkkfkagaaaGreat
