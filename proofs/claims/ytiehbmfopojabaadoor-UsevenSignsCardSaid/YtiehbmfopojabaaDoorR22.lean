/-
  Contracts of the document's own functions of layer 22 (those that the translation has).
-/
import Derived.Test.YtiehbmfopojabaaDoorD22
import Derived.Test.YtiehbmfopojabaaDoorR03
import Derived.Test.YtiehbmfopojabaaDoorR06
import Derived.Test.YtiehbmfopojabaaDoorR14
namespace Go.Proofs.YtiehbmfopojabaaDoor
open Go.RowKit
set_option linter.unusedVariables false

set_option maxRecDepth 100000 in
set_option maxHeartbeats 2000000 in
theorem ref22_Direct (c : Int) (w : World) :
    Calls Tryd.prog 15 #[.int .i32 c] w fun e w' => e = .returned (.bool (dirB c)) ∧ Below w.heap.size w w' := by
  have hb := (Below.refl w.heap.size w).alloc (Nat.le_refl _) (.cells #[.int .i32 39, .int .i32 40, .int .i32 41, .int .i32 44, .int .i32 45, .int .i32 46, .int .i32 47, .int .i32 58, .int .i32 63, .int .i32 32, .int .i32 9, .int .i32 13, .int .i32 10] 21)
  have hlit : Reads .i32 (w.alloc (.cells #[.int .i32 39, .int .i32 40, .int .i32 41, .int .i32 44, .int .i32 45, .int .i32 46, .int .i32 47, .int .i32 58, .int .i32 63, .int .i32 32, .int .i32 9, .int .i32 13, .int .i32 10] 21)) (some ⟨w.heap.size, 0, none⟩) 13 13 dirT := Reads.lit .i32 21 w dirT (by decide) (by decide)
  by_cases hl : (65 ≤ c ∧ c ≤ 90) ∨ (97 ≤ c ∧ c ≤ 122) ∨ (48 ≤ c ∧ c ≤ 57)
  · have hd : dirB c = true := by
      unfold dirB
      rcases hl with h | h | h
      · rw [decide_eq_true h]; rfl
      · rw [decide_eq_true h]; simp
      · rw [decide_eq_true h]; simp
    rw [hd]
    clear hlit hd
    have hK : (decide (65 ≤ c) = true ∧ decide (c ≤ 90) = true) ∨ (decide (65 ≤ c) = true ∧ decide (c ≤ 90) = false ∧ decide (97 ≤ c) = true ∧ decide (c ≤ 122) = true) ∨ (decide (65 ≤ c) = false ∧ decide (97 ≤ c) = false ∧ decide (48 ≤ c) = true ∧ decide (c ≤ 57) = true) := by
      rcases hl with h | h | h
      · exact .inl ⟨decide_eq_true h.1, decide_eq_true h.2⟩
      · exact .inr (.inl ⟨decide_eq_true (by omega), decide_eq_false (by omega), decide_eq_true h.1, decide_eq_true h.2⟩)
      · exact .inr (.inr ⟨decide_eq_false (by omega), decide_eq_false (by omega), decide_eq_true h.1, decide_eq_true h.2⟩)
    clear hl
    rcases hK with ⟨e1, e2⟩ | ⟨e1, e2, e3, e4⟩ | ⟨e1, e2, e3, e4⟩
    all_goals
      go_enter Tryd.func15, Tryd.ntmps15
      go_wp2_with fail
      go_ret
      exact ⟨rfl, Below.refl _ _⟩
  · have hd : dirB c = dirT.any (fun x => decide (x = c)) := by
      unfold dirB
      rw [decide_eq_false (fun h => hl (.inl h)), decide_eq_false (fun h => hl (.inr (.inl h))), decide_eq_false (fun h => hl (.inr (.inr h)))]
      rfl
    rw [hd]
    have hK : (decide (65 ≤ c) = true ∧ decide (c ≤ 90) = false ∧ decide (97 ≤ c) = true ∧ decide (c ≤ 122) = false ∧ decide (48 ≤ c) = true ∧ decide (c ≤ 57) = false) ∨ (decide (65 ≤ c) = true ∧ decide (c ≤ 90) = false ∧ decide (97 ≤ c) = false ∧ decide (48 ≤ c) = true ∧ decide (c ≤ 57) = false) ∨ (decide (65 ≤ c) = false ∧ decide (97 ≤ c) = false ∧ decide (48 ≤ c) = true ∧ decide (c ≤ 57) = false) ∨ (decide (65 ≤ c) = false ∧ decide (97 ≤ c) = false ∧ decide (48 ≤ c) = false) := by
      simp only [decide_eq_true_eq, decide_eq_false_iff_not]
      omega
    have H := hid hlit
    clear hl hd hlit
    rcases hK with ⟨e1, e2, e3, e4, e5, e6⟩ | ⟨e1, e2, e3, e4, e5⟩ | ⟨e1, e2, e3, e4⟩ | ⟨e1, e2, e3⟩
    all_goals
      go_enter Tryd.func15, Tryd.ntmps15
      go_wp2_with fail
      clear e1 e2 e3
      generalize (w.alloc (.cells #[.int .i32 39, .int .i32 40, .int .i32 41, .int .i32 44, .int .i32 45, .int .i32 46, .int .i32 47, .int .i32 58, .int .i32 63, .int .i32 32, .int .i32 9, .int .i32 13, .int .i32 10] 21)) = W2 at *
      go_loop [4] (fun i => ∃ k : Nat, k ≤ 13 ∧ i = .int .i64 k ∧ Hid ((dirT.take k).any (fun x => decide (x = c)) = false)) (fun i => 13 - (intOf i).toNat)
      case atStart => exact ⟨0, by omega, rfl, rfl⟩
      case round =>
        obtain ⟨k, hk, rfl, hn⟩ := hrel
        by_cases hlt : k < 13
        · obtain ⟨b, off, x, hA, _, hc, _, _, hx⟩ := H.out.getR hlt
          cases hA
          rw [Nat.zero_add] at hc
          by_cases hxc : x = c
          · subst hxc
            have HA := hid (any_hit (f := fun y => decide (y = x)) hx.out.1 (decide_eq_true rfl))
            clear hn
            go_wp2_with fail
            go_ret
            exact ⟨ret_bool HA.out.symm, hb⟩
          · have HN := hid (none_yes hx.out.2 hn.out (decide_eq_false hxc))
            have hne : (x == c) = false := by simpa using hxc
            clear hn hxc
            go_wp2_with fail
            go_round
            case rel => exact ⟨k + 1, by omega, by go_num, HN⟩
            case measure => simp [intOf]; omega
        · obtain rfl : k = 13 := by omega
          have HA := hid (show dirT.any (fun x => decide (x = c)) = false from hn.out)
          clear hn
          go_wp2_with fail
          go_ret
          exact ⟨ret_bool HA.out.symm, hb⟩
set_option maxRecDepth 100000 in
set_option maxHeartbeats 2000000 in
theorem ref22_Seven (a : Option Addr) (len cap : Nat) (xs : List Int) (w : World) (hr : Reads .u8 w a len cap xs) :
    Calls Tryd.prog 17 #[.slice a len cap] w fun e w' => e = .returned (.bool (xs.all sevB)) ∧ w = w' := by
  have HR := hid hr
  have hl := hr.len_le
  clear hr
  go_enter Tryd.func17, Tryd.ntmps17
  go_wp2_with fail
  go_loop [3] (fun i => ∃ k : Nat, k ≤ len ∧ i = .int .i64 k ∧ Hid ((xs.take k).all sevB = true)) (fun i => len - (intOf i).toNat)
  case atStart => exact ⟨0, Nat.zero_le _, rfl, rfl⟩
  case round =>
    obtain ⟨k, hk, rfl, hn⟩ := hrel
    by_cases hlt : k < len
    · obtain ⟨b, off, x, rfl, _, hc, h0, h1, hx⟩ := HR.out.get8 hlt
      cases hs : sevB x
      · have HA := hid (all_no hx.out.1 hs)
        have hK : decide (126 < x) = true ∨ (decide (126 < x) = false ∧ decide (x < 32) = true ∧ (x != 9) = true ∧ (x != 10) = true ∧ (x != 13) = true) := by
          unfold sevB at hs
          simp only [Bool.and_eq_false_iff, Bool.or_eq_false_iff, decide_eq_false_iff_not] at hs
          simp only [decide_eq_true_eq, decide_eq_false_iff_not, bne_iff_ne, ne_eq]
          omega
        clear hn hs
        rcases hK with e1 | ⟨e1, e2, e3, e4, e5⟩
        all_goals
          go_wp2_with fail
          go_ret
          exact ⟨ret_bool HA.out.symm, rfl⟩
      · have HN := hid (all_yes hx.out.2 hn.out hs)
        have hK : decide (126 < x) = false ∧ (decide (x < 32) = false ∨ (decide (x < 32) = true ∧ ((x = 9) ∨ ((x != 9) = true ∧ x = 10) ∨ ((x != 9) = true ∧ (x != 10) = true ∧ x = 13)))) := by
          unfold sevB at hs
          simp only [Bool.and_eq_true, Bool.or_eq_true, decide_eq_true_eq] at hs
          simp only [decide_eq_true_eq, decide_eq_false_iff_not, bne_iff_ne, ne_eq]
          omega
        clear hn hs
        rcases hK with ⟨e1, e2 | ⟨e2, rfl | ⟨e3, rfl⟩ | ⟨e3, e4, rfl⟩⟩⟩
        all_goals
          go_wp2_with fail
          go_round
          case rel => exact ⟨k + 1, by omega, by go_num, HN⟩
          case measure => simp [intOf]; omega
    · have hn' := hn.out
      rw [HR.out.all (by omega)] at hn'
      have HA := hid hn'
      clear hn hn'
      go_wp2_with fail
      go_ret
      exact ⟨ret_bool HA.out.symm, rfl⟩
set_option maxHeartbeats 2000000 in
theorem ref22_Code (a : Option Addr) (len cap : Nat) (xs : List Int) (w : World) (hr : Reads .i32 w a len cap xs) (hN : len < 1000000) :
    Calls Tryd.prog 13 #[.slice a len cap] w fun e w' => ∃ v, e = .returned v ∧ Own .u8 5 w.heap.size w' v (codU xs) ∧ Below w.heap.size w w' := by
  unfold codU
  by_cases hs : xs.all scB = true
  · rw [if_pos hs]
    have hL := ref06_Lay a len cap xs w hr (by omega) hs
    have hu : (unL xs).length ≤ 2 * len := by have := unL_len xs; have := hr.size; omega
    have ho : (ocU (unL xs)).length ≤ 4 * len := by have := ocU_len (unL xs); omega
    generalize unL xs = U at hL hu ho ⊢
    obtain ⟨n, hn⟩ : ∃ n, n = U.length := ⟨_, rfl⟩
    obtain ⟨m, hm⟩ : ∃ m, m = (ocU U).length := ⟨_, rfl⟩
    rw [← hn] at hL hu
    rw [← hm] at ho
    have HL := hid hL
    have HM := hid hm
    clear hr hL hn hm hs
    go_enter Tryd.func13, Tryd.ntmps13
    go_wp2_with (first
      | (go_at_call 28; (with_reducible refine HL.out.mono ?_); rintro e w1 ⟨a1, c1, rfl, r1, h1⟩)
      | (go_at_call 30; (with_reducible refine (ref06_Octets _ _ _ _ _ r1 (by omega)).mono ?_); rintro e w2 ⟨a2, c2, rfl, r2, h2⟩; rw [← HM.out] at r2; rw [← HM.out]; have t2 := below_then h1 h2)
      | (go_at_call 29; (with_reducible refine (ref14_Bare _ _ _ _ _ r2 (by omega)).mono ?_); rintro e w3 ⟨v3, rfl, o3, h3⟩; have t3 := below_then t2 h3))
    go_ret
    exact ⟨_, rfl, own_mono o3 t2.size, t3⟩
  · rw [if_neg hs]
    have HL := hid (ref06_LayNo a len cap xs w hr (by simpa using hs))
    clear hr hs
    go_enter Tryd.func13, Tryd.ntmps13
    go_wp2_with (go_at_call 28; (with_reducible refine HL.out.mono ?_); rintro e w1 ⟨rfl, rfl⟩)
    go_ret
    exact ⟨_, rfl, Own.nil _ _ _ _, Below.refl _ _⟩
set_option maxRecDepth 100000 in
set_option maxHeartbeats 2000000 in
theorem ref22_Runs (a : Option Addr) (len cap : Nat) (xs : List Int) (w : World) (hr : Reads .i32 w a len cap xs) :
    Calls Tryd.prog 24 #[.slice a len cap] w fun e w' => e = .returned (.int .i64 (runN xs false)) ∧ Below w.heap.size w w' := by
  have HR := hid hr
  have hl := hr.len_le
  have hsz := hr.size
  clear hr
  obtain ⟨N, hN⟩ : ∃ N, N = runN xs false := ⟨_, rfl⟩
  have hle := runN_le xs false
  rw [← hN] at hle ⊢
  go_enter Tryd.func24, Tryd.ntmps24
  go_wp2_with fail
  go_loopw [3, 4, 5] (fun n f i wr => ∃ (k j : Nat) (g : Bool), k ≤ len ∧ i = .int .i64 k ∧ n = .int .i64 j ∧ f = .bool g ∧ Hid (j + runN (xs.drop k) g = N) ∧ j ≤ N ∧ Below w.heap.size w wr) (fun _ _ i _ => len - (intOf i).toNat)
  case atStart => exact ⟨0, 0, false, Nat.zero_le _, rfl, rfl, rfl, by unfold Hid; rw [List.drop_zero, Nat.zero_add, hN], Nat.zero_le _, Below.refl _ _⟩
  case round =>
    obtain ⟨k, j, g, hk, rfl, rfl, rfl, hn, hj, hbel⟩ := hrel
    by_cases hlt : k < len
    · obtain ⟨b, off, x, rfl, hbw, hcw, _, _, hx⟩ := HR.out.getR hlt
      have hc := (hbel.cell (p := ⟨b, off + k, none⟩) hbw).trans hcw
      have hd : xs.drop k = x :: xs.drop (k + 1) := by
        rw [List.drop_eq_getElem_cons (by omega)]
        have := hx.out.1
        rw [List.getElem?_eq_getElem (by omega)] at this
        rw [Option.some.inj this]
      have hn' := hn.out
      rw [hd, runN] at hn'
      cases hdx : dirB x
      · rw [hdx, if_neg (by decide)] at hn'
        by_cases hq : g = false ∧ x ≠ 43
        · rw [if_pos hq] at hn'
          obtain ⟨rfl, h43⟩ := hq
          have hne : (x != 43) = true := by simpa using h43
          have HN := hid (show (j + 1) + runN (xs.drop (k + 1)) true = N by omega)
          have hj2 : j + 1 ≤ N := by omega
          clear hn hn' hd h43
          go_wp2_with (go_at_call 15; (with_reducible refine (ref22_Direct _ _).mono ?_); rintro e w1 ⟨rfl, h1⟩; rw [hdx]; have hc1 := (h1.cell (p := ⟨b, off + k, none⟩) (Nat.lt_of_lt_of_le hbw hbel.size)).trans hc)
          go_roundw
          case rel => exact ⟨k + 1, j + 1, true, by omega, by go_num, by go_num, rfl, HN, hj2, below_then hbel h1⟩
          case measure => simp [intOf]; omega
        · rw [if_neg hq] at hn'
          have HN := hid hn'
          have hK : g = true ∨ (g = false ∧ x = 43) := by
            cases g
            · exact .inr ⟨rfl, by by_cases h : x = 43; exact h; exact absurd ⟨rfl, h⟩ hq⟩
            · exact .inl rfl
          clear hn hn' hd hq
          rcases hK with rfl | ⟨rfl, rfl⟩
          all_goals
            go_wp2_with (go_at_call 15; (with_reducible refine (ref22_Direct _ _).mono ?_); rintro e w1 ⟨rfl, h1⟩; rw [hdx]; have hc1 := (h1.cell (p := ⟨b, off + k, none⟩) (Nat.lt_of_lt_of_le hbw hbel.size)).trans hc)
            go_roundw
            case rel => exact ⟨k + 1, j, _, by omega, by go_num, rfl, rfl, HN, hj, below_then hbel h1⟩
            case measure => simp [intOf]; omega
      · rw [hdx, if_pos rfl] at hn'
        have HN := hid hn'
        clear hn hn' hd
        go_wp2_with (go_at_call 15; (with_reducible refine (ref22_Direct _ _).mono ?_); rintro e w1 ⟨rfl, h1⟩; rw [hdx])
        go_roundw
        case rel => exact ⟨k + 1, j, false, by omega, by go_num, rfl, rfl, HN, hj, below_then hbel h1⟩
        case measure => simp [intOf]; omega
    · have hn' := hn.out
      rw [List.drop_of_length_le (by omega), runN, Nat.add_zero] at hn'
      go_wp2_with fail
      go_ret
      exact ⟨ret_int (by rw [hn']), hbel⟩
end Go.Proofs.YtiehbmfopojabaaDoor
