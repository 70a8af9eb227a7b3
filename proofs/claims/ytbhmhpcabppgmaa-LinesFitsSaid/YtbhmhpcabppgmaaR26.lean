/-
  Contracts of the document's own functions of layer 26.
-/
import Derived.Test.YtbhmhpcabppgmaaD26
import Derived.Test.YtbhmhpcabppgmaaR18b
namespace Go.Proofs.Ytbhmhpcabppgmaa
open Go.RowKit
set_option linter.unusedVariables false

theorem ref26_Ends (a : Option Addr) (len cap : Nat) (xs : List Int) (w : World) (hr : Reads .u8 w a len cap xs) (hN : len < 10000000) :
    Calls Try.prog 11 #[.slice a len cap] w fun e w' => e = .returned (.bool (linE xs)) ∧ Below w.heap.size w w' := by
  have HL := hid (ref18_Lines a len cap xs w hr hN)
  clear hr
  generalize linE xs = E at *
  go_enter Try.func11, Try.ntmps11
  go_wp2_with (go_at_call 27; (with_reducible refine HL.out.mono ?_); rintro e w1 ⟨a1, n1, c1, rfl, r1, h1⟩)
  go_ret
  exact ⟨rfl, h1⟩
theorem ref26_Split (a : Option Addr) (len cap : Nat) (xs : List Int) (w : World) (hr : Reads .u8 w a len cap xs) (hN : len < 10000000) :
    Calls Try.prog 9 #[.slice a len cap] w fun e w' => ∃ a' n c, e = .returned (.slice a' n c) ∧ Rws w' a' n c (linL xs) ∧ Below w.heap.size w w' := by
  have HL := hid (ref18_Lines a len cap xs w hr hN)
  clear hr
  generalize linE xs = E at *
  generalize linL xs = L at *
  go_enter Try.func9, Try.ntmps9
  go_wp2_with (go_at_call 27; (with_reducible refine HL.out.mono ?_); rintro e w1 ⟨a1, n1, c1, rfl, r1, h1⟩)
  go_ret
  exact ⟨_, _, _, rfl, r1, h1⟩
set_option maxHeartbeats 2000000 in
theorem ref26_Join (a : Option Addr) (len cap : Nat) (xss : List (List Int)) (w : World) (hr : Rws w a len cap xss) (hN : (linJ xss).length < 100000000) (hM : len < 100000000) :
    Calls Try.prog 16 #[.slice a len cap] w fun e w' => ∃ v, e = .returned v ∧ Own .u8 5 w.heap.size w' v (linJ xss) ∧ Below w.heap.size w w' := by
  have HR := hid hr
  have hsz := hr.size
  have HJ := hid (fun k => linJ_take xss k)
  have HM := hid (fun x (hx : x ∈ xss) => linJ_mem hx)
  clear hr
  go_enter Try.func16, Try.ntmps16
  go_wp2_with fail
  go_loopw [3, 4] (fun v i wr => ∃ k : Nat, k ≤ len ∧ i = .int .i64 k ∧ Own .u8 5 w.heap.size wr v (linJ (xss.take k)) ∧ Below w.heap.size w wr) (fun _ i _ => len - (intOf i).toNat)
  case atStart => exact ⟨0, Nat.zero_le _, rfl, Own.nil _ _ _ _, Below.refl _ _⟩
  case round =>
    obtain ⟨k, hk, rfl, hown, hbel⟩ := hrel
    by_cases hlt : k < len
    · obtain ⟨b, off, x, ai, li, ci, rfl, hbw, hc, hx, hg, ht⟩ := (HR.out.below hbel).get hlt
      have hs := linJ_snoc ht
      have hjk := HJ.out k
      have hml := HM.out x (List.mem_of_getElem? hg)
      have hxl := hx.size
      have HX := hid hx
      have HS := hid hs
      have hl1 : (linJ (xss.take k)).length + li < 1000000000000 := by omega
      have hl2 : (linJ (xss.take k) ++ x).length + 2 < 1000000000000 := by rw [List.length_append]; omega
      have HL1 := hid hl1
      have HL2 := hid hl2
      clear hx hs hg ht hjk hml hxl hl1 hl2
      go_wp2_with (first
        | (at_builtin; have hX := ho3; clear hX; go_must (refine wpList_pushs ST8 [13, 10] rfl _ _ rfl rfl ⟨_, rfl⟩ ho3 hb3 HL2.out (by decide) ?_); intro v4 w4 ho4 hb4)
        | (at_builtin; go_must (refine wpList_more ST8 rfl _ _ rfl rfl rfl hown hbel HX.out HL1.out ?_); intro v3 w3 ho3 hb3))
      rw [← HS.out] at ho4
      go_roundw
      case rel => exact ⟨k + 1, by omega, by go_num, ho4, hb4⟩
      case measure => simp [intOf]; omega
    · obtain rfl : k = len := by omega
      rw [List.take_of_length_le (by omega)] at hown
      go_wp2_with fail
      go_ret
      exact ⟨_, rfl, hown, hbel⟩
set_option maxHeartbeats 2000000 in
theorem ref26_Bare (a : Option Addr) (len cap : Nat) (xs : List Int) (w : World) (hr : Reads .u8 w a len cap xs) :
    Calls Try.prog 13 #[.slice a len cap] w fun e w' => e = .returned (.int .i64 (barC 0 xs)) ∧ w = w' := by
  have HR := hid hr
  have hl := hr.len_le
  have hsz := hr.size
  clear hr
  have hle := barC_le xs 0
  obtain ⟨N, hN⟩ : ∃ N, N = barC 0 xs := ⟨_, rfl⟩
  rw [← hN] at hle ⊢
  go_enter Try.func13, Try.ntmps13
  go_wp2_with fail
  go_loop [3, 4] (fun n i => ∃ (k j : Nat) (p : Int), k ≤ len ∧ i = .int .i64 k ∧ n = .int .i64 j ∧ Hid ((k = 0 ∧ p = 0) ∨ (0 < k ∧ xs[k - 1]? = some p)) ∧ Hid (j + barC p (xs.drop k) = N) ∧ j ≤ N) (fun _ i => len - (intOf i).toNat)
  case atStart => exact ⟨0, 0, 0, Nat.zero_le _, rfl, rfl, .inl ⟨rfl, rfl⟩, by unfold Hid; rw [List.drop_zero, Nat.zero_add, hN], Nat.zero_le _⟩
  case round =>
    obtain ⟨k, j, p, hk, rfl, rfl, hp, hn, hj⟩ := hrel
    by_cases hlt : k < len
    · obtain ⟨b, off, x, rfl, _, hc, _, _, hx⟩ := HR.out.get8 hlt
      have hn' := hn.out
      rw [drop_one hx.out.1, barC] at hn'
      have HP : Hid ((k + 1 = 0 ∧ x = 0) ∨ (0 < k + 1 ∧ xs[k + 1 - 1]? = some x)) := .inr ⟨by omega, hx.out.1⟩
      have hnx : (k + 1 = len ∧ (xs.drop (k + 1)).head? = none) ∨ (k + 1 < len ∧ ∃ y, (xs.drop (k + 1)).head? = some y ∧ w.cell? ⟨b, off + (k + 1), none⟩ = some (.int .u8 y)) := by
        by_cases h : k + 1 < len
        · obtain ⟨b', off', y, hA, _, hcy, _, _, hy⟩ := HR.out.get8 h
          cases hA
          exact .inr ⟨h, y, by rw [List.head?_drop]; exact hy.out.1, hcy⟩
        · exact .inl ⟨by omega, by rw [List.head?_drop]; exact List.getElem?_eq_none (by omega)⟩
      have hpv : (k = 0 ∧ p = 0) ∨ (0 < k ∧ w.cell? ⟨b, off + (k - 1), none⟩ = some (.int .u8 p)) := by
        rcases hp.out with h | ⟨h1, h2⟩
        · exact .inl h
        · obtain ⟨b', off', y, hA, _, hcy, _, _, hy⟩ := HR.out.get8 (i := k - 1) (by omega)
          cases hA
          rw [hy.out.1] at h2
          cases h2
          exact .inr ⟨h1, hcy⟩
      clear hn hp
      have key : ((x = 13 ∧ (xs.drop (k + 1)).head? ≠ some 10) ∨ (x = 10 ∧ p ≠ 13)) ∨ ¬ ((x = 13 ∧ (xs.drop (k + 1)).head? ≠ some 10) ∨ (x = 10 ∧ p ≠ 13)) := Classical.em _
      by_cases h13 : x = 13
      · subst h13
        rcases hnx with ⟨hK, hh⟩ | ⟨hK, y, hh, hcy⟩
        · rw [hh, if_pos (.inl ⟨rfl, by simp⟩)] at hn'
          have HN := hid (show (j + 1) + barC 13 (xs.drop (k + 1)) = N by omega)
          have hj2 : j + 1 ≤ N := by have := HN.out; omega
          have q1 : ((k : Int) + 1 == (len : Int)) = true := by simp; omega
          clear hn' key hpv hh hK
          go_wp2_with fail
          go_round
          case rel => exact ⟨k + 1, j + 1, 13, by omega, by go_num, by go_num, HP, HN, hj2⟩
          case measure => simp [intOf]; omega
        · have q1 : ((k : Int) + 1 == (len : Int)) = false := by simp; omega
          have q2 : ((k : Int) + 1).toNat = k + 1 := by omega
          have q3 : (0 : Int) ≤ (k : Int) + 1 := by omega
          have q4 : (k : Int) + 1 < (len : Int) := by omega
          by_cases h10 : y = 10
          · subst h10
            rw [hh, if_neg (by simp)] at hn'
            have HN := hid (show j + barC 13 (xs.drop (k + 1)) = N by omega)
            clear hn' key hpv hh
            go_wp2_with fail
            go_round
            case rel => exact ⟨k + 1, j, 13, by omega, by go_num, rfl, HP, HN, hj⟩
            case measure => simp [intOf]; omega
          · rw [hh, if_pos (.inl ⟨rfl, by simpa using h10⟩)] at hn'
            have HN := hid (show (j + 1) + barC 13 (xs.drop (k + 1)) = N by omega)
            have hj2 : j + 1 ≤ N := by have := HN.out; omega
            have q5 : (y != 10) = true := by simpa using h10
            clear hn' key hpv hh h10
            go_wp2_with fail
            go_round
            case rel => exact ⟨k + 1, j + 1, 13, by omega, by go_num, by go_num, HP, HN, hj2⟩
            case measure => simp [intOf]; omega
      · have q13 : (x == 13) = false := by simpa using h13
        by_cases h10 : x = 10
        · subst h10
          rcases hpv with ⟨hk0, hp0⟩ | ⟨hk0, hcp⟩
          · rw [if_pos (.inr ⟨rfl, by rw [hp0]; decide⟩)] at hn'
            have HN := hid (show (j + 1) + barC 10 (xs.drop (k + 1)) = N by omega)
            have hj2 : j + 1 ≤ N := by have := HN.out; omega
            have q1 : ((k : Int) == 0) = true := by simp; omega
            clear hn' key hnx hk0 hp0
            go_wp2_with fail
            go_round
            case rel => exact ⟨k + 1, j + 1, 10, by omega, by go_num, by go_num, HP, HN, hj2⟩
            case measure => simp [intOf]; omega
          · have q1 : ((k : Int) == 0) = false := by simp; omega
            have q2 : ((k : Int) - 1).toNat = k - 1 := by omega
            have q3 : (0 : Int) ≤ (k : Int) - 1 := by omega
            have q4 : (k : Int) - 1 < (len : Int) := by omega
            have q5 : IntKind.i64.wrap ((k : Int) - 1) = (k : Int) - 1 := IntWalk.i64_in _ (by omega)
            by_cases hpp : p = 13
            · subst hpp
              rw [if_neg (by simp)] at hn'
              have HN := hid (show j + barC 10 (xs.drop (k + 1)) = N by omega)
              clear hn' key hnx
              go_wp2_with fail
              go_round
              case rel => exact ⟨k + 1, j, 10, by omega, by go_num, rfl, HP, HN, hj⟩
              case measure => simp [intOf]; omega
            · rw [if_pos (.inr ⟨rfl, hpp⟩)] at hn'
              have HN := hid (show (j + 1) + barC 10 (xs.drop (k + 1)) = N by omega)
              have hj2 : j + 1 ≤ N := by have := HN.out; omega
              have q6 : (p != 13) = true := by simpa using hpp
              clear hn' key hnx hpp
              go_wp2_with fail
              go_round
              case rel => exact ⟨k + 1, j + 1, 10, by omega, by go_num, by go_num, HP, HN, hj2⟩
              case measure => simp [intOf]; omega
        · rw [if_neg (by rintro (h | h); exact h13 h.1; exact h10 h.1)] at hn'
          have HN := hid (show j + barC x (xs.drop (k + 1)) = N by omega)
          have q10 : (x == 10) = false := by simpa using h10
          clear hn' key hnx hpv h10 h13
          go_wp2_with fail
          go_round
          case rel => exact ⟨k + 1, j, x, by omega, by go_num, rfl, HP, HN, hj⟩
          case measure => simp [intOf]; omega
    · have hn' := hn.out
      rw [List.drop_of_length_le (by omega), barC, Nat.add_zero] at hn'
      go_wp2_with fail
      go_ret
      exact ⟨ret_int (by first | rfl | rw [hn']), rfl⟩
set_option maxHeartbeats 1000000 in
theorem ref26_Longest (a : Option Addr) (len cap : Nat) (xs : List Int) (w : World) (hr : Reads .u8 w a len cap xs) (hN : len < 10000000) :
    Calls Try.prog 18 #[.slice a len cap] w fun e w' => e = .returned (.int .i64 (lngF (linL xs))) ∧ Below w.heap.size w w' := by
  have HS := hid (ref26_Split a len cap xs w hr hN)
  have hL := linL_len xs
  rw [hr.size] at hL
  have HB := hid (fun k => lng_bd (m := len) ((linL xs).take k) (fun x hx => hL.2 x (List.mem_of_mem_take hx)))
  have hL1 := hL.1
  clear hr hL
  generalize linL xs = L at *
  go_enter Try.func18, Try.ntmps18
  go_wp2_with (go_at_call 9; (with_reducible refine HS.out.mono ?_); rintro e w1 ⟨a1, n1, c1, rfl, r1, h1⟩; have hsz := r1.size; have R1 := hid r1; clear r1)
  have hn1 : n1 ≤ len + 1 := by omega
  go_loop [4, 5] (fun n i => ∃ k : Nat, k ≤ n1 ∧ i = .int .i64 k ∧ n = .int .i64 (lngF (L.take k))) (fun _ i => n1 - (intOf i).toNat)
  case atStart => exact ⟨0, Nat.zero_le _, rfl, rfl⟩
  case round =>
    obtain ⟨k, hk, rfl, rfl⟩ := hrel
    by_cases hlt : k < n1
    · obtain ⟨b, off, x, ai, li, ci, rfl, hbw, hc, hx, hg, ht⟩ := R1.out.get hlt
      have hs := lng_snoc ht
      rw [hx.size] at hs
      have hb := HB.out k
      have HSN := hid hs
      have hll := hx.len_le
      clear hs ht hg hx
      generalize lngF (L.take k) = M at *
      by_cases hm : M < (li : Int)
      · rw [if_pos hm] at HSN
        go_wp2_with fail
        go_round
        case rel => exact ⟨k + 1, by omega, by go_num, by rw [HSN.out]⟩
        case measure => simp [intOf]; omega
      · rw [if_neg hm] at HSN
        go_wp2_with fail
        go_round
        case rel => exact ⟨k + 1, by omega, by go_num, by rw [HSN.out]⟩
        case measure => simp [intOf]; omega
    · go_wp2_with fail
      go_ret
      exact ⟨ret_int (by rw [List.take_of_length_le (by omega)]), h1⟩
theorem fit_bad {first most : Int} {L : List (List Int)} {x : List Int} (h : x ∈ L) (hx : most < (x.length : Int)) : fitL first most L = false := by
  unfold fitL
  have : L.all (fun x => decide ((x.length : Int) ≤ most)) = false := by
    rw [List.all_eq_false]; exact ⟨x, h, by simp; omega⟩
  rw [this]; rfl
set_option maxHeartbeats 2000000 in
theorem ref26_Fits (a : Option Addr) (len cap : Nat) (xs : List Int) (first most : Int) (w : World) (hr : Reads .u8 w a len cap xs) (hN : len < 10000000) (hf : first ≤ 9223372036854775807) (hm : most ≤ 9223372036854775807) :
    Calls Try.prog 20 #[.slice a len cap, .int .i64 first, .int .i64 most] w fun e w' => e = .returned (.bool (fitB xs first most)) ∧ Below w.heap.size w w' := by
  have HS := hid (ref26_Split a len cap xs w hr hN)
  have hL1 := (linL_len xs).1
  rw [hr.size] at hL1
  clear hr
  unfold fitB
  generalize linL xs = L at *
  by_cases h1 : first < 0
  · rw [if_pos (.inl h1)]
    go_enter Try.func20, Try.ntmps20
    go_wp2_with fail
    go_ret
    exact ⟨rfl, Below.refl _ _⟩
  · by_cases h2 : most < 0
    · rw [if_pos (.inr h2)]
      go_enter Try.func20, Try.ntmps20
      go_wp2_with fail
      go_ret
      exact ⟨rfl, Below.refl _ _⟩
    · rw [if_neg (by rintro (h | h); exact h1 h; exact h2 h)]
      obtain ⟨V, hV⟩ : ∃ V, V = fitL first most L := ⟨_, rfl⟩
      rw [← hV]
      have HV := hid hV
      clear hV
      go_enter Try.func20, Try.ntmps20
      go_wp2_with (go_at_call 9; (with_reducible refine HS.out.mono ?_); rintro e w1 ⟨a1, n1, c1, rfl, r1, hb1⟩; have hsz := r1.size; have R1 := hid r1; clear r1)
      have hn1 : n1 ≤ len + 1 := by omega
      go_loop [8] (fun i => ∃ k : Nat, k ≤ n1 ∧ i = .int .i64 k ∧ Hid ((L.take k).all (fun x => decide ((x.length : Int) ≤ most)) = true ∧ (0 < k → ∃ x, L.head? = some x ∧ (x.length : Int) ≤ most - first))) (fun i => n1 - (intOf i).toNat)
      case atStart => exact ⟨0, Nat.zero_le _, rfl, rfl, fun h => absurd h (Nat.lt_irrefl _)⟩
      case round =>
        obtain ⟨k, hk, rfl, hi⟩ := hrel
        by_cases hlt : k < n1
        · obtain ⟨b, off, x, ai, li, ci, rfl, hbw, hc, hx, hg, ht⟩ := R1.out.get hlt
          have hxs := hx.size
          have hll := hx.len_le
          have hmem := List.mem_of_getElem? hg
          by_cases h3 : most < (li : Int)
          · have hv : fitL first most L = false := fit_bad hmem (by omega)
            rw [← HV.out] at hv
            have HF := hid hv
            clear hv hg ht hx
            go_wp2_with fail
            go_ret
            exact ⟨by rw [HF.out]; rfl, hb1⟩
          · have hall : (L.take (k + 1)).all (fun x => decide ((x.length : Int) ≤ most)) = true := by
              rw [ht, List.all_append, hi.out.1]
              simp; omega
            by_cases hk0 : k = 0
            · subst hk0
              rw [Nat.add_zero] at hc
              have hhead : L.head? = some x := by rw [List.head?_eq_getElem?]; exact hg
              have q5 : IntKind.i64.wrap (most - first) = most - first := IntWalk.i64_in _ (by omega)
              by_cases h4 : most - first < (li : Int)
              · have hv : fitL first most L = false := by
                  unfold fitL
                  rw [hhead]
                  dsimp only
                  rw [decide_eq_false (show ¬ (x.length : Int) ≤ most - first by omega), Bool.and_false]
                rw [← HV.out] at hv
                have HF := hid hv
                clear hv hg ht hx hall hhead hi
                go_wp2_with fail
                go_ret
                exact ⟨by rw [HF.out]; rfl, hb1⟩
              · have HA : Hid ((L.take (0 + 1)).all (fun x => decide ((x.length : Int) ≤ most)) = true ∧ (0 < 0 + 1 → ∃ x, L.head? = some x ∧ (x.length : Int) ≤ most - first)) := ⟨hall, fun _ => ⟨x, hhead, by omega⟩⟩
                clear hg ht hx hall hhead hi
                go_wp2_with fail
                go_round
                case rel => exact ⟨0 + 1, by omega, by go_num, HA⟩
                case measure => simp [intOf]; omega
            · have HA : Hid ((L.take (k + 1)).all (fun x => decide ((x.length : Int) ≤ most)) = true ∧ (0 < k + 1 → ∃ x, L.head? = some x ∧ (x.length : Int) ≤ most - first)) := ⟨hall, fun _ => hi.out.2 (by omega)⟩
              have q1 : ((k : Int) == 0) = false := by simp; omega
              clear hg ht hx hall hi
              go_wp2_with fail
              go_round
              case rel => exact ⟨k + 1, by omega, by go_num, HA⟩
              case measure => simp [intOf]; omega
        · have hv : fitL first most L = true := by
            have h := hi.out
            rw [List.take_of_length_le (by omega)] at h
            unfold fitL
            rw [h.1, Bool.true_and]
            cases L with
            | nil => rfl
            | cons y L =>
              obtain ⟨x, hx, hxl⟩ := h.2 (by simp at hsz; omega)
              cases hx
              exact decide_eq_true hxl
          rw [← HV.out] at hv
          have HF := hid hv
          clear hv hi
          go_wp2_with fail
          go_ret
          exact ⟨by rw [HF.out]; rfl, hb1⟩
set_option maxHeartbeats 4000000 in
theorem ref26_Seven (a : Option Addr) (len cap : Nat) (xs : List Int) (most : Int) (w : World) (hr : Reads .u8 w a len cap xs) (hN : len < 10000000) :
    Calls Try.prog 22 #[.slice a len cap, .int .i64 most] w fun e w' => e = .returned (.int .i64 (sevE xs most)) ∧ Below w.heap.size w w' := by
  have HS := hid (ref26_Split a len cap xs w hr hN)
  have HBa := hid (ref26_Bare a len cap xs w hr)
  have HR := hid hr
  have hL1 := (linL_len xs).1
  rw [hr.size] at hL1
  clear hr
  obtain ⟨V, hV⟩ : ∃ V, V = sevE xs most := ⟨_, rfl⟩
  rw [← hV]
  unfold sevE at hV
  generalize linL xs = L at *
  generalize barC 0 xs = B at *
  have HV := hid hV
  clear hV
  go_enter Try.func22, Try.ntmps22
  go_wp2_with fail
  go_loop [5, 6] (fun f i => ∃ (k : Nat) (g : Bool), k ≤ len ∧ i = .int .i64 k ∧ f = .bool g ∧ Hid ((xs.take k).any is0 = false ∧ (xs.take k).any isHi = g)) (fun _ i => len - (intOf i).toNat)
  case atStart => exact ⟨0, false, Nat.zero_le _, rfl, rfl, rfl, rfl⟩
  case round =>
    obtain ⟨k, g, hk, rfl, rfl, hi⟩ := hrel
    by_cases hlt : k < len
    · obtain ⟨b, off, x, rfl, _, hc, h0, h1, hx⟩ := HR.out.get8 hlt
      by_cases hx0 : x = 0
      · subst hx0
        have hv : V = 8 := by rw [HV.out, if_pos (any_hit hx.out.1 (by decide))]
        have HF := hid hv
        clear hv hi
        go_wp2_with fail
        go_ret
        exact ⟨by rw [HF.out]; rfl, Below.refl _ _⟩
      · have e0 : (x == 0) = false := by simpa using hx0
        have hz : (xs.take (k + 1)).any is0 = false := none_yes hx.out.2 hi.out.1 (decide_eq_false hx0)
        have hh : (xs.take (k + 1)).any isHi = (g || decide (127 < x)) := by rw [hx.out.2, List.any_append, hi.out.2]; simp [isHi]
        cases g
        · by_cases h7 : 127 < x
          · rw [decide_eq_true h7] at hh
            have HI : Hid ((xs.take (k + 1)).any is0 = false ∧ (xs.take (k + 1)).any isHi = true) := ⟨hz, hh⟩
            clear hz hh hi hx0
            go_wp2_with fail
            go_round
            case rel => exact ⟨k + 1, true, by omega, by go_num, rfl, HI⟩
            case measure => simp [intOf]; omega
          · rw [decide_eq_false h7] at hh
            have HI : Hid ((xs.take (k + 1)).any is0 = false ∧ (xs.take (k + 1)).any isHi = false) := ⟨hz, hh⟩
            clear hz hh hi hx0
            go_wp2_with fail
            go_round
            case rel => exact ⟨k + 1, false, by omega, by go_num, rfl, HI⟩
            case measure => simp [intOf]; omega
        · rw [Bool.true_or] at hh
          have HI : Hid ((xs.take (k + 1)).any is0 = false ∧ (xs.take (k + 1)).any isHi = true) := ⟨hz, hh⟩
          clear hz hh hi hx0
          go_wp2_with fail
          go_round
          case rel => exact ⟨k + 1, true, by omega, by go_num, rfl, HI⟩
          case measure => simp [intOf]; omega
    · have h := hi.out
      rw [HR.out.all (show len ≤ k by omega)] at h
      have hv := HV.out
      rw [h.1, h.2, if_neg (by decide)] at hv
      clear HV hi h
      by_cases hB : 0 < B
      · rw [if_pos hB] at hv
        have HF := hid hv
        have q1 : (0 : Int) < (B : Int) := by omega
        clear hv hB
        go_wp2_with (go_at_call 13; (with_reducible refine HBa.out.mono ?_); rintro e w' ⟨rfl, rfl⟩)
        go_ret
        exact ⟨by rw [HF.out]; rfl, Below.refl _ _⟩
      · rw [if_neg hB] at hv
        have hB0 : B = 0 := by omega
        subst hB0
        clear hB
        cases g
        case true =>
          rw [if_pos rfl] at hv
          have HF := hid hv
          clear hv
          go_wp2_with (go_at_call 13; (with_reducible refine HBa.out.mono ?_); rintro e w' ⟨rfl, rfl⟩)
          go_ret
          exact ⟨by rw [HF.out]; rfl, Below.refl _ _⟩
        case false =>
          rw [if_neg (by decide)] at hv
          have HV := hid hv
          clear hv
          go_wp2_with (first
            | (go_at_call 13; (with_reducible refine HBa.out.mono ?_); rintro e w' ⟨rfl, rfl⟩)
            | (go_at_call 9; (with_reducible refine HS.out.mono ?_); rintro e w1 ⟨a1, n1, c1, rfl, r1, hb1⟩; have hsz := r1.size; have R1 := hid r1; clear r1))
          have hn1 : n1 ≤ len + 1 := by omega
          go_loop [8] (fun i => ∃ k : Nat, k ≤ n1 ∧ i = .int .i64 k ∧ Hid ((L.take k).any (fun x => decide (most < (x.length : Int))) = false)) (fun i => n1 - (intOf i).toNat)
          case atStart => exact ⟨0, Nat.zero_le _, rfl, rfl⟩
          case round =>
            obtain ⟨q, hq, rfl, hi⟩ := hrel
            by_cases hlq : q < n1
            · obtain ⟨b, off, x, ai, li, ci, rfl, hbw, hc, hx, hg, ht⟩ := R1.out.get hlq
              have hxs := hx.size
              have hll := hx.len_le
              by_cases h3 : most < (li : Int)
              · have hv : V = 12 := by
                  rw [HV.out, if_pos]
                  rw [List.any_eq_true]
                  exact ⟨x, List.mem_of_getElem? hg, by simp; omega⟩
                have HF := hid hv
                clear hv hg ht hx hi
                go_wp2_with fail
                go_ret
                exact ⟨by rw [HF.out]; rfl, hb1⟩
              · have HI : Hid ((L.take (q + 1)).any (fun x => decide (most < (x.length : Int))) = false) := by
                  unfold Hid
                  rw [ht, List.any_append, hi.out]
                  simp; omega
                clear hg ht hx hi
                go_wp2_with fail
                go_round
                case rel => exact ⟨q + 1, by omega, by go_num, HI⟩
                case measure => simp [intOf]; omega
            · have hv : V = 0 := by
                have h := hi.out
                rw [List.take_of_length_le (by omega)] at h
                rw [HV.out, h]; rfl
              have HF := hid hv
              clear hv hi
              go_wp2_with fail
              go_ret
              exact ⟨by rw [HF.out]; rfl, hb1⟩
end Go.Proofs.Ytbhmhpcabppgmaa
