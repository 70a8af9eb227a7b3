/-
  Contracts of the document's own functions of layer 16 (those that the translation has).
-/
import Derived.Test.YtkfmalajapojhaaR14b
import Derived.Test.YtkfmalajapojhaaD16
namespace Go.Proofs.Ytkfmalajapojhaa
open Go.RowKit
set_option linter.unusedVariables false

theorem lenB_bd {n : Int} (h : n ≤ 1099511627776) : 0 ≤ lenB n ∧ lenB n ≤ 2199023255552 := by
  unfold lenB; split <;> omega
theorem layB_len (xs : List Int) : (layB xs).length ≤ 2 * xs.length + 8 := by
  unfold layB fill4 bareB
  rw [List.length_append, List.length_replicate, List.length_map, v64_len]
  omega
theorem ref16_Lines (n : Int) (w : World) (hn : n ≤ 1099511627776) :
    Calls Try.prog 13 #[.int .i64 n] w fun e w' => e = .returned (.int .i64 (lineN n)) ∧ w = w' := by
  have hb := lenB_bd hn
  have hE : Hid ((lenB n + 76 - 1) / 76 = lineN n) := by unfold Hid lineN; congr 1; omega
  have h0 : 0 ≤ lenB n + 76 - 1 := by omega
  go_enter Try.func13, Try.ntmps13
  go_wp2_with (go_at_call 25; (with_reducible refine (ref14_Len _ _ hn).mono ?_); rintro e w4 ⟨rfl, rfl⟩)
  go_ret
  exact ⟨ret_int hE.out, rfl⟩
theorem ref16_Len (n : Int) (w : World) (hn : n ≤ 1099511627776) :
    Calls Try.prog 14 #[.int .i64 n] w fun e w' => e = .returned (.int .i64 (wlenN n)) ∧ w = w' := by
  have hb := lenB_bd hn
  have hl : 0 ≤ lineN n ∧ lineN n ≤ 2199023255552 := by unfold lineN; omega
  have hE : Hid (lenB n + 2 * lineN n = wlenN n) := rfl
  go_enter Try.func14, Try.ntmps14
  go_wp2_with (first
    | (go_at_call 25; (with_reducible refine (ref14_Len _ _ hn).mono ?_); rintro e w4 ⟨rfl, rfl⟩)
    | (go_at_call 13; (with_reducible refine (ref16_Lines _ _ hn).mono ?_); rintro e w4 ⟨rfl, rfl⟩))
  go_ret
  exact ⟨ret_int hE.out, rfl⟩
set_option maxHeartbeats 2000000 in
theorem ref16_Lay (a : Option Addr) (len cap : Nat) (xs : List Int) (w : World) (hr : Reads .u8 w a len cap xs) (hN : len < 10000000) :
    Calls Try.prog 10 #[.slice a len cap] w fun e w' => ∃ v, e = .returned v ∧ Own .u8 5 w.heap.size w' v (wrapL (layB xs)) ∧ Below w.heap.size w w' := by
  have HR := hid hr
  have hsz := hr.size
  clear hr
  have hcl := layB_len xs
  rw [hsz] at hcl
  obtain ⟨c, hc⟩ : ∃ c, c = layB xs := ⟨_, rfl⟩
  rw [← hc] at hcl ⊢
  have HC := hid hc
  clear hc
  obtain ⟨n, hn⟩ : ∃ n, n = c.length := ⟨_, rfl⟩
  have HN := hid hn
  have hn2 : n ≤ 2 * len + 8 := by rw [hn]; exact hcl
  clear hn hcl
  go_enter Try.func10, Try.ntmps10
  go_wp2_with (go_at_call 23; (with_reducible refine (ref14_Lay _ _ _ _ _ HR.out (by omega)).mono ?_); rintro e w1 ⟨v1, rfl, ho1, hb1⟩; rw [← HC.out] at ho1; obtain ⟨a1, c1, hv1, hr1⟩ := ho1.reads; rw [← HN.out] at hv1 hr1; subst hv1)
  have H1 := hid hr1
  clear hr1
  go_loopw [4, 5] (fun v i wr => ∃ k : Nat, ∃ L : List Int, k ≤ n ∧ i = .int .i64 k ∧ Hid (L = if k = n then wrapL c else preW c k) ∧ Own .u8 5 w1.heap.size wr v L ∧ Below w1.heap.size w1 wr) (fun _ i _ => n - (intOf i).toNat)
  case atStart =>
    refine ⟨0, [], Nat.zero_le _, rfl, ?_, Own.nil _ _ _ _, Below.refl _ _⟩
    unfold Hid
    split
    · rename_i h
      rw [wrap_full (by rw [← HN.out, ← h]), ← HN.out, ← h]; rfl
    · rfl
  case round =>
    obtain ⟨k, L, hk, rfl, hL, hown, hbel⟩ := hrel
    by_cases hlt : k < n
    · obtain ⟨b, off, x, rfl, _, hcell, h0, h1, hx⟩ := (H1.out.below hbel).get8 hlt
      have hLe := hL.out
      rw [if_neg (by omega)] at hLe
      have hll : L.length ≤ 78 * (k / 76) + 76 := by rw [hLe]; exact preW_len c k
      by_cases h75 : k % 76 = 75
      · have h75i : ((k : Int) % 76 == 75) = true := by rw [beq_iff_eq]; omega
        have e1 : Hid (L ++ [x] ++ [13, 10] = if k + 1 = n then wrapL c else preW c (k + 1)) := by
          unfold Hid
          rw [hLe, preW_full h75 hx.out.1]
          split
          · rename_i h
            rw [wrap_full (by rw [← HN.out, ← h]; omega), ← HN.out, ← h]
          · rfl
        clear hLe h75
        go_wp2_with (first
          | (at_builtin; (refine wpList_push ST8 rfl _ _ rfl rfl ⟨_, rfl⟩ hown hbel (by omega) (mk_u8 h0 h1) ?_); intro v2 w2 ho2 hb2)
          | (at_builtin; (refine wpList_pushs ST8 [13, 10] rfl _ _ rfl rfl ⟨_, rfl⟩ ho2 hb2 (by simp; omega) (by decide) ?_); intro v3 w3 ho3 hb3))
        rw [e1.out] at ho3
        clear hown hbel ho2 hb2
        go_wp2_with fail
        go_roundw
        case rel => exact ⟨k + 1, _, by omega, by go_num, rfl, ho3, hb3⟩
        case measure => simp [intOf]; omega
      · have h75i : ((k : Int) % 76 == 75) = false := by rw [beq_eq_false_iff_ne]; omega
        by_cases hl : k + 1 = n
        · have hli : ((k : Int) == (n : Int) - 1) = true := by rw [beq_iff_eq]; omega
          have e1 : Hid (L ++ [x] ++ [13, 10] = if k + 1 = n then wrapL c else preW c (k + 1)) := by
            unfold Hid
            rw [hLe, if_pos hl, wrap_last h75 hx.out.1 (by rw [hl]; exact HN.out)]
          clear hLe h75
          go_wp2_with (first
            | (at_builtin; (refine wpList_push ST8 rfl _ _ rfl rfl ⟨_, rfl⟩ hown hbel (by omega) (mk_u8 h0 h1) ?_); intro v2 w2 ho2 hb2)
            | (at_builtin; (refine wpList_pushs ST8 [13, 10] rfl _ _ rfl rfl ⟨_, rfl⟩ ho2 hb2 (by simp; omega) (by decide) ?_); intro v3 w3 ho3 hb3))
          rw [e1.out] at ho3
          clear hown hbel ho2 hb2
          go_wp2_with fail
          go_roundw
          case rel => exact ⟨k + 1, _, by omega, by go_num, rfl, ho3, hb3⟩
          case measure => simp [intOf]; omega
        · have hli : ((k : Int) == (n : Int) - 1) = false := by rw [beq_eq_false_iff_ne]; omega
          have e1 : Hid (L ++ [x] = if k + 1 = n then wrapL c else preW c (k + 1)) := by
            unfold Hid
            rw [hLe, if_neg hl, preW_step h75 hx.out.1]
          clear hLe h75
          go_wp2_with (at_builtin; (refine wpList_push ST8 rfl _ _ rfl rfl ⟨_, rfl⟩ hown hbel (by omega) (mk_u8 h0 h1) ?_); intro v2 w2 ho2 hb2)
          rw [e1.out] at ho2
          clear hown hbel
          go_wp2_with fail
          go_roundw
          case rel => exact ⟨k + 1, _, by omega, by go_num, rfl, ho2, hb2⟩
          case measure => simp [intOf]; omega
    · obtain rfl : k = n := by omega
      have hLe := hL.out
      rw [if_pos rfl] at hLe
      rw [hLe] at hown
      clear hLe
      go_wp2_with fail
      go_ret
      exact ⟨_, rfl, own_mono hown hb1.size, below_then hb1 hbel⟩
theorem drop_on {xs : List Int} {k : Nat} {x : Int} (h : xs[k]? = some x) : xs.drop k = x :: xs.drop (k + 1) := by
  have hk : k < xs.length := (List.getElem?_eq_some_iff.1 h).1
  have e : xs[k] = x := (List.getElem?_eq_some_iff.1 h).2
  rw [List.drop_eq_getElem_cons hk, e]
theorem head_at (xs : List Int) (k : Nat) : (xs.drop k).head? = xs[k]? := by rw [List.head?_drop]
set_option maxHeartbeats 4000000 in
theorem ref16_Check (a : Option Addr) (len cap : Nat) (xs : List Int) (w : World) (hr : Reads .u8 w a len cap xs) (hN : len < 1000000) :
    Calls Try.prog 15 #[.slice a len cap] w fun e w' => ∃ v, e = .returned (.tuple #[v, .int .i64 (chkE xs)]) ∧ Own .u8 5 w.heap.size w' v (chkL xs) ∧ Below w.heap.size w w' := by
  have HR := hid hr
  have hsz := hr.size
  clear hr
  go_enter Try.func15, Try.ntmps15
  go_wp2
  go_loopw [4, 5, 6] (fun v l i wr => ∃ k m : Nat, ∃ C : List Int, k ≤ len ∧ i = .int .i64 k ∧ l = .int .i64 m ∧ m ≤ 76 ∧ C.length ≤ k ∧ Hid (chk (xs.drop k) m C = chk xs 0 []) ∧ Own .u8 5 w.heap.size wr v C ∧ Below w.heap.size w wr) (fun _ _ i _ => len - (intOf i).toNat)
  case atStart => exact ⟨0, 0, [], Nat.zero_le _, rfl, rfl, Nat.zero_le _, Nat.zero_le _, rfl, Own.nil _ _ _ _, Below.refl _ _⟩
  case round =>
    obtain ⟨k, m, C, hk, rfl, rfl, hm, hCl, hn, hown, hbel⟩ := hrel
    by_cases hlt : k < len
    · obtain ⟨b, off, x, rfl, _, hc, h0, h1, hx⟩ := (HR.out.below hbel).get8 hlt
      have hd := hn.out
      rw [drop_on hx.out.1] at hd
      by_cases hcr : x = 13 ∧ xs[k + 1]? = some 10
      · obtain ⟨rfl, hy⟩ := hcr
        have hk1 : k + 1 < len := by rw [← hsz]; exact (List.getElem?_eq_some_iff.1 hy).1
        rw [drop_on hy, chk_line ⟨rfl, rfl⟩] at hd
        have hcy : wr.cell? ⟨b, off + (k + 1), none⟩ = some (.int .u8 10) := by
          obtain ⟨b2, off2, y, hA, _, hc2, _, _, hx2⟩ := (HR.out.below hbel).get8 hk1
          cases hA
          have := hx2.out.1
          rw [hy] at this
          rw [hc2, Option.some.inj this]
        by_cases hm0 : m = 0
        · subst hm0
          rw [if_pos rfl] at hd
          have HE : Hid (chkE xs = 3 ∧ chkL xs = []) := by unfold Hid chkE chkL; rw [← hd]; exact ⟨rfl, rfl⟩
          clear hd hn hy
          go_wp2_with fail
          go_ret2
          exact ⟨_, by rw [HE.out.1]; rfl, by rw [HE.out.2]; exact Own.nil _ _ _ _, hbel⟩
        · rw [if_neg hm0] at hd
          have HD := hid hd
          clear hd hn hy
          go_wp2_with fail
          go_roundw
          case rel => exact ⟨k + 2, 0, C, by omega, by go_num, rfl, by omega, by omega, HD.out, hown, hbel⟩
          case measure => simp [intOf]; omega
      · rw [chk_on (by rw [head_at]; exact hcr)] at hd
        have hE1 : 76 < m + 1 → Hid (chkE xs = 12 ∧ chkL xs = []) := by
          intro h
          rw [if_pos h] at hd
          unfold Hid chkE chkL; rw [← hd]; exact ⟨rfl, rfl⟩
        have hE2 : ¬ 76 < m + 1 → Hid (chk (xs.drop (k + 1)) (m + 1) (C ++ [x]) = chk xs 0 []) := by
          intro h
          rw [if_neg h] at hd
          exact hd
        have HE1 := hid hE1
        have HE2 := hid hE2
        clear hE1 hE2 hd hn
        have hx13 : (x == 13) = true ∨ (x == 13) = false := by cases x == 13 <;> simp
        have hCl2 : (C ++ [x]).length ≤ k + 1 := by rw [List.length_append]; simp only [List.length_cons, List.length_nil]; omega
        have key : (x == 13) = false ∨ ((x == 13) = true ∧ ¬ k + 1 < len) ∨ ((x == 13) = true ∧ k + 1 < len ∧ ∃ y, wr.cell? ⟨b, off + (k + 1), none⟩ = some (.int .u8 y) ∧ (y == 10) = false) := by
          rcases hx13 with h | h
          · by_cases hk1 : k + 1 < len
            · refine .inr (.inr ⟨h, hk1, ?_⟩)
              obtain ⟨b2, off2, y, hA, _, hc2, _, _, hx2⟩ := (HR.out.below hbel).get8 hk1
              cases hA
              refine ⟨y, hc2, ?_⟩
              rw [beq_eq_false_iff_ne]
              rintro rfl
              exact hcr ⟨by simpa using h, hx2.out.1⟩
            · exact .inr (.inl ⟨h, hk1⟩)
          · exact .inl h
        clear hcr hx13
        by_cases hm76 : m = 76
        · have HE := HE1.out (by omega)
          clear HE1 HE2
          rcases key with hb | ⟨hb, hk1⟩ | ⟨hb, hk1, y, hcy, hby⟩
          all_goals
            go_wp2_with (at_builtin; go_must (refine wpList_push ST8 rfl _ _ rfl rfl ⟨_, rfl⟩ hown hbel (by omega) (mk_u8 h0 h1) ?_); intro v' w' ho2 hb3)
            go_wp2_with fail
            go_ret2
            exact ⟨_, by rw [HE.out.1]; rfl, by rw [HE.out.2]; exact Own.nil _ _ _ _, hb3⟩
        · have HE := HE2.out (by omega)
          have hm76' : m < 76 := by omega
          clear HE1 HE2
          rcases key with hb | ⟨hb, hk1⟩ | ⟨hb, hk1, y, hcy, hby⟩
          all_goals
            go_wp2_with (at_builtin; go_must (refine wpList_push ST8 rfl _ _ rfl rfl ⟨_, rfl⟩ hown hbel (by omega) (mk_u8 h0 h1) ?_); intro v' w' ho2 hb3)
            clear hown hbel
            go_wp2_with fail
            go_roundw
            case rel => exact ⟨k + 1, m + 1, _, by omega, by go_num, by go_num, by omega, hCl2, HE.out, ho2, hb3⟩
            case measure => simp [intOf]; omega
    · have hd := hn.out
      rw [List.drop_of_length_le (by omega), chk] at hd
      by_cases hm0 : 0 < m
      · rw [if_pos hm0] at hd
        have HE : Hid (chkE xs = 4 ∧ chkL xs = []) := by unfold Hid chkE chkL; rw [← hd]; exact ⟨rfl, rfl⟩
        clear hd hn
        go_wp2_with fail
        go_ret2
        exact ⟨_, by rw [HE.out.1]; rfl, by rw [HE.out.2]; exact Own.nil _ _ _ _, hbel⟩
      · rw [if_neg hm0] at hd
        obtain ⟨a1, c1, hv1, hr1⟩ := hown.reads
        obtain ⟨n1, hn1⟩ : ∃ n1, n1 = C.length := ⟨_, rfl⟩
        rw [← hn1] at hv1 hr1 hCl
        clear hn1
        subst hv1
        have hRd := ref14_Read a1 n1 c1 C wr hr1 (by omega)
        by_cases hC : codE C = 0
        · rw [if_pos hC] at hd
          have HE : Hid (chkE xs = 0 ∧ chkL xs = C) := by unfold Hid chkE chkL; rw [← hd]; exact ⟨rfl, rfl⟩
          rw [hC] at hRd
          have HRd := hid hRd
          clear hd hn hRd hC
          go_wp2_with (go_at_call 17; (with_reducible refine HRd.out.mono ?_); rintro e w2 ⟨v2, rfl, ho2, hb2⟩)
          go_ret2
          exact ⟨_, by rw [HE.out.1]; rfl, by rw [HE.out.2]; exact hown.below hb2, below_then hbel hb2⟩
        · rw [if_neg hC] at hd
          have HE : Hid (chkE xs = codE C ∧ chkL xs = []) := by unfold Hid chkE chkL; rw [← hd]; exact ⟨rfl, rfl⟩
          have HRd := hid hRd
          have hCb : (codE C != 0) = true := by simpa using hC
          clear hd hn hRd
          go_wp2_with (go_at_call 17; (with_reducible refine HRd.out.mono ?_); rintro e w2 ⟨v2, rfl, ho2, hb2⟩)
          go_ret2
          exact ⟨_, by rw [HE.out.1]; rfl, by rw [HE.out.2]; exact Own.nil _ _ _ _, below_then hbel hb2⟩
end Go.Proofs.Ytkfmalajapojhaa
