/-
  Texts of ours laid together: R23.
-/
import Derived.Test.YtiacijodoojgoaaDoorZ29

/-! R23 -/
namespace Go.Proofs.YtiacijodoojgoaaDoor
open Go.RowKit
set_option linter.unusedVariables false

theorem runOk_of {d : List Int} (h : d.all isDig = true) : runOk d = (decide (errP (usigs (uniD d)) = 0) && (decide ((vlD d).length % 16 < 6) && decide (numL (restD (vlD d)) = 0))) := by
  unfold runOk lftB
  rw [h, Bool.true_and]
  congr 1
  rw [Bool.eq_iff_iff]
  simp only [Bool.not_eq_true', Bool.or_eq_false_iff, Bool.and_eq_true, decide_eq_true_eq, decide_eq_false_iff_not]
  omega
theorem run_none {d : List Int} (h : d.all isDig = false) : runT d = [] ∧ runOk d = false := by
  have e : vlD d = [] := by unfold vlD; rw [h]; rfl
  refine ⟨?_, ?_⟩
  · unfold runT uniD
    rw [e]
    simp [parts, utxt, usigs_nil]
  · unfold runOk; rw [h]; rfl
set_option maxHeartbeats 1000000 in
theorem ref23_number (a : Option Addr) (len cap : Nat) (xs : List Int) (w : World) (hr : Reads .i64 w a len cap xs) (hb : ∀ b ∈ xs, b = 0 ∨ b = 1) (hN : len ≤ 16) :
    Calls Tryd.prog 47 #[.slice a len cap] w fun e w' => e = .returned (.int .i64 (numL xs)) ∧ w = w' := by
  have HR := hid hr
  have hsz := hr.size
  have HB := hid hb
  clear hr hb
  go_enter Tryd.func47, Tryd.ntmps47
  go_wp2
  go_loop [3, 4] (fun s i => ∃ k : Nat, ∃ m : Int, k ≤ len ∧ i = .int .i64 k ∧ s = .int .i64 m ∧ 0 ≤ m ∧ m ≤ 65535 ∧ Hid (m = numL (xs.take k))) (fun _ i => len - (intOf i).toNat)
  case atStart => exact ⟨0, 0, Nat.zero_le _, rfl, rfl, by omega, by omega, rfl⟩
  case round =>
    obtain ⟨k, m, hk, rfl, rfl, h0, h1, hn⟩ := hrel
    by_cases hlt : k < len
    · obtain ⟨b, off, x, rfl, _, hc, hx⟩ := HR.out.get hlt
      have h01 := HB.out x (List.mem_of_getElem? hx.out.1)
      have hq := num_bd16 (l := xs.take (k + 1)) (fun b hb => HB.out b (List.mem_of_mem_take hb)) (by rw [List.length_take]; omega)
      rw [num_snoc hx.out.2.1, ← hn.out] at hq
      have hS : Hid (2 * m + x = numL (xs.take (k + 1))) := by unfold Hid; rw [num_snoc hx.out.2.1, ← hn.out]
      go_wp2
      go_round
      case rel => exact ⟨k + 1, 2 * m + x, by omega, by go_num, by go_num, hq.1, hq.2, hS⟩
      case measure => simp [intOf]; omega
    · go_wp2
      go_ret
      exact ⟨ret_int (by rw [hn.out, HR.out.all (show len ≤ k by omega)]), rfl⟩
set_option maxHeartbeats 1000000 in
theorem ref23_digit (a : Option Addr) (len cap : Nat) (xs : List Int) (w : World) (hr : Reads .u8 w a len cap xs) (n : Nat) (i : Int) (hi : i = n) :
    Calls Tryd.prog 49 #[.slice a len cap, .int .i64 i] w fun e w' => e = .returned (.bool (hdB isDig (xs.drop n))) ∧ w = w' := by
  subst hi
  have HR := hid hr
  have hsz := hr.size
  have hl := hr.len_le
  clear hr
  by_cases hlt : n < len
  · obtain ⟨b, off, x, rfl, _, hc, h0, h1, hx⟩ := HR.out.get8 hlt
    have e : xs.drop n = x :: xs.drop (n + 1) := drop_at hx.out.1
    have HV := hid (ref14_Value x w h0 h1)
    rw [e, show hdB isDig (x :: xs.drop (n + 1)) = isDig x from rfl]
    clear e
    go_enter Tryd.func49, Tryd.ntmps49
    go_wp2_with (go_at_call 40; (with_reducible refine HV.out.mono ?_); rintro e w4 ⟨rfl, rfl⟩)
    go_ret
    exact ⟨rfl, rfl⟩
  · rw [List.drop_of_length_le (by omega), show hdB isDig [] = false from rfl]
    go_enter Tryd.func49, Tryd.ntmps49
    go_wp2_with fail
    go_ret
    exact ⟨rfl, rfl⟩
set_option maxHeartbeats 2000000 in
theorem ref23_left (a : Option Addr) (len cap : Nat) (xs : List Int) (w : World) (hr : Reads .u8 w a len cap xs) (hN : len < 10000000) :
    Calls Tryd.prog 50 #[.slice a len cap] w fun e w' => e = .returned (.bool (lftB (vlD xs))) ∧ Below w.heap.size w w' := by
  have hV := ref14_Values a len cap xs w hr (by omega)
  rw [show valsL xs = vlD xs from rfl] at hV
  have HV := hid hV
  have h01 := vlD_01 xs
  have hln := vlD_len xs
  rw [hr.size] at hln
  generalize vlD xs = L at HV h01 hln ⊢
  obtain ⟨n, hn⟩ : ∃ n, n = L.length := ⟨_, rfl⟩
  obtain ⟨t, ht⟩ : ∃ t, t = n / 16 := ⟨_, rfl⟩
  have hE : lftB L = (decide (6 ≤ n - 16 * t) || decide (numL (L.drop (16 * t)) ≠ 0)) := by
    unfold lftB restD
    rw [← hn, ← ht, show n % 16 = n - 16 * t by omega]
  rw [hE]
  have hdiv : (n : Int).tdiv 16 = t := by rw [Int.tdiv_eq_ediv_of_nonneg (by omega)]; omega
  have g1 : IntKind.i64.wrap (t : Int) = t := IntWalk.i64_in _ (by omega)
  have g2 : IntKind.i64.wrap ((t : Int) * 16) = ((16 * t : Nat) : Int) := by rw [show (t : Int) * 16 = ((16 * t : Nat) : Int) by omega]; exact IntWalk.i64_in _ (by omega)
  have g3 : IntKind.i64.wrap ((n : Int) - ((16 * t : Nat) : Int)) = ((n - 16 * t : Nat) : Int) := by rw [show (n : Int) - ((16 * t : Nat) : Int) = ((n - 16 * t : Nat) : Int) by omega]; exact IntWalk.i64_in _ (by omega)
  have hr16 : n - 16 * t ≤ 15 := by omega
  have hle : 16 * t ≤ n := by omega
  have HQ : Hid (∀ b ∈ L.drop (16 * t), b = 0 ∨ b = 1) := fun b hb => h01 b (List.mem_of_mem_drop hb)
  have HN := hid hn
  clear hV hr h01 hE hn ht
  by_cases h6 : 6 ≤ n - 16 * t
  · have h6' : (6 : Int) ≤ ((n - 16 * t : Nat) : Int) := by omega
    rw [decide_eq_true h6, Bool.true_or]
    clear h6
    go_enter Tryd.func50, Tryd.ntmps50
    go_wp2_with (go_at_call 46; (with_reducible refine HV.out.mono ?_); rintro e w1 ⟨v1, rfl, o1, h1⟩; obtain ⟨a1, c1, rfl, r1⟩ := o1.reads; rw [← HN.out] at r1; rw [← HN.out])
    go_ret
    exact ⟨rfl, h1⟩
  · have h6' : ¬ (6 : Int) ≤ ((n - 16 * t : Nat) : Int) := by omega
    rw [decide_eq_false h6, Bool.false_or]
    clear h6
    go_enter Tryd.func50, Tryd.ntmps50
    go_wp2_with (first
      | (go_at_call 46; (with_reducible refine HV.out.mono ?_); rintro e w1 ⟨v1, rfl, o1, h1⟩; obtain ⟨a1, c1, rfl, r1⟩ := o1.reads; rw [← HN.out] at r1; rw [← HN.out]; have HP := hid (r1.piece (l := 16 * t) (r := n) hle (Nat.le_refl _)); have hT := HP.out; rw [List.take_of_length_le (Nat.le_of_eq HN.out.symm)] at hT; have HP := hid hT; clear hT; have hroom := r1.room; have hlt : ((16 * t : Nat) : Int) ≤ (c1 : Int) := by omega)
      | (go_at_call 47; (with_reducible refine (ref23_number _ _ _ _ _ HP.out HQ.out (by omega)).mono ?_); rintro e w2 ⟨rfl, rfl⟩))
    all_goals
      go_ret
      exact ⟨ret_bool (by rw [decide_eq_false (show ¬ (6 : Int) ≤ (n : Int) - 16 * (t : Int) by omega), Bool.eq_iff_iff]; simp), h1⟩
set_option maxHeartbeats 4000000 in
theorem ref23_Run (a : Option Addr) (len cap : Nat) (xs : List Int) (w : World) (hr : Reads .u8 w a len cap xs) (hN : len < 10000000) :
    Calls Tryd.prog 32 #[.slice a len cap] w fun e w' => ∃ a' m c', e = .returned (.tuple #[.slice a' m c', .bool (runOk xs), .bool (xs.all isDig)]) ∧ Reads .i32 w' a' m c' (runT xs) ∧ Below w.heap.size w w' := by
  have hV := ref14_Values a len cap xs w hr (by omega)
  rw [show valsL xs = vlD xs from rfl] at hV
  cases hd : xs.all isDig
  · rw [hd] at hV
    have HV := hid hV
    obtain ⟨e1, e2⟩ := run_none hd
    rw [e1, e2]
    clear hV hr e1 e2 hd
    go_enter Tryd.func32, Tryd.ntmps32
    go_wp2_with (go_at_call 46; (with_reducible refine HV.out.mono ?_); rintro e w1 ⟨v1, rfl, o1, h1⟩)
    go_ret3
    exact ⟨none, 0, 0, rfl, Reads.nil _ _ _ _ (Nat.zero_le _), h1⟩
  · rw [hd] at hV
    have hok := runOk_of hd
    have hub := uniD_bd xs
    have hul := uniD_len xs
    unfold runT
    unfold uniD at hok hub hul ⊢
    have h01 := vlD_01 xs
    have hln := vlD_len xs
    rw [hr.size] at hln hul
    have HV := hid hV
    clear hV hr hd
    generalize vlD xs = L at HV h01 hln hok hub hul ⊢
    obtain ⟨n, hn⟩ : ∃ n, n = L.length := ⟨_, rfl⟩
    obtain ⟨M, hM⟩ : ∃ M, M = n / 16 := ⟨_, rfl⟩
    have hE : Hid (parts 16 numL L = (List.range M).map (fun t => numL ((L.drop (t * 16)).take 16))) := by
      unfold Hid parts
      rw [← hn, hM]
    have hrest : restD L = L.drop (16 * M) := by unfold restD; rw [← hn, hM]
    rw [hrest, ← hn, show n % 16 = n - 16 * M by omega] at hok
    generalize hU : parts 16 numL L = U at hE hok hub hul ⊢
    generalize runOk xs = OK at hok ⊢
    have hM1 : 16 * M ≤ n := by omega
    have hM2 : n < 16 * M + 16 := by omega
    rw [← hn] at hln
    have HN := hid hn
    have H01 := hid h01
    have HUB := hid hub
    have HOK := hid hok
    clear hn hM hrest hU h01 hub hok
    go_enter Tryd.func32, Tryd.ntmps32
    go_wp2_with (go_at_call 46; (with_reducible refine HV.out.mono ?_); rintro e w1 ⟨v1, rfl, o1, h1⟩; obtain ⟨a1, c1, rfl, r1⟩ := o1.reads; rw [← HN.out] at r1; rw [← HN.out]; have HL := hid r1; have hroom := r1.room; clear o1 r1 HV)
    go_loopw [7, 8] (fun v i w2 => ∃ t : Nat, t ≤ M ∧ i = .int .i64 ((16 * t : Nat) : Int) ∧ Own .u16 72 w1.heap.size w2 v ((List.range t).map (fun t => numL ((L.drop (t * 16)).take 16))) ∧ Below w1.heap.size w1 w2) (fun _ i _ => 16 * M - (intOf i).toNat)
    case atStart => exact ⟨0, Nat.zero_le _, rfl, Own.nil _ _ _ _, Below.refl _ _⟩
    case round =>
      obtain ⟨t, ht, rfl, hown2, hbel2⟩ := hrel
      by_cases htM : t < M
      · have hpc := (HL.out.below hbel2).piece (l := 16 * t) (r := 16 * t + 16) (by omega) (by omega)
        have hne : ¬ c1 = 16 * t := by omega
        have hle : 16 * t + 16 ≤ n := by omega
        rw [if_neg hne, List.drop_take, show 16 * t + 16 - 16 * t = 16 by omega] at hpc
        have hq01 : ∀ b ∈ (L.drop (16 * t)).take 16, b = 0 ∨ b = 1 := fun b hb => H01.out b (List.mem_of_mem_drop (List.mem_of_mem_take hb))
        have hbd := num_bd16 hq01 (by rw [List.length_take]; omega)
        have hwf := hid (mk_u16 hbd.1 hbd.2)
        have HPC := hid hpc
        have HQ := hid hq01
        clear hpc hq01
        have e1 := parts_snoc 16 numL L t
        rw [Nat.mul_comm t 16] at e1
        have E1 := hid e1
        clear e1
        have hmod : numL ((L.drop (16 * t)).take 16) % 65536 = numL ((L.drop (16 * t)).take 16) := by omega
        go_wp2_with (first
          | (go_at_call 47; (with_reducible refine (ref23_number _ _ _ _ _ HPC.out HQ.out (by omega)).mono ?_); rintro e w4 ⟨rfl, rfl⟩)
          | (at_builtin; go_must (refine wpList_push ST16 rfl _ _ rfl rfl ⟨_, rfl⟩ hown2 hbel2 (by simp; omega) hwf.out ?_); intro v' w' ho2 hb3))
        rw [← E1.out] at ho2
        clear hown2 hbel2
        go_wp2
        go_roundw
        case rel => exact ⟨t + 1, by omega, by go_num, ho2, hb3⟩
        case measure => simp [intOf]; omega
      · obtain rfl : t = M := by omega
        rw [← hE.out] at hown2
        have hlt : ¬ 16 * t + 16 ≤ n := by omega
        have hsl : ((16 * t : Nat) : Int) ≤ (c1 : Int) := by omega
        obtain ⟨a3, c3, rfl, r3⟩ := hown2.reads
        have HR3 := hid (ref06_Read a3 U.length c3 U wr r3 (by omega))
        have hb0 := below_then h1 hbel2
        have HP := hid (fun W (hb : Below wr.heap.size wr W) => ((HL.out.below hbel2).below hb).piece (l := 16 * t) (r := n) hM1 (Nat.le_refl _))
        have hLn : L.take n = L := List.take_of_length_le (Nat.le_of_eq HN.out.symm)
        have HQ : Hid (∀ b ∈ L.drop (16 * t), b = 0 ∨ b = 1) := fun b hb => H01.out b (List.mem_of_mem_drop hb)
        rw [hLn] at HP
        have hok := HOK.out
        have g3 : IntKind.i64.wrap ((n : Int) - ((16 * t : Nat) : Int)) = ((n - 16 * t : Nat) : Int) := by rw [show (n : Int) - ((16 * t : Nat) : Int) = ((n - 16 * t : Nat) : Int) by omega]; exact IntWalk.i64_in _ (by omega)
        clear HOK hE HUB HN H01 hown2 r3 hLn HL
        by_cases he : errP (usigs U) = 0
        · have he' : (errP (usigs U) == 0) = true := by simpa using he
          rw [decide_eq_true he, Bool.true_and] at hok
          by_cases h6 : n - 16 * t < 6
          · rw [decide_eq_true h6, Bool.true_and] at hok
            have h6' : ((n - 16 * t : Nat) : Int) < 6 := by omega
            have hok2 := hid hok
            clear hok he h6
            go_wp2_with (first
              | (go_at_call 48; (with_reducible refine HR3.out.mono ?_); rintro e w4 ⟨a4, c4, rfl, r4, h4⟩; have HP4 := hid (HP.out _ h4))
              | (go_at_call 47; (with_reducible refine (ref23_number _ _ _ _ _ HP4.out HQ.out (by omega)).mono ?_); rintro e w5 ⟨rfl, rfl⟩))
            all_goals
              go_ret3
              exact ⟨_, _, _, by rw [hok2.out]; rfl, r4, below_then hb0 h4⟩
          · rw [decide_eq_false h6, Bool.false_and] at hok
            have h6' : ¬ ((n - 16 * t : Nat) : Int) < 6 := by omega
            have hok2 := hid hok
            clear hok he h6
            go_wp2_with (first
              | (go_at_call 48; (with_reducible refine HR3.out.mono ?_); rintro e w4 ⟨a4, c4, rfl, r4, h4⟩; have HP4 := hid (HP.out _ h4)))
            go_ret3
            exact ⟨_, _, _, by rw [hok2.out]; rfl, r4, below_then hb0 h4⟩
        · have he' : (errP (usigs U) == 0) = false := by simpa using he
          rw [decide_eq_false he, Bool.false_and] at hok
          have hok2 := hid hok
          clear hok he
          go_wp2_with (first
            | (go_at_call 48; (with_reducible refine HR3.out.mono ?_); rintro e w4 ⟨a4, c4, rfl, r4, h4⟩))
          go_ret3
          exact ⟨_, _, _, by rw [hok2.out]; rfl, r4, below_then hb0 h4⟩
set_option maxRecDepth 100000 in
set_option maxHeartbeats 8000000 in
theorem ref23_Read (a : Option Addr) (len cap : Nat) (xs : List Int) (w : World) (hr : Reads .u8 w a len cap xs) (hN : len < 1000000) :
    Calls Tryd.prog 33 #[.slice a len cap] w fun e w' => ∃ v, e = .returned (.tuple #[v, .int .i64 (rd7N xs), .int .i64 (rd7E xs)]) ∧ Own .i32 21 w.heap.size w' v (rd7 xs) ∧ Below w.heap.size w w' := by
  have HR := hid hr
  have hl := hr.len_le
  have hrm := hr.room
  have hsz := hr.size
  clear hr
  have HD := hid (fun W (hb : Below w.heap.size w W) n i hi => ref23_digit a len cap xs W (HR.out.below hb) n i hi)
  go_enter Tryd.func33, Tryd.ntmps33
  go_wp2_with fail
  go_loopw [5, 6, 7, 8] (fun v n er i wr => ∃ (k j : Nat) (O : List Int) (g : Bool) (E : Int), k ≤ len ∧ i = .int .i64 k ∧ n = .int .i64 j ∧ er = .int .i64 E ∧ Hid (E = if g = true then 0 else 3) ∧ O.length ≤ k ∧ j ≤ k ∧ Hid (O ++ rd7 (xs.drop k) = rd7 xs) ∧ Hid (j + rd7N (xs.drop k) = rd7N xs) ∧ Hid ((g && ok7 (xs.drop k)) = ok7 xs) ∧ Own .i32 21 w.heap.size wr v O ∧ Below w.heap.size w wr) (fun _ _ _ i _ => len - (intOf i).toNat)
  case atStart => exact ⟨0, 0, [], true, 0, Nat.zero_le _, rfl, rfl, rfl, rfl, Nat.zero_le _, Nat.zero_le _, rfl, by unfold Hid; simp, by unfold Hid; simp, Own.nil _ _ _ _, Below.refl _ _⟩
  case round =>
    obtain ⟨k, j, O, g, E, hk, rfl, rfl, rfl, hEg, hO, hj, hT, hJ, hG, hown, hbel⟩ := hrel
    by_cases hlt : k < len
    · obtain ⟨b, off, x, hab, hbw, hcw, h0, h1, hx⟩ := HR.out.get8 hlt
      subst hab
      have hc := (hbel.cell (p := ⟨b, off + k, none⟩) hbw).trans hcw
      have hd : xs.drop k = x :: xs.drop (k + 1) := drop_at hx.out.1
      have hT' := hT.out
      have hJ' := hJ.out
      have hG' := hG.out
      rw [hd, rd7_cons] at hT'
      rw [hd, rd7N_cons] at hJ'
      rw [hd, ok7_cons] at hG'
      have hDig := HD.out _ hbel (k + 1) ((k : Int) + 1) (by omega)
      have hrest : xs.drop (k + 1) = xs.drop (k + 1) := rfl
      by_cases h127 : 127 < x
      · have h43 : x ≠ 43 := by omega
        have e1 : u7 (x :: xs.drop (k + 1)) = ([65533], false, false) := by rw [u7, if_pos h127]
        have e2 : nx7 (x :: xs.drop (k + 1)) = 1 := by rw [nx7, if_pos h43]
        rw [e1, e2] at hT' hJ' hG'
        have HT := hid (show O ++ [65533] ++ rd7 (xs.drop (k + 1)) = rd7 xs by rw [List.append_assoc]; exact hT')
        have HJ := hid (show j + rd7N (xs.drop (k + 1)) = rd7N xs by rw [← hJ']; simp)
        have HG := hid (show (false && ok7 (xs.drop (k + 1))) = ok7 xs by rw [← hG']; cases g <;> rfl)
        clear hT hJ hG hT' hJ' hG' hd e1 e2 hDig hrest
        go_wp2_with (at_builtin; go_must (refine wpList_push STR rfl _ _ rfl rfl ⟨_, rfl⟩ hown hbel (by omega) (by decide) ?_); intro v3 w3 ho3 hb3)
        clear hown hbel
        go_wp2_with fail
        go_roundw
        case rel => exact ⟨k + 1, j, _, false, 3, by omega, by go_num, rfl, rfl, rfl, by simp; omega, by omega, HT, HJ, HG, ho3, hb3⟩
        case measure => simp [intOf]; omega
      · by_cases h43 : x = 43
        · subst h43
          have hDig := HD.out _ hbel (k + 1) ((k : Int) + 1) (by omega)
          cases hdig : hdB isDig (xs.drop (k + 1))
          · rw [hdig] at hDig
            cases h45 : hdB is45 (xs.drop (k + 1))
            · have e1 : u7 (43 :: xs.drop (k + 1)) = ([43], false, false) := by rw [u7, if_neg h127, if_neg (by decide), if_neg (by rw [hdig]; decide), h45]
              have e2 : nx7 (43 :: xs.drop (k + 1)) = 1 := by rw [nx7, if_neg (by decide), if_neg (by rw [hdig]; decide), if_neg (by rw [h45]; decide)]
              rw [e1, e2] at hT' hJ' hG'
              have HT := hid (show O ++ [43] ++ rd7 (xs.drop (k + 1)) = rd7 xs by rw [List.append_assoc]; exact hT')
              have HJ := hid (show j + rd7N (xs.drop (k + 1)) = rd7N xs by rw [← hJ']; simp)
              have HG := hid (show (false && ok7 (xs.drop (k + 1))) = ok7 xs by rw [← hG']; cases g <;> rfl)
              have hK : k + 1 = len ∨ (k + 1 < len ∧ ∃ y, w.cell? ⟨b, off + (k + 1), none⟩ = some (.int .u8 y) ∧ (y == 45) = false) := by
                by_cases h : k + 1 < len
                · obtain ⟨b', off', y, hA, _, hcy, _, _, hy⟩ := HR.out.get8 h
                  cases hA
                  rw [drop_at hy.out.1] at h45
                  exact .inr ⟨h, y, hcy, by simpa [hdB, is45] using h45⟩
                · exact .inl (by omega)
              have HDg := hid hDig
              clear hT hJ hG hT' hJ' hG' hd e1 e2 hDig hrest hdig h45
              rcases hK with hK | ⟨hK, y, hcy, hy45⟩
              case' inl => have hK' : ¬ (k : Int) + 1 < (len : Int) := by omega
              case' inr =>
                have hK' : (k : Int) + 1 < (len : Int) := by omega
                have hK2 : ((k : Int) + 1).toNat = k + 1 := by omega
                have hK3 : (0 : Int) ≤ (k : Int) + 1 := by omega
              all_goals
                go_wp2_with (first
                  | (go_at_call 49; (with_reducible refine HDg.out.mono ?_); rintro e w4 ⟨rfl, rfl⟩)
                  | (at_builtin; go_must (refine wpList_push STR rfl _ _ rfl rfl ⟨_, rfl⟩ hown hbel (by omega) (by decide) ?_); intro v3 w3 ho3 hb3; try (have hc3 := (hb3.cell (p := ⟨b, off + (k + 1), none⟩) hbw).trans hcy)))
                clear hown hbel
                go_roundw
                case rel => exact ⟨k + 1, j, _, false, 3, by omega, by go_num, rfl, rfl, rfl, by simp; omega, by omega, HT, HJ, HG, ho3, hb3⟩
                case measure => simp [intOf]; omega
            · have e1 : u7 (43 :: xs.drop (k + 1)) = ([43], true, false) := by rw [u7, if_neg h127, if_neg (by decide), if_neg (by rw [hdig]; decide), h45]
              have e2 : nx7 (43 :: xs.drop (k + 1)) = 2 := by rw [nx7, if_neg (by decide), if_neg (by rw [hdig]; decide), if_pos h45]
              rw [e1, e2] at hT' hJ' hG'
              have e3 : (43 :: xs.drop (k + 1)).drop 2 = xs.drop (k + 2) := by rw [List.drop_succ_cons, List.drop_drop]
              rw [e3] at hT' hJ' hG'
              have HT := hid (show O ++ [43] ++ rd7 (xs.drop (k + 2)) = rd7 xs by rw [List.append_assoc]; exact hT')
              have HJ := hid (show j + rd7N (xs.drop (k + 2)) = rd7N xs by rw [← hJ']; simp)
              have HG := hid (show (g && ok7 (xs.drop (k + 2))) = ok7 xs by rw [← hG']; rfl)
              have hK : k + 1 < len ∧ w.cell? ⟨b, off + (k + 1), none⟩ = some (.int .u8 45) := by
                by_cases h : k + 1 < len
                · obtain ⟨b', off', y, hA, _, hcy, _, _, hy⟩ := HR.out.get8 h
                  cases hA
                  rw [drop_at hy.out.1] at h45
                  obtain rfl : y = 45 := by simpa [hdB, is45] using h45
                  exact ⟨h, hcy⟩
                · rw [List.drop_of_length_le (by omega)] at h45; cases h45
              obtain ⟨hK, hcy⟩ := hK
              have HDg := hid hDig
              clear hT hJ hG hT' hJ' hG' hd e1 e2 e3 hDig hrest hdig h45
              have hK' : (k : Int) + 1 < (len : Int) := by omega
              have hK2 : ((k : Int) + 1).toNat = k + 1 := by omega
              have hK3 : (0 : Int) ≤ (k : Int) + 1 := by omega
              go_wp2_with (first
                | (go_at_call 49; (with_reducible refine HDg.out.mono ?_); rintro e w4 ⟨rfl, rfl⟩)
                | (at_builtin; go_must (refine wpList_push STR rfl _ _ rfl rfl ⟨_, rfl⟩ hown hbel (by omega) (by decide) ?_); intro v3 w3 ho3 hb3; have hc3 := (hb3.cell (p := ⟨b, off + (k + 1), none⟩) hbw).trans hcy))
              clear hown hbel
              go_roundw
              case rel => exact ⟨k + 2, j, _, g, E, by omega, by go_num, rfl, rfl, hEg, by simp; omega, by omega, HT, HJ, HG, ho3, hb3⟩
              case measure => simp [intOf]; omega
          · rw [hdig] at hDig
            have HDg := hid hDig
            have hn1 : digN (xs.drop (k + 1)) ≤ len - (k + 1) := by have := digN_le (xs.drop (k + 1)); rw [List.length_drop] at this; omega
            have hn0 : 0 < digN (xs.drop (k + 1)) := by
              have := dig_at (xs.drop (k + 1)) 0 (Nat.zero_le _)
              rw [List.drop_zero, hdig] at this
              exact of_decide_eq_true this.symm
            have hat := hid (dig_at (xs.drop (k + 1)))
            have e1 : u7 (43 :: xs.drop (k + 1)) = (runT ((xs.drop (k + 1)).takeWhile isDig) ++ lftT ((xs.drop (k + 1)).takeWhile isDig), runOk ((xs.drop (k + 1)).takeWhile isDig), true) := by rw [u7, if_neg h127, if_neg (by decide), if_pos hdig]
            have e2 : nx7 (43 :: xs.drop (k + 1)) = 1 + digN (xs.drop (k + 1)) + (if hdB is45 ((xs.drop (k + 1)).drop (digN (xs.drop (k + 1)))) = true then 1 else 0) := by rw [nx7, if_neg (by decide), if_pos hdig]
            have htk := take_digN (xs.drop (k + 1))
            rw [e1, e2] at hT' hJ' hG'
            generalize hn : digN (xs.drop (k + 1)) = n at hn1 hn0 hat htk hT' hJ' hG'
            rw [← htk] at hT' hJ' hG'
            rw [List.drop_drop] at hT' hJ' hG'
            have hz : ∀ c : Nat, (43 :: xs.drop (k + 1)).drop (1 + n + c) = xs.drop (k + 1 + n + c) := fun c => by
              rw [show 1 + n + c = (n + c) + 1 by omega, List.drop_succ_cons, List.drop_drop, Nat.add_assoc (k + 1)]
            rw [hz] at hT' hJ' hG'
            have hp := HR.out.piece (l := k + 1) (r := k + 1 + n) (by omega) (by omega)
            rw [if_neg (by omega), Option.map_some, Addr.add_lit, List.drop_take, show k + 1 + n - (k + 1) = n by omega] at hp
            generalize (xs.drop (k + 1)).take n = D at hp hT' hJ' hG'
            have hDl := hp.size
            have hTl := runT_len D
            have HRun := hid (fun W (hb : Below w.heap.size w W) => ref23_Run _ _ _ D W (hp.below hb) (by omega))
            have HLft := hid (fun W (hb : Below w.heap.size w W) => ref23_left _ _ _ D W (hp.below hb) (by omega))
            have hDD : Hid (∀ q : Nat, q ≤ n → hdB isDig (xs.drop (k + 1 + q)) = decide (q < n)) := fun q hq => by rw [← List.drop_drop]; exact hat.out q hq
            clear hat e1 e2 hz hp hd hDig hrest hdig hn htk hT hJ hG
            have r5 : ¬ cap = k + 1 := by omega
            go_wp2_with (go_at_call 49; (with_reducible refine HDg.out.mono ?_); rintro e w4 ⟨rfl, rfl⟩)
            generalize hWW : wr = WW at *
            go_loopw [9] (fun i wr => ∃ q : Nat, q ≤ n ∧ i = .int .i64 ((k + 1 + q : Nat) : Int) ∧ wr = WW) (fun i _ => len - (intOf i).toNat)
            case atStart => exact ⟨0, Nat.zero_le _, by go_num, rfl⟩
            case round =>
              obtain ⟨q, hq, rfl, rfl⟩ := hrel
              have hDq := HD.out _ hbel (k + 1 + q) ((k + 1 + q : Nat) : Int) rfl
              rw [hDD.out q hq] at hDq
              by_cases hqn : q < n
              · have hDq := HD.out _ hbel (k + 1 + q) ((k : Int) + 1 + (q : Int)) (by omega)
                rw [hDD.out q hq, decide_eq_true hqn] at hDq
                have HDq := hid hDq
                clear hDq hT' hJ' hG'
                go_wp2_with (go_at_call 49; (with_reducible refine HDq.out.mono ?_); rintro e w4 ⟨rfl, rfl⟩)
                go_roundw
                case rel => exact ⟨q + 1, by omega, by go_num, by first | rfl | trivial⟩
                case measure => simp [intOf]; omega
              · rw [decide_eq_false hqn] at hDq
                have HDq := hid hDq
                obtain rfl : q = n := by omega
                clear hDq hDD
                have r0 : (0 : Int) ≤ ((k + 1 + q : Nat) : Int) := by omega
                have r1 : ((k + 1 + q : Nat) : Int) ≤ (cap : Int) := by omega
                have r2 : (k : Int) + 1 ≤ ((k + 1 + q : Nat) : Int) := by omega
                have r3 : ((k : Int) + 1).toNat = k + 1 := by omega
                have r7 : (0 : Int) ≤ (k : Int) + 1 := by omega
                have hK : (hdB is45 (xs.drop (k + 1 + q)) = true ∧ k + 1 + q < len ∧ w.cell? ⟨b, off + (k + 1 + q), none⟩ = some (.int .u8 45)) ∨ (hdB is45 (xs.drop (k + 1 + q)) = false ∧ (k + 1 + q = len ∨ (k + 1 + q < len ∧ ∃ y, w.cell? ⟨b, off + (k + 1 + q), none⟩ = some (.int .u8 y) ∧ (y == 45) = false))) := by
                  by_cases h : k + 1 + q < len
                  · obtain ⟨b', off', y, hA, _, hcy, _, _, hy⟩ := HR.out.get8 h
                    cases hA
                    rw [drop_at hy.out.1]
                    by_cases hy45 : y = 45
                    · subst hy45
                      exact .inl ⟨rfl, h, hcy⟩
                    · exact .inr ⟨by simpa [hdB, is45] using hy45, .inr ⟨h, y, hcy, by simpa using hy45⟩⟩
                  · exact .inr ⟨by rw [List.drop_of_length_le (by omega)]; rfl, .inl (by omega)⟩
                clear HR HD HDg hx hrm hsz h127
                generalize hm : k + 1 + q = m at *
                have r6 : m - (k + 1) = q := by omega
                have hqk : q + (k + 1) = m := by omega
                clear hm
                have hTm : (runT D).length ≤ q := by omega
                generalize runT D = T at hT' HRun hTm
                unfold lftT at hT'
                have HT' := hid hT'
                have HJ' := hid hJ'
                have HG' := hid hG'
                clear hT' hJ' hG' hTl
                cases hF : lftB (vlD D) <;> cases hOK : runOk D
                all_goals
                  rw [hF] at HT' HLft
                  rw [hOK] at HG' HRun
                  have hT' := HT'.out
                  have hJ' := HJ'.out
                  have hG' := HG'.out
                  clear HT' HJ' HG'
                  rcases hK with ⟨h45, hml, hcm⟩ | ⟨h45, hml | ⟨hml, y, hcm, hy45⟩⟩
                  all_goals
                    rw [h45] at hT' hJ' hG'
                    simp only [if_true, Bool.false_eq_true, if_false, Nat.add_zero, Bool.true_and, Bool.false_and, Bool.and_false, List.append_nil] at hT' hJ' hG'
                    have HT2 := hid hT'
                    have HJ2 := hid hJ'
                    have HG2 := hid hG'
                    clear hT' hJ' hG' h45
                    try (subst hml)
                    first
                    | (have q1 : (m : Int) < (len : Int) := by omega)
                    | (have q1 : ¬ (m : Int) < (m : Int) := by omega)
                    go_wp2_with (first
                      | (go_at_call 49; (with_reducible refine HDq.out.mono ?_); rintro e w4 ⟨rfl, rfl⟩)
                      | (go_at_call 32; (with_reducible refine (HRun.out _ hbel).mono ?_); rintro e w5 ⟨a5, m5, c5, rfl, r5', h5⟩; have ho5 := hown.below h5; have hb5 := below_then hbel h5; have hm5 := r5'.size)
                      | (go_at_call 50; (with_reducible refine (HLft.out _ hb6).mono ?_); rintro e w7 ⟨rfl, h7⟩; have ho7 := ho6.below h7; have hb7 := below_then hb6 h7; try (have hc7 := (hb7.cell (p := ⟨b, off + m, none⟩) hbw).trans hcm))
                      | (at_builtin; have hX := ho7; clear hX; go_must (refine wpList_push STR rfl _ _ rfl rfl ⟨_, rfl⟩ ho7 hb7 (by rw [List.length_append]; omega) (by decide) ?_); intro v8 w8 ho8 hb8; try (have hc8 := (hb8.cell (p := ⟨b, off + m, none⟩) hbw).trans hcm))
                      | (at_builtin; have hX := ho5; clear hX; go_must (refine wpList_more STR rfl _ _ rfl rfl rfl ho5 hb5 r5' (by omega) ?_); intro v6 w6 ho6 hb6))
                    go_roundw
                    case rel =>
                      first
                      | exact ⟨m, j + 1, _, g, E, by omega, rfl, by go_num, rfl, hEg, by simp; omega, by omega, (by have h := HT2.out; unfold Hid; rw [← h]; simp), (by have h := HJ2.out; unfold Hid; omega), HG2, ho8, hb8⟩
                      | exact ⟨m, j + 1, _, false, 3, by omega, rfl, by go_num, rfl, rfl, by simp; omega, by omega, (by have h := HT2.out; unfold Hid; rw [← h]; simp), (by have h := HJ2.out; unfold Hid; omega), HG2, ho8, hb8⟩
                      | exact ⟨m + 1, j + 1, _, g, E, by omega, by go_num, by go_num, rfl, hEg, by simp; omega, by omega, (by have h := HT2.out; unfold Hid; rw [← h]; simp), (by have h := HJ2.out; unfold Hid; omega), HG2, ho8, hb8⟩
                      | exact ⟨m + 1, j + 1, _, false, 3, by omega, by go_num, by go_num, rfl, rfl, by simp; omega, by omega, (by have h := HT2.out; unfold Hid; rw [← h]; simp), (by have h := HJ2.out; unfold Hid; omega), HG2, ho8, hb8⟩
                      | exact ⟨m, j + 1, _, g, E, by omega, rfl, by go_num, rfl, hEg, by simp; omega, by omega, (by have h := HT2.out; unfold Hid; rw [← h]; simp), (by have h := HJ2.out; unfold Hid; omega), HG2, ho7, hb7⟩
                      | exact ⟨m, j + 1, _, false, 3, by omega, rfl, by go_num, rfl, rfl, by simp; omega, by omega, (by have h := HT2.out; unfold Hid; rw [← h]; simp), (by have h := HJ2.out; unfold Hid; omega), HG2, ho7, hb7⟩
                      | exact ⟨m + 1, j + 1, _, g, E, by omega, by go_num, by go_num, rfl, hEg, by simp; omega, by omega, (by have h := HT2.out; unfold Hid; rw [← h]; simp), (by have h := HJ2.out; unfold Hid; omega), HG2, ho7, hb7⟩
                      | exact ⟨m + 1, j + 1, _, false, 3, by omega, by go_num, by go_num, rfl, rfl, by simp; omega, by omega, (by have h := HT2.out; unfold Hid; rw [← h]; simp), (by have h := HJ2.out; unfold Hid; omega), HG2, ho7, hb7⟩
                    case measure => simp [intOf]; omega
        · have e1 : u7 (x :: xs.drop (k + 1)) = ([x], true, false) := by rw [u7, if_neg h127, if_pos h43]
          have e2 : nx7 (x :: xs.drop (k + 1)) = 1 := by rw [nx7, if_pos h43]
          rw [e1, e2] at hT' hJ' hG'
          have HT := hid (show O ++ [x] ++ rd7 (xs.drop (k + 1)) = rd7 xs by rw [List.append_assoc]; exact hT')
          have HJ := hid (show j + rd7N (xs.drop (k + 1)) = rd7N xs by rw [← hJ']; simp)
          have HG := hid (show (g && ok7 (xs.drop (k + 1))) = ok7 xs by rw [← hG']; rfl)
          have hne : (x != 43) = true := by simpa using h43
          clear hT hJ hG hT' hJ' hG' hd e1 e2 hDig hrest h43
          go_wp2_with (at_builtin; go_must (refine wpList_push STR rfl _ _ rfl rfl ⟨_, rfl⟩ hown hbel (by omega) (mk_r (by omega) (by omega)) ?_); intro v3 w3 ho3 hb3)
          clear hown hbel
          go_wp2_with fail
          go_roundw
          case rel => exact ⟨k + 1, j, _, g, E, by omega, by go_num, rfl, rfl, hEg, by simp; omega, by omega, HT, HJ, HG, ho3, hb3⟩
          case measure => simp [intOf]; omega
    · obtain rfl : k = len := by omega
      have hT' := hT.out
      have hJ' := hJ.out
      have hG' := hG.out
      rw [List.drop_of_length_le (by omega), rd7_nil.1, List.append_nil] at hT'
      rw [List.drop_of_length_le (by omega), rd7_nil.2.2, Nat.add_zero] at hJ'
      rw [List.drop_of_length_le (by omega), rd7_nil.2.1, Bool.and_true] at hG'
      subst hT' hJ'
      have hE : rd7E xs = E := by unfold rd7E; rw [← hG', hEg.out]
      have HE := hid hE
      clear hT hJ hG hG' hE hEg
      go_wp2_with fail
      go_ret3
      exact ⟨_, by rw [HE.out]; rfl, hown, hbel⟩
end Go.Proofs.YtiacijodoojgoaaDoor
