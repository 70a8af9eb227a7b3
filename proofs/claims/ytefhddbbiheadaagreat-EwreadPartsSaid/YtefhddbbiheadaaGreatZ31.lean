/-
  Texts of ours laid together: R04, R04b, R05, R08, R09, R10, R12.
-/
import Derived.Handy
import Derived.Test.YtefhddbbiheadaaGreatRows
import Derived.Test.YtefhddbbiheadaaGreatZ30

/-! R04 -/
namespace Go.Proofs.YtefhddbbiheadaaGreat
open Go.RowKit
set_option linter.unusedVariables false

theorem ret_iii {k k2 k3 : IntKind} {a b c d e f : Int} (h : a = b) (h' : c = d) (h2 : e = f) : Ending.returned (.tuple #[.int k a, .int k2 c, .int k3 e]) = .returned (.tuple #[.int k b, .int k2 d, .int k3 f]) := by rw [h, h', h2]

theorem ref04_wide (a : Int) (w : World) (h0 : 0 ≤ a) (h1 : a ≤ 255) :
    Calls Tryz.prog 71 #[.int .u8 a] w fun e w' => e = .returned (.int .i64 (startN a)) ∧ w = w' := by
  go_enter Tryz.func71, Tryz.ntmps71
  go_wp2
  all_goals (go_ret; exact ⟨ret_int (by unfold startN; (repeat' split) <;> omega), rfl⟩)
theorem ref04_range2 (a : Int) (w : World) (h0 : 0 ≤ a) (h1 : a ≤ 255) :
    Calls Tryz.prog 96 #[.int .u8 a] w fun e w' => e = .returned (.tuple #[.int .u8 (loU a), .int .u8 (hiU a)]) ∧ w = w' := by
  go_enter Tryz.func96, Tryz.ntmps96
  go_wp2
  all_goals (go_ret2; exact ⟨by unfold loU hiU; simp_all, rfl⟩)
set_option maxHeartbeats 1000000 in
theorem ref04_far (a : Option Addr) (len cap : Nat) (xs : List Int) (w : World) (hr : Reads .u8 w a len cap xs) :
    Calls Tryz.prog 70 #[.slice a len cap] w fun e w' => e = .returned (.int .i64 (farN xs)) ∧ w = w' := by
  have hl := hr.len_le
  have hsz := hr.size
  cases xs with
  | nil =>
    obtain rfl : 0 = len := hsz
    clear hr
    go_enter Tryz.func70, Tryz.ntmps70
    go_wp2
    go_ret
    exact ⟨rfl, rfl⟩
  | cons x0 r =>
    have hpos : 0 < len := by simp at hsz; omega
    have hsz' := hid hsz
    clear hsz
    obtain ⟨b, off, rfl, _, hc0, g0, g1⟩ := hr.head8
    have HR := hid hr
    clear hr
    have hne : ((len : Int) == 0) = false := by simp; omega
    by_cases hz : startN x0 = 0
    · have hz' : ((startN x0 : Int) == 0) = true := by simp [hz]
      have HZ := hid hz
      clear hz
      go_enter Tryz.func70, Tryz.ntmps70
      go_wp2_with (go_at_call 71; (with_reducible refine (ref04_wide _ _ g0 g1).mono ?_); rintro e w' ⟨rfl, rfl⟩)
      go_ret
      exact ⟨ret_int (by rw [far_zero HZ.out]; rfl), rfl⟩
    · have hz' : ((startN x0 : Int) == 0) = false := by simp; omega
      have HZ := hid hz
      have hw4 := startN_le x0
      have hb2 : 0 ≤ loU x0 ∧ loU x0 ≤ 255 ∧ 0 ≤ hiU x0 ∧ hiU x0 ≤ 255 := by unfold loU hiU; (repeat' split) <;> omega
      clear hz
      go_enter Tryz.func70, Tryz.ntmps70
      go_wp2_with (go_at_call 71; (with_reducible refine (ref04_wide _ _ g0 g1).mono ?_); rintro e w' ⟨rfl, rfl⟩)
      go_loop [3] (fun i => ∃ k : Nat, 1 ≤ k ∧ k ≤ startN x0 ∧ k ≤ len ∧ i = .int .i64 k ∧ Hid (k + runU x0 k (r.drop (k - 1)) = farN (x0 :: r))) (fun i => startN x0 - (intOf i).toNat)
      case atStart => exact ⟨1, Nat.le_refl _, by have := HZ.out; omega, hpos, rfl, (far_cons HZ.out).symm⟩
      case round =>
        obtain ⟨k, hk1, hk2, hk3, rfl, hn⟩ := hrel
        by_cases ht : k < startN x0
        · by_cases hlt : k < len
          · obtain ⟨b', off', y, hb', _, hc, l0, u0, hx⟩ := HR.out.get8 hlt
            cases hb'
            have hy := hid (tail_get hk1 hx.out.1)
            by_cases k1 : k = 1
            · have k1' : ((k : Int) == 1) = true := by simp [k1]
              have K1 := hid k1
              clear k1
              go_wp2_with (first
                | (go_at_call 71; (with_reducible refine (ref04_wide _ _ g0 g1).mono ?_); rintro e w' ⟨rfl, rfl⟩)
                | (go_at_call 96; (with_reducible refine (ref04_range2 _ _ g0 g1).mono ?_); rintro e w' ⟨rfl, rfl⟩))
              all_goals first
                | (go_ret
                   exact ⟨ret_int (by rw [← hn.out, run_stop hk1 hy.out (.inr (by rw [Bool.eq_false_iff, Ne, K1.out, ok_one]; omega))]), rfl⟩)
                | (go_round
                   case rel => exact ⟨k + 1, by omega, by omega, by omega, by go_num, (run_step hk1 hy.out ht (by rw [K1.out, ok_one]; omega)).symm.trans hn.out⟩
                   case measure => simp [intOf]; omega)
            · have k1' : ((k : Int) == 1) = false := by simp; omega
              have K1 := hid k1
              clear k1
              go_wp2_with (first
                | (go_at_call 71; (with_reducible refine (ref04_wide _ _ g0 g1).mono ?_); rintro e w' ⟨rfl, rfl⟩)
                | (go_at_call 96; (with_reducible refine (ref04_range2 _ _ g0 g1).mono ?_); rintro e w' ⟨rfl, rfl⟩))
              all_goals first
                | (go_ret
                   exact ⟨ret_int (by rw [← hn.out, run_stop hk1 hy.out (.inr (by rw [Bool.eq_false_iff, Ne, ok_two K1.out]; omega))]), rfl⟩)
                | (go_round
                   case rel => exact ⟨k + 1, by omega, by omega, by omega, by go_num, (run_step hk1 hy.out ht (by rw [ok_two K1.out]; omega)).symm.trans hn.out⟩
                   case measure => simp [intOf]; omega)
          · go_wp2_with (go_at_call 71; (with_reducible refine (ref04_wide _ _ g0 g1).mono ?_); rintro e w' ⟨rfl, rfl⟩)
            go_ret
            exact ⟨ret_int (by rw [← hn.out, run_end (by have := hsz'.out; simp at this; omega)]), rfl⟩
        · go_wp2_with (go_at_call 71; (with_reducible refine (ref04_wide _ _ g0 g1).mono ?_); rintro e w' ⟨rfl, rfl⟩)
          go_ret
          exact ⟨ret_int (by rw [← hn.out, run_full (by omega)]), rfl⟩

end Go.Proofs.YtefhddbbiheadaaGreat

/-! R04b -/
namespace Go.Proofs.YtefhddbbiheadaaGreat
open Go.RowKit
set_option linter.unusedVariables false

set_option maxHeartbeats 2000000 in
theorem ref04_Take (a : Option Addr) (len cap : Nat) (xs : List Int) (w : World) (hr : Reads .u8 w a len cap xs) :
    Calls Tryz.prog 44 #[.slice a len cap] w fun e w' => e = .returned (.tuple #[.int .i32 (takC xs), .int .i64 (takN xs), .int .i64 (takE xs)]) ∧ Below w.heap.size w w' := by
  have hl := hr.len_le
  have hsz := hr.size
  cases xs with
  | nil =>
    obtain rfl : 0 = len := hsz
    clear hr
    go_enter Tryz.func44, Tryz.ntmps44
    go_wp2
    go_ret3
    exact ⟨rfl, Below.refl _ _⟩
  | cons x0 r =>
    have hpos : 0 < len := by simp at hsz; omega
    have hfl := far_le (x0 :: r)
    rw [hsz] at hfl
    have hsz' := hid hsz
    obtain ⟨b, off, rfl, hblt, hc0, g0, g1⟩ := hr.head8
    have HR := hid hr
    have hfar := ref04_far _ _ _ _ _ hr
    have hwide := fun w => ref04_wide x0 w g0 g1
    clear hr
    have hne : ((len : Int) == 0) = false := by simp; omega
    by_cases hw : startN x0 = farN (x0 :: r) ∧ 0 < farN (x0 :: r)
    · have T := hid (take_whole hw.1 hw.2)
      have h4 := startN_le x0
      rcases (show startN x0 = 1 ∨ startN x0 = 2 ∨ startN x0 = 3 ∨ startN x0 = 4 by omega) with hn | hn | hn | hn
      all_goals
        have hF := hw.1.symm.trans hn
        have HF := hid hF
        have HN := hid hn
        have hg1 := hid (top_one x0 r)
        have hg0 : Hid (topGood x0 1 (topU x0 r 1)) := .inl ⟨rfl, top_one x0 r⟩
        have hb0 := good_bd g0 (Nat.le_refl 1) (by omega) hg0.out
        rw [hF] at hfar hfl
        simp only [hn] at hwide
        rw [T.out.1, T.out.2.1, T.out.2.2, hF]
        rw [hn] at hg1
        have hmk : markI 1 = 0 ∧ markI 2 = 192 ∧ markI 3 = 224 ∧ markI 4 = 240 := by decide
        simp only [hmk.1, hmk.2.1, hmk.2.2.1, hmk.2.2.2] at hg1
        have hb0' := hb0.1
        have hb1' := hb0.2.1
        rw [hg1.out] at hb0' hb1'
        clear hF hn hw hsz hb0
        go_enter Tryz.func44, Tryz.ntmps44
        go_wp2_with (first
          | (go_at_call 70; (with_reducible refine hfar.mono ?_); rintro e w' ⟨rfl, rfl⟩)
          | (go_at_call 71; (with_reducible refine (hwide _).mono ?_); rintro e w' ⟨rfl, rfl⟩))
        have wq1 : IntKind.i64.wrap x0 = x0 := IntWalk.i64_in _ (by omega)
        have hba : Below w.heap.size w (w.alloc (.cells #[.int .i64 0, .int .i64 0, .int .i64 192, .int .i64 224, .int .i64 240] 3)) := (Below.refl _ _).alloc (Nat.le_refl _) _
        go_quiet (fail)
        generalize hwq : World.drewN (w.alloc (.cells #[.int .i64 0, .int .i64 0, .int .i64 192, .int .i64 224, .int .i64 240] 3)) _ = wq
        have hb1 : Below w.heap.size w wq := by rw [← hwq]; exact Below.drewN hba _
        clear hwq hba wq1
        go_wp2_with fail
        go_loop [7, 8] (fun c i => ∃ k : Nat, 1 ≤ k ∧ k ≤ farN (x0 :: r) ∧ i = .int .i64 k ∧ c = .int .i64 (topU x0 r k) ∧ Hid (topGood x0 k (topU x0 r k))) (fun _ i => farN (x0 :: r) - (intOf i).toNat)
        case atStart => exact ⟨1, Nat.le_refl _, by have := HF.out; omega, rfl, by rw [hg1.out]; try simp, hg0.out⟩
        case round =>
          obtain ⟨k, hk1, hk2, rfl, rfl, hg⟩ := hrel
          have hF' := HF.out
          rw [hF'] at hk2
          have hbd := good_bd g0 hk1 (by rw [HN.out]; exact hk2) hg.out
          obtain ⟨p1, p2, p3, _, _⟩ := hbd
          have HP3 := hid p3
          clear p3 hF'
          generalize ht : topU x0 r k = t at *
          have HT := hid ht
          clear ht
          rcases Nat.lt_or_ge k (farN (x0 :: r)) with hlt | hlt
          · rw [HF.out] at hlt
            try (exfalso; omega)
            all_goals
              obtain ⟨b', off', y, hb', _, hc, l0, u0, hx⟩ := (HR.out.below hb1).get8 (i := k) (by omega)
              cases hb'
              have hy := hid (tail_get hk1 hx.out.1)
              have hok : okU x0 k y = true := far_ok hk1 (by rw [HF.out]; exact hlt) hy.out
              have hyb := (fol_iff y).1 (ok_fol hok)
              have hg' := hid (good_next hk1 (by rw [HN.out]; exact hlt) hg.out (ok_fol hok) hok)
              have hp3 := HP3.out (by rw [HN.out]; exact hlt)
              have hT : Hid (topU x0 r (k + 1) = 64 * t + (y - 128)) := by rw [Hid, top_next hk1 (tail_take hy.out), HT.out]
              clear hok
              go_wp2_with fail
              go_round
              case rel => exact ⟨k + 1, by omega, by rw [HF.out]; omega, by go_num, by rw [hT.out]; congr 1; omega, by rw [hT.out]; exact hg'.out⟩
              case measure => rw [HF.out]; simp [intOf]; omega
          · rw [HF.out] at hlt
            go_wp2_with fail
            have hk : k = farN (x0 :: r) := by rw [HF.out]; omega
            go_ret3
            exact ⟨ret_iii (by rw [← HT.out, hk, HF.out]) rfl rfl, hb1⟩
    · have HW := hid hw
      by_cases h1 : farN (x0 :: r) = (x0 :: r).length
      · have T := hid (take_part hw h1)
        have hfl' : ((farN (x0 :: r) : Int) == len) = true := by rw [h1, hsz]; simp
        have hf0 : 0 < farN (x0 :: r) := by rw [h1]; simp
        have hws : ((farN (x0 :: r) : Int) == startN x0) = false := by simp; intro h; exact hw ⟨by omega, hf0⟩
        rw [T.out.1, T.out.2.1, T.out.2.2]
        clear hw h1 hsz
        go_enter Tryz.func44, Tryz.ntmps44
        go_wp2_with (first
          | (go_at_call 70; (with_reducible refine hfar.mono ?_); rintro e w' ⟨rfl, rfl⟩)
          | (go_at_call 71; (with_reducible refine (hwide _).mono ?_); rintro e w' ⟨rfl, rfl⟩))
        go_ret3
        exact ⟨rfl, Below.refl _ _⟩
      · have T := hid (take_form hw h1)
        have hfl' : ((farN (x0 :: r) : Int) == len) = false := by simp; rw [hsz] at h1; omega
        rw [T.out.1, T.out.2.1, T.out.2.2]
        by_cases hf0 : 0 < farN (x0 :: r)
        · have hws : ((farN (x0 :: r) : Int) == startN x0) = false := by simp; intro h; exact hw ⟨by omega, hf0⟩
          have hmx : Hid (((max (farN (x0 :: r)) 1 : Nat) : Int) = farN (x0 :: r)) := by rw [Hid]; omega
          clear hw h1 hsz
          go_enter Tryz.func44, Tryz.ntmps44
          go_wp2_with (first
            | (go_at_call 70; (with_reducible refine hfar.mono ?_); rintro e w' ⟨rfl, rfl⟩)
            | (go_at_call 71; (with_reducible refine (hwide _).mono ?_); rintro e w' ⟨rfl, rfl⟩))
          go_ret3
          exact ⟨ret_iii rfl (by rw [hmx.out]) rfl, Below.refl _ _⟩
        · have hf1 : farN (x0 :: r) = 0 := by omega
          rw [hf1] at hfar hfl' hfl ⊢
          clear hw h1 hsz hf0
          go_enter Tryz.func44, Tryz.ntmps44
          go_wp2_with (first
            | (go_at_call 70; (with_reducible refine hfar.mono ?_); rintro e w' ⟨rfl, rfl⟩)
            | (go_at_call 71; (with_reducible refine (hwide _).mono ?_); rintro e w' ⟨rfl, rfl⟩))
          go_ret3
          exact ⟨rfl, Below.refl _ _⟩

end Go.Proofs.YtefhddbbiheadaaGreat

/-! R05 -/
namespace Go.Proofs.YtefhddbbiheadaaGreat
open Go.RowKit
set_option linter.unusedVariables false

theorem idx_not_neg {xs : List Int} (h : xs.all scB = true) : idxI (fun c => !scB c) xs < 0 := by
  have := idx_neg (fun c => !scB c) xs
  simp only [Bool.not_not] at this
  rw [h] at this; simpa using this
theorem idx_not_pos {xs : List Int} (h : xs.all scB = false) : 0 ≤ idxI (fun c => !scB c) xs := by
  have := idx_neg (fun c => !scB c) xs
  simp only [Bool.not_not] at this
  rw [h] at this; simpa using this

set_option maxHeartbeats 2000000 in
theorem ref05_ReadO (a : Option Addr) (len cap : Nat) (xs : List Int) (w : World) (hr : Reads .u8 w a len cap xs) (hN : len < 100000000) :
    Calls Tryz.prog 26 #[.slice a len cap] w fun e w' => ∃ a' cap', e = .returned (.tuple #[.slice a' (sigs xs).length cap', .int .i64 (brkP (sigs xs)), .int .i64 (errP (sigs xs))]) ∧ Own .i32 21 w.heap.size w' (.slice a' (sigs xs).length cap') (txt xs) ∧ Below w.heap.size w w' := by
  have hl := hr.len_le
  have hsz := hr.size
  have HB := hid (fun x hx => wf_u8 (hr.wf x hx))
  have HR := hid hr
  clear hr
  go_enter Tryz.func26, Tryz.ntmps26
  go_wp2
  go_loopw [5, 6, 7, 8] (fun v br er i wr => ∃ (k : Nat) (pre : List (Int × Int)), k ≤ len ∧ pre.length ≤ k ∧ i = .int .i64 k ∧ br = .int .i64 (brkP pre) ∧ er = .int .i64 (errP pre) ∧ Hid (pre ++ sigs (xs.drop k) = sigs xs) ∧ Own .i32 21 w.heap.size wr v (pre.map Prod.fst) ∧ Below w.heap.size w wr) (fun _ _ _ i _ => len - (intOf i).toNat)
  case atStart => exact ⟨0, [], Nat.zero_le _, Nat.le_refl _, rfl, rfl, rfl, rfl, Own.nil _ _ _ _, Below.refl _ _⟩
  case round =>
    obtain ⟨k, pre, hk, hpk, rfl, rfl, rfl, hps, hown, hbel⟩ := hrel
    by_cases hlt : k < len
    · have hrd := (HR.out.below hbel).piece (Nat.le_of_lt hlt) (Nat.le_refl len)
      have hroom := HR.out.room
      rw [List.take_of_length_le (by omega), if_neg (by omega)] at hrd
      have hne : xs.drop k ≠ [] := by intro h; have := congrArg List.length h; simp at this; omega
      have hT := ref04_Take _ _ _ _ _ hrd
      have hsg := sigs_cons hne
      have hp0 := takN_pos hne
      have hp1 := takN_le (xs.drop k)
      simp only [List.length_drop] at hp1
      have hnext : Hid (pre ++ [sign1 (xs.drop k)] ++ sigs (xs.drop (k + takN (xs.drop k))) = sigs xs) := by
        rw [Hid, ← hps.out, hsg, List.drop_drop, List.append_assoc]; rfl
      have hsn := brkP_snoc pre (sign1 (xs.drop k))
      have hen := errP_snoc pre (sign1 (xs.drop k))
      have hb1 := brkP_le pre
      have hwf1 : (Lit.int .i32 (sign1 (xs.drop k)).1).wf = true := by
        have := (scB_iff _).1 (sign_sc (bd_drop k HB.out)); exact mk_r (by omega) (by omega)
      have he2 : (sign1 (xs.drop k)).2 = takE (xs.drop k) := rfl
      rw [he2] at hsn hen
      have happ : Hid (pre.map Prod.fst ++ [(sign1 (xs.drop k)).1] = (pre ++ [sign1 (xs.drop k)]).map Prod.fst) := by rw [Hid]; simp
      clear hsg hne hps hrd he2
      cases he : takE (xs.drop k) == 0
      · have he' : takE (xs.drop k) ≠ 0 := by simpa using he
        have hs1 : (sign1 (xs.drop k)).1 = 65533 := by simp only [sign1]; rw [if_neg he']
        rw [hs1] at hwf1 happ
        rw [if_neg he'] at hsn
        have HSN := hid hsn
        cases h0 : errP pre == 0
        · have hen' : Hid (errP (pre ++ [sign1 (xs.drop k)]) = errP pre) := by rw [Hid, hen, if_neg (by simpa using h0)]
          clear hsn hen he' hs1
          go_wp2_with (first
            | (go_at_call 44; (with_reducible refine hT.mono ?_); rintro e w2 ⟨rfl, hbl2⟩; have ho2 := hown.below hbl2; have hbel2 := below_then hbel hbl2)
            | (at_builtin; go_must (refine wpList_push STR rfl _ _ rfl rfl ⟨_, rfl⟩ ho2 hbel2 (by simp; omega) hwf1 ?_); intro v3 w3 ho3 hb3))
          rw [happ.out] at ho3
          go_roundw
          case rel => exact ⟨k + takN (xs.drop k), _, by omega, by simp; omega, by go_num, by rw [HSN.out]; push_cast; rfl, by rw [hen'.out], hnext.out, ho3, hb3⟩
          case measure => simp [intOf]; omega
        · have hen' : Hid (errP (pre ++ [sign1 (xs.drop k)]) = takE (xs.drop k)) := by rw [Hid, hen, if_pos (by simpa using h0)]
          clear hsn hen he' hs1
          go_wp2_with (first
            | (go_at_call 44; (with_reducible refine hT.mono ?_); rintro e w2 ⟨rfl, hbl2⟩; have ho2 := hown.below hbl2; have hbel2 := below_then hbel hbl2)
            | (at_builtin; go_must (refine wpList_push STR rfl _ _ rfl rfl ⟨_, rfl⟩ ho2 hbel2 (by simp; omega) hwf1 ?_); intro v3 w3 ho3 hb3))
          rw [happ.out] at ho3
          go_roundw
          case rel => exact ⟨k + takN (xs.drop k), _, by omega, by simp; omega, by go_num, by rw [HSN.out]; push_cast; rfl, by rw [hen'.out], hnext.out, ho3, hb3⟩
          case measure => simp [intOf]; omega
      · have he' : takE (xs.drop k) = 0 := by simpa using he
        have hs1 : (sign1 (xs.drop k)).1 = takC (xs.drop k) := by simp only [sign1]; rw [if_pos he']
        rw [hs1] at hwf1 happ
        rw [if_pos he'] at hsn
        have hen' : Hid (errP (pre ++ [sign1 (xs.drop k)]) = errP pre) := by rw [Hid, hen, he']; split <;> simp_all
        have HSN := hid hsn
        clear hsn hen he' hs1
        go_wp2_with (first
          | (go_at_call 44; (with_reducible refine hT.mono ?_); rintro e w2 ⟨rfl, hbl2⟩; have ho2 := hown.below hbl2; have hbel2 := below_then hbel hbl2)
          | (at_builtin; go_must (refine wpList_push STR rfl _ _ rfl rfl ⟨_, rfl⟩ ho2 hbel2 (by simp; omega) hwf1 ?_); intro v3 w3 ho3 hb3))
        rw [happ.out] at ho3
        go_roundw
        case rel => exact ⟨k + takN (xs.drop k), _, by omega, by simp; omega, by go_num, by rw [HSN.out]; simp, by rw [hen'.out], hnext.out, ho3, hb3⟩
        case measure => simp [intOf]; omega
    · go_wp2_with fail
      obtain rfl : k = len := by omega
      have hend : pre = sigs xs := by
        have := hps.out
        rw [List.drop_of_length_le (by omega), sigs_nil, List.append_nil] at this
        exact this
      subst hend
      obtain ⟨a', cap', rfl, hrd⟩ := hown.reads
      simp only [List.length_map] at hown hrd ⊢
      go_ret3
      exact ⟨a', cap', rfl, hown, hbel⟩
theorem ref05_Read (a : Option Addr) (len cap : Nat) (xs : List Int) (w : World) (hr : Reads .u8 w a len cap xs) (hN : len < 100000000) :
    Calls Tryz.prog 26 #[.slice a len cap] w fun e w' => ∃ a' cap', e = .returned (.tuple #[.slice a' (sigs xs).length cap', .int .i64 (brkP (sigs xs)), .int .i64 (errP (sigs xs))]) ∧ Reads .i32 w' a' (sigs xs).length cap' (txt xs) ∧ Below w.heap.size w w' := by
  refine (ref05_ReadO a len cap xs w hr hN).mono ?_
  rintro e w' ⟨a', cap', rfl, ho, hb⟩
  obtain ⟨a2, c2, hv, hrd⟩ := ho.reads
  simp only [Value.slice.injEq] at hv
  obtain ⟨rfl, _, rfl⟩ := hv
  exact ⟨a', cap', rfl, by rw [txt_len] at hrd; exact hrd, hb⟩

end Go.Proofs.YtefhddbbiheadaaGreat

/-! R08 -/
namespace Go.Proofs.YtefhddbbiheadaaGreat
open Go.RowKit
set_option linter.unusedVariables false


end Go.Proofs.YtefhddbbiheadaaGreat

/-! R09 -/
namespace Go.Proofs.YtefhddbbiheadaaGreat
open Go.RowKit
set_option linter.unusedVariables false

theorem ref09_Sign (x : Int) (w : World) (h0 : 0 ≤ x) (h1 : x ≤ 255) :
    Calls Tryz.prog 64 #[.int .u8 x] w fun e w' => e = .returned (.int .i32 (sg09 x)) ∧ w = w' := by
  go_enter Tryz.func64, Tryz.ntmps64
  go_wp2
  all_goals (go_ret; exact ⟨ret_int (by unfold sg09; simp_all), rfl⟩)

end Go.Proofs.YtefhddbbiheadaaGreat

/-! R10 -/
namespace Go.Proofs.YtefhddbbiheadaaGreat
open Go.RowKit
set_option linter.unusedVariables false

set_option maxHeartbeats 1000000 in
theorem ref10_Sign (x : Int) (w : World) (h0 : 0 ≤ x) (h1 : x ≤ 255) :
    Calls Tryz.prog 65 #[.int .u8 x] w fun e w' => e = .returned (.int .i32 (sg10 x)) ∧ Below w.heap.size w w' := by
  by_cases hx : x < 128
  · have hE : Hid (sg10 x = x) := by unfold Hid sg10; rw [if_pos (.inl hx)]
    go_enter Tryz.func65, Tryz.ntmps65
    go_wp2
    go_ret
    exact ⟨ret_int hE.out.symm, Below.refl _ _⟩
  · by_cases hx2 : 159 < x
    · have hE : Hid (sg10 x = x) := by unfold Hid sg10; rw [if_pos (.inr hx2)]
      go_enter Tryz.func65, Tryz.ntmps65
      go_wp2
      go_ret
      exact ⟨ret_int hE.out.symm, Below.refl _ _⟩
    · obtain ⟨n, hn, rfl⟩ : ∃ n : Nat, n < 32 ∧ x = (n : Int) + 128 := ⟨(x - 128).toNat, by omega, by omega⟩
      have hE : Hid (sg10 ((n : Int) + 128) = tab10.getD n 0) := by unfold Hid sg10; rw [if_neg (by omega), show ((n : Int) + 128 - 128).toNat = n by omega]
      have hs : (n : Int) + 128 - 128 = n := by omega
      have hs2 : (n : Int) % 256 = n := by omega
      go_enter Tryz.func65, Tryz.ntmps65
      go_wp2
      go_ret
      refine ⟨?_, (Below.refl _ _).alloc (Nat.le_refl _) _⟩
      rw [hE.out]
      show Ending.returned ((tab10.map (Value.int .i32))[n]'(by simpa [tab10] using hn)) = _
      rw [List.getElem_map, List.getD_eq_getElem?_getD, List.getElem?_eq_getElem (by simpa [tab10] using hn)]
      rfl

end Go.Proofs.YtefhddbbiheadaaGreat

/-! R12 -/
namespace Go.Proofs.YtefhddbbiheadaaGreat
open Go.RowKit
set_option linter.unusedVariables false

end Go.Proofs.YtefhddbbiheadaaGreat
