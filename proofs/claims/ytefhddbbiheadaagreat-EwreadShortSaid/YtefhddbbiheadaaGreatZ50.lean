/-
  Texts of ours laid together: R32b.
-/
import Derived.Deep.RegionHeld3
import Derived.Test.YtefhddbbiheadaaGreatZ49

/-! R32b -/
namespace Go.Proofs.YtefhddbbiheadaaGreat
open Go.RowKit
set_option linter.unusedVariables false

theorem gap_draws (c : Int) (g : Bool) (hg : gp c = g) (w : World) (q : Nat) : Calls Tryz.prog 55 #[.int .u8 c] (w.drewN q) fun e w' => e = .returned (.bool g) ∧ ∃ m, w' = (w.drewN q).drewN m := by
  subst hg
  refine (ref32_gap c (w.drewN q)).mono ?_
  rintro e w' ⟨rfl, rfl⟩
  exact ⟨rfl, 0, rfl⟩
theorem infP32 : (Tryz.prog.info? 43).map (fun i => (i.zero, i.size, i.bytes)) = some (some (.agg #[.int .i64 0, .slice none 0 0]), shPc.sz, 32) := by kernel_rfl
theorem dropG_at {xs : List Int} {i m : Nat} : (xs.drop i)[m]? = xs[i + m]? := by rw [List.getElem?_drop]
set_option maxRecDepth 100000 in
set_option maxHeartbeats 1000000 in
theorem ref32_Pieces (a : Option Addr) (len cap : Nat) (xs : List Int) (w : World) (hr : Reads .u8 w a len cap xs) (hN : len < 1000000) :
    Calls Tryz.prog 35 #[.slice a len cap] w fun e w' => ∃ v, e = .returned v ∧ OwnG shPc 43 w.heap.size w' v (pcsP xs) ∧ Below w.heap.size w w' := by
  have hl := hr.len_le
  have hrm := hr.room
  have HR := hid hr
  have HS := hid hr.size
  have H0 : Hid (([] : List (Int × List Int)) ++ pcsP (xs.drop 0) = pcsP xs) := by rw [Hid, List.drop_zero]; rfl
  clear hr
  go_enter Tryz.func35, Tryz.ntmps35
  go_wp2_with fail
  go_loopw [3, 4] (fun ov iv wr => ∃ (i : Nat) (O : List (Int × List Int)), i ≤ len ∧ iv = .int .i64 i ∧ O.length ≤ i ∧ Hid (O ++ pcsP (xs.drop i) = pcsP xs) ∧ Hid (OwnG shPc 43 w.heap.size wr ov O) ∧ Below w.heap.size w wr) (fun _ iv _ => len - (intOf iv).toNat)
  case atStart => exact ⟨0, [], Nat.zero_le _, rfl, Nat.le_refl _, H0, OwnG.nil _ _ _ _, Below.refl _ _⟩
  case round =>
    obtain ⟨i, O, hi, rfl, hOi, hI, hO, hbel⟩ := hrel
    rename World => wo
    by_cases hlt : i < len
    · obtain ⟨b, off, x, rfl, hbw0, hc0, h0, h1, hx⟩ := HR.out.get8 hlt
      have hys : (xs.drop i)[0]? = some x := by rw [dropG_at]; exact hx.out.1
      have hysne : xs.drop i ≠ [] := fun h => by rw [h] at hys; simp at hys
      have hT1 := turn_pos hysne
      have hT2 := turn_le (xs.drop i)
      rw [List.length_drop, HS.out] at hT2
      have hTA := hid (fun (m : Nat) (c : Int) (hm : m ≤ turnN (xs.drop i)) (hc : xs[i + m]? = some c) => turn_at hys hm (by rw [dropG_at]; exact hc))
      have hI2 : Hid ((O ++ [(kdW ((xs.drop i).take (turnN (xs.drop i))), (xs.drop i).take (turnN (xs.drop i)))]) ++ pcsP (xs.drop (i + turnN (xs.drop i))) = pcsP xs) := by
        have h := hI.out
        unfold pcsP at h ⊢
        rw [pcsT_on hysne, List.map_cons] at h
        rw [Hid, ← h, List.drop_drop, List.append_assoc]
        rfl
      obtain ⟨T, hT⟩ : ∃ T, T = turnN (xs.drop i) := ⟨_, rfl⟩
      have hpc := HR.out.piece (l := i) (r := i + T) (by omega) (by omega)
      rw [if_neg (show ¬ cap = i by omega), Option.map_some, Addr.add_lit, List.drop_take, Nat.add_sub_cancel_left] at hpc
      rw [← hT] at hI2 hTA hT1 hT2
      generalize (xs.drop i).take T = P at *
      have HX := hid hpc
      have z0 : (0 : Int) ≤ (i : Int) := by omega
      have z1 : (i : Int) < (len : Int) := by omega
      have z2 : (i : Int) ≤ (cap : Int) := by omega
      clear hI hysne hys hT hpc hx
      go_wp2_with fail
      go_loopw [5] (fun kv w2 => ∃ m q : Nat, m ≤ T ∧ kv = .int .i64 (i + m) ∧ Hid (w2 = wo.drewN q)) (fun kv _ => len - (intOf kv).toNat)
      case atStart => exact ⟨0, 0, Nat.zero_le _, by simp, rfl⟩
      case round =>
        obtain ⟨m, q, hm, rfl, hw2⟩ := hrel
        have hnx := hid (fun k => show wr.drewN k = wo.drewN (q + k) by rw [hw2.out, World.drewN_drewN])
        have hb2 : Below w.heap.size w wr := by rw [hw2.out]; exact Below.drewN hbel q
        have hcI := (hb2.cell (p := ⟨b, off + i, none⟩) hbw0).trans hc0
        by_cases hmT : m < T
        · obtain ⟨b', off', c, hb', _, hcc, g0, g1, hcx⟩ := (HR.out.below hb2).get8 (i := i + m) (by omega)
          cases hb'
          have hE := hTA.out m c hm hcx.out.1
          rw [decide_eq_true hmT, beq_iff_eq] at hE
          obtain ⟨g, hg⟩ : ∃ g, gp x = g := ⟨_, rfl⟩
          have K1 := hid (fun n => gap_draws c g (hE.trans hg) wr n)
          have K2 := hid (fun n => gap_draws x g hg wr n)
          have y0 : (0 : Int) ≤ (i : Int) + (m : Int) := by omega
          have y1 : (i : Int) + (m : Int) < (len : Int) := by omega
          have y2 : ((i : Int) + (m : Int)).toNat = i + m := by omega
          clear hcx hE hg
          cases g
          all_goals
            go_wp2_with fail
            go_quiet (first | (go_at_call 55; with_reducible exact Calls.quiet_of (K1.out _)) | (go_at_call 55; with_reducible exact Calls.quiet_of (K2.out _)))
            go_wp2_with fail
            go_roundw
            case rel => exact ⟨m + 1, q + nq, by omega, by go_num, hnx.out nq⟩
            case measure => simp [intOf]; omega
        · obtain rfl : m = T := by omega
          have hcase : (∃ (c : Int) (g : Bool), ((i : Int) + (m : Int) < (len : Int)) ∧ wr.cell? ⟨b, off + (i + m), none⟩ = some (.int .u8 c) ∧ gp x = g ∧ gp c = !g) ∨ ¬ ((i : Int) + (m : Int) < (len : Int)) := by
            by_cases hk : i + m < len
            · obtain ⟨b', off', c, hb', _, hcc, g0, g1, hcx⟩ := (HR.out.below hb2).get8 hk
              cases hb'
              have hE := hTA.out m c (Nat.le_refl _) hcx.out.1
              rw [decide_eq_false (Nat.lt_irrefl _)] at hE
              refine .inl ⟨c, gp x, by omega, hcc, rfl, ?_⟩
              cases h1 : gp c <;> cases h2 : gp x <;> rw [h1, h2] at hE <;> first | rfl | cases hE
            · exact .inr (by omega)
          have y2 : ((i : Int) + (m : Int)).toNat = i + m := by omega
          have y0 : (0 : Int) ≤ (i : Int) + (m : Int) := by omega
          have y3 : (i : Int) ≤ (i : Int) + (m : Int) := by omega
          have y4 : (i : Int) + (m : Int) ≤ (cap : Int) := by omega
          have y5 : i + m - i = m := by omega
          have y6 : i ≤ i + m := by omega
          have y7 : i + m ≤ cap := by omega
          have r3 : (cap = i) = False := eq_false (by omega)
          have hOr := hO.out.below (show Below wo.heap.size wo wr by rw [hw2.out]; exact Below.drewN (Below.refl _ _) q)
          clear hTA hw2 hnx hO
          rcases hcase with ⟨c, g, y1, hcc, hg1, hg2⟩ | y1
          · have K1 := hid (fun n => gap_draws c (!g) hg2 wr n)
            have K2 := hid (fun n => gap_draws x g hg1 wr n)
            clear hg1 hg2
            cases g
            all_goals
              go_wp2_with fail
              go_quiet (first | (go_at_call 55; with_reducible exact Calls.quiet_of (K1.out _)) | (go_at_call 55; with_reducible exact Calls.quiet_of (K2.out _)))
              go_wp2_with fail
              have hW := Below.drewN hb2 nq
              have OD := (hOr.below (Below.drewN (Below.refl _ _) nq)).below (below_drew (Below.refl (wr.drewN nq).heap.size (wr.drewN nq)))
              have hbD := below_drew hW
              clear hb2 hW hcI hOr
              generalize wr.drewN nq = Wd at *
              go_region_held3 (fun _ => True) (trivial) (first
                | (go_at_call 56; (with_reducible refine (ref32_Kind _ _ _ _ _ (HX.out.below hbD) (by omega)).mono ?_); rintro e w4 ⟨rfl, h4⟩; have t4 := below_then hbD h4; have O4 := OD.below h4)
                | (refine step_pushG (w0 := w) (W := w4) (v := u3) shPc (kdW P, P) (some ⟨b, off + i, none⟩) m (cap - i) rfl (.tmp 30) (.tmp 41) rfl Tryz.underlying40 infP32 rfl (by decide) (by decide) rfl O4 t4 rfl (HX.out.below t4) (HX.out.off (fun j hj => (O4.lt j hj).1)) (by intro c hc; simp [shPc] at hc; rcases hc with rfl | rfl <;> rfl) (by omega) ?_; intro a5 n5 c5 w5 O5 t5))
              all_goals
                go_wp2_with fail
                go_roundw
                case rel => exact ⟨i + m, O ++ [(kdW P, P)], by omega, by simp, by simp; omega, hI2, O5, t5⟩
                case measure => simp [intOf]; omega
          · have y1d := decide_eq_false y1
            have y1n : (len : Int) ≤ (i : Int) + (m : Int) := by omega
            go_wp2_with fail
            go_quiet (fail)
            go_wp2_with fail
            have hW := Below.drewN hb2 nq
            have OD := (hOr.below (Below.drewN (Below.refl _ _) nq)).below (below_drew (Below.refl (wr.drewN nq).heap.size (wr.drewN nq)))
            have hbD := below_drew hW
            clear hb2 hW hcI hOr
            generalize wr.drewN nq = Wd at *
            go_region_held3 (fun _ => True) (trivial) (first
              | (go_at_call 56; (with_reducible refine (ref32_Kind _ _ _ _ _ (HX.out.below hbD) (by omega)).mono ?_); rintro e w4 ⟨rfl, h4⟩; have t4 := below_then hbD h4; have O4 := OD.below h4)
              | (refine step_pushG (w0 := w) (W := w4) (v := u3) shPc (kdW P, P) (some ⟨b, off + i, none⟩) m (cap - i) rfl (.tmp 30) (.tmp 41) rfl Tryz.underlying40 infP32 rfl (by decide) (by decide) rfl O4 t4 rfl (HX.out.below t4) (HX.out.off (fun j hj => (O4.lt j hj).1)) (by intro c hc; simp [shPc] at hc; rcases hc with rfl | rfl <;> rfl) (by omega) ?_; intro a5 n5 c5 w5 O5 t5))
            all_goals
              go_wp2_with fail
              go_roundw
              case rel => exact ⟨i + m, O ++ [(kdW P, P)], by omega, by simp, by simp; omega, hI2, O5, t5⟩
              case measure => simp [intOf]; omega
    · obtain rfl : i = len := by omega
      have hn : xs.drop i = [] := List.drop_eq_nil_of_le (by rw [HS.out]; exact Nat.le_refl _)
      have z1 : ¬ (i : Int) < (i : Int) := by omega
      have hI' := hI.out
      rw [hn] at hI'
      have e0 : pcsP [] = [] := by unfold pcsP; rw [pcsT_nil]; rfl
      rw [e0, List.append_nil] at hI'
      have HO2 := hO.out
      rw [hI'] at HO2
      clear hn hI hI'
      go_wp2_with fail
      go_ret
      exact ⟨_, rfl, HO2, hbel⟩
theorem shwN_snoc (l : List (Int × List Int)) (m : Nat) : shwN l (m + 1) = shwN l m ++ (if hidP (l.map Prod.fst) m = true then [] else (l[m]?).toList) := by
  unfold shwN
  rw [List.range_succ, List.filterMap_append, List.filterMap_cons, List.filterMap_nil]
  cases hidP (l.map Prod.fst) m
  · rw [if_neg Bool.false_ne_true, if_neg Bool.false_ne_true]
    cases l[m]? <;> rfl
  · rw [if_pos rfl, if_pos rfl]
theorem shwN_len (l : List (Int × List Int)) (m : Nat) : (shwN l m).length ≤ m := by
  unfold shwN
  exact Nat.le_trans (List.length_filterMap_le _ _) (by rw [List.length_range]; exact Nat.le_refl _)
set_option maxRecDepth 100000 in
set_option maxHeartbeats 1000000 in
theorem ref32_Shown (a : Option Addr) (len cap : Nat) (xs : List Int) (w : World) (hr : Reads .u8 w a len cap xs) (hN : len < 1000000) :
    Calls Tryz.prog 22 #[.slice a len cap] w fun e w' => ∃ v, e = .returned v ∧ OwnG shPc 43 w.heap.size w' v (shwP xs) ∧ Below w.heap.size w w' := by
  have HP := hid (ref32_Pieces a len cap xs w hr hN)
  have hpl : (pcsP xs).length ≤ len := by
    unfold pcsP
    rw [List.length_map, ← hr.size]
    exact (pcsT_whole xs).2.2
  unfold shwP
  clear hr
  generalize pcsP xs = L at *
  have H0 : Hid (shwN L 0 = []) := by unfold shwN; rfl
  have HSL := hid (fun m => shwN_len L m)
  go_enter Tryz.func22, Tryz.ntmps22
  go_wp2_with (go_at_call 35; (with_reducible refine HP.out.mono ?_); rintro e w1 ⟨v1, rfl, hO1, hb1⟩; (obtain ⟨a1, c1, rfl, hR1⟩ := hO1.rows))
  have HR1 := hid hR1
  have T1 := hid hb1
  clear hO1 hR1
  go_loopw [4, 5] (fun ov iv wr => ∃ j : Nat, j ≤ L.length ∧ iv = .int .i64 j ∧ Hid (OwnG shPc 43 w1.heap.size wr ov (shwN L j)) ∧ Below w1.heap.size w1 wr) (fun _ iv _ => L.length - (intOf iv).toNat)
  case atStart => exact ⟨0, Nat.zero_le _, rfl, by rw [Hid, H0.out]; exact OwnG.nil _ _ _ _, Below.refl _ _⟩
  case round =>
    obtain ⟨j, hj, rfl, hO, hbel⟩ := hrel
    by_cases hlt : j < L.length
    · have hH := ref32_Hidden _ _ _ _ j _ (HR1.out.below hbel) hlt (by omega)
      obtain ⟨b, off, k, x, ai, li, ci, rfl, hbw, hck, hcx, hrx, hg, _⟩ := HR1.out.get2 hlt
      have hc1 := (hbel.cell (p := ⟨b, off + j * 2, none⟩) hbw).trans hck
      have hc2 := (hbel.cell (p := ⟨b, off + j * 2 + 1, none⟩) hbw).trans hcx
      have hsn := shwN_snoc L j
      rw [hg] at hsn
      have hsl := HSL.out j
      have hRX := hid (hrx.below hbel)
      have hRO := hid hrx
      have z1 : (j : Int) < (L.length : Int) := by omega
      cases hh : hidP (L.map Prod.fst) j
      · rw [hh, if_neg Bool.false_ne_true] at hsn
        rw [hh] at hH
        have HS : Hid (shwN L (j + 1) = shwN L j ++ [(k, x)]) := hsn
        have H := hid hH
        have O1 := hO.out
        have hsl2 : (shwN L j).length < 100000000000 := by omega
        clear hH hh hsn hg hck hcx hrx hsl hO
        generalize shwN L j = O at *
        go_wp2_with (first
          | (go_at_call 36; (with_reducible refine H.out.mono ?_); rintro e w2 ⟨rfl, rfl⟩)
          | (at_builtin; go_must (refine wpList_pushG shPc (k, x) ai li ci rfl _ _ rfl Tryz.underlying40 infP32 rfl (by decide) (by decide) (w0 := w1) (W := wr) (v := u4) rfl O1 hbel rfl hRX.out (hRO.out.off (fun i hi => (O1.lt i hi).1)) (by intro c hc; simp [shPc] at hc; rcases hc with rfl | rfl <;> rfl) hsl2 ?_); intro v3 w3 O3 hb3))
        rw [← HS.out] at O3
        go_roundw
        case rel => exact ⟨j + 1, by omega, by go_num, O3, hb3⟩
        case measure => simp [intOf]; omega
      · rw [hh, if_pos rfl, List.append_nil] at hsn
        rw [hh] at hH
        have HS : Hid (shwN L (j + 1) = shwN L j) := hsn
        have H := hid hH
        clear hH hh hsn hg hck hcx hrx hsl
        go_wp2_with (go_at_call 36; (with_reducible refine H.out.mono ?_); rintro e w2 ⟨rfl, rfl⟩)
        go_roundw
        case rel => exact ⟨j + 1, by omega, by go_num, by rw [HS.out]; exact hO, hbel⟩
        case measure => simp [intOf]; omega
    · obtain rfl : j = L.length := by omega
      have O1 := hO.out
      clear hO
      have z1 : ¬ (L.length : Int) < (L.length : Int) := by omega
      go_wp2_with fail
      go_ret
      exact ⟨_, rfl, O1.mono T1.out.size, T1.out.trans (hbel.mono T1.out.size)⟩
end Go.Proofs.YtefhddbbiheadaaGreat
