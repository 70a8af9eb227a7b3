/-
  Texts of ours laid together: R32b, Rpo, D32b.
-/
import Derived.Deep.RegionHeld3
import Derived.Deep.SlicePairs
import Derived.Test.YtkaldjekjgecbaaZ26

/-! R32b -/
namespace Go.Proofs.Ytkaldjekjgecbaa
open Go.RowKit
set_option linter.unusedVariables false

theorem gap_draws (c : Int) (g : Bool) (hg : gp c = g) (w : World) (q : Nat) : Calls Try.prog 19 #[.int .u8 c] (w.drewN q) fun e w' => e = .returned (.bool g) ∧ ∃ m, w' = (w.drewN q).drewN m := by
  subst hg
  refine (ref32_gap c (w.drewN q)).mono ?_
  rintro e w' ⟨rfl, rfl⟩
  exact ⟨rfl, 0, rfl⟩
theorem infP32 : (Try.prog.info? 27).map (fun i => (i.zero, i.size, i.bytes)) = some (some (.agg #[.int .i64 0, .slice none 0 0]), shPc.sz, 32) := by kernel_rfl
theorem dropG_at {xs : List Int} {i m : Nat} : (xs.drop i)[m]? = xs[i + m]? := by rw [List.getElem?_drop]
set_option maxRecDepth 100000 in
set_option maxHeartbeats 1000000 in
theorem ref32_Pieces (a : Option Addr) (len cap : Nat) (xs : List Int) (w : World) (hr : Reads .u8 w a len cap xs) (hN : len < 1000000) :
    Calls Try.prog 7 #[.slice a len cap] w fun e w' => ∃ v, e = .returned v ∧ OwnG shPc 27 w.heap.size w' v (pcsP xs) ∧ Below w.heap.size w w' := by
  have hl := hr.len_le
  have hrm := hr.room
  have HR := hid hr
  have HS := hid hr.size
  have H0 : Hid (([] : List (Int × List Int)) ++ pcsP (xs.drop 0) = pcsP xs) := by rw [Hid, List.drop_zero]; rfl
  clear hr
  go_enter Try.func7, Try.ntmps7
  go_wp2_with fail
  go_loopw [3, 4] (fun ov iv wr => ∃ (i : Nat) (O : List (Int × List Int)), i ≤ len ∧ iv = .int .i64 i ∧ O.length ≤ i ∧ Hid (O ++ pcsP (xs.drop i) = pcsP xs) ∧ Hid (OwnG shPc 27 w.heap.size wr ov O) ∧ Below w.heap.size w wr) (fun _ iv _ => len - (intOf iv).toNat)
  case atStart => exact ⟨0, [], Nat.zero_le _, rfl, Nat.le_refl _, H0, OwnG.nil _ _ _ _, Below.refl _ _⟩
  case round =>
    obtain ⟨i, O, hi, rfl, hOi, hI, hO, hbel⟩ := hrel
    rename World => wo
    by_cases hlt : i < len
    · obtain ⟨b, off, x, rfl, hbw0, hc0, h0, h1, hx⟩ := HR.out.get8 hlt
      have hys : (xs.drop i)[0]? = some x := by rw [dropG_at]; exact hx.out.1
      have hysne : xs.drop i ≠ [] := fun h => by rw [h] at hys; simp at hys
      have hT1 := turn_pos hysne
      have hT2 := turn_le (xs.drop i)
      rw [List.length_drop, HS.out] at hT2
      have hTA := hid (fun (m : Nat) (c : Int) (hm : m ≤ turnN (xs.drop i)) (hc : xs[i + m]? = some c) => turn_at hys hm (by rw [dropG_at]; exact hc))
      have hI2 : Hid ((O ++ [(kdW ((xs.drop i).take (turnN (xs.drop i))), (xs.drop i).take (turnN (xs.drop i)))]) ++ pcsP (xs.drop (i + turnN (xs.drop i))) = pcsP xs) := by
        have h := hI.out
        unfold pcsP at h ⊢
        rw [pcsT_on hysne, List.map_cons] at h
        rw [Hid, ← h, List.drop_drop, List.append_assoc]
        rfl
      obtain ⟨T, hT⟩ : ∃ T, T = turnN (xs.drop i) := ⟨_, rfl⟩
      have hpc := HR.out.piece (l := i) (r := i + T) (by omega) (by omega)
      rw [if_neg (show ¬ cap = i by omega), Option.map_some, Addr.add_lit, List.drop_take, Nat.add_sub_cancel_left] at hpc
      rw [← hT] at hI2 hTA hT1 hT2
      generalize (xs.drop i).take T = P at *
      have HX := hid hpc
      have z0 : (0 : Int) ≤ (i : Int) := by omega
      have z1 : (i : Int) < (len : Int) := by omega
      have z2 : (i : Int) ≤ (cap : Int) := by omega
      clear hI hysne hys hT hpc hx
      go_wp2_with fail
      go_loopw [5] (fun kv w2 => ∃ m q : Nat, m ≤ T ∧ kv = .int .i64 (i + m) ∧ Hid (w2 = wo.drewN q)) (fun kv _ => len - (intOf kv).toNat)
      case atStart => exact ⟨0, 0, Nat.zero_le _, by simp, rfl⟩
      case round =>
        obtain ⟨m, q, hm, rfl, hw2⟩ := hrel
        have hnx := hid (fun k => show wr.drewN k = wo.drewN (q + k) by rw [hw2.out, World.drewN_drewN])
        have hb2 : Below w.heap.size w wr := by rw [hw2.out]; exact Below.drewN hbel q
        have hcI := (hb2.cell (p := ⟨b, off + i, none⟩) hbw0).trans hc0
        by_cases hmT : m < T
        · obtain ⟨b', off', c, hb', _, hcc, g0, g1, hcx⟩ := (HR.out.below hb2).get8 (i := i + m) (by omega)
          cases hb'
          have hE := hTA.out m c hm hcx.out.1
          rw [decide_eq_true hmT, beq_iff_eq] at hE
          obtain ⟨g, hg⟩ : ∃ g, gp x = g := ⟨_, rfl⟩
          have K1 := hid (fun n => gap_draws c g (hE.trans hg) wr n)
          have K2 := hid (fun n => gap_draws x g hg wr n)
          have y0 : (0 : Int) ≤ (i : Int) + (m : Int) := by omega
          have y1 : (i : Int) + (m : Int) < (len : Int) := by omega
          have y2 : ((i : Int) + (m : Int)).toNat = i + m := by omega
          clear hcx hE hg
          cases g
          all_goals
            go_wp2_with fail
            go_quiet (first | (go_at_call 19; with_reducible exact Calls.quiet_of (K1.out _)) | (go_at_call 19; with_reducible exact Calls.quiet_of (K2.out _)))
            go_wp2_with fail
            go_roundw
            case rel => exact ⟨m + 1, q + nq, by omega, by go_num, hnx.out nq⟩
            case measure => simp [intOf]; omega
        · obtain rfl : m = T := by omega
          have hcase : (∃ (c : Int) (g : Bool), ((i : Int) + (m : Int) < (len : Int)) ∧ wr.cell? ⟨b, off + (i + m), none⟩ = some (.int .u8 c) ∧ gp x = g ∧ gp c = !g) ∨ ¬ ((i : Int) + (m : Int) < (len : Int)) := by
            by_cases hk : i + m < len
            · obtain ⟨b', off', c, hb', _, hcc, g0, g1, hcx⟩ := (HR.out.below hb2).get8 hk
              cases hb'
              have hE := hTA.out m c (Nat.le_refl _) hcx.out.1
              rw [decide_eq_false (Nat.lt_irrefl _)] at hE
              refine .inl ⟨c, gp x, by omega, hcc, rfl, ?_⟩
              cases h1 : gp c <;> cases h2 : gp x <;> rw [h1, h2] at hE <;> first | rfl | cases hE
            · exact .inr (by omega)
          have y2 : ((i : Int) + (m : Int)).toNat = i + m := by omega
          have y0 : (0 : Int) ≤ (i : Int) + (m : Int) := by omega
          have y3 : (i : Int) ≤ (i : Int) + (m : Int) := by omega
          have y4 : (i : Int) + (m : Int) ≤ (cap : Int) := by omega
          have y5 : i + m - i = m := by omega
          have y6 : i ≤ i + m := by omega
          have y7 : i + m ≤ cap := by omega
          have r3 : (cap = i) = False := eq_false (by omega)
          have hOr := hO.out.below (show Below wo.heap.size wo wr by rw [hw2.out]; exact Below.drewN (Below.refl _ _) q)
          clear hTA hw2 hnx hO
          rcases hcase with ⟨c, g, y1, hcc, hg1, hg2⟩ | y1
          · have K1 := hid (fun n => gap_draws c (!g) hg2 wr n)
            have K2 := hid (fun n => gap_draws x g hg1 wr n)
            clear hg1 hg2
            cases g
            all_goals
              go_wp2_with fail
              go_quiet (first | (go_at_call 19; with_reducible exact Calls.quiet_of (K1.out _)) | (go_at_call 19; with_reducible exact Calls.quiet_of (K2.out _)))
              go_wp2_with fail
              have hW := Below.drewN hb2 nq
              have OD := (hOr.below (Below.drewN (Below.refl _ _) nq)).below (below_drew (Below.refl (wr.drewN nq).heap.size (wr.drewN nq)))
              have hbD := below_drew hW
              clear hb2 hW hcI hOr
              generalize wr.drewN nq = Wd at *
              go_region_held3 (fun _ => True) (trivial) (first
                | (go_at_call 13; (with_reducible refine (ref32_Kind _ _ _ _ _ (HX.out.below hbD) (by omega)).mono ?_); rintro e w4 ⟨rfl, h4⟩; have t4 := below_then hbD h4; have O4 := OD.below h4)
                | (refine step_pushG (w0 := w) (W := w4) (v := u3) shPc (kdW P, P) (some ⟨b, off + i, none⟩) m (cap - i) rfl (.tmp 30) (.tmp 41) rfl Try.underlying24 infP32 rfl (by decide) (by decide) rfl O4 t4 rfl (HX.out.below t4) (HX.out.off (fun j hj => (O4.lt j hj).1)) (by intro c hc; simp [shPc] at hc; rcases hc with rfl | rfl <;> rfl) (by omega) ?_; intro a5 n5 c5 w5 O5 t5))
              all_goals
                go_wp2_with fail
                go_roundw
                case rel => exact ⟨i + m, O ++ [(kdW P, P)], by omega, by simp, by simp; omega, hI2, O5, t5⟩
                case measure => simp [intOf]; omega
          · have y1d := decide_eq_false y1
            have y1n : (len : Int) ≤ (i : Int) + (m : Int) := by omega
            go_wp2_with fail
            go_quiet (fail)
            go_wp2_with fail
            have hW := Below.drewN hb2 nq
            have OD := (hOr.below (Below.drewN (Below.refl _ _) nq)).below (below_drew (Below.refl (wr.drewN nq).heap.size (wr.drewN nq)))
            have hbD := below_drew hW
            clear hb2 hW hcI hOr
            generalize wr.drewN nq = Wd at *
            go_region_held3 (fun _ => True) (trivial) (first
              | (go_at_call 13; (with_reducible refine (ref32_Kind _ _ _ _ _ (HX.out.below hbD) (by omega)).mono ?_); rintro e w4 ⟨rfl, h4⟩; have t4 := below_then hbD h4; have O4 := OD.below h4)
              | (refine step_pushG (w0 := w) (W := w4) (v := u3) shPc (kdW P, P) (some ⟨b, off + i, none⟩) m (cap - i) rfl (.tmp 30) (.tmp 41) rfl Try.underlying24 infP32 rfl (by decide) (by decide) rfl O4 t4 rfl (HX.out.below t4) (HX.out.off (fun j hj => (O4.lt j hj).1)) (by intro c hc; simp [shPc] at hc; rcases hc with rfl | rfl <;> rfl) (by omega) ?_; intro a5 n5 c5 w5 O5 t5))
            all_goals
              go_wp2_with fail
              go_roundw
              case rel => exact ⟨i + m, O ++ [(kdW P, P)], by omega, by simp, by simp; omega, hI2, O5, t5⟩
              case measure => simp [intOf]; omega
    · obtain rfl : i = len := by omega
      have hn : xs.drop i = [] := List.drop_eq_nil_of_le (by rw [HS.out]; exact Nat.le_refl _)
      have z1 : ¬ (i : Int) < (i : Int) := by omega
      have hI' := hI.out
      rw [hn] at hI'
      have e0 : pcsP [] = [] := by unfold pcsP; rw [pcsT_nil]; rfl
      rw [e0, List.append_nil] at hI'
      have HO2 := hO.out
      rw [hI'] at HO2
      clear hn hI hI'
      go_wp2_with fail
      go_ret
      exact ⟨_, rfl, HO2, hbel⟩
theorem shwN_snoc (l : List (Int × List Int)) (m : Nat) : shwN l (m + 1) = shwN l m ++ (if hidP (l.map Prod.fst) m = true then [] else (l[m]?).toList) := by
  unfold shwN
  rw [List.range_succ, List.filterMap_append, List.filterMap_cons, List.filterMap_nil]
  cases hidP (l.map Prod.fst) m
  · rw [if_neg Bool.false_ne_true, if_neg Bool.false_ne_true]
    cases l[m]? <;> rfl
  · rw [if_pos rfl, if_pos rfl]
theorem shwN_len (l : List (Int × List Int)) (m : Nat) : (shwN l m).length ≤ m := by
  unfold shwN
  exact Nat.le_trans (List.length_filterMap_le _ _) (by rw [List.length_range]; exact Nat.le_refl _)
set_option maxRecDepth 100000 in
set_option maxHeartbeats 1000000 in
theorem ref32_Shown (a : Option Addr) (len cap : Nat) (xs : List Int) (w : World) (hr : Reads .u8 w a len cap xs) (hN : len < 1000000) :
    Calls Try.prog 11 #[.slice a len cap] w fun e w' => ∃ v, e = .returned v ∧ OwnG shPc 27 w.heap.size w' v (shwP xs) ∧ Below w.heap.size w w' := by
  have HP := hid (ref32_Pieces a len cap xs w hr hN)
  have hpl : (pcsP xs).length ≤ len := by
    unfold pcsP
    rw [List.length_map, ← hr.size]
    exact (pcsT_whole xs).2.2
  unfold shwP
  clear hr
  generalize pcsP xs = L at *
  have H0 : Hid (shwN L 0 = []) := by unfold shwN; rfl
  have HSL := hid (fun m => shwN_len L m)
  go_enter Try.func11, Try.ntmps11
  go_wp2_with (go_at_call 7; (with_reducible refine HP.out.mono ?_); rintro e w1 ⟨v1, rfl, hO1, hb1⟩; (obtain ⟨a1, c1, rfl, hR1⟩ := hO1.rows))
  have HR1 := hid hR1
  have T1 := hid hb1
  clear hO1 hR1
  go_loopw [4, 5] (fun ov iv wr => ∃ j : Nat, j ≤ L.length ∧ iv = .int .i64 j ∧ Hid (OwnG shPc 27 w1.heap.size wr ov (shwN L j)) ∧ Below w1.heap.size w1 wr) (fun _ iv _ => L.length - (intOf iv).toNat)
  case atStart => exact ⟨0, Nat.zero_le _, rfl, by rw [Hid, H0.out]; exact OwnG.nil _ _ _ _, Below.refl _ _⟩
  case round =>
    obtain ⟨j, hj, rfl, hO, hbel⟩ := hrel
    by_cases hlt : j < L.length
    · have hH := ref32_Hidden _ _ _ _ j _ (HR1.out.below hbel) hlt (by omega)
      obtain ⟨b, off, k, x, ai, li, ci, rfl, hbw, hck, hcx, hrx, hg, _⟩ := HR1.out.get2 hlt
      have hc1 := (hbel.cell (p := ⟨b, off + j * 2, none⟩) hbw).trans hck
      have hc2 := (hbel.cell (p := ⟨b, off + j * 2 + 1, none⟩) hbw).trans hcx
      have hsn := shwN_snoc L j
      rw [hg] at hsn
      have hsl := HSL.out j
      have hRX := hid (hrx.below hbel)
      have hRO := hid hrx
      have z1 : (j : Int) < (L.length : Int) := by omega
      cases hh : hidP (L.map Prod.fst) j
      · rw [hh, if_neg Bool.false_ne_true] at hsn
        rw [hh] at hH
        have HS : Hid (shwN L (j + 1) = shwN L j ++ [(k, x)]) := hsn
        have H := hid hH
        have O1 := hO.out
        have hsl2 : (shwN L j).length < 100000000000 := by omega
        clear hH hh hsn hg hck hcx hrx hsl hO
        generalize shwN L j = O at *
        go_wp2_with (first
          | (go_at_call 16; (with_reducible refine H.out.mono ?_); rintro e w2 ⟨rfl, rfl⟩)
          | (at_builtin; go_must (refine wpList_pushG shPc (k, x) ai li ci rfl _ _ rfl Try.underlying24 infP32 rfl (by decide) (by decide) (w0 := w1) (W := wr) (v := u4) rfl O1 hbel rfl hRX.out (hRO.out.off (fun i hi => (O1.lt i hi).1)) (by intro c hc; simp [shPc] at hc; rcases hc with rfl | rfl <;> rfl) hsl2 ?_); intro v3 w3 O3 hb3))
        rw [← HS.out] at O3
        go_roundw
        case rel => exact ⟨j + 1, by omega, by go_num, O3, hb3⟩
        case measure => simp [intOf]; omega
      · rw [hh, if_pos rfl, List.append_nil] at hsn
        rw [hh] at hH
        have HS : Hid (shwN L (j + 1) = shwN L j) := hsn
        have H := hid hH
        clear hH hh hsn hg hck hcx hrx hsl
        go_wp2_with (go_at_call 16; (with_reducible refine H.out.mono ?_); rintro e w2 ⟨rfl, rfl⟩)
        go_roundw
        case rel => exact ⟨j + 1, by omega, by go_num, by rw [HS.out]; exact hO, hbel⟩
        case measure => simp [intOf]; omega
    · obtain rfl : j = L.length := by omega
      have O1 := hO.out
      clear hO
      have z1 : ¬ (L.length : Int) < (L.length : Int) := by omega
      go_wp2_with fail
      go_ret
      exact ⟨_, rfl, O1.mono T1.out.size, T1.out.trans (hbel.mono T1.out.size)⟩
end Go.Proofs.Ytkaldjekjgecbaa

/-! Rpo -/
namespace Go.Proofs.Ytkaldjekjgecbaa
open Go.RowKit
set_option linter.unusedVariables false

theorem rwsP_open {H : Type} {enc : TypeId × Value → H} {P : Program} {w : World} {t e q : TypeId} {f0 f1 : Field} (ht : P.underlying t = some (.slice e)) (he : P.underlying e = some (.struct #[f0, f1])) (ce : P.cellsOf e = 2) (o0 : f0.offset = 0) (o1 : f1.offset = 1)
    (h0 : P.underlying f0.type = some (.int .i64)) (h1 : P.underlying f1.type = some (.slice q)) (hq : P.underlying q = some (.int .u8)) (c0 : P.cellsOf f0.type = 1) (c1 : P.cellsOf f1.type = 1) (cq : P.cellsOf q = 1)
    {fuel : Nat} {a : Option Addr} {len cap : Nat} {x : DataW H × List MemPlace} (h : DataW.trod enc P w 0 (fun _ => true) true fuel t [.slice a len cap] = some x) : ∃ xs, RwsG shPc w a len cap xs := by
  rcases Go.Deep.open_slice_pairs ht he ce o0 o1 c0 c1 h with ⟨hcs, _⟩ | ⟨A, l, c, m, n, V0, V1, D0, D1, P0, P1, hcs, _, hl, hm, hmm, _, hx⟩
  · simp at hcs
    obtain ⟨rfl, rfl, rfl⟩ := hcs
    exact ⟨[], RwsG.nil _ _⟩
  · simp at hcs
    obtain ⟨rfl, rfl, rfl⟩ := hcs
    have hmc : m = cap := by simpa using hmm
    have each : ∀ i, i < len → ∃ z : (Int × List Int) × Option Addr × Nat × Nat, w.cell? (A.add (i * 2)) = some (.int .i64 z.1.1) ∧ w.cell? (A.add (i * 2 + 1)) = some (.slice z.2.1 z.2.2.1 z.2.2.2) ∧ Reads .u8 w z.2.1 z.2.2.1 z.2.2.2 z.1.2 := by
      intro i hi
      obtain ⟨e1, e2, e3, e4⟩ := hx i (by omega)
      obtain ⟨k, hk, _, _⟩ := DataW.trod_int h0 e3
      have hk' : V0 i = .int .i64 k := by simpa using hk
      rcases Go.ChangeShapes.open_ints h1 hq cq e4 with ⟨hv, _⟩ | ⟨y, l1, c1', zs, hv, _, hl1, hm1, hz, _, hcell, hwz⟩
      · simp only [List.cons.injEq, and_true] at hv
        exact ⟨((k, []), none, 0, 0), by rw [e1, hk'], by rw [e2, hv], Reads.nil _ _ _ _ (Nat.zero_le _)⟩
      · simp only [List.cons.injEq, and_true] at hv
        exact ⟨((k, zs.take l1), some y, l1, c1'), by rw [e1, hk'], by rw [e2, hv], reads_of_ints hl1 hm1 (by simpa using hz) hcell hwz⟩
    obtain ⟨z, hz⟩ := Go.Deep.choose_lt each
    refine ⟨(List.range len).map fun i => (z i).1, by simp, hl, hm, fun hpos => ?_⟩
    obtain ⟨b, off, spot⟩ := A
    have hc0 := (hz 0 hpos).1
    have hspot : spot = none := by simpa [Addr.add] using World.cell?_spot hc0
    subst hspot
    refine ⟨b, off, rfl, World.block_lt_of_cell? w _ hc0, fun i y hi => ?_⟩
    have hil : i < len := by
      have := (List.getElem?_eq_some_iff.1 hi).1
      simpa using this
    obtain ⟨r1, r2, r3⟩ := hz i hil
    have hy : (z i).1 = y := by
      rw [List.getElem?_map, List.getElem?_range hil] at hi
      exact Option.some.inj hi
    subst hy
    refine ⟨(z i).2.1, (z i).2.2.1, (z i).2.2.2, fun j v hv => ?_, r3⟩
    rw [Addr.add_lit] at r1 r2
    match j, hv with
    | 0, hv =>
      cases hv
      rw [show off + (shPc.sz * i + 0) = off + i * 2 by show off + (2 * i + 0) = off + i * 2; omega]
      exact r1
    | 1, hv =>
      cases hv
      rw [show off + (shPc.sz * i + 1) = off + (i * 2 + 1) by show off + (2 * i + 1) = off + (i * 2 + 1); omega]
      exact r2
    | j + 2, hv => cases hv
end Go.Proofs.Ytkaldjekjgecbaa

/-! D32b -/
namespace Go.Proofs.Ytkaldjekjgecbaa
open Go.RowKit
set_option linter.unusedVariables false

theorem kd_gap {s : List Int} {x : Int} (h : s.head? = some x) : kdW (s.take (turnN s)) = 1 ↔ gp x = true := by
  have hne : s ≠ [] := fun hh => by rw [hh] at h; cases h
  have hp := turn_pos hne
  have hs := turn_same s
  have htn : s.take (turnN s) ≠ [] := by
    intro hh
    have h1 := congrArg List.length hh
    rw [List.length_take, List.length_nil] at h1
    have := List.length_pos_iff.2 hne
    omega
  have hx : x ∈ s.take (turnN s) := by
    cases s with
    | nil => cases h
    | cons y r =>
      cases h
      obtain ⟨m, hm⟩ : ∃ m, turnN (x :: r) = m + 1 := ⟨turnN (x :: r) - 1, by omega⟩
      rw [hm, List.take_succ_cons]
      exact List.mem_cons_self ..
  unfold kdW
  constructor
  · intro hk
    by_cases ha : s.take (turnN s) ≠ [] ∧ (s.take (turnN s)).all gp = true
    · exact List.all_eq_true.1 ha.2 x hx
    · rw [if_neg ha] at hk
      split at hk
      · exact absurd hk (by decide)
      · exact absurd hk (by decide)
  · intro hg
    rw [if_pos ⟨htn, List.all_eq_true.2 fun c hc => by rw [hs c hc x h]; exact hg⟩]
theorem alt_pcs : ∀ s : List Int, ∀ (i : Nat) (t u : List Int), (pcsT s)[i]? = some t → (pcsT s)[i + 1]? = some u → (kdW t = 1 ↔ ¬ kdW u = 1) := by
  refine pcsT_ind (fun i t u h => by rw [pcsT_nil] at h; cases h) fun s hs ih i t u h1 h2 => ?_
  rw [pcsT_on hs] at h1 h2
  cases i with
  | succ i => exact ih i t u (by simpa using h1) (by simpa using h2)
  | zero =>
    rw [List.getElem?_cons_zero] at h1
    cases h1
    have h2 : (pcsT (s.drop (turnN s)))[0]? = some u := by simpa using h2
    by_cases hd : s.drop (turnN s) = []
    · rw [hd, pcsT_nil] at h2; cases h2
    · rw [pcsT_on hd, List.getElem?_cons_zero] at h2
      cases h2
      obtain ⟨x, hx⟩ : ∃ x, s.head? = some x := by
        cases s with
        | nil => exact absurd rfl hs
        | cons x r => exact ⟨x, rfl⟩
      obtain ⟨y, hy⟩ : ∃ y, (s.drop (turnN s)).head? = some y := by
        cases hh : s.drop (turnN s) with
        | nil => exact absurd hh hd
        | cons y r => exact ⟨y, rfl⟩
      have hn := turn_next s x y hx hy
      rw [kd_gap hx, kd_gap hy]
      cases h3 : gp x <;> cases h4 : gp y <;> simp_all
theorem pcsP_at {s : List Int} {i : Nat} {k : Int} {x : List Int} (h : (pcsP s)[i]? = some (k, x)) : k = kdW x ∧ x ≠ [] ∧ (pcsT s)[i]? = some x ∧ x.length ≤ s.length := by
  unfold pcsP at h
  rw [List.getElem?_map, Option.map_eq_some_iff] at h
  obtain ⟨t, ht, he⟩ := h
  cases he
  have hm := List.mem_of_getElem? ht
  refine ⟨rfl, (pcsT_whole s).2.1 _ hm, ht, ?_⟩
  have h1 : x.length ≤ (pcsT s).flatten.length := by
    have key : ∀ L : List (List Int), x ∈ L → x.length ≤ L.flatten.length := by
      intro L
      induction L with
      | nil => intro h; cases h
      | cons y L ih =>
        intro h
        rw [List.flatten_cons, List.length_append]
        rcases List.mem_cons.1 h with rfl | h
        · omega
        · have := ih h; omega
    exact key _ hm
  rwa [(pcsT_whole s).1] at h1
/-- A gap and a run by turns (P32.3). -/
theorem alt_kinds {s : List Int} {i : Nat} {k1 k2 : Int} {x y : List Int} (h1 : (pcsP s)[i]? = some (k1, x)) (h2 : (pcsP s)[i + 1]? = some (k2, y)) : ((k1 == 1) == (k2 == 1)) = false := by
  obtain ⟨e1, _, q1, _⟩ := pcsP_at h1
  obtain ⟨e2, _, q2, _⟩ := pcsP_at h2
  have := alt_pcs s i x y q1 q2
  rw [← e1, ← e2] at this
  by_cases a : k1 = 1 <;> by_cases b : k2 = 1 <;> simp_all
def ngP (p : Int × List Int) : Bool := decide (p.1 ≠ 1)
theorem hid_gap {ks : List Int} {i : Nat} (h : hidP ks i = true) : ks.getD i 0 = 1 := by
  unfold hidP at h
  rw [Bool.and_eq_true, decide_eq_true_eq] at h
  exact h.1
/-- At most the gaps are hidden. -/
theorem shw_count (l : List (Int × List Int)) : ∀ m : Nat, m ≤ l.length → (shwN l m).countP ngP = (l.take m).countP ngP
  | 0, _ => by unfold shwN; simp
  | m + 1, hm => by
    have ih := shw_count l m (by omega)
    have hg : l[m]? = some l[m] := List.getElem?_eq_getElem (by omega)
    have e : shwN l (m + 1) = shwN l m ++ (if hidP (l.map Prod.fst) m = true then [] else [l[m]]) := by
      unfold shwN
      rw [List.range_succ, List.filterMap_append, List.filterMap_cons, List.filterMap_nil]
      cases hidP (l.map Prod.fst) m
      · rw [if_neg Bool.false_ne_true, if_neg Bool.false_ne_true, hg]
      · rw [if_pos rfl, if_pos rfl]
    rw [e, List.take_add_one, hg, List.countP_append, List.countP_append, ih]
    cases hh : hidP (l.map Prod.fst) m
    · rw [if_neg Bool.false_ne_true]; rfl
    · have h1 := hid_gap hh
      rw [List.getD_eq_getElem?_getD, List.getElem?_map, hg] at h1
      have h2 : ngP l[m] = false := by
        unfold ngP
        rw [decide_eq_false (fun h => h (by simpa using h1))]
      rw [if_pos rfl]
      simp [h2]
theorem ng_snoc {L : List (Int × List Int)} {j : Nat} {k : Int} {x : List Int} (ht : L.take (j + 1) = L.take j ++ [(k, x)]) : (L.take (j + 1)).countP ngP = (L.take j).countP ngP + if k = 1 then 0 else 1 := by
  rw [ht, List.countP_append, List.countP_cons, List.countP_nil]
  unfold ngP
  by_cases h : k = 1 <;> simp [h]
end Go.Proofs.Ytkaldjekjgecbaa
