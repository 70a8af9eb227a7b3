/-
  Texts of ours laid together: C32.
-/
import Derived.Test.YtefhddbbiheadaaGreatZ23

/-! C32 -/
namespace Go.Proofs.YtefhddbbiheadaaGreat
open Go.RowKit
set_option linter.unusedVariables false

theorem own_rd {k : IntKind} {e : TypeId} {base : Nat} {w : World} {a : Option Addr} {l c : Nat} {xs : List Int} (h : Own k e base w (.slice a l c) xs) : Reads k w a l c xs := by
  obtain ⟨a3, c3, hv3, r⟩ := h.reads
  cases hv3
  exact r
theorem infEp32 : (Tryz.prog.info? 55).map (fun i => (i.zero, i.size, i.bytes)) = some (some (.agg #[.int .i64 0, .slice none 0 0]), shPc.sz, 32) := by kernel_rfl
set_option maxRecDepth 100000 in
set_option maxHeartbeats 2000000 in
theorem ewtok_PiecesO (a : Option Addr) (len cap : Nat) (xs : List Int) (w : World) (hr : Reads .u8 w a len cap xs) (hN : len < 100000) :
    Calls Tryz.prog 46 #[.slice a len cap] w fun e w' => ∃ v, e = .returned v ∧ OwnG shPc 55 w.heap.size w' v (pcsP xs) ∧ Below w.heap.size w w' := by
  have HR := hid hr
  clear hr
  go_enter Tryz.func46, Tryz.ntmps46
  go_wp2_with fail
  go_loopw [3, 4] (fun ov rv wr => ∃ (a' : Option Addr) (m c' : Nat) (ys : List Int) (O : List (Int × List Int)), rv = .slice a' m c' ∧ O.length + m ≤ len ∧ Hid (Reads .u8 w a' m c' ys) ∧ Hid (O ++ pcsP ys = pcsP xs) ∧ Hid (OwnG shPc 55 w.heap.size wr ov O) ∧ Below w.heap.size w wr) (fun _ rv _ => lenV rv)
  case atStart => exact ⟨a, len, cap, xs, [], rfl, by simp, HR.out, rfl, OwnG.nil _ _ _ _, Below.refl _ _⟩
  case round =>
    obtain ⟨a', m, c', ys, O, rfl, hOm, hRd, hI, hO, hbel⟩ := hrel
    have hrd := hRd.out
    by_cases hlt : 0 < m
    · have hys : ys ≠ [] := fun h => by have := hrd.size; rw [h, List.length_nil] at this; omega
      have hT1 := turn_pos hys
      have hT2 := turn_le ys
      rw [hrd.size] at hT2
      have HL := hid (ewtok_oneLen a' m c' ys wr (hrd.below hbel) hlt)
      have hI2 : Hid ((O ++ [(kdW (ys.take (turnN ys)), ys.take (turnN ys))]) ++ pcsP (ys.drop (turnN ys)) = pcsP xs) := by
        have h := hI.out
        rw [pcsP_on hys] at h
        rw [Hid, ← h, List.append_assoc]
        rfl
      obtain ⟨T, hT⟩ : ∃ T, T = turnN ys := ⟨_, rfl⟩
      rw [← hT] at hT1 hT2 HL hI2
      have hp1 := hrd.pre hT2
      have hp2 := hrd.piece (l := T) (r := m) hT2 (Nat.le_refl _)
      rw [List.take_of_length_le (by have := hrd.size; omega)] at hp2
      have hrm := hrd.room
      have htp := hrd.len_le
      have HP1 := hid hp1
      generalize ys.take T = P at *
      generalize ys.drop T = D at *
      have HC := hid (fun W (hW : Below w.heap.size w W) => bytes_Clone a' T c' P W (HP1.out.below hW) (by omega))
      have HK := hid (fun a2 c2 W (h : Reads .u8 W a2 T c2 P) => ewtok_Kind a2 T c2 P W h (by omega))
      have hOl : O.length < 100000000000 := by omega
      have z1 : (0 : Int) < (m : Int) := by omega
      have q0 : (0 : Int) ≤ (T : Int) := by omega
      have q1 : (T : Int) ≤ (m : Int) := by omega
      have q2 : (T : Int) ≤ (c' : Int) := by omega
      have q3 : (m : Int) ≤ (c' : Int) := by omega
      clear hI hys hT hrd hRd hp1
      generalize kdW P = K at *
      by_cases hc : c' = T
      all_goals
        first | (rw [if_pos hc] at hp2; have r3 : (c' = T) = True := eq_true hc; clear hc) | (rw [if_neg hc] at hp2; have r3 : (c' = T) = False := eq_false hc; clear hc)
        have HP2 := hid hp2
        clear hp2
        go_wp2_with (first
          | (go_at_call 74; (with_reducible refine HL.out.mono ?_); rintro e w1 ⟨rfl, hb1⟩; have t1 := below_then hbel hb1; have O1 := hO.out.below hb1)
          | (go_at_call 75; (with_reducible refine (HC.out _ t1).mono ?_); rintro e w2 ⟨a2, c2, rfl, o2, hb2⟩; have t2 := below_then t1 hb2; have O2 := O1.below hb2; have hof := hid ((New.own o2).off (fun j hj => (O1.lt j hj).2)); have r2 := own_rd o2)
          | (go_at_call 76; (with_reducible refine (HK.out _ _ _ r2).mono ?_); rintro e w3 ⟨rfl, hb3⟩; have t3 := below_then t2 hb3; have O3 := O2.below hb3; have r3 := r2.below hb3)
          | (at_builtin; go_must (refine wpList_pushG shPc (K, P) a2 T c2 rfl _ _ rfl Tryz.underlying53 infEp32 rfl (by decide) (by decide) (w0 := w) (W := w3) (v := u3) rfl O3 t3 rfl r3 hof.out (by intro c hc; simp [shPc] at hc; rcases hc with rfl | rfl <;> rfl) hOl ?_); intro v4 w4 O4 hb4))
        go_roundw
        case rel => exact ⟨_, _, _, D, O ++ [(K, P)], rfl, by rw [List.length_append, List.length_singleton]; omega, HP2, hI2, O4, hb4⟩
        case measure => simp [lenV]; omega
    · obtain rfl : m = 0 := by omega
      obtain rfl : ys = [] := List.eq_nil_of_length_eq_zero hrd.size
      have hI' := hI.out
      rw [pcsP_nil, List.append_nil] at hI'
      have O1 := hO.out
      rw [hI'] at O1
      clear hI hI' hrd hRd hO
      go_wp2_with fail
      go_ret
      exact ⟨_, rfl, O1, hbel⟩
theorem ewtok_Pieces (a : Option Addr) (len cap : Nat) (xs : List Int) (w : World) (hr : Reads .u8 w a len cap xs) (hN : len < 100000) :
    Calls Tryz.prog 46 #[.slice a len cap] w fun e w' => ∃ a' n c', e = .returned (.slice a' n c') ∧ RwsG shPc w' a' n c' (pcsP xs) ∧ Below w.heap.size w w' := by
  refine (ewtok_PiecesO a len cap xs w hr hN).mono ?_
  rintro e w' ⟨v, rfl, hO, hb⟩
  obtain ⟨a', c', rfl, h⟩ := hO.rows
  exact ⟨_, _, _, rfl, h, hb⟩
theorem infBl32 : (Tryz.prog.info? 4).map (fun i => (i.zero, i.size, i.bytes)) = some (some (.bool false), 1, 1) := by kernel_rfl
set_option maxRecDepth 100000 in
set_option maxHeartbeats 2000000 in
theorem ewtok_Hidden (a : Option Addr) (n c : Nat) (ps : List (Int × List Int)) (w : World) (hr : RwsG shPc w a n c ps) (hN : n < 100000) :
    Calls Tryz.prog 52 #[.slice a n c] w fun e w' => ∃ a' m c', e = .returned (.slice a' m c') ∧ RdB w' a' m c' (hidA (ps.map Prod.fst)) ∧ Below w.heap.size w w' := by
  have HR := hid hr
  have hsz := hr.size
  have hKA := hid (fun (j : Nat) (k : Int) (x : List Int) (h : ps[j]? = some (k, x)) => kind_at h)
  have hkl : (ps.map Prod.fst).length = n := by rw [List.length_map, hsz]
  clear hr
  unfold hidA
  rw [hkl]
  generalize ps.map Prod.fst = ks at *
  have HE := hid (fun j => @hidP_edge ks j)
  have HI := hid (fun j => @hidP_in ks j)
  rw [hkl] at HE HI
  clear hkl hsz
  go_enter Tryz.func52, Tryz.ntmps52
  go_wp2_with (at_make; refine wpList_zerosB rfl _ _ rfl Tryz.underlying74 infBl32 (by decide) (w0 := w) rfl rfl (Below.refl _ _) (by omega) ?_; intro g w3 ho3 hb3)
  have HO3 := hid ho3
  clear ho3
  go_loopw [11] (fun iv wr => ∃ j : Nat, j ≤ n ∧ iv = .int .i64 j ∧ Hid (OwnB 4 w.heap.size wr (.slice (some ⟨g, 0, none⟩) n n) ((List.range j).map (hidP ks) ++ List.replicate (n - j) false)) ∧ Below w.heap.size w wr) (fun iv _ => n - (intOf iv).toNat)
  case atStart => exact ⟨0, Nat.zero_le _, rfl, HO3.out, hb3⟩
  case round =>
    obtain ⟨j, hj, rfl, hO, hbel⟩ := hrel
    by_cases hlt : j < n
    · obtain ⟨b, off, k0, x0, ai, li, ci, rfl, hbw, hck, hcx, hrx, hg0, _⟩ := (HR.out.below hbel).get2 hlt
      have hal := hbel.alloc hbel.size (.cells #[.int .i64 k0, .slice ai li ci] 55)
      have BP := Blk.new wr 55 #[.int .i64 k0, .slice ai li ci]
      have d0 := BP.cell (i := 0) rfl
      have O1 := hO.out.below ((Below.refl wr.heap.size wr).alloc (Nat.le_refl _) (.cells #[.int .i64 k0, .slice ai li ci] 55))
      have e0 := hKA.out _ _ _ hg0
      have z1 : (j : Int) < (n : Int) := by omega
      by_cases hin : 0 < j ∧ j + 1 < n
      · obtain ⟨b', off', k1, x1, ai1, li1, ci1, hb', _, hc1, _, _, hg1, _⟩ := (HR.out.below hal).get2 (i := j - 1) (by omega)
        cases hb'
        obtain ⟨b', off', k2, x2, ai2, li2, ci2, hb', _, hc2, _, _, hg2, _⟩ := (HR.out.below hal).get2 (i := j + 1) hin.2
        cases hb'
        have hv := HI.out j hin.1 hin.2
        rw [e0, hKA.out _ _ _ hg1, hKA.out _ _ _ hg2] at hv
        obtain ⟨⟨y, k5⟩, k6⟩ := O1.at hlt
        have hgl := (O1.lt g rfl).1
        have hfb := fill_bools (hidP ks) n j hlt
        rw [hv] at hfb
        have p0 : (0 : Int) < (j : Int) := by omega
        have p1 : (j : Int) < (n : Int) - 1 := by omega
        have p2 : IntKind.i64.wrap ((j : Int) + 1) = (j : Int) + 1 := IntWalk.i64_in _ (by omega)
        have p3 : (0 : Int) ≤ (j : Int) - 1 := by omega
        have p4 : (j : Int) - 1 < (n : Int) := by omega
        have p5 : ((j : Int) - 1).toNat = j - 1 := by omega
        have p6 : ((j : Int) + 1).toNat = j + 1 := by omega
        have p7 : (0 : Int) ≤ (j : Int) + 1 := by omega
        have p8 : (j : Int) + 1 < (n : Int) := by omega
        have HST := hid (fun y => O1.store j y)
        have HSB := hid (fun y => hal.setCell (p := ⟨g, j, none⟩) hgl (.bool y))
        have HF := hid hfb
        clear hrx hg0 hg1 hg2 e0 hO O1 hv hgl hfb
        generalize ((List.range j).map (hidP ks) ++ List.replicate (n - j) false) = F at *
        by_cases h1 : k0 = 1
        · subst h1
          by_cases h2 : k1 = 3
          · subst h2
            have HV : Hid ((decide ((1 : Int) = 1) && (decide ((3 : Int) = 3) && decide (k2 = 3))) = (k2 == 3)) := by rw [Hid, Bool.eq_iff_iff]; simp
            rw [HV.out] at HF
            have HF2 := hid (HF.out ▸ HST.out (k2 == 3))
            go_wp2_with fail
            go_roundw
            case rel => exact ⟨j + 1, by omega, by go_num, HF2.out, HSB.out _⟩
            case measure => simp [intOf]; omega
          · have h2' : (k1 == 3) = false := by simpa using h2
            have HV : Hid ((decide ((1 : Int) = 1) && (decide (k1 = 3) && decide (k2 = 3))) = false) := by rw [Hid, decide_eq_false h2]; simp
            rw [HV.out] at HF
            have HF2 := hid (HF.out ▸ HST.out false)
            clear h2
            go_wp2_with fail
            go_roundw
            case rel => exact ⟨j + 1, by omega, by go_num, HF2.out, HSB.out _⟩
            case measure => simp [intOf]; omega
        · have h1' : (k0 == 1) = false := by simpa using h1
          have HV : Hid ((decide (k0 = 1) && (decide (k1 = 3) && decide (k2 = 3))) = false) := by rw [Hid, decide_eq_false h1]; simp
          rw [HV.out] at HF
          have HF2 := hid (HF.out ▸ HST.out false)
          clear h1
          go_wp2_with fail
          go_roundw
          case rel => exact ⟨j + 1, by omega, by go_num, HF2.out, HSB.out _⟩
          case measure => simp [intOf]; omega
      · have hf := fill_no (hidP ks) n j hlt (HE.out j hin)
        rw [hf] at O1
        have HF := hid O1
        clear hrx hg0 e0 hO O1 hf
        by_cases h0 : 0 < j
        · have p0 : (0 : Int) < (j : Int) := by omega
          have p1 : ¬ (j : Int) < (n : Int) - 1 := by omega
          clear hin
          go_wp2_with fail
          go_roundw
          case rel => exact ⟨j + 1, by omega, by go_num, HF.out, hal⟩
          case measure => simp [intOf]; omega
        · obtain rfl : j = 0 := by omega
          rw [Nat.zero_mul, Nat.add_zero] at hck hcx
          clear hin h0
          go_wp2_with fail
          go_roundw
          case rel => exact ⟨0 + 1, by omega, by go_num, HF.out, hal⟩
          case measure => simp [intOf]; omega
    · obtain rfl : j = n := by omega
      have hO' := hO.out
      rw [Nat.sub_self, List.replicate_zero, List.append_nil] at hO'
      have z1 : ¬ (j : Int) < (j : Int) := by omega
      clear hO
      go_wp2_with fail
      go_ret
      obtain ⟨a6, c6, hv6, h6⟩ := hO'.rdB
      rw [List.length_map, List.length_range] at hv6 h6
      cases hv6
      exact ⟨_, _, _, rfl, h6, hbel⟩
set_option maxRecDepth 100000 in
set_option maxHeartbeats 2000000 in
theorem ewtok_Shown (a : Option Addr) (len cap : Nat) (xs : List Int) (w : World) (hr : Reads .u8 w a len cap xs) (hN : len < 100000) :
    Calls Tryz.prog 33 #[.slice a len cap] w fun e w' => ∃ a' n c', e = .returned (.slice a' n c') ∧ RwsG shPc w' a' n c' (shwP xs) ∧ Below w.heap.size w w' := by
  have HP := hid (ewtok_Pieces a len cap xs w hr hN)
  have hpl := pcsP_len xs
  rw [hr.size] at hpl
  unfold shwP
  clear hr
  generalize pcsP xs = L at *
  have H0 : Hid (shwN L 0 = []) := by unfold shwN; rfl
  have HSL := hid (fun m => shw_len L m)
  have HAT := hid (fun i (hi : i < (L.map Prod.fst).length) => hidA_at (L.map Prod.fst) i hi)
  have HHL := hid (hidA_len (L.map Prod.fst))
  rw [List.length_map] at HAT HHL
  have HH := hid (fun a1 c1 W (h : RwsG shPc W a1 L.length c1 L) => ewtok_Hidden a1 L.length c1 L W h (by omega))
  go_enter Tryz.func33, Tryz.ntmps33
  go_wp2_with (first
    | (go_at_call 46; (with_reducible refine HP.out.mono ?_); rintro e w1 ⟨a1, n1, c1, rfl, hR1, hb1⟩; obtain rfl : L.length = n1 := hR1.size)
    | (go_at_call 52; (with_reducible refine (HH.out _ _ _ hR1).mono ?_); rintro e w2 ⟨a2, m2, c2, rfl, hB2, hb2⟩; obtain rfl : L.length = m2 := HHL.out.symm.trans hB2.size))
  have HR1 := hid (hR1.below hb2)
  have HB2 := hid hB2
  have T2 := hid (below_then hb1 hb2)
  clear hR1 hB2 hb1 hb2
  go_loopw [4, 12] (fun ov iv wr => ∃ j : Nat, j ≤ L.length ∧ iv = .int .i64 j ∧ Hid (OwnG shPc 55 w2.heap.size wr ov (shwN L j)) ∧ Below w2.heap.size w2 wr) (fun _ iv _ => L.length - (intOf iv).toNat)
  case atStart => exact ⟨0, Nat.zero_le _, rfl, by rw [Hid, H0.out]; exact OwnG.nil _ _ _ _, Below.refl _ _⟩
  case round =>
    obtain ⟨j, hj, rfl, hO, hbel⟩ := hrel
    by_cases hlt : j < L.length
    · obtain ⟨b2, o2, rfl, hb2w, hc2⟩ := HB2.out.cell (by omega)
      have hcb := (hbel.cell (p := ⟨b2, o2 + j, none⟩) hb2w).trans (hc2 j hlt)
      rw [HAT.out j hlt] at hcb
      obtain ⟨b, off, k, x, ai, li, ci, rfl, hbw, hck, hcx, hrx, hg, _⟩ := HR1.out.get2 hlt
      have hc1 := (hbel.cell (p := ⟨b, off + j * 2, none⟩) hbw).trans hck
      have hc3 := (hbel.cell (p := ⟨b, off + j * 2 + 1, none⟩) hbw).trans hcx
      have hsn := shw_snoc L j
      rw [hg] at hsn
      have hsl := HSL.out j
      have hRX := hid (hrx.below hbel)
      have hRO := hid hrx
      have z1 : (j : Int) < (L.length : Int) := by omega
      cases hh : hidP (L.map Prod.fst) j
      · rw [hh, if_neg Bool.false_ne_true] at hsn
        rw [hh] at hcb
        have HS : Hid (shwN L (j + 1) = shwN L j ++ [(k, x)]) := hsn
        have O1 := hO.out
        have hsl2 : (shwN L j).length < 100000000000 := by omega
        clear hc2 hh hsn hg hck hcx hrx hsl hO
        generalize shwN L j = O at *
        go_wp2_with (at_builtin; go_must (refine wpList_pushG shPc (k, x) ai li ci rfl _ _ rfl Tryz.underlying53 infEp32 rfl (by decide) (by decide) (w0 := w2) (W := wr) (v := u4) rfl O1 hbel rfl hRX.out (hRO.out.off (fun i hi => (O1.lt i hi).1)) (by intro c hc; simp [shPc] at hc; rcases hc with rfl | rfl <;> rfl) hsl2 ?_); intro v3 w3 O3 hb3)
        rw [← HS.out] at O3
        go_roundw
        case rel => exact ⟨j + 1, by omega, by go_num, O3, hb3⟩
        case measure => simp [intOf]; omega
      · rw [hh, if_pos rfl, List.append_nil] at hsn
        rw [hh] at hcb
        have HS : Hid (shwN L (j + 1) = shwN L j) := hsn
        clear hc2 hh hsn hg hck hcx hrx hsl
        go_wp2_with fail
        go_roundw
        case rel => exact ⟨j + 1, by omega, by go_num, by rw [HS.out]; exact hO, hbel⟩
        case measure => simp [intOf]; omega
    · obtain rfl : j = L.length := by omega
      have O1 := hO.out
      clear hO
      have z1 : ¬ (L.length : Int) < (L.length : Int) := by omega
      go_wp2_with fail
      go_ret
      obtain ⟨a6, c6, hv6, h6⟩ := O1.rows
      subst hv6
      exact ⟨_, _, _, rfl, h6, T2.out.trans (hbel.mono T2.out.size)⟩
end Go.Proofs.YtefhddbbiheadaaGreat
