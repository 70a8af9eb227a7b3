/-
  Texts of ours laid together: C33.
-/
import Derived.Test.YtefhddbbiheadaaGreatZ46

/-! C33 -/
namespace Go.Proofs.YtefhddbbiheadaaGreat
open Go.RowKit
set_option linter.unusedVariables false

set_option maxHeartbeats 1000000 in
theorem ewread_text (k : Int) (a : Option Addr) (len cap : Nat) (xs : List Int) (w : World) (hr : Reads .u8 w a len cap xs) (hN : len < 100000) :
    Calls Tryz.prog 34 #[.agg #[.int .i64 k, .slice a len cap]] w fun e w' => ∃ a' l' c', e = .returned (.slice a' l' c') ∧ Reads .i32 w' a' l' c' (rdPc (k, xs)) ∧ Below w.heap.size w w' := by
  have hal := (Below.refl w.heap.size w).alloc (Nat.le_refl _) (.cells #[.int .i64 k, .slice a len cap] 55)
  have BP := Blk.new w 55 #[.int .i64 k, .slice a len cap]
  have d0 := BP.cell (i := 0) rfl
  have d1 := BP.cell (i := 1) rfl
  have hr1 := hr.below hal
  clear hr
  by_cases hk : k = 3
  · subst hk
    have hp : rdPc ((3 : Int), xs) = ewR xs := rfl
    rw [hp]
    have H1 := hid (ewform_Read a len cap xs _ hr1 hN)
    clear hr1 hp
    generalize ewR xs = R at *
    generalize ewE xs = E at *
    go_enter Tryz.func34, Tryz.ntmps34
    go_wp2_with (go_at_call 54; (with_reducible refine H1.out.mono ?_); rintro e w1 ⟨a1, l1, c1, rfl, r1, hb1⟩)
    go_ret
    exact ⟨_, _, _, rfl, r1, below_then hal hb1⟩
  · have hp : rdPc (k, xs) = txt xs := by unfold rdPc; rw [if_neg hk]
    rw [hp]
    have hk' : (k != 3) = true := by simpa using hk
    have H1 := hid (utfall_Read a len cap xs _ hr1 (by omega))
    clear hr1 hp hk
    generalize txt xs = R at *
    generalize (sigs xs).length = L at *
    go_enter Tryz.func34, Tryz.ntmps34
    go_wp2_with (go_at_call 53; (with_reducible refine H1.out.mono ?_); rintro e w1 ⟨a1, c1, rfl, r1, hb1⟩)
    go_ret
    exact ⟨_, _, _, rfl, r1, below_then hal hb1⟩
theorem infR33c : (Tryz.prog.info? 25).map (fun i => (i.zero, i.size, i.bytes)) = some (some (.slice none 0 0), 1, 24) := by kernel_rfl
set_option maxRecDepth 100000 in
set_option maxHeartbeats 2000000 in
theorem ewread_texts (a : Option Addr) (len cap : Nat) (xs : List Int) (w : World) (hr : Reads .u8 w a len cap xs) (hN : len < 100000) :
    Calls Tryz.prog 20 #[.slice a len cap] w fun e w' => ∃ a' n c', e = .returned (.slice a' n c') ∧ RwsG (shRow .i32) w' a' n c' (lnsP xs) ∧ Below w.heap.size w w' := by
  have hsz := hr.size
  have HS := hid (ewtok_Shown a len cap xs w hr hN)
  have hll := lnsP_len xs
  have hml := hid (fun (p : Int × List Int) (h : p ∈ shwP xs) => shwP_txt h)
  unfold lnsP at hll ⊢
  rw [List.length_map] at hll
  rw [hsz] at hll hml
  clear hr hsz
  generalize shwP xs = L at *
  go_enter Tryz.func20, Tryz.ntmps20
  go_wp2_with (first
    | (go_at_call 33; (with_reducible refine HS.out.mono ?_); rintro e w2 ⟨a2, m2, c2, rfl, hR2, hb2⟩; obtain rfl : L.length = m2 := hR2.size)
    | (at_make; refine wpList_zerosG .i32 rfl _ _ rfl Tryz.underlying30 infR33c (by decide) (w0 := w2) rfl rfl (Below.refl _ _) (by omega) ?_; intro g w3 ho3 hb3))
  have HR2 := hid hR2
  have T2 := hid hb2
  have HO3 := hid ho3
  clear hR2 ho3
  go_loopw [14] (fun iv wr => ∃ j : Nat, j ≤ L.length ∧ iv = .int .i64 j ∧ Hid (OwnG (shRow .i32) 25 w2.heap.size wr (.slice (some ⟨g, 0, none⟩) L.length L.length) ((L.take j).map rdPc ++ List.replicate (L.length - j) [])) ∧ Below w2.heap.size w2 wr) (fun iv _ => L.length - (intOf iv).toNat)
  case atStart => exact ⟨0, Nat.zero_le _, rfl, by rw [Hid, List.take_zero]; exact HO3.out, hb3⟩
  case round =>
    obtain ⟨j, hj, rfl, hO, hbel⟩ := hrel
    by_cases hlt : j < L.length
    · obtain ⟨b, off, k, x, ai, li, ci, rfl, hbw, hck, hcx, hrx, hg, ht⟩ := (HR2.out.below hbel).get2 hlt
      have hxs := hrx.size
      have hxl := hml.out _ (List.mem_of_getElem? hg)
      have hal := hbel.alloc hbel.size (.cells #[.int .i64 k, .slice ai li ci] 55)
      have hal2 := (Below.refl wr.heap.size wr).alloc (Nat.le_refl _) (.cells #[.int .i64 k, .slice ai li ci] 55)
      have BP := Blk.new wr 55 #[.int .i64 k, .slice ai li ci]
      have d0 := BP.cell (i := 0) rfl
      have d1 := BP.cell (i := 1) rfl
      have O1 := hid (hO.out.below hal2)
      have HX := hid (ewread_text k ai li ci x _ (hrx.below hal2) (by dsimp only at hxl; omega))
      have hfr := fill_rows rdPc L hg ht
      generalize ((L.take j).map rdPc ++ List.replicate (L.length - j) []) = O at *
      have HF := hid hfr
      have q1 : (j : Int) < (L.length : Int) := by omega
      clear hrx hg ht hfr hxs hxl hO
      generalize rdPc (k, x) = Y at *
      go_wp2_with (go_at_call 34; (with_reducible refine HX.out.mono ?_); rintro e w4 ⟨a4, l4, c4, rfl, r4, hb4⟩; have O4 := O1.out.below hb4; (obtain ⟨⟨a5, l5, c5, k5⟩, k6⟩ := O4.at1 hlt); have t4 := below_then hal hb4; have O5 := hid (O4.store1 j hlt r4 (O4.full_off r4)); have hgl := (O4.lt g rfl).1; have hb5 := hid (t4.setCell (p := ⟨g, j, none⟩) hgl (.slice a4 l4 c4)); clear O4 hgl r4)
      rw [HF.out] at O5
      go_roundw
      case rel => exact ⟨j + 1, by omega, by go_num, O5, hb5.out⟩
      case measure => simp [intOf]; omega
    · obtain rfl : j = L.length := by omega
      have hO' := hO.out
      rw [List.take_length, Nat.sub_self, List.replicate_zero, List.append_nil] at hO'
      have q1 : ¬ (L.length : Int) < (L.length : Int) := by omega
      clear hO
      go_wp2_with fail
      go_ret
      obtain ⟨a6, c6, hv6, h6⟩ := hO'.rows
      have hlm : (L.map rdPc).length = L.length := List.length_map ..
      rw [hlm] at hv6 h6
      cases hv6
      exact ⟨_, _, _, rfl, h6, T2.out.trans (hbel.mono T2.out.size)⟩
set_option maxHeartbeats 1000000 in
theorem ewread_Lines (a : Option Addr) (len cap : Nat) (xs : List Int) (w : World) (hr : Reads .u8 w a len cap xs) (hN : len < 100000) :
    Calls Tryz.prog 15 #[.slice a len cap] w fun e w' => ∃ a' n c', e = .returned (.slice a' n c') ∧ RwsG (shRow .i32) w' a' n c' (lnsP (unfL xs)) ∧ Below w.heap.size w w' := by
  have hsz := hr.size
  have hul : (unfL xs).length ≤ len := by rw [← hsz]; exact (unfS_len xs false).1
  have H1 := hid (fold_Unfold a len cap xs w hr (by omega))
  have H2 := hid (fun a1 l1 c1 W (h : Reads .u8 W a1 l1 c1 (unfL xs)) => ewread_texts a1 l1 c1 (unfL xs) W h (by have := h.size; omega))
  clear hr hul
  generalize lnsP (unfL xs) = L at *
  generalize unfL xs = U at *
  go_enter Tryz.func15, Tryz.ntmps15
  go_wp2_with (first
    | (go_at_call 27; (with_reducible refine H1.out.mono ?_); rintro e w1 ⟨a1, l1, c1, rfl, r1, hb1⟩)
    | (go_at_call 20; (with_reducible refine (H2.out _ _ _ _ r1).mono ?_); rintro e w2 ⟨a2, n2, c2, rfl, R2, hb2⟩))
  go_ret
  exact ⟨_, _, _, rfl, R2, below_then hb1 hb2⟩
set_option maxHeartbeats 1000000 in
theorem ewread_Read (a : Option Addr) (len cap : Nat) (xs : List Int) (w : World) (hr : Reads .u8 w a len cap xs) (hN : len < 100000) :
    Calls Tryz.prog 9 #[.slice a len cap] w fun e w' => ∃ a' l' c', e = .returned (.slice a' l' c') ∧ Reads .i32 w' a' l' c' (rdL xs) ∧ Below w.heap.size w w' := by
  have hsz := hr.size
  have hul : (unfL xs).length ≤ len := by rw [← hsz]; exact (unfS_len xs false).1
  have h1 := lnsP_len (unfL xs)
  have h2 := rawL_len (unfL xs)
  have HL := hid (ewread_Lines a len cap xs w hr hN)
  unfold rdL
  unfold rawL at h2 ⊢
  clear hr hsz
  generalize lnsP (unfL xs) = L at *
  have HC := hid (fun a1 c1 W (h : RwsG (shRow .i32) W a1 L.length c1 L) => slices_ConcatR a1 L.length c1 L W h (by omega) (by omega))
  generalize L.flatten = F at *
  clear h1 h2 hul
  go_enter Tryz.func9, Tryz.ntmps9
  go_wp2_with (first
    | (go_at_call 15; (with_reducible refine HL.out.mono ?_); rintro e w1 ⟨a1, n1, c1, rfl, R1, hb1⟩; obtain rfl : L.length = n1 := R1.size)
    | (go_at_call 19; (with_reducible refine (HC.out _ _ _ R1).mono ?_); rintro e w2 ⟨v2, rfl, o2, hb2⟩))
  go_ret
  obtain ⟨a3, c3, rfl, r3⟩ := o2.reads
  exact ⟨_, _, _, rfl, r3, below_then hb1 hb2⟩
set_option maxHeartbeats 1000000 in
theorem ewread_Raw (a : Option Addr) (len cap : Nat) (xs : List Int) (w : World) (hr : Reads .u8 w a len cap xs) (hN : len < 100000) :
    Calls Tryz.prog 11 #[.slice a len cap] w fun e w' => ∃ a' l' c', e = .returned (.slice a' l' c') ∧ Reads .i32 w' a' l' c' (rawL xs) ∧ Below w.heap.size w w' := by
  have hsz := hr.size
  have h1 := lnsP_len xs
  have h2 := rawL_len xs
  have HL := hid (ewread_texts a len cap xs w hr hN)
  unfold rawL at h2 ⊢
  rw [hsz] at h1 h2
  clear hr hsz
  generalize lnsP xs = L at *
  have HC := hid (fun a1 c1 W (h : RwsG (shRow .i32) W a1 L.length c1 L) => slices_ConcatR a1 L.length c1 L W h (by omega) (by omega))
  generalize L.flatten = F at *
  clear h1 h2
  go_enter Tryz.func11, Tryz.ntmps11
  go_wp2_with (first
    | (go_at_call 20; (with_reducible refine HL.out.mono ?_); rintro e w1 ⟨a1, n1, c1, rfl, R1, hb1⟩; obtain rfl : L.length = n1 := R1.size)
    | (go_at_call 19; (with_reducible refine (HC.out _ _ _ R1).mono ?_); rintro e w2 ⟨v2, rfl, o2, hb2⟩))
  go_ret
  obtain ⟨a3, c3, rfl, r3⟩ := o2.reads
  exact ⟨_, _, _, rfl, r3, below_then hb1 hb2⟩
theorem infB33c : (Tryz.prog.info? 22).map (fun i => (i.zero, i.size, i.bytes)) = some (some (.slice none 0 0), (shRow .u8).sz, 24) := by kernel_rfl
set_option maxRecDepth 100000 in
set_option maxHeartbeats 2000000 in
theorem ewread_words (a : Option Addr) (len cap : Nat) (xs : List Int) (w : World) (hr : Reads .u8 w a len cap xs) (hN : len < 100000) :
    Calls Tryz.prog 28 #[.slice a len cap] w fun e w' => ∃ a' n c', e = .returned (.slice a' n c') ∧ RwsG (shRow .u8) w' a' n c' (wdsL (unfL xs)) ∧ Below w.heap.size w w' := by
  have hsz := hr.size
  have hul : (unfL xs).length ≤ len := by rw [← hsz]; exact (unfS_len xs false).1
  have H1 := hid (fold_Unfold a len cap xs w hr (by omega))
  have H2 := hid (fun a1 l1 c1 W (h : Reads .u8 W a1 l1 c1 (unfL xs)) => ewtok_Pieces a1 l1 c1 (unfL xs) W h (by have := h.size; omega))
  have hpl := pcsP_len (unfL xs)
  unfold wdsL
  clear hr hsz
  generalize pcsP (unfL xs) = L at *
  generalize unfL xs = U at *
  go_enter Tryz.func28, Tryz.ntmps28
  go_wp2_with (first
    | (go_at_call 27; (with_reducible refine H1.out.mono ?_); rintro e w1 ⟨a1, l1, c1, rfl, r1, hb1⟩)
    | (go_at_call 46; (with_reducible refine (H2.out _ _ _ _ r1).mono ?_); rintro e w2 ⟨a2, n2, c2, rfl, R2, hb2⟩; obtain rfl : L.length = n2 := R2.size))
  have HR2 := hid R2
  have T2 := hid (below_then hb1 hb2)
  clear R2 r1 hb1 hb2
  go_loopw [3, 10] (fun ov iv wr => ∃ j : Nat, j ≤ L.length ∧ iv = .int .i64 j ∧ Hid (OwnG (shRow .u8) 22 w2.heap.size wr ov (wdsP (L.take j))) ∧ Below w2.heap.size w2 wr) (fun _ iv _ => L.length - (intOf iv).toNat)
  case atStart => exact ⟨0, Nat.zero_le _, rfl, by rw [Hid, List.take_zero]; exact OwnG.nil _ _ _ _, Below.refl _ _⟩
  case round =>
    obtain ⟨j, hj, rfl, hO, hbel⟩ := hrel
    by_cases hlt : j < L.length
    · obtain ⟨b, off, k, x, ai, li, ci, rfl, hbw, hck, hcx, hrx, hg, ht⟩ := HR2.out.get2 hlt
      have hc1 := (hbel.cell (p := ⟨b, off + j * 2, none⟩) hbw).trans hck
      have hc3 := (hbel.cell (p := ⟨b, off + j * 2 + 1, none⟩) hbw).trans hcx
      have hsn := wds_snoc ht
      have hal := hbel.alloc hbel.size (.cells #[.int .i64 k, .slice ai li ci] 55)
      have hal2 := (Below.refl wr.heap.size wr).alloc (Nat.le_refl _) (.cells #[.int .i64 k, .slice ai li ci] 55)
      have BP := Blk.new wr 55 #[.int .i64 k, .slice ai li ci]
      have d0 := BP.cell (i := 0) rfl
      have d1 := BP.cell (i := 1) rfl
      have hRX := hid (hrx.below hal)
      have hRO := hid hrx
      have O1 := hO.out.below hal2
      have hwl := wdsP_len (L.take j)
      rw [List.length_take] at hwl
      have z1 : (j : Int) < (L.length : Int) := by omega
      have hl2 : (wdsP (L.take j)).length < 100000000000 := by omega
      clear hg ht hck hcx hrx hO hwl
      by_cases hk : k = 3
      · subst hk
        rw [if_pos rfl] at hsn
        have HS := hid hsn
        clear hsn
        generalize wdsP (L.take j) = O at *
        go_wp2_with (at_builtin; go_must (refine wpList_pushG (shRow .u8) x ai li ci rfl _ _ rfl Tryz.underlying49 infB33c rfl (by decide) (by decide) (w0 := w2) (W := wr.alloc (.cells #[.int .i64 3, .slice ai li ci] 55)) (v := u3) rfl O1 hal (by rw [World.size_alloc]; rfl) hRX.out (hRO.out.off (fun i hi => (O1.lt i hi).1)) (by intro c hc; cases hc with | head => rfl | tail _ h => cases h) hl2 ?_); intro v3 w3 O3 hb3)
        rw [← HS.out] at O3
        go_roundw
        case rel => exact ⟨j + 1, by omega, by go_num, O3, hb3⟩
        case measure => simp [intOf]; omega
      · rw [if_neg hk, List.append_nil] at hsn
        have hk' : (k == 3) = false := by simpa using hk
        rw [← hsn] at O1
        have O2 := hid O1
        clear hk hsn O1
        go_wp2_with fail
        go_roundw
        case rel => exact ⟨j + 1, by omega, by go_num, O2.out, hal⟩
        case measure => simp [intOf]; omega
    · obtain rfl : j = L.length := by omega
      have hO' := hO.out
      rw [List.take_length] at hO'
      have z1 : ¬ (L.length : Int) < (L.length : Int) := by omega
      clear hO
      go_wp2_with fail
      go_ret
      obtain ⟨a6, c6, rfl, h6⟩ := hO'.rows
      exact ⟨_, _, _, rfl, h6, T2.out.trans (hbel.mono T2.out.size)⟩
set_option maxRecDepth 100000 in
set_option maxHeartbeats 1000000 in
theorem ewread_Odd (a : Option Addr) (len cap : Nat) (xs : List Int) (w : World) (hr : Reads .u8 w a len cap xs) (hN : len < 100000) :
    Calls Tryz.prog 17 #[.slice a len cap] w fun e w' => e = .returned (.int .i64 (oddN (unfL xs))) ∧ Below w.heap.size w w' := by
  have hsz := hr.size
  have hul : (unfL xs).length ≤ len := by rw [← hsz]; exact (unfS_len xs false).1
  have HW := hid (ewread_words a len cap xs w hr hN)
  have hml := hid (fun (x : List Int) (h : x ∈ wdsL (unfL xs)) => Nat.le_trans (wdsL_mem h) hul)
  have hwl : (wdsL (unfL xs)).length ≤ len := Nat.le_trans (wdsP_len _) (Nat.le_trans (pcsP_len _) hul)
  rw [odd_words]
  clear hr hsz hul
  generalize wdsL (unfL xs) = L at *
  obtain ⟨N, hN2⟩ : ∃ N, N = L.countP (fun x => !ewS x) := ⟨_, rfl⟩
  rw [← hN2]
  have HN2 := hid hN2
  clear hN2
  go_enter Tryz.func17, Tryz.ntmps17
  go_wp2_with (go_at_call 28; (with_reducible refine HW.out.mono ?_); rintro e w1 ⟨a1, n1, c1, rfl, R1, hb1⟩; obtain rfl : L.length = n1 := R1.size)
  have HR1 := hid R1
  have T1 := hid hb1
  clear R1 hb1
  go_loopw [3, 9] (fun nv iv wr => ∃ (j m : Nat), j ≤ L.length ∧ iv = .int .i64 j ∧ nv = .int .i64 m ∧ m ≤ j ∧ Hid (m = (L.take j).countP (fun x => !ewS x)) ∧ Below w1.heap.size w1 wr) (fun _ iv _ => L.length - (intOf iv).toNat)
  case atStart => exact ⟨0, 0, Nat.zero_le _, rfl, rfl, Nat.le_refl _, by rw [Hid, List.take_zero]; rfl, Below.refl _ _⟩
  case round =>
    obtain ⟨j, m, hj, rfl, rfl, hmj, hm, hb⟩ := hrel
    by_cases hlt : j < L.length
    · obtain ⟨b, off, x, ai, li, ci, rfl, hbw, hc, hx, hg, ht⟩ := (HR1.out.below hb).get1 hlt
      have hxs := hx.size
      have hxl := hml.out x (List.mem_of_getElem? hg)
      have HS := hid (ewform_Strict ai li ci x wr hx (by omega))
      have hsn := odd_on ht
      rw [← hm.out] at hsn
      have q1 : (j : Int) < (L.length : Int) := by omega
      clear hx hg ht hxs hxl hm
      generalize ewS x = S at *
      cases S
      · rw [if_neg Bool.false_ne_true] at hsn
        have HN := hid hsn.symm
        clear hsn
        go_wp2_with (go_at_call 30; (with_reducible refine HS.out.mono ?_); rintro e w2 ⟨rfl, hb2⟩)
        go_roundw
        case rel => exact ⟨j + 1, m + 1, by omega, by go_num, by go_num, by omega, HN, below_then hb hb2⟩
        case measure => simp [intOf]; omega
      · rw [if_pos rfl, Nat.add_zero] at hsn
        have HN := hid hsn.symm
        clear hsn
        go_wp2_with (go_at_call 30; (with_reducible refine HS.out.mono ?_); rintro e w2 ⟨rfl, hb2⟩)
        go_roundw
        case rel => exact ⟨j + 1, m, by omega, by go_num, rfl, by omega, HN, below_then hb hb2⟩
        case measure => simp [intOf]; omega
    · obtain rfl : j = L.length := by omega
      have hk' := hm.out
      rw [List.take_length, ← HN2.out] at hk'
      subst hk'
      have q1 : ¬ (L.length : Int) < (L.length : Int) := by omega
      clear hm
      go_wp2_with fail
      go_ret
      exact ⟨rfl, T1.out.trans (hb.mono T1.out.size)⟩
theorem ewH_wfC (s : List Int) : (Lit.int .i64 (ewH s)).wf = true := by
  have key : 0 ≤ csN (keyB (ewN s)) ∧ csN (keyB (ewN s)) ≤ 5 := by
    by_cases h0 : csN (keyB (ewN s)) = 0
    · omega
    · obtain ⟨k, hk, e, _, _⟩ := first1_some h0
      have e' : csN (keyB (ewN s)) = (k : Int) + 1 := e
      omega
  have h : 0 ≤ ewH s ∧ ewH s ≤ 5 := by
    unfold ewH
    split
    · split
      · exact key
      · omega
    · omega
  exact WalkArith.wf_i64 (by omega)
set_option maxRecDepth 100000 in
set_option maxHeartbeats 1000000 in
theorem ewread_Charsets (a : Option Addr) (len cap : Nat) (xs : List Int) (w : World) (hr : Reads .u8 w a len cap xs) (hN : len < 100000) :
    Calls Tryz.prog 16 #[.slice a len cap] w fun e w' => ∃ a' l' c', e = .returned (.slice a' l' c') ∧ Reads .i64 w' a' l' c' (setsL (unfL xs)) ∧ Below w.heap.size w w' := by
  have hsz := hr.size
  have hul : (unfL xs).length ≤ len := by rw [← hsz]; exact (unfS_len xs false).1
  have HW := hid (ewread_words a len cap xs w hr hN)
  have hml := hid (fun (x : List Int) (h : x ∈ wdsL (unfL xs)) => Nat.le_trans (wdsL_mem h) hul)
  have hwl : (wdsL (unfL xs)).length ≤ len := Nat.le_trans (wdsP_len _) (Nat.le_trans (pcsP_len _) hul)
  rw [set_words]
  clear hr hsz hul
  generalize wdsL (unfL xs) = L at *
  go_enter Tryz.func16, Tryz.ntmps16
  go_wp2_with (go_at_call 28; (with_reducible refine HW.out.mono ?_); rintro e w1 ⟨a1, n1, c1, rfl, R1, hb1⟩; obtain rfl : L.length = n1 := R1.size)
  have HR1 := hid R1
  have T1 := hid hb1
  clear R1 hb1
  go_loopw [3, 9] (fun ov iv wr => ∃ (j : Nat), j ≤ L.length ∧ iv = .int .i64 j ∧ Hid (Own .i64 3 w1.heap.size wr ov ((L.take j).map ewH)) ∧ Below w1.heap.size w1 wr) (fun _ iv _ => L.length - (intOf iv).toNat)
  case atStart => exact ⟨0, Nat.zero_le _, rfl, by rw [Hid, List.take_zero]; exact Own.nil _ _ _ _, Below.refl _ _⟩
  case round =>
    obtain ⟨j, hj, rfl, hO, hb⟩ := hrel
    by_cases hlt : j < L.length
    · obtain ⟨b, off, x, ai, li, ci, rfl, hbw, hc, hx, hg, ht⟩ := (HR1.out.below hb).get1 hlt
      have hxs := hx.size
      have hxl := hml.out x (List.mem_of_getElem? hg)
      have HS := hid (ewform_Charset ai li ci x wr hx (by omega))
      have hsn := set_on ht
      have hwf := hid (ewH_wfC x)
      have O1 := hO.out
      have hol : ((L.take j).map ewH).length < 1000000000000 := by rw [List.length_map, List.length_take]; omega
      have q1 : (j : Int) < (L.length : Int) := by omega
      have HN := hid hsn
      clear hx hg ht hxs hxl hO hsn
      generalize ewH x = H at *
      generalize (L.take j).map ewH = O at *
      go_wp2_with (first
        | (go_at_call 29; (with_reducible refine HS.out.mono ?_); rintro e w2 ⟨rfl, hb2⟩; have O2 := O1.below hb2; have t2 := below_then hb hb2)
        | (at_builtin; go_must (refine wpList_push STN rfl _ _ rfl rfl ⟨_, rfl⟩ O2 t2 hol hwf.out ?_); intro v3 w3 O3 hb3))
      rw [← HN.out] at O3
      go_roundw
      case rel => exact ⟨j + 1, by omega, by go_num, O3, hb3⟩
      case measure => simp [intOf]; omega
    · obtain rfl : j = L.length := by omega
      have hO' := hO.out
      rw [List.take_length] at hO'
      have q1 : ¬ (L.length : Int) < (L.length : Int) := by omega
      clear hO
      go_wp2_with fail
      go_ret
      obtain ⟨a6, c6, rfl, h6⟩ := hO'.reads
      exact ⟨_, _, _, rfl, h6, T1.out.trans (hb.mono T1.out.size)⟩
end Go.Proofs.YtefhddbbiheadaaGreat
