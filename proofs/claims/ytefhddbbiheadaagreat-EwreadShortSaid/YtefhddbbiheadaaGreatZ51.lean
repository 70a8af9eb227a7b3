/-
  Texts of ours laid together: R33.
-/
import Derived.Test.YtefhddbbiheadaaGreatZ50

/-! R33 -/
namespace Go.Proofs.YtefhddbbiheadaaGreat
open Go.RowKit
set_option linter.unusedVariables false

theorem lns_snoc {L : List (Int × List Int)} {j : Nat} {k : Int} {x : List Int} (ht : L.take (j + 1) = L.take j ++ [(k, x)]) : (L.take (j + 1)).map rdPc = (L.take j).map rdPc ++ [rdPc (k, x)] := by rw [ht, List.map_append]; rfl
theorem set_snoc {L : List (Int × List Int)} {j : Nat} {k : Int} {x : List Int} (ht : L.take (j + 1) = L.take j ++ [(k, x)]) : setP (L.take (j + 1)) = setP (L.take j) ++ (if k = 3 then [ewH x] else []) := by
  rw [ht]
  unfold setP
  rw [List.filter_append, List.map_append]
  congr 1
  by_cases h : k = 3 <;> simp [h]
theorem odd_snoc {L : List (Int × List Int)} {j : Nat} {k : Int} {x : List Int} (ht : L.take (j + 1) = L.take j ++ [(k, x)]) : oddP (L.take (j + 1)) = oddP (L.take j) + if k = 3 ∧ ewS x = false then 1 else 0 := by
  rw [ht]
  unfold oddP
  rw [List.countP_append, List.countP_cons, List.countP_nil]
  by_cases h : k = 3
  · cases ewS x <;> simp [h]
  · simp [h]
theorem setP_len (L : List (Int × List Int)) : (setP L).length ≤ L.length := by
  unfold setP
  rw [List.length_map]
  exact List.length_filter_le _ _
theorem oddP_len (L : List (Int × List Int)) : oddP L ≤ L.length := List.countP_le_length
theorem ewH_bd (s : List Int) : 0 ≤ ewH s ∧ ewH s ≤ 5 := by
  have key : 0 ≤ csN (keyB (ewN s)) ∧ csN (keyB (ewN s)) ≤ 5 := by
    by_cases h0 : csN (keyB (ewN s)) = 0
    · omega
    · obtain ⟨k, hk, e, _, _⟩ := first1_some h0
      have e' : csN (keyB (ewN s)) = (k : Int) + 1 := e
      omega
  unfold ewH
  split
  · split
    · exact key
    · omega
  · omega
theorem ewH_wf (s : List Int) : (Lit.int .i64 (ewH s)).wf = true := by
  have := ewH_bd s
  exact WalkArith.wf_i64 (by omega)
theorem flat_mem33 {L : List (List Int)} {x : List Int} (h : x ∈ L) : x.length ≤ L.flatten.length := by
  induction L with
  | nil => cases h
  | cons y L ih =>
    rw [List.flatten_cons, List.length_append]
    rcases List.mem_cons.1 h with rfl | h
    · omega
    · have := ih h; omega
theorem infR33 : (Tryz.prog.info? 25).map (fun i => (i.zero, i.size, i.bytes)) = some (some (.slice none 0 0), (shRow .i32).sz, 24) := by kernel_rfl
set_option maxRecDepth 100000 in
set_option maxHeartbeats 4000000 in
theorem ref33_Lines (a : Option Addr) (len cap : Nat) (xs : List Int) (w : World) (hr : Reads .u8 w a len cap xs) (hN : len < 100000) :
    Calls Tryz.prog 14 #[.slice a len cap] w fun e w' => ∃ v u, e = .returned (.tuple #[v, .int .i64 (oddN xs), u]) ∧ OwnG (shRow .i32) 25 w.heap.size w' v (lnsP xs) ∧ Own .i64 3 w.heap.size w' u (setsL xs) ∧ Below w.heap.size w w' := by
  have HP := hid (ref32_Shown a len cap xs w hr (by omega))
  have hsz := hr.size
  have hml : (shwP xs).length ≤ len := by
    have h1 : (shwP xs).length ≤ (pcsP xs).length := (shwP_sub xs).length_le
    have h2 : (pcsP xs).length ≤ len := by
      unfold pcsP
      rw [List.length_map, ← hsz]
      exact (pcsT_whole xs).2.2
    omega
  have HXL := hid (fun (i : Nat) (p : Int × List Int) (h : (shwP xs)[i]? = some p) => by
    have h1 := (shwP_mem (List.mem_of_getElem? h)).2
    have h2 : p.2.length ≤ (pcsT xs).flatten.length := flat_mem33 h1
    rw [(pcsT_whole xs).1, hsz] at h2
    exact h2)
  unfold lnsP oddN setsL
  clear hr hsz
  generalize shwP xs = M at *
  go_enter Tryz.func14, Tryz.ntmps14
  go_wp2_with (go_at_call 22; (with_reducible refine HP.out.mono ?_); rintro e w1 ⟨v1, rfl, hO1, hb1⟩; (obtain ⟨a1, c1, rfl, hR1⟩ := hO1.rows))
  have HR1 := hid hR1
  have T1 := hid hb1
  clear hO1 hR1
  go_loopw [5, 6, 7, 9] (fun ov sv nv iv wr => ∃ j : Nat, j ≤ M.length ∧ iv = .int .i64 j ∧ nv = .int .i64 (oddP (M.take j)) ∧ Hid (OwnT (shRow .i32) 25 21 w1.heap.size wr ov ((M.take j).map rdPc)) ∧ Hid (Own .i64 3 w1.heap.size wr sv (setP (M.take j))) ∧ Below w1.heap.size w1 wr) (fun _ _ _ iv _ => M.length - (intOf iv).toNat)
  case atStart => exact ⟨0, Nat.zero_le _, rfl, rfl, OwnT.nil _ _ _ _ _, Own.nil _ _ _ _, Below.refl _ _⟩
  case round =>
    obtain ⟨j, hj, rfl, rfl, hO, hS, hbel⟩ := hrel
    by_cases hlt : j < M.length
    · obtain ⟨b, off, k, x, ai, li, ci, rfl, hbw, hck0, hcx0, hx, hg, ht⟩ := HR1.out.get2 hlt
      have hck := (hbel.cell (p := ⟨b, off + j * 2, none⟩) hbw).trans hck0
      have hcx := (hbel.cell (p := ⟨b, off + j * 2 + 1, none⟩) hbw).trans hcx0
      have hxl := HXL.out j _ hg
      have hxs := hx.size
      have hl9 : li < 100000 := by dsimp only at hxl; omega
      have HX := hid hx
      have h1 := lns_snoc ht
      have h2 := set_snoc ht
      have h3 := odd_snoc ht
      have hoM := oddP_len (M.take j)
      have hsM := setP_len (M.take j)
      rw [List.length_take] at hoM hsM
      have hmL : ((M.take j).map rdPc).length < 100000000000 := by rw [List.length_map, List.length_take]; omega
      have hsL : (setP (M.take j)).length + 1 < 1000000000000 := by omega
      have hoL : oddP (M.take j) < 1000000 := by omega
      have hrow : ∀ W, Own .i64 3 w1.heap.size W u6 (setP (M.take j)) → ∀ i C fz, u6.ownBlock = some i → W.heap[i]? ≠ some (.cells C 21 fz) := fun W h i C fz hi hc => absurd (rowG_type h.1 i C _ fz hi hc) (by decide)
      have O0 := hO.out
      have S0 := hS.out
      have q1 : (j : Int) < (M.length : Int) := by omega
      clear hg ht hxl hoM hsM hO hS hx hxs
      by_cases hk : k = 3
      · subst hk
        have hp : rdPc ((3 : Int), x) = ewR x := rfl
        rw [hp] at h1
        rw [if_pos rfl] at h2
        have HE1 := hid h1
        have HE2 := hid h2
        have HE3 := hid h3
        have G1 := hid (ref29_ReadO ai li ci x wr (HX.out.below hbel) (by omega))
        have G2 := hid (fun W (hW : Below w1.heap.size w1 W) => ref29_Charset ai li ci x W (HX.out.below hW) (by omega))
        have G3 := hid (fun W (hW : Below w1.heap.size w1 W) => ref29_Strict ai li ci x W (HX.out.below hW) (by omega))
        have hwf := hid (ewH_wf x)
        have hbd := ewH_bd x
        generalize ewH x = H at *
        generalize ewR x = RX at *
        generalize (M.take j).map rdPc = OL at *
        generalize setP (M.take j) = SL at *
        generalize oddP (M.take j) = N at *
        clear h1 h2 h3 hp hbd
        cases hs : ewS x
        all_goals
          rw [hs] at G3 HE3
          clear hs
          go_wp2_with (first
            | (go_at_call 25; (with_reducible refine (G3.out _ hb6).mono ?_); rintro e w7 ⟨rfl, hb7⟩; have t7 := below_then hb6 hb7; have O7 := O6.below hb7; have S7 := S6.below hb7)
            | (at_builtin; have hY := S5; clear hY; go_must (refine wpList_moreO (B0 := w1.heap.size) (W := w5.alloc (.cells #[.int .i64 H] 3)) (v := u6) (ao := some ⟨w5.heap.size, 0, none⟩) (m := 1) (c := 1) (ys := [H]) STN rfl _ _ rfl rfl rfl (S5.below ((Below.refl _ _).alloc (Nat.le_refl _) _)) (by rw [World.size_alloc]; have := t5.size; omega) (Reads.lit .i64 3 w5 [H] (by simp [maxLen]) (by intro y hy; simp at hy; subst hy; exact hwf.out)) hsL ?_); intro a6 n6 c6 w6 S6 hg6 hk6; have S5a := S5.below ((Below.refl _ _).alloc (Nat.le_refl _) (.cells #[.int .i64 H] 3)); have O5a := O5.below ((Below.refl _ _).alloc (Nat.le_refl _) (.cells #[.int .i64 H] 3)); have O6 := O5a.kept hg6 ((O5a.apart S5a (by decide)).1) (hrow _ S5a); have hb6 := (t5.alloc t5.size (.cells #[.int .i64 H] 3)).grown hg6 (by rw [World.size_alloc]; have := t5.size; omega) (fun i hi => (S5a.1.lt i hi).1); have hc6 := (hb6.cell (p := ⟨b, off + j * 2 + 1, none⟩) hbw).trans hcx0)
            | (go_at_call 24; (with_reducible refine (G2.out _ hb4).mono ?_); rintro e w5 ⟨rfl, hb5⟩; have t5 := below_then hb4 hb5; have O5 := O4.below hb5; have S5 := S4.below hb5)
            | (at_builtin; go_must (refine wpList_pushT (shRow .i32) RX a3 l3 c3 rfl _ _ rfl Tryz.underlying30 infR33 rfl (by decide) (by decide) (eP := 21) (by decide) (B := w1.heap.size) (W := w3) (v := u5) rfl O3 (Nat.le_trans hbel.size hb3.size) rfl r3 (Typed.own ho3) (by intro c hc; cases hc with | head => rfl | tail _ h => cases h) hmL ?_); intro a4 n4 c4 w4 O4 hg4; have hb4 := ((below_then hbel hb3).alloc (below_then hbel hb3).size (.cells #[.slice a3 l3 c3] 25)).grown hg4 (by rw [World.size_alloc]; have := (below_then hbel hb3).size; omega) (fun i hi => (O3.lt i hi).1); have S3a := (S0.below hb3).below ((Below.refl _ _).alloc (Nat.le_refl _) (.cells #[.slice a3 l3 c3] 25)); have O3a := O3.below ((Below.refl _ _).alloc (Nat.le_refl _) (.cells #[.slice a3 l3 c3] 25)); have S4 := S3a.keptBy hg4 ((O3a.apart S3a (by decide)).2); have hc4 := (hb4.cell (p := ⟨b, off + j * 2 + 1, none⟩) hbw).trans hcx0)
            | (go_at_call 23; (with_reducible refine G1.out.mono ?_); rintro e w3 ⟨a3, l3, c3, rfl, ho3, hb3⟩; (obtain ⟨a3', c3', hv3, r3⟩ := ho3.reads); have O3 := O0.below hb3; simp only [Value.slice.injEq] at hv3; (obtain ⟨rfl, hl3, rfl⟩ := hv3); rw [← hl3] at r3; clear hl3))
          rw [← HE1.out] at O7
          rw [← HE2.out] at S7
          have HE4 := hid HE3.out
          go_roundw
          case rel => exact ⟨j + 1, by omega, by go_num, by rw [HE4.out]; simp, O7, S7, t7⟩
          case measure => simp [intOf]; omega
      · have hp : rdPc (k, x) = txt x := by unfold rdPc; rw [if_neg hk]
        rw [hp] at h1
        rw [if_neg hk, List.append_nil] at h2
        rw [if_neg (fun h => hk h.1), Nat.add_zero] at h3
        have HE1 := hid h1
        have HE2 := hid h2
        have HE3 := hid h3
        have hk' : (k == 3) = false := by simpa using hk
        have G1 := hid (ref05_ReadO ai li ci x wr (HX.out.below hbel) (by omega))
        have htl := hid (txt_len x)
        generalize txt x = RX at *
        generalize brkP (sigs x) = b1 at *
        generalize errP (sigs x) = b2 at *
        obtain ⟨SLn, hSLn⟩ : ∃ n, n = (sigs x).length := ⟨_, rfl⟩
        rw [← hSLn] at G1 htl
        clear hSLn
        generalize (M.take j).map rdPc = OL at *
        generalize setP (M.take j) = SL at *
        generalize oddP (M.take j) = N at *
        clear h1 h2 h3 hp hk
        go_wp2_with (first
          | (at_builtin; go_must (refine wpList_pushT (shRow .i32) RX a3 SLn c3 rfl _ _ rfl Tryz.underlying30 infR33 rfl (by decide) (by decide) (eP := 21) (by decide) (B := w1.heap.size) (W := w3) (v := u5) rfl O3 (Nat.le_trans hbel.size hb3.size) rfl r3 (Typed.own ho3) (by intro c hc; cases hc with | head => rfl | tail _ h => cases h) hmL ?_); intro a4 n4 c4 w4 O4 hg4; have hb4 := ((below_then hbel hb3).alloc (below_then hbel hb3).size (.cells #[.slice a3 SLn c3] 25)).grown hg4 (by rw [World.size_alloc]; have := (below_then hbel hb3).size; omega) (fun i hi => (O3.lt i hi).1); have S3a := (S0.below hb3).below ((Below.refl _ _).alloc (Nat.le_refl _) (.cells #[.slice a3 SLn c3] 25)); have O3a := O3.below ((Below.refl _ _).alloc (Nat.le_refl _) (.cells #[.slice a3 SLn c3] 25)); have S4 := S3a.keptBy hg4 ((O3a.apart S3a (by decide)).2))
          | (go_at_call 26; (with_reducible refine G1.out.mono ?_); rintro e w3 ⟨a3, c3, rfl, ho3, hb3⟩; (obtain ⟨a3', c3', hv3, r3⟩ := ho3.reads); have O3 := O0.below hb3; simp only [Value.slice.injEq] at hv3; (obtain ⟨rfl, hl3, rfl⟩ := hv3); rw [← hl3] at r3; clear hl3))
        rw [← HE1.out] at O4
        rw [← HE2.out] at S4
        go_roundw
        case rel => exact ⟨j + 1, by omega, by go_num, by rw [HE3.out]; simp, O4, S4, hb4⟩
        case measure => simp [intOf]; omega
    · obtain rfl : j = M.length := by omega
      have q1 : ¬ (M.length : Int) < (M.length : Int) := by omega
      have O1 := hO.out
      have S1 := hS.out
      rw [List.take_length] at O1 S1
      clear hO hS
      have e1 : M.take M.length = M := List.take_length
      rw [e1]
      go_wp2_with fail
      go_ret3
      exact ⟨_, _, rfl, (O1.ownG (by decide)).mono T1.out.size, own_mono S1 T1.out.size, T1.out.trans (hbel.mono T1.out.size)⟩
theorem raw_take (L : List (List Int)) (j : Nat) : (L.take j).flatten.length ≤ L.flatten.length := by
  conv => rhs; rw [← List.take_append_drop j L, List.flatten_append, List.length_append]
  omega
set_option maxRecDepth 100000 in
set_option maxHeartbeats 1000000 in
theorem ref33_Raw (a : Option Addr) (len cap : Nat) (xs : List Int) (w : World) (hr : Reads .u8 w a len cap xs) (hN : len < 100000) :
    Calls Tryz.prog 12 #[.slice a len cap] w fun e w' => ∃ v, e = .returned v ∧ Own .i32 21 w.heap.size w' v (rawL xs) ∧ Below w.heap.size w w' := by
  have HP := hid (ref33_Lines a len cap xs w hr hN)
  have hsz := hr.size
  have hll := rawL_len xs
  rw [hsz] at hll
  have hnl : (lnsP xs).length ≤ len := by
    unfold lnsP
    rw [List.length_map]
    have h1 : (shwP xs).length ≤ (pcsP xs).length := (shwP_sub xs).length_le
    have h2 : (pcsP xs).length ≤ len := by
      unfold pcsP
      rw [List.length_map, ← hsz]
      exact (pcsT_whole xs).2.2
    omega
  unfold rawL at hll ⊢
  clear hr hsz
  generalize oddN xs = N at *
  generalize setsL xs = S at *
  generalize lnsP xs = L at *
  have HFL := hid (fun j => raw_take L j)
  go_enter Tryz.func12, Tryz.ntmps12
  go_wp2_with (go_at_call 14; (with_reducible refine HP.out.mono ?_); rintro e w1 ⟨v1, u1', rfl, hO1, hS1, hb1⟩; (obtain ⟨a1, c1, rfl, hR1⟩ := hO1.rows); (obtain ⟨a2, c2, rfl, _⟩ := hS1.reads))
  have HR1 := hid hR1
  have T1 := hid hb1
  clear hO1 hR1 hS1
  go_loopw [3, 7] (fun ov iv wr => ∃ j : Nat, j ≤ L.length ∧ iv = .int .i64 j ∧ Own .i32 21 w1.heap.size wr ov (L.take j).flatten ∧ Below w1.heap.size w1 wr) (fun _ iv _ => L.length - (intOf iv).toNat)
  case atStart => exact ⟨0, Nat.zero_le _, rfl, Own.nil _ _ _ _, Below.refl _ _⟩
  case round =>
    obtain ⟨j, hj, rfl, hown, hbel⟩ := hrel
    by_cases hlt : j < L.length
    · obtain ⟨b, off, x, ai, li, ci, rfl, hbw, hc, hx, hg, ht⟩ := (HR1.out.below hbel).get1 hlt
      have hsn : Hid ((L.take (j + 1)).flatten = (L.take j).flatten ++ x) := by rw [Hid, ht]; simp
      have hfl := HFL.out (j + 1)
      rw [hsn.out, List.length_append, hx.size] at hfl
      have HL := hid (show (L.take j).flatten.length + li < 1000000000000 by omega)
      have HX := hid hx
      have q1 : (j : Int) < (L.length : Int) := by omega
      clear hx hg ht hfl
      go_wp2_with (at_builtin; go_must (refine wpList_more STR rfl _ _ rfl rfl rfl hown hbel HX.out HL.out ?_); intro v3 w3 ho3 hb3)
      rw [← hsn.out] at ho3
      go_roundw
      case rel => exact ⟨j + 1, by omega, by go_num, ho3, hb3⟩
      case measure => simp [intOf]; omega
    · obtain rfl : j = L.length := by omega
      have q1 : ¬ (L.length : Int) < (L.length : Int) := by omega
      rw [List.take_length] at hown
      go_wp2_with fail
      go_ret
      exact ⟨_, rfl, own_mono hown T1.out.size, T1.out.trans (hbel.mono T1.out.size)⟩
theorem ref33_Read (a : Option Addr) (len cap : Nat) (xs : List Int) (w : World) (hr : Reads .u8 w a len cap xs) (hN : len < 100000) :
    Calls Tryz.prog 10 #[.slice a len cap] w fun e w' => ∃ v, e = .returned v ∧ Own .i32 21 w.heap.size w' v (rdL xs) ∧ Below w.heap.size w w' := by
  have HU := hid (ref27_Unfold a len cap xs w hr (by omega))
  have hul := (unfS_len xs false).1
  rw [hr.size] at hul
  have HR := hid (fun W b l c (h : Reads .u8 W b l c (unfL xs)) => ref33_Raw b l c (unfL xs) W h (by have h1 := h.size; unfold unfL at h1; omega))
  unfold rdL
  clear hr hul
  generalize unfN xs = N at *
  generalize rawL (unfL xs) = T at *
  generalize unfL xs = U at *
  go_enter Tryz.func10, Tryz.ntmps10
  go_wp2_with (first
    | (go_at_call 13; (with_reducible refine HU.out.mono ?_); rintro e w1 ⟨v1, rfl, ho1, hb1⟩; (obtain ⟨a1, c1, rfl, r1⟩ := ho1.reads))
    | (go_at_call 12; (with_reducible refine (HR.out _ _ _ _ r1).mono ?_); rintro e w2 ⟨v2, rfl, ho2, hb2⟩))
  go_ret
  exact ⟨_, rfl, own_mono ho2 hb1.size, below_then hb1 hb2⟩
end Go.Proofs.YtefhddbbiheadaaGreat
