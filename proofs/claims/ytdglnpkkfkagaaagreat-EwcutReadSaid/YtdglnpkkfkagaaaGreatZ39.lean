/-
  Texts of ours laid together: C30.
-/
import Derived.Test.YtdglnpkkfkagaaaGreatZ38

/-! C30 -/
namespace Go.Proofs.YtdglnpkkfkagaaaGreat
open Go.RowKit
set_option linter.unusedVariables false

theorem ewcost_with1 (z : Int) (a : Option Addr) (len cap : Nat) (xs : List Int) (w : World) (hr : Reads .u8 w a len cap xs) (h0 : 0 ≤ z) (h1 : z < 100000000) (hN : len < 10000000) :
    Calls Tryz.prog 176 #[.int .i64 z, .slice a len cap] w fun e w' => e = .returned (.iface 127 (.int .i64 (z + tlyN 1 xs))) ∧ Below w.heap.size w w' := by
  change Calls Tryz.prog 176 #[.int .i64 z, .slice a len cap] w fun e w' => e = .returned (.iface 127 (.int .i64 (z + xs.length))) ∧ Below w.heap.size w w'
  rw [hr.size]
  clear hr
  go_enter Tryz.func176, Tryz.ntmps176
  go_wp2_with fail
  go_ret
  exact ⟨rfl, Below.refl _ _⟩
theorem ewcost_with2 (z : Int) (a : Option Addr) (len cap : Nat) (xs : List Int) (w : World) (hr : Reads .u8 w a len cap xs) (h0 : 0 ≤ z) (h1 : z < 100000000) (hN : len < 10000000) :
    Calls Tryz.prog 177 #[.int .i64 z, .slice a len cap] w fun e w' => e = .returned (.iface 128 (.int .i64 (z + tlyN 2 xs))) ∧ Below w.heap.size w w' := by
  change Calls Tryz.prog 177 #[.int .i64 z, .slice a len cap] w fun e w' => e = .returned (.iface 128 (.int .i64 (z + (layW xs).length))) ∧ Below w.heap.size w w'
  have H := hid (qword_Len a len cap xs w hr (by omega))
  have hl := layW_len xs
  rw [hr.size] at hl
  clear hr
  generalize (layW xs).length = L at *
  go_enter Tryz.func177, Tryz.ntmps177
  go_wp2_with (go_at_call 109; (with_reducible refine H.out.mono ?_); rintro e w1 ⟨rfl, hb1⟩)
  go_ret
  exact ⟨rfl, hb1⟩
theorem ewcost_tallyOf1 (w : World) : Calls Tryz.prog 71 #[.int .i64 1] w fun e w' => e = .returned (.tuple #[.iface 127 (.int .i64 0), .bool true]) ∧ w = w' := by
  go_enter Tryz.func71, Tryz.ntmps71
  go_wp2_with fail
  go_ret2
  exact ⟨rfl, rfl⟩
theorem ewcost_tallyOf2 (w : World) : Calls Tryz.prog 71 #[.int .i64 2] w fun e w' => e = .returned (.tuple #[.iface 128 (.int .i64 0), .bool true]) ∧ w = w' := by
  go_enter Tryz.func71, Tryz.ntmps71
  go_wp2_with fail
  go_ret2
  exact ⟨rfl, rfl⟩
theorem ewcost_tallyOf0 (k : Int) (w : World) (hk : ¬ (k = 1 ∨ k = 2)) : Calls Tryz.prog 71 #[.int .i64 k] w fun e w' => e = .returned (.tuple #[.nilIface, .bool false]) ∧ w = w' := by
  have k1 : (k == 1) = false := by simp; omega
  have k2 : (k == 2) = false := by simp; omega
  clear hk
  go_enter Tryz.func71, Tryz.ntmps71
  go_wp2_with fail
  go_ret2
  exact ⟨rfl, rfl⟩
theorem as30_bb (W : World) (v : Value) : (Instr.typeAssert (.iface 127 v) 106 127 true).run Tryz.prog W = .ok (.tuple #[v, .bool true]) W := by kernel_rfl
theorem as30_qb (W : World) (v : Value) : (Instr.typeAssert (.iface 128 v) 106 127 true).run Tryz.prog W = .ok (.tuple #[.int .i64 0, .bool false]) W := by kernel_rfl
theorem as30_qq (W : World) (v : Value) : (Instr.typeAssert (.iface 128 v) 106 128 true).run Tryz.prog W = .ok (.tuple #[v, .bool true]) W := by kernel_rfl
theorem ewcost_digits1 (z : Int) (w : World) (h : z < 1000000000) : Calls Tryz.prog 72 #[.iface 127 (.int .i64 z)] w fun e w' => e = .returned (.int .i64 (dgN 1 z)) ∧ w = w' := by
  rw [dgN_1]
  have H := hid (bcode_Len z w (by omega))
  have e1 := as30_bb w (.int .i64 z)
  generalize lenB z = L at *
  go_enter Tryz.func72, Tryz.ntmps72
  go_wp2_with (go_at_call 98; (with_reducible refine H.out.mono ?_); rintro e w1 ⟨rfl, rfl⟩)
  go_ret
  exact ⟨rfl, rfl⟩
theorem ewcost_digits2 (z : Int) (w : World) : Calls Tryz.prog 72 #[.iface 128 (.int .i64 z)] w fun e w' => e = .returned (.int .i64 (dgN 2 z)) ∧ w = w' := by
  rw [dgN_2]
  have e1 := as30_qb w (.int .i64 z)
  have e2 := as30_qq w (.int .i64 z)
  go_enter Tryz.func72, Tryz.ntmps72
  go_wp2_with fail
  go_ret
  exact ⟨rfl, rfl⟩
theorem ewcost_isCharset (n : Int) (w : World) (hn : (Lit.int .i64 n).wf = true) :
    Calls Tryz.prog 70 #[.int .i64 n] w fun e w' => e = .returned (.bool (decide (1 ≤ n ∧ n ≤ 5))) ∧ Below w.heap.size w w' := by
  have H := hid (ewform_Over n w hn)
  have hO : Hid (decide (1 ≤ n ∧ n ≤ 5) = decide (0 < ewO n)) := by
    unfold Hid ewO
    split
    · rename_i h; rw [decide_eq_true h, decide_eq_true (by omega)]
    · rename_i h; rw [decide_eq_false h]; rfl
  rw [hO.out]
  generalize ewO n = O at *
  clear hn
  by_cases h : 0 < O
  all_goals
    first | rw [decide_eq_true h] | rw [decide_eq_false h]
    go_enter Tryz.func70, Tryz.ntmps70
    go_wp2_with (go_at_call 42; (with_reducible refine H.out.mono ?_); rintro e w1 ⟨rfl, hb1⟩)
    go_ret
    first | exact ⟨rfl, hb1⟩ | exact ⟨ret_bool (by simp; omega), hb1⟩
set_option maxRecDepth 100000 in
set_option maxHeartbeats 2000000 in
theorem ewcost_textLen (n k : Int) (a : Option Addr) (len cap : Nat) (xs : List Int) (w : World) (hr : Reads .i32 w a len cap xs) (hN : len < 1000000) (hn : (Lit.int .i64 n).wf = true) :
    Calls Tryz.prog 41 #[.int .i64 n, .int .i64 k, .slice a len cap] w fun e w' => e = .returned (.tuple #[.int .i64 (ewcX n k xs), .int .i64 (ewcE n k xs)]) ∧ Below w.heap.size w w' := by
  have HI := hid (ewcost_isCharset n w hn)
  have HL := hid (fun W (hb : Below w.heap.size w W) => codec_Lay n a len cap xs W (hr.below hb) (by omega))
  have hll := layL_len n xs
  rw [hr.size] at hll
  clear hr hn
  by_cases hn : 1 ≤ n ∧ n ≤ 5
  · rw [decide_eq_true hn] at HI
    by_cases hk : k = 1 ∨ k = 2
    · have hE : ewcE n k xs = layE n xs := by unfold ewcE; rw [if_pos hn, if_pos hk]
      have hX : ewcX n k xs = if layE n xs = 0 then ((ewTx k (layL n xs)).length : Int) else 0 := by unfold ewcX ewcT; rw [hE]
      rw [hE, hX]
      by_cases h0 : layE n xs = 0
      · rw [if_pos h0, h0]
        rw [h0] at HL
        clear hE hX h0 hn
        rcases hk with rfl | rfl
        · rw [← dg_tly (.inl rfl)]
          have hb := tly_bd 1 (layL n xs)
          have HW := hid (fun b l c W (h : Reads .u8 W b l c (layL n xs)) => ewcost_with1 0 b l c (layL n xs) W h (by decide) (by decide) (by have := h.size; omega))
          have HD := hid (fun W => ewcost_digits1 (tlyN 1 (layL n xs)) W (by omega))
          rw [Int.zero_add] at HW
          generalize dgN 1 (tlyN 1 (layL n xs)) = D at *
          generalize tlyN 1 (layL n xs) = T at *
          generalize layL n xs = L at *
          go_enter Tryz.func41, Tryz.ntmps41
          go_wp2_with (first
            | (go_at_call 70; (with_reducible refine HI.out.mono ?_); rintro e w1 ⟨rfl, h1⟩)
            | (go_at_call 71; (with_reducible refine (ewcost_tallyOf1 _).mono ?_); rintro e w2 ⟨rfl, rfl⟩)
            | (go_at_call 51; (with_reducible refine (HL.out _ h1).mono ?_); rintro e w3 ⟨a3, l3, c3, rfl, r3, h3⟩; have t3 := below_then h1 h3)
            | (go_at_call 176; (with_reducible refine (HW.out _ _ _ _ r3).mono ?_); rintro e w4 ⟨rfl, h4⟩; have t4 := below_then t3 h4)
            | (go_at_call 72; (with_reducible refine (HD.out _).mono ?_); rintro e w5 ⟨rfl, rfl⟩))
          go_ret2
          exact ⟨rfl, t4⟩
        · rw [← dg_tly (.inr rfl)]
          have hb := tly_bd 2 (layL n xs)
          have HW := hid (fun b l c W (h : Reads .u8 W b l c (layL n xs)) => ewcost_with2 0 b l c (layL n xs) W h (by decide) (by decide) (by have := h.size; omega))
          have HD := hid (fun W => ewcost_digits2 (tlyN 2 (layL n xs)) W)
          rw [Int.zero_add] at HW
          generalize dgN 2 (tlyN 2 (layL n xs)) = D at *
          generalize tlyN 2 (layL n xs) = T at *
          generalize layL n xs = L at *
          go_enter Tryz.func41, Tryz.ntmps41
          go_wp2_with (first
            | (go_at_call 70; (with_reducible refine HI.out.mono ?_); rintro e w1 ⟨rfl, h1⟩)
            | (go_at_call 71; (with_reducible refine (ewcost_tallyOf2 _).mono ?_); rintro e w2 ⟨rfl, rfl⟩)
            | (go_at_call 51; (with_reducible refine (HL.out _ h1).mono ?_); rintro e w3 ⟨a3, l3, c3, rfl, r3, h3⟩; have t3 := below_then h1 h3)
            | (go_at_call 177; (with_reducible refine (HW.out _ _ _ _ r3).mono ?_); rintro e w4 ⟨rfl, h4⟩; have t4 := below_then t3 h4)
            | (go_at_call 72; (with_reducible refine (HD.out _).mono ?_); rintro e w5 ⟨rfl, rfl⟩))
          go_ret2
          exact ⟨rfl, t4⟩
      · have h9 := layE_9 hn h0
        rw [if_neg h0, h9]
        rw [h9] at HL
        clear hE hX h0 h9 hn
        rcases hk with rfl | rfl
        all_goals
          go_enter Tryz.func41, Tryz.ntmps41
          go_wp2_with (first
            | (go_at_call 70; (with_reducible refine HI.out.mono ?_); rintro e w1 ⟨rfl, h1⟩)
            | (go_at_call 71; (with_reducible refine (ewcost_tallyOf1 _).mono ?_); rintro e w2 ⟨rfl, rfl⟩)
            | (go_at_call 71; (with_reducible refine (ewcost_tallyOf2 _).mono ?_); rintro e w2 ⟨rfl, rfl⟩)
            | (go_at_call 51; (with_reducible refine (HL.out _ h1).mono ?_); rintro e w3 ⟨a3, l3, c3, rfl, r3, h3⟩; have t3 := below_then h1 h3))
          go_ret2
          exact ⟨rfl, t3⟩
    · have hE : ewcE n k xs = 3 := by unfold ewcE; rw [if_pos hn, if_neg hk]
      have hX : ewcX n k xs = 0 := by unfold ewcX; rw [hE]; rfl
      rw [hE, hX]
      have HT := hid (fun W => ewcost_tallyOf0 k W hk)
      clear hE hX hk hn
      go_enter Tryz.func41, Tryz.ntmps41
      go_wp2_with (first
        | (go_at_call 70; (with_reducible refine HI.out.mono ?_); rintro e w1 ⟨rfl, h1⟩)
        | (go_at_call 71; (with_reducible refine (HT.out _).mono ?_); rintro e w2 ⟨rfl, rfl⟩))
      go_ret2
      exact ⟨rfl, h1⟩
  · have hE : ewcE n k xs = 10 := by unfold ewcE; rw [if_neg hn]
    have hX : ewcX n k xs = 0 := by unfold ewcX; rw [hE]; rfl
    rw [hE, hX]
    rw [decide_eq_false hn] at HI
    clear hE hX hn
    go_enter Tryz.func41, Tryz.ntmps41
    go_wp2_with (go_at_call 70; (with_reducible refine HI.out.mono ?_); rintro e w1 ⟨rfl, h1⟩)
    go_ret2
    exact ⟨rfl, h1⟩
set_option maxHeartbeats 1000000 in
theorem ewcost_Len (n k : Int) (a : Option Addr) (len cap : Nat) (xs : List Int) (w : World) (hr : Reads .i32 w a len cap xs) (hN : len < 100000) (hn : (Lit.int .i64 n).wf = true) (hk : (Lit.int .i64 k).wf = true) :
    Calls Tryz.prog 21 #[.int .i64 n, .int .i64 k, .slice a len cap] w fun e w' => e = .returned (.tuple #[.int .i64 (ewcL n k xs), .int .i64 (ewcE n k xs)]) ∧ Below w.heap.size w w' := by
  have HT := hid (ewcost_textLen n k a len cap xs w hr (by omega) hn)
  have HO := hid (fun W => ewform_Over n W hn)
  have hbd := ewcT_bd n k xs
  rw [hr.size] at hbd
  have hob := ewO_bd n
  clear hr hn
  unfold ewcX at HT
  unfold ewcL
  generalize ewcT n k xs = T at *
  generalize ewcE n k xs = E at *
  generalize ewO n = O at *
  by_cases hE : E = 0
  · subst hE
    rw [if_pos rfl] at HT ⊢
    go_enter Tryz.func21, Tryz.ntmps21
    go_wp2_with (first
      | (go_at_call 41; (with_reducible refine HT.out.mono ?_); rintro e w1 ⟨rfl, h1⟩)
      | (go_at_call 42; (with_reducible refine (HO.out _).mono ?_); rintro e w2 ⟨rfl, h2⟩; have t2 := below_then h1 h2))
    go_ret2
    exact ⟨rfl, t2⟩
  · rw [if_neg hE] at HT ⊢
    have hE' : (E != 0) = true := by simpa using hE
    clear hE
    go_enter Tryz.func21, Tryz.ntmps21
    go_wp2_with (go_at_call 41; (with_reducible refine HT.out.mono ?_); rintro e w1 ⟨rfl, h1⟩)
    go_ret2
    exact ⟨rfl, h1⟩
set_option maxHeartbeats 1000000 in
theorem ewcost_Better (n : Int) (a : Option Addr) (len cap : Nat) (xs : List Int) (w : World) (hr : Reads .i32 w a len cap xs) (hN : len < 100000) (hn : (Lit.int .i64 n).wf = true) :
    Calls Tryz.prog 27 #[.int .i64 n, .slice a len cap] w fun e w' => e = .returned (.tuple #[.int .i64 (ewcB n xs), .int .i64 (ewcE n 1 xs)]) ∧ Below w.heap.size w w' := by
  have H2 := hid (ewcost_Len n 2 a len cap xs w hr hN hn (by decide))
  have H1 := hid (fun W (hW : Below w.heap.size w W) => ewcost_Len n 1 a len cap xs W (hr.below hW) hN hn (by decide))
  rw [← ewcE_1] at H2
  unfold ewcB
  clear hr hn
  generalize ewcL n 1 xs = L1 at *
  generalize ewcL n 2 xs = L2 at *
  generalize ewcE n 1 xs = E at *
  by_cases hE : E = 0
  · subst hE
    rw [if_pos rfl]
    by_cases hl : L2 ≤ L1
    all_goals
      first | rw [if_pos hl] | rw [if_neg hl]
      go_enter Tryz.func27, Tryz.ntmps27
      go_wp2_with (first
        | (go_at_call 21; (with_reducible refine H2.out.mono ?_); rintro e w1 ⟨rfl, h1⟩)
        | (go_at_call 21; (with_reducible refine (H1.out _ h1).mono ?_); rintro e w2 ⟨rfl, h2⟩; have t2 := below_then h1 h2))
      go_ret2
      exact ⟨rfl, t2⟩
  · rw [if_neg hE]
    have hE' : (E != 0) = true := by simpa using hE
    clear hE
    go_enter Tryz.func27, Tryz.ntmps27
    go_wp2_with (go_at_call 21; (with_reducible refine H2.out.mono ?_); rintro e w1 ⟨rfl, h1⟩)
    go_ret2
    exact ⟨rfl, h1⟩
set_option maxRecDepth 100000 in
set_option maxHeartbeats 2000000 in
theorem ewcost_Prefix (n k : Int) (a : Option Addr) (len cap : Nat) (xs : List Int) (room : Int) (w : World) (hr : Reads .i32 w a len cap xs) (hN : len < 100000) (hn : (Lit.int .i64 n).wf = true) (hk : (Lit.int .i64 k).wf = true) (hm : (Lit.int .i64 room).wf = true) :
    Calls Tryz.prog 44 #[.int .i64 n, .int .i64 k, .slice a len cap, .int .i64 room] w fun e w' => e = .returned (.int .i64 (ewcP n k xs room)) ∧ Below w.heap.size w w' := by
  have HR := hid hr
  have hl := hr.len_le
  have hrm := hr.room
  have hsz := hr.size
  have HO := hid (fun W => ewform_Over n W hn)
  have hob := ewO_bd n
  clear hr hn
  by_cases hkk : k = 1 ∨ k = 2
  · have h75 : (75 < room ∧ Hid (min room 75 = 75)) ∨ (room ≤ 75 ∧ Hid (min room 75 = room)) := by
      by_cases h : 75 < room
      · exact .inl ⟨h, show min room 75 = 75 by omega⟩
      · exact .inr ⟨by omega, show min room 75 = room by omega⟩
    rcases hkk with rfl | rfl
    · rcases h75 with ⟨h75, hmin⟩ | ⟨h75, hmin⟩
      all_goals
        go_enter Tryz.func44, Tryz.ntmps44
        go_wp2_with (go_at_call 71; (with_reducible refine (ewcost_tallyOf1 _).mono ?_); rintro e w2 ⟨rfl, rfl⟩)
        go_loopw [9, 25] (fun so i wr => ∃ j : Nat, j ≤ len ∧ i = .int .i64 j ∧ so = .iface 127 (.int .i64 (tlyN 1 (octsR n (xs.take j)))) ∧ Hid (∀ m, m < j → ewcF n 1 (xs.take (m + 1)) room = true) ∧ Hid ((xs.take j).all (hasR n) = true) ∧ Below w.heap.size w wr) (fun so i _ => len - (intOf i).toNat)
        case atStart => exact ⟨0, Nat.zero_le _, rfl, by rw [List.take_zero]; exact congrArg (fun z => Value.iface 127 (.int .i64 z)) (tly_nil 1).symm, fun m hm => absurd hm (Nat.not_lt_zero _), rfl, Below.refl _ _⟩
        case round =>
          obtain ⟨j, hj, rfl, rfl, hf, ha, hbel⟩ := hrel
          by_cases hlt : j < len
          · obtain ⟨b, off, x, rfl, _, hc, _, _, hx⟩ := (HR.out.below hbel).getR hlt
            clear hc
            have hp := (HR.out.below hbel).piece (l := j) (r := j + 1) (by omega) (by omega)
            rw [if_neg (show ¬ cap = j by omega), show j + 1 - j = 1 by omega, Option.map_some, Addr.add_lit, hx.out.2, List.drop_left' (by rw [List.length_take]; omega)] at hp
            have HL := hid (codec_Lay n _ _ _ [x] wr hp (by omega))
            have hll := layL_len n [x]
            have hol := octsR_len n (xs.take j)
            rw [List.length_take] at hol
            simp only [List.length_cons, List.length_nil] at hll
            have q1 : (0 : Int) ≤ (j : Int) := by omega
            have q2 : (j : Int) ≤ (j : Int) + 1 := by omega
            have q3 : (j : Int) + 1 ≤ (cap : Int) := by omega
            have q4 : ((j : Int) + 1).toNat = j + 1 := by omega
            clear hp
            by_cases h0 : layE n [x] = 0
            · rw [h0] at HL
              obtain ⟨a1, a2, a3⟩ := ewcF_step (k := 1) (.inl rfl) hx.out.2 ha.out h0 room
              rw [hmin.out, a2, tly_app] at a3
              have HA := hid a1
              have HS := hid (show tlyN 1 (octsR n (xs.take j)) + tlyN 1 (layL n [x]) = tlyN 1 (octsR n (xs.take (j + 1))) by rw [a2, tly_app])
              have hb0 := tly_bd 1 (octsR n (xs.take j))
              have hb1 := tly_bd 1 (layL n [x])
              have hdb := ewTx_len 1 (octsR n (xs.take j) ++ layL n [x])
              have hdc := dg_tly (k := 1) (.inl rfl) (octsR n (xs.take j) ++ layL n [x])
              rw [List.length_append] at hdb
              rw [tly_app] at hdc
              have HW := hid (fun b l c W (h : Reads .u8 W b l c (layL n [x])) => ewcost_with1 (tlyN 1 (octsR n (xs.take j))) b l c (layL n [x]) W h hb0.1 (by omega) (by have := h.size; omega))
              have HD := hid (fun W => ewcost_digits1 (tlyN 1 (octsR n (xs.take j)) + tlyN 1 (layL n [x])) W (by omega))
              clear a1 a2 h0
              generalize (ewTx 1 (octsR n (xs.take j) ++ layL n [x])).length = DN at *
              generalize dgN 1 (tlyN 1 (octsR n (xs.take j)) + tlyN 1 (layL n [x])) = D at *
              generalize tlyN 1 (octsR n (xs.take j)) = T0 at *
              generalize tlyN 1 (layL n [x]) = T1 at *
              generalize layL n [x] = Y at *
              generalize (octsR n (xs.take j)).length = M0 at *
              have hd2 : 0 ≤ D ∧ D < 100000000 := by omega
              clear hdb hdc
              by_cases hs : ewcF n 1 (xs.take (j + 1)) room = true
              · have HN := hid (show ∀ m, m < j + 1 → ewcF n 1 (xs.take (m + 1)) room = true from fun m hm => by
                  by_cases he : m = j
                  · rw [he]; exact hs
                  · exact hf.out m (by omega))
                rw [hs] at a3
                have h6 := Int.not_lt.2 (of_decide_eq_true a3.symm)
                clear hs a3 hf
                generalize ewO n = O at *
                go_wp2_with (first
                  | (go_at_call 51; (with_reducible refine HL.out.mono ?_); rintro e w3 ⟨a3, l3, c3, rfl, r3, h3⟩; have t3 := below_then hbel h3)
                  | (go_at_call 176; (with_reducible refine (HW.out _ _ _ _ r3).mono ?_); rintro e w4 ⟨rfl, h4⟩; have t4 := below_then t3 h4)
                  | (go_at_call 42; (with_reducible refine (HO.out _).mono ?_); rintro e w6 ⟨rfl, h6⟩; have t6 := below_then t4 h6)
                  | (go_at_call 72; (with_reducible refine (HD.out _).mono ?_); rintro e w5 ⟨rfl, rfl⟩))
                go_roundw
                case rel => exact ⟨j + 1, by omega, by go_num, by rw [HS.out], HN, HA, t6⟩
                case measure => simp [intOf]; omega
              · have HP := hid (ewcP_at (n := n) (k := 1) (t := xs) (r := room) (j := j) (by omega) hf.out (fun _ => by rwa [Bool.not_eq_true] at hs))
                rw [Bool.not_eq_true] at hs
                rw [hs] at a3
                have h6 := Int.not_le.1 (of_decide_eq_false a3.symm)
                clear hs a3 hf
                generalize ewO n = O at *
                go_wp2_with (first
                  | (go_at_call 51; (with_reducible refine HL.out.mono ?_); rintro e w3 ⟨a3, l3, c3, rfl, r3, h3⟩; have t3 := below_then hbel h3)
                  | (go_at_call 176; (with_reducible refine (HW.out _ _ _ _ r3).mono ?_); rintro e w4 ⟨rfl, h4⟩; have t4 := below_then t3 h4)
                  | (go_at_call 42; (with_reducible refine (HO.out _).mono ?_); rintro e w6 ⟨rfl, h6⟩; have t6 := below_then t4 h6)
                  | (go_at_call 72; (with_reducible refine (HD.out _).mono ?_); rintro e w5 ⟨rfl, rfl⟩))
                go_ret
                exact ⟨ret_int (by have := HP.out; omega), t6⟩
            · have HP := hid (ewcP_at (n := n) (k := 1) (t := xs) (r := room) (j := j) (by omega) hf.out (fun _ => ewcF_stop hx.out.2 h0 room))
              have hne : (layE n [x] != 0) = true := by simpa using h0
              generalize layE n [x] = E at *
              generalize layL n [x] = Y at *
              clear h0 hf
              go_wp2_with (go_at_call 51; (with_reducible refine HL.out.mono ?_); rintro e w3 ⟨a3, l3, c3, rfl, r3, h3⟩; have t3 := below_then hbel h3)
              go_ret
              exact ⟨ret_int (by have := HP.out; omega), t3⟩
          · obtain rfl : j = len := by omega
            have HP := hid (ewcP_at (n := n) (k := 1) (t := xs) (r := room) (j := j) (by omega) hf.out (fun h => absurd h (by omega)))
            clear hf
            go_wp2_with fail
            go_ret
            exact ⟨ret_int (by have := HP.out; omega), hbel⟩
    · rcases h75 with ⟨h75, hmin⟩ | ⟨h75, hmin⟩
      all_goals
        go_enter Tryz.func44, Tryz.ntmps44
        go_wp2_with (go_at_call 71; (with_reducible refine (ewcost_tallyOf2 _).mono ?_); rintro e w2 ⟨rfl, rfl⟩)
        go_loopw [9, 25] (fun so i wr => ∃ j : Nat, j ≤ len ∧ i = .int .i64 j ∧ so = .iface 128 (.int .i64 (tlyN 2 (octsR n (xs.take j)))) ∧ Hid (∀ m, m < j → ewcF n 2 (xs.take (m + 1)) room = true) ∧ Hid ((xs.take j).all (hasR n) = true) ∧ Below w.heap.size w wr) (fun so i _ => len - (intOf i).toNat)
        case atStart => exact ⟨0, Nat.zero_le _, rfl, by rw [List.take_zero]; exact congrArg (fun z => Value.iface 128 (.int .i64 z)) (tly_nil 2).symm, fun m hm => absurd hm (Nat.not_lt_zero _), rfl, Below.refl _ _⟩
        case round =>
          obtain ⟨j, hj, rfl, rfl, hf, ha, hbel⟩ := hrel
          by_cases hlt : j < len
          · obtain ⟨b, off, x, rfl, _, hc, _, _, hx⟩ := (HR.out.below hbel).getR hlt
            clear hc
            have hp := (HR.out.below hbel).piece (l := j) (r := j + 1) (by omega) (by omega)
            rw [if_neg (show ¬ cap = j by omega), show j + 1 - j = 1 by omega, Option.map_some, Addr.add_lit, hx.out.2, List.drop_left' (by rw [List.length_take]; omega)] at hp
            have HL := hid (codec_Lay n _ _ _ [x] wr hp (by omega))
            have hll := layL_len n [x]
            have hol := octsR_len n (xs.take j)
            rw [List.length_take] at hol
            simp only [List.length_cons, List.length_nil] at hll
            have q1 : (0 : Int) ≤ (j : Int) := by omega
            have q2 : (j : Int) ≤ (j : Int) + 1 := by omega
            have q3 : (j : Int) + 1 ≤ (cap : Int) := by omega
            have q4 : ((j : Int) + 1).toNat = j + 1 := by omega
            clear hp
            by_cases h0 : layE n [x] = 0
            · rw [h0] at HL
              obtain ⟨a1, a2, a3⟩ := ewcF_step (k := 2) (.inr rfl) hx.out.2 ha.out h0 room
              rw [hmin.out, a2, tly_app] at a3
              have HA := hid a1
              have HS := hid (show tlyN 2 (octsR n (xs.take j)) + tlyN 2 (layL n [x]) = tlyN 2 (octsR n (xs.take (j + 1))) by rw [a2, tly_app])
              have hb0 := tly_bd 2 (octsR n (xs.take j))
              have hb1 := tly_bd 2 (layL n [x])
              have hdb := ewTx_len 2 (octsR n (xs.take j) ++ layL n [x])
              have hdc := dg_tly (k := 2) (.inr rfl) (octsR n (xs.take j) ++ layL n [x])
              rw [List.length_append] at hdb
              rw [tly_app] at hdc
              have HW := hid (fun b l c W (h : Reads .u8 W b l c (layL n [x])) => ewcost_with2 (tlyN 2 (octsR n (xs.take j))) b l c (layL n [x]) W h hb0.1 (by omega) (by have := h.size; omega))
              have HD := hid (fun W => ewcost_digits2 (tlyN 2 (octsR n (xs.take j)) + tlyN 2 (layL n [x])) W)
              clear a1 a2 h0
              generalize (ewTx 2 (octsR n (xs.take j) ++ layL n [x])).length = DN at *
              generalize dgN 2 (tlyN 2 (octsR n (xs.take j)) + tlyN 2 (layL n [x])) = D at *
              generalize tlyN 2 (octsR n (xs.take j)) = T0 at *
              generalize tlyN 2 (layL n [x]) = T1 at *
              generalize layL n [x] = Y at *
              generalize (octsR n (xs.take j)).length = M0 at *
              have hd2 : 0 ≤ D ∧ D < 100000000 := by omega
              clear hdb hdc
              by_cases hs : ewcF n 2 (xs.take (j + 1)) room = true
              · have HN := hid (show ∀ m, m < j + 1 → ewcF n 2 (xs.take (m + 1)) room = true from fun m hm => by
                  by_cases he : m = j
                  · rw [he]; exact hs
                  · exact hf.out m (by omega))
                rw [hs] at a3
                have h6 := Int.not_lt.2 (of_decide_eq_true a3.symm)
                clear hs a3 hf
                generalize ewO n = O at *
                go_wp2_with (first
                  | (go_at_call 51; (with_reducible refine HL.out.mono ?_); rintro e w3 ⟨a3, l3, c3, rfl, r3, h3⟩; have t3 := below_then hbel h3)
                  | (go_at_call 177; (with_reducible refine (HW.out _ _ _ _ r3).mono ?_); rintro e w4 ⟨rfl, h4⟩; have t4 := below_then t3 h4)
                  | (go_at_call 42; (with_reducible refine (HO.out _).mono ?_); rintro e w6 ⟨rfl, h6⟩; have t6 := below_then t4 h6)
                  | (go_at_call 72; (with_reducible refine (HD.out _).mono ?_); rintro e w5 ⟨rfl, rfl⟩))
                go_roundw
                case rel => exact ⟨j + 1, by omega, by go_num, by rw [HS.out], HN, HA, t6⟩
                case measure => simp [intOf]; omega
              · have HP := hid (ewcP_at (n := n) (k := 2) (t := xs) (r := room) (j := j) (by omega) hf.out (fun _ => by rwa [Bool.not_eq_true] at hs))
                rw [Bool.not_eq_true] at hs
                rw [hs] at a3
                have h6 := Int.not_le.1 (of_decide_eq_false a3.symm)
                clear hs a3 hf
                generalize ewO n = O at *
                go_wp2_with (first
                  | (go_at_call 51; (with_reducible refine HL.out.mono ?_); rintro e w3 ⟨a3, l3, c3, rfl, r3, h3⟩; have t3 := below_then hbel h3)
                  | (go_at_call 177; (with_reducible refine (HW.out _ _ _ _ r3).mono ?_); rintro e w4 ⟨rfl, h4⟩; have t4 := below_then t3 h4)
                  | (go_at_call 42; (with_reducible refine (HO.out _).mono ?_); rintro e w6 ⟨rfl, h6⟩; have t6 := below_then t4 h6)
                  | (go_at_call 72; (with_reducible refine (HD.out _).mono ?_); rintro e w5 ⟨rfl, rfl⟩))
                go_ret
                exact ⟨ret_int (by have := HP.out; omega), t6⟩
            · have HP := hid (ewcP_at (n := n) (k := 2) (t := xs) (r := room) (j := j) (by omega) hf.out (fun _ => ewcF_stop hx.out.2 h0 room))
              have hne : (layE n [x] != 0) = true := by simpa using h0
              generalize layE n [x] = E at *
              generalize layL n [x] = Y at *
              clear h0 hf
              go_wp2_with (go_at_call 51; (with_reducible refine HL.out.mono ?_); rintro e w3 ⟨a3, l3, c3, rfl, r3, h3⟩; have t3 := below_then hbel h3)
              go_ret
              exact ⟨ret_int (by have := HP.out; omega), t3⟩
          · obtain rfl : j = len := by omega
            have HP := hid (ewcP_at (n := n) (k := 2) (t := xs) (r := room) (j := j) (by omega) hf.out (fun h => absurd h (by omega)))
            clear hf
            go_wp2_with fail
            go_ret
            exact ⟨ret_int (by have := HP.out; omega), hbel⟩
  · rw [ewcP_none hkk]
    have HT := hid (fun W => ewcost_tallyOf0 k W hkk)
    clear hkk
    go_enter Tryz.func44, Tryz.ntmps44
    go_wp2_with (go_at_call 71; (with_reducible refine (HT.out _).mono ?_); rintro e w2 ⟨rfl, rfl⟩)
    go_ret
    exact ⟨rfl, Below.refl _ _⟩
end Go.Proofs.YtdglnpkkfkagaaaGreat
