/-
  Texts of ours laid together: C25.
-/
import Derived.Test.YtiacijodoojgoaaDoorZ26

/-! C25 -/
namespace Go.Proofs.YtiacijodoojgoaaDoor
open Go.RowKit
set_option linter.unusedVariables false

/-- How a row may go on. -/
theorem on_45 (B : List Int) : (B = [] ∧ hdB is45 B = false) ∨ (∃ s, B = 45 :: s ∧ hdB is45 B = true) ∨ (∃ y s, B = y :: s ∧ hdB is45 B = false ∧ (y == 45) = false) := by
  cases B with
  | nil => exact .inl ⟨rfl, rfl⟩
  | cons y s =>
    by_cases h : y = 45
    · subst h; exact .inr (.inl ⟨s, rfl, rfl⟩)
    · exact .inr (.inr ⟨y, s, rfl, by simp [hdB, is45, h], by simpa using h⟩)
set_option maxRecDepth 100000 in
set_option maxHeartbeats 4000000 in
theorem mcheck_opened (a : Option Addr) (len cap : Nat) (r : List Int) (w : World) (hr : Reads .u8 w a len cap (38 :: r)) (hN : len < 100000) :
    Calls Tryd.prog 38 #[.slice a len cap] w fun e w' => ∃ (k : Int) (b : Bool), e = .returned (.tuple #[.int .i64 (mcY (38 :: r) false), .int .i64 k, .bool b]) ∧ (mcY (38 :: r) false = 0 → k = (mbN (38 :: r) : Int) ∧ b = mcH (38 :: r)) ∧ Below w.heap.size w w' := by
  have hsz := hr.size
  have hrm := hr.room
  have hl := hr.len_le
  rw [List.length_cons] at hsz
  obtain ⟨b, off, x, rfl, _, hc, h1, h2, hx⟩ := hr.get8 (show 0 < len by omega)
  clear hx hc
  have hp := hr.piece (l := 1) (r := len) (by omega) (Nat.le_refl _)
  rw [List.take_of_length_le (by rw [List.length_cons]; omega), List.drop_one, List.tail_cons, Option.map_some, Addr.add_lit] at hp
  have q1 : (1 : Int) ≤ (len : Int) := by omega
  have q3 : (1 : Int) ≤ (cap : Int) := by omega
  have q4 : (len : Int) ≤ (cap : Int) := by omega
  have hml := mbD_le r
  have HWR := hid (fun a2 l2 c2 W (h : Reads .u8 W a2 l2 c2 (r.take (mbD r))) => mcheck_whyRun a2 l2 c2 (r.take (mbD r)) W h (by have h := h.size; rw [List.length_take] at h; omega))
  have A0 := fun h => mcY_amp0 (r := r) h
  have A1 := fun h => mcY_amp1 (r := r) h
  generalize hY : mcY (38 :: r) false = Y at *
  generalize hK : mbN (38 :: r) = K at *
  generalize hH : mcH (38 :: r) = H at *
  clear hY hK hH
  have hdl : (r.drop (mbD r)).length = r.length - mbD r := List.length_drop
  have hB := on_45 (r.drop (mbD r))
  by_cases hcap : cap = 1
  all_goals
    first | (rw [if_pos hcap] at hp; have r3 : (cap = 1) = True := eq_true hcap; clear hcap) | (rw [if_neg hcap] at hp; have r3 : (cap = 1) = False := eq_false hcap; clear hcap)
    have HC := mcheck_cutDigits _ _ _ _ _ hp
    generalize hm : mbD r = m at *
    obtain ⟨l2, hl2⟩ : ∃ l2, l2 = len - 1 - m := ⟨_, rfl⟩
    have HC2 : Calls Tryd.prog 55 #[_] w fun e w' => ∃ a1 c1 a2 c2, e = .returned (.tuple #[.slice a1 m c1, .slice a2 l2 c2]) ∧ Reads .u8 w' a1 m c1 (r.take m) ∧ Reads .u8 w' a2 l2 c2 (r.drop m) ∧ Below w.heap.size w w' := HC.mono (by
      rintro e w' ⟨m1, c1, a2, c2, rfl, h1, rfl, r1, r2, hb⟩
      rw [← hl2] at r2 ⊢
      exact ⟨_, c1, a2, c2, rfl, r1, r2, hb⟩)
    clear HC
    have hl3 : (len : Int) - (l2 : Int) + 1 = (m : Int) + 2 := by omega
    have hl4 : (l2 : Int) ≤ (len : Int) := by omega
    have hdl : (r.drop m).length = l2 := by omega
    have HL3 := hid hl3
    clear hl3 hr hsz hp
    by_cases h0 : m = 0
    · obtain ⟨eY, eH, eN⟩ := A0 h0
      subst h0
      rw [List.drop_zero] at *
      rcases hB with ⟨e5, e6⟩ | ⟨s, e5, e6⟩ | ⟨y, s, e5, e6, e7⟩
      · rw [e6] at eY eN
        clear eN
        rw [if_neg (by decide)] at eY
        obtain rfl : l2 = 0 := by rw [e5] at hdl; exact hdl.symm
        rw [e5] at HC2
        have HC3 := hid HC2
        subst eY
        clear HC2 A0 A1 HWR hdl e5 e6 eH hl2 hml hm
        go_enter Tryd.func38, Tryd.ntmps38
        go_wp2_with (go_at_call 55; (with_reducible refine HC3.out.mono ?_); rintro e w1 ⟨a1, c1, a2, c2, rfl, r1, r2, hb1⟩)
        go_ret3
        exact ⟨_, _, rfl, fun h => absurd h (by decide), hb1⟩
      · rw [e6] at eY eN
        have eN := eN rfl
        rw [if_pos rfl] at eY
        have p0 : 0 < l2 := by rw [e5] at hdl; simp at hdl; omega
        have p1 : (0 : Int) < (l2 : Int) := by omega
        rw [e5] at HC2
        have HC3 := hid HC2
        have HE : Hid (H = false ∧ K = 2) := ⟨eH, eN⟩
        subst eY
        clear HC2 A0 A1 HWR hdl e5 e6 eH hl2 hml hm eN
        go_enter Tryd.func38, Tryd.ntmps38
        go_wp2_with (go_at_call 55; (with_reducible refine HC3.out.mono ?_); rintro e w1 ⟨a1, c1, a2, c2, rfl, r1, r2, hb1⟩; (obtain ⟨b2, o2, x2, rfl, _, hc2, _, _, hx2⟩ := r2.get8 p0); (obtain rfl : 45 = x2 := (by have := hx2.out.1; simpa using this)); rw [Nat.add_zero] at hc2; clear hx2)
        go_ret3
        exact ⟨_, _, rfl, fun _ => ⟨by have h1 := HL3.out; have h2 := HE.out.2; omega, HE.out.1.symm⟩, hb1⟩
      · rw [e6] at eY eN
        clear eN
        rw [if_neg (by decide)] at eY
        have p0 : 0 < l2 := by rw [e5] at hdl; simp at hdl; omega
        have p1 : (0 : Int) < (l2 : Int) := by omega
        rw [e5] at HC2
        have HC3 := hid HC2
        subst eY
        clear HC2 A0 A1 HWR hdl e5 e6 eH hl2 hml hm
        go_enter Tryd.func38, Tryd.ntmps38
        go_wp2_with (go_at_call 55; (with_reducible refine HC3.out.mono ?_); rintro e w1 ⟨a1, c1, a2, c2, rfl, r1, r2, hb1⟩; (obtain ⟨b2, o2, x2, rfl, _, hc2, _, _, hx2⟩ := r2.get8 p0); (obtain rfl : y = x2 := (by have := hx2.out.1; simpa using this)); rw [Nat.add_zero] at hc2; clear hx2)
        go_ret3
        exact ⟨_, _, rfl, fun h => absurd h (by decide), hb1⟩
    · obtain ⟨eY, eH, eN⟩ := A1 (by omega)
      have n0 : ((m : Int) == 0) = false := by simpa using h0
      have HW : Hid (∀ a2 l2 c2 W (h : Reads .u8 W a2 l2 c2 (r.take m)), Calls Tryd.prog 56 #[.slice a2 l2 c2] W fun e w' => e = .returned (.int .i64 (mcRun (r.take m) false)) ∧ Below W.heap.size W w') := HWR
      rcases hB with ⟨e5, e6⟩ | ⟨s, e5, e6⟩ | ⟨y, s, e5, e6, e7⟩
      · rw [e6] at eY eN
        clear eN
        rw [if_neg (by decide)] at eY
        obtain rfl : l2 = 0 := by rw [e5] at hdl; exact hdl.symm
        rw [e5] at HC2
        have HC3 := hid HC2
        subst eY
        clear HC2 A0 A1 HWR hdl e5 e6 eH hl2 hml hm h0
        go_enter Tryd.func38, Tryd.ntmps38
        go_wp2_with (go_at_call 55; (with_reducible refine HC3.out.mono ?_); rintro e w1 ⟨a1, c1, a2, c2, rfl, r1, r2, hb1⟩)
        go_ret3
        exact ⟨_, _, rfl, fun h => absurd h (by decide), hb1⟩
      · rw [e6] at eY eN
        have eN := eN rfl
        rw [if_pos rfl] at eY
        have p0 : 0 < l2 := by rw [e5] at hdl; simp at hdl; omega
        have p1 : (0 : Int) < (l2 : Int) := by omega
        rw [e5] at HC2
        have HC3 := hid HC2
        have HE : Hid (H = true ∧ K = m + 2) := ⟨eH, eN⟩
        generalize mcRun (r.take m) false = Q at *
        subst eY
        clear HC2 A0 A1 HWR hdl e5 e6 eH hl2 hml hm h0 eN
        go_enter Tryd.func38, Tryd.ntmps38
        go_wp2_with (first
          | (go_at_call 55; (with_reducible refine HC3.out.mono ?_); rintro e w1 ⟨a1, c1, a2, c2, rfl, r1, r2, hb1⟩; (obtain ⟨b2, o2, x2, rfl, _, hc2, _, _, hx2⟩ := r2.get8 p0); (obtain rfl : 45 = x2 := (by have := hx2.out.1; simpa using this)); rw [Nat.add_zero] at hc2; clear hx2)
          | (go_at_call 56; (with_reducible refine (HW.out _ _ _ _ r1).mono ?_); rintro e w2 ⟨rfl, hb2⟩))
        go_ret3
        exact ⟨_, _, rfl, fun _ => ⟨by have h1 := HL3.out; have h2 := HE.out.2; omega, HE.out.1.symm⟩, below_then hb1 hb2⟩
      · rw [e6] at eY eN
        clear eN
        rw [if_neg (by decide)] at eY
        have p0 : 0 < l2 := by rw [e5] at hdl; simp at hdl; omega
        have p1 : (0 : Int) < (l2 : Int) := by omega
        rw [e5] at HC2
        have HC3 := hid HC2
        subst eY
        clear HC2 A0 A1 HWR hdl e5 e6 eH hl2 hml hm h0
        go_enter Tryd.func38, Tryd.ntmps38
        go_wp2_with (go_at_call 55; (with_reducible refine HC3.out.mono ?_); rintro e w1 ⟨a1, c1, a2, c2, rfl, r1, r2, hb1⟩; (obtain ⟨b2, o2, x2, rfl, _, hc2, _, _, hx2⟩ := r2.get8 p0); (obtain rfl : y = x2 := (by have := hx2.out.1; simpa using this)); rw [Nat.add_zero] at hc2; clear hx2)
        go_ret3
        exact ⟨_, _, rfl, fun h => absurd h (by decide), hb1⟩
set_option maxRecDepth 100000 in
set_option maxHeartbeats 1000000 in
theorem mcheck_piece (a : Option Addr) (len cap : Nat) (xs : List Int) (w : World) (hr : Reads .u8 w a len cap xs) (hN : len < 100000) (hp : 0 < len) :
    Calls Tryd.prog 27 #[.slice a len cap] w fun e w' => ∃ (k : Int) (b : Bool), e = .returned (.tuple #[.int .i64 (mcY xs false), .int .i64 k, .bool b]) ∧ (mcY xs false = 0 → k = (mbN xs : Int) ∧ b = mcH xs) ∧ Below w.heap.size w w' := by
  have hl := hr.len_le
  obtain ⟨b, off, x, rfl, _, hc, h1, h2, hx⟩ := hr.get8 hp
  obtain ⟨r, rfl⟩ : ∃ r, xs = x :: r := by
    have h := hx.out.1
    cases xs with
    | nil => cases h
    | cons y r => exact ⟨r, by simp at h; rw [h]⟩
  rw [Nat.add_zero] at hc
  clear hx
  by_cases h38 : x = 38
  · subst h38
    have H := hid (mcheck_opened _ _ _ _ _ hr hN)
    generalize mcY (38 :: r) false = Y at *
    generalize mbN (38 :: r) = K at *
    generalize mcH (38 :: r) = M at *
    clear hr
    go_enter Tryd.func27, Tryd.ntmps27
    go_wp2_with (go_at_call 38; (with_reducible refine H.out.mono ?_); rintro e w1 ⟨k, b1, rfl, hk, hb1⟩; have HK := hid hk; clear hk)
    go_ret3
    exact ⟨_, _, rfl, HK.out, hb1⟩
  · have hn : (x == 38) = false := by simpa using h38
    have eN : mbN (x :: r) = 1 := by rw [mbN, if_pos h38]
    have eH : mcH (x :: r) = false := by rw [mcH_cons, decide_eq_false h38]; rfl
    have H := mseven_Direct x w
    unfold mbDir at H
    rw [decide_eq_true h38, Bool.and_true] at H
    rw [mcY_cons, if_pos h38, eN, eH]
    have HD := hid H
    clear H hr h38 eN eH
    cases hpl : mbPrt x
    all_goals
      rw [hpl] at HD
      clear hpl
      first | rw [if_pos rfl] | rw [if_neg (by decide)]
      go_enter Tryd.func27, Tryd.ntmps27
      go_wp2_with (go_at_call 39; (with_reducible refine HD.out.mono ?_); rintro e w1 ⟨rfl, hb1⟩)
      go_ret3
      first
      | exact ⟨_, _, rfl, fun h => absurd h (by decide), hb1⟩
      | exact ⟨_, _, rfl, fun _ => ⟨rfl, rfl⟩, hb1⟩
theorem mcW_step {xs : List Int} {k j : Nat} {b : Bool} (hk : k < xs.length) (h : mcW xs false = ((mcW (xs.drop k) b).1, k + (mcW (xs.drop k) b).2.1, j + (mcW (xs.drop k) b).2.2)) :
    (mcY (xs.drop k) b ≠ 0 → mcW xs false = (mcY (xs.drop k) b, k, j)) ∧ (mcY (xs.drop k) b = 0 → mcW xs false = ((mcW (xs.drop (k + mbN (xs.drop k))) (mcH (xs.drop k))).1, (k + mbN (xs.drop k)) + (mcW (xs.drop (k + mbN (xs.drop k))) (mcH (xs.drop k))).2.1, (j + 1) + (mcW (xs.drop (k + mbN (xs.drop k))) (mcH (xs.drop k))).2.2)) ∧ 0 < mbN (xs.drop k) ∧ k + mbN (xs.drop k) ≤ xs.length := by
  have hl : (xs.drop k).length = xs.length - k := List.length_drop
  rw [← List.drop_drop, h]
  cases hd : xs.drop k with
  | nil => rw [hd] at hl; simp at hl; omega
  | cons x r =>
    rw [hd] at hl
    have h1 := mbN_pos x r
    have h2 := mbN_le x r
    refine ⟨fun hy => by rw [mcW_no hy]; rfl, fun hy => ?_, h1, by omega⟩
    rw [mcW_yes hy]
    dsimp only
    rw [Nat.add_assoc k, Nat.add_assoc j]
set_option maxRecDepth 100000 in
set_option maxHeartbeats 4000000 in
theorem mcheck_look (a : Option Addr) (len cap : Nat) (xs : List Int) (w : World) (hr : Reads .u8 w a len cap xs) (hN : len < 100000) :
    Calls Tryd.prog 17 #[.slice a len cap] w fun e w' => e = .returned (.tuple #[.int .i64 (mcW xs false).1, .int .i64 (mcW xs false).2.1, .int .i64 (mcW xs false).2.2]) ∧ Below w.heap.size w w' := by
  have hl := hr.len_le
  have hrm := hr.room
  have HR := hid hr
  have HS := hid hr.size
  have hW : Hid (mcW xs false = ((mcW (xs.drop 0) false).1, 0 + (mcW (xs.drop 0) false).2.1, 0 + (mcW (xs.drop 0) false).2.2)) := by
    rw [Hid, List.drop_zero, Nat.zero_add, Nat.zero_add]
  have HST := hid (fun k j b => mcW_step (xs := xs) (k := k) (j := j) (b := b))
  clear hr
  go_enter Tryd.func17, Tryd.ntmps17
  go_wp2_with fail
  go_loopw [3, 4, 5] (fun at' mn br wr => ∃ (k j : Nat) (b : Bool), k ≤ len ∧ j ≤ k ∧ at' = .int .i64 k ∧ mn = .int .i64 j ∧ br = .bool b ∧ Hid (mcW xs false = ((mcW (xs.drop k) b).1, k + (mcW (xs.drop k) b).2.1, j + (mcW (xs.drop k) b).2.2)) ∧ Below w.heap.size w wr) (fun at' _ _ _ => len - (intOf at').toNat)
  case atStart => exact ⟨0, 0, false, Nat.zero_le _, Nat.le_refl _, rfl, rfl, rfl, hW, Below.refl _ _⟩
  case round =>
    obtain ⟨k, j, b, hk, hjk, rfl, rfl, rfl, hst, hbel⟩ := hrel
    by_cases hlt : k < len
    · have S := HST.out k j b (by rw [HS.out]; exact hlt) hst.out
      rw [HS.out] at S
      have r0 := HR.out.below hbel
      obtain ⟨bb, off, x, rfl, _, _, _, _, _⟩ := r0.get8 hlt
      have hp := r0.piece (l := k) (r := len) (by omega) (Nat.le_refl _)
      rw [List.take_of_length_le (by rw [HS.out]; exact Nat.le_refl _), if_neg (show ¬ cap = k by omega), Option.map_some, Addr.add_lit] at hp
      have r3 : (cap = k) = False := eq_false (by omega)
      have q1 : (k : Int) ≤ (len : Int) := by omega
      have q2 : (k : Int) ≤ (cap : Int) := by omega
      have q4 : (len : Int) ≤ (cap : Int) := by omega
      have q5 : (k : Int) < (len : Int) := by omega
      have hjl : (j : Int) ≤ (len : Int) := by omega
      have HP := mcheck_piece _ _ _ _ _ hp (by omega) (by omega)
      have hT := mcY_true (xs.drop k)
      generalize mbN (xs.drop k) = K at *
      generalize mcH (xs.drop k) = M at *
      clear r0 hp
      obtain ⟨S1, S2, S3, S4⟩ := S
      by_cases hY : mcY (xs.drop k) false = 0
      · rw [hY] at HP hT
        have HP2 : Calls Tryd.prog 27 #[_] wr fun e w' => e = .returned (.tuple #[.int .i64 0, .int .i64 K, .bool M]) ∧ Below wr.heap.size wr w' := HP.mono (by
          rintro e w' ⟨k1, b1, rfl, h, hb⟩
          obtain ⟨rfl, rfl⟩ := h rfl
          exact ⟨rfl, hb⟩)
        clear HP
        have H := hid HP2
        clear HP2
        by_cases hMb : M = true ∧ b = true
        · obtain ⟨rfl, rfl⟩ := hMb
          rw [if_pos ⟨rfl, rfl⟩] at hT
          have E := hid (S1 (by rw [hT]; decide))
          rw [hT] at E
          clear S1 S2 hT hY hst
          go_wp2_with (go_at_call 27; (with_reducible refine H.out.mono ?_); rintro e w1 ⟨rfl, hb1⟩)
          go_ret3
          exact ⟨by rw [E.out]; rfl, below_then hbel hb1⟩
        · have hYb : mcY (xs.drop k) b = 0 := by
            cases b
            · exact hY
            · rw [hT, if_neg (fun h => hMb ⟨h.2, rfl⟩)]
          have E := hid (S2 hYb)
          have S5 : (K : Int) + (k : Int) ≤ (len : Int) := by omega
          rcases (show (M = false) ∨ (M = true ∧ b = false) by cases M <;> cases b <;> simp at hMb ⊢) with rfl | ⟨rfl, rfl⟩
          all_goals
            clear S1 S2 hT hY hst hYb hMb
            go_wp2_with (go_at_call 27; (with_reducible refine H.out.mono ?_); rintro e w1 ⟨rfl, hb1⟩)
            go_roundw
            case rel => exact ⟨k + K, j + 1, _, by omega, by omega, by go_num, by go_num, rfl, E, below_then hbel hb1⟩
            case measure => simp [intOf]; omega
      · have hYb : mcY (xs.drop k) b = mcY (xs.drop k) false := by
          cases b
          · rfl
          · rw [hT, if_neg (fun h => hY h.1)]
        have E := hid (S1 (by rw [hYb]; exact hY))
        rw [hYb] at E
        have hYn : (mcY (xs.drop k) false == 0) = false := by simpa using hY
        have H := hid HP
        generalize mcY (xs.drop k) false = Y at *
        clear S1 S2 hT hY hst hYb HP
        go_wp2_with (go_at_call 27; (with_reducible refine H.out.mono ?_); rintro e w1 ⟨k1, b1, rfl, hno, hb1⟩; clear hno)
        go_ret3
        exact ⟨by rw [E.out]; rfl, below_then hbel hb1⟩
    · obtain rfl : k = len := by omega
      have hn : xs.drop k = [] := List.drop_eq_nil_of_le (by rw [HS.out]; exact Nat.le_refl _)
      have E := hst
      rw [hn, mcW_nil] at E
      clear hst hn hlt
      go_wp2_with fail
      go_ret3
      exact ⟨by rw [E.out]; rfl, hbel⟩
theorem mcheck_Why (a : Option Addr) (len cap : Nat) (xs : List Int) (w : World) (hr : Reads .u8 w a len cap xs) (hN : len < 100000) :
    Calls Tryd.prog 7 #[.slice a len cap] w fun e w' => e = .returned (.tuple #[.int .i64 (mcW xs false).1, .int .i64 (mcW xs false).2.1]) ∧ Below w.heap.size w w' := by
  have H := hid (mcheck_look a len cap xs w hr hN)
  generalize (mcW xs false).1 = Y at *
  generalize (mcW xs false).2.1 = P at *
  generalize (mcW xs false).2.2 = K at *
  clear hr
  go_enter Tryd.func7, Tryd.ntmps7
  go_wp2_with (go_at_call 17; (with_reducible refine H.out.mono ?_); rintro e w1 ⟨rfl, hb1⟩)
  go_ret2
  exact ⟨rfl, hb1⟩
theorem mcheck_Pieces (a : Option Addr) (len cap : Nat) (xs : List Int) (w : World) (hr : Reads .u8 w a len cap xs) (hN : len < 100000) :
    Calls Tryd.prog 9 #[.slice a len cap] w fun e w' => e = .returned (.int .i64 (mcW xs false).2.2) ∧ Below w.heap.size w w' := by
  have H := hid (mcheck_look a len cap xs w hr hN)
  generalize (mcW xs false).1 = Y at *
  generalize (mcW xs false).2.1 = P at *
  generalize (mcW xs false).2.2 = K at *
  clear hr
  go_enter Tryd.func9, Tryd.ntmps9
  go_wp2_with (go_at_call 17; (with_reducible refine H.out.mono ?_); rintro e w1 ⟨rfl, hb1⟩)
  go_ret
  exact ⟨rfl, hb1⟩
theorem mcheck_Right (a : Option Addr) (len cap : Nat) (xs : List Int) (w : World) (hr : Reads .u8 w a len cap xs) (hN : len < 100000) :
    Calls Tryd.prog 10 #[.slice a len cap] w fun e w' => e = .returned (.bool (mcOk xs)) ∧ Below w.heap.size w w' := by
  have H := hid (mcheck_look a len cap xs w hr hN)
  unfold mcOk
  generalize (mcW xs false).1 = Y at *
  generalize (mcW xs false).2.1 = P at *
  generalize (mcW xs false).2.2 = K at *
  have HE : Hid ((Y == 0) = decide (Y = 0)) := by rw [Hid, Bool.eq_iff_iff]; simp
  clear hr
  go_enter Tryd.func10, Tryd.ntmps10
  go_wp2_with (go_at_call 17; (with_reducible refine H.out.mono ?_); rintro e w1 ⟨rfl, hb1⟩)
  go_ret
  exact ⟨by first | rfl | exact ret_bool HE.out, hb1⟩
set_option maxHeartbeats 1000000 in
theorem mcheck_Read (a : Option Addr) (len cap : Nat) (xs : List Int) (w : World) (hr : Reads .u8 w a len cap xs) (hN : len < 90000) :
    Calls Tryd.prog 11 #[.slice a len cap] w fun e w' => ∃ a' l' c', e = .returned (.tuple #[.slice a' l' c', .int .i64 (mcE xs)]) ∧ Reads .i32 w' a' l' c' (mcR xs) ∧ Below w.heap.size w w' := by
  have H := hid (mcheck_Right a len cap xs w hr (by omega))
  have HD := hid (fun W (hb : Below w.heap.size w W) => mseven_Read a len cap xs W (hr.below hb) hN)
  clear hr
  unfold mcE mcR
  cases hk : mcOk xs
  · rw [if_neg (by decide), if_neg (by decide)]
    rw [hk] at H
    clear hk
    go_enter Tryd.func11, Tryd.ntmps11
    go_wp2_with (go_at_call 10; (with_reducible refine H.out.mono ?_); rintro e w1 ⟨rfl, hb1⟩)
    go_ret2
    exact ⟨none, 0, 0, rfl, Reads.nil _ _ _ _ (Nat.zero_le _), hb1⟩
  · rw [if_pos rfl, if_pos rfl]
    rw [hk] at H
    clear hk
    go_enter Tryd.func11, Tryd.ntmps11
    go_wp2_with (first
      | (go_at_call 10; (with_reducible refine H.out.mono ?_); rintro e w1 ⟨rfl, hb1⟩)
      | (go_at_call 20; (with_reducible refine (HD.out _ hb1).mono ?_); rintro e w2 ⟨a2, l2, c2, rfl, r2, hb2⟩))
    go_ret2
    exact ⟨_, _, _, rfl, r2, below_then hb1 hb2⟩
set_option maxHeartbeats 1000000 in
theorem mcheck_Same (a : Option Addr) (len cap : Nat) (xs : List Int) (a2 : Option Addr) (len2 cap2 : Nat) (ys : List Int) (w : World) (hr : Reads .u8 w a len cap xs) (hr2 : Reads .u8 w a2 len2 cap2 ys) (hN : len < 100000) (hN2 : len2 < 100000) :
    Calls Tryd.prog 15 #[.slice a len cap, .slice a2 len2 cap2] w fun e w' => e = .returned (.bool (mcOk xs && mcOk ys && decide (xs = ys))) ∧ Below w.heap.size w w' := by
  have HE := bytes_Equal a len cap xs a2 len2 cap2 ys w hr hr2
  have HA := hid (mcheck_Right a len cap xs w hr hN)
  by_cases h : xs = ys
  · rw [decide_eq_true h] at HE ⊢
    rw [← h, Bool.and_true, Bool.and_self]
    have H := hid HE
    generalize mcOk xs = Z at *
    clear HE hr hr2 h
    go_enter Tryd.func15, Tryd.ntmps15
    go_wp2_with (first
      | (go_at_call 26; (with_reducible refine H.out.mono ?_); rintro e w1 ⟨rfl, rfl⟩)
      | (go_at_call 10; (with_reducible refine HA.out.mono ?_); rintro e w2 ⟨rfl, hb2⟩))
    go_ret
    exact ⟨rfl, hb2⟩
  · rw [decide_eq_false h] at HE ⊢
    rw [Bool.and_false]
    have H := hid HE
    clear HE hr hr2 h
    go_enter Tryd.func15, Tryd.ntmps15
    go_wp2_with (go_at_call 26; (with_reducible refine H.out.mono ?_); rintro e w1 ⟨rfl, rfl⟩)
    go_ret
    exact ⟨rfl, Below.refl _ _⟩
end Go.Proofs.YtiacijodoojgoaaDoor
