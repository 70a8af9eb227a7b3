/-
  Texts of ours laid together: R25.
-/
import Derived.Test.YtiacijodoojgoaaDoorZ31

/-! R25 -/
namespace Go.Proofs.YtiacijodoojgoaaDoor
open Go.RowKit
set_option linter.unusedVariables false

set_option maxHeartbeats 1000000 in
theorem ref25_digit (a : Option Addr) (len cap : Nat) (xs : List Int) (w : World) (hr : Reads .u8 w a len cap xs) (n : Nat) (i : Int) (hi : i = n) :
    Calls Tryd.prog 18 #[.slice a len cap, .int .i64 i] w fun e w' => e = .returned (.bool (hdB isM (xs.drop n))) ∧ w = w' := by
  subst hi
  have HR := hid hr
  have hsz := hr.size
  have hl := hr.len_le
  clear hr
  by_cases hlt : n < len
  · obtain ⟨b, off, x, rfl, _, hc, h0, h1, hx⟩ := HR.out.get8 hlt
    have e : xs.drop n = x :: xs.drop (n + 1) := drop_at hx.out.1
    have HV := hid (ref17_Value x w h0 h1)
    rw [e, show hdB isM (x :: xs.drop (n + 1)) = isM x from rfl]
    clear e
    go_enter Tryd.func18, Tryd.ntmps18
    go_wp2_with (go_at_call 28; (with_reducible refine HV.out.mono ?_); rintro e w4 ⟨rfl, rfl⟩)
    go_ret
    exact ⟨rfl, rfl⟩
  · rw [List.drop_of_length_le (by omega), show hdB isM [] = false from rfl]
    go_enter Tryd.func18, Tryd.ntmps18
    go_wp2_with fail
    go_ret
    exact ⟨rfl, rfl⟩
set_option maxHeartbeats 2000000 in
theorem ref25_run (a : Option Addr) (len cap : Nat) (xs : List Int) (h : Bool) (w : World) (hr : Reads .u8 w a len cap xs) (hN : len < 900000) :
    Calls Tryd.prog 19 #[.slice a len cap, .bool h] w fun e w' => e = .returned (.int .i64 (mcRun xs h)) ∧ Below w.heap.size w w' := by
  have HRn := hid (ref24_Run a len cap xs w hr hN)
  clear hr
  unfold mcRun
  generalize mbT xs = T at *
  cases hK : mbK xs
  · rw [if_pos (.inl rfl)]
    rw [hK] at HRn
    clear hK
    go_enter Tryd.func19, Tryd.ntmps19
    go_wp2_with (go_at_call 23; (with_reducible refine HRn.out.mono ?_); rintro e w1 ⟨a1, m1, c1, a2, m2, c2, rfl, r1, _, h1⟩)
    go_ret
    exact ⟨rfl, h1⟩
  · rw [hK] at HRn
    clear hK
    by_cases hT : T = []
    · subst hT
      rw [if_pos (.inr rfl)]
      go_enter Tryd.func19, Tryd.ntmps19
      go_wp2_with (go_at_call 23; (with_reducible refine HRn.out.mono ?_); rintro e w1 ⟨a1, m1, c1, a2, m2, c2, rfl, r1, _, h1⟩; obtain rfl : 0 = m1 := r1.size)
      go_ret
      exact ⟨rfl, h1⟩
    · rw [if_neg (fun hh => by rcases hh with hh | hh; exact absurd hh (by decide); exact hT hh)]
      obtain ⟨V, hV⟩ : ∃ V : Int, V = (if T.any mbPrt = true then 5 else if h = true then 6 else 0) := ⟨_, rfl⟩
      rw [← hV]
      have HV := hid hV
      clear hV
      have hTl : 0 < T.length := List.length_pos_iff.2 hT
      have HTL := hid hTl
      clear hT hTl
      go_enter Tryd.func19, Tryd.ntmps19
      go_wp2_with (go_at_call 23; (with_reducible refine HRn.out.mono ?_); rintro e w1 ⟨a1, m1, c1, a2, m2, c2, rfl, r1, _, h1⟩; have hm1 : ((m1 : Int) == 0) = false := (by have := r1.size; have := HTL.out; simp; omega); have R1 := hid r1; clear r1)
      have hl := R1.out.len_le
      go_loop [8] (fun i => ∃ k : Nat, k ≤ m1 ∧ i = .int .i64 k ∧ Hid ((T.take k).any mbPrt = false)) (fun i => m1 - (intOf i).toNat)
      case atStart => exact ⟨0, Nat.zero_le _, rfl, rfl⟩
      case round =>
        obtain ⟨k, hk, rfl, hn⟩ := hrel
        by_cases hlt : k < m1
        · obtain ⟨b, off, x, rfl, _, hc, _, _, hx⟩ := R1.out.getR hlt
          by_cases h32 : 32 ≤ x
          · by_cases h126 : x ≤ 126
            · have hp : mbPrt x = true := (mbPrt_iff x).2 ⟨h32, h126⟩
              go_wp2_with fail
              go_ret
              exact ⟨ret_int (by rw [HV.out, if_pos (any_hit hx.out.1 hp)]), h1⟩
            · have hp : mbPrt x = false := by
                cases hpx : mbPrt x
                · rfl
                · exact absurd ((mbPrt_iff x).1 hpx).2 h126
              have HN := hid (none_yes hx.out.2 hn.out hp)
              clear hp
              go_wp2_with fail
              go_round
              case rel => exact ⟨k + 1, by omega, by go_num, HN⟩
              case measure => simp [intOf]; omega
          · have hp : mbPrt x = false := by
              cases hpx : mbPrt x
              · rfl
              · exact absurd ((mbPrt_iff x).1 hpx).1 h32
            have HN := hid (none_yes hx.out.2 hn.out hp)
            clear hp
            go_wp2_with fail
            go_round
            case rel => exact ⟨k + 1, by omega, by go_num, HN⟩
            case measure => simp [intOf]; omega
        · have hall : T.any mbPrt = false := by rw [← R1.out.all (show m1 ≤ k by omega)]; exact hn.out
          have HA := hid hall
          clear hall
          cases h
          all_goals
            go_wp2_with fail
            go_ret
            exact ⟨ret_int (by rw [HV.out, HA.out]; rfl), h1⟩
theorem tri_eq {a b c a' b' c' : Int} (h1 : a = a') (h2 : b = b') (h3 : c = c') : Ending.returned (.tuple #[.int .i64 a, .int .i64 b, .int .i64 c]) = .returned (.tuple #[.int .i64 a', .int .i64 b', .int .i64 c']) := by rw [h1, h2, h3]
set_option maxRecDepth 100000 in
set_option maxHeartbeats 8000000 in
theorem ref25_Why (a : Option Addr) (len cap : Nat) (xs : List Int) (w : World) (hr : Reads .u8 w a len cap xs) (hN : len < 800000) :
    Calls Tryd.prog 8 #[.slice a len cap] w fun e w' => e = .returned (.tuple #[.int .i64 (mcW xs false).1, .int .i64 (mcW xs false).2.1, .int .i64 (mcW xs false).2.2]) ∧ Below w.heap.size w w' := by
  have HR := hid hr
  have hl := hr.len_le
  have hrm := hr.room
  have hsz := hr.size
  clear hr
  have HD := hid (fun W (hb : Below w.heap.size w W) n i hi => ref25_digit a len cap xs W (HR.out.below hb) n i hi)
  obtain ⟨Z, hZ⟩ : ∃ Z, Z = mcW xs false := ⟨_, rfl⟩
  rw [← hZ]
  go_enter Tryd.func8, Tryd.ntmps8
  go_wp2_with fail
  go_loopw [5, 6, 7] (fun p f i wr => ∃ (k j : Nat) (g : Bool), k ≤ len ∧ i = .int .i64 k ∧ p = .int .i64 j ∧ f = .bool g ∧ j ≤ k ∧ Hid (Z = ((mcW (xs.drop k) g).1, k + (mcW (xs.drop k) g).2.1, j + (mcW (xs.drop k) g).2.2)) ∧ Below w.heap.size w wr) (fun _ _ i _ => len - (intOf i).toNat)
  case atStart => exact ⟨0, 0, false, Nat.zero_le _, rfl, rfl, rfl, Nat.le_refl _, by unfold Hid; rw [hZ]; simp, Below.refl _ _⟩
  case round =>
    obtain ⟨k, j, g, hk, rfl, rfl, rfl, hj, hW, hbel⟩ := hrel
    clear hZ
    by_cases hlt : k < len
    · obtain ⟨b, off, x, hab, hbw, hcw, h0, h1, hx⟩ := HR.out.get8 hlt
      subst hab
      have hc := (hbel.cell (p := ⟨b, off + k, none⟩) hbw).trans hcw
      have hd : xs.drop k = x :: xs.drop (k + 1) := drop_at hx.out.1
      have hW' := hW.out
      rw [hd] at hW'
      have hYc := mcY_cons x (xs.drop (k + 1)) g
      cases hp : mbPrt x
      case false =>
        rw [hp, if_pos rfl] at hYc
        rw [mcW_no (by rw [hYc]; decide), hYc] at hW'
        have HW := hid hW'
        have hx2 : x < 32 ∨ (¬ x < 32 ∧ 126 < x) := by
          by_cases h : x < 32
          · exact .inl h
          · by_cases h' : x ≤ 126
            · rw [(mbPrt_iff x).2 ⟨by omega, h'⟩] at hp; cases hp
            · exact .inr ⟨h, by omega⟩
        clear hW hW' hYc hd hp
        rcases hx2 with hx2 | ⟨hx2, hx3⟩
        all_goals
          go_wp2_with fail
          go_ret3
          exact ⟨by rw [HW.out]; rfl, hbel⟩
      case true =>
      have hx32 : ¬ x < 32 := by have := (mbPrt_iff x).1 hp; omega
      have hx126 : ¬ 126 < x := by have := (mbPrt_iff x).1 hp; omega
      rw [hp, if_neg (by decide)] at hYc
      by_cases h38 : x ≠ 38
      · rw [if_pos h38] at hYc
        have e2 : mbN (x :: xs.drop (k + 1)) = 1 := by rw [mbN, if_pos h38]
        have e3 : mcH (x :: xs.drop (k + 1)) = false := by rw [mcH_cons, decide_eq_false h38]; rfl
        rw [mcW_yes hYc, e2, e3] at hW'
        have HW := hid (show Z = ((mcW (xs.drop (k + 1)) false).1, (k + 1) + (mcW (xs.drop (k + 1)) false).2.1, (j + 1) + (mcW (xs.drop (k + 1)) false).2.2) by rw [hW']; simp only [List.drop_succ_cons, List.drop_zero, Nat.add_assoc])
        have hne : (x != 38) = true := by simpa using h38
        clear hW hW' hYc hd hp h38 e2 e3
        go_wp2_with fail
        go_roundw
        case rel => exact ⟨k + 1, j + 1, false, by omega, by go_num, by go_num, rfl, by omega, HW, hbel⟩
        case measure => simp [intOf]; omega
      · obtain rfl : x = 38 := by omega
        rw [if_neg h38] at hYc
        have hDig := HD.out _ hbel (k + 1) ((k : Int) + 1) (by omega)
        cases h45 : hdB is45 (xs.drop (k + 1))
        · rw [h45, if_neg (by decide)] at hYc
          cases hdig : hdB isM (xs.drop (k + 1))
          · rw [hdig, if_pos rfl] at hYc
            rw [hdig] at hDig
            rw [mcW_no (by rw [hYc]; decide), hYc] at hW'
            have HW := hid hW'
            have hK : k + 1 = len ∨ (k + 1 < len ∧ ∃ y, w.cell? ⟨b, off + (k + 1), none⟩ = some (.int .u8 y) ∧ (y == 45) = false) := by
              by_cases h : k + 1 < len
              · obtain ⟨b', off', y, hA, _, hcy, _, _, hy⟩ := HR.out.get8 h
                cases hA
                rw [drop_at hy.out.1] at h45
                exact .inr ⟨h, y, hcy, by simpa [hdB, is45] using h45⟩
              · exact .inl (by omega)
            have HDg := hid hDig
            clear hW hW' hYc hd hp hDig hdig h45 h38
            rcases hK with hK | ⟨hK, y, hcy, hy45⟩
            case' inl => have hK' : ¬ (k : Int) + 1 < (len : Int) := by omega
            case' inr =>
              have hK' : (k : Int) + 1 < (len : Int) := by omega
              have hK2 : ((k : Int) + 1).toNat = k + 1 := by omega
              have hK3 : (0 : Int) ≤ (k : Int) + 1 := by omega
              have hc2 := (hbel.cell (p := ⟨b, off + (k + 1), none⟩) hbw).trans hcy
            all_goals
              go_wp2_with (go_at_call 18; (with_reducible refine HDg.out.mono ?_); rintro e w4 ⟨rfl, rfl⟩)
              go_ret3
              exact ⟨by rw [HW.out]; rfl, hbel⟩
          · rw [hdig, if_neg (by decide)] at hYc
            rw [hdig] at hDig
            have HDg := hid hDig
            have hn1 : mbD (xs.drop (k + 1)) ≤ len - (k + 1) := by have := mbD_le (xs.drop (k + 1)); rw [List.length_drop] at this; omega
            have hn0 : 0 < mbD (xs.drop (k + 1)) := by
              have := ms_at (xs.drop (k + 1)) 0 (Nat.zero_le _)
              rw [List.drop_zero, hdig] at this
              exact of_decide_eq_true this.symm
            have hat := hid (ms_at (xs.drop (k + 1)))
            have hlt1 : k + 1 < len := by omega
            obtain ⟨b', off', y, hA, _, hcy, _, _, hy⟩ := HR.out.get8 hlt1
            cases hA
            have hy45 : (y == 45) = false := by
              rw [drop_at hy.out.1] at h45
              simpa [hdB, is45] using h45
            have hc2 := (hbel.cell (p := ⟨b, off + (k + 1), none⟩) hbw).trans hcy
            have e2 : mbN (38 :: xs.drop (k + 1)) = 1 + mbD (xs.drop (k + 1)) + (if hdB is45 ((xs.drop (k + 1)).drop (mbD (xs.drop (k + 1)))) = true then 1 else 0) := by rw [mbN, if_neg (by decide), if_pos hdig]
            have e3 : mcH (38 :: xs.drop (k + 1)) = true := by rw [mcH_cons, hdig]; rfl
            have htk := take_mbD (xs.drop (k + 1))
            have hWy := fun hy0 : mcY (38 :: xs.drop (k + 1)) g = 0 => mcW_yes hy0
            have hWn := fun hy0 : mcY (38 :: xs.drop (k + 1)) g ≠ 0 => mcW_no hy0
            rw [e2, e3] at hWy
            generalize mcY (38 :: xs.drop (k + 1)) g = Y at hYc hWy hWn
            generalize hn : mbD (xs.drop (k + 1)) = n at hn1 hn0 hat htk hYc hWy
            rw [← htk] at hYc
            rw [List.drop_drop] at hYc hWy
            have hz : ∀ c : Nat, (38 :: xs.drop (k + 1)).drop (1 + n + c) = xs.drop (k + 1 + n + c) := fun c => by
              rw [show 1 + n + c = (n + c) + 1 by omega, List.drop_succ_cons, List.drop_drop, Nat.add_assoc (k + 1)]
            rw [hz] at hWy
            have hp := HR.out.piece (l := k + 1) (r := k + 1 + n) (by omega) (by omega)
            rw [if_neg (by omega), Option.map_some, Addr.add_lit, List.drop_take, show k + 1 + n - (k + 1) = n by omega] at hp
            generalize (xs.drop (k + 1)).take n = D at hp hYc
            have HRun := hid (fun W (hb : Below w.heap.size w W) => ref25_run _ _ _ D g W (hp.below hb) (by omega))
            have hDD : Hid (∀ q : Nat, q ≤ n → hdB isM (xs.drop (k + 1 + q)) = decide (q < n)) := fun q hq => by rw [← List.drop_drop]; exact hat.out q hq
            have hK' : (k : Int) + 1 < (len : Int) := by omega
            have hK2 : ((k : Int) + 1).toNat = k + 1 := by omega
            have hK3 : (0 : Int) ≤ (k : Int) + 1 := by omega
            have hWY : Hid (Y = 0 → Z = ((mcW (xs.drop (k + 1 + n + if hdB is45 (xs.drop (k + 1 + n)) = true then 1 else 0)) true).1, k + (1 + n + (if hdB is45 (xs.drop (k + 1 + n)) = true then 1 else 0) + (mcW (xs.drop (k + 1 + n + if hdB is45 (xs.drop (k + 1 + n)) = true then 1 else 0)) true).2.1), j + (1 + (mcW (xs.drop (k + 1 + n + if hdB is45 (xs.drop (k + 1 + n)) = true then 1 else 0)) true).2.2))) := fun h => by rw [hW', hWy h]
            have hWN : Hid (Y ≠ 0 → Z = (Y, k, j)) := fun h => by rw [hW', hWn h]; rfl
            have HYC := hid hYc
            clear hat e2 e3 hz hp hd hDig hdig hn htk hW hW' hy h45 h38 hYc hWy hWn
            have r5 : ¬ cap = k + 1 := by omega
            go_wp2_with (go_at_call 18; (with_reducible refine HDg.out.mono ?_); rintro e w4 ⟨rfl, rfl⟩)
            generalize hWW : wr = WW at *
            go_loopw [8] (fun i wr => ∃ q : Nat, q ≤ n ∧ i = .int .i64 ((k + 1 + q : Nat) : Int) ∧ wr = WW) (fun i _ => len - (intOf i).toNat)
            case atStart => exact ⟨0, Nat.zero_le _, by go_num, rfl⟩
            case round =>
              obtain ⟨q, hq, rfl, rfl⟩ := hrel
              have hDq := HD.out _ hbel (k + 1 + q) ((k + 1 + q : Nat) : Int) rfl
              rw [hDD.out q hq] at hDq
              by_cases hqn : q < n
              · have hDq := HD.out _ hbel (k + 1 + q) ((k : Int) + 1 + (q : Int)) (by omega)
                rw [hDD.out q hq, decide_eq_true hqn] at hDq
                have HDq := hid hDq
                clear hDq
                go_wp2_with (go_at_call 18; (with_reducible refine HDq.out.mono ?_); rintro e w4 ⟨rfl, rfl⟩)
                go_roundw
                case rel => exact ⟨q + 1, by omega, by go_num, by first | rfl | trivial⟩
                case measure => simp [intOf]; omega
              · rw [decide_eq_false hqn] at hDq
                have HDq := hid hDq
                obtain rfl : q = n := by omega
                clear hDq hDD
                have r0 : (0 : Int) ≤ ((k + 1 + q : Nat) : Int) := by omega
                have r1 : ((k + 1 + q : Nat) : Int) ≤ (cap : Int) := by omega
                have r2 : (k : Int) + 1 ≤ ((k + 1 + q : Nat) : Int) := by omega
                have r3 : ((k : Int) + 1).toNat = k + 1 := by omega
                have r7 : (0 : Int) ≤ (k : Int) + 1 := by omega
                have hK : (hdB is45 (xs.drop (k + 1 + q)) = true ∧ k + 1 + q < len ∧ w.cell? ⟨b, off + (k + 1 + q), none⟩ = some (.int .u8 45)) ∨ (hdB is45 (xs.drop (k + 1 + q)) = false ∧ (k + 1 + q = len ∨ (k + 1 + q < len ∧ ∃ y, w.cell? ⟨b, off + (k + 1 + q), none⟩ = some (.int .u8 y) ∧ (y == 45) = false))) := by
                  by_cases h : k + 1 + q < len
                  · obtain ⟨b', off', y, hA, _, hcy, _, _, hy⟩ := HR.out.get8 h
                    cases hA
                    rw [drop_at hy.out.1]
                    by_cases hy45 : y = 45
                    · subst hy45
                      exact .inl ⟨rfl, h, hcy⟩
                    · exact .inr ⟨by simpa [hdB, is45] using hy45, .inr ⟨h, y, hcy, by simpa using hy45⟩⟩
                  · exact .inr ⟨by rw [List.drop_of_length_le (by omega)]; rfl, .inl (by omega)⟩
                clear HR HD HDg hx hrm hsz hc2 hcy hy45 hK' hK2 hK3 hlt1
                have HYC' := HYC.out
                have hWY' := hWY.out
                have hWN' := hWN.out
                clear HYC hWY hWN
                generalize hm : k + 1 + q = m at *
                have r6 : m - (k + 1) = q := by omega
                have hqk : q + (k + 1) = m := by omega
                clear hm
                rcases hK with ⟨h45, hml, hcm⟩ | ⟨h45, hK⟩
                · rw [h45, if_neg (by decide)] at HYC'
                  rw [h45] at hWY'
                  simp only [if_true] at hWY'
                  subst HYC'
                  have hcm2 := (hbel.cell (p := ⟨b, off + m, none⟩) hbw).trans hcm
                  have q1 : ¬ (len : Int) ≤ (m : Int) := by omega
                  generalize mcRun D g = Y at *
                  by_cases hY : Y = 0
                  · have HW := hid (show Z = ((mcW (xs.drop (m + 1)) true).1, (m + 1) + (mcW (xs.drop (m + 1)) true).2.1, (j + 1) + (mcW (xs.drop (m + 1)) true).2.2) by
                      rw [hWY' hY, show k + (1 + q + 1 + (mcW (xs.drop (m + 1)) true).2.1) = (m + 1) + (mcW (xs.drop (m + 1)) true).2.1 by omega, Nat.add_assoc j 1])
                    subst hY
                    clear hWY' hWN' h45
                    go_wp2_with (first
                      | (go_at_call 18; (with_reducible refine HDq.out.mono ?_); rintro e w4 ⟨rfl, rfl⟩)
                      | (go_at_call 19; (with_reducible refine (HRun.out _ hbel).mono ?_); rintro e w5 ⟨rfl, h5⟩; have hb5 := below_then hbel h5))
                    go_roundw
                    case rel => exact ⟨m + 1, j + 1, true, by omega, by go_num, by go_num, rfl, by omega, HW, hb5⟩
                    case measure => simp [intOf]; omega
                  · have HW := hid (hWN' hY)
                    have hYn : (Y != 0) = true := by simpa using hY
                    clear hWY' hWN' h45 hY
                    go_wp2_with (first
                      | (go_at_call 18; (with_reducible refine HDq.out.mono ?_); rintro e w4 ⟨rfl, rfl⟩)
                      | (go_at_call 19; (with_reducible refine (HRun.out _ hbel).mono ?_); rintro e w5 ⟨rfl, h5⟩; have hb5 := below_then hbel h5))
                    go_ret3
                    exact ⟨by rw [HW.out]; rfl, hb5⟩
                · rw [h45, if_pos rfl] at HYC'
                  have HW := hid (hWN' (by rw [HYC']; decide))
                  subst HYC'
                  clear hWY' hWN' h45
                  rcases hK with hK | ⟨hK, y2, hcm, hy2⟩
                  case' inl => subst hK
                  case' inr =>
                    have q1 : ¬ (len : Int) ≤ (m : Int) := by omega
                    have hy3 : (y2 != 45) = true := by simpa using hy2
                    have hcm2 := (hbel.cell (p := ⟨b, off + m, none⟩) hbw).trans hcm
                  all_goals
                    go_wp2_with (go_at_call 18; (with_reducible refine HDq.out.mono ?_); rintro e w4 ⟨rfl, rfl⟩)
                    go_ret3
                    exact ⟨by rw [HW.out]; rfl, hbel⟩
        · rw [h45, if_pos rfl] at hYc
          have e2 : mbN (38 :: xs.drop (k + 1)) = 2 := by
            obtain ⟨s, hs⟩ := hd45 h45
            rw [hs, mbN, if_neg (by decide), if_neg (by simp [hdB, isM_45]), if_pos (by simp [hdB, is45])]
          have e3 : mcH (38 :: xs.drop (k + 1)) = false := by
            obtain ⟨s, hs⟩ := hd45 h45
            rw [hs, mcH_cons]; simp [hdB, isM_45]
          rw [mcW_yes hYc, e2, e3, List.drop_succ_cons, List.drop_drop] at hW'
          have HW := hid (show Z = ((mcW (xs.drop (k + 2)) false).1, (k + 2) + (mcW (xs.drop (k + 2)) false).2.1, (j + 1) + (mcW (xs.drop (k + 2)) false).2.2) by rw [hW']; simp only [Nat.add_assoc, Nat.reduceAdd])
          have hK : k + 1 < len ∧ w.cell? ⟨b, off + (k + 1), none⟩ = some (.int .u8 45) := by
            by_cases h : k + 1 < len
            · obtain ⟨b', off', y, hA, _, hcy, _, _, hy⟩ := HR.out.get8 h
              cases hA
              rw [drop_at hy.out.1] at h45
              obtain rfl : y = 45 := by simpa [hdB, is45] using h45
              exact ⟨h, hcy⟩
            · rw [List.drop_of_length_le (by omega)] at h45; cases h45
          obtain ⟨hK, hcy⟩ := hK
          have hc2 := (hbel.cell (p := ⟨b, off + (k + 1), none⟩) hbw).trans hcy
          clear hW hW' hYc hd hp hDig h45 h38 e2 e3
          have hK' : (k : Int) + 1 < (len : Int) := by omega
          have hK2 : ((k : Int) + 1).toNat = k + 1 := by omega
          have hK3 : (0 : Int) ≤ (k : Int) + 1 := by omega
          go_wp2_with fail
          go_roundw
          case rel => exact ⟨k + 2, j + 1, false, by omega, by go_num, by go_num, rfl, by omega, HW, hbel⟩
          case measure => simp [intOf]; omega
    · obtain rfl : k = len := by omega
      have hW' := hW.out
      rw [List.drop_of_length_le (by omega), mcW_nil] at hW'
      have HW := hid hW'
      clear hW hW'
      go_wp2_with fail
      go_ret3
      exact ⟨by rw [HW.out]; rfl, hbel⟩
end Go.Proofs.YtiacijodoojgoaaDoor
