/-
  Texts of ours laid together: R24c, Keep.
-/
import Derived.ArgAppend
import Derived.Test.YtiacijodoojgoaaDoorZ32

/-! R24c -/
namespace Go.Proofs.YtiacijodoojgoaaDoor
open Go.RowKit
set_option linter.unusedVariables false

set_option maxRecDepth 100000 in
set_option maxHeartbeats 8000000 in
theorem ref24_Read (a : Option Addr) (len cap : Nat) (xs : List Int) (w : World) (hr : Reads .u8 w a len cap xs) (hN : len < 800000) :
    Calls Tryd.prog 12 #[.slice a len cap] w fun e w' => ∃ v, e = .returned (.tuple #[v, .bool (mbOk xs)]) ∧ Own .i32 21 w.heap.size w' v (mbRd xs) ∧ Below w.heap.size w w' := by
  have HR := hid hr
  have hl := hr.len_le
  have hrm := hr.room
  have hsz := hr.size
  clear hr
  have HD := hid (fun W (hb : Below w.heap.size w W) n i hi => ref24_digit a len cap xs W (HR.out.below hb) n i hi)
  go_enter Tryd.func12, Tryd.ntmps12
  go_wp2_with fail
  go_loopw [4, 5, 6] (fun v f i wr => ∃ (k : Nat) (O : List Int) (g : Bool), k ≤ len ∧ i = .int .i64 k ∧ f = .bool g ∧ O.length ≤ k ∧ Hid (O ++ mbRd (xs.drop k) = mbRd xs) ∧ Hid ((g && mbOk (xs.drop k)) = mbOk xs) ∧ Own .i32 21 w.heap.size wr v O ∧ Below w.heap.size w wr) (fun _ _ i _ => len - (intOf i).toNat)
  case atStart => exact ⟨0, [], true, Nat.zero_le _, rfl, rfl, Nat.zero_le _, rfl, by unfold Hid; simp, Own.nil _ _ _ _, Below.refl _ _⟩
  case round =>
    obtain ⟨k, O, g, hk, rfl, rfl, hO, hT, hG, hown, hbel⟩ := hrel
    by_cases hlt : k < len
    · obtain ⟨b, off, x, hab, hbw, hcw, h0, h1, hx⟩ := HR.out.get8 hlt
      subst hab
      have hc := (hbel.cell (p := ⟨b, off + k, none⟩) hbw).trans hcw
      have hd : xs.drop k = x :: xs.drop (k + 1) := drop_at hx.out.1
      have hT' := hT.out
      have hG' := hG.out
      rw [hd, mbRd_cons] at hT'
      rw [hd, mbOk_cons] at hG'
      have HDi := hid (fun W : World => ref24_Direct x W)
      cases hdx : mbDir x
      case true =>
        have h38 := ((mbDir_iff x).1 hdx).2
        have e1 : mbU (x :: xs.drop (k + 1)) = ([x], true) := by rw [mbU, if_pos hdx]
        have e2 : mbN (x :: xs.drop (k + 1)) = 1 := by rw [mbN, if_pos h38]
        rw [e1, e2] at hT' hG'
        rw [hdx] at HDi
        have HT := hid (show O ++ [x] ++ mbRd (xs.drop (k + 1)) = mbRd xs by rw [List.append_assoc]; exact hT')
        have HG := hid (show (g && mbOk (xs.drop (k + 1))) = mbOk xs by rw [← hG']; rfl)
        clear hT hG hT' hG' hd e1 e2 h38 hdx
        go_wp2_with (first
          | (go_at_call 21; (with_reducible refine (HDi.out _).mono ?_); rintro e w2 ⟨rfl, rfl⟩)
          | (at_builtin; go_must (refine wpList_push STR rfl _ _ rfl rfl ⟨_, rfl⟩ hown hbel (by omega) (mk_r (by omega) (by omega)) ?_); intro v3 w3 ho3 hb3))
        clear hown hbel
        go_roundw
        case rel => exact ⟨k + 1, _, g, by omega, by go_num, rfl, by simp; omega, HT, HG, ho3, hb3⟩
        case measure => simp [intOf]; omega
      case false =>
      rw [hdx] at HDi
      by_cases h38 : x ≠ 38
      · have e1 : mbU (x :: xs.drop (k + 1)) = ([65533], false) := by rw [mbU, if_neg (by rw [hdx]; decide), if_pos h38]
        have e2 : mbN (x :: xs.drop (k + 1)) = 1 := by rw [mbN, if_pos h38]
        rw [e1, e2] at hT' hG'
        have HT := hid (show O ++ [65533] ++ mbRd (xs.drop (k + 1)) = mbRd xs by rw [List.append_assoc]; exact hT')
        have HG := hid (show (false && mbOk (xs.drop (k + 1))) = mbOk xs by rw [← hG']; cases g <;> rfl)
        have hne : (x == 38) = false := by simpa using h38
        clear hT hG hT' hG' hd e1 e2 h38 hdx
        go_wp2_with (first
          | (go_at_call 21; (with_reducible refine (HDi.out _).mono ?_); rintro e w2 ⟨rfl, rfl⟩)
          | (at_builtin; go_must (refine wpList_push STR rfl _ _ rfl rfl ⟨_, rfl⟩ hown hbel (by omega) (by decide) ?_); intro v3 w3 ho3 hb3))
        clear hown hbel
        go_roundw
        case rel => exact ⟨k + 1, _, false, by omega, by go_num, rfl, by simp; omega, HT, HG, ho3, hb3⟩
        case measure => simp [intOf]; omega
      · obtain rfl : x = 38 := by omega
        clear h38
        have hDig := HD.out _ hbel (k + 1) ((k : Int) + 1) (by omega)
        cases hdig : hdB isM (xs.drop (k + 1))
        · rw [hdig] at hDig
          cases h45 : hdB is45 (xs.drop (k + 1))
          · have e1 : mbU (38 :: xs.drop (k + 1)) = ([65533], false) := by rw [mbU, if_neg (by rw [mbDir_38]; decide), if_neg (by decide), if_neg (by rw [hdig]; decide), if_neg (by rw [h45]; decide)]
            have e2 : mbN (38 :: xs.drop (k + 1)) = 1 := by rw [mbN, if_neg (by decide), if_neg (by rw [hdig]; decide), if_neg (by rw [h45]; decide)]
            rw [e1, e2] at hT' hG'
            have HT := hid (show O ++ [65533] ++ mbRd (xs.drop (k + 1)) = mbRd xs by rw [List.append_assoc]; exact hT')
            have HG := hid (show (false && mbOk (xs.drop (k + 1))) = mbOk xs by rw [← hG']; cases g <;> rfl)
            have hK : k + 1 = len ∨ (k + 1 < len ∧ ∃ y, w.cell? ⟨b, off + (k + 1), none⟩ = some (.int .u8 y) ∧ (y == 45) = false) := by
              by_cases h : k + 1 < len
              · obtain ⟨b', off', y, hA, _, hcy, _, _, hy⟩ := HR.out.get8 h
                cases hA
                rw [drop_at hy.out.1] at h45
                exact .inr ⟨h, y, hcy, by simpa [hdB, is45] using h45⟩
              · exact .inl (by omega)
            have HDg := hid hDig
            clear hT hG hT' hG' hd e1 e2 hDig hdig h45 hdx
            rcases hK with hK | ⟨hK, y, hcy, hy45⟩
            case' inl => have hK' : ¬ (k : Int) + 1 < (len : Int) := by omega
            case' inr =>
              have hK' : (k : Int) + 1 < (len : Int) := by omega
              have hK2 : ((k : Int) + 1).toNat = k + 1 := by omega
              have hK3 : (0 : Int) ≤ (k : Int) + 1 := by omega
              have hc2 := (hbel.cell (p := ⟨b, off + (k + 1), none⟩) hbw).trans hcy
            all_goals
              go_wp2_with (first
                | (go_at_call 21; (with_reducible refine (HDi.out _).mono ?_); rintro e w2 ⟨rfl, rfl⟩)
                | (go_at_call 22; (with_reducible refine HDg.out.mono ?_); rintro e w4 ⟨rfl, rfl⟩)
                | (at_builtin; go_must (refine wpList_push STR rfl _ _ rfl rfl ⟨_, rfl⟩ hown hbel (by omega) (by decide) ?_); intro v3 w3 ho3 hb3))
              clear hown hbel
              go_roundw
              case rel => exact ⟨k + 1, _, false, by omega, by go_num, rfl, by simp; omega, HT, HG, ho3, hb3⟩
              case measure => simp [intOf]; omega
          · have e1 : mbU (38 :: xs.drop (k + 1)) = ([38], true) := by rw [mbU, if_neg (by rw [mbDir_38]; decide), if_neg (by decide), if_neg (by rw [hdig]; decide), if_pos h45]
            have e2 : mbN (38 :: xs.drop (k + 1)) = 2 := by rw [mbN, if_neg (by decide), if_neg (by rw [hdig]; decide), if_pos h45]
            rw [e1, e2] at hT' hG'
            have e3 : (38 :: xs.drop (k + 1)).drop 2 = xs.drop (k + 2) := by rw [List.drop_succ_cons, List.drop_drop]
            rw [e3] at hT' hG'
            have HT := hid (show O ++ [38] ++ mbRd (xs.drop (k + 2)) = mbRd xs by rw [List.append_assoc]; exact hT')
            have HG := hid (show (g && mbOk (xs.drop (k + 2))) = mbOk xs by rw [← hG']; rfl)
            have hK : k + 1 < len ∧ w.cell? ⟨b, off + (k + 1), none⟩ = some (.int .u8 45) := by
              by_cases h : k + 1 < len
              · obtain ⟨b', off', y, hA, _, hcy, _, _, hy⟩ := HR.out.get8 h
                cases hA
                rw [drop_at hy.out.1] at h45
                obtain rfl : y = 45 := by simpa [hdB, is45] using h45
                exact ⟨h, hcy⟩
              · rw [List.drop_of_length_le (by omega)] at h45; cases h45
            obtain ⟨hK, hcy⟩ := hK
            have hc2 := (hbel.cell (p := ⟨b, off + (k + 1), none⟩) hbw).trans hcy
            clear hT hG hT' hG' hd e1 e2 e3 hDig hdig h45 hdx
            have hK' : (k : Int) + 1 < (len : Int) := by omega
            have hK2 : ((k : Int) + 1).toNat = k + 1 := by omega
            have hK3 : (0 : Int) ≤ (k : Int) + 1 := by omega
            go_wp2_with (first
              | (go_at_call 21; (with_reducible refine (HDi.out _).mono ?_); rintro e w2 ⟨rfl, rfl⟩)
              | (at_builtin; go_must (refine wpList_push STR rfl _ _ rfl rfl ⟨_, rfl⟩ hown hbel (by omega) (by decide) ?_); intro v3 w3 ho3 hb3))
            clear hown hbel
            go_roundw
            case rel => exact ⟨k + 2, _, g, by omega, by go_num, rfl, by simp; omega, HT, HG, ho3, hb3⟩
            case measure => simp [intOf]; omega
        · rw [hdig] at hDig
          have HDg := hid hDig
          have hn1 : mbD (xs.drop (k + 1)) ≤ len - (k + 1) := by have := mbD_le (xs.drop (k + 1)); rw [List.length_drop] at this; omega
          have hn0 : 0 < mbD (xs.drop (k + 1)) := by
            have := ms_at (xs.drop (k + 1)) 0 (Nat.zero_le _)
            rw [List.drop_zero, hdig] at this
            exact of_decide_eq_true this.symm
          have hat := hid (ms_at (xs.drop (k + 1)))
          have hlt1 : k + 1 < len := by omega
          obtain ⟨b', off', y, hA, _, hcy, _, _, hy⟩ := HR.out.get8 hlt1
          cases hA
          have hyM : isM y = true := by rw [drop_at hy.out.1] at hdig; exact hdig
          have hy45 : (y == 45) = false := by
            have : y ≠ 45 := by rintro rfl; rw [isM_45] at hyM; cases hyM
            simpa using this
          have hc2 := (hbel.cell (p := ⟨b, off + (k + 1), none⟩) hbw).trans hcy
          have e1 : mbU (38 :: xs.drop (k + 1)) = (mbA ((xs.drop (k + 1)).takeWhile isM), mbK ((xs.drop (k + 1)).takeWhile isM) && hdB is45 ((xs.drop (k + 1)).drop (mbD (xs.drop (k + 1))))) := by rw [mbU, if_neg (by rw [mbDir_38]; decide), if_neg (by decide), if_pos hdig]
          have e2 : mbN (38 :: xs.drop (k + 1)) = 1 + mbD (xs.drop (k + 1)) + (if hdB is45 ((xs.drop (k + 1)).drop (mbD (xs.drop (k + 1)))) = true then 1 else 0) := by rw [mbN, if_neg (by decide), if_pos hdig]
          have htk := take_mbD (xs.drop (k + 1))
          rw [e1, e2] at hT' hG'
          generalize hn : mbD (xs.drop (k + 1)) = n at hn1 hn0 hat htk hT' hG'
          rw [← htk] at hT' hG'
          rw [List.drop_drop] at hT' hG'
          have hz : ∀ c : Nat, (38 :: xs.drop (k + 1)).drop (1 + n + c) = xs.drop (k + 1 + n + c) := fun c => by
            rw [show 1 + n + c = (n + c) + 1 by omega, List.drop_succ_cons, List.drop_drop, Nat.add_assoc (k + 1)]
          rw [hz] at hT' hG'
          have hp := HR.out.piece (l := k + 1) (r := k + 1 + n) (by omega) (by omega)
          rw [if_neg (by omega), Option.map_some, Addr.add_lit, List.drop_take, show k + 1 + n - (k + 1) = n by omega] at hp
          generalize (xs.drop (k + 1)).take n = D at hp hT' hG'
          have hDl := hp.size
          have hAl := mbA_len D
          have HRun := hid (fun W (hb : Below w.heap.size w W) => ref24_Run _ _ _ D W (hp.below hb) (by omega))
          have hDD : Hid (∀ q : Nat, q ≤ n → hdB isM (xs.drop (k + 1 + q)) = decide (q < n)) := fun q hq => by rw [← List.drop_drop]; exact hat.out q hq
          have hK' : (k : Int) + 1 < (len : Int) := by omega
          have hK2 : ((k : Int) + 1).toNat = k + 1 := by omega
          have hK3 : (0 : Int) ≤ (k : Int) + 1 := by omega
          clear hat e1 e2 hz hp hd hDig hdig hn htk hT hG hdx hy hyM
          have r5 : ¬ cap = k + 1 := by omega
          go_wp2_with (first
            | (go_at_call 21; (with_reducible refine (HDi.out _).mono ?_); rintro e w2 ⟨rfl, rfl⟩)
            | (go_at_call 22; (with_reducible refine HDg.out.mono ?_); rintro e w4 ⟨rfl, rfl⟩))
          generalize hWW : wr = WW at *
          go_loopw [7] (fun i wr => ∃ q : Nat, q ≤ n ∧ i = .int .i64 ((k + 1 + q : Nat) : Int) ∧ wr = WW) (fun i _ => len - (intOf i).toNat)
          case atStart => exact ⟨0, Nat.zero_le _, by go_num, rfl⟩
          case round =>
            obtain ⟨q, hq, rfl, rfl⟩ := hrel
            have hDq := HD.out _ hbel (k + 1 + q) ((k + 1 + q : Nat) : Int) rfl
            rw [hDD.out q hq] at hDq
            by_cases hqn : q < n
            · have hDq := HD.out _ hbel (k + 1 + q) ((k : Int) + 1 + (q : Int)) (by omega)
              rw [hDD.out q hq, decide_eq_true hqn] at hDq
              have HDq := hid hDq
              clear hDq hT' hG'
              go_wp2_with (go_at_call 22; (with_reducible refine HDq.out.mono ?_); rintro e w4 ⟨rfl, rfl⟩)
              go_roundw
              case rel => exact ⟨q + 1, by omega, by go_num, by first | rfl | trivial⟩
              case measure => simp [intOf]; omega
            · rw [decide_eq_false hqn] at hDq
              have HDq := hid hDq
              obtain rfl : q = n := by omega
              clear hDq hDD
              have r0 : (0 : Int) ≤ ((k + 1 + q : Nat) : Int) := by omega
              have r1 : ((k + 1 + q : Nat) : Int) ≤ (cap : Int) := by omega
              have r2 : (k : Int) + 1 ≤ ((k + 1 + q : Nat) : Int) := by omega
              have r3 : ((k : Int) + 1).toNat = k + 1 := by omega
              have r7 : (0 : Int) ≤ (k : Int) + 1 := by omega
              have hK : (hdB is45 (xs.drop (k + 1 + q)) = true ∧ k + 1 + q < len ∧ w.cell? ⟨b, off + (k + 1 + q), none⟩ = some (.int .u8 45)) ∨ (hdB is45 (xs.drop (k + 1 + q)) = false ∧ (k + 1 + q = len ∨ (k + 1 + q < len ∧ ∃ y, w.cell? ⟨b, off + (k + 1 + q), none⟩ = some (.int .u8 y) ∧ (y == 45) = false))) := by
                by_cases h : k + 1 + q < len
                · obtain ⟨b', off', y, hA, _, hcy, _, _, hy⟩ := HR.out.get8 h
                  cases hA
                  rw [drop_at hy.out.1]
                  by_cases hy45 : y = 45
                  · subst hy45
                    exact .inl ⟨rfl, h, hcy⟩
                  · exact .inr ⟨by simpa [hdB, is45] using hy45, .inr ⟨h, y, hcy, by simpa using hy45⟩⟩
                · exact .inr ⟨by rw [List.drop_of_length_le (by omega)]; rfl, .inl (by omega)⟩
              clear HR HD HDg hx hrm hsz hc2 hcy hy45 hK' hK2 hK3 hlt1
              generalize hm : k + 1 + q = m at *
              have r6 : m - (k + 1) = q := by omega
              have hqk : q + (k + 1) = m := by omega
              clear hm
              have hAm : (mbA D).length ≤ q + 1 := by omega
              generalize mbA D = T at hT' HRun hAm hAl
              have HT' := hid hT'
              have HG' := hid hG'
              clear hT' hG' hAl
              cases hOK : mbK D
              all_goals
                rw [hOK] at HG' HRun
                have hT' := HT'.out
                have hG' := HG'.out
                clear HT' HG' hOK
                rcases hK with ⟨h45, hml, hcm⟩ | ⟨h45, hml | ⟨hml, y2, hcm, hy2⟩⟩
                all_goals
                  rw [h45] at hT' hG'
                  simp only [if_true, Bool.false_eq_true, if_false, Nat.add_zero, Bool.true_and, Bool.false_and, Bool.and_false, Bool.and_true] at hT' hG'
                  have HT2 := hid hT'
                  have HG2 := hid hG'
                  clear hT' hG' h45
                  try (subst hml)
                  first
                  | (have q1 : (m : Int) < (len : Int) := by omega)
                  | (have q1 : ¬ (m : Int) < (m : Int) := by omega)
                  cases g
                  all_goals
                    go_wp2_with (first
                      | (go_at_call 22; (with_reducible refine HDq.out.mono ?_); rintro e w4 ⟨rfl, rfl⟩)
                      | (go_at_call 23; (with_reducible refine (HRun.out _ hbel).mono ?_); rintro e w5 ⟨a4, m4, c4, a5, m5, c5, rfl, r4', r5', h5⟩; have ho5 := hown.below h5; have hb5 := below_then hbel h5; have hm5 := r5'.size)
                      | (at_builtin; go_must (refine wpList_more STR rfl _ _ rfl rfl rfl ho5 hb5 r5' (by omega) ?_); intro v6 w6 ho6 hb6; try (have hc6 := (hb6.cell (p := ⟨b, off + m, none⟩) hbw).trans hcm)))
                    go_roundw
                    case rel =>
                      first
                      | exact ⟨m + 1, _, true, by omega, by go_num, rfl, by simp; omega, (by have h := HT2.out; unfold Hid; rw [← h]; simp), (by have h := HG2.out; unfold Hid; simpa using h), ho6, hb6⟩
                      | exact ⟨m + 1, _, false, by omega, by go_num, rfl, by simp; omega, (by have h := HT2.out; unfold Hid; rw [← h]; simp), (by have h := HG2.out; unfold Hid; simpa using h), ho6, hb6⟩
                      | exact ⟨m, _, false, by omega, rfl, rfl, by simp; omega, (by have h := HT2.out; unfold Hid; rw [← h]; simp), (by have h := HG2.out; unfold Hid; simpa using h), ho6, hb6⟩
                    case measure => simp [intOf]; omega
    · obtain rfl : k = len := by omega
      have hT' := hT.out
      have hG' := hG.out
      rw [List.drop_of_length_le (by omega), mbRd_nil.1, List.append_nil] at hT'
      rw [List.drop_of_length_le (by omega), mbRd_nil.2, Bool.and_true] at hG'
      subst hT'
      have HG := hid hG'
      clear hT hG hG'
      go_wp2_with fail
      go_ret2
      exact ⟨_, by rw [← HG.out]; rfl, hown, hbel⟩
end Go.Proofs.YtiacijodoojgoaaDoor

/-! Keep -/
namespace Go.Proofs.YtiacijodoojgoaaDoor
open Go.RowKit
set_option linter.unusedVariables false

theorem own_mono' {k : IntKind} {e : TypeId} {base base' : Nat} {w : World} {v : Value} {xs : List Int} (h : Own k e base w v xs) (hb : base' ≤ base) : Own k e base' w v xs := by
  refine ⟨⟨h.1.1, ?_⟩, h.2⟩
  rcases h.1.2 with h' | ⟨g, cap, cur, h1, h2, h3⟩
  · exact .inl h'
  · exact .inr ⟨g, cap, cur, h1, Nat.le_trans hb h2, h3⟩
theorem Own.fresh {k : IntKind} {e : TypeId} {base : Nat} {w : World} {a : Option Addr} {n c : Nat} {xs : List Int} (h : Own k e base w (.slice a n c) xs) : ∀ b off, a = some ⟨b, off, none⟩ → base ≤ b := by
  intro b off ha
  rcases h.1.2 with ⟨hv, _⟩ | ⟨g, cap, cur, hv, hg, _⟩
  · cases hv; cases ha
  · cases hv; cases ha; exact hg
theorem Own.blockLt {k : IntKind} {e : TypeId} {base : Nat} {w : World} {v : Value} {xs : List Int} (h : Own k e base w v xs) : ∀ j, v.ownBlock = some j → j < w.heap.size := fun j hj => (h.1.lt j hj).2
theorem Reads.sameBlock {k : IntKind} {w w' : World} {a : Option Addr} {len cap : Nat} {xs : List Int} (h : Reads k w a len cap xs) (hs : w.heap.size ≤ w'.heap.size) (hb : ∀ b off, a = some ⟨b, off, none⟩ → w'.heap[b]? = w.heap[b]?) : Reads k w' a len cap xs := by
  refine ⟨h.size, h.room, h.top, h.wf, fun hl => ?_⟩
  obtain ⟨b, off, ha, hlt, hc⟩ := h.cell hl
  refine ⟨b, off, ha, Nat.lt_of_lt_of_le hlt hs, fun i hi => ?_⟩
  rw [World.cell?_of_block (w := w) (hb b off ha)]
  exact hc i hi
section
variable {P : Program} {ops : Array Oper} {rest : List Oper} {o : Oper} {a : Act} {Q : Exit → Act → World → Prop} {t e : TypeId} {k : IntKind} {by_ : Nat}
theorem wpList_pushsK (ST : SliceT P t e k by_) (ys : List Int) (hgd : o.guard = none) (s x : Operand) (ho : o.op = .call { callee := .builtin .append, args := #[s, x], argTypes := #[t, t] })
    {w0 wr : World} {e' : TypeId} {v : Value} {xs : List Int} (hs : a.eval s = v) (hx : ∃ c, a.eval x = .slice (some ⟨wr.heap.size, 0, none⟩) ys.length c)
    (hown : Own k e w0.heap.size wr v xs) (hbel : Below w0.heap.size w0 wr) (hlen : xs.length + ys.length < 1000000000000) (hwf : ∀ y ∈ ys, (Lit.int k y).wf = true)
    (h : ∀ v' w', Own k e w0.heap.size w' v' (xs ++ ys) → Below w0.heap.size w0 w' →
      (∀ (k2 : IntKind) (ao : Option Addr) (n c : Nat) (zs : List Int), Reads k2 wr ao n c zs → (∀ b off, ao = some ⟨b, off, none⟩ → v.ownBlock ≠ some b) → Reads k2 w' ao n c zs) → wpList P ops Q rest (a.put o.dst v') w') :
    wpList P ops Q (o :: rest) a (wr.alloc (.cells (ys.map (Value.int k)).toArray e')) := by
  obtain ⟨i, hi, hz0, hz1, hz2⟩ := info_parts ST.info
  obtain ⟨c, hx⟩ := hx
  have hsm := ST.small
  have hmul : (xs.length + ys.length) * by_ ≤ (xs.length + ys.length) * 8 := Nat.mul_le_mul_left _ hsm
  refine wpList_append_own _ hgd s x t ho w0.heap.size e i (.int k 0) 1 by_ ST.under hi hz0 hz1 hz2 rfl (by decide) v xs.length (xs.map (Value.int k)) hs (hown.1.alloc _) ⟨wr.heap.size, 0, none⟩ ys.length c (ys.map (Value.int k)) hx (by simp) ?_ (ints_oneCell _ _) (by unfold maxLen; omega) (by omega)
    (Nat.le_trans hbel.size (by simp)) ?_
  · intro j u hj
    rw [Addr.add_lit, World.cell?_alloc_at _ _ _ _ rfl]
    simpa using hj
  · intro v' w' hown' hgrow _
    refine h v' w' ⟨by simpa using hown', ?_⟩ ((hbel.alloc hbel.size _).grown hgrow (Nat.le_trans hbel.size (by simp)) (fun j hj => (hown.1.lt j hj).1)) ?_
    · intro z hz
      rcases List.mem_append.1 hz with hz | hz
      · exact hown.2 z hz
      · exact hwf z hz
    · intro k2 ao n c2 zs hr hne
      have h1 : Reads k2 (wr.alloc (.cells (ys.map (Value.int k)).toArray e')) ao n c2 zs := hr.below ((Below.refl _ _).alloc (Nat.le_refl _) _)
      by_cases hn : 0 < n
      · obtain ⟨b, off, ha, hlt, _⟩ := h1.cell hn
        refine h1.sameBlock hgrow.size fun b' off' ha' => ?_
        rw [ha] at ha'
        cases ha'
        exact hgrow.block b hlt (fun hh => hne b off ha hh.symm)
      · exact ⟨h1.size, h1.room, h1.top, h1.wf, fun hl => absurd hl hn⟩
/-- Append to a full slice that is not the call's own: a new row. -/
theorem wpList_grows (ST : SliceT P t e k by_) (hgd : o.guard = none) (s x : Operand) (ho : o.op = .call { callee := .builtin .append, args := #[s, x], argTypes := #[t, t] })
    {w0 wr : World} {b1 : Addr} {n cap m c : Nat} {a2 : Option Addr} {xs ys : List Int} (hs : a.eval s = .slice (some b1) n cap) (hx : a.eval x = .slice a2 m c)
    (hr1 : Reads k wr (some b1) n cap xs) (hr2 : Reads k wr a2 m c ys) (hbel : Below w0.heap.size w0 wr) (hm : 0 < m) (hfull : cap < n + m) (hlen : n + m < 1000000000000)
    (h : ∀ v' w', Own k e w0.heap.size w' v' (xs ++ ys) → Below w0.heap.size w0 w' → wpList P ops Q rest (a.put o.dst v') w') :
    wpList P ops Q (o :: rest) a wr := by
  obtain ⟨i, hi, hz0, hz1, hz2⟩ := info_parts ST.info
  have hsm := ST.small
  have hmul : (n + m) * by_ ≤ (n + m) * 8 := Nat.mul_le_mul_left _ hsm
  have s1 := hr1.size
  have s2 := hr2.size
  obtain ⟨b, off, rfl, hb, hc⟩ := hr2.cell hm
  refine wpList_append_grows wr hgd s x t ho e i (.int k 0) 1 by_ ST.under hi hz0 hz1 hz2 rfl (by decide) (some b1) n cap (xs.map (Value.int k)) hs (fun hh => by cases hh) (by simp [s1]) ?_ ⟨b, off, none⟩ m c (ys.map (Value.int k)) hx (by simp [s2]) ?_ (ints_oneCell _ _) hfull (by unfold maxLen; omega) (by omega) ?_
  · intro b' hb' j u hj
    have hjl : j < xs.length := by have := (List.getElem?_eq_some_iff.1 hj).1; simpa using this
    obtain ⟨b0, off0, ha, _, hc0⟩ := hr1.cell (by omega)
    cases hb'
    cases ha
    rw [Addr.add_lit, hc0 j (by omega), ← hj, List.getElem?_map, List.getD_eq_getElem?_getD, List.getElem?_eq_getElem hjl]
    rfl
  · intro j u hj
    have hjl : j < ys.length := by have := (List.getElem?_eq_some_iff.1 hj).1; simpa using this
    rw [Addr.add_lit, hc j (by omega), ← hj, List.getElem?_map, List.getD_eq_getElem?_getD, List.getElem?_eq_getElem hjl]
    rfl
  · intro v' w' hown hgrow
    refine h v' w' (own_mono' ⟨by simpa [s1, s2] using hown, ?_⟩ hbel.size) (hbel.grown hgrow hbel.size (fun j hj => by cases hj))
    intro z hz
    rcases List.mem_append.1 hz with hz | hz
    · exact hr1.wf z hz
    · exact hr2.wf z hz
end
end Go.Proofs.YtiacijodoojgoaaDoor
