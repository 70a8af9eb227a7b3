/-
  Texts of ours laid together: R17, R06b.
-/
import Derived.Test.YtiacijodoojgoaaDoorZ28

/-! R17 -/
namespace Go.Proofs.YtiacijodoojgoaaDoor
open Go.RowKit
set_option linter.unusedVariables false

set_option maxHeartbeats 1000000 in
theorem ref17_turned (a : Option Addr) (len cap : Nat) (xs : List Int) (p q : Int) (w : World) (hr : Reads .u8 w a len cap xs) (hq : 0 ≤ q ∧ q ≤ 255) (hN : len < 100000000) :
    Calls Tryd.prog 45 #[.slice a len cap, .int .u8 p, .int .u8 q] w fun e w' => ∃ v, e = .returned v ∧ Own .u8 5 w.heap.size w' v (turnL p q xs) ∧ Below w.heap.size w w' := by
  have HR := hid hr
  have hsz := hr.size
  clear hr
  go_enter Tryd.func45, Tryd.ntmps45
  go_wp2
  go_loopw [7, 8] (fun v i wr => ∃ k : Nat, k ≤ len ∧ i = .int .i64 k ∧ Own .u8 5 w.heap.size wr v (turnL p q (xs.take k)) ∧ Below w.heap.size w wr) (fun _ i _ => len - (intOf i).toNat)
  case atStart => exact ⟨0, Nat.zero_le _, rfl, Own.nil _ _ _ _, Below.refl _ _⟩
  case round =>
    obtain ⟨k, hk, rfl, hown', hbel'⟩ := hrel
    by_cases hlt : k < len
    · obtain ⟨b, off, x, rfl, _, hc, h0, h1, hx⟩ := (HR.out.below hbel').get8 hlt
      have e1 : turnL p q (xs.take k) ++ [turnI p q x] = turnL p q (xs.take (k + 1)) := by unfold turnL; rw [hx.out.2]; simp
      have hl : (turnL p q (xs.take k)).length ≤ k := by unfold turnL; rw [List.length_map, List.length_take]; omega
      by_cases hxp : x = p
      · have e : turnI p q x = q := if_pos hxp
        have hb : (x == p) = true := by simpa using hxp
        rw [e] at e1
        have E1 := hid e1
        clear e1 hxp e
        go_wp2_with (at_builtin; go_must (refine wpList_push ST8 rfl _ _ rfl rfl ⟨_, rfl⟩ hown' hbel' (by omega) (mk_u8 hq.1 hq.2) ?_); intro v' w' ho2 hb3)
        rw [E1.out] at ho2
        clear hown' hbel'
        go_wp2_with fail
        go_roundw
        case rel => exact ⟨k + 1, by omega, by go_num, ho2, hb3⟩
        case measure => simp [intOf]; omega
      · have e : turnI p q x = x := if_neg hxp
        have hb : (x == p) = false := by simpa using hxp
        rw [e] at e1
        have E1 := hid e1
        clear e1 hxp e
        go_wp2_with (at_builtin; go_must (refine wpList_push ST8 rfl _ _ rfl rfl ⟨_, rfl⟩ hown' hbel' (by omega) (mk_u8 h0 h1) ?_); intro v' w' ho2 hb3)
        rw [E1.out] at ho2
        clear hown' hbel'
        go_wp2_with fail
        go_roundw
        case rel => exact ⟨k + 1, by omega, by go_num, ho2, hb3⟩
        case measure => simp [intOf]; omega
    · rw [HR.out.all (show len ≤ k by omega)] at hown'
      go_wp2_with fail
      go_ret
      exact ⟨_, rfl, hown', hbel'⟩
theorem ref17_Usual (a : Option Addr) (len cap : Nat) (xs : List Int) (w : World) (hr : Reads .u8 w a len cap xs) (hN : len < 100000000) :
    Calls Tryd.prog 31 #[.slice a len cap] w fun e w' => ∃ v, e = .returned v ∧ Own .u8 5 w.heap.size w' v (turnL 44 47 xs) ∧ Below w.heap.size w w' := by
  have HR := hid hr
  clear hr
  go_enter Tryd.func31, Tryd.ntmps31
  go_wp2_with (go_at_call 45; (with_reducible refine (ref17_turned _ _ _ _ _ _ _ HR.out (by omega) hN).mono ?_); rintro e w1 ⟨v1, rfl, ho1, hb1⟩)
  go_ret
  exact ⟨_, rfl, ho1, hb1⟩
theorem ref17_Modified (a : Option Addr) (len cap : Nat) (xs : List Int) (w : World) (hr : Reads .u8 w a len cap xs) (hN : len < 100000000) :
    Calls Tryd.prog 53 #[.slice a len cap] w fun e w' => ∃ v, e = .returned v ∧ Own .u8 5 w.heap.size w' v (turnL 47 44 xs) ∧ Below w.heap.size w w' := by
  have HR := hid hr
  clear hr
  go_enter Tryd.func53, Tryd.ntmps53
  go_wp2_with (go_at_call 45; (with_reducible refine (ref17_turned _ _ _ _ _ _ _ HR.out (by omega) hN).mono ?_); rintro e w1 ⟨v1, rfl, ho1, hb1⟩)
  go_ret
  exact ⟨_, rfl, ho1, hb1⟩
theorem ref17_Lay (a : Option Addr) (len cap : Nat) (xs : List Int) (w : World) (hr : Reads .u8 w a len cap xs) (hN : len < 10000000) :
    Calls Tryd.prog 36 #[.slice a len cap] w fun e w' => ∃ v, e = .returned v ∧ Own .u8 5 w.heap.size w' v (layM xs) ∧ Below w.heap.size w w' := by
  have HR := hid hr
  have hsz := hr.size
  clear hr
  have hbl : (bareB xs).length = len + (len + 2) / 3 := by unfold bareB; rw [List.length_map, v64_len, hsz]
  have HL := hid hbl
  clear hbl
  go_enter Tryd.func36, Tryd.ntmps36
  go_wp2_with (first
    | (go_at_call 54; (with_reducible refine (ref14_Bare _ _ _ _ _ HR.out (by omega)).mono ?_); rintro e w1 ⟨v1, rfl, ho1, hb1⟩; obtain ⟨a1, c1, hv1, hr1⟩ := ho1.reads; rw [HL.out] at hv1 hr1; subst hv1)
    | (go_at_call 53; (with_reducible refine (ref17_Modified _ _ _ _ _ hr1 (by omega)).mono ?_); rintro e w2 ⟨v2, rfl, ho2, hb2⟩))
  go_ret
  exact ⟨_, rfl, own_mono ho2 hb1.size, below_then hb1 hb2⟩
theorem ref17_Value (c : Int) (w : World) (h0 : 0 ≤ c) (h1 : c ≤ 255) :
    Calls Tryd.prog 28 #[.int .u8 c] w fun e w' => e = .returned (.tuple #[.int .i64 (valM c), .bool (isM c)]) ∧ w = w' := by
  by_cases c1 : c = 44
  · subst c1
    go_enter Tryd.func28, Tryd.ntmps28
    go_wp2
    go_ret2
    exact ⟨rfl, rfl⟩
  by_cases c2 : c = 47
  · subst c2
    go_enter Tryd.func28, Tryd.ntmps28
    go_wp2
    go_ret2
    exact ⟨rfl, rfl⟩
  have e : Hid (valM c = valI c ∧ isM c = isDig c) := by unfold Hid valM isM; rw [if_neg c1, if_neg c2, if_neg c1, if_neg c2]; exact ⟨rfl, rfl⟩
  have b1 : (c == 44) = false := by simpa using c1
  have b2 : (c == 47) = false := by simpa using c2
  clear c1 c2
  go_enter Tryd.func28, Tryd.ntmps28
  go_wp2_with (go_at_call 40; (with_reducible refine (ref14_Value _ _ h0 h1).mono ?_); rintro e w1 ⟨rfl, rfl⟩)
  go_ret2
  exact ⟨ret_ib e.out.1.symm e.out.2.symm, rfl⟩
end Go.Proofs.YtiacijodoojgoaaDoor

/-! R06b -/
namespace Go.Proofs.YtiacijodoojgoaaDoor
open Go.RowKit
set_option linter.unusedVariables false

theorem Reads.cellAt {k : IntKind} {w : World} {b off len cap : Nat} {xs : List Int} (h : Reads k w (some ⟨b, off, none⟩) len cap xs) {i : Nat} {x : Int} (hx : xs[i]? = some x) : w.cell? ⟨b, off + i, none⟩ = some (.int k x) := by
  have hi : i < xs.length := (List.getElem?_eq_some_iff.1 hx).1
  have hs := h.size
  obtain ⟨b', off', y, hb, _, hc, hy⟩ := h.get (i := i) (by omega)
  cases hb
  have : x = y := by have h2 := hy.out.1; rw [hx] at h2; exact Option.some.inj h2
  rw [this]; exact hc

set_option maxRecDepth 100000 in
set_option maxHeartbeats 8000000 in
theorem ref06_Read (a : Option Addr) (len cap : Nat) (xs : List Int) (w : World) (hr : Reads .u16 w a len cap xs) (hN : len < 100000000) :
    Calls Tryd.prog 48 #[.slice a len cap] w fun e w' => ∃ a' cap', e = .returned (.tuple #[.slice a' (usigs xs).length cap', .int .i64 (errP (usigs xs))]) ∧ Reads .i32 w' a' (usigs xs).length cap' (utxt xs) ∧ Below w.heap.size w w' := by
  have hl := hr.len_le
  have hsz := hr.size
  have HR := hid hr
  clear hr
  go_enter Tryd.func48, Tryd.ntmps48
  go_wp2
  go_loopw [4, 5, 6] (fun v er i wr => ∃ (k : Nat) (pre : List (Int × Int)), k ≤ len ∧ pre.length ≤ k ∧ i = .int .i64 k ∧ er = .int .i64 (errP pre) ∧ Hid (pre ++ usigs (xs.drop k) = usigs xs) ∧ Own .i32 21 w.heap.size wr v (pre.map Prod.fst) ∧ Below w.heap.size w wr) (fun _ _ i _ => len - (intOf i).toNat)
  case atStart => exact ⟨0, [], Nat.zero_le _, Nat.le_refl _, rfl, rfl, rfl, Own.nil _ _ _ _, Below.refl _ _⟩
  case round =>
    obtain ⟨k, pre, hk, hpk, rfl, rfl, hps, hown, hbel⟩ := hrel
    by_cases hlt : k < len
    · obtain ⟨b, off, x, rfl, hbl, hc, h0, h1, hx⟩ := (HR.out.below hbel).get16 hlt
      have hHx := fun w => ref06_High x w
      have hLx := fun w => ref06_Low x w
      cases hh : hiB x
      · simp only [hh] at hHx
        cases hlo : loB x
        · simp only [hlo] at hLx
          have hs : surB x = false := by rw [hi_lo, hh, hlo]; rfl
          have hnext : Hid (pre ++ [(x, 0)] ++ usigs (xs.drop (k + 1)) = usigs xs) := by
            rw [Hid, ← hps.out, ur_one hx.out.1 hs, List.append_assoc]; rfl
          have happ : Hid (pre.map Prod.fst ++ [x] = (pre ++ [(x, (0 : Int))]).map Prod.fst) := by rw [Hid]; simp
          have hen' : Hid (errP (pre ++ [(x, 0)]) = errP pre) := by rw [Hid, errP_snoc]; split <;> simp_all
          clear hps hs hh hlo
          go_wp2_with (first
            | (go_at_call 63; (with_reducible refine (hHx _).mono ?_); rintro e w' ⟨rfl, rfl⟩)
            | (go_at_call 64; (with_reducible refine (hLx _).mono ?_); rintro e w' ⟨rfl, rfl⟩)
            | (at_builtin; go_must (refine wpList_push STR rfl _ _ rfl rfl ⟨_, rfl⟩ hown hbel (by simp; omega) (mk_r (by omega) (by omega)) ?_); intro v3 w3 ho3 hb3; have hc3 := (HR.out.below hb3).cellAt hx.out.1))
          rw [happ.out] at ho3
          go_roundw
          case rel => exact ⟨k + 1, _, by omega, by simp; omega, by go_num, by rw [hen'.out], hnext.out, ho3, hb3⟩
          case measure => simp [intOf]; omega
        · simp only [hlo] at hLx
          have hs : surB x = true := by rw [hi_lo, hh, hlo]; rfl
          have hnext : Hid (pre ++ [(65533, 3)] ++ usigs (xs.drop (k + 1)) = usigs xs) := by
            rw [Hid, ← hps.out, ur_low hx.out.1 hh hs, List.append_assoc]; rfl
          have happ : Hid (pre.map Prod.fst ++ [65533] = (pre ++ [((65533 : Int), (3 : Int))]).map Prod.fst) := by rw [Hid]; simp
          have hen := errP_snoc pre (65533, 3)
          cases he0 : errP pre == 0
          · have hen' : Hid (errP pre = errP (pre ++ [(65533, 3)])) := by rw [Hid, hen, if_neg (by simpa using he0)]
            clear hen hps hs hh hlo
            go_wp2_with (first
              | (go_at_call 63; (with_reducible refine (hHx _).mono ?_); rintro e w' ⟨rfl, rfl⟩)
              | (go_at_call 64; (with_reducible refine (hLx _).mono ?_); rintro e w' ⟨rfl, rfl⟩)
              | (at_builtin; go_must (refine wpList_push STR rfl _ _ rfl rfl ⟨_, rfl⟩ hown hbel (by simp; omega) (by decide) ?_); intro v3 w3 ho3 hb3; have hc3 := (HR.out.below hb3).cellAt hx.out.1))
            rw [happ.out] at ho3
            go_roundw
            case rel => exact ⟨k + 1, _, by omega, by simp; omega, by go_num, by rw [hen'.out], hnext.out, ho3, hb3⟩
            case measure => simp [intOf]; omega
          · have hen' : Hid (errP (pre ++ [(65533, 3)]) = 3) := by rw [Hid, hen, if_pos (by simpa using he0)]
            clear hen hps hs hh hlo
            go_wp2_with (first
              | (go_at_call 63; (with_reducible refine (hHx _).mono ?_); rintro e w' ⟨rfl, rfl⟩)
              | (go_at_call 64; (with_reducible refine (hLx _).mono ?_); rintro e w' ⟨rfl, rfl⟩)
              | (at_builtin; go_must (refine wpList_push STR rfl _ _ rfl rfl ⟨_, rfl⟩ hown hbel (by simp; omega) (by decide) ?_); intro v3 w3 ho3 hb3; have hc3 := (HR.out.below hb3).cellAt hx.out.1))
            rw [happ.out] at ho3
            go_roundw
            case rel => exact ⟨k + 1, _, by omega, by simp; omega, by go_num, by rw [hen'.out], hnext.out, ho3, hb3⟩
            case measure => simp [intOf]; omega
      · simp only [hh] at hHx
        have hlox : loB x = false := by have := (hiB_iff x).1 hh; unfold loB; rw [decide_eq_false_iff_not]; omega
        by_cases hlast : k + 1 = len
        · have hlast' : ((k : Int) + 1 < len) = False := by simp; omega
          have hlast2 : ((k : Int) == (len : Int) - 1) = true := by simp; omega
          have hnext : Hid (pre ++ [(65533, 4)] ++ usigs (xs.drop (k + 1)) = usigs xs) := by
            rw [Hid, ← hps.out, ur_end hx.out.1 hh (by omega), List.append_assoc]; rfl
          have happ : Hid (pre.map Prod.fst ++ [65533] = (pre ++ [((65533 : Int), (4 : Int))]).map Prod.fst) := by rw [Hid]; simp
          have hen := errP_snoc pre (65533, 4)
          cases he0 : errP pre == 0
          · have hen' : Hid (errP pre = errP (pre ++ [(65533, 4)])) := by rw [Hid, hen, if_neg (by simpa using he0)]
            clear hen hps hh hlox
            go_wp2_with (first
              | (go_at_call 63; (with_reducible refine (hHx _).mono ?_); rintro e w' ⟨rfl, rfl⟩)
              | (go_at_call 64; (with_reducible refine (hLx _).mono ?_); rintro e w' ⟨rfl, rfl⟩)
              | (at_builtin; go_must (refine wpList_push STR rfl _ _ rfl rfl ⟨_, rfl⟩ hown hbel (by simp; omega) (by decide) ?_); intro v3 w3 ho3 hb3; have hc3 := (HR.out.below hb3).cellAt hx.out.1))
            rw [happ.out] at ho3
            go_roundw
            case rel => exact ⟨k + 1, _, by omega, by simp; omega, by go_num, by rw [hen'.out], hnext.out, ho3, hb3⟩
            case measure => simp [intOf]; omega
          · have hen' : Hid (errP (pre ++ [(65533, 4)]) = 4) := by rw [Hid, hen, if_pos (by simpa using he0)]
            clear hen hps hh hlox
            go_wp2_with (first
              | (go_at_call 63; (with_reducible refine (hHx _).mono ?_); rintro e w' ⟨rfl, rfl⟩)
              | (go_at_call 64; (with_reducible refine (hLx _).mono ?_); rintro e w' ⟨rfl, rfl⟩)
              | (at_builtin; go_must (refine wpList_push STR rfl _ _ rfl rfl ⟨_, rfl⟩ hown hbel (by simp; omega) (by decide) ?_); intro v3 w3 ho3 hb3; have hc3 := (HR.out.below hb3).cellAt hx.out.1))
            rw [happ.out] at ho3
            go_roundw
            case rel => exact ⟨k + 1, _, by omega, by simp; omega, by go_num, by rw [hen'.out], hnext.out, ho3, hb3⟩
            case measure => simp [intOf]; omega
        · obtain ⟨b', off', y, hb, _, hc2, h02, h12, hy⟩ := (HR.out.below hbel).get16 (i := k + 1) (by omega)
          cases hb
          have hLy := fun w => ref06_Low y w
          have hlast2 : ((k : Int) == (len : Int) - 1) = false := by simp; omega
          cases hloy : loB y
          · simp only [hloy] at hLy
            have hnext : Hid (pre ++ [(65533, 3)] ++ usigs (xs.drop (k + 1)) = usigs xs) := by
              rw [Hid, ← hps.out, ur_high hx.out.1 hy.out.1 hh hloy, List.append_assoc]; rfl
            have happ : Hid (pre.map Prod.fst ++ [65533] = (pre ++ [((65533 : Int), (3 : Int))]).map Prod.fst) := by rw [Hid]; simp
            have hen := errP_snoc pre (65533, 3)
            cases he0 : errP pre == 0
            · have hen' : Hid (errP pre = errP (pre ++ [(65533, 3)])) := by rw [Hid, hen, if_neg (by simpa using he0)]
              clear hen hps hh hlox hloy
              go_wp2_with (first
                | (go_at_call 63; (with_reducible refine (hHx _).mono ?_); rintro e w' ⟨rfl, rfl⟩)
                | (go_at_call 64; (first | (with_reducible refine (hLx _).mono ?_) | (with_reducible refine (hLy _).mono ?_)); rintro e w' ⟨rfl, rfl⟩)
                | (at_builtin; go_must (refine wpList_push STR rfl _ _ rfl rfl ⟨_, rfl⟩ hown hbel (by simp; omega) (by decide) ?_); intro v3 w3 ho3 hb3; have hc3 := (HR.out.below hb3).cellAt hx.out.1))
              rw [happ.out] at ho3
              go_roundw
              case rel => exact ⟨k + 1, _, by omega, by simp; omega, by go_num, by rw [hen'.out], hnext.out, ho3, hb3⟩
              case measure => simp [intOf]; omega
            · have hen' : Hid (errP (pre ++ [(65533, 3)]) = 3) := by rw [Hid, hen, if_pos (by simpa using he0)]
              clear hen hps hh hlox hloy
              go_wp2_with (first
                | (go_at_call 63; (with_reducible refine (hHx _).mono ?_); rintro e w' ⟨rfl, rfl⟩)
                | (go_at_call 64; (first | (with_reducible refine (hLx _).mono ?_) | (with_reducible refine (hLy _).mono ?_)); rintro e w' ⟨rfl, rfl⟩)
                | (at_builtin; go_must (refine wpList_push STR rfl _ _ rfl rfl ⟨_, rfl⟩ hown hbel (by simp; omega) (by decide) ?_); intro v3 w3 ho3 hb3; have hc3 := (HR.out.below hb3).cellAt hx.out.1))
              rw [happ.out] at ho3
              go_roundw
              case rel => exact ⟨k + 1, _, by omega, by simp; omega, by go_num, by rw [hen'.out], hnext.out, ho3, hb3⟩
              case measure => simp [intOf]; omega
          · simp only [hloy] at hLy
            have hnext : Hid (pre ++ [(pairU x y, 0)] ++ usigs (xs.drop (k + 2)) = usigs xs) := by
              rw [Hid, ← hps.out, ur_pair hx.out.1 hy.out.1 hh hloy, List.append_assoc]; rfl
            have hxi := (hiB_iff x).1 hh
            have hyi := (loB_iff y).1 hloy
            have hpr : Hid (65536 + 1024 * (x - 55296) + y - 56320 = pairU x y) := by rw [Hid]; unfold pairU; omega
            have happ : Hid (pre.map Prod.fst ++ [65536 + 1024 * (x - 55296) + y - 56320] = (pre ++ [(pairU x y, (0 : Int))]).map Prod.fst) := by rw [Hid, hpr.out]; simp
            have hen' : Hid (errP (pre ++ [(pairU x y, 0)]) = errP pre) := by rw [Hid, errP_snoc]; split <;> simp_all
            have hwf : Hid (∀ z ∈ [65536 + 1024 * (x - 55296) + y - 56320], (Lit.int .i32 z).wf = true) := by intro z hz; simp at hz; subst hz; exact mk_r (by omega) (by omega)
            have hll : (pre.map Prod.fst).length + 1 < 1000000000000 := by simp; omega
            clear hps hh hlox hloy
            go_wp2_with (first
              | (go_at_call 63; (with_reducible refine (hHx _).mono ?_); rintro e w' ⟨rfl, rfl⟩)
              | (go_at_call 64; (first | (with_reducible refine (hLx _).mono ?_) | (with_reducible refine (hLy _).mono ?_)); rintro e w' ⟨rfl, rfl⟩))
            have g1 : IntKind.i64.wrap ((k : Int) + 1) = (k : Int) + 1 := IntWalk.i64_in _ (by omega)
            have g2 : IntKind.i64.wrap x = x := IntWalk.i64_in _ (by omega)
            have g3 : IntKind.i64.wrap y = y := IntWalk.i64_in _ (by omega)
            have g4 : IntKind.i64.wrap (x - 55296) = x - 55296 := IntWalk.i64_in _ (by omega)
            have g5 : IntKind.i64.wrap (1024 * (x - 55296)) = 1024 * (x - 55296) := IntWalk.i64_in _ (by omega)
            have g6 : IntKind.i64.wrap (65536 + 1024 * (x - 55296)) = 65536 + 1024 * (x - 55296) := IntWalk.i64_in _ (by omega)
            have g7 : IntKind.i64.wrap (65536 + 1024 * (x - 55296) + y) = 65536 + 1024 * (x - 55296) + y := IntWalk.i64_in _ (by omega)
            have g8 : IntKind.i64.wrap (65536 + 1024 * (x - 55296) + y - 56320) = 65536 + 1024 * (x - 55296) + y - 56320 := IntWalk.i64_in _ (by omega)
            have g9 : IntKind.i32.wrap (65536 + 1024 * (x - 55296) + y - 56320) = 65536 + 1024 * (x - 55296) + y - 56320 := IntWalk.i32_in _ (by omega)
            have p2 : 0 ≤ (k : Int) + 1 := by omega
            have q2 : (k : Int) + 1 < len := by omega
            have q1 : (k : Int) < len := by omega
            have t2 : ((k : Int) + 1).toNat = k + 1 := by omega
            go_region_law (refine step_pushs (w0 := w) (wr := wr.drew) STR [65536 + 1024 * (x - 55296) + y - 56320] rfl (.tmp 74) (.tmp 92) rfl rfl ⟨_, rfl⟩ (Nat.zero_lt_succ _) hown.drew' (below_drew hbel) hll hwf.out ?_; intro v3 w3 ho3 hb3)
            all_goals
              rw [happ.out] at ho3
              clear g1 g2 g3 g4 g5 g6 g7 g8 g9 p2 q1 q2 t2 hc hc2 hxi hyi
              go_wp2_with fail
              go_roundw
              case rel => exact ⟨k + 2, _, by omega, by simp; omega, by go_num, by rw [hen'.out], hnext.out, ho3, hb3⟩
              case measure => simp [intOf]; omega
    · go_wp2_with fail
      obtain rfl : k = len := by omega
      have hend : pre = usigs xs := by
        have := hps.out
        rwa [List.drop_of_length_le (by omega), usigs_nil, List.append_nil] at this
      subst hend
      obtain ⟨a', cap', rfl, hrd⟩ := hown.reads
      simp only [List.length_map] at hrd ⊢
      go_ret2
      exact ⟨a', cap', rfl, hrd, hbel⟩

end Go.Proofs.YtiacijodoojgoaaDoor
