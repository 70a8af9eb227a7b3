/-
  Contracts of the document's own functions of layer 27.
-/
import Derived.Test.YtldmoopdffenfaaDoorD27
import Derived.Test.YtldmoopdffenfaaDoorR01
import Derived.Test.YtldmoopdffenfaaDoorD03
namespace Go.Proofs.YtldmoopdffenfaaDoor
open Go.RowKit
set_option linter.unusedVariables false

theorem drop_at27 {xs : List Int} {k : Nat} {x : Int} (h : xs[k]? = some x) : xs.drop k = x :: xs.drop (k + 1) := by
  have hk : k < xs.length := (List.getElem?_eq_some_iff.1 h).1
  rw [List.drop_eq_getElem_cons hk, (List.getElem?_eq_some_iff.1 h).2]
theorem fldB_short {s : List Int} (h : s.length ≤ 2) : fldB s = false := by
  match s, h with
  | [], _ => rfl
  | [_], _ => rfl
  | [_, _], _ => rfl
theorem fldB_len {s : List Int} (h : fldB s = true) : 3 ≤ s.length := by
  have : ¬ s.length ≤ 2 := fun h2 => by rw [fldB_short h2] at h; cases h
  omega
theorem unfS_skip (x : Int) (r : List Int) : unfS true (x :: r) = unfS false r ∧ unfC true (x :: r) = unfC false r := ⟨rfl, rfl⟩
set_option maxHeartbeats 2000000 in
theorem ref27_folds (a : Option Addr) (len cap : Nat) (xs : List Int) (k : Nat) (w : World) (hr : Reads .u8 w a len cap xs) (hN : len < 10000000) (hk : k ≤ len) :
    Calls Tryd.prog 16 #[.slice a len cap, .int .i64 k] w fun e w' => e = .returned (.bool (fldB (xs.drop k))) ∧ w = w' := by
  have hsz := hr.size
  by_cases h : k + 2 < len
  · obtain ⟨b, off, x, rfl, _, hc0, _, _, hx⟩ := hr.get8 (i := k) (by omega)
    obtain ⟨b', off', y, hA, _, hc1, _, _, hy⟩ := hr.get8 (i := k + 1) (by omega)
    cases hA
    obtain ⟨b', off', z, hA, _, hc2, _, _, hz⟩ := hr.get8 (i := k + 2) (by omega)
    cases hA
    have e : fldB (xs.drop k) = (decide (x = 13) && decide (y = 10) && (decide (z = 32) || decide (z = 9))) := by
      rw [drop_at27 hx.out.1, drop_at27 hy.out.1, drop_at27 hz.out.1]; rfl
    rw [e]
    have q1 : ((k : Int) + 1).toNat = k + 1 := by omega
    have q2 : ((k : Int) + 2).toNat = k + 2 := by omega
    have q3 : (0 : Int) ≤ (k : Int) + 1 := by omega
    have q4 : (0 : Int) ≤ (k : Int) + 2 := by omega
    have q5 : (k : Int) + 1 < (len : Int) := by omega
    have q6 : (k : Int) + 2 < (len : Int) := by omega
    have q7 : (k : Int) < (len : Int) := by omega
    clear e hx hy hz hr
    by_cases h13 : x = 13
    · subst h13
      by_cases h10 : y = 10
      · subst h10
        by_cases h32 : z = 32
        · subst h32
          go_enter Tryd.func16, Tryd.ntmps16
          go_wp2_with fail
          go_ret
          exact ⟨rfl, rfl⟩
        · have e3 : (z == 32) = false := by simpa using h32
          by_cases h9 : z = 9
          · subst h9
            go_enter Tryd.func16, Tryd.ntmps16
            go_wp2_with fail
            go_ret
            exact ⟨rfl, rfl⟩
          · have e9 : (z == 9) = false := by simpa using h9
            rw [decide_eq_false h32, decide_eq_false h9]
            clear h32 h9
            go_enter Tryd.func16, Tryd.ntmps16
            go_wp2_with fail
            go_ret
            exact ⟨rfl, rfl⟩
      · have e10 : (y == 10) = false := by simpa using h10
        rw [decide_eq_false h10]
        clear h10
        go_enter Tryd.func16, Tryd.ntmps16
        go_wp2_with fail
        go_ret
        exact ⟨rfl, rfl⟩
    · have e13 : (x == 13) = false := by simpa using h13
      rw [decide_eq_false h13]
      clear h13
      go_enter Tryd.func16, Tryd.ntmps16
      go_wp2_with fail
      go_ret
      exact ⟨rfl, rfl⟩
  · rw [fldB_short (by rw [List.length_drop]; omega)]
    have q6 : ¬ (k : Int) + 2 < (len : Int) := by omega
    clear hr
    go_enter Tryd.func16, Tryd.ntmps16
    go_wp2_with fail
    go_ret
    exact ⟨rfl, rfl⟩
set_option maxHeartbeats 2000000 in
theorem ref27_Unfold (a : Option Addr) (len cap : Nat) (xs : List Int) (w : World) (hr : Reads .u8 w a len cap xs) (hN : len < 10000000) :
    Calls Tryd.prog 7 #[.slice a len cap] w fun e w' => ∃ v, e = .returned (.tuple #[v, .int .i64 (unfN xs)]) ∧ Own .u8 5 w.heap.size w' v (unfL xs) ∧ Below w.heap.size w w' := by
  have HR := hid hr
  have hsz := hr.size
  clear hr
  go_enter Tryd.func7, Tryd.ntmps7
  go_wp2_with fail
  go_loopw [4, 5, 6] (fun v n i wr => ∃ (k j : Nat) (O : List Int), k ≤ len ∧ i = .int .i64 k ∧ n = .int .i64 j ∧ j ≤ k ∧ O.length ≤ k ∧ Hid (O ++ unfS false (xs.drop k) = unfL xs) ∧ Hid (j + unfC false (xs.drop k) = unfN xs) ∧ Own .u8 5 w.heap.size wr v O ∧ Below w.heap.size w wr) (fun _ _ i _ => len - (intOf i).toNat)
  case atStart => exact ⟨0, 0, [], Nat.zero_le _, rfl, rfl, Nat.le_refl _, Nat.le_refl _, rfl, by unfold Hid; rw [Nat.zero_add]; rfl, Own.nil _ _ _ _, Below.refl _ _⟩
  case round =>
    obtain ⟨k, j, O, hk, rfl, rfl, hj, hO, hT, hJ, hown, hbel⟩ := hrel
    by_cases hlt : k < len
    · obtain ⟨b, off, x, rfl, hbw, hc, h0, h1, hx⟩ := (HR.out.below hbel).get8 hlt
      have hF := ref27_folds _ _ _ _ k wr (HR.out.below hbel) hN (by omega)
      have hT' := hT.out
      have hJ' := hJ.out
      have hd := drop_at27 hx.out.1
      rw [hd] at hT' hJ'
      rw [unfS] at hT'
      rw [unfC] at hJ'
      rw [hd] at hF
      cases hf : fldB (x :: xs.drop (k + 1))
      · rw [hf, if_neg (by decide)] at hT' hJ'
        rw [hf] at hF
        have HF := hid hF
        have HT := hid (show O ++ [x] ++ unfS false (xs.drop (k + 1)) = unfL xs by rw [← hT', List.append_assoc]; rfl)
        have HJ := hid hJ'
        have HX := hid (mk_u8 h0 h1)
        clear hT hJ hT' hJ' hF hf hd
        go_wp2_with (first
          | (go_at_call 16; (with_reducible refine HF.out.mono ?_); rintro e w' ⟨rfl, rfl⟩)
          | (at_builtin; go_must (refine wpList_push ST8 rfl _ _ rfl rfl ⟨_, rfl⟩ hown hbel (by omega) HX.out ?_); intro v3 w3 ho3 hb3))
        clear hown hbel
        go_roundw
        case rel => exact ⟨k + 1, j, _, by omega, by go_num, rfl, by omega, by simp; omega, HT, HJ, ho3, hb3⟩
        case measure => simp [intOf]; omega
      · have h3 := fldB_len hf
        rw [← hd, List.length_drop] at h3
        obtain ⟨b', off', y, hA, _, _, _, _, hy⟩ := HR.out.get8 (i := k + 1) (by omega)
        rw [hf, if_pos rfl, drop_at27 hy.out.1] at hT' hJ'
        rw [hf] at hF
        have HF := hid hF
        have HT := hid (show O ++ unfS false (xs.drop (k + 2)) = unfL xs from hT')
        have HJ := hid (show (j + 1) + unfC false (xs.drop (k + 2)) = unfN xs by rw [← hJ', Nat.add_assoc]; rfl)
        clear hT hJ hT' hJ' hF hf hd hy hA
        go_wp2_with (go_at_call 16; (with_reducible refine HF.out.mono ?_); rintro e w' ⟨rfl, rfl⟩)
        go_roundw
        case rel => exact ⟨k + 2, j + 1, O, by omega, by go_num, by go_num, by omega, by omega, HT, HJ, hown, hbel⟩
        case measure => simp [intOf]; omega
    · obtain rfl : k = len := by omega
      have hT' := hT.out
      have hJ' := hJ.out
      rw [List.drop_of_length_le (by omega)] at hT' hJ'
      rw [unfS, List.append_nil] at hT'
      rw [unfC, Nat.add_zero] at hJ'
      have HJ := hid hJ'
      subst hT'
      clear hT hJ hJ'
      go_wp2_with fail
      go_ret2
      exact ⟨_, by rw [← HJ.out]; rfl, hown, hbel⟩
set_option maxHeartbeats 1000000 in
theorem ref27_Right (a : Option Addr) (len cap : Nat) (xs : List Int) (w : World) (hr : Reads .u8 w a len cap xs) (hN : len < 10000000) :
    Calls Tryd.prog 12 #[.slice a len cap] w fun e w' => e = .returned (.bool (rgtF xs)) ∧ Below w.heap.size w w' := by
  have HU := hid (ref27_Unfold a len cap xs w hr hN)
  have hln := (unfS_len xs false).1
  rw [hr.size] at hln
  have hln2 : (unfL xs).length ≤ len := hln
  clear hr hln
  obtain ⟨V, hV⟩ : ∃ V, V = rgtF xs := ⟨_, rfl⟩
  rw [← hV]
  unfold rgtF at hV
  have HV := hid hV
  clear hV
  generalize unfL xs = U at *
  go_enter Tryd.func12, Tryd.ntmps12
  go_wp2_with (go_at_call 7; (with_reducible refine HU.out.mono ?_); rintro e w1 ⟨v1, rfl, o1, h1⟩; obtain ⟨a1, c1, rfl, r1⟩ := o1.reads; have R1 := hid r1; clear r1 o1)
  go_loop [5] (fun i => ∃ k : Nat, k ≤ U.length ∧ i = .int .i64 k ∧ Hid ((U.take k).any isEnd = false)) (fun i => U.length - (intOf i).toNat)
  case atStart => exact ⟨0, Nat.zero_le _, rfl, rfl⟩
  case round =>
    obtain ⟨k, hk, rfl, hn⟩ := hrel
    by_cases hlt : k < U.length
    · obtain ⟨b, off, x, rfl, _, hc, _, _, hx⟩ := R1.out.get8 hlt
      by_cases h13 : x = 13
      · subst h13
        have hv : V = false := by rw [HV.out, any_hit hx.out.1 (by decide)]; rfl
        have HF := hid hv
        clear hv hn
        go_wp2_with fail
        go_ret
        exact ⟨by rw [HF.out]; rfl, h1⟩
      · have e13 : (x == 13) = false := by simpa using h13
        by_cases h10 : x = 10
        · subst h10
          have hv : V = false := by rw [HV.out, any_hit hx.out.1 (by decide)]; rfl
          have HF := hid hv
          clear hv hn
          go_wp2_with fail
          go_ret
          exact ⟨by rw [HF.out]; rfl, h1⟩
        · have e10 : (x == 10) = false := by simpa using h10
          have HN := hid (none_yes hx.out.2 hn.out (show isEnd x = false by unfold isEnd; rw [decide_eq_false h13, decide_eq_false h10]; rfl))
          clear hn h10 h13
          go_wp2_with fail
          go_round
          case rel => exact ⟨k + 1, by omega, by go_num, HN⟩
          case measure => simp [intOf]; omega
    · have hv : V = true := by
        have h := hn.out
        rw [R1.out.all (show U.length ≤ k by omega)] at h
        rw [HV.out, h]; rfl
      have HF := hid hv
      clear hv hn
      go_wp2_with fail
      go_ret
      exact ⟨by rw [HF.out]; rfl, h1⟩
theorem nxt_snoc {xs : List Int} {k q : Nat} : nxtF (xs.drop k) (q + 1) = if xs[k + 1 + q]? = some 32 then q + 1 else nxtF (xs.drop k) q := by
  rw [nxtF, List.getElem?_drop, show k + (q + 1) = k + 1 + q by omega]
set_option maxRecDepth 100000 in
set_option maxHeartbeats 8000000 in
theorem ref27_Fold (a : Option Addr) (len cap : Nat) (xs : List Int) (first most : Int) (w : World) (hr : Reads .u8 w a len cap xs) (hN : len < 10000000) :
    Calls Tryd.prog 14 #[.slice a len cap, .int .i64 first, .int .i64 most] w fun e w' => ∃ v, e = .returned (.tuple #[v, .int .i64 (foldE xs first most)]) ∧ Own .u8 5 w.heap.size w' v (foldL xs first most) ∧ Below w.heap.size w w' := by
  have HR := hid hr
  have hrm := hr.room
  have htp := hr.top
  simp only [maxLen] at htp
  have hsz := hr.size
  clear hr
  have bad : (most < 1 ∨ 1000 < most ∨ first < 0 ∨ most < first) → foldE xs first most = 1 ∧ foldL xs first most = [] := fun h => by
    have e : foldE xs first most = 1 := by unfold foldE; rw [if_pos h]
    exact ⟨e, by unfold foldL; rw [if_neg (by rw [e]; decide)]⟩
  by_cases b1 : most < 1
  · obtain ⟨e1, e2⟩ := bad (.inl b1)
    rw [e1, e2]
    clear e1 e2 bad
    go_enter Tryd.func14, Tryd.ntmps14
    go_wp2_with fail
    go_ret2
    exact ⟨_, rfl, Own.nil _ _ _ _, Below.refl _ _⟩
  by_cases b2 : 1000 < most
  · obtain ⟨e1, e2⟩ := bad (.inr (.inl b2))
    rw [e1, e2]
    clear e1 e2 bad
    go_enter Tryd.func14, Tryd.ntmps14
    go_wp2_with fail
    go_ret2
    exact ⟨_, rfl, Own.nil _ _ _ _, Below.refl _ _⟩
  by_cases b3 : first < 0
  · obtain ⟨e1, e2⟩ := bad (.inr (.inr (.inl b3)))
    rw [e1, e2]
    clear e1 e2 bad
    go_enter Tryd.func14, Tryd.ntmps14
    go_wp2_with fail
    go_ret2
    exact ⟨_, rfl, Own.nil _ _ _ _, Below.refl _ _⟩
  by_cases b4 : most < first
  · obtain ⟨e1, e2⟩ := bad (.inr (.inr (.inr b4)))
    rw [e1, e2]
    clear e1 e2 bad
    go_enter Tryd.func14, Tryd.ntmps14
    go_wp2_with fail
    go_ret2
    exact ⟨_, rfl, Own.nil _ _ _ _, Below.refl _ _⟩
  clear bad
  obtain ⟨M, rfl⟩ := Int.eq_ofNat_of_zero_le (show 0 ≤ most by omega)
  obtain ⟨F, rfl⟩ := Int.eq_ofNat_of_zero_le (show 0 ≤ first by omega)
  have hE3 : Hid (xs.all okF = false → foldE xs (F : Int) (M : Int) = 3 ∧ foldL xs (F : Int) (M : Int) = []) := fun h => by
    have e : foldE xs (F : Int) (M : Int) = 3 := by unfold foldE; rw [if_neg (by omega), if_pos h]
    exact ⟨e, by unfold foldL; rw [if_neg (by rw [e]; decide)]⟩
  have hE12 : Hid (xs.all okF = true → foldF M xs F = none → foldE xs (F : Int) (M : Int) = 12 ∧ foldL xs (F : Int) (M : Int) = []) := fun h h2 => by
    have e : foldE xs (F : Int) (M : Int) = 12 := by
      unfold foldE
      rw [if_neg (by omega), if_neg (by rw [h]; decide), Int.toNat_natCast, Int.toNat_natCast, h2]; rfl
    exact ⟨e, by unfold foldL; rw [if_neg (by rw [e]; decide)]⟩
  have hE0 : Hid (∀ u, xs.all okF = true → foldF M xs F = some u → foldE xs (F : Int) (M : Int) = 0 ∧ foldL xs (F : Int) (M : Int) = u) := fun u h h2 => by
    have e : foldE xs (F : Int) (M : Int) = 0 := by
      unfold foldE
      rw [if_neg (by omega), if_neg (by rw [h]; decide), Int.toNat_natCast, Int.toNat_natCast, h2]; rfl
    exact ⟨e, by unfold foldL; rw [if_pos e, Int.toNat_natCast, Int.toNat_natCast, h2]; rfl⟩
  obtain ⟨E, hE⟩ : ∃ E, E = foldE xs (F : Int) (M : Int) := ⟨_, rfl⟩
  obtain ⟨L, hL⟩ : ∃ L, L = foldL xs (F : Int) (M : Int) := ⟨_, rfl⟩
  rw [← hE, ← hL] at hE3 hE12 hE0 ⊢
  clear hE hL
  have hM1 : 1 ≤ M := by omega
  have hM2 : M ≤ 1000 := by omega
  have hF1 : F ≤ M := by omega
  go_enter Tryd.func14, Tryd.ntmps14
  go_wp2_with fail
  go_loop [8] (fun i => ∃ k : Nat, k ≤ len ∧ i = .int .i64 k ∧ Hid ((xs.take k).all okF = true)) (fun i => len - (intOf i).toNat)
  case atStart => exact ⟨0, Nat.zero_le _, rfl, rfl⟩
  case round =>
    obtain ⟨k, hk, rfl, hn⟩ := hrel
    by_cases hlt : k < len
    · obtain ⟨b, off, x, rfl, _, hc, _, _, hx⟩ := HR.out.get8 hlt
      by_cases h32 : x < 32
      · obtain ⟨e1, e2⟩ := hE3.out (all_no hx.out.1 (by unfold okF; rw [decide_eq_false (fun h => by omega)]))
        have E1 := hid e1
        have E2 := hid e2
        clear e1 e2 hE3 hE12 hE0 hn
        go_wp2_with fail
        go_ret2
        exact ⟨_, by rw [E1.out]; rfl, by rw [E2.out]; exact Own.nil _ _ _ _, Below.refl _ _⟩
      · by_cases h126 : 126 < x
        · obtain ⟨e1, e2⟩ := hE3.out (all_no hx.out.1 (by unfold okF; rw [decide_eq_false (fun h => by omega)]))
          have E1 := hid e1
          have E2 := hid e2
          clear e1 e2 hE3 hE12 hE0 hn
          go_wp2_with fail
          go_ret2
          exact ⟨_, by rw [E1.out]; rfl, by rw [E2.out]; exact Own.nil _ _ _ _, Below.refl _ _⟩
        · have HN := hid (all_yes hx.out.2 hn.out (show okF x = true by unfold okF; rw [decide_eq_true (show 32 ≤ x ∧ x ≤ 126 by omega)]))
          clear hn
          go_wp2_with fail
          go_round
          case rel => exact ⟨k + 1, by omega, by go_num, HN⟩
          case measure => simp [intOf]; omega
    · have hall : xs.all okF = true := by rw [← HR.out.all (show len ≤ k by omega)]; exact hn.out
      have HE12 := hid (hE12.out hall)
      have HE0 := hid (fun u => hE0.out u hall)
      clear hE3 hE12 hE0 hn hall
      go_wp2_with fail
      go_loopw [9, 10, 11] (fun v f ro wr => ∃ (k r : Nat) (O : List Int), k ≤ len ∧ f = .int .i64 k ∧ ro = .int .i64 r ∧ r ≤ M ∧ O.length ≤ 3 * k ∧ Hid ((foldF M (xs.drop k) r).map (fun u => O ++ u) = foldF M xs F) ∧ Own .u8 5 w.heap.size wr v O ∧ Below w.heap.size w wr) (fun _ f _ _ => len - (intOf f).toNat)
      case atStart => exact ⟨0, F, [], Nat.zero_le _, rfl, rfl, hF1, Nat.le_refl _, by unfold Hid; simp, Own.nil _ _ _ _, Below.refl _ _⟩
      case round =>
        obtain ⟨k, r, O, hk, rfl, rfl, hr, hO, hT, hown, hbel⟩ := hrel
        have hT' := hT.out
        have hdl : (xs.drop k).length = len - k := by rw [List.length_drop, hsz]
        have g1 : IntKind.i64.wrap ((len : Int) - (k : Int)) = (len : Int) - (k : Int) := IntWalk.i64_in _ (by omega)
        by_cases hfit : len - k ≤ r
        · rw [foldF_fit (by omega)] at hT'
          obtain ⟨e1, e2⟩ := HE0.out _ hT'.symm
          have hp := (HR.out.below hbel).piece (l := k) (r := len) hk (Nat.le_refl _)
          rw [List.take_of_length_le (by omega)] at hp
          have E1 := hid e1
          have E2 := hid e2
          have q1 : ¬ (r : Int) < (len : Int) - (k : Int) := by omega
          have q2 : (k : Int) ≤ (len : Int) := by omega
          have q3 : (0 : Int) ≤ (k : Int) := by omega
          clear hT hT' e1 e2 HE12 HE0
          by_cases hck : cap = k
          case' pos =>
            rw [if_pos hck] at hp
            subst hck
            obtain rfl : len = cap := by omega
            rw [Nat.sub_self] at hp
          case' neg => rw [if_neg hck] at hp
          all_goals
            have HP := hid hp
            clear hp
            go_wp2_with (at_builtin; go_must (refine wpList_more ST8 rfl _ _ rfl rfl rfl hown hbel HP.out (by omega) ?_); intro v3 w3 ho3 hb3)
            go_ret2
            exact ⟨_, by rw [E1.out]; rfl, by rw [E2.out]; exact ho3, hb3⟩
        · have q1 : (r : Int) < (len : Int) - (k : Int) := by omega
          have HDL := hid hdl
          clear hdl
          go_wp2_with fail
          generalize hWW : wr = WW at *
          go_loopw [12, 13] (fun nx i wr => ∃ q : Nat, q ≤ r ∧ i = .int .i64 ((k + 1 + q : Nat) : Int) ∧ nx = .int .i64 (if nxtF (xs.drop k) q = 0 then -1 else ((k + nxtF (xs.drop k) q : Nat) : Int)) ∧ wr = WW) (fun _ i _ => len - (intOf i).toNat)
          case atStart => exact ⟨0, Nat.zero_le _, by go_num, by rw [nxtF]; rfl, rfl⟩
          case round =>
            obtain ⟨q, hq, rfl, rfl, rfl⟩ := hrel
            have hHR := hid (HR.out.below hbel)
            by_cases hqr : q < r
            · obtain ⟨b, off, x, rfl, _, hc, _, _, hx⟩ := hHR.out.get8 (i := k + 1 + q) (by omega)
              have hns := nxt_snoc (xs := xs) (k := k) (q := q)
              rw [hx.out.1] at hns
              have p1 : ((k + 1 + q : Nat) : Int) ≤ (k : Int) + (r : Int) := by omega
              have p2 : ((k + 1 + q : Nat) : Int) < (len : Int) := by omega
              have p3 : IntKind.i64.wrap ((k : Int) + (r : Int)) = (k : Int) + (r : Int) := IntWalk.i64_in _ (by omega)
              have p4 : ((k + 1 + q : Nat) : Int).toNat = k + 1 + q := by omega
              have p5 : (0 : Int) ≤ ((k + 1 + q : Nat) : Int) := by omega
              have HX := hid hx
              clear hx hT'
              by_cases h32 : x = 32
              · subst h32
                rw [if_pos rfl] at hns
                have HNS := hid hns
                clear hns
                have HV : Hid ((((k + 1 + q : Nat) : Int)) = if nxtF (xs.drop k) (q + 1) = 0 then -1 else ((k + nxtF (xs.drop k) (q + 1) : Nat) : Int)) := by
                  unfold Hid
                  rw [HNS.out, if_neg (by omega)]; omega
                generalize hV2 : (if nxtF (xs.drop k) q = 0 then (-1 : Int) else ((k + nxtF (xs.drop k) q : Nat) : Int)) = V2
                clear hV2
                generalize hmm : k + 1 + q = m at *
                go_wp2_with fail
                go_roundw
                case rel => exact ⟨q + 1, by omega, by first | (rw [show k + 1 + (q + 1) = m + 1 by omega]; go_num) | go_num, by rw [← HV.out], by first | rfl | trivial⟩
                case measure => simp [intOf]; omega
              · rw [if_neg (by simpa using h32)] at hns
                have HNS := hid hns
                clear hns
                have e32 : (x == 32) = false := by simpa using h32
                have HV : Hid ((if nxtF (xs.drop k) q = 0 then (-1 : Int) else ((k + nxtF (xs.drop k) q : Nat) : Int)) = if nxtF (xs.drop k) (q + 1) = 0 then -1 else ((k + nxtF (xs.drop k) (q + 1) : Nat) : Int)) := by
                  unfold Hid
                  rw [HNS.out]
                generalize (if nxtF (xs.drop k) q = 0 then (-1 : Int) else ((k + nxtF (xs.drop k) q : Nat) : Int)) = V2 at *
                generalize hmm : k + 1 + q = m at *
                clear h32
                go_wp2_with fail
                go_roundw
                case rel => exact ⟨q + 1, by omega, by first | (rw [show k + 1 + (q + 1) = m + 1 by omega]; go_num) | go_num, by rw [← HV.out], by first | rfl | trivial⟩
                case measure => simp [intOf]; omega
            · obtain rfl : q = r := by omega
              have p1 : ¬ ((k + 1 + q : Nat) : Int) ≤ (k : Int) + (q : Int) := by omega
              have p3 : IntKind.i64.wrap ((k : Int) + (q : Int)) = (k : Int) + (q : Int) := IntWalk.i64_in _ (by omega)
              have hnl := nxtF_le (xs.drop k) q
              have hnf : ¬ (xs.drop k).length ≤ q := by rw [HDL.out]; exact hfit
              by_cases hn0 : nxtF (xs.drop k) q = 0
              · rw [foldF_no hnf hn0] at hT'
                obtain ⟨e1, e2⟩ := HE12.out hT'.symm
                rw [if_pos hn0]
                have E1 := hid e1
                have E2 := hid e2
                clear hT hT' e1 e2 HE12 HE0 hn0 hnl hnf
                generalize hmm : k + 1 + q = m at *
                go_wp2_with fail
                go_ret2
                exact ⟨_, by rw [E1.out]; rfl, by rw [E2.out]; exact Own.nil _ _ _ _, hbel⟩
              · rw [foldF_on hnf hn0, Option.map_map] at hT'
                rw [if_neg hn0]
                generalize nxtF (xs.drop k) q = i at *
                have hp := hHR.out.piece (l := k) (r := k + i) (by omega) (by omega)
                rw [List.drop_take, show k + i - k = i by omega, if_neg (by omega)] at hp
                have r5 : ¬ cap = k := by omega
                have HT := hid (show (foldF M (xs.drop (k + i)) M).map (fun u => (O ++ (xs.drop k).take i ++ [13, 10]) ++ u) = foldF M xs F by
                  rw [← hT', List.drop_drop]
                  congr 1
                  funext u
                  simp)
                have HP := hid hp
                have hi1 : 0 < i := by omega
                have hkil : k + i ≤ len := by omega
                have p6 : (k : Int) ≤ ((k + i : Nat) : Int) := by omega
                have p7 : ((k + i : Nat) : Int) ≤ (cap : Int) := by omega
                have p8 : ((k + i : Nat) : Int).toNat - k = i := by omega
                have p9 : ¬ ((k + i : Nat) : Int) < 0 := by omega
                have p10 : (0 : Int) ≤ ((k + i : Nat) : Int) := by omega
                have htl : ((xs.drop k).take i).length ≤ i := by rw [List.length_take]; exact Nat.min_le_left _ _
                have hOl1 : O.length + i < 1000000000000 := by omega
                have hOl2 : (O ++ (xs.drop k).take i).length + 2 < 1000000000000 := by rw [List.length_append]; omega
                have HOL2 := hid hOl2
                have HTL := hid htl
                clear hT hT' hp HE12 HE0 hn0 hnl hnf hOl2 htl
                generalize hmm : k + 1 + q = m at *
                generalize hki : k + i = ki at *
                have p11 : ki - k = i := by omega
                go_wp2_with (first
                  | (at_builtin; have hX := ho3; clear hX; go_must (refine wpList_pushs ST8 [13, 10] rfl _ _ rfl rfl ⟨_, rfl⟩ ho3 hb3 HOL2.out (by decide) ?_); intro v4 w4 ho4 hb4)
                  | (at_builtin; go_must (refine wpList_more ST8 rfl _ _ rfl rfl rfl hown hbel HP.out hOl1 ?_); intro v3 w3 ho3 hb3))
                go_roundw
                case rel => exact ⟨ki, M, _, by omega, rfl, rfl, Nat.le_refl _, by have := HTL.out; simp only [List.length_append, List.length_cons, List.length_nil]; omega, HT, ho4, hb4⟩
                case measure => simp [intOf]; omega
end Go.Proofs.YtldmoopdffenfaaDoor
