/-
  Contracts of the document's own functions of layer 18 (those that the translation has).
-/
import Derived.Test.YtpdoehdmeojmkaaDoorRows
import Derived.Test.YtpdoehdmeojmkaaDoorR01k
import Derived.Test.YtpdoehdmeojmkaaDoorR02
import Derived.Test.YtpdoehdmeojmkaaDoorFirst
import Derived.Test.YtpdoehdmeojmkaaDoorD18
import Derived.Test.YtpdoehdmeojmkaaDoorKeep
import Derived.StillTailTactics
namespace Go.Proofs.YtpdoehdmeojmkaaDoor
open Go.RowKit
set_option linter.unusedVariables false

theorem drop_one {xs : List Int} {k : Nat} {x : Int} (h : xs[k]? = some x) : xs.drop k = x :: xs.drop (k + 1) := by
  have hk : k < xs.length := (List.getElem?_eq_some_iff.1 h).1
  have e : xs[k] = x := (List.getElem?_eq_some_iff.1 h).2
  rw [List.drop_eq_getElem_cons hk, e]
theorem Reads.cellIs {k : IntKind} {w : World} {b off len cap : Nat} {xs : List Int} (h : Reads k w (some ⟨b, off, none⟩) len cap xs) {i : Nat} {x : Int} (hx : xs[i]? = some x) : w.cell? ⟨b, off + i, none⟩ = some (.int k x) := by
  have hi : i < xs.length := (List.getElem?_eq_some_iff.1 hx).1
  have hs := h.size
  obtain ⟨b', off', y, hb, _, hc, hy⟩ := h.get (i := i) (by omega)
  cases hb
  have h1 := hy.out.1
  rw [hx] at h1
  rw [hc, Option.some.inj h1]
set_option maxHeartbeats 4000000 in
theorem ref18_Breaks (a : Option Addr) (len cap : Nat) (xs : List Int) (w : World) (hr : Reads .u8 w a len cap xs) (hN : len < 100000000) :
    Calls Tryd.prog 18 #[.slice a len cap] w fun e w' => ∃ v, e = .returned v ∧ Own .u8 5 w.heap.size w' v (brkL xs) ∧ Below w.heap.size w w' := by
  have HR := hid hr
  have hsz := hr.size
  clear hr
  go_enter Tryd.func18, Tryd.ntmps18
  go_wp2
  go_loopw [3, 4] (fun v i wr => ∃ k : Nat, ∃ O : List Int, k ≤ len ∧ i = .int .i64 k ∧ O.length ≤ 2 * k ∧ Hid (O ++ brkS (xs.drop k) false = brkL xs) ∧ Own .u8 5 w.heap.size wr v O ∧ Below w.heap.size w wr) (fun _ i _ => len - (intOf i).toNat)
  case atStart => exact ⟨0, [], Nat.zero_le _, rfl, Nat.le_refl _, rfl, Own.nil _ _ _ _, Below.refl _ _⟩
  case round =>
    obtain ⟨k, O, hk, rfl, hO, hn, hown, hbel⟩ := hrel
    by_cases hlt : k < len
    · obtain ⟨b, off, x, rfl, _, hc, h0, h1, hx⟩ := (HR.out.below hbel).get8 hlt
      have hd := hn.out
      rw [drop_one hx.out.1] at hd
      by_cases hx13 : x = 13
      · subst hx13
        by_cases hk1 : k + 1 < len
        · obtain ⟨b2, off2, y, hA, _, hcy, hy0, hy1, hy⟩ := (HR.out.below hbel).get8 hk1
          cases hA
          by_cases hy10 : y = 10
          · subst hy10
            rw [drop_one hy.out.1, brk_two] at hd
            have e1 : Hid ((O ++ [13, 10]) ++ brkS (xs.drop (k + 2)) false = brkL xs) := by unfold Hid; rw [← hd, List.append_assoc]; rfl
            clear hd hn
            go_wp2_with (at_builtin; (refine wpList_pushs ST8 [13, 10] rfl _ _ rfl rfl ⟨_, rfl⟩ hown hbel (by simp; omega) (by decide) ?_); intro v3 w3 ho3 hb3; have hc3 := (HR.out.below hb3).cellIs hx.out.1; have hcy3 := (HR.out.below hb3).cellIs hy.out.1)
            go_roundw
            case rel => exact ⟨k + 2, _, by omega, by go_num, by simp; omega, e1.out, ho3, hb3⟩
            case measure => simp [intOf]; omega
          · have hyb : (y == 10) = false := by simpa using hy10
            have e1 : Hid ((O ++ [13, 10]) ++ brkS (xs.drop (k + 1)) false = brkL xs) := by
              rw [brk_one (.inl rfl) (by rw [List.head?_drop, hy.out.1]; rintro ⟨_, h⟩; exact hy10 (Option.some.inj h))] at hd
              unfold Hid; rw [← hd, List.append_assoc]; rfl
            clear hd hn hy10
            go_wp2_with (at_builtin; (refine wpList_pushs ST8 [13, 10] rfl _ _ rfl rfl ⟨_, rfl⟩ hown hbel (by simp; omega) (by decide) ?_); intro v3 w3 ho3 hb3; have hc3 := (HR.out.below hb3).cellIs hx.out.1; have hcy3 := (HR.out.below hb3).cellIs hy.out.1)
            go_roundw
            case rel => exact ⟨k + 1, _, by omega, by go_num, by simp; omega, e1.out, ho3, hb3⟩
            case measure => simp [intOf]; omega
        · have e1 : Hid ((O ++ [13, 10]) ++ brkS (xs.drop (k + 1)) false = brkL xs) := by
            rw [brk_one (.inl rfl) (by rw [List.drop_of_length_le (by omega)]; rintro ⟨_, h⟩; cases h)] at hd
            unfold Hid; rw [← hd, List.append_assoc]; rfl
          clear hd hn
          go_wp2_with (at_builtin; (refine wpList_pushs ST8 [13, 10] rfl _ _ rfl rfl ⟨_, rfl⟩ hown hbel (by simp; omega) (by decide) ?_); intro v3 w3 ho3 hb3; have hc3 := (HR.out.below hb3).cellIs hx.out.1)
          go_roundw
          case rel => exact ⟨k + 1, _, by omega, by go_num, by simp; omega, e1.out, ho3, hb3⟩
          case measure => simp [intOf]; omega
      · have hb13 : (x == 13) = false := by simpa using hx13
        have hb13' : (x != 13) = true := by simpa using hx13
        by_cases hx10 : x = 10
        · subst hx10
          have e1 : Hid ((O ++ [13, 10]) ++ brkS (xs.drop (k + 1)) false = brkL xs) := by
            rw [brk_one (.inr rfl) (fun h => by cases h.1)] at hd
            unfold Hid; rw [← hd, List.append_assoc]; rfl
          clear hd hn hx13
          go_wp2_with (at_builtin; (refine wpList_pushs ST8 [13, 10] rfl _ _ rfl rfl ⟨_, rfl⟩ hown hbel (by simp; omega) (by decide) ?_); intro v3 w3 ho3 hb3; have hc3 := (HR.out.below hb3).cellIs hx.out.1)
          go_roundw
          case rel => exact ⟨k + 1, _, by omega, by go_num, by simp; omega, e1.out, ho3, hb3⟩
          case measure => simp [intOf]; omega
        · have hb10' : (x != 10) = true := by simpa using hx10
          have e1 : Hid ((O ++ [x]) ++ brkS (xs.drop (k + 1)) false = brkL xs) := by
            rw [brk_plain hx13 hx10] at hd
            unfold Hid; rw [← hd, List.append_assoc]; rfl
          clear hd hn hx13 hx10
          go_wp2_with (at_builtin; (refine wpList_push ST8 rfl _ _ rfl rfl ⟨_, rfl⟩ hown hbel (by omega) (mk_u8 h0 h1) ?_); intro v3 w3 ho3 hb3)
          go_roundw
          case rel => exact ⟨k + 1, _, by omega, by go_num, by simp; omega, e1.out, ho3, hb3⟩
          case measure => simp [intOf]; omega
    · have hd := hn.out
      rw [List.drop_of_length_le (by omega), brkS, List.append_nil] at hd
      have HD := hid hd
      clear hd hn
      go_wp2_with fail
      go_ret
      exact ⟨_, rfl, by rw [← HD.out]; exact hown, hbel⟩
theorem put_o (s c : Int) (w : World) (h0 : 0 ≤ c) (h1 : c ≤ 255) (hs : (Lit.int .u8 s).wf = true) :
    Calls Tryd.prog 43 #[.slice none 0 0, .int .u8 s, .int .u8 c] w fun e w' => ∃ v, e = .returned v ∧ Own .u8 5 w.heap.size w' v (escI [] s c) ∧ Below w.heap.size w w' := by
  have HR := hid (Reads.nil .u8 w none 0 (Nat.zero_le _))
  have hwf := hid (dig3_wf s c hs h0 h1)
  go_enter Tryd.func43, Tryd.ntmps43
  go_wp2_with (first
    | (go_at_call 64; (with_reducible refine (digit_n _ _ (by omega) (by omega)).mono ?_); rintro e w' ⟨rfl, rfl⟩)
    | (at_builtin; (refine wpList_pushs ST8 [s, digI (c / 16), digI (c % 16)] rfl _ _ rfl rfl ⟨_, rfl⟩ ho2 hb2 (by simp) hwf.out ?_); intro v3 w3 ho3 hb3)
    | (at_builtin; go_must (refine wpList_more ST8 rfl _ _ rfl rfl rfl (Own.nil _ _ _ _) (Below.refl _ _) HR.out (by simp) ?_); intro v2 w2 ho2 hb2))
  go_ret
  exact ⟨_, rfl, by simpa [escI] using ho3, hb3⟩
set_option maxHeartbeats 2000000 in
theorem ref18_Unit (c : Int) (ends : Bool) (w : World) (h0 : 0 ≤ c) (h1 : c ≤ 255) :
    Calls Tryd.prog 26 #[.int .u8 c, .bool ends] w fun e w' => ∃ a' cap', e = .returned (.slice a' (unitL c ends).length cap') ∧ Reads .u8 w' a' (unitL c ends).length cap' (unitL c ends) ∧ (∀ b off, a' = some ⟨b, off, none⟩ → w.heap.size ≤ b) ∧ Below w.heap.size w w' := by
  have hw := hid (show ∀ x ∈ [c], (Lit.int .u8 x).wf = true by simpa using mk_u8 h0 h1)
  cases hp : plainU c ends
  · have e : Hid (unitL c ends = escI [] 61 c) := by unfold Hid unitL; rw [hp]; rfl
    unfold plainU at hp
    have key : (isB 4 c = false ∨ (isB 4 c = true ∧ (c != 61) = false)) ∧ (isB 2 c = false ∨ (isB 2 c = true ∧ ends = true)) := by
      revert hp
      cases isB 4 c <;> cases isB 2 c <;> cases ends <;> simp
    clear hp
    obtain ⟨k1, k2⟩ := key
    rcases k1 with h4 | ⟨h4, h6⟩ <;> rcases k2 with h2 | ⟨h2, rfl⟩
    all_goals
      go_enter Tryd.func26, Tryd.ntmps26
      go_wp2_with (first
        | (go_at_call 28; (with_reducible refine (is_r _ _ _ h0 h1).mono ?_); rintro e w' ⟨rfl, rfl⟩)
        | (go_at_call 43; (with_reducible refine (put_o _ _ _ h0 h1 (by decide)).mono ?_); rintro e w1 ⟨v1, rfl, ho1, hb1⟩; obtain ⟨a1, c1, rfl, hr1⟩ := ho1.reads))
      go_ret
      exact ⟨_, _, by rw [e.out]; rfl, by rw [e.out]; exact hr1, ho1.fresh, hb1⟩
  · have e : Hid (unitL c ends = [c]) := by unfold Hid unitL; rw [hp]; rfl
    unfold plainU at hp
    have key : (isB 4 c = true ∧ (c != 61) = true) ∨ (isB 4 c = false ∧ isB 2 c = true ∧ ends = false) ∨ (isB 4 c = true ∧ (c != 61) = false ∧ isB 2 c = true ∧ ends = false) := by
      revert hp
      cases isB 4 c <;> cases isB 2 c <;> cases ends <;> by_cases h : c = 61 <;> simp [h]
    clear hp
    rcases key with ⟨h4, h6⟩ | ⟨h4, h2, rfl⟩ | ⟨h4, h6, h2, rfl⟩
    all_goals
      go_enter Tryd.func26, Tryd.ntmps26
      go_wp2_with (go_at_call 28; (with_reducible refine (is_r _ _ _ h0 h1).mono ?_); rintro e w' ⟨rfl, rfl⟩)
      go_ret
      exact ⟨_, 1, by rw [e.out]; rfl, by rw [e.out]; exact Reads.lit .u8 5 w [c] (show (1 : Nat) ≤ maxLen by decide) hw.out, (fun b off hb => by cases hb; exact Nat.le_refl _), (Below.refl _ _).alloc (Nat.le_refl _) _⟩
set_option maxHeartbeats 4000000 in
set_option maxRecDepth 100000 in
theorem ref18_Lay (a : Option Addr) (len cap : Nat) (xs : List Int) (w : World) (hr : Reads .u8 w a len cap xs) (hN : len < 1000000) :
    Calls Tryd.prog 15 #[.slice a len cap] w fun e w' => ∃ v, e = .returned v ∧ Own .u8 5 w.heap.size w' v (layQ xs) ∧ Below w.heap.size w w' := by
  have HR := hid hr
  have hsz := hr.size
  have hwfB := hid (brkS_bd xs false (fun x hx => wf_u8 (hr.wf x hx)))
  clear hr
  have hcl := brkS_len xs false
  rw [hsz] at hcl
  obtain ⟨c, hc⟩ : ∃ c, c = brkL xs := ⟨_, rfl⟩
  have hQ : Hid (layQ xs = layS c false 0) := by unfold Hid layQ; rw [hc]
  have HC := hid hc
  obtain ⟨n, hn⟩ : ∃ n, n = c.length := ⟨_, rfl⟩
  have HN := hid hn
  have hn2 : n ≤ 2 * len := by rw [hn, hc]; exact hcl
  clear hn hcl hc
  go_enter Tryd.func15, Tryd.ntmps15
  go_wp2_with (go_at_call 18; (with_reducible refine (ref18_Breaks _ _ _ _ _ HR.out (by omega)).mono ?_); rintro e w1 ⟨v1, rfl, ho1, hb1⟩; rw [← HC.out] at ho1; obtain ⟨a1, c1, hv1, hr1⟩ := ho1.reads; rw [← HN.out] at hv1 hr1; subst hv1)
  have H1 := hid hr1
  clear hr1
  go_loopw [4, 5, 6] (fun v l i wr => ∃ k m : Nat, ∃ O : List Int, k ≤ n + 1 ∧ i = .int .i64 k ∧ l = .int .i64 m ∧ m ≤ 75 ∧ O.length ≤ 6 * k ∧ Hid (O ++ layS (c.drop k) false m = layS c false 0) ∧ Own .u8 5 w1.heap.size wr v O ∧ Below w1.heap.size w1 wr) (fun _ _ i _ => n + 1 - (intOf i).toNat)
  case atStart => exact ⟨0, 0, [], Nat.zero_le _, rfl, rfl, Nat.zero_le _, Nat.le_refl _, rfl, Own.nil _ _ _ _, Below.refl _ _⟩
  case round =>
    obtain ⟨k, m, O, hk, rfl, rfl, hm, hO, hn, hown, hbel⟩ := hrel
    by_cases hlt : k < n
    · obtain ⟨b, off, x, rfl, _, hcell, h0, h1, hx⟩ := (H1.out.below hbel).get8 hlt
      have hd := hn.out
      rw [drop_one hx.out.1] at hd
      by_cases hx13 : x = 13
      · subst hx13
        rw [lay_cr, List.drop_drop, show k + 1 + 1 = k + 2 by omega] at hd
        have e1 : Hid ((O ++ [13, 10]) ++ layS (c.drop (k + 2)) false 0 = layS c false 0) := by unfold Hid; rw [← hd, List.append_assoc]; rfl
        clear hd hn
        go_wp2_with (at_builtin; (refine wpList_pushs ST8 [13, 10] rfl _ _ rfl rfl ⟨_, rfl⟩ hown hbel (by simp; omega) (by decide) ?_); intro v3 w3 ho3 hb3)
        go_roundw
        case rel => exact ⟨k + 2, 0, _, by omega, by go_num, rfl, by omega, by simp; omega, e1.out, ho3, hb3⟩
        case measure => simp [intOf]; omega
      · have hb13 : (x == 13) = false := by simpa using hx13
        rw [lay_unit hx13, List.head?_drop] at hd
        obtain ⟨e, he⟩ : ∃ e, e = decide (c[k + 1]? = some 13) := ⟨_, rfl⟩
        rw [← he] at hd
        have hu := unit_len x e
        have HE := hid he
        have HD := hid hd
        clear hd hn hx13
        have q1 : (0 : Int) ≤ (k : Int) := by omega
        have q2 : (k : Int) < (n : Int) := by omega
        have e1 : IntKind.i64.wrap ((k : Int) + 1) = (k : Int) + 1 := IntWalk.i64_in _ (by omega)
        by_cases hk1 : k + 1 < n
        · obtain ⟨b2, off2, y, hA, _, hcy, hy0, hy1, hy⟩ := (H1.out.below hbel).get8 hk1
          cases hA
          have q3 : (0 : Int) ≤ (k : Int) + 1 := by omega
          have q4 : (k : Int) + 1 < (n : Int) := by omega
          have q5 : ((k : Int) + 1).toNat = k + 1 := by omega
          have hey : (y == 13) = e := by
            rw [he, hy.out.1, Bool.eq_iff_iff, beq_iff_eq, decide_eq_true_eq, Option.some.injEq]
          clear he
          go_wp2_with fail
          go_still_tail 17, (by kernel_rfl)
          change wpList _ _ _ _ _ wr.drew
          have hoD := hown.drew'
          have hbD := below_drew hbel
          generalize wr.drew = wd at hoD hbD ⊢
          obtain ⟨ao, co, rfl, hro⟩ := hoD.reads
          have hlt0 := hid hoD.blockLt
          clear hown hbel hcell hro hcy
          by_cases hlong : 75 < m + (unitL x e).length
          · have e2 : Hid ((O ++ [61, 13, 10] ++ unitL x e) ++ layS (c.drop (k + 1)) false (unitL x e).length = layS c false 0) := by
              have := HD.out
              rw [if_pos hlong] at this
              unfold Hid; rw [← this]; simp only [List.append_assoc]; rfl
            go_wp2_with (first
              | (go_at_call 26; (refine (ref18_Unit x e _ h0 h1).mono ?_); rintro _ w2 ⟨a2, c2, rfl, hr2, hf2, hb2⟩; have ho2 := hoD.below hb2; have hbd2 := below_then hbD hb2)
              | (at_builtin; (refine wpList_pushsK ST8 [61, 13, 10] rfl _ _ rfl rfl ⟨_, rfl⟩ ho2 hbd2 (by simp; omega) (by decide) ?_); intro v3 w3 ho3 hb3 hkeep; have hr3 := hkeep _ _ _ _ _ hr2 (fun b off hb hj => by have h1 := hf2 b off hb; have h2 := hlt0.out b hj; omega))
              | (at_builtin; (refine wpList_more ST8 rfl _ _ rfl rfl rfl ho3 hb3 hr3 (by simp; omega) ?_); intro v4 w4 ho4 hb4))
            go_roundw
            case rel => exact ⟨k + 1, (unitL x e).length, _, by omega, by go_num, rfl, by omega, by simp; omega, e2.out, ho4, hb4⟩
            case measure => simp [intOf]; omega
          · have e2 : Hid ((O ++ unitL x e) ++ layS (c.drop (k + 1)) false (m + (unitL x e).length) = layS c false 0) := by
              have := HD.out
              rw [if_neg hlong] at this
              unfold Hid; rw [← this]; simp only [List.append_assoc]
            go_wp2_with (first
              | (go_at_call 26; (refine (ref18_Unit x e _ h0 h1).mono ?_); rintro _ w2 ⟨a2, c2, rfl, hr2, hf2, hb2⟩; have ho2 := hoD.below hb2; have hbd2 := below_then hbD hb2)
              | (at_builtin; (refine wpList_more ST8 rfl _ _ rfl rfl rfl ho2 hbd2 hr2 (by omega) ?_); intro v4 w4 ho4 hb4))
            go_roundw
            case rel => exact ⟨k + 1, m + (unitL x e).length, _, by omega, by go_num, by go_num, by omega, by simp; omega, e2.out, ho4, hb4⟩
            case measure => simp [intOf]; omega
        · have q4 : ¬ (k : Int) + 1 < (n : Int) := by omega
          have hey : e = false := by
            rw [he, List.getElem?_eq_none (by rw [← HN.out]; omega)]; rfl
          subst hey
          clear he
          go_wp2_with fail
          have q6 : decide ((k : Int) + 1 < (n : Int)) = false := decide_eq_false (by omega)
          go_still_tail 17, (by kernel_rfl)
          change wpList _ _ _ _ _ wr.drew
          have hoD := hown.drew'
          have hbD := below_drew hbel
          generalize wr.drew = wd at hoD hbD ⊢
          obtain ⟨ao, co, rfl, hro⟩ := hoD.reads
          have hlt0 := hid hoD.blockLt
          clear hown hbel hcell hro
          by_cases hlong : 75 < m + (unitL x false).length
          · have e2 : Hid ((O ++ [61, 13, 10] ++ unitL x false) ++ layS (c.drop (k + 1)) false (unitL x false).length = layS c false 0) := by
              have := HD.out
              rw [if_pos hlong] at this
              unfold Hid; rw [← this]; simp only [List.append_assoc]; rfl
            go_wp2_with (first
              | (go_at_call 26; (refine (ref18_Unit x false _ h0 h1).mono ?_); rintro _ w2 ⟨a2, c2, rfl, hr2, hf2, hb2⟩; have ho2 := hoD.below hb2; have hbd2 := below_then hbD hb2)
              | (at_builtin; (refine wpList_pushsK ST8 [61, 13, 10] rfl _ _ rfl rfl ⟨_, rfl⟩ ho2 hbd2 (by simp; omega) (by decide) ?_); intro v3 w3 ho3 hb3 hkeep; have hr3 := hkeep _ _ _ _ _ hr2 (fun b off hb hj => by have h1 := hf2 b off hb; have h2 := hlt0.out b hj; omega))
              | (at_builtin; (refine wpList_more ST8 rfl _ _ rfl rfl rfl ho3 hb3 hr3 (by simp; omega) ?_); intro v4 w4 ho4 hb4))
            go_roundw
            case rel => exact ⟨k + 1, (unitL x false).length, _, by omega, by go_num, rfl, by omega, by simp; omega, e2.out, ho4, hb4⟩
            case measure => simp [intOf]; omega
          · have e2 : Hid ((O ++ unitL x false) ++ layS (c.drop (k + 1)) false (m + (unitL x false).length) = layS c false 0) := by
              have := HD.out
              rw [if_neg hlong] at this
              unfold Hid; rw [← this]; simp only [List.append_assoc]
            go_wp2_with (first
              | (go_at_call 26; (refine (ref18_Unit x false _ h0 h1).mono ?_); rintro _ w2 ⟨a2, c2, rfl, hr2, hf2, hb2⟩; have ho2 := hoD.below hb2; have hbd2 := below_then hbD hb2)
              | (at_builtin; (refine wpList_more ST8 rfl _ _ rfl rfl rfl ho2 hbd2 hr2 (by omega) ?_); intro v4 w4 ho4 hb4))
            go_roundw
            case rel => exact ⟨k + 1, m + (unitL x false).length, _, by omega, by go_num, by go_num, by omega, by simp; omega, e2.out, ho4, hb4⟩
            case measure => simp [intOf]; omega
    · have hd := hn.out
      rw [List.drop_of_length_le (by rw [← HN.out]; omega), layS] at hd
      by_cases hm0 : 0 < m
      · rw [if_pos hm0] at hd
        have HD := hid hd
        clear hd hn
        go_wp2_with (at_builtin; (refine wpList_pushs ST8 [61, 13, 10] rfl _ _ rfl rfl ⟨_, rfl⟩ hown hbel (by simp; omega) (by decide) ?_); intro v3 w3 ho3 hb3)
        go_ret
        exact ⟨_, rfl, by rw [hQ.out, ← HD.out]; exact own_mono ho3 hb1.size, below_then hb1 hb3⟩
      · rw [if_neg hm0, List.append_nil] at hd
        have HD := hid hd
        clear hd hn
        go_wp2_with fail
        go_ret
        exact ⟨_, rfl, by rw [hQ.out, ← HD.out]; exact own_mono hown hb1.size, below_then hb1 hbel⟩
end Go.Proofs.YtpdoehdmeojmkaaDoor
