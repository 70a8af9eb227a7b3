/-
  Texts of ours laid together: C29a.
-/
import Derived.Test.YtefhddbbiheadaaGreatRows
import Derived.Test.YtefhddbbiheadaaGreatZ21

/-! C29a -/
namespace Go.Proofs.YtefhddbbiheadaaGreat
open Go.RowKit
set_option linter.unusedVariables false

/-- The library's functions at a literal in the newest block. -/
theorem pre63 (a : Option Addr) (len cap : Nat) (xs : List Int) (W : World) (B : Nat) (hB : W.heap.size = B) (hr : Reads .u8 W a len cap xs) :
    Calls Tryz.prog 72 #[.slice a len cap, .slice (some ⟨B, 0, none⟩) 2 2] (W.alloc (.cells #[.int .u8 61, .int .u8 63] 5 (2, 3))) fun e w' => ∃ a' l' c', e = .returned (.tuple #[.slice a' l' c', .bool (decide (xs.take 2 = [61, 63]))]) ∧ Reads .u8 w' a' l' c' (if decide (xs.take 2 = [61, 63]) = true then xs.drop 2 else xs) ∧ Below W.heap.size W w' := by
  have hb := (Below.refl W.heap.size W).alloc (Nat.le_refl _) (.cells #[.int .u8 61, .int .u8 63] 5 (2, 3))
  refine (bytes_CutPrefixN a len cap xs _ 2 2 [61, 63] W _ hr hb (Reads_litB .u8 5 (2, 3) W B hB [61, 63] (by decide) (by decide))).mono ?_
  rintro e w' ⟨a', l', c', rfl, h, rfl⟩
  exact ⟨_, _, _, rfl, h.below hb, hb⟩
def sfB (Y : List Int) : Bool := decide (2 ≤ Y.length ∧ Y.drop (Y.length - 2) = [63, 61])
theorem suf63 (a : Option Addr) (len cap : Nat) (Y : List Int) (W : World) (B : Nat) (hB : W.heap.size = B) (hr : Reads .u8 W a len cap Y) :
    Calls Tryz.prog 105 #[.slice a len cap, .slice (some ⟨B, 0, none⟩) 2 2] (W.alloc (.cells #[.int .u8 63, .int .u8 61] 5 (2, 3))) fun e w' => ∃ l', e = .returned (.tuple #[.slice a l' cap, .bool (sfB Y)]) ∧ (sfB Y = true → Reads .u8 w' a l' cap (Y.take (Y.length - 2))) ∧ Below W.heap.size W w' := by
  have hb := (Below.refl W.heap.size W).alloc (Nat.le_refl _) (.cells #[.int .u8 63, .int .u8 61] 5 (2, 3))
  have hs := hr.size
  subst hs
  refine (bytes_CutSuffixN a _ cap Y _ 2 2 [63, 61] _ (hr.below hb) (Reads_litB .u8 5 (2, 3) W B hB [63, 61] (by decide) (by decide)) (by decide)).mono ?_
  rintro e w' ⟨rfl, rfl⟩
  refine ⟨_, rfl, fun h => ?_, hb⟩
  rw [if_pos (of_decide_eq_true h)]
  exact (hr.below hb).pre (by omega)
theorem cut63 (a : Option Addr) (len cap : Nat) (Y : List Int) (W : World) (B : Nat) (hB : W.heap.size = B) (hr : Reads .u8 W a len cap Y) :
    Calls Tryz.prog 106 #[.slice a len cap, .slice (some ⟨B, 0, none⟩) 1 1] (W.alloc (.cells #[.int .u8 63] 5 (1, 2))) fun e w' => ∃ l' a3 l3 c3 F, e = .returned (.tuple #[.slice a l' cap, .slice a3 l3 c3, .bool F]) ∧ Reads .u8 w' a l' cap (qA Y) ∧ Reads .u8 w' a3 l3 c3 (qB Y) ∧ Below W.heap.size W w' := by
  have hb := (Below.refl W.heap.size W).alloc (Nat.le_refl _) (.cells #[.int .u8 63] 5 (1, 2))
  refine (bytes_CutR (hr.below hb) (Reads_litB .u8 5 (1, 2) W B hB [63] (by decide) (by decide))).mono ?_
  rintro e w' ⟨l', a3, l3, c3, rfl, h1, h2, n, rfl⟩
  exact ⟨_, _, _, _, _, rfl, h1.below (Below.drewN (Below.refl _ _) n), h2.below (Below.drewN (Below.refl _ _) n), Below.drewN hb n⟩
theorem idxO_mem {c : Int} : ∀ {xs : List Int}, (idxO c xs = -1) ↔ ¬ c ∈ xs
  | [] => by simp [idxO, idxI]
  | x :: t => by
    have hn := idx_bd (fun x => decide (x = c)) t
    have ih := idxO_mem (c := c) (xs := t)
    unfold idxO at ih ⊢
    rw [idx_cons]
    by_cases hx : x = c
    · rw [if_pos (decide_eq_true hx)]
      simp [hx]
    · rw [if_neg (by simpa using hx)]
      have hx' : ¬ c = x := fun h => hx h.symm
      rw [List.mem_cons, not_or]
      split
      · rename_i h
        exact ⟨fun _ => ⟨hx', ih.1 h⟩, fun _ => rfl⟩
      · rename_i h
        exact ⟨fun hh => by omega, fun hh => absurd (ih.2 hh.2) h⟩
theorem cont63 (a : Option Addr) (len cap : Nat) (xs : List Int) (W : World) (B : Nat) (hB : W.heap.size = B) (hr : Reads .u8 W a len cap xs) :
    Calls Tryz.prog 108 #[.slice a len cap, .slice (some ⟨B, 0, none⟩) 1 1] (W.alloc (.cells #[.int .u8 63] 5 (1, 2))) fun e w' => e = .returned (.bool (decide (63 ∈ xs))) ∧ Below W.heap.size W w' := by
  have hb := (Below.refl W.heap.size W).alloc (Nat.le_refl _) (.cells #[.int .u8 63] 5 (1, 2))
  have HI := hid (bytes_Index1 (cap2 := 1) (hr.below hb) (Reads_litB .u8 5 (1, 2) W B hB [63] (by decide) (by decide)))
  have hm := idxO_mem (c := 63) (xs := xs)
  by_cases hx : 63 ∈ xs
  · have hi : ¬ idxO 63 xs = -1 := fun h => hm.1 h hx
    rw [decide_eq_true hx]
    have hi' : (idxO 63 xs != -1) = true := by simpa using hi
    clear hx hm hi hr
    generalize idxO 63 xs = I at *
    go_enter Tryz.func108, Tryz.ntmps108
    go_wp2_with (go_at_call 131; (with_reducible refine HI.out.mono ?_); rintro e w' ⟨rfl, rfl⟩)
    go_ret
    exact ⟨ret_bool (by simp [*]), hb⟩
  · have hi := hm.2 hx
    rw [decide_eq_false hx]
    rw [hi] at HI
    clear hx hm hi hr
    go_enter Tryz.func108, Tryz.ntmps108
    go_wp2_with (go_at_call 131; (with_reducible refine HI.out.mono ?_); rintro e w' ⟨rfl, rfl⟩)
    go_ret
    exact ⟨rfl, hb⟩
theorem ewform_isCode (n : Int) (w : World) :
    Calls Tryz.prog 80 #[.int .i64 n] w fun e w' => e = .returned (.bool (decide (1 ≤ n ∧ n ≤ 2))) ∧ w = w' := by
  by_cases h0 : 1 ≤ n
  · by_cases h1 : n ≤ 2
    · rw [decide_eq_true ⟨h0, h1⟩]
      go_enter Tryz.func80, Tryz.ntmps80
      go_wp2_with fail
      go_ret
      exact ⟨ret_bool (by simp [*]), rfl⟩
    · rw [decide_eq_false (show ¬ (1 ≤ n ∧ n ≤ 2) from fun h => h1 h.2)]
      go_enter Tryz.func80, Tryz.ntmps80
      go_wp2_with fail
      go_ret
      exact ⟨ret_bool (by simp [*]), rfl⟩
  · rw [decide_eq_false (show ¬ (1 ≤ n ∧ n ≤ 2) from fun h => h0 h.1)]
    go_enter Tryz.func80, Tryz.ntmps80
    go_wp2_with fail
    go_ret
    exact ⟨ret_bool (by simp [*]), rfl⟩
theorem ewform_isCodeK (l : List Int) (w : World) :
    Calls Tryz.prog 80 #[.int .i64 (cdL l)] w fun e w' => e = .returned (.bool (decide (cdL l ≠ 0))) ∧ w = w' := by
  have h := ewform_isCode (cdL l) w
  have e : decide (1 ≤ cdL l ∧ cdL l ≤ 2) = decide (cdL l ≠ 0) := by
    have hb : cdL l = 0 ∨ cdL l = 1 ∨ cdL l = 2 := by
      unfold cdL
      repeat' split
      all_goals simp
    rcases hb with h | h | h <;> rw [h] <;> rfl
  rwa [e] at h
set_option maxRecDepth 100000 in
theorem ewform_codeOf (a : Option Addr) (len cap : Nat) (xs : List Int) (w : World) (hr : Reads .u8 w a len cap xs) :
    Calls Tryz.prog 78 #[.slice a len cap] w fun e w' => e = .returned (.int .i64 (cdL xs)) ∧ w = w' := by
  have g := hr.string (P := Tryz.prog) Tryz.underlying22 Tryz.underlying5 Tryz.underlying9
  have key : ∀ c : Int, 0 ≤ c → c ≤ 255 → (((strB xs).toList = (strB [c]).toList) ↔ xs = [c]) := by
    intro c h0 h1
    have h := strB_eq (xs := xs) (ys := [c]) (fun x hx => wf_u8 (hr.wf x hx)) (by intro y hy; simp at hy; subst hy; exact ⟨h0, h1⟩)
    have h' := congrArg (· = true) h
    simpa using h'
  have k66 := key 66 (by decide) (by decide)
  have k98 := key 98 (by decide) (by decide)
  have k81 := key 81 (by decide) (by decide)
  have k113 := key 113 (by decide) (by decide)
  rw [show (strB [66]).toList = [66] from by rw [Go.ByteArray.toList_eq]; rfl] at k66
  rw [show (strB [98]).toList = [98] from by rw [Go.ByteArray.toList_eq]; rfl] at k98
  rw [show (strB [81]).toList = [81] from by rw [Go.ByteArray.toList_eq]; rfl] at k81
  rw [show (strB [113]).toList = [113] from by rw [Go.ByteArray.toList_eq]; rfl] at k113
  by_cases h66 : xs = [66]
  · have e : cdL xs = 1 := by rw [h66]; rfl
    have hS := k66.2 h66
    rw [e]
    clear k66 k98 k81 k113 key h66 e hr
    generalize strB xs = S at *
    go_enter Tryz.func78, Tryz.ntmps78
    go_wp2_with fail
    go_ret
    exact ⟨rfl, rfl⟩
  · have n66 : ((strB xs).toList == [66]) = false := by simpa using fun h => h66 (k66.1 h)
    by_cases h98 : xs = [98]
    · have e : cdL xs = 1 := by rw [h98]; rfl
      have hS := k98.2 h98
      rw [e]
      clear k66 k98 k81 k113 key h66 h98 e hr
      generalize strB xs = S at *
      go_enter Tryz.func78, Tryz.ntmps78
      go_wp2_with fail
      go_ret
      exact ⟨rfl, rfl⟩
    · have n98 : ((strB xs).toList == [98]) = false := by simpa using fun h => h98 (k98.1 h)
      by_cases h81 : xs = [81]
      · have e : cdL xs = 2 := by rw [h81]; rfl
        have hS := k81.2 h81
        rw [e]
        clear k66 k98 k81 k113 key h66 h98 h81 e hr
        generalize strB xs = S at *
        go_enter Tryz.func78, Tryz.ntmps78
        go_wp2_with fail
        go_ret
        exact ⟨rfl, rfl⟩
      · have n81 : ((strB xs).toList == [81]) = false := by simpa using fun h => h81 (k81.1 h)
        by_cases h113 : xs = [113]
        · have e : cdL xs = 2 := by rw [h113]; rfl
          have hS := k113.2 h113
          rw [e]
          clear k66 k98 k81 k113 key h66 h98 h81 h113 e hr
          generalize strB xs = S at *
          go_enter Tryz.func78, Tryz.ntmps78
          go_wp2_with fail
          go_ret
          exact ⟨rfl, rfl⟩
        · have n113 : ((strB xs).toList == [113]) = false := by simpa using fun h => h113 (k113.1 h)
          have e : cdL xs = 0 := by unfold cdL; rw [if_neg (by rintro (h | h); exact h66 h; exact h98 h), if_neg (by rintro (h | h); exact h81 h; exact h113 h)]
          rw [e]
          clear k66 k98 k81 k113 key h66 h98 h81 h113 e hr
          generalize strB xs = S at *
          go_enter Tryz.func78, Tryz.ntmps78
          go_wp2_with fail
          go_ret
          exact ⟨rfl, rfl⟩
set_option maxRecDepth 100000 in
theorem ewform_isName (a : Option Addr) (len cap : Nat) (xs : List Int) (w : World) (hr : Reads .u8 w a len cap xs) :
    Calls Tryz.prog 79 #[.slice a len cap] w fun e w' => e = .returned (.bool (nmOk xs)) ∧ w = w' := by
  have HA := hid (all_c a len cap xs 64 w hr)
  have hs := hr.size
  unfold nmOk
  by_cases h0 : xs = []
  · rw [decide_eq_false (not_not_intro h0), Bool.false_and]
    subst h0
    obtain rfl : len = 0 := hs.symm
    clear hr hs HA
    go_enter Tryz.func79, Tryz.ntmps79
    go_wp2_with fail
    go_ret
    exact ⟨rfl, rfl⟩
  · rw [decide_eq_true h0, Bool.true_and]
    have hpos : 0 < len := by have := List.length_pos_iff.2 h0; omega
    have hpi : (0 : Int) < (len : Int) := by omega
    generalize xs.all (isB 64) = A at *
    clear hr hs h0
    go_enter Tryz.func79, Tryz.ntmps79
    go_wp2_with (go_at_call 107; (with_reducible refine HA.out.mono ?_); rintro e w' ⟨rfl, rfl⟩)
    go_ret
    exact ⟨rfl, rfl⟩
theorem ewform_isText (a : Option Addr) (len cap : Nat) (xs : List Int) (w : World) (hr : Reads .u8 w a len cap xs) :
    Calls Tryz.prog 81 #[.slice a len cap] w fun e w' => e = .returned (.bool (txOk xs)) ∧ Below w.heap.size w w' := by
  have HA := hid (all_c a len cap xs 4 w hr)
  have hs := hr.size
  have HC := hid (cont63 a len cap xs w _ rfl hr)
  have kc := convB (P := Tryz.prog) (t := 22) (e := 5) Tryz.underlying22 Tryz.underlying5 w w.heap.size rfl
  unfold txOk
  by_cases h0 : xs = []
  · rw [decide_eq_false (not_not_intro h0), Bool.false_and, Bool.false_and]
    subst h0
    obtain rfl : len = 0 := hs.symm
    clear hr hs HA HC
    go_enter Tryz.func81, Tryz.ntmps81
    go_wp2_with fail
    go_ret
    exact ⟨rfl, Below.refl _ _⟩
  · rw [decide_eq_true h0, Bool.true_and]
    have hpos : 0 < len := by have := List.length_pos_iff.2 h0; omega
    have hpi : (0 : Int) < (len : Int) := by omega
    generalize decide (63 ∈ xs) = C at *
    clear hr hs h0
    cases hA : xs.all (isB 4)
    · rw [hA] at HA
      rw [Bool.false_and]
      clear hA
      go_enter Tryz.func81, Tryz.ntmps81
      go_wp2_with (go_at_call 107; (with_reducible refine HA.out.mono ?_); rintro e w' ⟨rfl, rfl⟩)
      go_ret
      exact ⟨rfl, Below.refl _ _⟩
    · rw [hA] at HA
      rw [Bool.true_and]
      clear hA
      go_enter Tryz.func81, Tryz.ntmps81
      go_wp2_with (first
        | (go_at_call 107; (with_reducible refine HA.out.mono ?_); rintro e w' ⟨rfl, rfl⟩)
        | (go_at_call 108; (with_reducible refine HC.out.mono ?_); rintro e w1 ⟨rfl, hb1⟩))
      go_ret
      exact ⟨rfl, hb1⟩
set_option maxHeartbeats 2000000 in
theorem ewform_cut (a : Option Addr) (len cap : Nat) (xs : List Int) (w : World) (hr : Reads .u8 w a len cap xs) :
    Calls Tryz.prog 77 #[.slice a len cap] w fun e w' => ∃ a1 l1 c1 a2 l2 c2 a3 l3 c3, e = .returned (.tuple #[.slice a1 l1 c1, .slice a2 l2 c2, .slice a3 l3 c3]) ∧ Reads .u8 w' a1 l1 c1 (ew1 xs) ∧ Reads .u8 w' a2 l2 c2 (ew2 xs) ∧ Reads .u8 w' a3 l3 c3 (ew3 xs) ∧ Below w.heap.size w w' := by
  have HP := hid (pre63 a len cap xs w _ rfl hr)
  have kc := convB (P := Tryz.prog) (t := 22) (e := 5) Tryz.underlying22 Tryz.underlying5 w w.heap.size rfl
  have hFr : ewFr xs = (decide (xs.take 2 = [61, 63]) && sfB (xs.drop 2)) := rfl
  unfold ew1 ew2 ew3
  unfold ewIn
  clear hr
  cases hp : decide (xs.take 2 = [61, 63])
  · rw [hp] at HP hFr
    rw [if_neg (by decide)] at HP
    rw [Bool.false_and] at hFr
    rw [hFr, if_neg (by decide), if_neg (by decide), if_neg (by decide)]
    clear hp hFr
    go_enter Tryz.func77, Tryz.ntmps77
    go_wp2_with (first
      | (go_at_call 72; (with_reducible refine HP.out.mono ?_); rintro e w1 ⟨a1, l1, c1, rfl, r1, h1⟩; have kc1 := convB (P := Tryz.prog) (t := 22) (e := 5) Tryz.underlying22 Tryz.underlying5 w1 w1.heap.size rfl)
      | (go_at_call 105; (with_reducible refine (suf63 _ _ _ _ w1 _ rfl r1).mono ?_); rintro e w2 ⟨l2, rfl, r2, h2⟩; have t2 := below_then h1 h2))
    go_ret3
    exact ⟨_, _, _, _, _, _, _, _, _, rfl, Reads.nil _ _ _ _ (Nat.zero_le _), Reads.nil _ _ _ _ (Nat.zero_le _), Reads.nil _ _ _ _ (Nat.zero_le _), t2⟩
  · rw [hp] at HP hFr
    rw [if_pos rfl] at HP
    rw [Bool.true_and] at hFr
    rw [hFr]
    clear hp hFr
    generalize xs.drop 2 = Y at *
    have HS := hid (suf63 (Y := Y))
    cases hs : sfB Y
    · rw [if_neg (by decide), if_neg (by decide), if_neg (by decide)]
      rw [hs] at HS
      clear hs
      go_enter Tryz.func77, Tryz.ntmps77
      go_wp2_with (first
        | (go_at_call 72; (with_reducible refine HP.out.mono ?_); rintro e w1 ⟨a1, l1, c1, rfl, r1, h1⟩; have kc1 := convB (P := Tryz.prog) (t := 22) (e := 5) Tryz.underlying22 Tryz.underlying5 w1 w1.heap.size rfl)
        | (go_at_call 105; (with_reducible refine (HS.out _ _ _ w1 _ rfl r1).mono ?_); rintro e w2 ⟨l2, rfl, r2, h2⟩; have t2 := below_then h1 h2))
      go_ret3
      exact ⟨_, _, _, _, _, _, _, _, _, rfl, Reads.nil _ _ _ _ (Nat.zero_le _), Reads.nil _ _ _ _ (Nat.zero_le _), Reads.nil _ _ _ _ (Nat.zero_le _), t2⟩
    · rw [if_pos rfl, if_pos rfl, if_pos rfl]
      rw [hs] at HS
      clear hs
      generalize Y.take (Y.length - 2) = I at *
      go_enter Tryz.func77, Tryz.ntmps77
      go_wp2_with (first
        | (go_at_call 72; (with_reducible refine HP.out.mono ?_); rintro e w1 ⟨a1, l1, c1, rfl, r1, h1⟩; have kc1 := convB (P := Tryz.prog) (t := 22) (e := 5) Tryz.underlying22 Tryz.underlying5 w1 w1.heap.size rfl)
        | (go_at_call 105; (with_reducible refine (HS.out _ _ _ w1 _ rfl r1).mono ?_); rintro e w2 ⟨l2, rfl, r2, h2⟩; have t2 := below_then h1 h2; have r2' := r2 (by trivial); clear r2; have kc2 := convB (P := Tryz.prog) (t := 22) (e := 5) Tryz.underlying22 Tryz.underlying5 w2 w2.heap.size rfl)
        | (go_at_call 106; have hY := r5; clear hY; (with_reducible refine (cut63 _ _ _ _ w3 _ rfl r5).mono ?_); rintro e w4 ⟨l6, a7, l7, c7, F2, rfl, r6, r7, h4⟩; have t4 := below_then t3 h4)
        | (go_at_call 106; (with_reducible refine (cut63 _ _ _ _ w2 _ rfl r2').mono ?_); rintro e w3 ⟨l4, a5, l5, c5, F1, rfl, r4, r5, h3⟩; have t3 := below_then t2 h3; have kc3 := convB (P := Tryz.prog) (t := 22) (e := 5) Tryz.underlying22 Tryz.underlying5 w3 w3.heap.size rfl))
      go_ret3
      exact ⟨_, _, _, _, _, _, _, _, _, rfl, r4.below h4, r6, r7, t4⟩
set_option maxRecDepth 100000 in
set_option maxHeartbeats 4000000 in
theorem ewform_ParP (a : Option Addr) (len cap : Nat) (xs : List Int) (w : World) (hr : Reads .u8 w a len cap xs) (hN : len < 10000000) :
    Calls Tryz.prog 47 #[.slice a len cap] w (ParP xs w) := by
  have hal := (Below.refl w.heap.size w).alloc (Nat.le_refl _) (.cells #[.slice none 0 0, .int .i64 0, .slice none 0 0] 67)
  have HC := hid (ewform_cut a len cap xs _ (hr.below hal))
  have hsz := hr.size
  have h1l : (ew1 xs).length < 100000000 ∧ (ew3 xs).length < 100000000 := by
    have hi : (ewIn xs).length ≤ xs.length := by unfold ewIn; rw [List.length_take, List.length_drop]; omega
    have h1 := qA_le (ewIn xs)
    have h2 := qB_le (qB (ewIn xs))
    have h3 := qB_le (ewIn xs)
    unfold ew1 ew3
    constructor <;> split <;> first | omega | (simp; done)
  have HL := hid h1l
  clear hr h1l
  cases hok : ewOk xs
  · obtain ⟨hE, hEN, hEK, hET⟩ := par_no hok
    unfold ParP
    rw [hE, hEN, hEK, hET]
    unfold ewOk at hok
    clear hE hEN hEK hET
    generalize ew1 xs = X1 at *
    generalize ew2 xs = X2 at *
    generalize ew3 xs = X3 at *
    have H1 := hid (ewform_isName (xs := X1))
    have H2 := hid (ewform_codeOf (xs := X2))
    have H3 := hid (ewform_isText (xs := X3))
    have H4 := hid (ewform_isCodeK X2)
    generalize cdL X2 = K at *
    cases hA : nmOk X1
    · rw [hA] at H1
      clear hA hok H3 H4
      go_enter Tryz.func47, Tryz.ntmps47
      go_wp2_with (first
        | (go_at_call 77; (with_reducible refine HC.out.mono ?_); rintro e w1 ⟨a1, l1, c1, a2, l2, c2, a3, l3, c3, rfl, r1, r2, r3, hb1⟩; have hw1 := hal.trans (hb1.mono hal.size); have B1 := (Blk.new w 67 #[.slice none 0 0, .int .i64 0, .slice none 0 0]).below hb1 (by simp); have d0 := B1.cell (i := 0) rfl; have d1 := B1.cell (i := 1) rfl; have d2 := B1.cell (i := 2) rfl; have f0 := B1.frozen 0; have f1 := B1.frozen 1; have f2 := B1.frozen 2)
        | (go_at_call 78; (with_reducible refine (H2.out _ _ _ _ r2).mono ?_); rintro e w' ⟨rfl, rfl⟩)
        | (go_at_call 79; (with_reducible refine (H1.out _ _ _ _ r1).mono ?_); rintro e w' ⟨rfl, rfl⟩))
      obtain ⟨B3, hbw⟩ := par_set hw1 B1 (.slice none 0 0) (.int .i64 0) (.slice none 0 0)
      have e0 := B3.cell (i := 0) rfl
      have e1 := B3.cell (i := 1) rfl
      have e2 := B3.cell (i := 2) rfl
      generalize (((w1).setCell ⟨w.heap.size, 0, none⟩ (.slice none 0 0)).setCell ⟨w.heap.size, 1, none⟩ (.int .i64 0)).setCell ⟨w.heap.size, 2, none⟩ (.slice none 0 0) = W3 at *
      refine bodyPost_ret (v := .tuple #[.agg #[.slice none 0 0, .int .i64 0, .slice none 0 0], .int .i64 3]) (by simp [results, Tryz.f47, go_sem, e0, e1, e2]) rfl ?_
      exact ⟨none, 0, 0, none, 0, 0, rfl, Reads.nil _ _ _ _ (Nat.zero_le _), Reads.nil _ _ _ _ (Nat.zero_le _), hbw⟩
    · rw [hA] at H1
      cases hB : decide (K ≠ 0)
      · rw [hB] at H4
        clear hA hB hok H3
        go_enter Tryz.func47, Tryz.ntmps47
        go_wp2_with (first
          | (go_at_call 77; (with_reducible refine HC.out.mono ?_); rintro e w1 ⟨a1, l1, c1, a2, l2, c2, a3, l3, c3, rfl, r1, r2, r3, hb1⟩; have hw1 := hal.trans (hb1.mono hal.size); have B1 := (Blk.new w 67 #[.slice none 0 0, .int .i64 0, .slice none 0 0]).below hb1 (by simp); have d0 := B1.cell (i := 0) rfl; have d1 := B1.cell (i := 1) rfl; have d2 := B1.cell (i := 2) rfl; have f0 := B1.frozen 0; have f1 := B1.frozen 1; have f2 := B1.frozen 2)
          | (go_at_call 78; (with_reducible refine (H2.out _ _ _ _ r2).mono ?_); rintro e w' ⟨rfl, rfl⟩)
          | (go_at_call 79; (with_reducible refine (H1.out _ _ _ _ r1).mono ?_); rintro e w' ⟨rfl, rfl⟩)
          | (go_at_call 80; (with_reducible refine (H4.out _).mono ?_); rintro e w' ⟨rfl, rfl⟩))
        obtain ⟨B3, hbw⟩ := par_set hw1 B1 (.slice none 0 0) (.int .i64 0) (.slice none 0 0)
        have e0 := B3.cell (i := 0) rfl
        have e1 := B3.cell (i := 1) rfl
        have e2 := B3.cell (i := 2) rfl
        generalize (((w1).setCell ⟨w.heap.size, 0, none⟩ (.slice none 0 0)).setCell ⟨w.heap.size, 1, none⟩ (.int .i64 0)).setCell ⟨w.heap.size, 2, none⟩ (.slice none 0 0) = W3 at *
        refine bodyPost_ret (v := .tuple #[.agg #[.slice none 0 0, .int .i64 0, .slice none 0 0], .int .i64 3]) (by simp [results, Tryz.f47, go_sem, e0, e1, e2]) rfl ?_
        exact ⟨none, 0, 0, none, 0, 0, rfl, Reads.nil _ _ _ _ (Nat.zero_le _), Reads.nil _ _ _ _ (Nat.zero_le _), hbw⟩
      · rw [hB] at H4
        cases hC : txOk X3
        · rw [hC] at H3
          clear hA hB hC hok
          go_enter Tryz.func47, Tryz.ntmps47
          go_wp2_with (first
            | (go_at_call 77; (with_reducible refine HC.out.mono ?_); rintro e w1 ⟨a1, l1, c1, a2, l2, c2, a3, l3, c3, rfl, r1, r2, r3, hb1⟩; have hw1 := hal.trans (hb1.mono hal.size); have B1 := (Blk.new w 67 #[.slice none 0 0, .int .i64 0, .slice none 0 0]).below hb1 (by simp); have d0 := B1.cell (i := 0) rfl; have d1 := B1.cell (i := 1) rfl; have d2 := B1.cell (i := 2) rfl; have f0 := B1.frozen 0; have f1 := B1.frozen 1; have f2 := B1.frozen 2)
            | (go_at_call 78; (with_reducible refine (H2.out _ _ _ _ r2).mono ?_); rintro e w' ⟨rfl, rfl⟩)
            | (go_at_call 79; (with_reducible refine (H1.out _ _ _ _ r1).mono ?_); rintro e w' ⟨rfl, rfl⟩)
            | (go_at_call 80; (with_reducible refine (H4.out _).mono ?_); rintro e w' ⟨rfl, rfl⟩)
            | (go_at_call 81; (with_reducible refine (H3.out _ _ _ _ r3).mono ?_); rintro e w2 ⟨rfl, hb2⟩; have hw2 := hw1.trans (hb2.mono hw1.size); have B2 := B1.below hb2 B1.lt; clear d0 d1 d2 f0 f1 f2; have d0 := B2.cell (i := 0) rfl; have d1 := B2.cell (i := 1) rfl; have d2 := B2.cell (i := 2) rfl; have f0 := B2.frozen 0; have f1 := B2.frozen 1; have f2 := B2.frozen 2))
          obtain ⟨B3, hbw⟩ := par_set hw2 B2 (.slice none 0 0) (.int .i64 0) (.slice none 0 0)
          have e0 := B3.cell (i := 0) rfl
          have e1 := B3.cell (i := 1) rfl
          have e2 := B3.cell (i := 2) rfl
          generalize (((w2).setCell ⟨w.heap.size, 0, none⟩ (.slice none 0 0)).setCell ⟨w.heap.size, 1, none⟩ (.int .i64 0)).setCell ⟨w.heap.size, 2, none⟩ (.slice none 0 0) = W3 at *
          refine bodyPost_ret (v := .tuple #[.agg #[.slice none 0 0, .int .i64 0, .slice none 0 0], .int .i64 3]) (by simp [results, Tryz.f47, go_sem, e0, e1, e2]) rfl ?_
          exact ⟨none, 0, 0, none, 0, 0, rfl, Reads.nil _ _ _ _ (Nat.zero_le _), Reads.nil _ _ _ _ (Nat.zero_le _), hbw⟩
        · rw [hA, hB, hC] at hok
          cases hok
  · have hl := hok
    unfold ewOk at hl
    rw [Bool.and_eq_true, Bool.and_eq_true] at hl
    obtain ⟨⟨hA, hB⟩, hC⟩ := hl
    have H1 := hid (ewform_isName (xs := ew1 xs))
    have H2 := hid (ewform_codeOf (xs := ew2 xs))
    have H3 := hid (ewform_isText (xs := ew3 xs))
    have H4 := hid (ewform_isCodeK (ew2 xs))
    rw [hA] at H1
    rw [hB] at H4
    rw [hC] at H3
    clear hA hB hC
    by_cases h75 : 75 < xs.length
    · obtain ⟨hE, hEN, hEK, hET⟩ := par_long hok h75
      unfold ParP
      rw [hE, hEN, hEK, hET]
      rw [hsz] at h75
      have h75i : (75 : Int) < (len : Int) := by omega
      clear hE hEN hEK hET hok
      generalize ew1 xs = X1 at *
      generalize ew2 xs = X2 at *
      generalize ew3 xs = X3 at *
      generalize cdL X2 = K at *
      go_enter Tryz.func47, Tryz.ntmps47
      go_wp2_with (first
        | (go_at_call 77; (with_reducible refine HC.out.mono ?_); rintro e w1 ⟨a1, l1, c1, a2, l2, c2, a3, l3, c3, rfl, r1, r2, r3, hb1⟩; have hw1 := hal.trans (hb1.mono hal.size); have B1 := (Blk.new w 67 #[.slice none 0 0, .int .i64 0, .slice none 0 0]).below hb1 (by simp); have d0 := B1.cell (i := 0) rfl; have d1 := B1.cell (i := 1) rfl; have d2 := B1.cell (i := 2) rfl; have f0 := B1.frozen 0; have f1 := B1.frozen 1; have f2 := B1.frozen 2)
        | (go_at_call 78; (with_reducible refine (H2.out _ _ _ _ r2).mono ?_); rintro e w' ⟨rfl, rfl⟩)
        | (go_at_call 79; (with_reducible refine (H1.out _ _ _ _ r1).mono ?_); rintro e w' ⟨rfl, rfl⟩)
        | (go_at_call 80; (with_reducible refine (H4.out _).mono ?_); rintro e w' ⟨rfl, rfl⟩)
        | (go_at_call 81; (with_reducible refine (H3.out _ _ _ _ r3).mono ?_); rintro e w2 ⟨rfl, hb2⟩; have hw2 := hw1.trans (hb2.mono hw1.size); have B2 := B1.below hb2 B1.lt; clear d0 d1 d2 f0 f1 f2; have d0 := B2.cell (i := 0) rfl; have d1 := B2.cell (i := 1) rfl; have d2 := B2.cell (i := 2) rfl; have f0 := B2.frozen 0; have f1 := B2.frozen 1; have f2 := B2.frozen 2))
      obtain ⟨B3, hbw⟩ := par_set hw2 B2 (.slice none 0 0) (.int .i64 0) (.slice none 0 0)
      have e0 := B3.cell (i := 0) rfl
      have e1 := B3.cell (i := 1) rfl
      have e2 := B3.cell (i := 2) rfl
      generalize (((w2).setCell ⟨w.heap.size, 0, none⟩ (.slice none 0 0)).setCell ⟨w.heap.size, 1, none⟩ (.int .i64 0)).setCell ⟨w.heap.size, 2, none⟩ (.slice none 0 0) = W3 at *
      refine bodyPost_ret (v := .tuple #[.agg #[.slice none 0 0, .int .i64 0, .slice none 0 0], .int .i64 12]) (by simp [results, Tryz.f47, go_sem, e0, e1, e2]) rfl ?_
      exact ⟨none, 0, 0, none, 0, 0, rfl, Reads.nil _ _ _ _ (Nat.zero_le _), Reads.nil _ _ _ _ (Nat.zero_le _), hbw⟩
    · obtain ⟨hE, hEN, hEK, hET⟩ := par_yes hok h75
      unfold ParP
      rw [hE, hEN, hEK, hET]
      rw [hsz] at h75
      have h75i : ¬ (75 : Int) < (len : Int) := by omega
      clear hE hEN hEK hET hok
      have K1 := hid (fun (a : Option Addr) (l c : Nat) (W : World) (h : Reads .u8 W a l c (ew1 xs)) => bytes_Clone a l c _ W h (by have := h.size; have := HL.out; omega))
      have K3 := hid (fun (a : Option Addr) (l c : Nat) (W : World) (h : Reads .u8 W a l c (ew3 xs)) => bytes_Clone a l c _ W h (by have := h.size; have := HL.out; omega))
      generalize ew1 xs = X1 at *
      generalize ew2 xs = X2 at *
      generalize ew3 xs = X3 at *
      generalize cdL X2 = K at *
      go_enter Tryz.func47, Tryz.ntmps47
      go_wp2_with (first
        | (go_at_call 77; (with_reducible refine HC.out.mono ?_); rintro e w1 ⟨a1, l1, c1, a2, l2, c2, a3, l3, c3, rfl, r1, r2, r3, hb1⟩; have hw1 := hal.trans (hb1.mono hal.size); have B1 := (Blk.new w 67 #[.slice none 0 0, .int .i64 0, .slice none 0 0]).below hb1 (by simp); have d0 := B1.cell (i := 0) rfl; have d1 := B1.cell (i := 1) rfl; have d2 := B1.cell (i := 2) rfl; have f0 := B1.frozen 0; have f1 := B1.frozen 1; have f2 := B1.frozen 2)
        | (go_at_call 78; (with_reducible refine (H2.out _ _ _ _ r2).mono ?_); rintro e w' ⟨rfl, rfl⟩)
        | (go_at_call 79; (with_reducible refine (H1.out _ _ _ _ r1).mono ?_); rintro e w' ⟨rfl, rfl⟩)
        | (go_at_call 80; (with_reducible refine (H4.out _).mono ?_); rintro e w' ⟨rfl, rfl⟩)
        | (go_at_call 81; (with_reducible refine (H3.out _ _ _ _ r3).mono ?_); rintro e w2 ⟨rfl, hb2⟩; have hw2 := hw1.trans (hb2.mono hw1.size); have B2 := B1.below hb2 B1.lt; clear d0 d1 d2 f0 f1 f2; have d0 := B2.cell (i := 0) rfl; have d1 := B2.cell (i := 1) rfl; have d2 := B2.cell (i := 2) rfl; have f0 := B2.frozen 0; have f1 := B2.frozen 1; have f2 := B2.frozen 2; have r12 := r1.below hb2; have r32 := r3.below hb2)
        | (go_at_call 75; have hY := hb3; clear hY; (with_reducible refine (K3.out _ _ _ _ r33).mono ?_); rintro e w4 ⟨a5, c5, rfl, o5, hb4⟩; have hw4 := hw3.trans (hb4.mono hw3.size); have B4 := B3.below hb4 B3.lt; (obtain ⟨a7, c7, hv7, r5⟩ := o5.reads); cases hv7; have r44 := r4.below hb4; clear d0 d1 d2 f0 f1 f2; have d0 := B4.cell (i := 0) rfl; have d1 := B4.cell (i := 1) rfl; have d2 := B4.cell (i := 2) rfl; have f0 := B4.frozen 0; have f1 := B4.frozen 1; have f2 := B4.frozen 2)
        | (go_at_call 75; (with_reducible refine (K1.out _ _ _ _ r12).mono ?_); rintro e w3 ⟨a4, c4, rfl, o4, hb3⟩; have hw3 := hw2.trans (hb3.mono hw2.size); have B3 := B2.below hb3 B2.lt; (obtain ⟨a6, c6, hv6, r4⟩ := o4.reads); cases hv6; have r33 := r32.below hb3))
      obtain ⟨B5, hbw⟩ := par_set hw4 B4 (.slice a4 X1.length c4) (.int .i64 K) (.slice a5 X3.length c5)
      have BA : Blk (w4.setCell ⟨w.heap.size, 0, none⟩ (.slice a4 X1.length c4)) w.heap.size 67 #[.slice a4 X1.length c4, .int .i64 0, .slice none 0 0] := B4.set 0 _
      have BB : Blk ((w4.setCell ⟨w.heap.size, 0, none⟩ (.slice a4 X1.length c4)).setCell ⟨w.heap.size, 1, none⟩ (.int .i64 K)) w.heap.size 67 #[.slice a4 X1.length c4, .int .i64 K, .slice none 0 0] := BA.set 1 _
      have r4W := ((r44.beside B4 wd_no (i := 0) (u := .slice a4 X1.length c4)).beside BA wd_no (i := 1) (u := .int .i64 K)).beside BB wd_no (i := 2) (u := .slice a5 X3.length c5)
      have r5W := ((r5.beside B4 wd_no (i := 0) (u := .slice a4 X1.length c4)).beside BA wd_no (i := 1) (u := .int .i64 K)).beside BB wd_no (i := 2) (u := .slice a5 X3.length c5)
      have e0 := B5.cell (i := 0) rfl
      have e1 := B5.cell (i := 1) rfl
      have e2 := B5.cell (i := 2) rfl
      generalize ((w4.setCell ⟨w.heap.size, 0, none⟩ (.slice a4 X1.length c4)).setCell ⟨w.heap.size, 1, none⟩ (.int .i64 K)).setCell ⟨w.heap.size, 2, none⟩ (.slice a5 X3.length c5) = W3 at *
      refine bodyPost_ret (v := .tuple #[.agg #[.slice a4 X1.length c4, .int .i64 K, .slice a5 X3.length c5], .int .i64 0]) (by simp [results, Tryz.f47, go_sem, e0, e1, e2]) rfl ?_
      exact ⟨_, _, _, _, _, _, rfl, r4W, r5W, hbw⟩
theorem ewform_Parse (a : Option Addr) (len cap : Nat) (xs : List Int) (w : World) (hr : Reads .u8 w a len cap xs) (hN : len < 100000) :
    Calls Tryz.prog 47 #[.slice a len cap] w fun e w' => ∃ a1 l1 c1 a2 l2 c2, e = .returned (.tuple #[.agg #[.slice a1 l1 c1, .int .i64 (ewK xs), .slice a2 l2 c2], .int .i64 (ewE xs)]) ∧ Reads .u8 w' a1 l1 c1 (ewN xs) ∧ Reads .u8 w' a2 l2 c2 (ewT xs) ∧ Below w.heap.size w w' :=
  ewform_ParP a len cap xs w hr (by omega)
end Go.Proofs.YtefhddbbiheadaaGreat
