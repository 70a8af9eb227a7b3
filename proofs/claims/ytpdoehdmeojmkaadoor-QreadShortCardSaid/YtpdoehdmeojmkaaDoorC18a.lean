/-
  Contracts of package qpage's functions: breaks, units (those that the translation has).
-/
import Derived.Test.YtpdoehdmeojmkaaDoorRows
import Derived.Test.YtpdoehdmeojmkaaDoorD18d
import Derived.Test.YtpdoehdmeojmkaaDoorR18
import Derived.Test.YtpdoehdmeojmkaaDoorC01k
import Derived.Test.YtpdoehdmeojmkaaDoorC02
import Derived.Test.YtpdoehdmeojmkaaDoorStrB
import Derived.Test.YtpdoehdmeojmkaaDoorApt
import Derived.Test.YtpdoehdmeojmkaaDoorKeep
namespace Go.Proofs.YtpdoehdmeojmkaaDoor
open Go.RowKit
set_option linter.unusedVariables false

theorem bytes_HasPrefix (a : Option Addr) (len cap : Nat) (xs : List Int) (a2 : Option Addr) (m cap2 : Nat) (ys : List Int) (w : World) (hr : Reads .u8 w a len cap xs) (hr2 : Reads .u8 w a2 m cap2 ys) :
    Calls Tryd.prog 50 #[.slice a len cap, .slice a2 m cap2] w fun e w' => e = .returned (.bool (decide (xs.take m = ys))) ∧ w = w' := by
  have hl := hr.len_le
  have hrm := hr.room
  have hsz := hr.size
  have hm := hr2.size
  by_cases h : m ≤ len
  · have hq := bytes_Equal _ _ _ _ _ _ _ _ w (hr.pre h) hr2
    generalize decide (xs.take m = ys) = F at hq ⊢
    have HQ := hid hq
    clear hq hr hr2 hsz hm
    go_enter Tryd.func50, Tryd.ntmps50
    go_wp2_with (go_at_call 58; (with_reducible refine HQ.out.mono ?_); rintro e w' ⟨rfl, rfl⟩)
    go_ret
    exact ⟨rfl, rfl⟩
  · have hF : decide (xs.take m = ys) = false := decide_eq_false (by intro h; have := congrArg List.length h; rw [List.length_take] at this; omega)
    rw [hF]
    have h' : len < m := by omega
    clear hr hr2 hF hsz hm h
    go_enter Tryd.func50, Tryd.ntmps50
    go_wp2_with fail
    go_ret
    exact ⟨rfl, rfl⟩
theorem take2_brk (xs : List Int) : decide (xs.take 2 = [13, 10]) = decide (brkN xs = 2) := by
  rw [Bool.eq_iff_iff, decide_eq_true_eq, decide_eq_true_eq]
  match xs with
  | [] => exact ⟨fun h => (by cases h), fun h => (by cases h)⟩
  | [x] =>
    rw [brkN_cons, if_neg (fun h => by cases h.2)]
    constructor
    · intro h; simp at h
    · intro h; split at h <;> cases h
  | x :: y :: r =>
    rw [brkN_cons]
    constructor
    · intro h
      simp only [List.take_succ_cons, List.take_zero, List.cons.injEq, and_true] at h
      rw [if_pos ⟨h.1, by rw [h.2]; rfl⟩]
    · intro h
      by_cases hh : x = 13 ∧ (y :: r).head? = some 10
      · obtain ⟨rfl, h2⟩ := hh
        simp only [List.head?_cons, Option.some.injEq] at h2
        rw [h2]; rfl
      · rw [if_neg hh] at h
        split at h <;> cases h
theorem prefq (a : Option Addr) (len cap : Nat) (xs : List Int) (w : World) (hr : Reads .u8 w a len cap xs) {F : Bool} (hF : decide (brkN xs = 2) = F) :
    Calls Tryd.prog 50 #[.slice a len cap, .slice (some ⟨w.heap.size, 0, none⟩) 2 2] (w.alloc (.cells #[.int .u8 13, .int .u8 10] 5 (2, 3))) fun e w' => e = .returned (.bool F) ∧ w.alloc (.cells #[.int .u8 13, .int .u8 10] 5 (2, 3)) = w' := by
  have h := bytes_HasPrefix a len cap xs _ 2 2 [13, 10] _ (hr.below ((Below.refl _ w).alloc (Nat.le_refl _) (.cells #[.int .u8 13, .int .u8 10] 5 (2, 3)))) (Reads_litB .u8 5 (2, 3) w _ rfl [13, 10] (by decide) (by decide))
  rwa [take2_brk, hF] at h
set_option maxHeartbeats 1000000 in
theorem qpage_breakLen (a : Option Addr) (len cap : Nat) (xs : List Int) (w : World) (hr : Reads .u8 w a len cap xs) :
    Calls Tryd.prog 62 #[.slice a len cap] w fun e w' => e = .returned (.int .i64 (brkN xs)) ∧ Below w.heap.size w w' := by
  have kc := convB (P := Tryd.prog) (t := 22) (e := 5) Tryd.underlying22 Tryd.underlying5 w w.heap.size rfl
  have hb := (Below.refl w.heap.size w).alloc (Nat.le_refl _) (.cells #[.int .u8 13, .int .u8 10] 5 (2, 3))
  have hll := hr.len_le
  by_cases h2 : brkN xs = 2
  · have HP := hid (prefq a len cap xs w hr (decide_eq_true h2))
    rw [h2]
    clear hr h2
    go_enter Tryd.func62, Tryd.ntmps62
    go_wp2_with (go_at_call 50; (with_reducible refine HP.out.mono ?_); rintro e w' ⟨rfl, rfl⟩)
    go_ret
    exact ⟨rfl, hb⟩
  · have HP := hid (prefq a len cap xs w hr (decide_eq_false h2))
    by_cases h0 : 0 < len
    · obtain ⟨b, off, x, rfl, _, hc, hx0, hx1, hx⟩ := (hr.below hb).get8 h0
      rw [Nat.add_zero] at hc
      have hxs := drop_one hx.out.1
      rw [List.drop_zero] at hxs
      rw [hxs, brkN_cons] at h2 ⊢
      have hnn : ¬ (x = 13 ∧ (xs.drop 1).head? = some 10) := by
        intro hh; rw [if_pos hh] at h2; exact h2 rfl
      rw [if_neg hnn]
      clear h2 hxs hnn hr
      by_cases h13 : x = 13
      · subst h13
        go_enter Tryd.func62, Tryd.ntmps62
        go_wp2_with (go_at_call 50; (with_reducible refine HP.out.mono ?_); rintro e w' ⟨rfl, rfl⟩)
        go_ret
        exact ⟨rfl, hb⟩
      · have e13 : (x == 13) = false := by simpa using h13
        by_cases h10 : x = 10
        · subst h10
          go_enter Tryd.func62, Tryd.ntmps62
          go_wp2_with (go_at_call 50; (with_reducible refine HP.out.mono ?_); rintro e w' ⟨rfl, rfl⟩)
          go_ret
          exact ⟨rfl, hb⟩
        · have e10 : (x == 10) = false := by simpa using h10
          rw [if_neg (show ¬ (x = 13 ∨ x = 10) from fun h => h.elim h13 h10)]
          clear h13 h10
          go_enter Tryd.func62, Tryd.ntmps62
          go_wp2_with (go_at_call 50; (with_reducible refine HP.out.mono ?_); rintro e w' ⟨rfl, rfl⟩)
          go_ret
          exact ⟨rfl, hb⟩
    · obtain rfl : len = 0 := by omega
      obtain rfl : xs = [] := List.eq_nil_of_length_eq_zero hr.size
      clear hr h2
      go_enter Tryd.func62, Tryd.ntmps62
      go_wp2_with (go_at_call 50; (with_reducible refine HP.out.mono ?_); rintro e w' ⟨rfl, rfl⟩)
      go_ret
      exact ⟨rfl, hb⟩
theorem plainU_cases (c : Int) (ends : Bool) (h0 : 0 ≤ c) (h1 : c ≤ 255) : plainU c ends = if isB 2 c = true then !ends else (isB 4 c && (c != 61)) := by
  have h := kind4 h0 h1
  have e : decide (c ≠ 61) = (c != 61) := by rw [Bool.eq_iff_iff]; simp
  unfold plainU
  rw [e]
  cases h4 : isB 4 c
  · cases isB 2 c <;> simp
  · rw [(h h4).1]; simp
theorem qpage_stays (c : Int) (ends : Bool) (w : World) (h0 : 0 ≤ c) (h1 : c ≤ 255) :
    Calls Tryd.prog 79 #[.int .u8 c, .bool ends] w fun e w' => e = .returned (.bool (plainU c ends)) ∧ w = w' := by
  rw [plainU_cases c ends h0 h1]
  cases h2 : isB 2 c
  · cases h4 : isB 4 c
    all_goals
      go_enter Tryd.func79, Tryd.ntmps79
      go_wp2_with (go_at_call 67; (with_reducible refine (is_c _ _ _ h0 h1).mono ?_); rintro e w' ⟨rfl, rfl⟩; first | rw [h2] | rw [h4])
      go_ret
      exact ⟨rfl, rfl⟩
  · go_enter Tryd.func79, Tryd.ntmps79
    go_wp2_with (go_at_call 67; (with_reducible refine (is_c _ _ _ h0 h1).mono ?_); rintro e w' ⟨rfl, rfl⟩; rw [h2])
    go_ret
    exact ⟨rfl, rfl⟩
set_option maxHeartbeats 1000000 in
theorem put_cO (s c : Int) (w : World) (h0 : 0 ≤ c) (h1 : c ≤ 255) (hs : (Lit.int .u8 s).wf = true) :
    Calls Tryd.prog 80 #[.slice none 0 0, .int .u8 s, .int .u8 c] w fun e w' => ∃ v, e = .returned v ∧ Own .u8 5 w.heap.size w' v (escI [] s c) ∧ Below w.heap.size w w' := by
  have HR := hid (Reads.nil .u8 w none 0 (Nat.zero_le _))
  go_enter Tryd.func80, Tryd.ntmps80
  go_wp2_with (first
    | (at_make; (refine wpList_make0 (n := 0 + 3) CT8 rfl _ _ rfl rfl (by go_num) (Below.refl _ _) (by omega) ?_); intro v1 w1 ho1 hb1)
    | (go_at_call 88; go_must (refine (lay1_c w _ _ _ c ho3 hb3 (by simp) h0 h1).mono ?_); rintro e w4 ⟨v4, rfl, ho4, hb4⟩)
    | (at_builtin; (refine wpList_push CT8 rfl _ _ rfl rfl ⟨_, rfl⟩ ho2 hb2 (by simp) hs ?_); intro v3 w3 ho3 hb3)
    | (at_builtin; go_must (refine wpList_more CT8 rfl _ _ rfl rfl rfl ho1 hb1 (HR.out.below hb1) (by simp) ?_); intro v2 w2 ho2 hb2))
  go_ret
  exact ⟨_, rfl, by simpa [escI] using ho4, hb4⟩
theorem qpage_UnitF (c : Int) (ends : Bool) (w : World) (h0 : 0 ≤ c) (h1 : c ≤ 255) :
    Calls Tryd.prog 63 #[.int .u8 c, .bool ends] w fun e w' => ∃ a' cap', e = .returned (.slice a' (unitL c ends).length cap') ∧ Reads .u8 w' a' (unitL c ends).length cap' (unitL c ends) ∧ (∀ b off, a' = some ⟨b, off, none⟩ → w.heap.size ≤ b) ∧ Below w.heap.size w w' := by
  have hw := hid (show ∀ x ∈ [c], (Lit.int .u8 x).wf = true by simpa using mk_u8 h0 h1)
  cases hp : plainU c ends
  · have e : Hid (unitL c ends = escI [] 61 c) := by unfold Hid unitL; rw [hp]; rfl
    go_enter Tryd.func63, Tryd.ntmps63
    go_wp2_with (first
      | (go_at_call 79; (with_reducible refine (qpage_stays _ _ _ h0 h1).mono ?_); rintro e w' ⟨rfl, rfl⟩; rw [hp])
      | (go_at_call 80; (with_reducible refine (put_cO _ _ _ h0 h1 (by decide)).mono ?_); rintro e w1 ⟨v1, rfl, ho1, hb1⟩; obtain ⟨a1, c1, rfl, hr1⟩ := ho1.reads))
    go_ret
    exact ⟨_, _, by rw [e.out]; rfl, by rw [e.out]; exact hr1, ho1.fresh, hb1⟩
  · have e : Hid (unitL c ends = [c]) := by unfold Hid unitL; rw [hp]; rfl
    go_enter Tryd.func63, Tryd.ntmps63
    go_wp2_with (go_at_call 79; (with_reducible refine (qpage_stays _ _ _ h0 h1).mono ?_); rintro e w' ⟨rfl, rfl⟩; rw [hp])
    go_ret
    exact ⟨_, 1, by rw [e.out]; rfl, by rw [e.out]; exact Reads.lit .u8 5 w [c] (show (1 : Nat) ≤ maxLen by decide) hw.out, (fun b off hb => by cases hb; exact Nat.le_refl _), (Below.refl _ _).alloc (Nat.le_refl _) _⟩
theorem qpage_Unit (c : Int) (ends : Bool) (w : World) (h0 : 0 ≤ c) (h1 : c ≤ 255) :
    Calls Tryd.prog 63 #[.int .u8 c, .bool ends] w fun e w' => ∃ a' len' cap', e = .returned (.slice a' len' cap') ∧ Reads .u8 w' a' len' cap' (unitL c ends) ∧ Below w.heap.size w w' :=
  (qpage_UnitF c ends w h0 h1).mono fun _ _ ⟨a, c, h1, h2, _, h3⟩ => ⟨a, _, c, h1, h2, h3⟩
end Go.Proofs.YtpdoehdmeojmkaaDoor
