/-
  Texts of ours laid together: R03, Alive24.
-/
import Derived.Test.YtfnolkkmldiimaaDoorRows
import Derived.Test.YtfnolkkmldiimaaDoorZ28

/-! R03 -/
namespace Go.Proofs.YtfnolkkmldiimaaDoor
open Go.RowKit
set_option linter.unusedVariables false

theorem STR : SliceT Tryd.prog 22 21 .i32 4 := ⟨Tryd.underlying22, by kernel_rfl, by decide⟩

theorem ref03_Surrogate (c : Int) (w : World) :
    Calls Tryd.prog 24 #[.int .i32 c] w fun e w' => e = .returned (.bool (surB c)) ∧ w = w' := by
  go_enter Tryd.func24, Tryd.ntmps24
  go_wp2
  all_goals (go_ret; exact ⟨ret_bool (by unfold surB; simp; omega), rfl⟩)
theorem ref03_Is (c : Int) (w : World) :
    Calls Tryd.prog 15 #[.int .i32 c] w fun e w' => e = .returned (.bool (scB c)) ∧ w = w' := by
  go_enter Tryd.func15, Tryd.ntmps15
  go_wp2_with (go_at_call 24; (with_reducible refine (ref03_Surrogate _ _).mono ?_); rintro e w' ⟨rfl, rfl⟩)
  all_goals (go_ret; exact ⟨ret_bool (by first | exact sc_of ‹_› ‹_› | (unfold scB; simp; omega)), rfl⟩)
set_option maxHeartbeats 1000000 in
theorem ref03_First (a : Option Addr) (len cap : Nat) (xs : List Int) (w : World) (hr : Reads .i32 w a len cap xs) :
    Calls Tryd.prog 7 #[.slice a len cap] w fun e w' => e = .returned (.int .i64 (idxI (fun c => !scB c) xs)) ∧ w = w' := by
  have hl := hr.len_le
  have HR := hid hr
  clear hr
  go_enter Tryd.func7, Tryd.ntmps7
  go_wp2
  go_loop [3] (fun i => ∃ k : Nat, k ≤ len ∧ i = .int .i64 k ∧ Hid ((xs.take k).any (fun c => !scB c) = false)) (fun i => len - (intOf i).toNat)
  case atStart => exact ⟨0, Nat.zero_le _, rfl, rfl⟩
  case round =>
    obtain ⟨k, hk, rfl, hn⟩ := hrel
    by_cases hlt : k < len
    · obtain ⟨b, off, x, rfl, _, hc, h0, h1, hx⟩ := HR.out.getR hlt
      cases hs : scB x
      · have H := hid hs
        go_wp2_with (go_at_call 15; (with_reducible refine (ref03_Is _ _).mono ?_); rintro e w' ⟨rfl, rfl⟩)
        go_ret
        exact ⟨ret_int (idx_hit hx.out.1 hn.out (by simp [H.out])).symm, rfl⟩
      · have H := hid hs
        go_wp2_with (go_at_call 15; (with_reducible refine (ref03_Is _ _).mono ?_); rintro e w' ⟨rfl, rfl⟩)
        go_round
        case rel => exact ⟨k + 1, by omega, by go_num, none_yes hx.out.2 hn.out (by simp [H.out])⟩
        case measure => simp [intOf]; omega
    · go_wp2
      go_ret
      exact ⟨ret_int (by rw [← HR.out.all (show len ≤ k by omega)]; exact (idx_none hn.out).symm), rfl⟩
set_option maxHeartbeats 1000000 in
theorem ref03_Like (a : Option Addr) (len cap : Nat) (xs : List Int) (a2 : Option Addr) (len2 cap2 : Nat) (ys : List Int) (w : World) (hr : Reads .i32 w a len cap xs) (hr2 : Reads .i32 w a2 len2 cap2 ys) :
    Calls Tryd.prog 8 #[.slice a len cap, .slice a2 len2 cap2] w fun e w' => e = .returned (.bool (decide (xs = ys))) ∧ ∃ n, w' = w.drewN n := by
  have hl := hr.len_le
  have hl2 := hr2.len_le
  have HR := hid hr
  have HR2 := hid hr2
  clear hr hr2
  by_cases he : len = len2
  · subst he
    go_enter Tryd.func8, Tryd.ntmps8
    go_wp2
    go_loopw [5] (fun i wr => ∃ k : Nat, k ≤ len ∧ i = .int .i64 k ∧ Hid (xs.take k = ys.take k) ∧ ∃ n, wr = w.drewN n) (fun i _ => len - (intOf i).toNat)
    case atStart => exact ⟨0, Nat.zero_le _, rfl, rfl, 0, rfl⟩
    case round =>
      obtain ⟨k, hk, rfl, hn, n, rfl⟩ := hrel
      by_cases hlt : k < len
      · obtain ⟨b, off, x, rfl, _, hc, h0, h1, hx⟩ := HR.out.getR hlt
        obtain ⟨b2, off2, y, rfl, _, hc2, h02, h12, hy⟩ := HR2.out.getR hlt
        go_wp2
        go_quiet (fail)
        go_wp2
        · go_ret
          exact ⟨ret_bool (eq_no hx.out.1 hy.out.1 ‹_›).symm, by simp only [World.drewN_drewN]; exact ⟨_, rfl⟩⟩
        · go_roundw
          case rel => exact ⟨k + 1, by omega, by go_num, eq_yes hx.out.2 hy.out.2 hn.out ‹_›, _, rfl⟩
          case measure => simp [intOf]; omega
      · go_wp2
        go_ret
        exact ⟨ret_bool (by rw [← HR.out.all (show len ≤ k by omega), ← HR2.out.all (show len ≤ k by omega)]; exact (decide_eq_true hn.out).symm), _, rfl⟩
  · have hne : ((len : Int) != len2) = true := by simp; omega
    go_enter Tryd.func8, Tryd.ntmps8
    go_wp2
    go_ret
    exact ⟨ret_bool (eq_len (by rw [HR.out.size, HR2.out.size]; exact he)).symm, 0, rfl⟩

end Go.Proofs.YtfnolkkmldiimaaDoor

/-! Alive24 -/
namespace Go.Proofs.YtfnolkkmldiimaaDoor
open Go.RowKit
set_option linter.unusedVariables false

theorem v24_a : mbL [126, 21488, 38] = [126, 38, 85, 44, 65, 45, 38, 45] := by decide +kernel
theorem v24_e : mbE [126, 21488, 38] = 0 := by decide +kernel
theorem v24_b : mbRd [126, 38, 85, 44, 65, 45, 38, 45] = [126, 21488, 38] := by decide +kernel
theorem v24_c : mbRuns [9, 10] false = 1 := by decide +kernel
theorem str24_a : strB [126, 38, 85, 44, 65, 45, 38, 45] = { data := #[126, 38, 85, 44, 65, 45, 38, 45] } := by rfl
theorem al24_l (w : World) : Calls Tryd.prog 6 #[.slice (some ⟨w.heap.size, 0, none⟩) 3 3] (w.alloc (.cells #[.int .i32 126, .int .i32 21488, .int .i32 38] 21)) fun e w' => ∃ a c, e = .returned (.tuple #[.slice a 8 c, .int .i64 0]) ∧ Reads .u8 w' a 8 c [126, 38, 85, 44, 65, 45, 38, 45] ∧ Below w.heap.size w w' := by
  have h2 := mseven_Lay _ 3 3 [126, 21488, 38] _ (Reads.lit .i32 21 w [126, 21488, 38] (by decide) (by decide)) (by decide)
  rw [v24_a, v24_e] at h2
  refine h2.mono ?_
  rintro e w' ⟨a, l, c, rfl, hr, hb⟩
  obtain rfl : 8 = l := hr.size
  exact ⟨a, c, rfl, hr, ((Below.refl _ _).alloc (Nat.le_refl _) _).trans (hb.mono (by simp))⟩
theorem al24_r {a : Option Addr} {c : Nat} {w : World} (hr : Reads .u8 w a 8 c [126, 38, 85, 44, 65, 45, 38, 45]) : Calls Tryd.prog 9 #[.slice a 8 c] w fun e w' => ∃ a c, e = .returned (.slice a 3 c) ∧ Reads .i32 w' a 3 c [126, 21488, 38] ∧ Below w.heap.size w w' := by
  have h2 := mseven_Read _ 8 c _ _ hr (by decide)
  rw [v24_b] at h2
  refine h2.mono ?_
  rintro e w' ⟨a, l, c, rfl, hr, hb⟩
  obtain rfl : 3 = l := hr.size
  exact ⟨a, c, rfl, hr, hb⟩
theorem al24_n (w : World) : Calls Tryd.prog 10 #[.slice (some ⟨w.heap.size, 0, none⟩) 2 2] (w.alloc (.cells #[.int .i32 9, .int .i32 10] 21)) fun e w' => e = .returned (.int .i64 1) ∧ Below w.heap.size w w' := by
  have h2 := mseven_Runs _ 2 2 [9, 10] _ (Reads.lit .i32 21 w [9, 10] (by decide) (by decide)) (by decide)
  rw [v24_c] at h2
  refine h2.mono ?_
  rintro e w' ⟨rfl, hb⟩
  exact ⟨rfl, ((Below.refl _ _).alloc (Nat.le_refl _) _).trans (hb.mono (by simp))⟩
theorem al24_k {a : Option Addr} {c : Nat} {w : World} (hr : Reads .i32 w a 3 c [126, 21488, 38]) : Calls Tryd.prog 8 #[.slice a 3 c, .slice (some ⟨w.heap.size, 0, none⟩) 3 3] (w.alloc (.cells #[.int .i32 126, .int .i32 21488, .int .i32 38] 21)) fun e w' => e = .returned (.bool true) ∧ Below w.heap.size w w' := by
  have hb : Below w.heap.size w (w.alloc (.cells #[.int .i32 126, .int .i32 21488, .int .i32 38] 21)) := (Below.refl _ _).alloc (Nat.le_refl _) _
  have h2 := ref03_Like _ _ _ _ _ _ _ _ _ (hr.below hb) (Reads.lit .i32 21 w [126, 21488, 38] (by decide) (by decide))
  rw [decide_eq_true rfl] at h2
  refine h2.mono ?_
  rintro e w' ⟨rfl, n, rfl⟩
  exact ⟨rfl, Below.drewN hb n⟩
set_option maxRecDepth 100000 in
set_option maxHeartbeats 1000000 in
theorem alive24_any (w : World) : Calls Tryd.prog 5 #[] w fun e w' => e = .returned (.bool true) ∧ Below w.heap.size w w' := by
  go_enter Tryd.func5, Tryd.ntmps5
  go_wp2_with (first
    | (go_at_call 6; (with_reducible refine (al24_l w).mono ?_); rintro e w1 ⟨a1, c1, rfl, r1, h1⟩; have s1 := r1.string (P := Tryd.prog) Tryd.underlying24 Tryd.underlying5 Tryd.underlying9; rw [str24_a] at s1)
    | (go_at_call 9; (with_reducible refine (al24_r r1).mono ?_); rintro e w2 ⟨a2, c2, rfl, r2, h2⟩; have t2 := below_then h1 h2)
    | (go_at_call 8; (with_reducible refine (al24_k r2).mono ?_); rintro e w3 ⟨rfl, h3⟩; have t3 := below_then t2 h3)
    | (go_at_call 10; (with_reducible refine (al24_n w3).mono ?_); rintro e w4 ⟨rfl, h4⟩; have t4 := below_then t3 h4))
  go_ret
  exact ⟨rfl, t4⟩
end Go.Proofs.YtfnolkkmldiimaaDoor
