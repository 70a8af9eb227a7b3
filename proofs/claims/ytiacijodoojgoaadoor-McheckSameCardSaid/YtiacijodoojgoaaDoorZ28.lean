/-
  Texts of ours laid together: R03, Alive25, R06.
-/
import Derived.Test.YtiacijodoojgoaaDoorRows
import Derived.Test.YtiacijodoojgoaaDoorZ27

/-! R03 -/
namespace Go.Proofs.YtiacijodoojgoaaDoor
open Go.RowKit
set_option linter.unusedVariables false

theorem STR : SliceT Tryd.prog 30 21 .i32 4 := ⟨Tryd.underlying30, by kernel_rfl, by decide⟩

theorem ref03_Surrogate (c : Int) (w : World) :
    Calls Tryd.prog 51 #[.int .i32 c] w fun e w' => e = .returned (.bool (surB c)) ∧ w = w' := by
  go_enter Tryd.func51, Tryd.ntmps51
  go_wp2
  all_goals (go_ret; exact ⟨ret_bool (by unfold surB; simp; omega), rfl⟩)
theorem ref03_Is (c : Int) (w : World) :
    Calls Tryd.prog 34 #[.int .i32 c] w fun e w' => e = .returned (.bool (scB c)) ∧ w = w' := by
  go_enter Tryd.func34, Tryd.ntmps34
  go_wp2_with (go_at_call 51; (with_reducible refine (ref03_Surrogate _ _).mono ?_); rintro e w' ⟨rfl, rfl⟩)
  all_goals (go_ret; exact ⟨ret_bool (by first | exact sc_of ‹_› ‹_› | (unfold scB; simp; omega)), rfl⟩)
set_option maxHeartbeats 1000000 in
theorem ref03_First (a : Option Addr) (len cap : Nat) (xs : List Int) (w : World) (hr : Reads .i32 w a len cap xs) :
    Calls Tryd.prog 24 #[.slice a len cap] w fun e w' => e = .returned (.int .i64 (idxI (fun c => !scB c) xs)) ∧ w = w' := by
  have hl := hr.len_le
  have HR := hid hr
  clear hr
  go_enter Tryd.func24, Tryd.ntmps24
  go_wp2
  go_loop [3] (fun i => ∃ k : Nat, k ≤ len ∧ i = .int .i64 k ∧ Hid ((xs.take k).any (fun c => !scB c) = false)) (fun i => len - (intOf i).toNat)
  case atStart => exact ⟨0, Nat.zero_le _, rfl, rfl⟩
  case round =>
    obtain ⟨k, hk, rfl, hn⟩ := hrel
    by_cases hlt : k < len
    · obtain ⟨b, off, x, rfl, _, hc, h0, h1, hx⟩ := HR.out.getR hlt
      cases hs : scB x
      · have H := hid hs
        go_wp2_with (go_at_call 34; (with_reducible refine (ref03_Is _ _).mono ?_); rintro e w' ⟨rfl, rfl⟩)
        go_ret
        exact ⟨ret_int (idx_hit hx.out.1 hn.out (by simp [H.out])).symm, rfl⟩
      · have H := hid hs
        go_wp2_with (go_at_call 34; (with_reducible refine (ref03_Is _ _).mono ?_); rintro e w' ⟨rfl, rfl⟩)
        go_round
        case rel => exact ⟨k + 1, by omega, by go_num, none_yes hx.out.2 hn.out (by simp [H.out])⟩
        case measure => simp [intOf]; omega
    · go_wp2
      go_ret
      exact ⟨ret_int (by rw [← HR.out.all (show len ≤ k by omega)]; exact (idx_none hn.out).symm), rfl⟩
set_option maxHeartbeats 1000000 in
theorem ref03_Like (a : Option Addr) (len cap : Nat) (xs : List Int) (a2 : Option Addr) (len2 cap2 : Nat) (ys : List Int) (w : World) (hr : Reads .i32 w a len cap xs) (hr2 : Reads .i32 w a2 len2 cap2 ys) :
    Calls Tryd.prog 13 #[.slice a len cap, .slice a2 len2 cap2] w fun e w' => e = .returned (.bool (decide (xs = ys))) ∧ ∃ n, w' = w.drewN n := by
  have hl := hr.len_le
  have hl2 := hr2.len_le
  have HR := hid hr
  have HR2 := hid hr2
  clear hr hr2
  by_cases he : len = len2
  · subst he
    go_enter Tryd.func13, Tryd.ntmps13
    go_wp2
    go_loopw [5] (fun i wr => ∃ k : Nat, k ≤ len ∧ i = .int .i64 k ∧ Hid (xs.take k = ys.take k) ∧ ∃ n, wr = w.drewN n) (fun i _ => len - (intOf i).toNat)
    case atStart => exact ⟨0, Nat.zero_le _, rfl, rfl, 0, rfl⟩
    case round =>
      obtain ⟨k, hk, rfl, hn, n, rfl⟩ := hrel
      by_cases hlt : k < len
      · obtain ⟨b, off, x, rfl, _, hc, h0, h1, hx⟩ := HR.out.getR hlt
        obtain ⟨b2, off2, y, rfl, _, hc2, h02, h12, hy⟩ := HR2.out.getR hlt
        go_wp2
        go_quiet (fail)
        go_wp2
        · go_ret
          exact ⟨ret_bool (eq_no hx.out.1 hy.out.1 ‹_›).symm, by simp only [World.drewN_drewN]; exact ⟨_, rfl⟩⟩
        · go_roundw
          case rel => exact ⟨k + 1, by omega, by go_num, eq_yes hx.out.2 hy.out.2 hn.out ‹_›, _, rfl⟩
          case measure => simp [intOf]; omega
      · go_wp2
        go_ret
        exact ⟨ret_bool (by rw [← HR.out.all (show len ≤ k by omega), ← HR2.out.all (show len ≤ k by omega)]; exact (decide_eq_true hn.out).symm), _, rfl⟩
  · have hne : ((len : Int) != len2) = true := by simp; omega
    go_enter Tryd.func13, Tryd.ntmps13
    go_wp2
    go_ret
    exact ⟨ret_bool (eq_len (by rw [HR.out.size, HR2.out.size]; exact he)).symm, 0, rfl⟩

end Go.Proofs.YtiacijodoojgoaaDoor

/-! Alive25 -/
namespace Go.Proofs.YtiacijodoojgoaaDoor
open Go.RowKit
set_option linter.unusedVariables false

theorem v25_a : (mcW [38, 65, 71, 69, 45] false).1 = 5 ∧ (mcW [38, 65, 71, 69, 45] false).2.1 = 0 := by decide +kernel
theorem v25_b : mcE [126, 38, 85, 44, 65, 45, 38, 45] = 0 ∧ mcR [126, 38, 85, 44, 65, 45, 38, 45] = [126, 21488, 38] := by decide +kernel
theorem v25_c : (mcW [97, 38, 45, 128] false).2.2 = 2 := by decide +kernel
theorem al25_w (w : World) (B : Nat) (hB : w.heap.size = B) : Calls Tryd.prog 7 #[.slice (some ⟨B, 0, none⟩) 5 5] (w.alloc (.cells #[.int .u8 38, .int .u8 65, .int .u8 71, .int .u8 69, .int .u8 45] 5 (5, 6))) fun e w' => e = .returned (.tuple #[.int .i64 5, .int .i64 0]) ∧ Below w.heap.size w w' := by
  have h2 := mcheck_Why _ 5 5 [38, 65, 71, 69, 45] _ (Reads_litB .u8 5 (5, 6) w B hB [38, 65, 71, 69, 45] (by decide) (by decide)) (by decide)
  rw [v25_a.1, v25_a.2] at h2
  refine h2.mono ?_
  rintro e w' ⟨rfl, hb⟩
  exact ⟨rfl, ((Below.refl _ _).alloc (Nat.le_refl _) _).trans (hb.mono (by simp))⟩
theorem al25_r (w : World) (B : Nat) (hB : w.heap.size = B) : Calls Tryd.prog 11 #[.slice (some ⟨B, 0, none⟩) 8 8] (w.alloc (.cells #[.int .u8 126, .int .u8 38, .int .u8 85, .int .u8 44, .int .u8 65, .int .u8 45, .int .u8 38, .int .u8 45] 5 (8, 9))) fun e w' => ∃ a c, e = .returned (.tuple #[.slice a 3 c, .int .i64 0]) ∧ Reads .i32 w' a 3 c [126, 21488, 38] ∧ Below w.heap.size w w' := by
  have h2 := mcheck_Read _ 8 8 [126, 38, 85, 44, 65, 45, 38, 45] _ (Reads_litB .u8 5 (8, 9) w B hB [126, 38, 85, 44, 65, 45, 38, 45] (by decide) (by decide)) (by decide)
  rw [v25_b.1, v25_b.2] at h2
  refine h2.mono ?_
  rintro e w' ⟨a, l, c, rfl, hr, hb⟩
  obtain rfl : 3 = l := hr.size
  exact ⟨a, c, rfl, hr, ((Below.refl _ _).alloc (Nat.le_refl _) _).trans (hb.mono (by simp))⟩
theorem al25_p (w : World) (B : Nat) (hB : w.heap.size = B) : Calls Tryd.prog 9 #[.slice (some ⟨B, 0, none⟩) 4 4] (w.alloc (.cells #[.int .u8 97, .int .u8 38, .int .u8 45, .int .u8 128] 5 (4, 5))) fun e w' => e = .returned (.int .i64 2) ∧ Below w.heap.size w w' := by
  have h2 := mcheck_Pieces _ 4 4 [97, 38, 45, 128] _ (Reads_litB .u8 5 (4, 5) w B hB [97, 38, 45, 128] (by decide) (by decide)) (by decide)
  rw [v25_c] at h2
  refine h2.mono ?_
  rintro e w' ⟨rfl, hb⟩
  exact ⟨rfl, ((Below.refl _ _).alloc (Nat.le_refl _) _).trans (hb.mono (by simp))⟩
theorem al25_k {a : Option Addr} {c : Nat} {w : World} (hr : Reads .i32 w a 3 c [126, 21488, 38]) : Calls Tryd.prog 13 #[.slice a 3 c, .slice (some ⟨w.heap.size, 0, none⟩) 3 3] (w.alloc (.cells #[.int .i32 126, .int .i32 21488, .int .i32 38] 21)) fun e w' => e = .returned (.bool true) ∧ Below w.heap.size w w' := by
  have hb : Below w.heap.size w (w.alloc (.cells #[.int .i32 126, .int .i32 21488, .int .i32 38] 21)) := (Below.refl _ _).alloc (Nat.le_refl _) _
  have h2 := ref03_Like _ _ _ _ _ _ _ _ _ (hr.below hb) (Reads.lit .i32 21 w [126, 21488, 38] (by decide) (by decide))
  rw [decide_eq_true rfl] at h2
  refine h2.mono ?_
  rintro e w' ⟨rfl, n, rfl⟩
  exact ⟨rfl, Below.drewN hb n⟩
set_option maxRecDepth 100000 in
set_option maxHeartbeats 1000000 in
theorem alive25_any (w : World) : Calls Tryd.prog 6 #[] w fun e w' => e = .returned (.bool true) ∧ Below w.heap.size w w' := by
  have kc := convB (P := Tryd.prog) (t := 22) (e := 5) Tryd.underlying22 Tryd.underlying5 w w.heap.size rfl
  go_enter Tryd.func6, Tryd.ntmps6
  go_wp2_with (first
    | (go_at_call 7; (with_reducible refine (al25_w w _ rfl).mono ?_); rintro e w1 ⟨rfl, h1⟩; have kc1 := convB (P := Tryd.prog) (t := 22) (e := 5) Tryd.underlying22 Tryd.underlying5 w1 w1.heap.size rfl)
    | (go_at_call 11; (with_reducible refine (al25_r w1 _ rfl).mono ?_); rintro e w2 ⟨a2, c2, rfl, r2, h2⟩; have t2 := below_then h1 h2)
    | (go_at_call 13; (with_reducible refine (al25_k r2).mono ?_); rintro e w3 ⟨rfl, h3⟩; have t3 := below_then t2 h3; have kc3 := convB (P := Tryd.prog) (t := 22) (e := 5) Tryd.underlying22 Tryd.underlying5 w3 w3.heap.size rfl)
    | (go_at_call 9; (with_reducible refine (al25_p w3 _ rfl).mono ?_); rintro e w4 ⟨rfl, h4⟩; have t4 := below_then t3 h4))
  go_ret
  exact ⟨rfl, t4⟩
end Go.Proofs.YtiacijodoojgoaaDoor

/-! R06 -/
namespace Go.Proofs.YtiacijodoojgoaaDoor
open Go.RowKit
set_option linter.unusedVariables false

theorem idx_not_neg6 {xs : List Int} (h : xs.all scB = true) : idxI (fun c => !scB c) xs < 0 := by
  have := idx_neg (fun c => !scB c) xs
  simp only [Bool.not_not] at this
  rw [h] at this; simpa using this
theorem idx_not_pos6 {xs : List Int} (h : xs.all scB = false) : 0 ≤ idxI (fun c => !scB c) xs := by
  have := idx_neg (fun c => !scB c) xs
  simp only [Bool.not_not] at this
  rw [h] at this; simpa using this

theorem drop_at {xs : List Int} {k : Nat} {x : Int} (h : xs[k]? = some x) : xs.drop k = x :: xs.drop (k + 1) := by
  have hk : k < xs.length := (List.getElem?_eq_some_iff.1 h).1
  rw [List.drop_eq_getElem_cons hk, (List.getElem?_eq_some_iff.1 h).2]
theorem ur_one {xs : List Int} {k : Nat} {x : Int} (h : xs[k]? = some x) (hs : surB x = false) : usigs (xs.drop k) = (x, 0) :: usigs (xs.drop (k + 1)) := by
  rw [drop_at h]
  have hh : hiB x = false := by have := hi_lo x; rw [hs] at this; cases hx : hiB x with | false => rfl | true => rw [hx] at this; cases this
  have hp : utP (x :: xs.drop (k + 1)) = false := by rw [utP_hd]; simp [hdB, hh]
  rw [usigs_cons (by simp)]
  simp [ut1, utN, hp, hs]
theorem ur_low {xs : List Int} {k : Nat} {x : Int} (h : xs[k]? = some x) (hh : hiB x = false) (hs : surB x = true) : usigs (xs.drop k) = (65533, 3) :: usigs (xs.drop (k + 1)) := by
  rw [drop_at h]
  have hp : utP (x :: xs.drop (k + 1)) = false := by rw [utP_hd]; simp [hdB, hh]
  rw [usigs_cons (by simp)]
  simp [ut1, utN, hp, hs, hh]
theorem ur_end {xs : List Int} {k : Nat} {x : Int} (h : xs[k]? = some x) (hh : hiB x = true) (hl : xs.length = k + 1) : usigs (xs.drop k) = (65533, 4) :: usigs (xs.drop (k + 1)) := by
  rw [drop_at h, List.drop_of_length_le (show xs.length ≤ k + 1 by omega)]
  have hs : surB x = true := by rw [hi_lo, hh]; rfl
  have hp : utP [x] = false := rfl
  rw [usigs_cons (by simp)]
  simp [ut1, utN, hp, hs, hh]
theorem ur_high {xs : List Int} {k : Nat} {x y : Int} (h : xs[k]? = some x) (h' : xs[k + 1]? = some y) (hh : hiB x = true) (hl : loB y = false) : usigs (xs.drop k) = (65533, 3) :: usigs (xs.drop (k + 1)) := by
  rw [drop_at h, drop_at h']
  have hs : surB x = true := by rw [hi_lo, hh]; rfl
  have hp : utP (x :: y :: xs.drop (k + 1 + 1)) = false := by simp [utP, hl]
  rw [usigs_cons (xs := x :: y :: xs.drop (k + 1 + 1)) (by simp)]
  simp [ut1, utN, hp, hs, hh]
theorem ur_pair {xs : List Int} {k : Nat} {x y : Int} (h : xs[k]? = some x) (h' : xs[k + 1]? = some y) (hh : hiB x = true) (hl : loB y = true) : usigs (xs.drop k) = (pairU x y, 0) :: usigs (xs.drop (k + 2)) := by
  rw [drop_at h, drop_at h']
  have hp : utP (x :: y :: xs.drop (k + 1 + 1)) = true := by simp [utP, hh, hl]
  rw [usigs_cons (by simp)]
  simp [ut1, utN, hp]

theorem ST16 : SliceT Tryd.prog 61 72 .u16 2 := ⟨Tryd.underlying61, by kernel_rfl, by decide⟩
theorem ref06_High (u : Int) (w : World) :
    Calls Tryd.prog 63 #[.int .u16 u] w fun e w' => e = .returned (.bool (hiB u)) ∧ w = w' := by
  go_enter Tryd.func63, Tryd.ntmps63
  go_wp2
  all_goals (go_ret; exact ⟨ret_bool (by unfold hiB; simp; omega), rfl⟩)
theorem ref06_Low (u : Int) (w : World) :
    Calls Tryd.prog 64 #[.int .u16 u] w fun e w' => e = .returned (.bool (loB u)) ∧ w = w' := by
  go_enter Tryd.func64, Tryd.ntmps64
  go_wp2
  all_goals (go_ret; exact ⟨ret_bool (by unfold loB; simp; omega), rfl⟩)
set_option maxHeartbeats 1000000 in
theorem ref06_Of (c : Int) (w : World) :
    Calls Tryd.prog 52 #[.int .i32 c] w fun e w' => ∃ a' cap', e = .returned (.slice a' (lenU c) cap') ∧ Reads .u16 w' a' (lenU c) cap' (uns c) ∧ Below w.heap.size w w' := by
  have hwf := hid (uns_wf c)
  cases hs : scB c
  · have e : uns c = [] := by unfold uns; rw [if_neg (by simp [hs])]
    have el : lenU c = 0 := by unfold lenU; rw [e]; rfl
    rw [e, el]
    clear e el
    go_enter Tryd.func52, Tryd.ntmps52
    go_wp2_with (go_at_call 34; (with_reducible refine (ref03_Is _ _).mono ?_); rintro e w' ⟨rfl, rfl⟩)
    go_ret
    exact ⟨none, 0, rfl, Reads.nil _ _ _ _ (Nat.zero_le _), Below.refl _ _⟩
  · have hc := (scB_iff c).1 hs
    by_cases h1 : c < 65536
    · have e : uns c = [c] := by unfold uns; rw [if_pos hs, if_pos h1]
      have el : lenU c = 1 := by unfold lenU; rw [e]; rfl
      rw [e] at hwf
      rw [e, el]
      clear e el
      go_enter Tryd.func52, Tryd.ntmps52
      go_wp2_with (go_at_call 34; (with_reducible refine (ref03_Is _ _).mono ?_); rintro e w' ⟨rfl, rfl⟩)
      go_ret
      exact ⟨_, _, rfl, Reads.lit .u16 _ w _ (by simp [maxLen]) hwf.out, (Below.refl _ _).alloc (Nat.le_refl _) _⟩
    · have e : uns c = [55296 + (c - 65536) / 1024, 56320 + (c - 65536) % 1024] := by unfold uns; rw [if_pos hs, if_neg h1]
      have el : lenU c = 2 := by unfold lenU; rw [e]; rfl
      rw [e] at hwf
      rw [e, el]
      clear e el
      go_enter Tryd.func52, Tryd.ntmps52
      go_wp2_with (go_at_call 34; (with_reducible refine (ref03_Is _ _).mono ?_); rintro e w' ⟨rfl, rfl⟩)
      go_ret
      exact ⟨_, _, rfl, Reads.lit .u16 _ w _ (by simp [maxLen]) hwf.out, (Below.refl _ _).alloc (Nat.le_refl _) _⟩
set_option maxHeartbeats 1000000 in
theorem ref06_LayNo (a : Option Addr) (len cap : Nat) (xs : List Int) (w : World) (hr : Reads .i32 w a len cap xs) (hs : xs.all scB = false) :
    Calls Tryd.prog 35 #[.slice a len cap] w fun e w' => e = .returned (.tuple #[.slice none 0 0, .int .i64 7]) ∧ w = w' := by
  have HR := hid hr
  have hi := idx_not_pos6 hs
  clear hr
  go_enter Tryd.func35, Tryd.ntmps35
  go_wp2_with (go_at_call 24; (with_reducible refine (ref03_First _ _ _ _ _ HR.out).mono ?_); rintro e w' ⟨rfl, rfl⟩)
  go_ret2
  exact ⟨rfl, rfl⟩
set_option maxHeartbeats 1000000 in
theorem ref06_Lay (a : Option Addr) (len cap : Nat) (xs : List Int) (w : World) (hr : Reads .i32 w a len cap xs) (hN : len < 10000000000) (hs : xs.all scB = true) :
    Calls Tryd.prog 35 #[.slice a len cap] w fun e w' => ∃ a' cap', e = .returned (.tuple #[.slice a' (unL xs).length cap', .int .i64 0]) ∧ Reads .u16 w' a' (unL xs).length cap' (unL xs) ∧ Below w.heap.size w w' := by
  have HR := hid hr
  have hsz := hr.size
  have hi := idx_not_neg6 hs
  clear hr
  go_enter Tryd.func35, Tryd.ntmps35
  go_wp2_with (go_at_call 24; (with_reducible refine (ref03_First _ _ _ _ _ HR.out).mono ?_); rintro e w' ⟨rfl, rfl⟩)
  go_loopw [4, 5] (fun v i wr => ∃ k : Nat, k ≤ len ∧ i = .int .i64 k ∧ Own .u16 72 w.heap.size wr v (unL (xs.take k)) ∧ Below w.heap.size w wr) (fun _ i _ => len - (intOf i).toNat)
  case atStart => exact ⟨0, Nat.zero_le _, rfl, Own.nil _ _ _ _, Below.refl _ _⟩
  case round =>
    obtain ⟨k, hk, rfl, hown', hbel'⟩ := hrel
    by_cases hlt : k < len
    · obtain ⟨b, off, x, rfl, _, hc, h0, h1, hx⟩ := (HR.out.below hbel').getR hlt
      have hb1 := unL_take xs k
      have hb2 := lenU_le x
      rw [hsz] at hb1
      go_wp2_with (first
        | (go_at_call 52; (with_reducible refine (ref06_Of _ _).mono ?_); rintro e w2 ⟨a2, c2, rfl, hr2, hbl2⟩; have ho2 := hown'.below hbl2; have hbel2 := below_then hbel' hbl2)
        | (at_builtin; go_must (refine wpList_more ST16 rfl _ _ rfl rfl rfl ho2 hbel2 hr2 (by omega) ?_); intro v3 w3 ho3 hb3))
      rw [← unL_snoc hx.out.2] at ho3
      clear hown' hbel'
      go_wp2_with fail
      go_roundw
      case rel => exact ⟨k + 1, by omega, by go_num, ho3, hb3⟩
      case measure => simp [intOf]; omega
    · go_wp2_with fail
      obtain ⟨a', cap', rfl, hrd⟩ := hown'.reads
      rw [HR.out.all (show len ≤ k by omega)] at hrd
      go_ret2
      exact ⟨a', cap', by rw [HR.out.all (show len ≤ k by omega)]; rfl, hrd, hbel'⟩
set_option maxHeartbeats 2000000 in
theorem ref06_Octets (a : Option Addr) (len cap : Nat) (xs : List Int) (w : World) (hr : Reads .u16 w a len cap xs) (hN : len < 10000000000) :
    Calls Tryd.prog 37 #[.slice a len cap] w fun e w' => ∃ a' cap', e = .returned (.slice a' (ocU xs).length cap') ∧ Reads .u8 w' a' (ocU xs).length cap' (ocU xs) ∧ Below w.heap.size w w' := by
  have HR := hid hr
  have hsz := hr.size
  clear hr
  go_enter Tryd.func37, Tryd.ntmps37
  go_wp2
  go_loopw [3, 4] (fun v i wr => ∃ k : Nat, k ≤ len ∧ i = .int .i64 k ∧ Own .u8 5 w.heap.size wr v (ocU (xs.take k)) ∧ Below w.heap.size w wr) (fun _ i _ => len - (intOf i).toNat)
  case atStart => exact ⟨0, Nat.zero_le _, rfl, Own.nil _ _ _ _, Below.refl _ _⟩
  case round =>
    obtain ⟨k, hk, rfl, hown', hbel'⟩ := hrel
    by_cases hlt : k < len
    · obtain ⟨b, off, x, rfl, _, hc, h0, h1, hx⟩ := (HR.out.below hbel').get16 hlt
      have hb1 := ocU_len (xs.take k)
      rw [List.length_take] at hb1
      have hll : (ocU (xs.take k)).length + 2 < 1000000000000 := by omega
      have hwf : Hid (∀ y ∈ [x / 256, x % 256], (Lit.int .u8 y).wf = true) := by
        intro y hy; simp at hy; rcases hy with rfl | rfl <;> exact mk_u8 (by omega) (by omega)
      have d1 : x.tdiv 256 = x / 256 := Int.tdiv_eq_ediv_of_nonneg h0
      have d2 : x.tmod 256 = x % 256 := Int.tmod_eq_emod_of_nonneg h0
      have g1 : IntKind.u8.wrap (x / 256) = x / 256 := IntWalk.u8_in _ (by omega)
      have g2 : IntKind.u8.wrap (x % 256) = x % 256 := IntWalk.u8_in _ (by omega)
      have g3 : IntKind.u16.wrap (x / 256) = x / 256 := IntWalk.u16_in _ (by omega)
      have g4 : IntKind.u16.wrap (x % 256) = x % 256 := IntWalk.u16_in _ (by omega)
      go_wp2_with fail
      go_region_law (refine step_pushs (w0 := w) (wr := wr.drew) ST8 [x / 256, x % 256] rfl (.tmp 11) (.tmp 24) rfl rfl ⟨_, rfl⟩ (Nat.zero_lt_succ _) hown'.drew' (below_drew hbel') hll hwf.out ?_; intro v3 w3 ho3 hb3)
      all_goals
        rw [← ocU_snoc hx.out.2] at ho3
        clear hown' hbel' g1 g2 g3 g4 d1 d2
        go_wp2_with fail
        go_roundw
        case rel => exact ⟨k + 1, by omega, by go_num, ho3, hb3⟩
        case measure => simp [intOf]; omega
    · go_wp2_with fail
      obtain ⟨a', cap', rfl, hrd⟩ := hown'.reads
      rw [HR.out.all (show len ≤ k by omega)] at hrd
      go_ret
      exact ⟨a', cap', by rw [HR.out.all (show len ≤ k by omega)]; rfl, hrd, hbel'⟩

end Go.Proofs.YtiacijodoojgoaaDoor
