/-
  Texts of ours laid together: C04, C04b, C05, C05b.
-/
import Derived.Handy
import Derived.RangeFuncNested
import Derived.RangeFuncBox
import Derived.RangeFuncCalls
import Derived.RangeFuncLeaves
import Derived.Shelf.Abstract
import Derived.Shelf.RegionOpen
import Derived.OwnWalkIn
import Derived.TacticsInMore
import Derived.LoopNIn
import Derived.LoopIn
import Derived.Maps.AppendAt
import Derived.Test.YtefhddbbiheadaaGreatZ28

/-! C04 -/
namespace Go.Proofs.YtefhddbbiheadaaGreat
open Go.RowKit
set_option linter.unusedVariables false

theorem ret_ii3 {k k2 k3 : IntKind} {a b c d e f : Int} (h : a = b) (h' : c = d) (h2 : e = f) : Ending.returned (.tuple #[.int k a, .int k2 c, .int k3 e]) = .returned (.tuple #[.int k b, .int k2 d, .int k3 f]) := by rw [h, h', h2]

theorem utfone_Len (c : Int) (w : World) :
    Calls Tryz.prog 171 #[.int .i32 c] w fun e w' => e = .returned (.int .i64 (lenI c)) ∧ w = w' := by
  cases hs : scB c
  all_goals
    go_enter Tryz.func171, Tryz.ntmps171
    go_wp2_with (go_at_call 160; (with_reducible refine (scalar_Is _ _).mono ?_); rintro e w' ⟨rfl, rfl⟩)
    all_goals (go_ret; exact ⟨ret_int (by unfold lenI; (first | rw [if_pos hs] | rw [if_neg (by rw [hs]; decide)]); (repeat' split) <;> omega), rfl⟩)
theorem utfone_mark (n : Nat) (w : World) :
    Calls Tryz.prog 154 #[.int .i64 n] w fun e w' => e = .returned (.int .i32 (markI n)) ∧ w = w' := by
  go_enter Tryz.func154, Tryz.ntmps154
  go_wp2
  all_goals (go_ret; exact ⟨ret_int (by unfold markI; simp_all; try omega), rfl⟩)
theorem utfone_Starts (a : Int) (w : World) (h0 : 0 ≤ a) (h1 : a ≤ 255) :
    Calls Tryz.prog 153 #[.int .u8 a] w fun e w' => e = .returned (.int .i64 (startN a)) ∧ w = w' := by
  go_enter Tryz.func153, Tryz.ntmps153
  go_wp2
  all_goals (go_ret; exact ⟨ret_int (by unfold startN; (repeat' split) <;> omega), rfl⟩)
theorem utfone_Follows (a : Int) (w : World) (h0 : 0 ≤ a) (h1 : a ≤ 255) :
    Calls Tryz.prog 155 #[.int .u8 a] w fun e w' => e = .returned (.bool (folB a)) ∧ w = w' := by
  go_enter Tryz.func155, Tryz.ntmps155
  go_wp2
  all_goals (go_ret; exact ⟨ret_bool (by unfold folB; rw [Bool.eq_iff_iff]; simp; omega), rfl⟩)
theorem utfone_some (t : Int) (l m : Nat) (w : World) (hl : l ≤ 2) (h0 : 0 ≤ t) (h1 : t * shf l ≤ 2147483647) :
    Calls Tryz.prog 156 #[.int .i32 t, .int .i64 l, .int .i64 m] w fun e w' => e = .returned (.bool (decide (lenI (t * shf l) = m))) ∧ w = w' := by
  rcases (show l = 0 ∨ l = 1 ∨ l = 2 by omega) with rfl | rfl | rfl
  all_goals
    simp [shf] at h1
    simp [shf]
    go_enter Tryz.func156, Tryz.ntmps156
    go_wp2_with (go_at_call 171; (with_reducible refine (utfone_Len _ _).mono ?_); rintro e w' ⟨rfl, rfl⟩)
    go_ret
    exact ⟨ret_bool (by rw [Bool.eq_iff_iff]; simp; omega), rfl⟩

end Go.Proofs.YtefhddbbiheadaaGreat

/-! C04b -/
namespace Go.Proofs.YtefhddbbiheadaaGreat
open Go.RowKit
set_option linter.unusedVariables false

def bgW : List Int → Nat
  | [] => 0
  | a :: _ => startN a
def bgT : List Int → Int
  | [] => 0
  | a :: r => if startN a = 0 then 0 else topU a r (farN (a :: r))
theorem clr1 : ∀ n : Fin 128, bits .andNot .i32 (n.val : Int) 0 = n.val - 0 := by decide +kernel
theorem clr2 : ∀ n : Fin 32, bits .andNot .i32 ((192 + n.val : Nat) : Int) 192 = ((192 + n.val : Nat) : Int) - 192 := by decide +kernel
theorem clr3 : ∀ n : Fin 16, bits .andNot .i32 ((224 + n.val : Nat) : Int) 224 = ((224 + n.val : Nat) : Int) - 224 := by decide +kernel
theorem clr4 : ∀ n : Fin 8, bits .andNot .i32 ((240 + n.val : Nat) : Int) 240 = ((240 + n.val : Nat) : Int) - 240 := by decide +kernel
theorem clr (a : Int) (h0 : 0 ≤ a) (h : startN a ≠ 0) : bits .andNot .i32 a (markI (startN a)) = a - markI (startN a) := by
  have h4 := startN_le a
  obtain ⟨n, rfl⟩ := Int.eq_ofNat_of_zero_le h0
  rcases (show startN n = 1 ∨ startN n = 2 ∨ startN n = 3 ∨ startN n = 4 by omega) with e | e | e | e <;> rw [e]
  · rw [start_1] at e; exact clr1 ⟨n, by omega⟩
  · rw [start_2] at e; have := clr2 ⟨n - 192, by omega⟩; simp only at this; rwa [show 192 + (n - 192) = n by omega] at this
  · rw [start_3] at e; have := clr3 ⟨n - 224, by omega⟩; simp only at this; rwa [show 224 + (n - 224) = n by omega] at this
  · rw [start_4] at e; have := clr4 ⟨n - 240, by omega⟩; simp only at this; rwa [show 240 + (n - 240) = n by omega] at this

theorem some_ok {a y t : Int} {k : Nat} (h0 : 0 ≤ a) (hk : 1 ≤ k) (hkw : k < startN a) (hg : topGood a k t) (hy : folB y = true) (li : Int) (hli : li = startN a - k - 1) (w : World) :
    Calls Tryz.prog 156 #[.int .i32 (t * 64 + y % 64), .int .i64 li, .int .i64 (startN a)] w fun e w' => e = .returned (.bool (okU a k y)) ∧ w = w' := by
  have h4 := startN_le a
  have hb := good_bd h0 hk (by omega) hg
  have hyb := (fol_iff y).1 hy
  have e : t * 64 + y % 64 = 64 * t + (y - 128) := by omega
  have hp := hb.2.2.1 hkw
  obtain rfl : li = ((startN a - k - 1 : Nat) : Int) := by omega
  have hle : (64 * t + (y - 128)) * shf (startN a - k - 1) ≤ 2147483647 := by
    rcases (show startN a - k - 1 = 0 ∨ startN a - k - 1 = 1 ∨ startN a - k - 1 = 2 by omega) with h | h | h <;> rw [h] <;> simp only [shf]
    · simp; omega
    · have := hb.2.2.2.1 (by omega); simp; omega
    · have := hb.2.2.2.2 (by omega); simp; omega
  have := utfone_some (64 * t + (y - 128)) (startN a - k - 1) (startN a) w (by omega) (by omega) hle
  rw [e]
  have hd : decide (lenI ((64 * t + (y - 128)) * shf (startN a - k - 1)) = startN a) = okU a k y := by
    rw [Bool.eq_iff_iff, decide_eq_true_iff]; exact some_iff hk hkw hg hy
  rwa [hd] at this
set_option maxHeartbeats 2000000 in
theorem utfone_begin (a : Option Addr) (len cap : Nat) (xs : List Int) (w : World) (hr : Reads .u8 w a len cap xs) :
    Calls Tryz.prog 137 #[.slice a len cap] w fun e w' => e = .returned (.tuple #[.int .i32 (bgT xs), .int .i64 (farN xs), .int .i64 (bgW xs)]) ∧ ∃ n, w' = w.drewN n := by
  have hl := hr.len_le
  have hsz := hr.size
  cases xs with
  | nil =>
    obtain rfl : 0 = len := hsz
    clear hr
    go_enter Tryz.func137, Tryz.ntmps137
    go_wp2
    go_ret3
    exact ⟨rfl, 0, rfl⟩
  | cons x0 r =>
    have hpos : 0 < len := by simp at hsz; omega
    have hsz' := hid hsz
    clear hsz
    obtain ⟨b, off, rfl, _, hc0, g0, g1⟩ := hr.head8
    have HR := hid hr
    clear hr
    have hne : ((len : Int) == 0) = false := by simp; omega
    by_cases hz : startN x0 = 0
    · have hz' : ((startN x0 : Int) == 0) = true := by simp [hz]
      have HZ := hid hz
      clear hz
      go_enter Tryz.func137, Tryz.ntmps137
      go_wp2_with (go_at_call 153; (with_reducible refine (utfone_Starts _ _ g0 g1).mono ?_); rintro e w' ⟨rfl, rfl⟩)
      go_ret3
      exact ⟨by rw [far_zero HZ.out]; simp only [bgT, bgW]; rw [if_pos HZ.out, HZ.out]; rfl, 0, rfl⟩
    · have hz' : ((startN x0 : Int) == 0) = false := by simp; omega
      have HZ := hid hz
      have hw4 := startN_le x0
      have hclr := clr x0 g0 hz
      have hg1 := hid (top_one x0 r)
      have hu : IntKind.i32.wrap x0 = x0 := IntWalk.i32_in _ (by omega)
      have hw1 : 1 ≤ startN x0 := by omega
      clear hz
      go_enter Tryz.func137, Tryz.ntmps137
      go_wp2_with (go_at_call 153; (with_reducible refine (utfone_Starts _ _ g0 g1).mono ?_); rintro e w' ⟨rfl, rfl⟩)
      go_quiet ((go_at_call 154; exact Calls.quiet_of_same (Calls.flip (utfone_mark _ _))))
      go_wp2_with fail
      go_loop [2, 3] (fun c i => ∃ k : Nat, 1 ≤ k ∧ k ≤ startN x0 ∧ k ≤ len ∧ i = .int .i64 k ∧ c = .int .i32 (topU x0 r k) ∧ Hid (topGood x0 k (topU x0 r k)) ∧ Hid (k + runU x0 k (r.drop (k - 1)) = farN (x0 :: r))) (fun _ i => startN x0 - (intOf i).toNat)
      case atStart => exact ⟨1, Nat.le_refl _, hw1, hpos, rfl, by rw [hg1.out], .inl ⟨rfl, top_one x0 r⟩, (far_cons HZ.out).symm⟩
      case round =>
        obtain ⟨k, hk1, hk2, hk3, rfl, rfl, hg, hn⟩ := hrel
        have hbd := good_bd g0 hk1 hk2 hg.out
        obtain ⟨p1, p2, p3, _, _⟩ := hbd
        have HP3 := hid p3
        clear p3
        generalize ht : topU x0 r k = t at *
        have HT := hid ht
        clear ht
        by_cases hlt : k < startN x0 ∧ k < len
        · obtain ⟨hlt1, hlt2⟩ := hlt
          obtain ⟨b', off', y, hb', _, hc, l0, u0, hx⟩ := HR.out.get8 hlt2
          cases hb'
          have hy := hid (tail_get hk1 hx.out.1)
          have hp3 := HP3.out hlt1
          have hm : Hid ((k : Int) < min (startN x0 : Int) len) := by rw [Hid]; omega
          cases hf : folB y
          · have hF := hid hf
            have hok : okU x0 k y = false := by
              cases ho : okU x0 k y
              · rfl
              · rw [ok_fol ho] at hf; exact hf
            have hs : Hid (k = farN (x0 :: r)) := by rw [Hid, ← hn.out, run_stop hk1 hy.out (.inr hok)]
            clear hok
            go_wp2_with (go_at_call 155; (with_reducible refine (utfone_Follows _ _ l0 u0).mono ?_); rintro e w' ⟨rfl, rfl⟩)
            all_goals (go_ret3; exact ⟨ret_ii3 (by simp only [bgT]; rw [if_neg HZ.out, ← hs.out, HT.out]) (by rw [← hs.out]) rfl, _, rfl⟩)
          · have hF := hid hf
            have hyb := (fol_iff y).1 hf
            have b1 : bits .and .u8 y 63 = y % 64 := and_u8 6 _ _ (by decide) (by omega) (by omega) (by omega)
            have b2 : bits .or .i32 (t * 64) (y % 64) = t * 64 + y % 64 := or_i32 6 _ _ (by omega) (by omega) (by omega) (by omega) (by omega)
            have hsm := some_ok g0 hk1 hlt1 hg.out hf
            cases ho : okU x0 k y
            · have hs : Hid (k = farN (x0 :: r)) := by rw [Hid, ← hn.out, run_stop hk1 hy.out (.inr ho)]
              go_wp2_with (first
                | (go_at_call 155; (with_reducible refine (utfone_Follows _ _ l0 u0).mono ?_); rintro e w' ⟨rfl, rfl⟩)
                | (go_at_call 156; (with_reducible refine (hsm _ (by omega) _).mono ?_); rintro e w' ⟨rfl, rfl⟩))
              all_goals (go_ret3; exact ⟨ret_ii3 (by simp only [bgT]; rw [if_neg HZ.out, ← hs.out, HT.out]) (by rw [← hs.out]) rfl, _, rfl⟩)
            · have hg' := hid (good_next hk1 hlt1 hg.out hf ho)
              have hT : Hid (topU x0 r (k + 1) = 64 * t + (y - 128)) := by rw [Hid, top_next hk1 (tail_take hy.out), HT.out]
              have hs := hid ((run_step hk1 hy.out hlt1 ho).symm.trans hn.out)
              go_wp2_with (first
                | (go_at_call 155; (with_reducible refine (utfone_Follows _ _ l0 u0).mono ?_); rintro e w' ⟨rfl, rfl⟩)
                | (go_at_call 156; (with_reducible refine (hsm _ (by omega) _).mono ?_); rintro e w' ⟨rfl, rfl⟩))
              all_goals
                go_round
                case rel => exact ⟨k + 1, by omega, by omega, by omega, by go_num, by rw [hT.out]; congr 1; omega, by rw [hT.out]; exact hg'.out, hs.out⟩
                case measure => simp [intOf]; omega
        · have hm : ¬ ((k : Int) < min (startN x0 : Int) len) := by omega
          have hs : Hid (k = farN (x0 :: r)) := by
            rw [Hid, ← hn.out]
            by_cases hq : startN x0 ≤ k
            · rw [run_full hq]
            · rw [run_end (by have := hsz'.out; simp at this; omega)]
          go_wp2_with fail
          all_goals (go_ret3; exact ⟨ret_ii3 (by simp only [bgT]; rw [if_neg HZ.out, ← hs.out, HT.out]) (by rw [← hs.out]) rfl, _, rfl⟩)
theorem far_cases (xs : List Int) : farN xs = 0 ∨ ∃ a r, xs = a :: r ∧ startN a ≠ 0 := by
  cases xs with
  | nil => exact .inl rfl
  | cons a r =>
    by_cases h : startN a = 0
    · exact .inl (far_zero h)
    · exact .inr ⟨a, r, rfl, h⟩
set_option maxHeartbeats 1000000 in
theorem utfone_Take (a : Option Addr) (len cap : Nat) (xs : List Int) (w : World) (hr : Reads .u8 w a len cap xs) :
    Calls Tryz.prog 116 #[.slice a len cap] w fun e w' => e = .returned (.tuple #[.int .i32 (takC xs), .int .i64 (takN xs), .int .i64 (takE xs)]) ∧ ∃ n, w' = w.drewN n := by
  have hl := hr.len_le
  have hsz := hr.size
  have hB := utfone_begin _ _ _ _ _ hr
  clear hr
  cases xs with
  | nil =>
    obtain rfl : 0 = len := hsz
    go_enter Tryz.func116, Tryz.ntmps116
    go_wp2_with (go_at_call 137; (with_reducible refine hB.mono ?_); rintro e w1 ⟨rfl, n, rfl⟩)
    go_ret3
    exact ⟨rfl, _, rfl⟩
  | cons x0 r =>
    have hfl := far_le (x0 :: r)
    have hW : bgW (x0 :: r) = startN x0 := rfl
    rw [hW] at hB
    clear hW
    by_cases hw : startN x0 = farN (x0 :: r) ∧ 0 < farN (x0 :: r)
    · have T := hid (take_whole hw.1 hw.2)
      have hT : bgT (x0 :: r) = topU x0 r (farN (x0 :: r)) := by simp only [bgT]; rw [if_neg (by omega)]
      rw [T.out.1, T.out.2.1, T.out.2.2]
      rw [hT, hw.1] at hB
      have hq : 0 < farN (x0 :: r) := hw.2
      clear hw hT
      go_enter Tryz.func116, Tryz.ntmps116
      go_wp2_with (go_at_call 137; (with_reducible refine hB.mono ?_); rintro e w1 ⟨rfl, n, rfl⟩)
      go_ret3
      exact ⟨rfl, _, rfl⟩
    · have hpos : 0 < (x0 :: r).length := by simp
      by_cases h1 : farN (x0 :: r) = (x0 :: r).length
      · have T := hid (take_part hw h1)
        have hfl' : ((farN (x0 :: r) : Int) == len) = true := by rw [h1, hsz]; simp
        have hf0 : 0 < farN (x0 :: r) := by omega
        have hws : ((farN (x0 :: r) : Int) == startN x0) = false := by simp; intro h; exact hw ⟨by omega, hf0⟩
        rw [T.out.1, T.out.2.1, T.out.2.2]
        clear hw h1 hsz
        go_enter Tryz.func116, Tryz.ntmps116
        go_wp2_with (go_at_call 137; (with_reducible refine hB.mono ?_); rintro e w1 ⟨rfl, n, rfl⟩)
        go_ret3
        exact ⟨rfl, _, rfl⟩
      · have T := hid (take_form hw h1)
        have hfl' : ((farN (x0 :: r) : Int) == len) = false := by simp; rw [hsz] at h1; omega
        rw [T.out.1, T.out.2.1, T.out.2.2]
        by_cases hf0 : 0 < farN (x0 :: r)
        · have hws : ((farN (x0 :: r) : Int) == startN x0) = false := by simp; intro h; exact hw ⟨by omega, hf0⟩
          have hmx : Hid (((max (farN (x0 :: r)) 1 : Nat) : Int) = farN (x0 :: r)) := by rw [Hid]; omega
          clear hw h1 hsz
          go_enter Tryz.func116, Tryz.ntmps116
          go_wp2_with (go_at_call 137; (with_reducible refine hB.mono ?_); rintro e w1 ⟨rfl, n, rfl⟩)
          go_ret3
          exact ⟨ret_ii3 rfl (by rw [hmx.out]) rfl, _, rfl⟩
        · have hf1 : farN (x0 :: r) = 0 := by omega
          rw [hf1] at hB hfl' hfl ⊢
          clear hw h1 hsz hf0
          go_enter Tryz.func116, Tryz.ntmps116
          go_wp2_with (go_at_call 137; (with_reducible refine hB.mono ?_); rintro e w1 ⟨rfl, n, rfl⟩)
          go_ret3
          exact ⟨rfl, _, rfl⟩

end Go.Proofs.YtefhddbbiheadaaGreat

/-! C05 -/
namespace Go.Proofs.YtefhddbbiheadaaGreat
open Go.RowKit Go.Shelf
set_option linter.unusedVariables false
attribute [local go_sem] Oper.semAt_some


/-- A sign, as yield is handed it. -/
def encS (p : Int × Int) : Array Value := #[.int .i32 p.1, .int .i64 p.2]

set_option maxRecDepth 100000 in
set_option maxHeartbeats 2000000 in
theorem signs1_in (n l Bs n₀ : Nat) (hn : 1 ≤ n) (a : Option Addr) (len cap : Nat) (xs : List Int) (J Jx : List (Int × Int) → World → Prop) (W : World)
    (hJa : AbidesFrom W.heap.size J) (hn₀ : n₀ ≤ W.heap.size) (w0 : World) (hw0 : w0.heap.size ≤ n₀) (hr : Reads .u8 w0 a len cap xs) (hb0 : Below w0.heap.size w0 W)
    (hY : ∀ pre x W, J pre W → pre.length < len → YieldAt Fence.wide (n - 1) Tryz.prog l (encS x) W fun e W' =>
      (e = .returned (.bool true) ∧ J (pre ++ [x]) W' ∧ KeepsBox n₀ Bs 22 W W') ∨ (e = .returned (.bool false) ∧ Jx (pre ++ [x]) W'))
    (hBs : Boxed W Bs 22 (.slice a len cap)) (h0 : J [] W) :
    CallsIn Fence.wide n Tryz.prog 115 #[.func (.yield l) #[] #[], .pointer (some ⟨Bs, 0, none⟩)] W fun e W' => (∃ v, e = .returned v) ∧
      ((∃ ys, ys = sigs xs ∧ J ys W') ∨ (∃ pre, pre <+: sigs xs ∧ Jx pre W')) := by
  have hl := hr.len_le
  have hsz := hr.size
  have HR := hid hr
  clear hr
  refine callsIn_of_wp Tryz.func115 rfl trivial ?_ rfl
  simp only [Tryz.ntmps115, List.size_toArray, List.length_cons, List.length_nil, Nat.reduceAdd, Nat.reduceSub, Array.replicate_succ, Array.replicate_zero, List.push_toArray, List.append_toArray, List.nil_append, List.cons_append]
  gi_wp2
  gi_loopw [3] (fun i wr => ∃ (k : Nat) (pre : List (Int × Int)), k ≤ len ∧ pre.length ≤ k ∧ i = .int .i64 k ∧ Hid (pre ++ sigs (xs.drop k) = sigs xs) ∧ J pre wr ∧ Boxed wr Bs 22 (.slice a len cap) ∧ Below n₀ W wr) (fun i _ => len - (intOf i).toNat)
  case atStart => exact ⟨0, [], Nat.zero_le _, Nat.le_refl _, rfl, rfl, h0, hBs, Below.refl _ _⟩
  case round =>
    obtain ⟨k, pre, hk, hpk, rfl, hps, hJs, hB, hnx⟩ := hrel
    have hc := hB.cell
    by_cases hlt : k < len
    · have hrd := (HR.out.below (hb0.trans (hnx.mono hw0))).piece (Nat.le_of_lt hlt) (Nat.le_refl len)
      have hroom := HR.out.room
      rw [List.take_of_length_le (by omega), if_neg (by omega)] at hrd
      have hne : xs.drop k ≠ [] := by intro h; have := congrArg List.length h; simp at this; omega
      have hT := utfone_Take _ _ _ _ _ hrd
      have hsg := sigs_cons hne
      have hp0 := takN_pos hne
      have hp1 := takN_le (xs.drop k)
      simp only [List.length_drop] at hp1
      have hnext : Hid (pre ++ [sign1 (xs.drop k)] ++ sigs (xs.drop (k + takN (xs.drop k))) = sigs xs) := by
        rw [Hid, ← hps.out, hsg, List.drop_drop, List.append_assoc]; rfl
      have hfs : Hid (pre ++ [sign1 (xs.drop k)] <+: sigs xs) := ⟨_, hnext.out⟩
      have hpl : pre.length < len := by omega
      clear hsg hne hps
      cases he : takE (xs.drop k) == 0
      · have hs1 : encS (sign1 (xs.drop k)) = #[.int .i32 65533, .int .i64 (takE (xs.drop k))] := by
          simp only [encS, sign1]; rw [if_neg (by simpa using he)]
        gi_wp2_with (refine ⟨trivial, ?_⟩; gi_at_call 116; (with_reducible refine (callsIn_wide.2 hT).mono ?_); rintro e w' ⟨rfl, n1, rfl⟩; obtain ⟨fn, tmps, assign, body, hy, hR⟩ := hY pre (sign1 (xs.drop k)) _ (abides_drewN hJa hJs n1) hpl; rw [hs1] at hy)
        refine hR.mono ?_
        rintro e W3 (⟨rfl, hJ3, hk3⟩ | ⟨rfl, hJx3⟩)
        · have hnx3 := (Below.drewN hnx n1).trans hk3.1
          have hB3 := hk3.2 _ hB
          gi_wp2_with fail
          go_roundw
          case rel => exact ⟨k + takN (xs.drop k), _, by omega, by simp; omega, by go_num, hnext, hJ3, hB3, hnx3⟩
          case measure => simp [intOf]; omega
        · gi_wp2_with fail
          refine bodyPost_ret (results_none rfl _ _ _) rfl ?_
          exact ⟨⟨_, rfl⟩, .inr ⟨_, hfs.out, hJx3⟩⟩
      · have hs1 : encS (sign1 (xs.drop k)) = #[.int .i32 (takC (xs.drop k)), .int .i64 (takE (xs.drop k))] := by
          simp only [encS, sign1]; rw [if_pos (by simpa using he)]
        gi_wp2_with (refine ⟨trivial, ?_⟩; gi_at_call 116; (with_reducible refine (callsIn_wide.2 hT).mono ?_); rintro e w' ⟨rfl, n1, rfl⟩; obtain ⟨fn, tmps, assign, body, hy, hR⟩ := hY pre (sign1 (xs.drop k)) _ (abides_drewN hJa hJs n1) hpl; rw [hs1] at hy)
        refine hR.mono ?_
        rintro e W3 (⟨rfl, hJ3, hk3⟩ | ⟨rfl, hJx3⟩)
        · have hnx3 := (Below.drewN hnx n1).trans hk3.1
          have hB3 := hk3.2 _ hB
          gi_wp2_with fail
          go_roundw
          case rel => exact ⟨k + takN (xs.drop k), _, by omega, by simp; omega, by go_num, hnext, hJ3, hB3, hnx3⟩
          case measure => simp [intOf]; omega
        · gi_wp2_with fail
          refine bodyPost_ret (results_none rfl _ _ _) rfl ?_
          exact ⟨⟨_, rfl⟩, .inr ⟨_, hfs.out, hJx3⟩⟩
    · obtain rfl : k = len := by omega
      have hend : Hid (pre = sigs xs) := by
        have := hps.out
        rw [List.drop_of_length_le (by omega), sigs_nil, List.append_nil] at this
        exact this
      gi_wp2_with fail
      go_end0
      exact ⟨⟨_, rfl⟩, .inl ⟨_, hend.out, hJs⟩⟩
set_option maxHeartbeats 1000000 in
theorem utfall_signs (n : Nat) (a : Option Addr) (len cap : Nat) (w : World) :
    CallsIn Fence.wide n Tryz.prog 87 #[.slice a len cap] w fun e w' => e = .returned (.func (.func 115) #[] #[.pointer (some ⟨w.heap.size, 0, none⟩)]) ∧ w' = w.alloc (.cells #[.slice a len cap] 22) := by
  refine callsIn_of_wp Tryz.func87 rfl trivial ?_ rfl
  simp only [Tryz.ntmps87, List.size_toArray, List.length_cons, List.length_nil, Nat.reduceAdd, Nat.reduceSub, Array.replicate_succ, Array.replicate_zero, List.push_toArray, List.append_toArray, List.nil_append, List.cons_append]
  gi_wp2
  go_ret
  exact ⟨rfl, rfl⟩
/-- The value that signs hands back: all signs in their order; or a beginning, where a round has said 'no more'. -/
theorem signs_stops (n Bs n₀ : Nat) (hn : 1 ≤ n) (a : Option Addr) (len cap : Nat) (xs : List Int) (w0 w : World) (hr : Reads .u8 w0 a len cap xs) (hw0 : w0.heap.size ≤ n₀) (hn₀ : n₀ ≤ w.heap.size) (hb0 : Below w0.heap.size w0 w)
    (hlt : Bs < w.heap.size) (hBs : Boxed w Bs 22 (.slice a len cap)) :
    SeqStopsK Fence.wide n Tryz.prog 115 #[.pointer (some ⟨Bs, 0, none⟩)] encS (KeepsBox n₀ Bs 22) (fun ys => ys = sigs xs) (fun pre => pre <+: sigs xs) len w := fun l J Jx W hW hJ _ hY h0 =>
  signs1_in n l Bs n₀ hn a len cap xs J Jx W hJ (Nat.le_trans hn₀ hW.size) w0 hw0 hr (hb0.trans (hW.mono (Nat.le_trans hw0 hn₀))) hY ((hW.block Bs hlt).trans hBs) h0

end Go.Proofs.YtefhddbbiheadaaGreat

/-! C05b -/
namespace Go.Proofs.YtefhddbbiheadaaGreat
open Go.RowKit Go.Shelf
set_option linter.unusedVariables false
attribute [local go_sem] Oper.semAt_some



end Go.Proofs.YtefhddbbiheadaaGreat
