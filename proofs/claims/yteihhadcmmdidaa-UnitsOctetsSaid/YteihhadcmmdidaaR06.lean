/-
  Contracts of the document's own functions of layer 6 (those that the translation has).
-/
import Derived.Test.YteihhadcmmdidaaR03
import Derived.Test.YteihhadcmmdidaaR01
import Derived.Test.YteihhadcmmdidaaD06
namespace Go.Proofs.Yteihhadcmmdidaa
open Go.RowKit
set_option linter.unusedVariables false

theorem idx_not_neg6 {xs : List Int} (h : xs.all scB = true) : idxI (fun c => !scB c) xs < 0 := by
  have := idx_neg (fun c => !scB c) xs
  simp only [Bool.not_not] at this
  rw [h] at this; simpa using this
theorem idx_not_pos6 {xs : List Int} (h : xs.all scB = false) : 0 ≤ idxI (fun c => !scB c) xs := by
  have := idx_neg (fun c => !scB c) xs
  simp only [Bool.not_not] at this
  rw [h] at this; simpa using this

theorem drop_at {xs : List Int} {k : Nat} {x : Int} (h : xs[k]? = some x) : xs.drop k = x :: xs.drop (k + 1) := by
  have hk : k < xs.length := (List.getElem?_eq_some_iff.1 h).1
  rw [List.drop_eq_getElem_cons hk, (List.getElem?_eq_some_iff.1 h).2]
theorem ur_one {xs : List Int} {k : Nat} {x : Int} (h : xs[k]? = some x) (hs : surB x = false) : usigs (xs.drop k) = (x, 0) :: usigs (xs.drop (k + 1)) := by
  rw [drop_at h]
  have hh : hiB x = false := by have := hi_lo x; rw [hs] at this; cases hx : hiB x with | false => rfl | true => rw [hx] at this; cases this
  have hp : utP (x :: xs.drop (k + 1)) = false := by rw [utP_hd]; simp [hdB, hh]
  rw [usigs_cons (by simp)]
  simp [ut1, utN, hp, hs]
theorem ur_low {xs : List Int} {k : Nat} {x : Int} (h : xs[k]? = some x) (hh : hiB x = false) (hs : surB x = true) : usigs (xs.drop k) = (65533, 3) :: usigs (xs.drop (k + 1)) := by
  rw [drop_at h]
  have hp : utP (x :: xs.drop (k + 1)) = false := by rw [utP_hd]; simp [hdB, hh]
  rw [usigs_cons (by simp)]
  simp [ut1, utN, hp, hs, hh]
theorem ur_end {xs : List Int} {k : Nat} {x : Int} (h : xs[k]? = some x) (hh : hiB x = true) (hl : xs.length = k + 1) : usigs (xs.drop k) = (65533, 4) :: usigs (xs.drop (k + 1)) := by
  rw [drop_at h, List.drop_of_length_le (show xs.length ≤ k + 1 by omega)]
  have hs : surB x = true := by rw [hi_lo, hh]; rfl
  have hp : utP [x] = false := rfl
  rw [usigs_cons (by simp)]
  simp [ut1, utN, hp, hs, hh]
theorem ur_high {xs : List Int} {k : Nat} {x y : Int} (h : xs[k]? = some x) (h' : xs[k + 1]? = some y) (hh : hiB x = true) (hl : loB y = false) : usigs (xs.drop k) = (65533, 3) :: usigs (xs.drop (k + 1)) := by
  rw [drop_at h, drop_at h']
  have hs : surB x = true := by rw [hi_lo, hh]; rfl
  have hp : utP (x :: y :: xs.drop (k + 1 + 1)) = false := by simp [utP, hl]
  rw [usigs_cons (xs := x :: y :: xs.drop (k + 1 + 1)) (by simp)]
  simp [ut1, utN, hp, hs, hh]
theorem ur_pair {xs : List Int} {k : Nat} {x y : Int} (h : xs[k]? = some x) (h' : xs[k + 1]? = some y) (hh : hiB x = true) (hl : loB y = true) : usigs (xs.drop k) = (pairU x y, 0) :: usigs (xs.drop (k + 2)) := by
  rw [drop_at h, drop_at h']
  have hp : utP (x :: y :: xs.drop (k + 1 + 1)) = true := by simp [utP, hh, hl]
  rw [usigs_cons (by simp)]
  simp [ut1, utN, hp]

theorem ST16 : SliceT Try.prog 24 38 .u16 2 := ⟨Try.underlying24, by kernel_rfl, by decide⟩
theorem ref06_High (u : Int) (w : World) :
    Calls Try.prog 17 #[.int .u16 u] w fun e w' => e = .returned (.bool (hiB u)) ∧ w = w' := by
  go_enter Try.func17, Try.ntmps17
  go_wp2
  all_goals (go_ret; exact ⟨ret_bool (by unfold hiB; simp; omega), rfl⟩)
theorem ref06_Low (u : Int) (w : World) :
    Calls Try.prog 19 #[.int .u16 u] w fun e w' => e = .returned (.bool (loB u)) ∧ w = w' := by
  go_enter Try.func19, Try.ntmps19
  go_wp2
  all_goals (go_ret; exact ⟨ret_bool (by unfold loB; simp; omega), rfl⟩)
set_option maxHeartbeats 1000000 in
theorem ref06_Of (c : Int) (w : World) :
    Calls Try.prog 12 #[.int .i32 c] w fun e w' => ∃ a' cap', e = .returned (.slice a' (lenU c) cap') ∧ Reads .u16 w' a' (lenU c) cap' (uns c) ∧ Below w.heap.size w w' := by
  have hwf := hid (uns_wf c)
  cases hs : scB c
  · have e : uns c = [] := by unfold uns; rw [if_neg (by simp [hs])]
    have el : lenU c = 0 := by unfold lenU; rw [e]; rfl
    rw [e, el]
    clear e el
    go_enter Try.func12, Try.ntmps12
    go_wp2_with (go_at_call 31; (with_reducible refine (ref03_Is _ _).mono ?_); rintro e w' ⟨rfl, rfl⟩)
    go_ret
    exact ⟨none, 0, rfl, Reads.nil _ _ _ _ (Nat.zero_le _), Below.refl _ _⟩
  · have hc := (scB_iff c).1 hs
    by_cases h1 : c < 65536
    · have e : uns c = [c] := by unfold uns; rw [if_pos hs, if_pos h1]
      have el : lenU c = 1 := by unfold lenU; rw [e]; rfl
      rw [e] at hwf
      rw [e, el]
      clear e el
      go_enter Try.func12, Try.ntmps12
      go_wp2_with (go_at_call 31; (with_reducible refine (ref03_Is _ _).mono ?_); rintro e w' ⟨rfl, rfl⟩)
      go_ret
      exact ⟨_, _, rfl, Reads.lit .u16 _ w _ (by simp [maxLen]) hwf.out, (Below.refl _ _).alloc (Nat.le_refl _) _⟩
    · have e : uns c = [55296 + (c - 65536) / 1024, 56320 + (c - 65536) % 1024] := by unfold uns; rw [if_pos hs, if_neg h1]
      have el : lenU c = 2 := by unfold lenU; rw [e]; rfl
      rw [e] at hwf
      rw [e, el]
      clear e el
      go_enter Try.func12, Try.ntmps12
      go_wp2_with (go_at_call 31; (with_reducible refine (ref03_Is _ _).mono ?_); rintro e w' ⟨rfl, rfl⟩)
      go_ret
      exact ⟨_, _, rfl, Reads.lit .u16 _ w _ (by simp [maxLen]) hwf.out, (Below.refl _ _).alloc (Nat.le_refl _) _⟩
set_option maxHeartbeats 1000000 in
theorem ref06_LayNo (a : Option Addr) (len cap : Nat) (xs : List Int) (w : World) (hr : Reads .i32 w a len cap xs) (hs : xs.all scB = false) :
    Calls Try.prog 9 #[.slice a len cap] w fun e w' => e = .returned (.tuple #[.slice none 0 0, .int .i64 7]) ∧ w = w' := by
  have HR := hid hr
  have hi := idx_not_pos6 hs
  clear hr
  go_enter Try.func9, Try.ntmps9
  go_wp2_with (go_at_call 27; (with_reducible refine (ref03_First _ _ _ _ _ HR.out).mono ?_); rintro e w' ⟨rfl, rfl⟩)
  go_ret2
  exact ⟨rfl, rfl⟩
set_option maxHeartbeats 1000000 in
theorem ref06_Lay (a : Option Addr) (len cap : Nat) (xs : List Int) (w : World) (hr : Reads .i32 w a len cap xs) (hN : len < 10000000000) (hs : xs.all scB = true) :
    Calls Try.prog 9 #[.slice a len cap] w fun e w' => ∃ a' cap', e = .returned (.tuple #[.slice a' (unL xs).length cap', .int .i64 0]) ∧ Reads .u16 w' a' (unL xs).length cap' (unL xs) ∧ Below w.heap.size w w' := by
  have HR := hid hr
  have hsz := hr.size
  have hi := idx_not_neg6 hs
  clear hr
  go_enter Try.func9, Try.ntmps9
  go_wp2_with (go_at_call 27; (with_reducible refine (ref03_First _ _ _ _ _ HR.out).mono ?_); rintro e w' ⟨rfl, rfl⟩)
  go_loopw [4, 5] (fun v i wr => ∃ k : Nat, k ≤ len ∧ i = .int .i64 k ∧ Own .u16 38 w.heap.size wr v (unL (xs.take k)) ∧ Below w.heap.size w wr) (fun _ i _ => len - (intOf i).toNat)
  case atStart => exact ⟨0, Nat.zero_le _, rfl, Own.nil _ _ _ _, Below.refl _ _⟩
  case round =>
    obtain ⟨k, hk, rfl, hown', hbel'⟩ := hrel
    by_cases hlt : k < len
    · obtain ⟨b, off, x, rfl, _, hc, h0, h1, hx⟩ := (HR.out.below hbel').getR hlt
      have hb1 := unL_take xs k
      have hb2 := lenU_le x
      rw [hsz] at hb1
      go_wp2_with (first
        | (go_at_call 12; (with_reducible refine (ref06_Of _ _).mono ?_); rintro e w2 ⟨a2, c2, rfl, hr2, hbl2⟩; have ho2 := hown'.below hbl2; have hbel2 := below_then hbel' hbl2)
        | (at_builtin; go_must (refine wpList_more ST16 rfl _ _ rfl rfl rfl ho2 hbel2 hr2 (by omega) ?_); intro v3 w3 ho3 hb3))
      rw [← unL_snoc hx.out.2] at ho3
      clear hown' hbel'
      go_wp2_with fail
      go_roundw
      case rel => exact ⟨k + 1, by omega, by go_num, ho3, hb3⟩
      case measure => simp [intOf]; omega
    · go_wp2_with fail
      obtain ⟨a', cap', rfl, hrd⟩ := hown'.reads
      rw [HR.out.all (show len ≤ k by omega)] at hrd
      go_ret2
      exact ⟨a', cap', by rw [HR.out.all (show len ≤ k by omega)]; rfl, hrd, hbel'⟩
set_option maxHeartbeats 2000000 in
theorem ref06_Octets (a : Option Addr) (len cap : Nat) (xs : List Int) (w : World) (hr : Reads .u16 w a len cap xs) (hN : len < 10000000000) :
    Calls Try.prog 26 #[.slice a len cap] w fun e w' => ∃ a' cap', e = .returned (.slice a' (ocU xs).length cap') ∧ Reads .u8 w' a' (ocU xs).length cap' (ocU xs) ∧ Below w.heap.size w w' := by
  have HR := hid hr
  have hsz := hr.size
  clear hr
  go_enter Try.func26, Try.ntmps26
  go_wp2
  go_loopw [3, 4] (fun v i wr => ∃ k : Nat, k ≤ len ∧ i = .int .i64 k ∧ Own .u8 5 w.heap.size wr v (ocU (xs.take k)) ∧ Below w.heap.size w wr) (fun _ i _ => len - (intOf i).toNat)
  case atStart => exact ⟨0, Nat.zero_le _, rfl, Own.nil _ _ _ _, Below.refl _ _⟩
  case round =>
    obtain ⟨k, hk, rfl, hown', hbel'⟩ := hrel
    by_cases hlt : k < len
    · obtain ⟨b, off, x, rfl, _, hc, h0, h1, hx⟩ := (HR.out.below hbel').get16 hlt
      have hb1 := ocU_len (xs.take k)
      rw [List.length_take] at hb1
      have hll : (ocU (xs.take k)).length + 2 < 1000000000000 := by omega
      have hwf : Hid (∀ y ∈ [x / 256, x % 256], (Lit.int .u8 y).wf = true) := by
        intro y hy; simp at hy; rcases hy with rfl | rfl <;> exact mk_u8 (by omega) (by omega)
      have d1 : x.tdiv 256 = x / 256 := Int.tdiv_eq_ediv_of_nonneg h0
      have d2 : x.tmod 256 = x % 256 := Int.tmod_eq_emod_of_nonneg h0
      have g1 : IntKind.u8.wrap (x / 256) = x / 256 := IntWalk.u8_in _ (by omega)
      have g2 : IntKind.u8.wrap (x % 256) = x % 256 := IntWalk.u8_in _ (by omega)
      have g3 : IntKind.u16.wrap (x / 256) = x / 256 := IntWalk.u16_in _ (by omega)
      have g4 : IntKind.u16.wrap (x % 256) = x % 256 := IntWalk.u16_in _ (by omega)
      go_wp2_with fail
      go_region_law (refine step_pushs (w0 := w) (wr := wr.drew) ST8 [x / 256, x % 256] rfl (.tmp 11) (.tmp 24) rfl rfl ⟨_, rfl⟩ (Nat.zero_lt_succ _) hown'.drew' (below_drew hbel') hll hwf.out ?_; intro v3 w3 ho3 hb3)
      all_goals
        rw [← ocU_snoc hx.out.2] at ho3
        clear hown' hbel' g1 g2 g3 g4 d1 d2
        go_wp2_with fail
        go_roundw
        case rel => exact ⟨k + 1, by omega, by go_num, ho3, hb3⟩
        case measure => simp [intOf]; omega
    · go_wp2_with fail
      obtain ⟨a', cap', rfl, hrd⟩ := hown'.reads
      rw [HR.out.all (show len ≤ k by omega)] at hrd
      go_ret
      exact ⟨a', cap', by rw [HR.out.all (show len ≤ k by omega)]; rfl, hrd, hbel'⟩
theorem ref06_FromOctetsNo (a : Option Addr) (len cap : Nat) (w : World) (hl : len ≤ 9223372036854775807) (ho : len % 2 = 1) :
    Calls Try.prog 23 #[.slice a len cap] w fun e w' => e = .returned (.tuple #[.slice none 0 0, .int .i64 4]) ∧ w = w' := by
  have hmod : ((len : Int) % 2 != 0) = true := by simp; omega
  go_enter Try.func23, Try.ntmps23
  go_wp2
  go_ret2
  exact ⟨rfl, rfl⟩
set_option maxHeartbeats 2000000 in
theorem ref06_FromOctets (a : Option Addr) (len cap : Nat) (xs : List Int) (w : World) (hr : Reads .u8 w a len cap xs) (hN : len < 10000000000) (he : len % 2 = 0) :
    Calls Try.prog 23 #[.slice a len cap] w fun e w' => ∃ a' cap', e = .returned (.tuple #[.slice a' (prU xs).length cap', .int .i64 0]) ∧ Reads .u16 w' a' (prU xs).length cap' (prU xs) ∧ Below w.heap.size w w' := by
  have HR := hid hr
  have hsz := hr.size
  have hmod : ((len : Int) % 2 != 0) = false := by simp; omega
  have hpl := prU_len xs
  clear hr
  go_enter Try.func23, Try.ntmps23
  go_wp2
  clear hmod
  go_loopw [4, 5] (fun v i wr => ∃ (k : Nat) (pre : List Int), k ≤ len ∧ k % 2 = 0 ∧ i = .int .i64 k ∧ Hid (pre ++ prU (xs.drop k) = prU xs) ∧ Own .u16 38 w.heap.size wr v pre ∧ Below w.heap.size w wr) (fun _ i _ => len - (intOf i).toNat)
  case atStart => exact ⟨0, [], Nat.zero_le _, rfl, rfl, rfl, Own.nil _ _ _ _, Below.refl _ _⟩
  case round =>
    obtain ⟨k, pre, hk, hk2, rfl, hps, hown', hbel'⟩ := hrel
    by_cases hlt : k + 1 < len
    · obtain ⟨b, off, x, rfl, hbl, hc, h0, h1, hx⟩ := (HR.out.below hbel').get8 (i := k) (by omega)
      obtain ⟨b', off', y, hb, _, hc2, h02, h12, hy⟩ := (HR.out.below hbel').get8 hlt
      cases hb
      have hprl : pre.length + 1 < 1000000000000 := by
        have := congrArg List.length hps.out
        simp [hpl, hsz] at this; omega
      have hnext : Hid (pre ++ [256 * x + y] ++ prU (xs.drop (k + 2)) = prU xs) := by
        rw [Hid, ← hps.out, prU_step hx.out.1 hy.out.1, List.append_assoc]; rfl
      have hwf : Hid (∀ z ∈ [256 * x + y], (Lit.int .u16 z).wf = true) := by intro z hz; simp at hz; subst hz; exact mk_u16 (by omega) (by omega)
      have g1 : IntKind.i64.wrap ((k : Int) + 1) = (k : Int) + 1 := IntWalk.i64_in _ (by omega)
      have g2 : IntKind.u16.wrap (256 * x) = 256 * x := IntWalk.u16_in _ (by omega)
      have g3 : IntKind.u16.wrap x = x := IntWalk.u16_in _ (by omega)
      have g4 : IntKind.u16.wrap y = y := IntWalk.u16_in _ (by omega)
      have g5 : IntKind.u16.wrap (256 * x + y) = 256 * x + y := IntWalk.u16_in _ (by omega)
      have p2 : 0 ≤ (k : Int) + 1 := by omega
      have q2 : (k : Int) + 1 < len := by omega
      have q1 : (k : Int) < len := by omega
      have t2 : ((k : Int) + 1).toNat = k + 1 := by omega
      clear hps
      go_wp2_with fail
      go_region_law (refine step_pushs (w0 := w) (wr := wr.drew) ST16 [256 * x + y] rfl (.tmp 17) (.tmp 31) rfl rfl ⟨_, rfl⟩ (Nat.zero_lt_succ _) hown'.drew' (below_drew hbel') hprl hwf.out ?_; intro v3 w3 ho3 hb3)
      all_goals
        clear hown' hbel' g1 g2 g3 g4 g5 p2 q1 q2 t2 hc hc2
        go_wp2_with fail
        go_roundw
        case rel => exact ⟨k + 2, _, by omega, by omega, by go_num, hnext, ho3, hb3⟩
        case measure => simp [intOf]; omega
    · go_wp2_with fail
      have hend : pre = prU xs := by
        have := hps.out
        rwa [List.drop_of_length_le (by omega), show prU [] = [] from rfl, List.append_nil] at this
      subst hend
      obtain ⟨a', cap', rfl, hrd⟩ := hown'.reads
      go_ret2
      exact ⟨a', cap', rfl, hrd, hbel'⟩
set_option maxHeartbeats 1000000 in
theorem ref06_Same (a : Option Addr) (len cap : Nat) (xs : List Int) (a2 : Option Addr) (len2 cap2 : Nat) (ys : List Int) (w : World) (hr : Reads .u16 w a len cap xs) (hr2 : Reads .u16 w a2 len2 cap2 ys) :
    Calls Try.prog 10 #[.slice a len cap, .slice a2 len2 cap2] w fun e w' => e = .returned (.bool (decide (xs = ys))) ∧ ∃ n, w' = w.drewN n := by
  have hl := hr.len_le
  have hl2 := hr2.len_le
  have HR := hid hr
  have HR2 := hid hr2
  clear hr hr2
  by_cases he : len = len2
  · subst he
    go_enter Try.func10, Try.ntmps10
    go_wp2
    go_loopw [5] (fun i wr => ∃ k : Nat, k ≤ len ∧ i = .int .i64 k ∧ Hid (xs.take k = ys.take k) ∧ ∃ n, wr = w.drewN n) (fun i _ => len - (intOf i).toNat)
    case atStart => exact ⟨0, Nat.zero_le _, rfl, rfl, 0, rfl⟩
    case round =>
      obtain ⟨k, hk, rfl, hn, n, rfl⟩ := hrel
      by_cases hlt : k < len
      · obtain ⟨b, off, x, rfl, _, hc, h0, h1, hx⟩ := HR.out.get16 hlt
        obtain ⟨b2, off2, y, rfl, _, hc2, h02, h12, hy⟩ := HR2.out.get16 hlt
        go_wp2
        go_quiet (fail)
        go_wp2
        · go_ret
          exact ⟨ret_bool (eq_no hx.out.1 hy.out.1 ‹_›).symm, by simp only [World.drewN_drewN]; exact ⟨_, rfl⟩⟩
        · go_roundw
          case rel => exact ⟨k + 1, by omega, by go_num, eq_yes hx.out.2 hy.out.2 hn.out ‹_›, _, rfl⟩
          case measure => simp [intOf]; omega
      · go_wp2
        go_ret
        exact ⟨ret_bool (by rw [← HR.out.all (show len ≤ k by omega), ← HR2.out.all (show len ≤ k by omega)]; exact (decide_eq_true hn.out).symm), _, rfl⟩
  · have hne : ((len : Int) != len2) = true := by simp; omega
    go_enter Try.func10, Try.ntmps10
    go_wp2
    go_ret
    exact ⟨ret_bool (eq_len (by rw [HR.out.size, HR2.out.size]; exact he)).symm, 0, rfl⟩

end Go.Proofs.Yteihhadcmmdidaa
