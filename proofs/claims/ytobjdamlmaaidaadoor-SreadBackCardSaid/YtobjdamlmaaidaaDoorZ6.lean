/-
  Texts of ours laid together: R06, R22, Keep, Rgn, R22b.
-/
import Derived.ArgAppend
import Derived.Test.YtobjdamlmaaidaaDoorZ5

/-! R06 -/
namespace Go.Proofs.YtobjdamlmaaidaaDoor
open Go.RowKit
set_option linter.unusedVariables false

theorem idx_not_neg6 {xs : List Int} (h : xs.all scB = true) : idxI (fun c => !scB c) xs < 0 := by
  have := idx_neg (fun c => !scB c) xs
  simp only [Bool.not_not] at this
  rw [h] at this; simpa using this
theorem idx_not_pos6 {xs : List Int} (h : xs.all scB = false) : 0 ≤ idxI (fun c => !scB c) xs := by
  have := idx_neg (fun c => !scB c) xs
  simp only [Bool.not_not] at this
  rw [h] at this; simpa using this

theorem drop_at {xs : List Int} {k : Nat} {x : Int} (h : xs[k]? = some x) : xs.drop k = x :: xs.drop (k + 1) := by
  have hk : k < xs.length := (List.getElem?_eq_some_iff.1 h).1
  rw [List.drop_eq_getElem_cons hk, (List.getElem?_eq_some_iff.1 h).2]
theorem ur_one {xs : List Int} {k : Nat} {x : Int} (h : xs[k]? = some x) (hs : surB x = false) : usigs (xs.drop k) = (x, 0) :: usigs (xs.drop (k + 1)) := by
  rw [drop_at h]
  have hh : hiB x = false := by have := hi_lo x; rw [hs] at this; cases hx : hiB x with | false => rfl | true => rw [hx] at this; cases this
  have hp : utP (x :: xs.drop (k + 1)) = false := by rw [utP_hd]; simp [hdB, hh]
  rw [usigs_cons (by simp)]
  simp [ut1, utN, hp, hs]
theorem ur_low {xs : List Int} {k : Nat} {x : Int} (h : xs[k]? = some x) (hh : hiB x = false) (hs : surB x = true) : usigs (xs.drop k) = (65533, 3) :: usigs (xs.drop (k + 1)) := by
  rw [drop_at h]
  have hp : utP (x :: xs.drop (k + 1)) = false := by rw [utP_hd]; simp [hdB, hh]
  rw [usigs_cons (by simp)]
  simp [ut1, utN, hp, hs, hh]
theorem ur_end {xs : List Int} {k : Nat} {x : Int} (h : xs[k]? = some x) (hh : hiB x = true) (hl : xs.length = k + 1) : usigs (xs.drop k) = (65533, 4) :: usigs (xs.drop (k + 1)) := by
  rw [drop_at h, List.drop_of_length_le (show xs.length ≤ k + 1 by omega)]
  have hs : surB x = true := by rw [hi_lo, hh]; rfl
  have hp : utP [x] = false := rfl
  rw [usigs_cons (by simp)]
  simp [ut1, utN, hp, hs, hh]
theorem ur_high {xs : List Int} {k : Nat} {x y : Int} (h : xs[k]? = some x) (h' : xs[k + 1]? = some y) (hh : hiB x = true) (hl : loB y = false) : usigs (xs.drop k) = (65533, 3) :: usigs (xs.drop (k + 1)) := by
  rw [drop_at h, drop_at h']
  have hs : surB x = true := by rw [hi_lo, hh]; rfl
  have hp : utP (x :: y :: xs.drop (k + 1 + 1)) = false := by simp [utP, hl]
  rw [usigs_cons (xs := x :: y :: xs.drop (k + 1 + 1)) (by simp)]
  simp [ut1, utN, hp, hs, hh]
theorem ur_pair {xs : List Int} {k : Nat} {x y : Int} (h : xs[k]? = some x) (h' : xs[k + 1]? = some y) (hh : hiB x = true) (hl : loB y = true) : usigs (xs.drop k) = (pairU x y, 0) :: usigs (xs.drop (k + 2)) := by
  rw [drop_at h, drop_at h']
  have hp : utP (x :: y :: xs.drop (k + 1 + 1)) = true := by simp [utP, hh, hl]
  rw [usigs_cons (by simp)]
  simp [ut1, utN, hp]

theorem ST16 : SliceT Tryd.prog 48 70 .u16 2 := ⟨Tryd.underlying48, by kernel_rfl, by decide⟩
set_option maxHeartbeats 1000000 in
theorem ref06_Of (c : Int) (w : World) :
    Calls Tryd.prog 33 #[.int .i32 c] w fun e w' => ∃ a' cap', e = .returned (.slice a' (lenU c) cap') ∧ Reads .u16 w' a' (lenU c) cap' (uns c) ∧ Below w.heap.size w w' := by
  have hwf := hid (uns_wf c)
  cases hs : scB c
  · have e : uns c = [] := by unfold uns; rw [if_neg (by simp [hs])]
    have el : lenU c = 0 := by unfold lenU; rw [e]; rfl
    rw [e, el]
    clear e el
    go_enter Tryd.func33, Tryd.ntmps33
    go_wp2_with (go_at_call 13; (with_reducible refine (ref03_Is _ _).mono ?_); rintro e w' ⟨rfl, rfl⟩)
    go_ret
    exact ⟨none, 0, rfl, Reads.nil _ _ _ _ (Nat.zero_le _), Below.refl _ _⟩
  · have hc := (scB_iff c).1 hs
    by_cases h1 : c < 65536
    · have e : uns c = [c] := by unfold uns; rw [if_pos hs, if_pos h1]
      have el : lenU c = 1 := by unfold lenU; rw [e]; rfl
      rw [e] at hwf
      rw [e, el]
      clear e el
      go_enter Tryd.func33, Tryd.ntmps33
      go_wp2_with (go_at_call 13; (with_reducible refine (ref03_Is _ _).mono ?_); rintro e w' ⟨rfl, rfl⟩)
      go_ret
      exact ⟨_, _, rfl, Reads.lit .u16 _ w _ (by simp [maxLen]) hwf.out, (Below.refl _ _).alloc (Nat.le_refl _) _⟩
    · have e : uns c = [55296 + (c - 65536) / 1024, 56320 + (c - 65536) % 1024] := by unfold uns; rw [if_pos hs, if_neg h1]
      have el : lenU c = 2 := by unfold lenU; rw [e]; rfl
      rw [e] at hwf
      rw [e, el]
      clear e el
      go_enter Tryd.func33, Tryd.ntmps33
      go_wp2_with (go_at_call 13; (with_reducible refine (ref03_Is _ _).mono ?_); rintro e w' ⟨rfl, rfl⟩)
      go_ret
      exact ⟨_, _, rfl, Reads.lit .u16 _ w _ (by simp [maxLen]) hwf.out, (Below.refl _ _).alloc (Nat.le_refl _) _⟩
set_option maxHeartbeats 1000000 in
theorem ref06_LayNo (a : Option Addr) (len cap : Nat) (xs : List Int) (w : World) (hr : Reads .i32 w a len cap xs) (hs : xs.all scB = false) :
    Calls Tryd.prog 23 #[.slice a len cap] w fun e w' => e = .returned (.tuple #[.slice none 0 0, .int .i64 7]) ∧ w = w' := by
  have HR := hid hr
  have hi := idx_not_pos6 hs
  clear hr
  go_enter Tryd.func23, Tryd.ntmps23
  go_wp2_with (go_at_call 5; (with_reducible refine (ref03_First _ _ _ _ _ HR.out).mono ?_); rintro e w' ⟨rfl, rfl⟩)
  go_ret2
  exact ⟨rfl, rfl⟩
set_option maxHeartbeats 1000000 in
theorem ref06_Lay (a : Option Addr) (len cap : Nat) (xs : List Int) (w : World) (hr : Reads .i32 w a len cap xs) (hN : len < 10000000000) (hs : xs.all scB = true) :
    Calls Tryd.prog 23 #[.slice a len cap] w fun e w' => ∃ a' cap', e = .returned (.tuple #[.slice a' (unL xs).length cap', .int .i64 0]) ∧ Reads .u16 w' a' (unL xs).length cap' (unL xs) ∧ Below w.heap.size w w' := by
  have HR := hid hr
  have hsz := hr.size
  have hi := idx_not_neg6 hs
  clear hr
  go_enter Tryd.func23, Tryd.ntmps23
  go_wp2_with (go_at_call 5; (with_reducible refine (ref03_First _ _ _ _ _ HR.out).mono ?_); rintro e w' ⟨rfl, rfl⟩)
  go_loopw [4, 5] (fun v i wr => ∃ k : Nat, k ≤ len ∧ i = .int .i64 k ∧ Own .u16 70 w.heap.size wr v (unL (xs.take k)) ∧ Below w.heap.size w wr) (fun _ i _ => len - (intOf i).toNat)
  case atStart => exact ⟨0, Nat.zero_le _, rfl, Own.nil _ _ _ _, Below.refl _ _⟩
  case round =>
    obtain ⟨k, hk, rfl, hown', hbel'⟩ := hrel
    by_cases hlt : k < len
    · obtain ⟨b, off, x, rfl, _, hc, h0, h1, hx⟩ := (HR.out.below hbel').getR hlt
      have hb1 := unL_take xs k
      have hb2 := lenU_le x
      rw [hsz] at hb1
      go_wp2_with (first
        | (go_at_call 33; (with_reducible refine (ref06_Of _ _).mono ?_); rintro e w2 ⟨a2, c2, rfl, hr2, hbl2⟩; have ho2 := hown'.below hbl2; have hbel2 := below_then hbel' hbl2)
        | (at_builtin; go_must (refine wpList_more ST16 rfl _ _ rfl rfl rfl ho2 hbel2 hr2 (by omega) ?_); intro v3 w3 ho3 hb3))
      rw [← unL_snoc hx.out.2] at ho3
      clear hown' hbel'
      go_wp2_with fail
      go_roundw
      case rel => exact ⟨k + 1, by omega, by go_num, ho3, hb3⟩
      case measure => simp [intOf]; omega
    · go_wp2_with fail
      obtain ⟨a', cap', rfl, hrd⟩ := hown'.reads
      rw [HR.out.all (show len ≤ k by omega)] at hrd
      go_ret2
      exact ⟨a', cap', by rw [HR.out.all (show len ≤ k by omega)]; rfl, hrd, hbel'⟩
set_option maxHeartbeats 2000000 in
theorem ref06_Octets (a : Option Addr) (len cap : Nat) (xs : List Int) (w : World) (hr : Reads .u16 w a len cap xs) (hN : len < 10000000000) :
    Calls Tryd.prog 25 #[.slice a len cap] w fun e w' => ∃ a' cap', e = .returned (.slice a' (ocU xs).length cap') ∧ Reads .u8 w' a' (ocU xs).length cap' (ocU xs) ∧ Below w.heap.size w w' := by
  have HR := hid hr
  have hsz := hr.size
  clear hr
  go_enter Tryd.func25, Tryd.ntmps25
  go_wp2
  go_loopw [3, 4] (fun v i wr => ∃ k : Nat, k ≤ len ∧ i = .int .i64 k ∧ Own .u8 5 w.heap.size wr v (ocU (xs.take k)) ∧ Below w.heap.size w wr) (fun _ i _ => len - (intOf i).toNat)
  case atStart => exact ⟨0, Nat.zero_le _, rfl, Own.nil _ _ _ _, Below.refl _ _⟩
  case round =>
    obtain ⟨k, hk, rfl, hown', hbel'⟩ := hrel
    by_cases hlt : k < len
    · obtain ⟨b, off, x, rfl, _, hc, h0, h1, hx⟩ := (HR.out.below hbel').get16 hlt
      have hb1 := ocU_len (xs.take k)
      rw [List.length_take] at hb1
      have hll : (ocU (xs.take k)).length + 2 < 1000000000000 := by omega
      have hwf : Hid (∀ y ∈ [x / 256, x % 256], (Lit.int .u8 y).wf = true) := by
        intro y hy; simp at hy; rcases hy with rfl | rfl <;> exact mk_u8 (by omega) (by omega)
      have d1 : x.tdiv 256 = x / 256 := Int.tdiv_eq_ediv_of_nonneg h0
      have d2 : x.tmod 256 = x % 256 := Int.tmod_eq_emod_of_nonneg h0
      have g1 : IntKind.u8.wrap (x / 256) = x / 256 := IntWalk.u8_in _ (by omega)
      have g2 : IntKind.u8.wrap (x % 256) = x % 256 := IntWalk.u8_in _ (by omega)
      have g3 : IntKind.u16.wrap (x / 256) = x / 256 := IntWalk.u16_in _ (by omega)
      have g4 : IntKind.u16.wrap (x % 256) = x % 256 := IntWalk.u16_in _ (by omega)
      go_wp2_with fail
      go_region_law (refine step_pushs (w0 := w) (wr := wr.drew) ST8 [x / 256, x % 256] rfl (.tmp 11) (.tmp 24) rfl rfl ⟨_, rfl⟩ (Nat.zero_lt_succ _) hown'.drew' (below_drew hbel') hll hwf.out ?_; intro v3 w3 ho3 hb3)
      all_goals
        rw [← ocU_snoc hx.out.2] at ho3
        clear hown' hbel' g1 g2 g3 g4 d1 d2
        go_wp2_with fail
        go_roundw
        case rel => exact ⟨k + 1, by omega, by go_num, ho3, hb3⟩
        case measure => simp [intOf]; omega
    · go_wp2_with fail
      obtain ⟨a', cap', rfl, hrd⟩ := hown'.reads
      rw [HR.out.all (show len ≤ k by omega)] at hrd
      go_ret
      exact ⟨a', cap', by rw [HR.out.all (show len ≤ k by omega)]; rfl, hrd, hbel'⟩

end Go.Proofs.YtobjdamlmaaidaaDoor

/-! R22 -/
namespace Go.Proofs.YtobjdamlmaaidaaDoor
open Go.RowKit
set_option linter.unusedVariables false

set_option maxRecDepth 100000 in
set_option maxHeartbeats 2000000 in
theorem ref22_Direct (c : Int) (w : World) :
    Calls Tryd.prog 16 #[.int .i32 c] w fun e w' => e = .returned (.bool (dirB c)) ∧ Below w.heap.size w w' := by
  have hb := (Below.refl w.heap.size w).alloc (Nat.le_refl _) (.cells #[.int .i32 39, .int .i32 40, .int .i32 41, .int .i32 44, .int .i32 45, .int .i32 46, .int .i32 47, .int .i32 58, .int .i32 63, .int .i32 32, .int .i32 9, .int .i32 13, .int .i32 10] 21)
  have hlit : Reads .i32 (w.alloc (.cells #[.int .i32 39, .int .i32 40, .int .i32 41, .int .i32 44, .int .i32 45, .int .i32 46, .int .i32 47, .int .i32 58, .int .i32 63, .int .i32 32, .int .i32 9, .int .i32 13, .int .i32 10] 21)) (some ⟨w.heap.size, 0, none⟩) 13 13 dirT := Reads.lit .i32 21 w dirT (by decide) (by decide)
  by_cases hl : (65 ≤ c ∧ c ≤ 90) ∨ (97 ≤ c ∧ c ≤ 122) ∨ (48 ≤ c ∧ c ≤ 57)
  · have hd : dirB c = true := by
      unfold dirB
      rcases hl with h | h | h
      · rw [decide_eq_true h]; rfl
      · rw [decide_eq_true h]; simp
      · rw [decide_eq_true h]; simp
    rw [hd]
    clear hlit hd
    have hK : (decide (65 ≤ c) = true ∧ decide (c ≤ 90) = true) ∨ (decide (65 ≤ c) = true ∧ decide (c ≤ 90) = false ∧ decide (97 ≤ c) = true ∧ decide (c ≤ 122) = true) ∨ (decide (65 ≤ c) = false ∧ decide (97 ≤ c) = false ∧ decide (48 ≤ c) = true ∧ decide (c ≤ 57) = true) := by
      rcases hl with h | h | h
      · exact .inl ⟨decide_eq_true h.1, decide_eq_true h.2⟩
      · exact .inr (.inl ⟨decide_eq_true (by omega), decide_eq_false (by omega), decide_eq_true h.1, decide_eq_true h.2⟩)
      · exact .inr (.inr ⟨decide_eq_false (by omega), decide_eq_false (by omega), decide_eq_true h.1, decide_eq_true h.2⟩)
    clear hl
    rcases hK with ⟨e1, e2⟩ | ⟨e1, e2, e3, e4⟩ | ⟨e1, e2, e3, e4⟩
    all_goals
      go_enter Tryd.func16, Tryd.ntmps16
      go_wp2_with fail
      go_ret
      exact ⟨rfl, Below.refl _ _⟩
  · have hd : dirB c = dirT.any (fun x => decide (x = c)) := by
      unfold dirB
      rw [decide_eq_false (fun h => hl (.inl h)), decide_eq_false (fun h => hl (.inr (.inl h))), decide_eq_false (fun h => hl (.inr (.inr h)))]
      rfl
    rw [hd]
    have hK : (decide (65 ≤ c) = true ∧ decide (c ≤ 90) = false ∧ decide (97 ≤ c) = true ∧ decide (c ≤ 122) = false ∧ decide (48 ≤ c) = true ∧ decide (c ≤ 57) = false) ∨ (decide (65 ≤ c) = true ∧ decide (c ≤ 90) = false ∧ decide (97 ≤ c) = false ∧ decide (48 ≤ c) = true ∧ decide (c ≤ 57) = false) ∨ (decide (65 ≤ c) = false ∧ decide (97 ≤ c) = false ∧ decide (48 ≤ c) = true ∧ decide (c ≤ 57) = false) ∨ (decide (65 ≤ c) = false ∧ decide (97 ≤ c) = false ∧ decide (48 ≤ c) = false) := by
      simp only [decide_eq_true_eq, decide_eq_false_iff_not]
      omega
    have H := hid hlit
    clear hl hd hlit
    rcases hK with ⟨e1, e2, e3, e4, e5, e6⟩ | ⟨e1, e2, e3, e4, e5⟩ | ⟨e1, e2, e3, e4⟩ | ⟨e1, e2, e3⟩
    all_goals
      go_enter Tryd.func16, Tryd.ntmps16
      go_wp2_with fail
      clear e1 e2 e3
      generalize (w.alloc (.cells #[.int .i32 39, .int .i32 40, .int .i32 41, .int .i32 44, .int .i32 45, .int .i32 46, .int .i32 47, .int .i32 58, .int .i32 63, .int .i32 32, .int .i32 9, .int .i32 13, .int .i32 10] 21)) = W2 at *
      go_loop [4] (fun i => ∃ k : Nat, k ≤ 13 ∧ i = .int .i64 k ∧ Hid ((dirT.take k).any (fun x => decide (x = c)) = false)) (fun i => 13 - (intOf i).toNat)
      case atStart => exact ⟨0, by omega, rfl, rfl⟩
      case round =>
        obtain ⟨k, hk, rfl, hn⟩ := hrel
        by_cases hlt : k < 13
        · obtain ⟨b, off, x, hA, _, hc, _, _, hx⟩ := H.out.getR hlt
          cases hA
          rw [Nat.zero_add] at hc
          by_cases hxc : x = c
          · subst hxc
            have HA := hid (any_hit (f := fun y => decide (y = x)) hx.out.1 (decide_eq_true rfl))
            clear hn
            go_wp2_with fail
            go_ret
            exact ⟨ret_bool HA.out.symm, hb⟩
          · have HN := hid (none_yes hx.out.2 hn.out (decide_eq_false hxc))
            have hne : (x == c) = false := by simpa using hxc
            clear hn hxc
            go_wp2_with fail
            go_round
            case rel => exact ⟨k + 1, by omega, by go_num, HN⟩
            case measure => simp [intOf]; omega
        · obtain rfl : k = 13 := by omega
          have HA := hid (show dirT.any (fun x => decide (x = c)) = false from hn.out)
          clear hn
          go_wp2_with fail
          go_ret
          exact ⟨ret_bool HA.out.symm, hb⟩
set_option maxHeartbeats 2000000 in
theorem ref22_Code (a : Option Addr) (len cap : Nat) (xs : List Int) (w : World) (hr : Reads .i32 w a len cap xs) (hN : len < 1000000) :
    Calls Tryd.prog 17 #[.slice a len cap] w fun e w' => ∃ v, e = .returned v ∧ Own .u8 5 w.heap.size w' v (codU xs) ∧ Below w.heap.size w w' := by
  unfold codU
  by_cases hs : xs.all scB = true
  · rw [if_pos hs]
    have hL := ref06_Lay a len cap xs w hr (by omega) hs
    have hu : (unL xs).length ≤ 2 * len := by have := unL_len xs; have := hr.size; omega
    have ho : (ocU (unL xs)).length ≤ 4 * len := by have := ocU_len (unL xs); omega
    generalize unL xs = U at hL hu ho ⊢
    obtain ⟨n, hn⟩ : ∃ n, n = U.length := ⟨_, rfl⟩
    obtain ⟨m, hm⟩ : ∃ m, m = (ocU U).length := ⟨_, rfl⟩
    rw [← hn] at hL hu
    rw [← hm] at ho
    have HL := hid hL
    have HM := hid hm
    clear hr hL hn hm hs
    go_enter Tryd.func17, Tryd.ntmps17
    go_wp2_with (first
      | (go_at_call 23; (with_reducible refine HL.out.mono ?_); rintro e w1 ⟨a1, c1, rfl, r1, h1⟩)
      | (go_at_call 25; (with_reducible refine (ref06_Octets _ _ _ _ _ r1 (by omega)).mono ?_); rintro e w2 ⟨a2, c2, rfl, r2, h2⟩; rw [← HM.out] at r2; rw [← HM.out]; have t2 := below_then h1 h2)
      | (go_at_call 24; (with_reducible refine (ref14_Bare _ _ _ _ _ r2 (by omega)).mono ?_); rintro e w3 ⟨v3, rfl, o3, h3⟩; have t3 := below_then t2 h3))
    go_ret
    exact ⟨_, rfl, own_mono o3 t2.size, t3⟩
  · rw [if_neg hs]
    have HL := hid (ref06_LayNo a len cap xs w hr (by simpa using hs))
    clear hr hs
    go_enter Tryd.func17, Tryd.ntmps17
    go_wp2_with (go_at_call 23; (with_reducible refine HL.out.mono ?_); rintro e w1 ⟨rfl, rfl⟩)
    go_ret
    exact ⟨_, rfl, Own.nil _ _ _ _, Below.refl _ _⟩
set_option maxRecDepth 100000 in
set_option maxHeartbeats 2000000 in
theorem ref22_Runs (a : Option Addr) (len cap : Nat) (xs : List Int) (w : World) (hr : Reads .i32 w a len cap xs) :
    Calls Tryd.prog 15 #[.slice a len cap] w fun e w' => e = .returned (.int .i64 (runN xs false)) ∧ Below w.heap.size w w' := by
  have HR := hid hr
  have hl := hr.len_le
  have hsz := hr.size
  clear hr
  obtain ⟨N, hN⟩ : ∃ N, N = runN xs false := ⟨_, rfl⟩
  have hle := runN_le xs false
  rw [← hN] at hle ⊢
  go_enter Tryd.func15, Tryd.ntmps15
  go_wp2_with fail
  go_loopw [3, 4, 5] (fun n f i wr => ∃ (k j : Nat) (g : Bool), k ≤ len ∧ i = .int .i64 k ∧ n = .int .i64 j ∧ f = .bool g ∧ Hid (j + runN (xs.drop k) g = N) ∧ j ≤ N ∧ Below w.heap.size w wr) (fun _ _ i _ => len - (intOf i).toNat)
  case atStart => exact ⟨0, 0, false, Nat.zero_le _, rfl, rfl, rfl, by unfold Hid; rw [List.drop_zero, Nat.zero_add, hN], Nat.zero_le _, Below.refl _ _⟩
  case round =>
    obtain ⟨k, j, g, hk, rfl, rfl, rfl, hn, hj, hbel⟩ := hrel
    by_cases hlt : k < len
    · obtain ⟨b, off, x, rfl, hbw, hcw, _, _, hx⟩ := HR.out.getR hlt
      have hc := (hbel.cell (p := ⟨b, off + k, none⟩) hbw).trans hcw
      have hd : xs.drop k = x :: xs.drop (k + 1) := by
        rw [List.drop_eq_getElem_cons (by omega)]
        have := hx.out.1
        rw [List.getElem?_eq_getElem (by omega)] at this
        rw [Option.some.inj this]
      have hn' := hn.out
      rw [hd, runN] at hn'
      cases hdx : dirB x
      · rw [hdx, if_neg (by decide)] at hn'
        by_cases hq : g = false ∧ x ≠ 43
        · rw [if_pos hq] at hn'
          obtain ⟨rfl, h43⟩ := hq
          have hne : (x != 43) = true := by simpa using h43
          have HN := hid (show (j + 1) + runN (xs.drop (k + 1)) true = N by omega)
          have hj2 : j + 1 ≤ N := by omega
          clear hn hn' hd h43
          go_wp2_with (go_at_call 16; (with_reducible refine (ref22_Direct _ _).mono ?_); rintro e w1 ⟨rfl, h1⟩; rw [hdx]; have hc1 := (h1.cell (p := ⟨b, off + k, none⟩) (Nat.lt_of_lt_of_le hbw hbel.size)).trans hc)
          go_roundw
          case rel => exact ⟨k + 1, j + 1, true, by omega, by go_num, by go_num, rfl, HN, hj2, below_then hbel h1⟩
          case measure => simp [intOf]; omega
        · rw [if_neg hq] at hn'
          have HN := hid hn'
          have hK : g = true ∨ (g = false ∧ x = 43) := by
            cases g
            · exact .inr ⟨rfl, by by_cases h : x = 43; exact h; exact absurd ⟨rfl, h⟩ hq⟩
            · exact .inl rfl
          clear hn hn' hd hq
          rcases hK with rfl | ⟨rfl, rfl⟩
          all_goals
            go_wp2_with (go_at_call 16; (with_reducible refine (ref22_Direct _ _).mono ?_); rintro e w1 ⟨rfl, h1⟩; rw [hdx]; have hc1 := (h1.cell (p := ⟨b, off + k, none⟩) (Nat.lt_of_lt_of_le hbw hbel.size)).trans hc)
            go_roundw
            case rel => exact ⟨k + 1, j, _, by omega, by go_num, rfl, rfl, HN, hj, below_then hbel h1⟩
            case measure => simp [intOf]; omega
      · rw [hdx, if_pos rfl] at hn'
        have HN := hid hn'
        clear hn hn' hd
        go_wp2_with (go_at_call 16; (with_reducible refine (ref22_Direct _ _).mono ?_); rintro e w1 ⟨rfl, h1⟩; rw [hdx])
        go_roundw
        case rel => exact ⟨k + 1, j, false, by omega, by go_num, rfl, rfl, HN, hj, below_then hbel h1⟩
        case measure => simp [intOf]; omega
    · have hn' := hn.out
      rw [List.drop_of_length_le (by omega), runN, Nat.add_zero] at hn'
      go_wp2_with fail
      go_ret
      exact ⟨ret_int (by rw [hn']), hbel⟩
end Go.Proofs.YtobjdamlmaaidaaDoor

/-! Keep -/
namespace Go.Proofs.YtobjdamlmaaidaaDoor
open Go.RowKit
set_option linter.unusedVariables false

theorem own_mono' {k : IntKind} {e : TypeId} {base base' : Nat} {w : World} {v : Value} {xs : List Int} (h : Own k e base w v xs) (hb : base' ≤ base) : Own k e base' w v xs := by
  refine ⟨⟨h.1.1, ?_⟩, h.2⟩
  rcases h.1.2 with h' | ⟨g, cap, cur, h1, h2, h3⟩
  · exact .inl h'
  · exact .inr ⟨g, cap, cur, h1, Nat.le_trans hb h2, h3⟩
theorem Own.fresh {k : IntKind} {e : TypeId} {base : Nat} {w : World} {a : Option Addr} {n c : Nat} {xs : List Int} (h : Own k e base w (.slice a n c) xs) : ∀ b off, a = some ⟨b, off, none⟩ → base ≤ b := by
  intro b off ha
  rcases h.1.2 with ⟨hv, _⟩ | ⟨g, cap, cur, hv, hg, _⟩
  · cases hv; cases ha
  · cases hv; cases ha; exact hg
theorem Own.blockLt {k : IntKind} {e : TypeId} {base : Nat} {w : World} {v : Value} {xs : List Int} (h : Own k e base w v xs) : ∀ j, v.ownBlock = some j → j < w.heap.size := fun j hj => (h.1.lt j hj).2
theorem Reads.sameBlock {k : IntKind} {w w' : World} {a : Option Addr} {len cap : Nat} {xs : List Int} (h : Reads k w a len cap xs) (hs : w.heap.size ≤ w'.heap.size) (hb : ∀ b off, a = some ⟨b, off, none⟩ → w'.heap[b]? = w.heap[b]?) : Reads k w' a len cap xs := by
  refine ⟨h.size, h.room, h.top, h.wf, fun hl => ?_⟩
  obtain ⟨b, off, ha, hlt, hc⟩ := h.cell hl
  refine ⟨b, off, ha, Nat.lt_of_lt_of_le hlt hs, fun i hi => ?_⟩
  rw [World.cell?_of_block (w := w) (hb b off ha)]
  exact hc i hi
section
variable {P : Program} {ops : Array Oper} {rest : List Oper} {o : Oper} {a : Act} {Q : Exit → Act → World → Prop} {t e : TypeId} {k : IntKind} {by_ : Nat}
theorem wpList_pushsK (ST : SliceT P t e k by_) (ys : List Int) (hgd : o.guard = none) (s x : Operand) (ho : o.op = .call { callee := .builtin .append, args := #[s, x], argTypes := #[t, t] })
    {w0 wr : World} {e' : TypeId} {v : Value} {xs : List Int} (hs : a.eval s = v) (hx : ∃ c, a.eval x = .slice (some ⟨wr.heap.size, 0, none⟩) ys.length c)
    (hown : Own k e w0.heap.size wr v xs) (hbel : Below w0.heap.size w0 wr) (hlen : xs.length + ys.length < 1000000000000) (hwf : ∀ y ∈ ys, (Lit.int k y).wf = true)
    (h : ∀ v' w', Own k e w0.heap.size w' v' (xs ++ ys) → Below w0.heap.size w0 w' →
      (∀ (k2 : IntKind) (ao : Option Addr) (n c : Nat) (zs : List Int), Reads k2 wr ao n c zs → (∀ b off, ao = some ⟨b, off, none⟩ → v.ownBlock ≠ some b) → Reads k2 w' ao n c zs) → wpList P ops Q rest (a.put o.dst v') w') :
    wpList P ops Q (o :: rest) a (wr.alloc (.cells (ys.map (Value.int k)).toArray e')) := by
  obtain ⟨i, hi, hz0, hz1, hz2⟩ := info_parts ST.info
  obtain ⟨c, hx⟩ := hx
  have hsm := ST.small
  have hmul : (xs.length + ys.length) * by_ ≤ (xs.length + ys.length) * 8 := Nat.mul_le_mul_left _ hsm
  refine wpList_append_own _ hgd s x t ho w0.heap.size e i (.int k 0) 1 by_ ST.under hi hz0 hz1 hz2 rfl (by decide) v xs.length (xs.map (Value.int k)) hs (hown.1.alloc _) ⟨wr.heap.size, 0, none⟩ ys.length c (ys.map (Value.int k)) hx (by simp) ?_ (ints_oneCell _ _) (by unfold maxLen; omega) (by omega)
    (Nat.le_trans hbel.size (by simp)) ?_
  · intro j u hj
    rw [Addr.add_lit, World.cell?_alloc_at _ _ _ _ rfl]
    simpa using hj
  · intro v' w' hown' hgrow _
    refine h v' w' ⟨by simpa using hown', ?_⟩ ((hbel.alloc hbel.size _).grown hgrow (Nat.le_trans hbel.size (by simp)) (fun j hj => (hown.1.lt j hj).1)) ?_
    · intro z hz
      rcases List.mem_append.1 hz with hz | hz
      · exact hown.2 z hz
      · exact hwf z hz
    · intro k2 ao n c2 zs hr hne
      have h1 : Reads k2 (wr.alloc (.cells (ys.map (Value.int k)).toArray e')) ao n c2 zs := hr.below ((Below.refl _ _).alloc (Nat.le_refl _) _)
      by_cases hn : 0 < n
      · obtain ⟨b, off, ha, hlt, _⟩ := h1.cell hn
        refine h1.sameBlock hgrow.size fun b' off' ha' => ?_
        rw [ha] at ha'
        cases ha'
        exact hgrow.block b hlt (fun hh => hne b off ha hh.symm)
      · exact ⟨h1.size, h1.room, h1.top, h1.wf, fun hl => absurd hl hn⟩
/-- Append to a full slice that is not the call's own: a new row. -/
theorem wpList_grows (ST : SliceT P t e k by_) (hgd : o.guard = none) (s x : Operand) (ho : o.op = .call { callee := .builtin .append, args := #[s, x], argTypes := #[t, t] })
    {w0 wr : World} {b1 : Addr} {n cap m c : Nat} {a2 : Option Addr} {xs ys : List Int} (hs : a.eval s = .slice (some b1) n cap) (hx : a.eval x = .slice a2 m c)
    (hr1 : Reads k wr (some b1) n cap xs) (hr2 : Reads k wr a2 m c ys) (hbel : Below w0.heap.size w0 wr) (hm : 0 < m) (hfull : cap < n + m) (hlen : n + m < 1000000000000)
    (h : ∀ v' w', Own k e w0.heap.size w' v' (xs ++ ys) → Below w0.heap.size w0 w' → wpList P ops Q rest (a.put o.dst v') w') :
    wpList P ops Q (o :: rest) a wr := by
  obtain ⟨i, hi, hz0, hz1, hz2⟩ := info_parts ST.info
  have hsm := ST.small
  have hmul : (n + m) * by_ ≤ (n + m) * 8 := Nat.mul_le_mul_left _ hsm
  have s1 := hr1.size
  have s2 := hr2.size
  obtain ⟨b, off, rfl, hb, hc⟩ := hr2.cell hm
  refine wpList_append_grows wr hgd s x t ho e i (.int k 0) 1 by_ ST.under hi hz0 hz1 hz2 rfl (by decide) (some b1) n cap (xs.map (Value.int k)) hs (fun hh => by cases hh) (by simp [s1]) ?_ ⟨b, off, none⟩ m c (ys.map (Value.int k)) hx (by simp [s2]) ?_ (ints_oneCell _ _) hfull (by unfold maxLen; omega) (by omega) ?_
  · intro b' hb' j u hj
    have hjl : j < xs.length := by have := (List.getElem?_eq_some_iff.1 hj).1; simpa using this
    obtain ⟨b0, off0, ha, _, hc0⟩ := hr1.cell (by omega)
    cases hb'
    cases ha
    rw [Addr.add_lit, hc0 j (by omega), ← hj, List.getElem?_map, List.getD_eq_getElem?_getD, List.getElem?_eq_getElem hjl]
    rfl
  · intro j u hj
    have hjl : j < ys.length := by have := (List.getElem?_eq_some_iff.1 hj).1; simpa using this
    rw [Addr.add_lit, hc j (by omega), ← hj, List.getElem?_map, List.getD_eq_getElem?_getD, List.getElem?_eq_getElem hjl]
    rfl
  · intro v' w' hown hgrow
    refine h v' w' (own_mono' ⟨by simpa [s1, s2] using hown, ?_⟩ hbel.size) (hbel.grown hgrow hbel.size (fun j hj => by cases hj))
    intro z hz
    rcases List.mem_append.1 hz with hz | hz
    · exact hr1.wf z hz
    · exact hr2.wf z hz
end
end Go.Proofs.YtobjdamlmaaidaaDoor

/-! Rgn -/
namespace Go.Proofs.YtobjdamlmaaidaaDoor
open Go.RowKit Go.Shelf
set_option linter.unusedVariables false
attribute [local go_sem] Oper.semAt_some

/-- Another row, as it reads: its address, its length, its room, its elements. -/
abbrev Beside := Option Addr × Nat × Nat × List Int
/-- The row v of the call's own; the rows beside it; nothing that lay in w0 has turned. -/
structure Grows (k : IntKind) (e : TypeId) (w0 W : World) (v : Value) (xs : List Int) (l : List Beside) : Prop where
  below : Below w0.heap.size w0 W
  own : Own k e w0.heap.size W v xs
  side : ∀ r ∈ l, Reads k W r.1 r.2.1 r.2.2.1 r.2.2.2 ∧ ∀ b off, 0 < r.2.1 → r.1 = some ⟨b, off, none⟩ → v.ownBlock ≠ some b
theorem Grows.start {k : IntKind} {e : TypeId} {w0 W : World} {v : Value} {xs : List Int} (h1 : Below w0.heap.size w0 W) (h2 : Own k e w0.heap.size W v xs) : Grows k e w0 W v xs [] := ⟨h1, h2, fun r hr => by cases hr⟩
theorem Grows.then {k : IntKind} {e : TypeId} {w0 W W' : World} {v : Value} {xs : List Int} {l : List Beside} (h : Grows k e w0 W v xs l) (hb : Below W.heap.size W W') : Grows k e w0 W' v xs l :=
  ⟨below_then h.below hb, h.own.below hb, fun r hr => ⟨(h.side r hr).1.below hb, (h.side r hr).2⟩⟩
theorem Grows.drew {k : IntKind} {e : TypeId} {w0 W : World} {v : Value} {xs : List Int} {l : List Beside} (h : Grows k e w0 W v xs l) : Grows k e w0 W.drew v xs l := h.then (below_drew (Below.refl _ _))
/-- A row that has just been made stands beside. -/
theorem Grows.row {k : IntKind} {e : TypeId} {w0 W W' : World} {v : Value} {xs : List Int} {l : List Beside} {a : Option Addr} {n c : Nat} {zs : List Int} (h : Grows k e w0 W v xs l) (hb : Below W.heap.size W W') (hr : Reads k W' a n c zs) (hf : ∀ b off, a = some ⟨b, off, none⟩ → W.heap.size ≤ b) : Grows k e w0 W' v xs ((a, n, c, zs) :: l) := by
  have h' := h.then hb
  refine ⟨h'.below, h'.own, fun r hr' => ?_⟩
  rcases List.mem_cons.1 hr' with rfl | hr'
  · refine ⟨hr, fun b off _ ha hv => ?_⟩
    have h1 := hf b off ha
    have h2 := h.own.blockLt b hv
    omega
  · exact h'.side r hr'
theorem Grows.lit {k : IntKind} {e e' : TypeId} {w0 W : World} {v : Value} {xs : List Int} {l : List Beside} (h : Grows k e w0 W v xs l) (ys : List Int) (hm : ys.length ≤ maxLen) (hwf : ∀ y ∈ ys, (Lit.int k y).wf = true) :
    Grows k e w0 (W.alloc (.cells (ys.map (Value.int k)).toArray e')) v xs ((some ⟨W.heap.size, 0, none⟩, ys.length, ys.length, ys) :: l) :=
  h.row ((Below.refl _ _).alloc (Nat.le_refl _) _) (Reads.lit k e' W ys hm hwf) (fun b off ha => by cases ha; exact Nat.le_refl _)
/-- A literal, made by an operation of such a region. -/
theorem lit_go {k : IntKind} {e e' : TypeId} {w0 W : World} {v : Value} {xs : List Int} {l : List Beside} {K : Act → World → Prop} {a : Act} (h : Grows k e w0 W v xs l) (ys : List Int) (hm : ys.length ≤ maxLen) (hwf : ∀ y ∈ ys, (Lit.int k y).wf = true)
    (hK : ∀ W', Grows k e w0 W' v xs ((some ⟨W.heap.size, 0, none⟩, ys.length, ys.length, ys) :: l) → K a W') : K a (W.alloc (.cells (ys.map (Value.int k)).toArray e')) := hK _ (h.lit ys hm hwf)
section
variable {F : Fence} {n : Nat} {P : Program} {ops : Array Oper} {rest : List Oper} {o : Oper} {a : Act} {K : Act → World → Prop} {Q : Exit → Act → World → Prop} {E : Prop} {t e : TypeId} {k : IntKind} {by_ : Nat}
theorem run_grow (ST : SliceT P t e k by_) (ty : TypeId) {w0 W : World} {v : Value} {xs ys : List Int} {l : List Beside} {ad : Option Addr} {m c : Nat} (h : Grows k e w0 W v xs l) (hm : (ad, m, c, ys) ∈ l) (hlen : xs.length + m < 1000000000000) :
    ∃ a' l' c' W', (Builtin.append_ #[t, t] ty #[v, .slice ad m c]).run P W = .ok (.slice a' l' c') W' ∧ Grows k e w0 W' (.slice a' l' c') (xs ++ ys) l := by
  obtain ⟨i, hi, hz0, hz1, hz2⟩ := info_parts ST.info
  have hsm := ST.small
  have hr := (h.side _ hm).1
  dsimp only at hr
  have hsz := hr.size
  have hn₀ := h.below.size
  by_cases h0 : m = 0
  · subst h0
    obtain rfl : ys = [] := List.eq_nil_of_length_eq_zero hsz
    have hrun : (Builtin.append_ #[t, t] ty #[v, .slice ad 0 c]).run P W = .ok v W := by
      rcases h.own.1.2 with ⟨rfl, _⟩ | ⟨g, cap, cur, rfl, _, _, hnc, _⟩
      · cases ad <;> simp [Builtin.append_, run_underlying ST.under, sizeOf, typeInfo, hi, Builtin.lenOf, Builtin.firstCells, loadCells, loadCellsFrom]
      · cases ad <;> simp [Builtin.append_, run_underlying ST.under, sizeOf, typeInfo, hi, Builtin.lenOf, Builtin.firstCells, hnc, storeCells, loadCells, loadCellsFrom]
    obtain ⟨a', c', rfl, _⟩ := h.own.reads
    exact ⟨_, _, _, _, hrun, by rw [List.append_nil]; exact h⟩
  · obtain ⟨b, off, rfl, hb, hc⟩ := hr.cell (by omega)
    have hmul : (xs.length + m) * by_ ≤ (xs.length + m) * 8 := Nat.mul_le_mul_left _ hsm
    obtain ⟨v', w1, hrun, r1, r2, _, r4⟩ := run_append_own_at (P := P) (w := W) w0.heap.size t ty e i (.int k 0) 1 by_ ST.under hi hz0 hz1 hz2 rfl (by decide) v xs.length (xs.map (Value.int k)) h.own.1 ⟨b, off, none⟩ m c (ys.map (Value.int k)) (by simp [hsz])
      (by
        intro j u hj
        have hjl : j < ys.length := by
          have := (List.getElem?_eq_some_iff.1 hj).1
          simpa using this
        rw [Addr.add_lit, hc j (by omega)]
        simp only [List.getElem?_map, List.getElem?_eq_getElem hjl, Option.map_some, Option.some.injEq] at hj
        subst hj
        simp [hjl]) (ints_oneCell _ _) (by unfold maxLen; omega) (by omega) hn₀
    have ho : Own k e w0.heap.size w1 v' (xs ++ ys) := ⟨by rw [List.length_append, hsz]; simpa using r1, fun z hz => by
      rcases List.mem_append.1 hz with hz | hz
      · exact h.own.2 z hz
      · exact hr.wf z hz⟩
    have hg : Grows k e w0 w1 v' (xs ++ ys) l := by
      refine ⟨h.below.grown r2 hn₀ (fun j ej => (h.own.1.lt j ej).1), ho, fun r hr' => ?_⟩
      obtain ⟨q1, q2⟩ := h.side r hr'
      refine ⟨?_, fun b' off' hp ha hv => ?_⟩
      · by_cases hp : 0 < r.2.1
        · obtain ⟨b', off', ha, hlt, _⟩ := q1.cell hp
          refine q1.sameBlock r2.size fun b2 off2 ha2 => ?_
          rw [ha] at ha2
          cases ha2
          exact r2.block b' hlt (fun hh => q2 b' off' hp ha hh.symm)
        · exact ⟨q1.size, q1.room, q1.top, q1.wf, fun hl => absurd hl hp⟩
      · rcases r4 with r4 | r4
        · exact q2 b' off' hp ha (r4 ▸ hv)
        · rw [r4] at hv
          cases hv
          obtain ⟨b2, off2, ha2, hlt, _⟩ := q1.cell hp
          rw [ha] at ha2
          cases ha2
          exact absurd hlt (Nat.lt_irrefl _)
    obtain ⟨a', c', rfl, _⟩ := ho.reads
    exact ⟨_, _, _, _, hrun, hg⟩
/-- 'append(v, y...)', y one of the rows beside v, as an operation of such a region. -/
theorem opIn_grow (ST : SliceT P t e k by_) {s x : Operand} (ho : o.op = .call { callee := .builtin .append, args := #[s, x], argTypes := #[t, t] }) (hgd : o.guard = none)
    {w0 W : World} {v : Value} {xs : List Int} (ys : List Int) {l : List Beside} {ad : Option Addr} {m c : Nat} (h : Grows k e w0 W v xs l) (hs : a.eval s = v) (hx : a.eval x = .slice ad m c) (hm : (ad, m, c, ys) ∈ l) (hlen : xs.length + m < 1000000000000)
    (hK : ∀ a' l' c' W', Grows k e w0 W' (.slice a' l' c') (xs ++ ys) l → K (a.put o.dst (.slice a' l' c')) W') :
    if Region.wanted o (yielded ops a.tmps) = true then Oper.wpIn F n P o a W K Q else E := by
  have hw : Region.wanted o (yielded ops a.tmps) = true := by simp [Region.wanted, hgd]
  rw [if_pos hw]
  obtain ⟨a', l', c', W', hrun, hp⟩ := run_grow (P := P) ST o.type h hm hlen
  unfold Oper.wpIn
  refine ⟨?_, ?_⟩
  · simp [Oper.about, ho, resolve, Target.leads, Sem.run_pure]
  · rw [Oper.semAt_plain F _ _ (by rw [ho]; intro c hc'; cases hc')]
    simp [execOp, ho, resolve, invoke, builtin, hs, hx, hrun, Result.andThen]
    exact hK _ _ _ _ hp
/-- .. the next of a list of operations. -/
theorem wpListIn_grow (ST : SliceT P t e k by_) (hgd : o.guard = none) (s x : Operand) (ho : o.op = .call { callee := .builtin .append, args := #[s, x], argTypes := #[t, t] })
    {w0 W : World} {v : Value} {xs : List Int} (ys : List Int) {l : List Beside} {ad : Option Addr} {m c : Nat} (h : Grows k e w0 W v xs l) (hs : a.eval s = v) (hx : a.eval x = .slice ad m c) (hm : (ad, m, c, ys) ∈ l) (hlen : xs.length + m < 1000000000000)
    (hK : ∀ a' l' c' W', Grows k e w0 W' (.slice a' l' c') (xs ++ ys) l → wpListIn F n P ops Q rest (a.put o.dst (.slice a' l' c')) W') :
    wpListIn F n P ops Q (o :: rest) a W := by
  refine wpListIn_plain hgd fun K hK' => ?_
  obtain ⟨a', l', c', W', hrun, hp⟩ := run_grow (P := P) ST o.type h hm hlen
  unfold Oper.wpIn
  refine ⟨?_, ?_⟩
  · simp [Oper.about, ho, resolve, Target.leads, Sem.run_pure]
  · rw [Oper.semAt_plain F _ _ (by rw [ho]; intro c hc'; cases hc')]
    simp [execOp, ho, resolve, invoke, builtin, hs, hx, hrun, Result.andThen]
    exact hK' _ _ (hK _ _ _ _ hp)
end
end Go.Proofs.YtobjdamlmaaidaaDoor

/-! R22b -/
namespace Go.Proofs.YtobjdamlmaaidaaDoor
open Go.RowKit Go.Shelf
set_option linter.unusedVariables false
attribute [local go_sem] Oper.semAt_some

theorem drop_take_cons {xs : List Int} {i j : Nat} {x : Int} (h : xs[i]? = some x) (hj : 0 < j) : (xs.drop i).take j = x :: (xs.drop (i + 1)).take (j - 1) := by
  have hlt := (List.getElem?_eq_some_iff.1 h).1
  have he := (List.getElem?_eq_some_iff.1 h).2
  obtain ⟨m, rfl⟩ : ∃ m, j = m + 1 := ⟨j - 1, by omega⟩
  rw [List.drop_eq_getElem_cons hlt, List.take_succ_cons, he]
  rfl
/-- What a run, closed, adds. -/
theorem layU_piece {xs : List Int} {i j : Nat} {x : Int} (h : xs[i]? = some x) (hj : 0 < j) (hx : dirB x = false) (h43 : x ≠ 43) (hu : ((xs.drop i).take j).all (fun y => !dirB y) = true) (hs : stopU (xs.drop (i + j))) :
    layU (xs.drop i) [] = 43 :: (codU ((xs.drop i).take j) ++ (45 :: layU (xs.drop (i + j)) [])) := by
  have e := drop_take_cons h hj
  have hd : xs.drop i = (xs.drop i).take j ++ xs.drop (i + j) := by rw [← List.drop_drop]; exact (List.take_append_drop j (xs.drop i)).symm
  rw [e] at hu ⊢
  conv => lhs; rw [hd, e]
  refine layU_one hx h43 (fun y hy => ?_) hs
  have := List.all_eq_true.1 hu y (List.mem_cons_of_mem _ hy)
  simpa using this
set_option maxRecDepth 100000 in
set_option maxHeartbeats 8000000 in
theorem ref22_Lay (a : Option Addr) (len cap : Nat) (xs : List Int) (w : World) (hr : Reads .i32 w a len cap xs) (hN : len < 1000000) :
    Calls Tryd.prog 7 #[.slice a len cap] w fun e w' => ∃ v, e = .returned (.tuple #[v, .int .i64 (runN xs false), .int .i64 (lay7E xs)]) ∧ Own .u8 5 w.heap.size w' v (lay7 xs) ∧ Below w.heap.size w w' := by
  have HR := hid hr
  have hl := hr.len_le
  have hrm := hr.room
  have hsz := hr.size
  have HRU := hid (ref22_Runs a len cap xs w hr)
  have HFI := hid (fun W (hb : Below w.heap.size w W) => ref03_First a len cap xs W (hr.below hb))
  have hip := idx_pos (fun c => !scB c) xs
  have hall : xs.any (fun c => !scB c) = !xs.all scB := by simp [List.all_eq_not_any_not]
  rw [hall] at hip
  generalize runN xs false = RN at HRU ⊢
  generalize idxI (fun c => !scB c) xs = q at HFI hip
  clear hr hall
  refine (callsIn_wide (n := 4)).1 ?_
  refine callsIn_of_wp Tryd.func7 rfl trivial ?_ rfl
  simp only [Tryd.ntmps7, List.size_toArray, List.length_cons, List.length_nil, Nat.reduceAdd, Nat.reduceSub, Array.replicate_succ, Array.replicate_zero, List.push_toArray, List.append_toArray, List.nil_append, List.cons_append]
  unfold lay7 lay7E
  cases hs : xs.all scB
  · rw [hs] at hip
    have hq : (0 : Int) ≤ q := of_decide_eq_true hip
    simp only [Bool.false_eq_true, if_false]
    gi_wp2_with (first
      | (refine ⟨trivial, ?_⟩; gi_at_call 15; (with_reducible refine (callsIn_wide.2 HRU.out).mono ?_); rintro e w1 ⟨rfl, h1⟩)
      | (refine ⟨trivial, ?_⟩; gi_at_call 5; (with_reducible refine (callsIn_wide.2 (HFI.out w1 h1)).mono ?_); rintro e w2 ⟨rfl, rfl⟩))
    go_ret3
    exact ⟨_, rfl, Own.nil _ _ _ _, h1⟩
  · rw [hs] at hip
    have hq : ¬ (0 : Int) ≤ q := of_decide_eq_false hip
    simp only [if_true]
    gi_wp2_with (first
      | (refine ⟨trivial, ?_⟩; gi_at_call 15; (with_reducible refine (callsIn_wide.2 HRU.out).mono ?_); rintro e w1 ⟨rfl, h1⟩)
      | (refine ⟨trivial, ?_⟩; gi_at_call 5; (with_reducible refine (callsIn_wide.2 (HFI.out w1 h1)).mono ?_); rintro e w2 ⟨rfl, rfl⟩))
    gi_loopw [6, 7] (fun v i wr => ∃ (k : Nat) (O : List Int), k ≤ len ∧ i = .int .i64 k ∧ O.length ≤ 10 * k ∧ Hid (O ++ layU (xs.drop k) [] = layU xs []) ∧ Grows .u8 5 w wr v O []) (fun _ i _ => len - (intOf i).toNat)
    case atStart => exact ⟨0, [], Nat.zero_le _, rfl, Nat.zero_le _, rfl, Grows.start h1 (Own.nil _ _ _ _)⟩
    case round =>
      obtain ⟨k, O, hk, rfl, hO, hE, hG⟩ := hrel
      have HG := hid hG
      by_cases hlt : k < len
      · obtain ⟨b, off, x, rfl, hbw, hcw, hx0, hx1, hx⟩ := HR.out.getR hlt
        have hc := (hG.below.cell (p := ⟨b, off + k, none⟩) hbw).trans hcw
        have hd : xs.drop k = x :: xs.drop (k + 1) := by
          rw [List.drop_eq_getElem_cons (by omega)]
          have := hx.out.1
          rw [List.getElem?_eq_getElem (by omega)] at this
          rw [Option.some.inj this]
        have hE' := hE.out
        rw [hd] at hE'
        have HLT := hid hlt
        cases hdx : dirB x
        case true =>
          have hbd := dir_bd hdx
          rw [layU_dir hdx] at hE'
          have HE := hid (show O ++ [x] ++ layU (xs.drop (k + 1)) [] = layU xs [] by rw [← hE', List.append_assoc]; rfl)
          have hwx : Hid (∀ y ∈ [x], (Lit.int .u8 y).wf = true) := by intro y hy; simp at hy; subst hy; exact mk_u8 (by omega) (by omega)
          clear hE hE' hd hG
          gi_wp2_with (first
            | (refine ⟨trivial, ?_⟩; gi_at_call 16; (with_reducible refine (callsIn_wide.2 (ref22_Direct _ _)).mono ?_); rintro e w3 ⟨rfl, h3⟩; rw [hdx]; have HG3 := hid (HG.out.then h3); have hc3 := (HG3.out.below.cell (p := ⟨b, off + k, none⟩) hbw).trans hcw)
            | (gi_at_builtin; refine wpListIn_grow ST8 rfl _ _ rfl [x] (show Grows .u8 5 w (w3.alloc (.cells #[.int .u8 x] 5)) _ O _ from HG3.out.lit [x] (by simp [maxLen]) hwx.out) rfl rfl (by simp) (by omega) ?_; intro a4 l4 c4 w4 hG4))
          go_roundw
          case rel => exact ⟨k + 1, _, by omega, by go_num, by simp; omega, HE, Grows.start hG4.below hG4.own⟩
          case measure => simp [intOf]; omega
        case false =>
          by_cases h43 : x = 43
          · subst h43
            rw [layU_plus] at hE'
            have HE := hid (show O ++ [43, 45] ++ layU (xs.drop (k + 1)) [] = layU xs [] by rw [← hE', List.append_assoc]; rfl)
            clear hE hE' hd hG
            gi_wp2_with (first
              | (refine ⟨trivial, ?_⟩; gi_at_call 16; (with_reducible refine (callsIn_wide.2 (ref22_Direct _ _)).mono ?_); rintro e w3 ⟨rfl, h3⟩; rw [hdx]; have HG3 := hid (HG.out.then h3); have hc3 := (HG3.out.below.cell (p := ⟨b, off + k, none⟩) hbw).trans hcw)
              | (gi_at_builtin; refine wpListIn_grow ST8 rfl _ _ rfl [43, 45] (show Grows .u8 5 w (w3.alloc (.cells #[.int .u8 43, .int .u8 45] 5)) _ O _ from HG3.out.lit [43, 45] (by simp [maxLen]) (by decide)) rfl rfl (by simp) (by omega) ?_; intro a4 l4 c4 w4 hG4))
            go_roundw
            case rel => exact ⟨k + 1, _, by omega, by go_num, by simp; omega, HE, Grows.start hG4.below hG4.own⟩
            case measure => simp [intOf]; omega
          · have hne : (x == 43) = false := by simpa using h43
            rw [← hd] at hE'
            clear hE hd hG
            gi_wp2_with (refine ⟨trivial, ?_⟩; gi_at_call 16; (with_reducible refine (callsIn_wide.2 (ref22_Direct _ _)).mono ?_); rintro e w3 ⟨rfl, h3⟩; rw [hdx]; have HG3 := hid (HG.out.then h3); have hc3 := (HG3.out.below.cell (p := ⟨b, off + k, none⟩) hbw).trans hcw)
            gi_loopw [8] (fun i wr => ∃ j : Nat, k + j ≤ len ∧ i = .int .i64 ((k + j : Nat) : Int) ∧ Hid (((xs.drop k).take j).all (fun y => !dirB y) = true) ∧ Grows .u8 5 w wr u6 O []) (fun i _ => len - (intOf i).toNat)
            case atStart => exact ⟨0, by omega, rfl, rfl, HG3.out⟩
            case round =>
              obtain ⟨j, hkj, rfl, hal, hGj⟩ := hrel
              have HGJ := hid hGj
              clear hGj
              have D : (k + j < len ∧ ∃ y, xs[k + j]? = some y ∧ w.cell? ⟨b, off + (k + j), none⟩ = some (.int .i32 y) ∧ dirB y = false) ∨ (0 < j ∧ stopU (xs.drop (k + j)) ∧ (k + j = len ∨ (k + j < len ∧ ∃ y, xs[k + j]? = some y ∧ w.cell? ⟨b, off + (k + j), none⟩ = some (.int .i32 y) ∧ dirB y = true))) := by
                by_cases hl2 : k + j < len
                · obtain ⟨b', off', y, hA, _, hcy, _, _, hy⟩ := HR.out.getR hl2
                  cases hA
                  cases hdy : dirB y
                  · exact .inl ⟨hl2, y, hy.out.1, hcy, hdy⟩
                  · refine .inr ⟨?_, ?_, .inr ⟨hl2, y, hy.out.1, hcy, hdy⟩⟩
                    · by_cases h0 : j = 0
                      · subst h0
                        have h1 := hy.out.1
                        rw [Nat.add_zero, hx.out.1] at h1
                        rw [Option.some.inj h1] at hdx
                        rw [hdx] at hdy; cases hdy
                      · omega
                    · have h1 := (List.getElem?_eq_some_iff.1 hy.out.1).1
                      have h2 := (List.getElem?_eq_some_iff.1 hy.out.1).2
                      exact .inr ⟨y, xs.drop (k + j + 1), by rw [List.drop_eq_getElem_cons h1, h2], hdy⟩
                · refine .inr ⟨by omega, .inl (List.drop_of_length_le (by omega)), .inl (by omega)⟩
              rcases D with ⟨hl2, y, hy, hcy, hdy⟩ | ⟨hj0, hst, D⟩
              · have hcy2 := (HGJ.out.below.cell (p := ⟨b, off + (k + j), none⟩) hbw).trans hcy
                have HAL : Hid (((xs.drop k).take (j + 1)).all (fun y => !dirB y) = true) := by
                  unfold Hid
                  have e : (xs.drop k).take (j + 1) = (xs.drop k).take j ++ [y] := by
                    rw [List.take_add_one, List.getElem?_drop, hy]; rfl
                  rw [e, List.all_append, hal.out]
                  simp [hdy]
                have r1 : ((k + j : Nat) : Int) < (len : Int) := by omega
                have r2 : (0 : Int) ≤ ((k + j : Nat) : Int) := by omega
                have r3 : ((k + j : Nat) : Int) + 1 = ((k + (j + 1) : Nat) : Int) := by omega
                have r4 : IntKind.i64.wrap (((k + j : Nat) : Int) + 1) = ((k + (j + 1) : Nat) : Int) := by rw [r3]; exact IntWalk.i64_in _ (by omega)
                generalize hm : k + j = m at *
                clear hal hy
                gi_wp2_with (refine ⟨trivial, ?_⟩; gi_at_call 16; (with_reducible refine (callsIn_wide.2 (ref22_Direct _ _)).mono ?_); rintro e w4 ⟨rfl, h4⟩; rw [hdy]; have HG4 := hid (HGJ.out.then h4))
                go_roundw
                case rel => exact ⟨j + 1, by omega, by first | go_num | simp, HAL, HG4.out⟩
                case measure => simp [intOf]; omega
              · have hpc := layU_piece hx.out.1 hj0 hdx h43 hal.out hst
                rw [hpc] at hE'
                have hcl := codU_le ((xs.drop k).take j)
                have hpl : ((xs.drop k).take j).length = j := by rw [List.length_take, List.length_drop]; omega
                rw [hpl] at hcl
                have hp := HR.out.piece (l := k) (r := k + j) (by omega) hkj
                rw [Option.map_some, Addr.add_lit, if_neg (by omega), List.drop_take, show k + j - k = j by omega] at hp
                have HC := hid (fun W (hb : Below w.heap.size w W) => ref22_Code _ _ _ _ W (hp.below hb) (by omega))
                generalize codU ((xs.drop k).take j) = CU at hE' hcl HC
                have HE := hid (show O ++ [43] ++ CU ++ [45] ++ layU (xs.drop (k + j)) [] = layU xs [] by rw [← hE']; simp)
                have HAL := hid hal
                have HST := hid hst
                clear hE' hpc hpl hp hal hst
                have r0 : (0 : Int) ≤ ((k + j : Nat) : Int) := by omega
                have r1 : ((k + j : Nat) : Int) ≤ (cap : Int) := by omega
                have r2 : (k : Int) ≤ ((k + j : Nat) : Int) := by omega
                have r3 : ((k + j : Nat) : Int).toNat - k = j := by omega
                have hkj' := hid hkj
                rcases D with D | ⟨hl2, y, hy, hcy, hdy⟩
                case' inl =>
                  have r4 : ¬ ((k + j : Nat) : Int) < (len : Int) := by omega
                  clear D
                  generalize hm : k + j = m at *
                  gi_wp2_with (refine ⟨trivial, ?_⟩)
                case' inr =>
                  have r4 : ((k + j : Nat) : Int) < (len : Int) := by omega
                  have hcy2 := (HGJ.out.below.cell (p := ⟨b, off + (k + j), none⟩) hbw).trans hcy
                  generalize hm : k + j = m at *
                  gi_wp2_with (refine ⟨trivial, ?_⟩; gi_at_call 16; (with_reducible refine (callsIn_wide.2 (ref22_Direct _ _)).mono ?_); rintro e w4 ⟨rfl, h4⟩; rw [hdy]; have HGJ := hid (HGJ.out.then h4))
                all_goals
                  have r5 : ¬ cap = k := by omega
                  have r6 : m - k = j := by omega
                  have HX := hid HGJ.out.drew
                  clear HGJ HG3
                  refine wpIn_region_any (by kernel_rfl) ?_
                  change wpAnyIn _ _ _ _ _ _ 12 _ _ (World.drew _)
                  generalize World.drew _ = W0 at HX ⊢
                  refine wpAnyIn_take (i := 0) (v := u6) rfl rfl (by kernel_rfl) (by kernel_rfl) (by kernel_rfl) (fun _ _ _ h => h) ⟨Or.inl ⟨by rfl, fun w => by go_simp⟩, fun w => by simp [Oper.about]⟩ ?_
                  try simp only [Act.put, List.getElem_toArray, List.getElem_cons_zero, List.setIfInBounds_toArray, List.set_cons_zero, List.set_cons_succ]
                  refine wpAnyIn_take (i := 3) (v := .slice (some ⟨b, off, none⟩) len cap) rfl rfl (by kernel_rfl) (by kernel_rfl) (by kernel_rfl) (fun _ _ _ h => h) ⟨Or.inl ⟨by rfl, fun w => by go_simp⟩, fun w => by simp [Oper.about]⟩ ?_
                  try simp only [Act.put, List.getElem_toArray, List.getElem_cons_succ, List.getElem_cons_zero, List.setIfInBounds_toArray, List.set_cons_zero, List.set_cons_succ]
                  refine wpAnyIn_take (i := 4) (v := .int .i64 k) rfl rfl (by kernel_rfl) (by kernel_rfl) (by kernel_rfl) (fun _ _ _ h => h) ⟨Or.inl ⟨by rfl, fun w => by go_simp⟩, fun w => by simp [Oper.about]⟩ ?_
                  try simp only [Act.put, List.getElem_toArray, List.getElem_cons_succ, List.getElem_cons_zero, List.setIfInBounds_toArray, List.set_cons_zero, List.set_cons_succ]
                  refine wpAnyIn_take (i := 5) (v := .int .i64 m) rfl rfl (by kernel_rfl) (by kernel_rfl) (by kernel_rfl) (fun _ _ _ h => h) ⟨Or.inl ⟨by rfl, fun w => by go_simp⟩, fun w => by simp [Oper.about]⟩ ?_
                  try simp only [Act.put, List.getElem_toArray, List.getElem_cons_succ, List.getElem_cons_zero, List.setIfInBounds_toArray, List.set_cons_zero, List.set_cons_succ]
                  refine wpAnyIn_take (i := 6) (v := .slice (some ⟨b, off + k, none⟩) j (cap - k)) rfl rfl (by kernel_rfl) (by kernel_rfl) (by kernel_rfl) (fun _ _ _ h => h) ⟨Or.inl ⟨by rfl, fun w => by go_simp⟩, fun w => by simp [Oper.about]⟩ ?_
                  try simp only [Act.put, List.getElem_toArray, List.getElem_cons_succ, List.getElem_cons_zero, List.setIfInBounds_toArray, List.set_cons_zero, List.set_cons_succ]
                  repeat' (first
                    | exact AllReadyIn.nil
                    | with_reducible refine wpAnyIn_ready (rs := [1, 9]) (by decide +kernel) (by simp) ?_
                    | with_reducible refine wpAnyIn_ready (rs := [2, 9]) (by decide +kernel) (by simp) ?_
                    | with_reducible refine wpAnyIn_ready (rs := [7, 9]) (by decide +kernel) (by simp) ?_
                    | with_reducible refine wpAnyIn_ready (rs := [8, 9]) (by decide +kernel) (by simp) ?_
                    | with_reducible refine wpAnyIn_ready (rs := [1]) (by decide +kernel) (by simp) ?_
                    | with_reducible refine wpAnyIn_ready (rs := [2]) (by decide +kernel) (by simp) ?_
                    | with_reducible refine wpAnyIn_ready (rs := [7]) (by decide +kernel) (by simp) ?_
                    | with_reducible refine wpAnyIn_ready (rs := [8]) (by decide +kernel) (by simp) ?_
                    | with_reducible refine wpAnyIn_ready (rs := [9]) (by decide +kernel) (by simp) ?_
                    | with_reducible refine wpAnyIn_ready (rs := [10]) (by decide +kernel) (by simp) ?_
                    | with_reducible refine wpAnyIn_ready (rs := [11]) (by decide +kernel) (by simp) ?_
                    | ((with_reducible change AllReadyIn _ _ _ _ _ _ _ _ _ _ _); apply ready_cons; exact rfl; intro K hK)
                    | (refine opIn_grow ST8 rfl rfl [43] HX.out rfl rfl (by first | exact List.mem_cons_self | exact .tail _ List.mem_cons_self | exact .tail _ (.tail _ List.mem_cons_self)) (by omega) ?_; intro a4 l4 c4 W4 hX; have HX := hid hX; clear hX; refine hK _ _ ?_; clear hK K)
                    | (refine opIn_grow ST8 rfl rfl [45] HX.out rfl rfl (by first | exact List.mem_cons_self | exact .tail _ List.mem_cons_self | exact .tail _ (.tail _ List.mem_cons_self)) (by simp only [List.length_append, List.length_cons, List.length_nil]; omega) ?_; intro a6 l6 c6 W6 hX; have HX := hid hX; clear hX; refine hK _ _ ?_; clear hK K)
                    | (refine opIn_grow ST8 rfl rfl CU HX.out rfl rfl (by first | exact List.mem_cons_self | exact .tail _ List.mem_cons_self | exact .tail _ (.tail _ List.mem_cons_self)) (by simp only [List.length_append, List.length_cons, List.length_nil]; omega) ?_; intro a5 l5 c5 W5 hX; have HX := hid hX; clear hX; refine hK _ _ ?_; clear hK K)
                    | (go_simp; refine lit_go HX.out [43] (by simp [maxLen]) (by decide) ?_; intro W1 hX; have HX := hid hX; clear hX; refine hK _ _ ?_; clear hK K)
                    | (go_simp; refine lit_go HX.out [45] (by simp [maxLen]) (by decide) ?_; intro W2 hX; have HX := hid hX; clear hX; refine hK _ _ ?_; clear hK K)
                    | (go_simp; refine ⟨trivial, ?_⟩; (with_reducible refine (callsIn_wide.2 (HC.out _ HX.out.below)).mono ?_); rintro e W3 ⟨v3, rfl, o3, h3⟩; obtain ⟨a3, c3, rfl, r3'⟩ := o3.reads; have HX := hid (HX.out.row h3 r3' o3.fresh); refine hK _ _ ?_; clear hK K)
                    | (go_simp; refine hK _ _ ?_; clear hK K)
                    | with_reducible refine wpAnyIn_done (by decide +kernel) ?_ _)
                  all_goals
                    gi_wp2_with fail
                    go_roundw
                    case rel => exact ⟨m, _, by omega, by first | rfl | go_num, by simp only [List.length_append, List.length_cons, List.length_nil]; omega, HE, Grows.start HX.out.below HX.out.own⟩
                    case measure => simp [intOf]; omega
      · obtain rfl : k = len := by omega
        have hE' := hE.out
        rw [List.drop_of_length_le (by omega), layU, closeU, if_pos rfl, List.append_nil] at hE'
        have HE := hid hE'
        clear hE hE' hG
        gi_wp2_with fail
        go_ret3
        exact ⟨_, rfl, by rw [← HE.out]; exact HG.out.own, HG.out.below⟩
end Go.Proofs.YtobjdamlmaaidaaDoor
