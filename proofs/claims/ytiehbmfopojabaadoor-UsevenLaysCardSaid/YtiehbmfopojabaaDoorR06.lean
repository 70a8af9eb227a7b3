/-
  Contracts of the document's own functions of layer 6 (those that the translation has).
-/
import Derived.Test.YtiehbmfopojabaaDoorR03
import Derived.Test.YtiehbmfopojabaaDoorR01
import Derived.Test.YtiehbmfopojabaaDoorD06
namespace Go.Proofs.YtiehbmfopojabaaDoor
open Go.RowKit
set_option linter.unusedVariables false

theorem idx_not_neg6 {xs : List Int} (h : xs.all scB = true) : idxI (fun c => !scB c) xs < 0 := by
  have := idx_neg (fun c => !scB c) xs
  simp only [Bool.not_not] at this
  rw [h] at this; simpa using this
theorem idx_not_pos6 {xs : List Int} (h : xs.all scB = false) : 0 ≤ idxI (fun c => !scB c) xs := by
  have := idx_neg (fun c => !scB c) xs
  simp only [Bool.not_not] at this
  rw [h] at this; simpa using this

theorem drop_at {xs : List Int} {k : Nat} {x : Int} (h : xs[k]? = some x) : xs.drop k = x :: xs.drop (k + 1) := by
  have hk : k < xs.length := (List.getElem?_eq_some_iff.1 h).1
  rw [List.drop_eq_getElem_cons hk, (List.getElem?_eq_some_iff.1 h).2]
theorem ur_one {xs : List Int} {k : Nat} {x : Int} (h : xs[k]? = some x) (hs : surB x = false) : usigs (xs.drop k) = (x, 0) :: usigs (xs.drop (k + 1)) := by
  rw [drop_at h]
  have hh : hiB x = false := by have := hi_lo x; rw [hs] at this; cases hx : hiB x with | false => rfl | true => rw [hx] at this; cases this
  have hp : utP (x :: xs.drop (k + 1)) = false := by rw [utP_hd]; simp [hdB, hh]
  rw [usigs_cons (by simp)]
  simp [ut1, utN, hp, hs]
theorem ur_low {xs : List Int} {k : Nat} {x : Int} (h : xs[k]? = some x) (hh : hiB x = false) (hs : surB x = true) : usigs (xs.drop k) = (65533, 3) :: usigs (xs.drop (k + 1)) := by
  rw [drop_at h]
  have hp : utP (x :: xs.drop (k + 1)) = false := by rw [utP_hd]; simp [hdB, hh]
  rw [usigs_cons (by simp)]
  simp [ut1, utN, hp, hs, hh]
theorem ur_end {xs : List Int} {k : Nat} {x : Int} (h : xs[k]? = some x) (hh : hiB x = true) (hl : xs.length = k + 1) : usigs (xs.drop k) = (65533, 4) :: usigs (xs.drop (k + 1)) := by
  rw [drop_at h, List.drop_of_length_le (show xs.length ≤ k + 1 by omega)]
  have hs : surB x = true := by rw [hi_lo, hh]; rfl
  have hp : utP [x] = false := rfl
  rw [usigs_cons (by simp)]
  simp [ut1, utN, hp, hs, hh]
theorem ur_high {xs : List Int} {k : Nat} {x y : Int} (h : xs[k]? = some x) (h' : xs[k + 1]? = some y) (hh : hiB x = true) (hl : loB y = false) : usigs (xs.drop k) = (65533, 3) :: usigs (xs.drop (k + 1)) := by
  rw [drop_at h, drop_at h']
  have hs : surB x = true := by rw [hi_lo, hh]; rfl
  have hp : utP (x :: y :: xs.drop (k + 1 + 1)) = false := by simp [utP, hl]
  rw [usigs_cons (xs := x :: y :: xs.drop (k + 1 + 1)) (by simp)]
  simp [ut1, utN, hp, hs, hh]
theorem ur_pair {xs : List Int} {k : Nat} {x y : Int} (h : xs[k]? = some x) (h' : xs[k + 1]? = some y) (hh : hiB x = true) (hl : loB y = true) : usigs (xs.drop k) = (pairU x y, 0) :: usigs (xs.drop (k + 2)) := by
  rw [drop_at h, drop_at h']
  have hp : utP (x :: y :: xs.drop (k + 1 + 1)) = true := by simp [utP, hh, hl]
  rw [usigs_cons (by simp)]
  simp [ut1, utN, hp]

theorem ST16 : SliceT Tryd.prog 44 58 .u16 2 := ⟨Tryd.underlying44, by kernel_rfl, by decide⟩
set_option maxHeartbeats 1000000 in
theorem ref06_Of (c : Int) (w : World) :
    Calls Tryd.prog 40 #[.int .i32 c] w fun e w' => ∃ a' cap', e = .returned (.slice a' (lenU c) cap') ∧ Reads .u16 w' a' (lenU c) cap' (uns c) ∧ Below w.heap.size w w' := by
  have hwf := hid (uns_wf c)
  cases hs : scB c
  · have e : uns c = [] := by unfold uns; rw [if_neg (by simp [hs])]
    have el : lenU c = 0 := by unfold lenU; rw [e]; rfl
    rw [e, el]
    clear e el
    go_enter Tryd.func40, Tryd.ntmps40
    go_wp2_with (go_at_call 33; (with_reducible refine (ref03_Is _ _).mono ?_); rintro e w' ⟨rfl, rfl⟩)
    go_ret
    exact ⟨none, 0, rfl, Reads.nil _ _ _ _ (Nat.zero_le _), Below.refl _ _⟩
  · have hc := (scB_iff c).1 hs
    by_cases h1 : c < 65536
    · have e : uns c = [c] := by unfold uns; rw [if_pos hs, if_pos h1]
      have el : lenU c = 1 := by unfold lenU; rw [e]; rfl
      rw [e] at hwf
      rw [e, el]
      clear e el
      go_enter Tryd.func40, Tryd.ntmps40
      go_wp2_with (go_at_call 33; (with_reducible refine (ref03_Is _ _).mono ?_); rintro e w' ⟨rfl, rfl⟩)
      go_ret
      exact ⟨_, _, rfl, Reads.lit .u16 _ w _ (by simp [maxLen]) hwf.out, (Below.refl _ _).alloc (Nat.le_refl _) _⟩
    · have e : uns c = [55296 + (c - 65536) / 1024, 56320 + (c - 65536) % 1024] := by unfold uns; rw [if_pos hs, if_neg h1]
      have el : lenU c = 2 := by unfold lenU; rw [e]; rfl
      rw [e] at hwf
      rw [e, el]
      clear e el
      go_enter Tryd.func40, Tryd.ntmps40
      go_wp2_with (go_at_call 33; (with_reducible refine (ref03_Is _ _).mono ?_); rintro e w' ⟨rfl, rfl⟩)
      go_ret
      exact ⟨_, _, rfl, Reads.lit .u16 _ w _ (by simp [maxLen]) hwf.out, (Below.refl _ _).alloc (Nat.le_refl _) _⟩
set_option maxHeartbeats 1000000 in
theorem ref06_LayNo (a : Option Addr) (len cap : Nat) (xs : List Int) (w : World) (hr : Reads .i32 w a len cap xs) (hs : xs.all scB = false) :
    Calls Tryd.prog 28 #[.slice a len cap] w fun e w' => e = .returned (.tuple #[.slice none 0 0, .int .i64 7]) ∧ w = w' := by
  have HR := hid hr
  have hi := idx_not_pos6 hs
  clear hr
  go_enter Tryd.func28, Tryd.ntmps28
  go_wp2_with (go_at_call 18; (with_reducible refine (ref03_First _ _ _ _ _ HR.out).mono ?_); rintro e w' ⟨rfl, rfl⟩)
  go_ret2
  exact ⟨rfl, rfl⟩
set_option maxHeartbeats 1000000 in
theorem ref06_Lay (a : Option Addr) (len cap : Nat) (xs : List Int) (w : World) (hr : Reads .i32 w a len cap xs) (hN : len < 10000000000) (hs : xs.all scB = true) :
    Calls Tryd.prog 28 #[.slice a len cap] w fun e w' => ∃ a' cap', e = .returned (.tuple #[.slice a' (unL xs).length cap', .int .i64 0]) ∧ Reads .u16 w' a' (unL xs).length cap' (unL xs) ∧ Below w.heap.size w w' := by
  have HR := hid hr
  have hsz := hr.size
  have hi := idx_not_neg6 hs
  clear hr
  go_enter Tryd.func28, Tryd.ntmps28
  go_wp2_with (go_at_call 18; (with_reducible refine (ref03_First _ _ _ _ _ HR.out).mono ?_); rintro e w' ⟨rfl, rfl⟩)
  go_loopw [4, 5] (fun v i wr => ∃ k : Nat, k ≤ len ∧ i = .int .i64 k ∧ Own .u16 58 w.heap.size wr v (unL (xs.take k)) ∧ Below w.heap.size w wr) (fun _ i _ => len - (intOf i).toNat)
  case atStart => exact ⟨0, Nat.zero_le _, rfl, Own.nil _ _ _ _, Below.refl _ _⟩
  case round =>
    obtain ⟨k, hk, rfl, hown', hbel'⟩ := hrel
    by_cases hlt : k < len
    · obtain ⟨b, off, x, rfl, _, hc, h0, h1, hx⟩ := (HR.out.below hbel').getR hlt
      have hb1 := unL_take xs k
      have hb2 := lenU_le x
      rw [hsz] at hb1
      go_wp2_with (first
        | (go_at_call 40; (with_reducible refine (ref06_Of _ _).mono ?_); rintro e w2 ⟨a2, c2, rfl, hr2, hbl2⟩; have ho2 := hown'.below hbl2; have hbel2 := below_then hbel' hbl2)
        | (at_builtin; go_must (refine wpList_more ST16 rfl _ _ rfl rfl rfl ho2 hbel2 hr2 (by omega) ?_); intro v3 w3 ho3 hb3))
      rw [← unL_snoc hx.out.2] at ho3
      clear hown' hbel'
      go_wp2_with fail
      go_roundw
      case rel => exact ⟨k + 1, by omega, by go_num, ho3, hb3⟩
      case measure => simp [intOf]; omega
    · go_wp2_with fail
      obtain ⟨a', cap', rfl, hrd⟩ := hown'.reads
      rw [HR.out.all (show len ≤ k by omega)] at hrd
      go_ret2
      exact ⟨a', cap', by rw [HR.out.all (show len ≤ k by omega)]; rfl, hrd, hbel'⟩
set_option maxHeartbeats 2000000 in
theorem ref06_Octets (a : Option Addr) (len cap : Nat) (xs : List Int) (w : World) (hr : Reads .u16 w a len cap xs) (hN : len < 10000000000) :
    Calls Tryd.prog 30 #[.slice a len cap] w fun e w' => ∃ a' cap', e = .returned (.slice a' (ocU xs).length cap') ∧ Reads .u8 w' a' (ocU xs).length cap' (ocU xs) ∧ Below w.heap.size w w' := by
  have HR := hid hr
  have hsz := hr.size
  clear hr
  go_enter Tryd.func30, Tryd.ntmps30
  go_wp2
  go_loopw [3, 4] (fun v i wr => ∃ k : Nat, k ≤ len ∧ i = .int .i64 k ∧ Own .u8 5 w.heap.size wr v (ocU (xs.take k)) ∧ Below w.heap.size w wr) (fun _ i _ => len - (intOf i).toNat)
  case atStart => exact ⟨0, Nat.zero_le _, rfl, Own.nil _ _ _ _, Below.refl _ _⟩
  case round =>
    obtain ⟨k, hk, rfl, hown', hbel'⟩ := hrel
    by_cases hlt : k < len
    · obtain ⟨b, off, x, rfl, _, hc, h0, h1, hx⟩ := (HR.out.below hbel').get16 hlt
      have hb1 := ocU_len (xs.take k)
      rw [List.length_take] at hb1
      have hll : (ocU (xs.take k)).length + 2 < 1000000000000 := by omega
      have hwf : Hid (∀ y ∈ [x / 256, x % 256], (Lit.int .u8 y).wf = true) := by
        intro y hy; simp at hy; rcases hy with rfl | rfl <;> exact mk_u8 (by omega) (by omega)
      have d1 : x.tdiv 256 = x / 256 := Int.tdiv_eq_ediv_of_nonneg h0
      have d2 : x.tmod 256 = x % 256 := Int.tmod_eq_emod_of_nonneg h0
      have g1 : IntKind.u8.wrap (x / 256) = x / 256 := IntWalk.u8_in _ (by omega)
      have g2 : IntKind.u8.wrap (x % 256) = x % 256 := IntWalk.u8_in _ (by omega)
      have g3 : IntKind.u16.wrap (x / 256) = x / 256 := IntWalk.u16_in _ (by omega)
      have g4 : IntKind.u16.wrap (x % 256) = x % 256 := IntWalk.u16_in _ (by omega)
      go_wp2_with fail
      go_region_law (refine step_pushs (w0 := w) (wr := wr.drew) ST8 [x / 256, x % 256] rfl (.tmp 11) (.tmp 24) rfl rfl ⟨_, rfl⟩ (Nat.zero_lt_succ _) hown'.drew' (below_drew hbel') hll hwf.out ?_; intro v3 w3 ho3 hb3)
      all_goals
        rw [← ocU_snoc hx.out.2] at ho3
        clear hown' hbel' g1 g2 g3 g4 d1 d2
        go_wp2_with fail
        go_roundw
        case rel => exact ⟨k + 1, by omega, by go_num, ho3, hb3⟩
        case measure => simp [intOf]; omega
    · go_wp2_with fail
      obtain ⟨a', cap', rfl, hrd⟩ := hown'.reads
      rw [HR.out.all (show len ≤ k by omega)] at hrd
      go_ret
      exact ⟨a', cap', by rw [HR.out.all (show len ≤ k by omega)]; rfl, hrd, hbel'⟩

end Go.Proofs.YtiehbmfopojabaaDoor
