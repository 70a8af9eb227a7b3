/-
  Texts of ours laid together: C09b, C10b, C13a, R03, R04.
-/
import Derived.Test.YtdglnpkkfkagaaaGreatRows
import Derived.Handy
import Derived.Test.YtdglnpkkfkagaaaGreatZ21

/-! C09b -/
namespace Go.Proofs.YtdglnpkkfkagaaaGreat
open Go.RowKit
set_option linter.unusedVariables false

set_option maxHeartbeats 1000000 in
theorem latnine_Lay (a : Option Addr) (len cap : Nat) (xs : List Int) (w : World) (hr : Reads .i32 w a len cap xs) (hN : len < 100000000000) :
    Calls Tryz.prog 106 #[.slice a len cap] w fun e w' => ∃ a' len' cap', e = .returned (.tuple #[.slice a' len' cap', .int .i64 (csE sg09 xs)]) ∧ Reads .u8 w' a' len' cap' (csL sg09 xs) ∧ Below w.heap.size w w' := by
  have HR := hid hr
  have hsz := hr.size
  clear hr
  go_enter Tryz.func106, Tryz.ntmps106
  go_wp2_with (at_make; refine wpList_zeros CT8 rfl _ _ rfl (w0 := w) rfl rfl (Below.refl _ _) (by omega) (by decide) ?_; intro g w1 hown hbel)
  obtain ⟨w1, rfl⟩ : ∃ x : World, x = w1 := ⟨_, rfl⟩
  go_loopw [14] (fun i wr => ∃ k : Nat, k ≤ len ∧ i = .int .i64 k ∧ Hid ((xs.take k).all (hasI sg09) = true) ∧ Own .u8 5 w.heap.size wr (.slice (some ⟨g, 0, none⟩) len len) (fill (putI sg09) xs k) ∧ Below w.heap.size w wr) (fun i _ => len - (intOf i).toNat)
  case atStart => exact ⟨0, Nat.zero_le _, rfl, rfl, by rw [fill_zero, hsz]; exact hown, hbel⟩
  case round =>
    obtain ⟨k, hk, rfl, hn, hown', hbel'⟩ := hrel
    by_cases hlt : k < len
    · obtain ⟨b, off, x, rfl, _, hc, h0, h1, hx⟩ := (HR.out.below hbel').getR hlt
      cases hs : hasI sg09 x
      · have H := hid hs
        have hF := hid (all_no hx.out.1 hs)
        go_wp2_with (go_at_call 125; (with_reducible refine (latnine_Put _ _).mono ?_); rintro e w2 ⟨rfl, hb2⟩)
        go_ret2
        exact ⟨none, 0, 0, ret_si (by unfold csE; simp [hF.out]), by unfold csL; simp only [hF.out]; exact Reads.nil _ _ _ _ (Nat.zero_le _), below_then hbel' hb2⟩
      · have H := hid hs
        go_wp2_with (go_at_call 125; (with_reducible refine (latnine_Put _ _).mono ?_); rintro e w2 ⟨rfl, hb2⟩; obtain ⟨hcell, hfz⟩ := (hown'.below hb2).at (j := k) (by rw [fill_len] <;> omega))
        obtain ⟨ho2, hb3⟩ := (hown'.below hb2).store (below_then hbel' hb2) k (put_wf sg09 x)
        rw [fill_set (putI sg09) (by omega) hx.out.2] at ho2
        go_roundw
        case rel => exact ⟨k + 1, by omega, by go_num, all_yes hx.out.2 hn.out H.out, ho2, hb3⟩
        case measure => simp [intOf]; omega
    · have hn' := hn.out
      rw [HR.out.all (show len ≤ k by omega)] at hn'
      have hF := hid hn'
      clear hn'
      go_wp2
      go_ret2
      obtain ⟨a', cap', hv, hrd⟩ := hown'.reads
      rw [fill_all (putI sg09) xs k (by omega)] at hv hrd
      simp only [Value.slice.injEq] at hv
      obtain ⟨rfl, hl2, rfl⟩ := hv
      exact ⟨_, _, _, ret_si (by unfold csE; simp [hF.out]), by unfold csL; simp only [hF.out]; rw [← hl2] at hrd; exact hrd, hbel'⟩

end Go.Proofs.YtdglnpkkfkagaaaGreat

/-! C10b -/
namespace Go.Proofs.YtdglnpkkfkagaaaGreat
open Go.RowKit
set_option linter.unusedVariables false

set_option maxHeartbeats 1000000 in
theorem winone_Lay (a : Option Addr) (len cap : Nat) (xs : List Int) (w : World) (hr : Reads .i32 w a len cap xs) (hN : len < 100000000000) :
    Calls Tryz.prog 107 #[.slice a len cap] w fun e w' => ∃ a' len' cap', e = .returned (.tuple #[.slice a' len' cap', .int .i64 (csE sg10 xs)]) ∧ Reads .u8 w' a' len' cap' (csL sg10 xs) ∧ Below w.heap.size w w' := by
  have HR := hid hr
  have hsz := hr.size
  clear hr
  go_enter Tryz.func107, Tryz.ntmps107
  go_wp2_with (at_make; refine wpList_zeros CT8 rfl _ _ rfl (w0 := w) rfl rfl (Below.refl _ _) (by omega) (by decide) ?_; intro g w1 hown hbel)
  obtain ⟨w1, rfl⟩ : ∃ x : World, x = w1 := ⟨_, rfl⟩
  go_loopw [14] (fun i wr => ∃ k : Nat, k ≤ len ∧ i = .int .i64 k ∧ Hid ((xs.take k).all (hasI sg10) = true) ∧ Own .u8 5 w.heap.size wr (.slice (some ⟨g, 0, none⟩) len len) (fill (putI sg10) xs k) ∧ Below w.heap.size w wr) (fun i _ => len - (intOf i).toNat)
  case atStart => exact ⟨0, Nat.zero_le _, rfl, rfl, by rw [fill_zero, hsz]; exact hown, hbel⟩
  case round =>
    obtain ⟨k, hk, rfl, hn, hown', hbel'⟩ := hrel
    by_cases hlt : k < len
    · obtain ⟨b, off, x, rfl, _, hc, h0, h1, hx⟩ := (HR.out.below hbel').getR hlt
      cases hs : hasI sg10 x
      · have H := hid hs
        have hF := hid (all_no hx.out.1 hs)
        go_wp2_with (go_at_call 126; (with_reducible refine (winone_Put _ _).mono ?_); rintro e w2 ⟨rfl, hb2⟩)
        go_ret2
        exact ⟨none, 0, 0, ret_si (by unfold csE; simp [hF.out]), by unfold csL; simp only [hF.out]; exact Reads.nil _ _ _ _ (Nat.zero_le _), below_then hbel' hb2⟩
      · have H := hid hs
        go_wp2_with (go_at_call 126; (with_reducible refine (winone_Put _ _).mono ?_); rintro e w2 ⟨rfl, hb2⟩; obtain ⟨hcell, hfz⟩ := (hown'.below hb2).at (j := k) (by rw [fill_len] <;> omega))
        obtain ⟨ho2, hb3⟩ := (hown'.below hb2).store (below_then hbel' hb2) k (put_wf sg10 x)
        rw [fill_set (putI sg10) (by omega) hx.out.2] at ho2
        go_roundw
        case rel => exact ⟨k + 1, by omega, by go_num, all_yes hx.out.2 hn.out H.out, ho2, hb3⟩
        case measure => simp [intOf]; omega
    · have hn' := hn.out
      rw [HR.out.all (show len ≤ k by omega)] at hn'
      have hF := hid hn'
      clear hn'
      go_wp2
      go_ret2
      obtain ⟨a', cap', hv, hrd⟩ := hown'.reads
      rw [fill_all (putI sg10) xs k (by omega)] at hv hrd
      simp only [Value.slice.injEq] at hv
      obtain ⟨rfl, hl2, rfl⟩ := hv
      exact ⟨_, _, _, ret_si (by unfold csE; simp [hF.out]), by unfold csL; simp only [hF.out]; rw [← hl2] at hrd; exact hrd, hbel'⟩

end Go.Proofs.YtdglnpkkfkagaaaGreat

/-! C13a -/
namespace Go.Proofs.YtdglnpkkfkagaaaGreat
open Go.RowKit
set_option linter.unusedVariables false

theorem octs_map {n : Int} {f : Int → Int} {xs : List Int} (h : xs.all (hasR n) = true) (hf : ∀ c, hasR n c = true → octR n c = [f c]) : octsR n xs = xs.map f := by
  unfold octsR
  induction xs with
  | nil => rfl
  | cons x xs ih =>
    simp only [List.all_cons, Bool.and_eq_true] at h
    rw [List.flatMap_cons, hf x h.1, ih h.2]; rfl
theorem cs_1 {xs : List Int} (h : xs.all (hasR 1) = true) : csE sg08 xs = 0 ∧ csL sg08 xs = octsR 1 xs := by
  have ha : xs.all (hasI sg08) = true := by
    rw [List.all_eq_true] at h ⊢
    intro c hc
    have := h c hc
    unfold hasR at this
    rw [if_pos rfl] at this
    have := of_decide_eq_true this
    exact (put08 c this.1 (by omega)).2
  unfold csE csL
  rw [if_pos ha, if_pos ha]
  refine ⟨rfl, (octs_map h fun c hc => ?_).symm⟩
  have hh := hc
  unfold hasR at hh
  rw [if_pos rfl] at hh
  have := of_decide_eq_true hh
  unfold octR
  rw [if_pos hc, if_pos rfl, (put08 c this.1 (by omega)).1]
theorem cs_2 {xs : List Int} (h : xs.all (hasR 2) = true) : csE sg08 xs = 0 ∧ csL sg08 xs = octsR 2 xs := by
  have e : hasR 2 = hasI sg08 := rfl
  unfold csE csL
  rw [← e, if_pos h, if_pos h]
  exact ⟨rfl, (octs_map h fun c hc => by unfold octR; rw [if_pos hc, if_neg (by omega), if_pos rfl]).symm⟩
theorem cs_3 {xs : List Int} (h : xs.all (hasR 3) = true) : csE sg09 xs = 0 ∧ csL sg09 xs = octsR 3 xs := by
  have e : hasR 3 = hasI sg09 := rfl
  unfold csE csL
  rw [← e, if_pos h, if_pos h]
  exact ⟨rfl, (octs_map h fun c hc => by unfold octR; rw [if_pos hc, if_neg (by omega), if_neg (by omega), if_pos rfl]).symm⟩
theorem cs_4 {xs : List Int} (h : xs.all (hasR 4) = true) : csE sg10 xs = 0 ∧ csL sg10 xs = octsR 4 xs := by
  have e : hasR 4 = hasI sg10 := rfl
  unfold csE csL
  rw [← e, if_pos h, if_pos h]
  exact ⟨rfl, (octs_map h fun c hc => by unfold octR; rw [if_pos hc, if_neg (by omega), if_neg (by omega), if_neg (by omega), if_pos rfl]).symm⟩
/-- What is read of ASCII, octet by octet, in place. -/
def mixR (xs : List Int) (k : Nat) : List Int := (xs.take k).map (rdR 1) ++ (xs.drop k).map sg08
theorem mix_zero (xs : List Int) : mixR xs 0 = xs.map sg08 := by simp [mixR]
theorem mix_len (xs : List Int) (k : Nat) : (mixR xs k).length = xs.length := by simp [mixR]; omega
theorem mix_all {xs : List Int} {k : Nat} (h : xs.length ≤ k) : mixR xs k = xs.map (rdR 1) := by simp [mixR, List.take_of_length_le h, List.drop_of_length_le h]
theorem mix_parts {xs : List Int} {k : Nat} (hk : k < xs.length) : mixR xs k = (xs.take k).map (rdR 1) ++ sg08 xs[k] :: (xs.drop (k + 1)).map sg08 := by
  unfold mixR; rw [List.drop_eq_getElem_cons hk]; rfl
theorem mix_get {xs : List Int} {k : Nat} (hk : k < xs.length) : (mixR xs k)[k]'(by rw [mix_len]; exact hk) = xs[k] := by
  simp only [mix_parts hk]
  rw [List.getElem_append_right (by simp; omega)]
  simp [show min k xs.length = k by omega]; rfl
theorem mix_next {xs : List Int} {k : Nat} (hk : k < xs.length) : mixR xs (k + 1) = (xs.take k).map (rdR 1) ++ rdR 1 xs[k] :: (xs.drop (k + 1)).map sg08 := by
  unfold mixR
  rw [List.take_succ_eq_append_getElem hk, List.map_append, List.append_assoc]; rfl
theorem mix_set {xs : List Int} {k : Nat} (hk : k < xs.length) (h : 127 < xs[k]) : (mixR xs k).set k 65533 = mixR xs (k + 1) := by
  rw [mix_next hk, mix_parts hk]
  rw [List.set_append_right _ _ (by simp; omega)]
  have e : rdR 1 xs[k] = 65533 := by unfold rdR; rw [if_pos ⟨rfl, h⟩]
  rw [e]
  simp [show min k xs.length = k by omega]
theorem mix_same {xs : List Int} {k : Nat} (hk : k < xs.length) (h : ¬ 127 < xs[k]) : mixR xs k = mixR xs (k + 1) := by
  rw [mix_next hk, mix_parts hk]
  have e : rdR 1 xs[k] = sg08 xs[k] := by unfold rdR sg08; rw [if_neg (fun x => h x.2), if_neg (by omega), if_neg (by omega)]
  rw [e]
end Go.Proofs.YtdglnpkkfkagaaaGreat

/-! R03 -/
namespace Go.Proofs.YtdglnpkkfkagaaaGreat
open Go.RowKit
set_option linter.unusedVariables false

theorem STR : SliceT Tryz.prog 23 21 .i32 4 := ⟨Tryz.underlying23, by kernel_rfl, by decide⟩

theorem ref03_Surrogate (c : Int) (w : World) :
    Calls Tryz.prog 134 #[.int .i32 c] w fun e w' => e = .returned (.bool (surB c)) ∧ w = w' := by
  go_enter Tryz.func134, Tryz.ntmps134
  go_wp2
  all_goals (go_ret; exact ⟨ret_bool (by unfold surB; simp; omega), rfl⟩)
theorem ref03_Is (c : Int) (w : World) :
    Calls Tryz.prog 113 #[.int .i32 c] w fun e w' => e = .returned (.bool (scB c)) ∧ w = w' := by
  go_enter Tryz.func113, Tryz.ntmps113
  go_wp2_with (go_at_call 134; (with_reducible refine (ref03_Surrogate _ _).mono ?_); rintro e w' ⟨rfl, rfl⟩)
  all_goals (go_ret; exact ⟨ret_bool (by first | exact sc_of ‹_› ‹_› | (unfold scB; simp; omega)), rfl⟩)
set_option maxHeartbeats 1000000 in
theorem ref03_Like (a : Option Addr) (len cap : Nat) (xs : List Int) (a2 : Option Addr) (len2 cap2 : Nat) (ys : List Int) (w : World) (hr : Reads .i32 w a len cap xs) (hr2 : Reads .i32 w a2 len2 cap2 ys) :
    Calls Tryz.prog 11 #[.slice a len cap, .slice a2 len2 cap2] w fun e w' => e = .returned (.bool (decide (xs = ys))) ∧ ∃ n, w' = w.drewN n := by
  have hl := hr.len_le
  have hl2 := hr2.len_le
  have HR := hid hr
  have HR2 := hid hr2
  clear hr hr2
  by_cases he : len = len2
  · subst he
    go_enter Tryz.func11, Tryz.ntmps11
    go_wp2
    go_loopw [5] (fun i wr => ∃ k : Nat, k ≤ len ∧ i = .int .i64 k ∧ Hid (xs.take k = ys.take k) ∧ ∃ n, wr = w.drewN n) (fun i _ => len - (intOf i).toNat)
    case atStart => exact ⟨0, Nat.zero_le _, rfl, rfl, 0, rfl⟩
    case round =>
      obtain ⟨k, hk, rfl, hn, n, rfl⟩ := hrel
      by_cases hlt : k < len
      · obtain ⟨b, off, x, rfl, _, hc, h0, h1, hx⟩ := HR.out.getR hlt
        obtain ⟨b2, off2, y, rfl, _, hc2, h02, h12, hy⟩ := HR2.out.getR hlt
        go_wp2
        go_quiet (fail)
        go_wp2
        · go_ret
          exact ⟨ret_bool (eq_no hx.out.1 hy.out.1 ‹_›).symm, by simp only [World.drewN_drewN]; exact ⟨_, rfl⟩⟩
        · go_roundw
          case rel => exact ⟨k + 1, by omega, by go_num, eq_yes hx.out.2 hy.out.2 hn.out ‹_›, _, rfl⟩
          case measure => simp [intOf]; omega
      · go_wp2
        go_ret
        exact ⟨ret_bool (by rw [← HR.out.all (show len ≤ k by omega), ← HR2.out.all (show len ≤ k by omega)]; exact (decide_eq_true hn.out).symm), _, rfl⟩
  · have hne : ((len : Int) != len2) = true := by simp; omega
    go_enter Tryz.func11, Tryz.ntmps11
    go_wp2
    go_ret
    exact ⟨ret_bool (eq_len (by rw [HR.out.size, HR2.out.size]; exact he)).symm, 0, rfl⟩

end Go.Proofs.YtdglnpkkfkagaaaGreat

/-! R04 -/
namespace Go.Proofs.YtdglnpkkfkagaaaGreat
open Go.RowKit
set_option linter.unusedVariables false

theorem ret_iii {k k2 k3 : IntKind} {a b c d e f : Int} (h : a = b) (h' : c = d) (h2 : e = f) : Ending.returned (.tuple #[.int k a, .int k2 c, .int k3 e]) = .returned (.tuple #[.int k b, .int k2 d, .int k3 f]) := by rw [h, h', h2]

set_option maxHeartbeats 1000000 in
theorem ref04_Octets (c : Int) (w : World) (h0 : -2147483648 ≤ c) (h1 : c ≤ 2147483647) :
    Calls Tryz.prog 90 #[.int .i32 c] w fun e w' => ∃ a' cap', e = .returned (.slice a' (lenI c) cap') ∧ Reads .u8 w' a' (lenI c) cap' (octs c) ∧ Below w.heap.size w w' := by
  cases hs : scB c
  · have H := hid hs
    have hl : lenI c = 0 := by unfold lenI; rw [if_neg (by simp [hs])]
    have ho : octs c = [] := by unfold octs; rw [if_neg (by simp [hs])]
    rw [hl, ho]
    clear hl ho
    go_enter Tryz.func90, Tryz.ntmps90
    go_wp2_with (go_at_call 113; (with_reducible refine (ref03_Is _ _).mono ?_); rintro e w' ⟨rfl, rfl⟩)
    go_ret
    exact ⟨none, 0, rfl, Reads.nil _ _ _ _ (Nat.zero_le _), Below.refl _ _⟩
  · have H := hid hs
    have hsc := (scB_iff c).1 hs
    have hwf := hid (octs_wf c)
    obtain ⟨g0, g1, g2⟩ := hsc
    have G2 := hid g2
    clear g2
    by_cases c1 : c < 128
    · have ho : octs c = [c] := by unfold octs; rw [if_pos hs, if_pos c1]
      have hl : lenI c = 1 := by rw [← octs_len, ho]; rfl
      rw [ho] at hwf; rw [hl, ho]
      clear hl ho
      go_enter Tryz.func90, Tryz.ntmps90
      go_wp2_with (go_at_call 113; (with_reducible refine (ref03_Is _ _).mono ?_); rintro e w' ⟨rfl, rfl⟩)
      go_ret
      exact ⟨_, _, rfl, Reads.lit .u8 _ w _ (by simp [maxLen]) hwf.out, (Below.refl _ _).alloc (Nat.le_refl _) _⟩
    · by_cases c2 : c < 2048
      · have ho : octs c = [192 + c / 64, 128 + c % 64] := by unfold octs; rw [if_pos hs, if_neg c1, if_pos c2]
        have hl : lenI c = 2 := by rw [← octs_len, ho]; rfl
        rw [ho] at hwf; rw [hl, ho]
        clear hl ho
        go_enter Tryz.func90, Tryz.ntmps90
        go_wp2_with (go_at_call 113; (with_reducible refine (ref03_Is _ _).mono ?_); rintro e w' ⟨rfl, rfl⟩)
        go_ret
        exact ⟨_, _, rfl, Reads.lit .u8 _ w _ (by simp [maxLen]) hwf.out, (Below.refl _ _).alloc (Nat.le_refl _) _⟩
      · by_cases c3 : c < 65536
        · have ho : octs c = [224 + c / 4096, 128 + c / 64 % 64, 128 + c % 64] := by unfold octs; rw [if_pos hs, if_neg c1, if_neg c2, if_pos c3]
          have hl : lenI c = 3 := by rw [← octs_len, ho]; rfl
          rw [ho] at hwf; rw [hl, ho]
          clear hl ho
          go_enter Tryz.func90, Tryz.ntmps90
          go_wp2_with (go_at_call 113; (with_reducible refine (ref03_Is _ _).mono ?_); rintro e w' ⟨rfl, rfl⟩)
          go_ret
          exact ⟨_, _, rfl, Reads.lit .u8 _ w _ (by simp [maxLen]) hwf.out, (Below.refl _ _).alloc (Nat.le_refl _) _⟩
        · have ho : octs c = [240 + c / 262144, 128 + c / 4096 % 64, 128 + c / 64 % 64, 128 + c % 64] := by unfold octs; rw [if_pos hs, if_neg c1, if_neg c2, if_neg c3]
          have hl : lenI c = 4 := by rw [← octs_len, ho]; rfl
          rw [ho] at hwf; rw [hl, ho]
          clear hl ho
          go_enter Tryz.func90, Tryz.ntmps90
          go_wp2_with (go_at_call 113; (with_reducible refine (ref03_Is _ _).mono ?_); rintro e w' ⟨rfl, rfl⟩)
          go_ret
          exact ⟨_, _, rfl, Reads.lit .u8 _ w _ (by simp [maxLen]) hwf.out, (Below.refl _ _).alloc (Nat.le_refl _) _⟩
theorem ref04_wide (a : Int) (w : World) (h0 : 0 ≤ a) (h1 : a ≤ 255) :
    Calls Tryz.prog 117 #[.int .u8 a] w fun e w' => e = .returned (.int .i64 (startN a)) ∧ w = w' := by
  go_enter Tryz.func117, Tryz.ntmps117
  go_wp2
  all_goals (go_ret; exact ⟨ret_int (by unfold startN; (repeat' split) <;> omega), rfl⟩)
theorem ref04_range2 (a : Int) (w : World) (h0 : 0 ≤ a) (h1 : a ≤ 255) :
    Calls Tryz.prog 135 #[.int .u8 a] w fun e w' => e = .returned (.tuple #[.int .u8 (loU a), .int .u8 (hiU a)]) ∧ w = w' := by
  go_enter Tryz.func135, Tryz.ntmps135
  go_wp2
  all_goals (go_ret2; exact ⟨by unfold loU hiU; simp_all, rfl⟩)
set_option maxHeartbeats 1000000 in
theorem ref04_far (a : Option Addr) (len cap : Nat) (xs : List Int) (w : World) (hr : Reads .u8 w a len cap xs) :
    Calls Tryz.prog 116 #[.slice a len cap] w fun e w' => e = .returned (.int .i64 (farN xs)) ∧ w = w' := by
  have hl := hr.len_le
  have hsz := hr.size
  cases xs with
  | nil =>
    obtain rfl : 0 = len := hsz
    clear hr
    go_enter Tryz.func116, Tryz.ntmps116
    go_wp2
    go_ret
    exact ⟨rfl, rfl⟩
  | cons x0 r =>
    have hpos : 0 < len := by simp at hsz; omega
    have hsz' := hid hsz
    clear hsz
    obtain ⟨b, off, rfl, _, hc0, g0, g1⟩ := hr.head8
    have HR := hid hr
    clear hr
    have hne : ((len : Int) == 0) = false := by simp; omega
    by_cases hz : startN x0 = 0
    · have hz' : ((startN x0 : Int) == 0) = true := by simp [hz]
      have HZ := hid hz
      clear hz
      go_enter Tryz.func116, Tryz.ntmps116
      go_wp2_with (go_at_call 117; (with_reducible refine (ref04_wide _ _ g0 g1).mono ?_); rintro e w' ⟨rfl, rfl⟩)
      go_ret
      exact ⟨ret_int (by rw [far_zero HZ.out]; rfl), rfl⟩
    · have hz' : ((startN x0 : Int) == 0) = false := by simp; omega
      have HZ := hid hz
      have hw4 := startN_le x0
      have hb2 : 0 ≤ loU x0 ∧ loU x0 ≤ 255 ∧ 0 ≤ hiU x0 ∧ hiU x0 ≤ 255 := by unfold loU hiU; (repeat' split) <;> omega
      clear hz
      go_enter Tryz.func116, Tryz.ntmps116
      go_wp2_with (go_at_call 117; (with_reducible refine (ref04_wide _ _ g0 g1).mono ?_); rintro e w' ⟨rfl, rfl⟩)
      go_loop [3] (fun i => ∃ k : Nat, 1 ≤ k ∧ k ≤ startN x0 ∧ k ≤ len ∧ i = .int .i64 k ∧ Hid (k + runU x0 k (r.drop (k - 1)) = farN (x0 :: r))) (fun i => startN x0 - (intOf i).toNat)
      case atStart => exact ⟨1, Nat.le_refl _, by have := HZ.out; omega, hpos, rfl, (far_cons HZ.out).symm⟩
      case round =>
        obtain ⟨k, hk1, hk2, hk3, rfl, hn⟩ := hrel
        by_cases ht : k < startN x0
        · by_cases hlt : k < len
          · obtain ⟨b', off', y, hb', _, hc, l0, u0, hx⟩ := HR.out.get8 hlt
            cases hb'
            have hy := hid (tail_get hk1 hx.out.1)
            by_cases k1 : k = 1
            · have k1' : ((k : Int) == 1) = true := by simp [k1]
              have K1 := hid k1
              clear k1
              go_wp2_with (first
                | (go_at_call 117; (with_reducible refine (ref04_wide _ _ g0 g1).mono ?_); rintro e w' ⟨rfl, rfl⟩)
                | (go_at_call 135; (with_reducible refine (ref04_range2 _ _ g0 g1).mono ?_); rintro e w' ⟨rfl, rfl⟩))
              all_goals first
                | (go_ret
                   exact ⟨ret_int (by rw [← hn.out, run_stop hk1 hy.out (.inr (by rw [Bool.eq_false_iff, Ne, K1.out, ok_one]; omega))]), rfl⟩)
                | (go_round
                   case rel => exact ⟨k + 1, by omega, by omega, by omega, by go_num, (run_step hk1 hy.out ht (by rw [K1.out, ok_one]; omega)).symm.trans hn.out⟩
                   case measure => simp [intOf]; omega)
            · have k1' : ((k : Int) == 1) = false := by simp; omega
              have K1 := hid k1
              clear k1
              go_wp2_with (first
                | (go_at_call 117; (with_reducible refine (ref04_wide _ _ g0 g1).mono ?_); rintro e w' ⟨rfl, rfl⟩)
                | (go_at_call 135; (with_reducible refine (ref04_range2 _ _ g0 g1).mono ?_); rintro e w' ⟨rfl, rfl⟩))
              all_goals first
                | (go_ret
                   exact ⟨ret_int (by rw [← hn.out, run_stop hk1 hy.out (.inr (by rw [Bool.eq_false_iff, Ne, ok_two K1.out]; omega))]), rfl⟩)
                | (go_round
                   case rel => exact ⟨k + 1, by omega, by omega, by omega, by go_num, (run_step hk1 hy.out ht (by rw [ok_two K1.out]; omega)).symm.trans hn.out⟩
                   case measure => simp [intOf]; omega)
          · go_wp2_with (go_at_call 117; (with_reducible refine (ref04_wide _ _ g0 g1).mono ?_); rintro e w' ⟨rfl, rfl⟩)
            go_ret
            exact ⟨ret_int (by rw [← hn.out, run_end (by have := hsz'.out; simp at this; omega)]), rfl⟩
        · go_wp2_with (go_at_call 117; (with_reducible refine (ref04_wide _ _ g0 g1).mono ?_); rintro e w' ⟨rfl, rfl⟩)
          go_ret
          exact ⟨ret_int (by rw [← hn.out, run_full (by omega)]), rfl⟩

end Go.Proofs.YtdglnpkkfkagaaaGreat
