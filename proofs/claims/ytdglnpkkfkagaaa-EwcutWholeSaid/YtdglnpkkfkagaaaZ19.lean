/-
  Texts of ours laid together: C09b, C10b, C13a, R03, R04, R04b, R05, R08, R09, R10, R12, R13, C13.
-/
import Derived.Test.YtdglnpkkfkagaaaRows
import Derived.Handy
import Derived.Test.YtdglnpkkfkagaaaZ18

/-! C09b -/
namespace Go.Proofs.Ytdglnpkkfkagaaa
open Go.RowKit
set_option linter.unusedVariables false

set_option maxHeartbeats 1000000 in
theorem latnine_Lay (a : Option Addr) (len cap : Nat) (xs : List Int) (w : World) (hr : Reads .i32 w a len cap xs) (hN : len < 100000000000) :
    Calls Try.prog 43 #[.slice a len cap] w fun e w' => ∃ a' len' cap', e = .returned (.tuple #[.slice a' len' cap', .int .i64 (csE sg09 xs)]) ∧ Reads .u8 w' a' len' cap' (csL sg09 xs) ∧ Below w.heap.size w w' := by
  have HR := hid hr
  have hsz := hr.size
  clear hr
  go_enter Try.func43, Try.ntmps43
  go_wp2_with (at_make; refine wpList_zeros CT8 rfl _ _ rfl (w0 := w) rfl rfl (Below.refl _ _) (by omega) (by decide) ?_; intro g w1 hown hbel)
  obtain ⟨w1, rfl⟩ : ∃ x : World, x = w1 := ⟨_, rfl⟩
  go_loopw [14] (fun i wr => ∃ k : Nat, k ≤ len ∧ i = .int .i64 k ∧ Hid ((xs.take k).all (hasI sg09) = true) ∧ Own .u8 5 w.heap.size wr (.slice (some ⟨g, 0, none⟩) len len) (fill (putI sg09) xs k) ∧ Below w.heap.size w wr) (fun i _ => len - (intOf i).toNat)
  case atStart => exact ⟨0, Nat.zero_le _, rfl, rfl, by rw [fill_zero, hsz]; exact hown, hbel⟩
  case round =>
    obtain ⟨k, hk, rfl, hn, hown', hbel'⟩ := hrel
    by_cases hlt : k < len
    · obtain ⟨b, off, x, rfl, _, hc, h0, h1, hx⟩ := (HR.out.below hbel').getR hlt
      cases hs : hasI sg09 x
      · have H := hid hs
        have hF := hid (all_no hx.out.1 hs)
        go_wp2_with (go_at_call 53; (with_reducible refine (latnine_Put _ _).mono ?_); rintro e w2 ⟨rfl, hb2⟩)
        go_ret2
        exact ⟨none, 0, 0, ret_si (by unfold csE; simp [hF.out]), by unfold csL; simp only [hF.out]; exact Reads.nil _ _ _ _ (Nat.zero_le _), below_then hbel' hb2⟩
      · have H := hid hs
        go_wp2_with (go_at_call 53; (with_reducible refine (latnine_Put _ _).mono ?_); rintro e w2 ⟨rfl, hb2⟩; obtain ⟨hcell, hfz⟩ := (hown'.below hb2).at (j := k) (by rw [fill_len] <;> omega))
        obtain ⟨ho2, hb3⟩ := (hown'.below hb2).store (below_then hbel' hb2) k (put_wf sg09 x)
        rw [fill_set (putI sg09) (by omega) hx.out.2] at ho2
        go_roundw
        case rel => exact ⟨k + 1, by omega, by go_num, all_yes hx.out.2 hn.out H.out, ho2, hb3⟩
        case measure => simp [intOf]; omega
    · have hn' := hn.out
      rw [HR.out.all (show len ≤ k by omega)] at hn'
      have hF := hid hn'
      clear hn'
      go_wp2
      go_ret2
      obtain ⟨a', cap', hv, hrd⟩ := hown'.reads
      rw [fill_all (putI sg09) xs k (by omega)] at hv hrd
      simp only [Value.slice.injEq] at hv
      obtain ⟨rfl, hl2, rfl⟩ := hv
      exact ⟨_, _, _, ret_si (by unfold csE; simp [hF.out]), by unfold csL; simp only [hF.out]; rw [← hl2] at hrd; exact hrd, hbel'⟩

end Go.Proofs.Ytdglnpkkfkagaaa

/-! C10b -/
namespace Go.Proofs.Ytdglnpkkfkagaaa
open Go.RowKit
set_option linter.unusedVariables false

set_option maxHeartbeats 1000000 in
theorem winone_Lay (a : Option Addr) (len cap : Nat) (xs : List Int) (w : World) (hr : Reads .i32 w a len cap xs) (hN : len < 100000000000) :
    Calls Try.prog 44 #[.slice a len cap] w fun e w' => ∃ a' len' cap', e = .returned (.tuple #[.slice a' len' cap', .int .i64 (csE sg10 xs)]) ∧ Reads .u8 w' a' len' cap' (csL sg10 xs) ∧ Below w.heap.size w w' := by
  have HR := hid hr
  have hsz := hr.size
  clear hr
  go_enter Try.func44, Try.ntmps44
  go_wp2_with (at_make; refine wpList_zeros CT8 rfl _ _ rfl (w0 := w) rfl rfl (Below.refl _ _) (by omega) (by decide) ?_; intro g w1 hown hbel)
  obtain ⟨w1, rfl⟩ : ∃ x : World, x = w1 := ⟨_, rfl⟩
  go_loopw [14] (fun i wr => ∃ k : Nat, k ≤ len ∧ i = .int .i64 k ∧ Hid ((xs.take k).all (hasI sg10) = true) ∧ Own .u8 5 w.heap.size wr (.slice (some ⟨g, 0, none⟩) len len) (fill (putI sg10) xs k) ∧ Below w.heap.size w wr) (fun i _ => len - (intOf i).toNat)
  case atStart => exact ⟨0, Nat.zero_le _, rfl, rfl, by rw [fill_zero, hsz]; exact hown, hbel⟩
  case round =>
    obtain ⟨k, hk, rfl, hn, hown', hbel'⟩ := hrel
    by_cases hlt : k < len
    · obtain ⟨b, off, x, rfl, _, hc, h0, h1, hx⟩ := (HR.out.below hbel').getR hlt
      cases hs : hasI sg10 x
      · have H := hid hs
        have hF := hid (all_no hx.out.1 hs)
        go_wp2_with (go_at_call 54; (with_reducible refine (winone_Put _ _).mono ?_); rintro e w2 ⟨rfl, hb2⟩)
        go_ret2
        exact ⟨none, 0, 0, ret_si (by unfold csE; simp [hF.out]), by unfold csL; simp only [hF.out]; exact Reads.nil _ _ _ _ (Nat.zero_le _), below_then hbel' hb2⟩
      · have H := hid hs
        go_wp2_with (go_at_call 54; (with_reducible refine (winone_Put _ _).mono ?_); rintro e w2 ⟨rfl, hb2⟩; obtain ⟨hcell, hfz⟩ := (hown'.below hb2).at (j := k) (by rw [fill_len] <;> omega))
        obtain ⟨ho2, hb3⟩ := (hown'.below hb2).store (below_then hbel' hb2) k (put_wf sg10 x)
        rw [fill_set (putI sg10) (by omega) hx.out.2] at ho2
        go_roundw
        case rel => exact ⟨k + 1, by omega, by go_num, all_yes hx.out.2 hn.out H.out, ho2, hb3⟩
        case measure => simp [intOf]; omega
    · have hn' := hn.out
      rw [HR.out.all (show len ≤ k by omega)] at hn'
      have hF := hid hn'
      clear hn'
      go_wp2
      go_ret2
      obtain ⟨a', cap', hv, hrd⟩ := hown'.reads
      rw [fill_all (putI sg10) xs k (by omega)] at hv hrd
      simp only [Value.slice.injEq] at hv
      obtain ⟨rfl, hl2, rfl⟩ := hv
      exact ⟨_, _, _, ret_si (by unfold csE; simp [hF.out]), by unfold csL; simp only [hF.out]; rw [← hl2] at hrd; exact hrd, hbel'⟩

end Go.Proofs.Ytdglnpkkfkagaaa

/-! C13a -/
namespace Go.Proofs.Ytdglnpkkfkagaaa
open Go.RowKit
set_option linter.unusedVariables false

theorem octs_map {n : Int} {f : Int → Int} {xs : List Int} (h : xs.all (hasR n) = true) (hf : ∀ c, hasR n c = true → octR n c = [f c]) : octsR n xs = xs.map f := by
  unfold octsR
  induction xs with
  | nil => rfl
  | cons x xs ih =>
    simp only [List.all_cons, Bool.and_eq_true] at h
    rw [List.flatMap_cons, hf x h.1, ih h.2]; rfl
theorem cs_1 {xs : List Int} (h : xs.all (hasR 1) = true) : csE sg08 xs = 0 ∧ csL sg08 xs = octsR 1 xs := by
  have ha : xs.all (hasI sg08) = true := by
    rw [List.all_eq_true] at h ⊢
    intro c hc
    have := h c hc
    unfold hasR at this
    rw [if_pos rfl] at this
    have := of_decide_eq_true this
    exact (put08 c this.1 (by omega)).2
  unfold csE csL
  rw [if_pos ha, if_pos ha]
  refine ⟨rfl, (octs_map h fun c hc => ?_).symm⟩
  have hh := hc
  unfold hasR at hh
  rw [if_pos rfl] at hh
  have := of_decide_eq_true hh
  unfold octR
  rw [if_pos hc, if_pos rfl, (put08 c this.1 (by omega)).1]
theorem cs_2 {xs : List Int} (h : xs.all (hasR 2) = true) : csE sg08 xs = 0 ∧ csL sg08 xs = octsR 2 xs := by
  have e : hasR 2 = hasI sg08 := rfl
  unfold csE csL
  rw [← e, if_pos h, if_pos h]
  exact ⟨rfl, (octs_map h fun c hc => by unfold octR; rw [if_pos hc, if_neg (by omega), if_pos rfl]).symm⟩
theorem cs_3 {xs : List Int} (h : xs.all (hasR 3) = true) : csE sg09 xs = 0 ∧ csL sg09 xs = octsR 3 xs := by
  have e : hasR 3 = hasI sg09 := rfl
  unfold csE csL
  rw [← e, if_pos h, if_pos h]
  exact ⟨rfl, (octs_map h fun c hc => by unfold octR; rw [if_pos hc, if_neg (by omega), if_neg (by omega), if_pos rfl]).symm⟩
theorem cs_4 {xs : List Int} (h : xs.all (hasR 4) = true) : csE sg10 xs = 0 ∧ csL sg10 xs = octsR 4 xs := by
  have e : hasR 4 = hasI sg10 := rfl
  unfold csE csL
  rw [← e, if_pos h, if_pos h]
  exact ⟨rfl, (octs_map h fun c hc => by unfold octR; rw [if_pos hc, if_neg (by omega), if_neg (by omega), if_neg (by omega), if_pos rfl]).symm⟩
/-- What is read of ASCII, octet by octet, in place. -/
def mixR (xs : List Int) (k : Nat) : List Int := (xs.take k).map (rdR 1) ++ (xs.drop k).map sg08
theorem mix_zero (xs : List Int) : mixR xs 0 = xs.map sg08 := by simp [mixR]
theorem mix_len (xs : List Int) (k : Nat) : (mixR xs k).length = xs.length := by simp [mixR]; omega
theorem mix_all {xs : List Int} {k : Nat} (h : xs.length ≤ k) : mixR xs k = xs.map (rdR 1) := by simp [mixR, List.take_of_length_le h, List.drop_of_length_le h]
theorem mix_parts {xs : List Int} {k : Nat} (hk : k < xs.length) : mixR xs k = (xs.take k).map (rdR 1) ++ sg08 xs[k] :: (xs.drop (k + 1)).map sg08 := by
  unfold mixR; rw [List.drop_eq_getElem_cons hk]; rfl
theorem mix_get {xs : List Int} {k : Nat} (hk : k < xs.length) : (mixR xs k)[k]'(by rw [mix_len]; exact hk) = xs[k] := by
  simp only [mix_parts hk]
  rw [List.getElem_append_right (by simp; omega)]
  simp [show min k xs.length = k by omega]; rfl
theorem mix_next {xs : List Int} {k : Nat} (hk : k < xs.length) : mixR xs (k + 1) = (xs.take k).map (rdR 1) ++ rdR 1 xs[k] :: (xs.drop (k + 1)).map sg08 := by
  unfold mixR
  rw [List.take_succ_eq_append_getElem hk, List.map_append, List.append_assoc]; rfl
theorem mix_set {xs : List Int} {k : Nat} (hk : k < xs.length) (h : 127 < xs[k]) : (mixR xs k).set k 65533 = mixR xs (k + 1) := by
  rw [mix_next hk, mix_parts hk]
  rw [List.set_append_right _ _ (by simp; omega)]
  have e : rdR 1 xs[k] = 65533 := by unfold rdR; rw [if_pos ⟨rfl, h⟩]
  rw [e]
  simp [show min k xs.length = k by omega]
theorem mix_same {xs : List Int} {k : Nat} (hk : k < xs.length) (h : ¬ 127 < xs[k]) : mixR xs k = mixR xs (k + 1) := by
  rw [mix_next hk, mix_parts hk]
  have e : rdR 1 xs[k] = sg08 xs[k] := by unfold rdR sg08; rw [if_neg (fun x => h x.2), if_neg (by omega), if_neg (by omega)]
  rw [e]
end Go.Proofs.Ytdglnpkkfkagaaa

/-! R03 -/
namespace Go.Proofs.Ytdglnpkkfkagaaa
open Go.RowKit
set_option linter.unusedVariables false

theorem STR : SliceT Try.prog 23 21 .i32 4 := ⟨Try.underlying23, by kernel_rfl, by decide⟩

set_option maxHeartbeats 1000000 in
theorem ref03_Like (a : Option Addr) (len cap : Nat) (xs : List Int) (a2 : Option Addr) (len2 cap2 : Nat) (ys : List Int) (w : World) (hr : Reads .i32 w a len cap xs) (hr2 : Reads .i32 w a2 len2 cap2 ys) :
    Calls Try.prog 6 #[.slice a len cap, .slice a2 len2 cap2] w fun e w' => e = .returned (.bool (decide (xs = ys))) ∧ ∃ n, w' = w.drewN n := by
  have hl := hr.len_le
  have hl2 := hr2.len_le
  have HR := hid hr
  have HR2 := hid hr2
  clear hr hr2
  by_cases he : len = len2
  · subst he
    go_enter Try.func6, Try.ntmps6
    go_wp2
    go_loopw [5] (fun i wr => ∃ k : Nat, k ≤ len ∧ i = .int .i64 k ∧ Hid (xs.take k = ys.take k) ∧ ∃ n, wr = w.drewN n) (fun i _ => len - (intOf i).toNat)
    case atStart => exact ⟨0, Nat.zero_le _, rfl, rfl, 0, rfl⟩
    case round =>
      obtain ⟨k, hk, rfl, hn, n, rfl⟩ := hrel
      by_cases hlt : k < len
      · obtain ⟨b, off, x, rfl, _, hc, h0, h1, hx⟩ := HR.out.getR hlt
        obtain ⟨b2, off2, y, rfl, _, hc2, h02, h12, hy⟩ := HR2.out.getR hlt
        go_wp2
        go_quiet (fail)
        go_wp2
        · go_ret
          exact ⟨ret_bool (eq_no hx.out.1 hy.out.1 ‹_›).symm, by simp only [World.drewN_drewN]; exact ⟨_, rfl⟩⟩
        · go_roundw
          case rel => exact ⟨k + 1, by omega, by go_num, eq_yes hx.out.2 hy.out.2 hn.out ‹_›, _, rfl⟩
          case measure => simp [intOf]; omega
      · go_wp2
        go_ret
        exact ⟨ret_bool (by rw [← HR.out.all (show len ≤ k by omega), ← HR2.out.all (show len ≤ k by omega)]; exact (decide_eq_true hn.out).symm), _, rfl⟩
  · have hne : ((len : Int) != len2) = true := by simp; omega
    go_enter Try.func6, Try.ntmps6
    go_wp2
    go_ret
    exact ⟨ret_bool (eq_len (by rw [HR.out.size, HR2.out.size]; exact he)).symm, 0, rfl⟩

end Go.Proofs.Ytdglnpkkfkagaaa

/-! R04 -/
namespace Go.Proofs.Ytdglnpkkfkagaaa
open Go.RowKit
set_option linter.unusedVariables false

theorem ret_iii {k k2 k3 : IntKind} {a b c d e f : Int} (h : a = b) (h' : c = d) (h2 : e = f) : Ending.returned (.tuple #[.int k a, .int k2 c, .int k3 e]) = .returned (.tuple #[.int k b, .int k2 d, .int k3 f]) := by rw [h, h', h2]


end Go.Proofs.Ytdglnpkkfkagaaa

/-! R04b -/
namespace Go.Proofs.Ytdglnpkkfkagaaa
open Go.RowKit
set_option linter.unusedVariables false


end Go.Proofs.Ytdglnpkkfkagaaa

/-! R05 -/
namespace Go.Proofs.Ytdglnpkkfkagaaa
open Go.RowKit
set_option linter.unusedVariables false

theorem idx_not_neg {xs : List Int} (h : xs.all scB = true) : idxI (fun c => !scB c) xs < 0 := by
  have := idx_neg (fun c => !scB c) xs
  simp only [Bool.not_not] at this
  rw [h] at this; simpa using this
theorem idx_not_pos {xs : List Int} (h : xs.all scB = false) : 0 ≤ idxI (fun c => !scB c) xs := by
  have := idx_neg (fun c => !scB c) xs
  simp only [Bool.not_not] at this
  rw [h] at this; simpa using this


end Go.Proofs.Ytdglnpkkfkagaaa

/-! R08 -/
namespace Go.Proofs.Ytdglnpkkfkagaaa
open Go.RowKit
set_option linter.unusedVariables false


end Go.Proofs.Ytdglnpkkfkagaaa

/-! R09 -/
namespace Go.Proofs.Ytdglnpkkfkagaaa
open Go.RowKit
set_option linter.unusedVariables false


end Go.Proofs.Ytdglnpkkfkagaaa

/-! R10 -/
namespace Go.Proofs.Ytdglnpkkfkagaaa
open Go.RowKit
set_option linter.unusedVariables false


end Go.Proofs.Ytdglnpkkfkagaaa

/-! R12 -/
namespace Go.Proofs.Ytdglnpkkfkagaaa
open Go.RowKit
set_option linter.unusedVariables false

end Go.Proofs.Ytdglnpkkfkagaaa

/-! R13 -/
namespace Go.Proofs.Ytdglnpkkfkagaaa
open Go.RowKit
set_option linter.unusedVariables false

end Go.Proofs.Ytdglnpkkfkagaaa

/-! C13 -/
namespace Go.Proofs.Ytdglnpkkfkagaaa
open Go.RowKit
set_option linter.unusedVariables false

theorem codec_isCharset (n : Int) (w : World) :
    Calls Try.prog 31 #[.int .i64 n] w fun e w' => e = .returned (.bool (decide (1 ≤ n ∧ n ≤ 5))) ∧ Below w.heap.size w w' := by
  have e : Hid (allR n [] = decide (1 ≤ n ∧ n ≤ 5)) := by unfold Hid allR; simp
  go_enter Try.func31, Try.ntmps31
  go_wp2_with (go_at_call 30; (with_reducible refine (reper_All n none 0 0 [] _ (Reads.nil _ _ _ _ (Nat.zero_le _))).mono ?_); rintro e w1 ⟨rfl, hb1⟩)
  go_ret
  exact ⟨ret_bool e.out, hb1⟩
set_option maxHeartbeats 1000000 in
theorem codec_octets (n : Int) (a : Option Addr) (len cap : Nat) (xs : List Int) (w : World) (hr : Reads .i32 w a len cap xs) (hN : len < 100000000) (hn : 1 ≤ n ∧ n ≤ 5) (h : xs.all (hasR n) = true) :
    Calls Try.prog 32 #[.int .i64 n, .slice a len cap] w fun e w' => ∃ a' len' cap', e = .returned (.slice a' len' cap') ∧ Reads .u8 w' a' len' cap' (octsR n xs) ∧ Below w.heap.size w w' := by
  have HR := hid hr
  clear hr
  by_cases h1 : n = 1
  · subst h1
    have e := hid (cs_1 h)
    clear h
    go_enter Try.func32, Try.ntmps32
    go_wp2_with (go_at_call 42; (with_reducible refine (latin_Lay _ _ _ _ _ HR.out (by omega)).mono ?_); rintro e w1 ⟨a1, l1, c1, rfl, hr1, hb1⟩)
    go_ret
    exact ⟨_, _, _, rfl, by rw [← e.out.2]; exact hr1, hb1⟩
  by_cases h2 : n = 2
  · subst h2
    have e := hid (cs_2 h)
    clear h
    go_enter Try.func32, Try.ntmps32
    go_wp2_with (go_at_call 42; (with_reducible refine (latin_Lay _ _ _ _ _ HR.out (by omega)).mono ?_); rintro e w1 ⟨a1, l1, c1, rfl, hr1, hb1⟩)
    go_ret
    exact ⟨_, _, _, rfl, by rw [← e.out.2]; exact hr1, hb1⟩
  by_cases h3 : n = 3
  · subst h3
    have e := hid (cs_3 h)
    clear h
    go_enter Try.func32, Try.ntmps32
    go_wp2_with (go_at_call 43; (with_reducible refine (latnine_Lay _ _ _ _ _ HR.out (by omega)).mono ?_); rintro e w1 ⟨a1, l1, c1, rfl, hr1, hb1⟩)
    go_ret
    exact ⟨_, _, _, rfl, by rw [← e.out.2]; exact hr1, hb1⟩
  by_cases h4 : n = 4
  · subst h4
    have e := hid (cs_4 h)
    clear h
    go_enter Try.func32, Try.ntmps32
    go_wp2_with (go_at_call 44; (with_reducible refine (winone_Lay _ _ _ _ _ HR.out (by omega)).mono ?_); rintro e w1 ⟨a1, l1, c1, rfl, hr1, hb1⟩)
    go_ret
    exact ⟨_, _, _, rfl, by rw [← e.out.2]; exact hr1, hb1⟩
  obtain rfl : n = 5 := by omega
  have hs : xs.all scB = true := h
  have e := hid (octsR_5 hs)
  have HS := hid hs
  clear h hs
  go_enter Try.func32, Try.ntmps32
  go_wp2_with (go_at_call 45; (with_reducible refine (utfall_Lay _ _ _ _ _ HR.out hN HS.out).mono ?_); rintro e w1 ⟨a1, c1, rfl, hr1, hb1⟩)
  go_ret
  exact ⟨_, _, _, rfl, by rw [e.out]; exact hr1, hb1⟩
set_option maxHeartbeats 1000000 in
theorem codec_Lay (n : Int) (a : Option Addr) (len cap : Nat) (xs : List Int) (w : World) (hr : Reads .i32 w a len cap xs) (hN : len < 100000000) :
    Calls Try.prog 23 #[.int .i64 n, .slice a len cap] w fun e w' => ∃ a' len' cap', e = .returned (.tuple #[.slice a' len' cap', .int .i64 (layE n xs)]) ∧ Reads .u8 w' a' len' cap' (layL n xs) ∧ Below w.heap.size w w' := by
  have HR := hid hr
  clear hr
  have hq := codec_isCharset n w
  by_cases hn : 1 ≤ n ∧ n ≤ 5
  · rw [decide_eq_true hn] at hq
    have Hn := hid hn
    cases ha : xs.all (hasR n)
    · have e := hid (lay_no hn ha)
      have eA : Hid (allR n xs = false) := by unfold Hid allR; rw [ha, Bool.and_false]
      clear hn ha
      go_enter Try.func23, Try.ntmps23
      go_wp2_with (first
        | (go_at_call 31; (with_reducible refine hq.mono ?_); rintro e w1 ⟨rfl, hb1⟩; have hr1 := HR.out.below hb1)
        | (go_at_call 30; (with_reducible refine (reper_All _ _ _ _ _ _ hr1).mono ?_); rintro e w2 ⟨rfl, hb2⟩; have hb2' := below_then hb1 hb2; rw [eA.out]))
      go_ret2
      exact ⟨none, 0, 0, ret_si e.out.2.symm, by rw [e.out.1]; exact Reads.nil _ _ _ _ (Nat.zero_le _), hb2'⟩
    · have e := hid (lay_in hn ha)
      have eA : Hid (allR n xs = true) := by unfold Hid allR; rw [ha, decide_eq_true hn]; rfl
      have Ha := hid ha
      clear hn ha
      go_enter Try.func23, Try.ntmps23
      go_wp2_with (first
        | (go_at_call 31; (with_reducible refine hq.mono ?_); rintro e w1 ⟨rfl, hb1⟩; have hr1 := HR.out.below hb1)
        | (go_at_call 30; (with_reducible refine (reper_All _ _ _ _ _ _ hr1).mono ?_); rintro e w2 ⟨rfl, hb2⟩; have hb2' := below_then hb1 hb2; rw [eA.out]; have hr2 := hr1.below hb2)
        | (go_at_call 32; (with_reducible refine (codec_octets _ _ _ _ _ _ hr2 hN Hn.out Ha.out).mono ?_); rintro e w3 ⟨a3, l3, c3, rfl, hr3, hb3⟩; have hb3' := below_then hb2' hb3))
      go_ret2
      exact ⟨_, _, _, ret_si e.out.2.symm, by rw [e.out.1]; exact hr3, hb3'⟩
  · rw [decide_eq_false hn] at hq
    have e := hid (lay_out (xs := xs) hn)
    clear hn
    go_enter Try.func23, Try.ntmps23
    go_wp2_with (go_at_call 31; (with_reducible refine hq.mono ?_); rintro e w1 ⟨rfl, hb1⟩)
    go_ret2
    exact ⟨none, 0, 0, ret_si e.out.2.symm, by rw [e.out.1]; exact Reads.nil _ _ _ _ (Nat.zero_le _), hb1⟩
end Go.Proofs.Ytdglnpkkfkagaaa
