/-
  Texts of ours laid together: C05c, C05d, C09b, C10b, C13a, R03.
-/
import Derived.Test.YtefhddbbiheadaaGreatRows
import Derived.Test.YtefhddbbiheadaaGreatZ29

/-! C05c -/
namespace Go.Proofs.YtefhddbbiheadaaGreat
open Go.RowKit Go.Shelf
set_option linter.unusedVariables false
attribute [local go_sem] Oper.semAt_some

def encR (pre : List (Int × Int)) : List Value := pre.map (fun p => .int .i32 p.1)
theorem encR_snoc (pre : List (Int × Int)) (x : Int × Int) : encR (pre ++ [x]) = encR pre ++ [.int .i32 x.1] := by simp [encR]
theorem encR_txt (xs : List Int) : encR (sigs xs) = (txt xs).map (Value.int .i32) := by simp [encR, txt, Function.comp_def]
theorem reads_row {e : TypeId} {base : Nat} {w : World} {v : Value} {xs : List Int} (h : w.ownsRow base e 1 v (sigs xs).length (encR (sigs xs))) (hwf : ∀ x ∈ txt xs, (Lit.int .i32 x).wf = true) :
    ∃ a cap, v = .slice a (sigs xs).length cap ∧ Reads .i32 w a (sigs xs).length cap (txt xs) := by
  have hO : Own .i32 e base w v (txt xs) := ⟨by rw [txt_len, ← encR_txt]; exact h, hwf⟩
  obtain ⟨a, cap, hv, hr⟩ := hO.reads
  rw [txt_len] at hv hr
  exact ⟨a, cap, hv, hr⟩
theorem own_row {n₀ D : Nat} {w : World} (hn : n₀ ≤ w.heap.size) (hD : n₀ ≤ D) (B : Nat) (t e : TypeId) :
    OwnFrom D (fun (pre : List (Int × Int)) W => (∃ v, Boxed W B t v ∧ W.ownsRow n₀ e 1 v pre.length (encR pre) ∧ True) ∧ Below n₀ w W) :=
  OwnFrom.and (Go.Own.from (holdsRow_own n₀ B t e 1 (fun pre => pre.length) encR (fun _ _ => True)) _) (ownFrom_below hn hD)

set_option maxRecDepth 100000 in
set_option maxHeartbeats 4000000 in
theorem utfall_Read (a : Option Addr) (len cap : Nat) (xs : List Int) (w : World) (hr : Reads .u8 w a len cap xs) (hN : len < 1000000000000) :
    Calls Tryz.prog 53 #[.slice a len cap] w fun e w' => ∃ a' cap', e = .returned (.slice a' (sigs xs).length cap') ∧ Reads .i32 w' a' (sigs xs).length cap' (txt xs) ∧ Below w.heap.size w w' := by
  have hl := hr.len_le
  have hbd : ∀ x ∈ xs, 0 ≤ x ∧ x ≤ 255 := fun x hx => wf_u8 (hr.wf x hx)
  have hwf := hid (txt_wf hbd)
  clear hbd
  obtain ⟨i0, hi, hz0, hz1, hz2⟩ := info_parts CTR.info
  refine (callsIn_wide (n := 4)).1 ?_
  refine callsIn_of_wp_marks Tryz.func53 rfl trivial ?_ rfl
  simp only [Tryz.ntmps53, List.size_toArray, List.length_cons, List.length_nil, Nat.reduceAdd, Nat.reduceSub, Array.replicate_succ, Array.replicate_zero, List.push_toArray, List.append_toArray, List.nil_append, List.cons_append]
  gi_wp2_with (refine ⟨trivial, ?_⟩; gi_at_call 87; (with_reducible refine (utfall_signs _ _ _ _ _).mono ?_); rintro e w' ⟨rfl, rfl⟩)
  obtain ⟨b1, b2, hB0⟩ := two_boxes w 25 22 (.slice none 0 0) (.slice a len cap)
  refine wpIn_rangeFunc_ownG rfl (by omega) (gf := 115) (lb := #[.pointer (some ⟨w.heap.size + 1, 0, none⟩)]) rfl trivial (enters_of Tryz.func115 (by kernel_rfl) rfl)
    (signs_stops 3 (w.heap.size + 1) w.heap.size (by omega) a len cap xs w _ hr (Nat.le_refl _) hB0.size hB0 (by simp) b2) keepsBox_t (keepsBox_b hB0.size) (Below.refl _ _) (fun _ => rfl)
    (fun pre W => (∃ v, Boxed W w.heap.size 25 v ∧ W.ownsRow w.heap.size 21 1 v pre.length (encR pre) ∧ True) ∧ Below w.heap.size w W)
    (fun _ _ _ => False)
    (own_row (Nat.le_refl _) hB0.size _ _ _) (fun _ _ _ _ _ hs _ _ => hs)
    ⟨⟨_, b1, World.ownsRow_nil _ _ _ _, trivial⟩, hB0⟩
    (fun x => { tmps := #[.slice a len cap, undef, .slice none 0 0, .pointer (some ⟨w.heap.size, 0, none⟩), .int .i32 x.1, .slice a len cap, .func (.func 115) #[] #[.pointer (some ⟨w.heap.size + 1, 0, none⟩)], .int .i32 x.1, .int .i64 x.2, undef, undef, undef, undef, undef], defers := [] }) ?assign ?body ?done ?stop
  case assign =>
    intro l x W K hK
    dsimp only [encS]
    gi_wp2
    exact hK
  case body =>
    rintro l pre x W ⟨⟨v, hv, hrow, _⟩, hB⟩ hlt
    have hc := hv.cell
    gi_wp2_with (gi_at_builtin; refine wpListIn_append_own _ rfl _ _ 25 rfl w.heap.size 21 i0 (.int .i32 0) 1 4 Tryz.underlying25 hi hz0 hz1 hz2 rfl (by decide) _ _ _ rfl (hrow.alloc _) ⟨W.heap.size, 0, none⟩ 1 1 [.int .i32 x.1] rfl rfl (cell_one_new _ _ _) (by simp [Value.oneCell']) (by unfold maxLen; omega) (by omega) (by have := hB.size; simp; omega) ?_; intro v' w1 hown' hgrow _; obtain ⟨g', cap', rfl⟩ := ownsRow_succ hown'; obtain ⟨hv1, hv2, hr2, hk2, hb2⟩ := hv.appended (by decide) hrow hB.size (Nat.le_refl _) hown' hgrow; have hc1 := hv1.cell; have hf1 := hv1.frozen)
    exact ⟨hk2.from _, ⟨hb2, fun u hu => box_appended hu (by decide) (by omega) hrow hgrow⟩, ⟨_, hv2, by rw [encR_snoc]; simpa using hr2, trivial⟩, hB.trans hb2⟩
  case done =>
    rintro D ys W hD rfl ⟨⟨v, hv, hrow, _⟩, hB⟩ hK
    have hc := hv.cell
    gi_wp2
    refine ⟨by simp, .inl ⟨_, _, rfl, run_takeDeferred hK, ?_⟩⟩
    obtain ⟨a', cap', rfl, hrd⟩ := reads_row (ownsRow_putObj hrow (.deferred none) hK rfl) hwf.out
    exact ⟨_, results_tmp rfl _ _ _, a', cap', rfl, hrd, hB.trans (belowK_b (w := w) (Nat.le_refl _) W D _ _ (by simp at hD; omega) hK rfl rfl)⟩
  case stop =>
    rintro D c pre W _ _ h _
    exact h.elim

end Go.Proofs.YtefhddbbiheadaaGreat

/-! C05d -/
namespace Go.Proofs.YtefhddbbiheadaaGreat
open Go.RowKit
set_option linter.unusedVariables false


end Go.Proofs.YtefhddbbiheadaaGreat

/-! C09b -/
namespace Go.Proofs.YtefhddbbiheadaaGreat
open Go.RowKit
set_option linter.unusedVariables false

set_option maxHeartbeats 1000000 in
theorem latnine_Read (a : Option Addr) (len cap : Nat) (xs : List Int) (w : World) (hr : Reads .u8 w a len cap xs) (hN : len < 100000000000) :
    Calls Tryz.prog 118 #[.slice a len cap] w fun e w' => ∃ a' cap', e = .returned (.slice a' len cap') ∧ Reads .i32 w' a' len cap' (xs.map sg09) ∧ Below w.heap.size w w' := by
  have HR := hid hr
  have hsz := hr.size
  clear hr
  go_enter Tryz.func118, Tryz.ntmps118
  go_wp2_with (at_make; refine wpList_zeros CTR rfl _ _ rfl (w0 := w) rfl rfl (Below.refl _ _) (by omega) (by decide) ?_; intro g w1 hown hbel)
  obtain ⟨w1, rfl⟩ : ∃ x : World, x = w1 := ⟨_, rfl⟩
  go_loopw [11] (fun i wr => ∃ k : Nat, k ≤ len ∧ i = .int .i64 k ∧ Own .i32 21 w.heap.size wr (.slice (some ⟨g, 0, none⟩) len len) (fill sg09 xs k) ∧ Below w.heap.size w wr) (fun i _ => len - (intOf i).toNat)
  case atStart => exact ⟨0, Nat.zero_le _, rfl, by rw [fill_zero, hsz]; exact hown, hbel⟩
  case round =>
    obtain ⟨k, hk, rfl, hown', hbel'⟩ := hrel
    by_cases hlt : k < len
    · obtain ⟨b, off, x, rfl, _, hc, h0, h1, hx⟩ := (HR.out.below hbel').get8 hlt
      go_wp2_with (go_at_call 139; (with_reducible refine (latnine_Sign _ _ h0 h1).mono ?_); rintro e w2 ⟨rfl, hb2⟩; obtain ⟨hcell, hfz⟩ := (hown'.below hb2).at (j := k) (by rw [fill_len] <;> omega))
      obtain ⟨ho2, hb3⟩ := (hown'.below hb2).store (below_then hbel' hb2) k (sg09_wf x h0 h1)
      rw [fill_set sg09 (by omega) hx.out.2] at ho2
      go_roundw
      case rel => exact ⟨k + 1, by omega, by go_num, ho2, hb3⟩
      case measure => simp [intOf]; omega
    · go_wp2
      go_ret
      obtain ⟨a', cap', hv, hrd⟩ := hown'.reads
      rw [fill_all sg09 xs k (by omega)] at hv hrd
      simp only [List.length_map, hsz] at hv hrd
      exact ⟨a', cap', by rw [← hv]; rfl, hrd, hbel'⟩

end Go.Proofs.YtefhddbbiheadaaGreat

/-! C10b -/
namespace Go.Proofs.YtefhddbbiheadaaGreat
open Go.RowKit
set_option linter.unusedVariables false

set_option maxHeartbeats 1000000 in
theorem winone_Read (a : Option Addr) (len cap : Nat) (xs : List Int) (w : World) (hr : Reads .u8 w a len cap xs) (hN : len < 100000000000) :
    Calls Tryz.prog 119 #[.slice a len cap] w fun e w' => ∃ a' cap', e = .returned (.slice a' len cap') ∧ Reads .i32 w' a' len cap' (xs.map sg10) ∧ Below w.heap.size w w' := by
  have HR := hid hr
  have hsz := hr.size
  clear hr
  go_enter Tryz.func119, Tryz.ntmps119
  go_wp2_with (at_make; refine wpList_zeros CTR rfl _ _ rfl (w0 := w) rfl rfl (Below.refl _ _) (by omega) (by decide) ?_; intro g w1 hown hbel)
  obtain ⟨w1, rfl⟩ : ∃ x : World, x = w1 := ⟨_, rfl⟩
  go_loopw [11] (fun i wr => ∃ k : Nat, k ≤ len ∧ i = .int .i64 k ∧ Own .i32 21 w.heap.size wr (.slice (some ⟨g, 0, none⟩) len len) (fill sg10 xs k) ∧ Below w.heap.size w wr) (fun i _ => len - (intOf i).toNat)
  case atStart => exact ⟨0, Nat.zero_le _, rfl, by rw [fill_zero, hsz]; exact hown, hbel⟩
  case round =>
    obtain ⟨k, hk, rfl, hown', hbel'⟩ := hrel
    by_cases hlt : k < len
    · obtain ⟨b, off, x, rfl, _, hc, h0, h1, hx⟩ := (HR.out.below hbel').get8 hlt
      go_wp2_with (go_at_call 140; (with_reducible refine (winone_Sign _ _ h0 h1).mono ?_); rintro e w2 ⟨rfl, hb2⟩; obtain ⟨hcell, hfz⟩ := (hown'.below hb2).at (j := k) (by rw [fill_len] <;> omega))
      obtain ⟨ho2, hb3⟩ := (hown'.below hb2).store (below_then hbel' hb2) k (sg10_wf x h0 h1)
      rw [fill_set sg10 (by omega) hx.out.2] at ho2
      go_roundw
      case rel => exact ⟨k + 1, by omega, by go_num, ho2, hb3⟩
      case measure => simp [intOf]; omega
    · go_wp2
      go_ret
      obtain ⟨a', cap', hv, hrd⟩ := hown'.reads
      rw [fill_all sg10 xs k (by omega)] at hv hrd
      simp only [List.length_map, hsz] at hv hrd
      exact ⟨a', cap', by rw [← hv]; rfl, hrd, hbel'⟩

end Go.Proofs.YtefhddbbiheadaaGreat

/-! C13a -/
namespace Go.Proofs.YtefhddbbiheadaaGreat
open Go.RowKit
set_option linter.unusedVariables false

theorem octs_map {n : Int} {f : Int → Int} {xs : List Int} (h : xs.all (hasR n) = true) (hf : ∀ c, hasR n c = true → octR n c = [f c]) : octsR n xs = xs.map f := by
  unfold octsR
  induction xs with
  | nil => rfl
  | cons x xs ih =>
    simp only [List.all_cons, Bool.and_eq_true] at h
    rw [List.flatMap_cons, hf x h.1, ih h.2]; rfl
theorem cs_1 {xs : List Int} (h : xs.all (hasR 1) = true) : csE sg08 xs = 0 ∧ csL sg08 xs = octsR 1 xs := by
  have ha : xs.all (hasI sg08) = true := by
    rw [List.all_eq_true] at h ⊢
    intro c hc
    have := h c hc
    unfold hasR at this
    rw [if_pos rfl] at this
    have := of_decide_eq_true this
    exact (put08 c this.1 (by omega)).2
  unfold csE csL
  rw [if_pos ha, if_pos ha]
  refine ⟨rfl, (octs_map h fun c hc => ?_).symm⟩
  have hh := hc
  unfold hasR at hh
  rw [if_pos rfl] at hh
  have := of_decide_eq_true hh
  unfold octR
  rw [if_pos hc, if_pos rfl, (put08 c this.1 (by omega)).1]
theorem cs_2 {xs : List Int} (h : xs.all (hasR 2) = true) : csE sg08 xs = 0 ∧ csL sg08 xs = octsR 2 xs := by
  have e : hasR 2 = hasI sg08 := rfl
  unfold csE csL
  rw [← e, if_pos h, if_pos h]
  exact ⟨rfl, (octs_map h fun c hc => by unfold octR; rw [if_pos hc, if_neg (by omega), if_pos rfl]).symm⟩
theorem cs_3 {xs : List Int} (h : xs.all (hasR 3) = true) : csE sg09 xs = 0 ∧ csL sg09 xs = octsR 3 xs := by
  have e : hasR 3 = hasI sg09 := rfl
  unfold csE csL
  rw [← e, if_pos h, if_pos h]
  exact ⟨rfl, (octs_map h fun c hc => by unfold octR; rw [if_pos hc, if_neg (by omega), if_neg (by omega), if_pos rfl]).symm⟩
theorem cs_4 {xs : List Int} (h : xs.all (hasR 4) = true) : csE sg10 xs = 0 ∧ csL sg10 xs = octsR 4 xs := by
  have e : hasR 4 = hasI sg10 := rfl
  unfold csE csL
  rw [← e, if_pos h, if_pos h]
  exact ⟨rfl, (octs_map h fun c hc => by unfold octR; rw [if_pos hc, if_neg (by omega), if_neg (by omega), if_neg (by omega), if_pos rfl]).symm⟩
/-- What is read of ASCII, octet by octet, in place. -/
def mixR (xs : List Int) (k : Nat) : List Int := (xs.take k).map (rdR 1) ++ (xs.drop k).map sg08
theorem mix_zero (xs : List Int) : mixR xs 0 = xs.map sg08 := by simp [mixR]
theorem mix_len (xs : List Int) (k : Nat) : (mixR xs k).length = xs.length := by simp [mixR]; omega
theorem mix_all {xs : List Int} {k : Nat} (h : xs.length ≤ k) : mixR xs k = xs.map (rdR 1) := by simp [mixR, List.take_of_length_le h, List.drop_of_length_le h]
theorem mix_parts {xs : List Int} {k : Nat} (hk : k < xs.length) : mixR xs k = (xs.take k).map (rdR 1) ++ sg08 xs[k] :: (xs.drop (k + 1)).map sg08 := by
  unfold mixR; rw [List.drop_eq_getElem_cons hk]; rfl
theorem mix_get {xs : List Int} {k : Nat} (hk : k < xs.length) : (mixR xs k)[k]'(by rw [mix_len]; exact hk) = xs[k] := by
  simp only [mix_parts hk]
  rw [List.getElem_append_right (by simp; omega)]
  simp [show min k xs.length = k by omega]; rfl
theorem mix_next {xs : List Int} {k : Nat} (hk : k < xs.length) : mixR xs (k + 1) = (xs.take k).map (rdR 1) ++ rdR 1 xs[k] :: (xs.drop (k + 1)).map sg08 := by
  unfold mixR
  rw [List.take_succ_eq_append_getElem hk, List.map_append, List.append_assoc]; rfl
theorem mix_set {xs : List Int} {k : Nat} (hk : k < xs.length) (h : 127 < xs[k]) : (mixR xs k).set k 65533 = mixR xs (k + 1) := by
  rw [mix_next hk, mix_parts hk]
  rw [List.set_append_right _ _ (by simp; omega)]
  have e : rdR 1 xs[k] = 65533 := by unfold rdR; rw [if_pos ⟨rfl, h⟩]
  rw [e]
  simp [show min k xs.length = k by omega]
theorem mix_same {xs : List Int} {k : Nat} (hk : k < xs.length) (h : ¬ 127 < xs[k]) : mixR xs k = mixR xs (k + 1) := by
  rw [mix_next hk, mix_parts hk]
  have e : rdR 1 xs[k] = sg08 xs[k] := by unfold rdR sg08; rw [if_neg (fun x => h x.2), if_neg (by omega), if_neg (by omega)]
  rw [e]
set_option maxHeartbeats 1000000 in
/-- latin's Read, as a row of the call's own. -/
theorem latin_ReadO (a : Option Addr) (len cap : Nat) (xs : List Int) (w : World) (hr : Reads .u8 w a len cap xs) (hN : len < 100000000000) :
    Calls Tryz.prog 120 #[.slice a len cap] w fun e w' => ∃ g, e = .returned (.slice (some ⟨g, 0, none⟩) len len) ∧ Own .i32 21 w.heap.size w' (.slice (some ⟨g, 0, none⟩) len len) (xs.map sg08) ∧ Below w.heap.size w w' := by
  have HR := hid hr
  have hsz := hr.size
  clear hr
  go_enter Tryz.func120, Tryz.ntmps120
  go_wp2_with (at_make; refine wpList_zeros CTR rfl _ _ rfl (w0 := w) rfl rfl (Below.refl _ _) (by omega) (by decide) ?_; intro g w1 hown hbel)
  obtain ⟨w1, rfl⟩ : ∃ x : World, x = w1 := ⟨_, rfl⟩
  go_loopw [10] (fun i wr => ∃ k : Nat, k ≤ len ∧ i = .int .i64 k ∧ Own .i32 21 w.heap.size wr (.slice (some ⟨g, 0, none⟩) len len) (fill sg08 xs k) ∧ Below w.heap.size w wr) (fun i _ => len - (intOf i).toNat)
  case atStart => exact ⟨0, Nat.zero_le _, rfl, by rw [fill_zero, hsz]; exact hown, hbel⟩
  case round =>
    obtain ⟨k, hk, rfl, hown', hbel'⟩ := hrel
    by_cases hlt : k < len
    · obtain ⟨b, off, x, rfl, _, hc, h0, h1, hx⟩ := (HR.out.below hbel').get8 hlt
      obtain ⟨hcell, hfz⟩ := hown'.at (j := k) (by rw [fill_len] <;> omega)
      obtain ⟨ho2, hb2⟩ := hown'.store hbel' k (sg08_wf x h0 h1)
      rw [fill_set sg08 (by omega) hx.out.2] at ho2
      have HO := hid ho2
      have HB := hid hb2
      clear ho2 hb2 hown' hbel'
      go_wp2_with (go_at_call 141; (with_reducible refine (latin_Sign _ _ h0 h1).mono ?_); rintro e w' ⟨rfl, rfl⟩)
      go_roundw
      case rel => exact ⟨k + 1, by omega, by go_num, HO.out, HB.out⟩
      case measure => simp [intOf]; omega
    · go_wp2
      go_ret
      rw [fill_all sg08 xs k (by omega)] at hown'
      exact ⟨g, rfl, hown', hbel'⟩
end Go.Proofs.YtefhddbbiheadaaGreat

/-! R03 -/
namespace Go.Proofs.YtefhddbbiheadaaGreat
open Go.RowKit
set_option linter.unusedVariables false

theorem STR : SliceT Tryz.prog 25 21 .i32 4 := ⟨Tryz.underlying25, by kernel_rfl, by decide⟩

theorem ref03_Surrogate (c : Int) (w : World) :
    Calls Tryz.prog 51 #[.int .i32 c] w fun e w' => e = .returned (.bool (surB c)) ∧ w = w' := by
  go_enter Tryz.func51, Tryz.ntmps51
  go_wp2
  all_goals (go_ret; exact ⟨ret_bool (by unfold surB; simp; omega), rfl⟩)
theorem ref03_Is (c : Int) (w : World) :
    Calls Tryz.prog 31 #[.int .i32 c] w fun e w' => e = .returned (.bool (scB c)) ∧ w = w' := by
  go_enter Tryz.func31, Tryz.ntmps31
  go_wp2_with (go_at_call 51; (with_reducible refine (ref03_Surrogate _ _).mono ?_); rintro e w' ⟨rfl, rfl⟩)
  all_goals (go_ret; exact ⟨ret_bool (by first | exact sc_of ‹_› ‹_› | (unfold scB; simp; omega)), rfl⟩)
set_option maxHeartbeats 1000000 in
theorem ref03_First (a : Option Addr) (len cap : Nat) (xs : List Int) (w : World) (hr : Reads .i32 w a len cap xs) :
    Calls Tryz.prog 18 #[.slice a len cap] w fun e w' => e = .returned (.int .i64 (idxI (fun c => !scB c) xs)) ∧ w = w' := by
  have hl := hr.len_le
  have HR := hid hr
  clear hr
  go_enter Tryz.func18, Tryz.ntmps18
  go_wp2
  go_loop [3] (fun i => ∃ k : Nat, k ≤ len ∧ i = .int .i64 k ∧ Hid ((xs.take k).any (fun c => !scB c) = false)) (fun i => len - (intOf i).toNat)
  case atStart => exact ⟨0, Nat.zero_le _, rfl, rfl⟩
  case round =>
    obtain ⟨k, hk, rfl, hn⟩ := hrel
    by_cases hlt : k < len
    · obtain ⟨b, off, x, rfl, _, hc, h0, h1, hx⟩ := HR.out.getR hlt
      cases hs : scB x
      · have H := hid hs
        go_wp2_with (go_at_call 31; (with_reducible refine (ref03_Is _ _).mono ?_); rintro e w' ⟨rfl, rfl⟩)
        go_ret
        exact ⟨ret_int (idx_hit hx.out.1 hn.out (by simp [H.out])).symm, rfl⟩
      · have H := hid hs
        go_wp2_with (go_at_call 31; (with_reducible refine (ref03_Is _ _).mono ?_); rintro e w' ⟨rfl, rfl⟩)
        go_round
        case rel => exact ⟨k + 1, by omega, by go_num, none_yes hx.out.2 hn.out (by simp [H.out])⟩
        case measure => simp [intOf]; omega
    · go_wp2
      go_ret
      exact ⟨ret_int (by rw [← HR.out.all (show len ≤ k by omega)]; exact (idx_none hn.out).symm), rfl⟩
set_option maxHeartbeats 1000000 in
theorem ref03_Like (a : Option Addr) (len cap : Nat) (xs : List Int) (a2 : Option Addr) (len2 cap2 : Nat) (ys : List Int) (w : World) (hr : Reads .i32 w a len cap xs) (hr2 : Reads .i32 w a2 len2 cap2 ys) :
    Calls Tryz.prog 8 #[.slice a len cap, .slice a2 len2 cap2] w fun e w' => e = .returned (.bool (decide (xs = ys))) ∧ ∃ n, w' = w.drewN n := by
  have hl := hr.len_le
  have hl2 := hr2.len_le
  have HR := hid hr
  have HR2 := hid hr2
  clear hr hr2
  by_cases he : len = len2
  · subst he
    go_enter Tryz.func8, Tryz.ntmps8
    go_wp2
    go_loopw [5] (fun i wr => ∃ k : Nat, k ≤ len ∧ i = .int .i64 k ∧ Hid (xs.take k = ys.take k) ∧ ∃ n, wr = w.drewN n) (fun i _ => len - (intOf i).toNat)
    case atStart => exact ⟨0, Nat.zero_le _, rfl, rfl, 0, rfl⟩
    case round =>
      obtain ⟨k, hk, rfl, hn, n, rfl⟩ := hrel
      by_cases hlt : k < len
      · obtain ⟨b, off, x, rfl, _, hc, h0, h1, hx⟩ := HR.out.getR hlt
        obtain ⟨b2, off2, y, rfl, _, hc2, h02, h12, hy⟩ := HR2.out.getR hlt
        go_wp2
        go_quiet (fail)
        go_wp2
        · go_ret
          exact ⟨ret_bool (eq_no hx.out.1 hy.out.1 ‹_›).symm, by simp only [World.drewN_drewN]; exact ⟨_, rfl⟩⟩
        · go_roundw
          case rel => exact ⟨k + 1, by omega, by go_num, eq_yes hx.out.2 hy.out.2 hn.out ‹_›, _, rfl⟩
          case measure => simp [intOf]; omega
      · go_wp2
        go_ret
        exact ⟨ret_bool (by rw [← HR.out.all (show len ≤ k by omega), ← HR2.out.all (show len ≤ k by omega)]; exact (decide_eq_true hn.out).symm), _, rfl⟩
  · have hne : ((len : Int) != len2) = true := by simp; omega
    go_enter Tryz.func8, Tryz.ntmps8
    go_wp2
    go_ret
    exact ⟨ret_bool (eq_len (by rw [HR.out.size, HR2.out.size]; exact he)).symm, 0, rfl⟩

end Go.Proofs.YtefhddbbiheadaaGreat
