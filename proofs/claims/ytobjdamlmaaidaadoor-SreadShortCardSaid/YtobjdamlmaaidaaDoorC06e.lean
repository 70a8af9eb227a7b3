/-
  Contracts of package units' functions: those that range over units' signs.
-/
import Derived.Test.YtobjdamlmaaidaaDoorC06d
namespace Go.Proofs.YtobjdamlmaaidaaDoor
open Go.RowKit Go.Shelf
set_option linter.unusedVariables false
attribute [local go_sem] Oper.semAt_some

set_option maxRecDepth 100000 in
set_option maxHeartbeats 2000000 in
theorem units_Right (a : Option Addr) (len cap : Nat) (xs : List Int) (w : World) (hr : Reads .u16 w a len cap xs) :
    Calls Tryd.prog 39 #[.slice a len cap] w fun e w' => e = .returned (.bool (decide (errP (usigs xs) = 0))) ∧ Below w.heap.size w w' := by
  have hl := hr.len_le
  refine (callsIn_wide (n := 4)).1 ?_
  refine callsIn_of_wp_marks Tryd.func39 rfl trivial ?_ rfl
  simp only [Tryd.ntmps39, List.size_toArray, List.length_cons, List.length_nil, Nat.reduceAdd, Nat.reduceSub, Array.replicate_succ, Array.replicate_zero, List.push_toArray, List.append_toArray, List.nil_append, List.cons_append]
  gi_wp2_with (refine ⟨trivial, ?_⟩; gi_at_call 47; (with_reducible refine (units_signs _ _ _ _ _).mono ?_); rintro e w' ⟨rfl, rfl⟩)
  obtain ⟨b1, b2, hB0⟩ := two_boxes w 4 48 (.bool false) (.slice a len cap)
  refine wpIn_rangeFunc_ownG rfl (by omega) (gf := 58) (lb := #[.pointer (some ⟨w.heap.size + 1, 0, none⟩)]) rfl trivial (enters_of Tryd.func58 (by kernel_rfl) rfl)
    (usigns_stops 3 (w.heap.size + 1) w.heap.size (by omega) a len cap xs w _ hr (Nat.le_refl _) hB0.size hB0 (by simp) b2) keepsBox_t (keepsBox_b hB0.size) (Below.refl _ _) (fun _ => rfl)
    (fun pre W => errP pre = 0 ∧ Boxed W w.heap.size 4 (.bool false) ∧ Below w.heap.size w W)
    (fun c pre W => (c = .ret ∧ errP pre ≠ 0) ∧ Boxed W w.heap.size 4 (.bool false) ∧ Below w.heap.size w W)
    (OwnFrom.and (ownFrom_pure _ (fun pre => errP pre = 0)) (own_box (Nat.le_refl _) hB0.size _ _ (fun _ => .bool false)))
    (fun c => OwnFrom.and (ownFrom_pure _ (fun pre => c = .ret ∧ errP pre ≠ 0)) (own_box (Nat.le_refl _) hB0.size _ _ (fun _ => .bool false)))
    ⟨rfl, b1, hB0⟩
    (fun x => { tmps := #[.slice a len cap, undef, .pointer (some ⟨w.heap.size, 0, none⟩), undef, .int .i64 x.2, .slice a len cap, .func (.func 58) #[] #[.pointer (some ⟨w.heap.size + 1, 0, none⟩)], .int .i32 x.1, .int .i64 x.2, undef, undef], defers := [] }) ?assign ?body ?done ?stop
  case assign =>
    intro l x W K hK
    dsimp only [encS]
    gi_wp2
    exact hK
  case body =>
    rintro l pre x W ⟨h0, hv, hB⟩ hlt
    have hc := hv.cell
    have hf := hv.frozen
    have hsn := errP_snoc pre x
    rw [if_pos h0] at hsn
    have H0 := hid h0
    clear h0
    cases he : x.2 == 0
    · have he' : x.2 ≠ 0 := by simpa using he
      rw [← hsn] at he'
      have HE := hid he'
      clear he'
      gi_wp2
      have hv' := hv.set (.bool false)
      exact ⟨(KeepsOthers.setCell _ _ _).from _, ⟨rfl, HE.out⟩, hv', hB.setCell (p := ⟨w.heap.size, 0, none⟩) (Nat.le_refl _) _⟩
    · have he' : x.2 = 0 := by simpa using he
      rw [← hsn] at he'
      have HE := hid he'
      clear he'
      gi_wp2
      exact ⟨KeepsFrom.refl _ _, KeepsBox.refl _ _ _ _, HE.out, hv, hB⟩
  case done =>
    rintro D ys W hD rfl ⟨h0, hv, hB⟩ hK
    have hc := hv.cell
    have hf := hv.frozen
    have H0 := hid h0
    clear h0
    gi_wp2
    have hK' := (KeepsOthers.setCell W ⟨w.heap.size, 0, none⟩ (.bool true)).same D _ hK rfl
    refine ⟨by simp, .inl ⟨_, _, rfl, run_takeDeferred hK', ?_⟩⟩
    have hc5 := cell_kept (hv.set (.bool true)).cell (grownBy_putObj' _ D (.deferred none)) (fun r e => by cases e; exact ⟨_, hK', rfl⟩)
    refine ⟨.bool true, ?_, by rw [H0.out]; rfl, (hB.setCell (p := ⟨w.heap.size, 0, none⟩) (Nat.le_refl _) _).trans (belowK_b (w := w) (Nat.le_refl _) _ D _ _ (by simp at hD; omega) hK' rfl rfl)⟩
    simp [results, Tryd.f39, go_sem, hc5]
  case stop =>
    rintro D c pre W hD hpre ⟨⟨rfl, h0⟩, hv, hB⟩ hK
    have H0 : Hid (errP (usigs xs) ≠ 0) := by rw [Hid, errP_pre hpre h0]; exact h0
    clear h0
    gi_wp2
    refine ⟨by simp, .inl ⟨_, _, rfl, run_takeDeferred hK, ?_⟩⟩
    have hc5 := cell_kept hv.cell (grownBy_putObj' _ D (.deferred none)) (fun r e => by cases e; exact ⟨_, hK, rfl⟩)
    refine ⟨.bool false, ?_, by rw [decide_eq_false H0.out], hB.trans (belowK_b (w := w) (Nat.le_refl _) W D _ _ (by simp at hD; omega) hK rfl rfl)⟩
    simp [results, Tryd.f39, go_sem, hc5]
theorem encR_utxt (xs : List Int) : encR (usigs xs) = (utxt xs).map (Value.int .i32) := by simp [encR, utxt, Function.comp_def]
theorem reads_urow {e : TypeId} {base : Nat} {w : World} {v : Value} {xs : List Int} (h : w.ownsRow base e 1 v (usigs xs).length (encR (usigs xs))) (hwf : ∀ x ∈ utxt xs, (Lit.int .i32 x).wf = true) :
    ∃ a cap, v = .slice a (usigs xs).length cap ∧ Reads .i32 w a (usigs xs).length cap (utxt xs) := by
  have hO : Own .i32 e base w v (utxt xs) := ⟨by rw [utxt_len, ← encR_utxt]; exact h, hwf⟩
  obtain ⟨a, cap, hv, hr⟩ := hO.reads
  rw [utxt_len] at hv hr
  exact ⟨a, cap, hv, hr⟩
set_option maxRecDepth 100000 in
set_option maxHeartbeats 4000000 in
theorem units_ReadO (a : Option Addr) (len cap : Nat) (xs : List Int) (w : World) (hr : Reads .u16 w a len cap xs) (hN : len < 1000000000000) :
    Calls Tryd.prog 38 #[.slice a len cap] w fun e w' => ∃ v, e = .returned v ∧ Own .i32 21 w.heap.size w' v (utxt xs) ∧ Below w.heap.size w w' := by
  have hl := hr.len_le
  have hbd : ∀ x ∈ xs, 0 ≤ x ∧ x ≤ 65535 := fun x hx => wf_u16 (hr.wf x hx)
  have hwf := hid (utxt_wf hbd)
  clear hbd
  obtain ⟨i0, hi, hz0, hz1, hz2⟩ := info_parts CTR.info
  refine (callsIn_wide (n := 4)).1 ?_
  refine callsIn_of_wp_marks Tryd.func38 rfl trivial ?_ rfl
  simp only [Tryd.ntmps38, List.size_toArray, List.length_cons, List.length_nil, Nat.reduceAdd, Nat.reduceSub, Array.replicate_succ, Array.replicate_zero, List.push_toArray, List.append_toArray, List.nil_append, List.cons_append]
  gi_wp2_with (refine ⟨trivial, ?_⟩; gi_at_call 47; (with_reducible refine (units_signs _ _ _ _ _).mono ?_); rintro e w' ⟨rfl, rfl⟩)
  obtain ⟨b1, b2, hB0⟩ := two_boxes w 22 48 (.slice none 0 0) (.slice a len cap)
  refine wpIn_rangeFunc_ownG rfl (by omega) (gf := 58) (lb := #[.pointer (some ⟨w.heap.size + 1, 0, none⟩)]) rfl trivial (enters_of Tryd.func58 (by kernel_rfl) rfl)
    (usigns_stops 3 (w.heap.size + 1) w.heap.size (by omega) a len cap xs w _ hr (Nat.le_refl _) hB0.size hB0 (by simp) b2) keepsBox_t (keepsBox_b hB0.size) (Below.refl _ _) (fun _ => rfl)
    (fun pre W => (∃ v, Boxed W w.heap.size 22 v ∧ W.ownsRow w.heap.size 21 1 v pre.length (encR pre) ∧ True) ∧ Below w.heap.size w W)
    (fun _ _ _ => False)
    (own_row (Nat.le_refl _) hB0.size _ _ _) (fun _ _ _ _ _ hs _ _ => hs)
    ⟨⟨_, b1, World.ownsRow_nil _ _ _ _, trivial⟩, hB0⟩
    (fun x => { tmps := #[.slice a len cap, undef, .slice none 0 0, .pointer (some ⟨w.heap.size, 0, none⟩), .int .i32 x.1, .slice a len cap, .func (.func 58) #[] #[.pointer (some ⟨w.heap.size + 1, 0, none⟩)], .int .i32 x.1, .int .i64 x.2, undef, undef, undef, undef, undef], defers := [] }) ?assign ?body ?done ?stop
  case assign =>
    intro l x W K hK
    dsimp only [encS]
    gi_wp2
    exact hK
  case body =>
    rintro l pre x W ⟨⟨v, hv, hrow, _⟩, hB⟩ hlt
    have hc := hv.cell
    gi_wp2_with (gi_at_builtin; refine wpListIn_append_own _ rfl _ _ 22 rfl w.heap.size 21 i0 (.int .i32 0) 1 4 Tryd.underlying22 hi hz0 hz1 hz2 rfl (by decide) _ _ _ rfl (hrow.alloc _) ⟨W.heap.size, 0, none⟩ 1 1 [.int .i32 x.1] rfl rfl (cell_one_new _ _ _) (by simp [Value.oneCell']) (by unfold maxLen; omega) (by omega) (by have := hB.size; simp; omega) ?_; intro v' w1 hown' hgrow _; obtain ⟨g', cap', rfl⟩ := ownsRow_succ hown'; obtain ⟨hv1, hv2, hr2, hk2, hb2⟩ := hv.appended (by decide) hrow hB.size (Nat.le_refl _) hown' hgrow; have hc1 := hv1.cell; have hf1 := hv1.frozen)
    exact ⟨hk2.from _, ⟨hb2, fun u hu => box_appended hu (by decide) (by omega) hrow hgrow⟩, ⟨_, hv2, by rw [encR_snoc]; simpa using hr2, trivial⟩, hB.trans hb2⟩
  case done =>
    rintro D ys W hD rfl ⟨⟨v, hv, hrow, _⟩, hB⟩ hK
    have hc := hv.cell
    gi_wp2
    refine ⟨by simp, .inl ⟨_, _, rfl, run_takeDeferred hK, ?_⟩⟩
    have hO : Own .i32 21 w.heap.size (W.putObj D (.deferred none)) v (utxt xs) := ⟨by rw [utxt_len, ← encR_utxt]; exact ownsRow_putObj hrow (.deferred none) hK rfl, hwf.out⟩
    exact ⟨_, results_tmp rfl _ _ _, v, rfl, hO, hB.trans (belowK_b (w := w) (Nat.le_refl _) W D _ _ (by simp at hD; omega) hK rfl rfl)⟩
  case stop =>
    rintro D c pre W _ _ h _
    exact h.elim
theorem units_Read (a : Option Addr) (len cap : Nat) (xs : List Int) (w : World) (hr : Reads .u16 w a len cap xs) (hN : len < 1000000000000) :
    Calls Tryd.prog 38 #[.slice a len cap] w fun e w' => ∃ a' cap', e = .returned (.slice a' (usigs xs).length cap') ∧ Reads .i32 w' a' (usigs xs).length cap' (utxt xs) ∧ Below w.heap.size w w' := by
  refine (units_ReadO a len cap xs w hr hN).mono ?_
  rintro e w' ⟨v, rfl, ho, hb⟩
  obtain ⟨a', cap', rfl, hrd⟩ := ho.reads
  rw [utxt_len] at hrd
  rw [utxt_len]
  exact ⟨a', cap', rfl, hrd, hb⟩

end Go.Proofs.YtobjdamlmaaidaaDoor
