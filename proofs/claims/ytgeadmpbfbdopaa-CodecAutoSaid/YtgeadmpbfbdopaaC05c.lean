/-
  Contracts of package utfall's functions: those that hand back what is read.
-/
import Derived.Test.YtgeadmpbfbdopaaC05b
namespace Go.Proofs.Ytgeadmpbfbdopaa
open Go.RowKit Go.Shelf
set_option linter.unusedVariables false
attribute [local go_sem] Oper.semAt_some

/-- 'out = append(out, ..)' leaves another box as it lay. -/
theorem box_appended {W w1 : World} {n₀ B B' : Nat} {t e : TypeId} {size k : Nat} {v v' u : Value} {xs : List Value} {tmp : Obj}
    (h : Boxed W B' t u) (hte : t ≠ e) (hne : B' ≠ B) (hrow : W.ownsRow n₀ e size v k xs) (hgrow : (W.alloc tmp).grownBy w1 v.ownBlock) : Boxed (w1.setCell ⟨B, 0, none⟩ v') B' t u :=
  ((h.alloc tmp).kept hgrow (h.not_row hte hrow)).other hne v'
def encR (pre : List (Int × Int)) : List Value := pre.map (fun p => .int .i32 p.1)
theorem encR_snoc (pre : List (Int × Int)) (x : Int × Int) : encR (pre ++ [x]) = encR pre ++ [.int .i32 x.1] := by simp [encR]
theorem encR_txt (xs : List Int) : encR (sigs xs) = (txt xs).map (Value.int .i32) := by simp [encR, txt, Function.comp_def]
theorem reads_row {e : TypeId} {base : Nat} {w : World} {v : Value} {xs : List Int} (h : w.ownsRow base e 1 v (sigs xs).length (encR (sigs xs))) (hwf : ∀ x ∈ txt xs, (Lit.int .i32 x).wf = true) :
    ∃ a cap, v = .slice a (sigs xs).length cap ∧ Reads .i32 w a (sigs xs).length cap (txt xs) := by
  have hO : Own .i32 e base w v (txt xs) := ⟨by rw [txt_len, ← encR_txt]; exact h, hwf⟩
  obtain ⟨a, cap, hv, hr⟩ := hO.reads
  rw [txt_len] at hv hr
  exact ⟨a, cap, hv, hr⟩
theorem own_row {n₀ D : Nat} {w : World} (hn : n₀ ≤ w.heap.size) (hD : n₀ ≤ D) (B : Nat) (t e : TypeId) :
    OwnFrom D (fun (pre : List (Int × Int)) W => (∃ v, Boxed W B t v ∧ W.ownsRow n₀ e 1 v pre.length (encR pre) ∧ True) ∧ Below n₀ w W) :=
  OwnFrom.and (Go.Own.from (holdsRow_own n₀ B t e 1 (fun pre => pre.length) encR (fun _ _ => True)) _) (ownFrom_below hn hD)

set_option maxRecDepth 100000 in
set_option maxHeartbeats 4000000 in
theorem utfall_Read (a : Option Addr) (len cap : Nat) (xs : List Int) (w : World) (hr : Reads .u8 w a len cap xs) (hN : len < 1000000000000) :
    Calls Try.prog 34 #[.slice a len cap] w fun e w' => ∃ a' cap', e = .returned (.slice a' (sigs xs).length cap') ∧ Reads .i32 w' a' (sigs xs).length cap' (txt xs) ∧ Below w.heap.size w w' := by
  have hl := hr.len_le
  have hbd : ∀ x ∈ xs, 0 ≤ x ∧ x ≤ 255 := fun x hx => wf_u8 (hr.wf x hx)
  have hwf := hid (txt_wf hbd)
  clear hbd
  obtain ⟨i0, hi, hz0, hz1, hz2⟩ := info_parts CTR.info
  refine (callsIn_wide (n := 4)).1 ?_
  refine callsIn_of_wp_marks Try.func34 rfl trivial ?_ rfl
  simp only [Try.ntmps34, List.size_toArray, List.length_cons, List.length_nil, Nat.reduceAdd, Nat.reduceSub, Array.replicate_succ, Array.replicate_zero, List.push_toArray, List.append_toArray, List.nil_append, List.cons_append]
  gi_wp2_with (refine ⟨trivial, ?_⟩; gi_at_call 58; (with_reducible refine (utfall_signs _ _ _ _ _).mono ?_); rintro e w' ⟨rfl, rfl⟩)
  obtain ⟨b1, b2, hB0⟩ := two_boxes w 22 24 (.slice none 0 0) (.slice a len cap)
  refine wpIn_rangeFunc_ownG rfl (by omega) (gf := 75) (lb := #[.pointer (some ⟨w.heap.size + 1, 0, none⟩)]) rfl trivial (enters_of Try.func75 (by kernel_rfl) rfl)
    (signs_stops 3 (w.heap.size + 1) w.heap.size (by omega) a len cap xs w _ hr (Nat.le_refl _) hB0.size hB0 (by simp) b2) keepsBox_t (keepsBox_b hB0.size) (Below.refl _ _) (fun _ => rfl)
    (fun pre W => (∃ v, Boxed W w.heap.size 22 v ∧ W.ownsRow w.heap.size 21 1 v pre.length (encR pre) ∧ True) ∧ Below w.heap.size w W)
    (fun _ _ _ => False)
    (own_row (Nat.le_refl _) hB0.size _ _ _) (fun _ _ _ _ _ hs _ _ => hs)
    ⟨⟨_, b1, World.ownsRow_nil _ _ _ _, trivial⟩, hB0⟩
    (fun x => { tmps := #[.slice a len cap, undef, .slice none 0 0, .pointer (some ⟨w.heap.size, 0, none⟩), .int .i32 x.1, .slice a len cap, .func (.func 75) #[] #[.pointer (some ⟨w.heap.size + 1, 0, none⟩)], .int .i32 x.1, .int .i64 x.2, undef, undef, undef, undef, undef], defers := [] }) ?assign ?body ?done ?stop
  case assign =>
    intro l x W K hK
    dsimp only [encS]
    gi_wp2
    exact hK
  case body =>
    rintro l pre x W ⟨⟨v, hv, hrow, _⟩, hB⟩ hlt
    have hc := hv.cell
    gi_wp2_with (gi_at_builtin; refine wpListIn_append_own _ rfl _ _ 22 rfl w.heap.size 21 i0 (.int .i32 0) 1 4 Try.underlying22 hi hz0 hz1 hz2 rfl (by decide) _ _ _ rfl (hrow.alloc _) ⟨W.heap.size, 0, none⟩ 1 1 [.int .i32 x.1] rfl rfl (cell_one_new _ _ _) (by simp [Value.oneCell']) (by unfold maxLen; omega) (by omega) (by have := hB.size; simp; omega) ?_; intro v' w1 hown' hgrow _; obtain ⟨g', cap', rfl⟩ := ownsRow_succ hown'; obtain ⟨hv1, hv2, hr2, hk2, hb2⟩ := hv.appended (by decide) hrow hB.size (Nat.le_refl _) hown' hgrow; have hc1 := hv1.cell; have hf1 := hv1.frozen)
    exact ⟨hk2.from _, ⟨hb2, fun u hu => box_appended hu (by decide) (by omega) hrow hgrow⟩, ⟨_, hv2, by rw [encR_snoc]; simpa using hr2, trivial⟩, hB.trans hb2⟩
  case done =>
    rintro D ys W hD rfl ⟨⟨v, hv, hrow, _⟩, hB⟩ hK
    have hc := hv.cell
    gi_wp2
    refine ⟨by simp, .inl ⟨_, _, rfl, run_takeDeferred hK, ?_⟩⟩
    obtain ⟨a', cap', rfl, hrd⟩ := reads_row (ownsRow_putObj hrow (.deferred none) hK rfl) hwf.out
    exact ⟨_, results_tmp rfl _ _ _, a', cap', rfl, hrd, hB.trans (belowK_b (w := w) (Nat.le_refl _) W D _ _ (by simp at hD; omega) hK rfl rfl)⟩
  case stop =>
    rintro D c pre W _ _ h _
    exact h.elim
/-- The world where Strict's loop begins. -/
theorem four_boxes (w : World) (t1 t2 t3 t4 : TypeId) (v1 v2 v3 v4 : Value) :
    let w' := (((w.alloc (.cells #[v1] t1)).alloc (.cells #[v2] t2)).alloc (.cells #[v3] t3)).alloc (.cells #[v4] t4)
    Boxed w' w.heap.size t1 v1 ∧ Boxed w' (w.heap.size + 1) t2 v2 ∧ Boxed w' (w.heap.size + 1 + 1) t3 v3 ∧ Boxed w' (w.heap.size + 1 + 1 + 1) t4 v4 ∧ Below w.heap.size w w' := by
  obtain ⟨b1, b2, hB⟩ := two_boxes w t1 t2 v1 v2
  obtain ⟨b3, b4, hB2⟩ := two_boxes ((w.alloc (.cells #[v1] t1)).alloc (.cells #[v2] t2)) t3 t4 v3 v4
  simp only [World.size_alloc] at b3 b4
  exact ⟨(b1.alloc _).alloc _, (b2.alloc _).alloc _, b3, b4, hB.trans (hB2.mono hB.size)⟩
theorem row_set {W : World} {B : Nat} {t e : TypeId} {u u' : Value} (h : Boxed W B t u) (hte : t ≠ e) {base size k : Nat} {v : Value} {xs : List Value} (hr : W.ownsRow base e size v k xs) : (W.setCell ⟨B, 0, none⟩ u').ownsRow base e size v k xs :=
  hr.kept (grownBy_setCell' W B u') (.inr (h.not_row hte hr).symm)

end Go.Proofs.Ytgeadmpbfbdopaa
