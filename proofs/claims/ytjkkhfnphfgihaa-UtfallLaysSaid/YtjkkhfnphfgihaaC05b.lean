/-
  Contracts of package utfall's functions: those that range over octets' signs.
-/
import Derived.Test.YtjkkhfnphfgihaaC05
namespace Go.Proofs.Ytjkkhfnphfgihaa
open Go.RowKit Go.Shelf
set_option linter.unusedVariables false
attribute [local go_sem] Oper.semAt_some

/-- A store into the caller's own box. -/
theorem keepsBox_set {n₀ B Bs : Nat} {t : TypeId} {W : World} (hB : n₀ ≤ B) (hne : Bs ≠ B) (u : Value) : KeepsBox n₀ Bs t W (W.setCell ⟨B, 0, none⟩ u) :=
  ⟨(Below.refl n₀ W).setCell (p := ⟨B, 0, none⟩) hB _, fun v hv => hv.other hne u⟩
/-- The world where the loop begins: the caller's box, then the iterator's. -/
theorem two_boxes (w : World) (t t2 : TypeId) (v v2 : Value) :
    Boxed ((w.alloc (.cells #[v] t)).alloc (.cells #[v2] t2)) w.heap.size t v ∧ Boxed ((w.alloc (.cells #[v] t)).alloc (.cells #[v2] t2)) (w.heap.size + 1) t2 v2 ∧ Below w.heap.size w ((w.alloc (.cells #[v] t)).alloc (.cells #[v2] t2)) := by
  refine ⟨(Boxed.new w t v).alloc _, ?_, ((Below.refl _ w).alloc (Nat.le_refl _) _).alloc (by simp) _⟩
  have := Boxed.new (w.alloc (.cells #[v] t)) t2 v2
  rwa [World.size_alloc] at this
theorem own_box {β : Type} {n₀ D : Nat} {w : World} (hn : n₀ ≤ w.heap.size) (hD : n₀ ≤ D) (B : Nat) (t : TypeId) (f : β → Value) : OwnFrom D (fun (s : β) W => Boxed W B t (f s) ∧ Below n₀ w W) :=
  OwnFrom.and (Go.Own.from (boxed_own B t f) _) (ownFrom_below hn hD)

set_option maxRecDepth 100000 in
set_option maxHeartbeats 2000000 in
theorem utfall_Count (a : Option Addr) (len cap : Nat) (xs : List Int) (w : World) (hr : Reads .u8 w a len cap xs) :
    Calls Try.prog 17 #[.slice a len cap] w fun e w' => e = .returned (.int .i64 (sigs xs).length) ∧ Below w.heap.size w w' := by
  have hl := hr.len_le
  refine (callsIn_wide (n := 4)).1 ?_
  refine callsIn_of_wp_marks Try.func17 rfl trivial ?_ rfl
  simp only [Try.ntmps17, List.size_toArray, List.length_cons, List.length_nil, Nat.reduceAdd, Nat.reduceSub, Array.replicate_succ, Array.replicate_zero, List.push_toArray, List.append_toArray, List.nil_append, List.cons_append]
  gi_wp2_with (refine ⟨trivial, ?_⟩; gi_at_call 27; (with_reducible refine (utfall_signs _ _ _ _ _).mono ?_); rintro e w' ⟨rfl, rfl⟩)
  obtain ⟨b1, b2, hB0⟩ := two_boxes w 3 24 (.int .i64 0) (.slice a len cap)
  refine wpIn_rangeFunc_ownG rfl (by omega) (gf := 34) (lb := #[.pointer (some ⟨w.heap.size + 1, 0, none⟩)]) rfl trivial (enters_of Try.func34 (by kernel_rfl) rfl)
    (signs_stops 3 (w.heap.size + 1) w.heap.size (by omega) a len cap xs w _ hr (Nat.le_refl _) hB0.size hB0 (by simp) b2) keepsBox_t (keepsBox_b hB0.size) (Below.refl _ _) (fun _ => rfl)
    (fun pre W => Boxed W w.heap.size 3 (.int .i64 pre.length) ∧ Below w.heap.size w W)
    (fun _ _ _ => False)
    (own_box (Nat.le_refl _) hB0.size _ _ (fun pre : List (Int × Int) => .int .i64 pre.length)) (fun _ _ _ _ _ hs _ _ => hs)
    ⟨b1, hB0⟩
    (fun x => { tmps := #[.slice a len cap, undef, .int .i64 0, .pointer (some ⟨w.heap.size, 0, none⟩), .slice a len cap, .func (.func 34) #[] #[.pointer (some ⟨w.heap.size + 1, 0, none⟩)], .int .i32 x.1, .int .i64 x.2, undef, undef, undef], defers := [] }) ?assign ?body ?done ?stop
  case assign =>
    intro l x W K hK
    dsimp only [encS]
    gi_wp2
    simp
    exact hK
  case body =>
    rintro l pre x W ⟨hv, hB⟩ hlt
    have hc := hv.cell
    have hf := hv.frozen
    gi_wp2
    have hv' := hv.set (.int .i64 (pre.length + 1))
    exact ⟨(KeepsOthers.setCell _ _ _).from _, keepsBox_set (Nat.le_refl _) (by omega) _, by simpa using hv', hB.setCell (p := ⟨w.heap.size, 0, none⟩) (Nat.le_refl _) _⟩
  case done =>
    rintro D ys W hD rfl ⟨hv, hB⟩ hK
    have hc := hv.cell
    gi_wp2
    refine ⟨by simp, .inl ⟨_, _, rfl, run_takeDeferred hK, ?_⟩⟩
    exact ⟨_, results_tmp rfl _ _ _, rfl, hB.trans (belowK_b (w := w) (Nat.le_refl _) W D _ _ (by simp at hD; omega) hK rfl rfl)⟩
  case stop =>
    rintro D c pre W _ _ h _
    exact h.elim
set_option maxRecDepth 100000 in
set_option maxHeartbeats 2000000 in
theorem utfall_Broken (a : Option Addr) (len cap : Nat) (xs : List Int) (w : World) (hr : Reads .u8 w a len cap xs) :
    Calls Try.prog 18 #[.slice a len cap] w fun e w' => e = .returned (.int .i64 (brkP (sigs xs))) ∧ Below w.heap.size w w' := by
  have hl := hr.len_le
  refine (callsIn_wide (n := 4)).1 ?_
  refine callsIn_of_wp_marks Try.func18 rfl trivial ?_ rfl
  simp only [Try.ntmps18, List.size_toArray, List.length_cons, List.length_nil, Nat.reduceAdd, Nat.reduceSub, Array.replicate_succ, Array.replicate_zero, List.push_toArray, List.append_toArray, List.nil_append, List.cons_append]
  gi_wp2_with (refine ⟨trivial, ?_⟩; gi_at_call 27; (with_reducible refine (utfall_signs _ _ _ _ _).mono ?_); rintro e w' ⟨rfl, rfl⟩)
  obtain ⟨b1, b2, hB0⟩ := two_boxes w 3 24 (.int .i64 0) (.slice a len cap)
  refine wpIn_rangeFunc_ownG rfl (by omega) (gf := 34) (lb := #[.pointer (some ⟨w.heap.size + 1, 0, none⟩)]) rfl trivial (enters_of Try.func34 (by kernel_rfl) rfl)
    (signs_stops 3 (w.heap.size + 1) w.heap.size (by omega) a len cap xs w _ hr (Nat.le_refl _) hB0.size hB0 (by simp) b2) keepsBox_t (keepsBox_b hB0.size) (Below.refl _ _) (fun _ => rfl)
    (fun pre W => Boxed W w.heap.size 3 (.int .i64 (brkP pre)) ∧ Below w.heap.size w W)
    (fun _ _ _ => False)
    (own_box (Nat.le_refl _) hB0.size _ _ (fun pre : List (Int × Int) => .int .i64 (brkP pre))) (fun _ _ _ _ _ hs _ _ => hs)
    ⟨b1, hB0⟩
    (fun x => { tmps := #[.slice a len cap, undef, .int .i64 0, .pointer (some ⟨w.heap.size, 0, none⟩), undef, .int .i64 x.2, .slice a len cap, .func (.func 34) #[] #[.pointer (some ⟨w.heap.size + 1, 0, none⟩)], .int .i32 x.1, .int .i64 x.2, undef, undef, undef, undef, undef], defers := [] }) ?assign ?body ?done ?stop
  case assign =>
    intro l x W K hK
    dsimp only [encS]
    gi_wp2
    exact hK
  case body =>
    rintro l pre x W ⟨hv, hB⟩ hlt
    have hc := hv.cell
    have hf := hv.frozen
    have hle := brkP_le pre
    have hsn := brkP_snoc pre x
    cases he : x.2 == 0
    · have he' : x.2 ≠ 0 := by simpa using he
      rw [if_neg he'] at hsn
      clear he'
      gi_wp2
      have hv' := hv.set (.int .i64 (brkP pre + 1))
      exact ⟨(KeepsOthers.setCell _ _ _).from _, keepsBox_set (Nat.le_refl _) (by omega) _, by rw [hsn]; simpa using hv', hB.setCell (p := ⟨w.heap.size, 0, none⟩) (Nat.le_refl _) _⟩
    · have he' : x.2 = 0 := by simpa using he
      rw [if_pos he'] at hsn
      clear he'
      gi_wp2
      exact ⟨KeepsFrom.refl _ _, KeepsBox.refl _ _ _ _, by rw [hsn]; exact hv, hB⟩
  case done =>
    rintro D ys W hD rfl ⟨hv, hB⟩ hK
    have hc := hv.cell
    gi_wp2
    refine ⟨by simp, .inl ⟨_, _, rfl, run_takeDeferred hK, ?_⟩⟩
    exact ⟨_, results_tmp rfl _ _ _, rfl, hB.trans (belowK_b (w := w) (Nat.le_refl _) W D _ _ (by simp at hD; omega) hK rfl rfl)⟩
  case stop =>
    rintro D c pre W _ _ h _
    exact h.elim
set_option maxRecDepth 100000 in
set_option maxHeartbeats 2000000 in
theorem utfall_Right (a : Option Addr) (len cap : Nat) (xs : List Int) (w : World) (hr : Reads .u8 w a len cap xs) :
    Calls Try.prog 19 #[.slice a len cap] w fun e w' => e = .returned (.bool (decide (errP (sigs xs) = 0))) ∧ Below w.heap.size w w' := by
  have hl := hr.len_le
  refine (callsIn_wide (n := 4)).1 ?_
  refine callsIn_of_wp_marks Try.func19 rfl trivial ?_ rfl
  simp only [Try.ntmps19, List.size_toArray, List.length_cons, List.length_nil, Nat.reduceAdd, Nat.reduceSub, Array.replicate_succ, Array.replicate_zero, List.push_toArray, List.append_toArray, List.nil_append, List.cons_append]
  gi_wp2_with (refine ⟨trivial, ?_⟩; gi_at_call 27; (with_reducible refine (utfall_signs _ _ _ _ _).mono ?_); rintro e w' ⟨rfl, rfl⟩)
  obtain ⟨b1, b2, hB0⟩ := two_boxes w 4 24 (.bool false) (.slice a len cap)
  refine wpIn_rangeFunc_ownG rfl (by omega) (gf := 34) (lb := #[.pointer (some ⟨w.heap.size + 1, 0, none⟩)]) rfl trivial (enters_of Try.func34 (by kernel_rfl) rfl)
    (signs_stops 3 (w.heap.size + 1) w.heap.size (by omega) a len cap xs w _ hr (Nat.le_refl _) hB0.size hB0 (by simp) b2) keepsBox_t (keepsBox_b hB0.size) (Below.refl _ _) (fun _ => rfl)
    (fun pre W => errP pre = 0 ∧ Boxed W w.heap.size 4 (.bool false) ∧ Below w.heap.size w W)
    (fun c pre W => (c = .ret ∧ errP pre ≠ 0) ∧ Boxed W w.heap.size 4 (.bool false) ∧ Below w.heap.size w W)
    (OwnFrom.and (ownFrom_pure _ (fun pre => errP pre = 0)) (own_box (Nat.le_refl _) hB0.size _ _ (fun _ => .bool false)))
    (fun c => OwnFrom.and (ownFrom_pure _ (fun pre => c = .ret ∧ errP pre ≠ 0)) (own_box (Nat.le_refl _) hB0.size _ _ (fun _ => .bool false)))
    ⟨rfl, b1, hB0⟩
    (fun x => { tmps := #[.slice a len cap, undef, .pointer (some ⟨w.heap.size, 0, none⟩), undef, .int .i64 x.2, .slice a len cap, .func (.func 34) #[] #[.pointer (some ⟨w.heap.size + 1, 0, none⟩)], .int .i32 x.1, .int .i64 x.2, undef, undef], defers := [] }) ?assign ?body ?done ?stop
  case assign =>
    intro l x W K hK
    dsimp only [encS]
    gi_wp2
    exact hK
  case body =>
    rintro l pre x W ⟨h0, hv, hB⟩ hlt
    have hc := hv.cell
    have hf := hv.frozen
    have hsn := errP_snoc pre x
    rw [if_pos h0] at hsn
    have H0 := hid h0
    clear h0
    cases he : x.2 == 0
    · have he' : x.2 ≠ 0 := by simpa using he
      rw [← hsn] at he'
      have HE := hid he'
      clear he'
      gi_wp2
      have hv' := hv.set (.bool false)
      exact ⟨(KeepsOthers.setCell _ _ _).from _, ⟨rfl, HE.out⟩, hv', hB.setCell (p := ⟨w.heap.size, 0, none⟩) (Nat.le_refl _) _⟩
    · have he' : x.2 = 0 := by simpa using he
      rw [← hsn] at he'
      have HE := hid he'
      clear he'
      gi_wp2
      exact ⟨KeepsFrom.refl _ _, KeepsBox.refl _ _ _ _, HE.out, hv, hB⟩
  case done =>
    rintro D ys W hD rfl ⟨h0, hv, hB⟩ hK
    have hc := hv.cell
    have hf := hv.frozen
    have H0 := hid h0
    clear h0
    gi_wp2
    have hK' := (KeepsOthers.setCell W ⟨w.heap.size, 0, none⟩ (.bool true)).same D _ hK rfl
    refine ⟨by simp, .inl ⟨_, _, rfl, run_takeDeferred hK', ?_⟩⟩
    have hc5 := cell_kept (hv.set (.bool true)).cell (grownBy_putObj' _ D (.deferred none)) (fun r e => by cases e; exact ⟨_, hK', rfl⟩)
    refine ⟨.bool true, ?_, by rw [H0.out]; rfl, (hB.setCell (p := ⟨w.heap.size, 0, none⟩) (Nat.le_refl _) _).trans (belowK_b (w := w) (Nat.le_refl _) _ D _ _ (by simp at hD; omega) hK' rfl rfl)⟩
    simp [results, Try.f19, go_sem, hc5]
  case stop =>
    rintro D c pre W hD hpre ⟨⟨rfl, h0⟩, hv, hB⟩ hK
    have H0 : Hid (errP (sigs xs) ≠ 0) := by rw [Hid, errP_pre hpre h0]; exact h0
    clear h0
    gi_wp2
    refine ⟨by simp, .inl ⟨_, _, rfl, run_takeDeferred hK, ?_⟩⟩
    have hc5 := cell_kept hv.cell (grownBy_putObj' _ D (.deferred none)) (fun r e => by cases e; exact ⟨_, hK, rfl⟩)
    refine ⟨.bool false, ?_, by rw [decide_eq_false H0.out], hB.trans (belowK_b (w := w) (Nat.le_refl _) W D _ _ (by simp at hD; omega) hK rfl rfl)⟩
    simp [results, Try.f19, go_sem, hc5]

end Go.Proofs.Ytjkkhfnphfgihaa
