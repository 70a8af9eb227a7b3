/-
  Contracts of package bound's functions: those that range over the places.
-/
import Derived.Test.YtpdlnbomjknhiaaC07b
namespace Go.Proofs.Ytpdlnbomjknhiaa
open Go.RowKit Go.Shelf
set_option linter.unusedVariables false
attribute [local go_sem] Oper.semAt_some

/-- No element is such a one; some is. -/
def NoneP (f : Int → Bool) (zs : List Int) : Prop := zs.find? f = none
def SomeP (f : Int → Bool) (zs : List Int) : Prop := zs.find? f ≠ none
theorem NoneP.out {f : Int → Bool} {zs : List Int} (h : NoneP f zs) : zs.find? f = none := h
theorem SomeP.out {f : Int → Bool} {zs : List Int} (h : SomeP f zs) : zs.find? f ≠ none := h
/-- The places, as the call hands them on: their row. -/
theorem places_row {xs : List Int} {base g n c : Nat} {w' : World} (h : Own .i64 3 base w' (.slice (some ⟨g, 0, none⟩) n c) (plc xs)) : Reads .i64 w' (some ⟨g, 0, none⟩) n c (plc xs) ∧ base ≤ g ∧ g < w'.heap.size := by
  have hl := h.1.lt g rfl
  obtain ⟨a', c', hv, hr⟩ := h.reads
  cases hv
  exact ⟨hr, hl.1, hl.2⟩
/-- The world where a loop over the places begins: what the call has laid ahead; the places; the iterator's box. -/
theorem loop_world {w W0 w1 : World} {g n c : Nat} {xs : List Int} (hB0 : Below w.heap.size w W0) (hb : Below W0.heap.size W0 w1) (ho : Own .i64 3 W0.heap.size w1 (.slice (some ⟨g, 0, none⟩) n c) (plc xs)) :
    ∃ W2, w1.alloc (.cells #[.slice (some ⟨g, 0, none⟩) n c] 24) = W2 ∧ Below W0.heap.size W0 W2 ∧ Below w.heap.size w W2 ∧ Boxed W2 w1.heap.size 24 (.slice (some ⟨g, 0, none⟩) n c) ∧ Reads .i64 W2 (some ⟨g, 0, none⟩) n c (plc xs) ∧ W0.heap.size ≤ g ∧ g < w1.heap.size ∧ w1.heap.size < W2.heap.size ∧ W0.heap.size ≤ w1.heap.size := by
  obtain ⟨h1, h2, h3⟩ := places_row ho
  have hW2 : Below w1.heap.size w1 (w1.alloc (.cells #[.slice (some ⟨g, 0, none⟩) n c] 24)) := (Below.refl _ _).alloc (Nat.le_refl _) _
  have h4 := hb.trans (hW2.mono hb.size)
  exact ⟨_, rfl, h4, hB0.trans (h4.mono hB0.size), Boxed.new w1 _ _, h1.below hW2, h2, h3, by simp, hb.size⟩
theorem nxt_pre {pre zs : List Int} {n len : Int} (h : pre <+: zs) (h0 : pre.find? (fun x => decide (n < x)) ≠ none) : nxtP zs n len = nxtP pre n len := by
  obtain ⟨r, rfl⟩ := h
  unfold nxtP
  cases hf : pre.find? (fun x => decide (n < x)) with
  | none => exact absurd hf h0
  | some q => rw [List.find?_append, hf]; rfl
theorem find_snoc {f : Int → Bool} {pre : List Int} (x : Int) (h : pre.find? f = none) : (pre ++ [x]).find? f = if f x = true then some x else none := by
  rw [List.find?_append, h]
  cases hf : f x <;> simp [hf]
set_option maxRecDepth 100000 in
set_option maxHeartbeats 4000000 in
theorem bound_Next (a : Option Addr) (len cap : Nat) (xs : List Int) (n : Int) (w : World) (hr : Reads .u8 w a len cap xs) (hN : len < 100000000) (hwn : (Lit.int .i64 n).wf = true) :
    Calls Try.prog 11 #[.slice a len cap, .int .i64 n] w fun e w' => e = .returned (.int .i64 (nxtP (plc xs) n len)) ∧ Below w.heap.size w w' := by
  have hl := hr.len_le
  have hsz := hr.size
  have hbd := plc_bd xs
  rw [hsz] at hbd
  have HW := hid hwn
  refine (callsIn_wide (n := 4)).1 ?_
  refine callsIn_of_wp_marks Try.func11 rfl trivial ?_ rfl
  simp only [Try.ntmps11, List.size_toArray, List.length_cons, List.length_nil, Nat.reduceAdd, Nat.reduceSub, Array.replicate_succ, Array.replicate_zero, List.push_toArray, List.append_toArray, List.nil_append, List.cons_append]
  obtain ⟨b1, b2, hB0⟩ := two_boxes w 3 3 (.int .i64 n) (.int .i64 0)
  have hr0 := hr.below hB0
  have hP := bound_Places _ _ _ _ _ hr0 hN
  clear hr hr0 hwn
  generalize hW0 : (w.alloc (.cells #[.int .i64 n] 3)).alloc (.cells #[.int .i64 0] 3) = W0 at *
  gi_wp2_with (first
    | (refine ⟨trivial, ?_⟩; gi_at_call 8; (with_reducible refine (callsIn_wide.2 hP).mono ?_); rintro e w1 ⟨g, c1, rfl, ho, hb⟩)
    | (refine ⟨trivial, ?_⟩; gi_at_call 26; (with_reducible refine (slices_Values _ _ _ _ _).mono ?_); rintro e w' ⟨rfl, rfl⟩))
  obtain ⟨W2, hW2, hb2, hB2, d3, hrd, hg1, hg2, hs1, hs2⟩ := loop_world hB0 hb ho
  have d1 := boxed_below b1 hb2
  have d2 := boxed_below b2 hb2
  rw [hW2]
  refine wpIn_rangeFunc_ownG rfl (by omega) (gf := 34) (lb := #[.pointer (some ⟨w1.heap.size, 0, none⟩)]) rfl trivial (enters_of Try.func34 (by kernel_rfl) rfl)
    (values_stops 3 w1.heap.size w.heap.size (by omega) _ _ _ len _ hbd W2 hrd d3) keepsRow_t (keepsRow_b hB2.size) (Below.refl _ _) (fun _ => rfl)
    (fun pre W => NoneP (fun x => decide (n < x)) (valP pre) ∧ Boxed W w.heap.size 3 (.int .i64 n) ∧ Boxed W (w.heap.size + 1) 3 (.int .i64 0) ∧ Below w.heap.size w W)
    (fun c pre W => (c = .ret ∧ SomeP (fun x => decide (n < x)) (valP pre)) ∧ Boxed W (w.heap.size + 1) 3 (.int .i64 (nxtP (valP pre) n len)) ∧ Below w.heap.size w W)
    (OwnFrom.and (ownFrom_pure _ (fun pre => NoneP (fun x => decide (n < x)) (valP pre))) (OwnFrom.and (Go.Own.from (boxed_own _ _ (fun _ => .int .i64 n)) _) (own_box (Nat.le_refl _) hB2.size _ _ (fun _ => .int .i64 0))))
    (fun c => OwnFrom.and (ownFrom_pure _ (fun pre => c = .ret ∧ SomeP (fun x => decide (n < x)) (valP pre))) (own_box (Nat.le_refl _) hB2.size _ _ (fun pre => .int .i64 (nxtP (valP pre) n len))))
    ⟨rfl, d1, d2, hB2⟩
    (fun x => { tmps := #[.slice a len cap, .int .i64 n, undef, .pointer (some ⟨w.heap.size, 0, none⟩), .pointer (some ⟨w.heap.size + 1, 0, none⟩), .int .i64 x.1, .slice a len cap, .slice (some ⟨g, 0, none⟩) ((segs xs).length + 1) c1, .func (.func 34) #[] #[.pointer (some ⟨w1.heap.size, 0, none⟩)], .int .i64 x.1, undef, undef, undef, undef, undef, undef], defers := [] }) ?assign ?body ?done ?stop
  case assign =>
    intro l x W K hK
    dsimp only [encP]
    gi_wp2
    exact hK
  case body =>
    rintro l pre x W ⟨hf, hv1, hv2, hB⟩ hlt
    have hc1 := hv1.cell
    have hc2 := hv2.cell
    have hf2 := hv2.frozen
    have hsn := find_snoc x.1 hf.out
    by_cases hx : n < x.1
    · have hq : nxtP (valP (pre ++ [x])) n len = x.1 := by
        unfold nxtP; rw [valP_snoc, hsn, if_pos (decide_eq_true hx)]; rfl
      have hne : (valP (pre ++ [x])).find? (fun x => decide (n < x)) ≠ none := by
        rw [valP_snoc, hsn, if_pos (decide_eq_true hx)]; simp
      have HQ := hid hq
      have HN : SomeP (fun x => decide (n < x)) (valP (pre ++ [x])) := hne
      clear hsn hq hne
      gi_wp2
      exact ⟨(KeepsOthers.setCell _ _ _).from _, ⟨rfl, HN⟩, by rw [HQ.out]; exact hv2.set _, hB.setCell (p := ⟨w.heap.size + 1, 0, none⟩) (by simp) _⟩
    · have hne : (valP (pre ++ [x])).find? (fun x => decide (n < x)) = none := by
        rw [valP_snoc, hsn, if_neg (by simpa using hx)]
      have HN : NoneP (fun x => decide (n < x)) (valP (pre ++ [x])) := hne
      clear hsn hne
      gi_wp2
      exact ⟨KeepsFrom.refl _ _, KeepsRow.refl _ _ _ _ _ _ _ _, HN, hv1, hv2, hB⟩
  case done =>
    rintro D ys W hD hys ⟨hf, hv1, hv2, hB⟩ hK
    have hc2 := hv2.cell
    have hf2 := hv2.frozen
    have hq : Hid (nxtP (plc xs) n len = len) := by
      unfold nxtP; rw [Hid, ← hys, hf.out]; rfl
    clear hf hys
    gi_wp2
    have hw2 := hv2.set (.int .i64 (len : Int))
    have hK' := (KeepsOthers.setCell W ⟨w.heap.size + 1, 0, none⟩ (.int .i64 (len : Int))).same D _ hK rfl
    refine ⟨by simp, .inl ⟨_, _, rfl, run_takeDeferred hK', ?_⟩⟩
    have hc5 := cell_kept hw2.cell (grownBy_putObj' _ D (.deferred none)) (fun r e => by cases e; exact ⟨_, hK', rfl⟩)
    refine ⟨.int .i64 len, ?_, by rw [hq.out], (hB.setCell (p := ⟨w.heap.size + 1, 0, none⟩) (by simp) _).trans (belowK_b (w := w) (Nat.le_refl _) _ D _ _ (Nat.le_trans hB2.size hD) hK' rfl rfl)⟩
    simp [results, Try.f11, go_sem, hc5]
  case stop =>
    rintro D c pre W hD hpre ⟨⟨rfl, h0⟩, hv2, hB⟩ hK
    have hq : Hid (nxtP (plc xs) n len = nxtP (valP pre) n len) := nxt_pre hpre h0.out
    clear h0 hpre
    gi_wp2
    refine ⟨by simp, .inl ⟨_, _, rfl, run_takeDeferred hK, ?_⟩⟩
    have hc5 := cell_kept hv2.cell (grownBy_putObj' _ D (.deferred none)) (fun r e => by cases e; exact ⟨_, hK, rfl⟩)
    refine ⟨.int .i64 (nxtP (valP pre) n len), ?_, by rw [hq.out], hB.trans (belowK_b (w := w) (Nat.le_refl _) W D _ _ (Nat.le_trans hB2.size hD) hK rfl rfl)⟩
    simp [results, Try.f11, go_sem, hc5]
theorem bck_all {zs : List Int} {n : Int} (h : NoneP (fun x => decide (x < n)) zs.reverse) : bckP zs n = 0 := by unfold bckP lastF; rw [h.out]; rfl
theorem find_pre {f : Int → Bool} {pre zs : List Int} (h : pre <+: zs) (h0 : SomeP f pre) : zs.find? f = pre.find? f := by
  obtain ⟨r, rfl⟩ := h
  cases hf : pre.find? f with
  | none => exact absurd hf h0
  | some q => rw [List.find?_append, hf]; rfl
def fstP (f : Int → Bool) (zs : List Int) : Int := (zs.find? f).getD 0
set_option maxRecDepth 100000 in
set_option maxHeartbeats 4000000 in
theorem bound_Back (a : Option Addr) (len cap : Nat) (xs : List Int) (n : Int) (w : World) (hr : Reads .u8 w a len cap xs) (hN : len < 100000000) (hwn : (Lit.int .i64 n).wf = true) :
    Calls Try.prog 13 #[.slice a len cap, .int .i64 n] w fun e w' => e = .returned (.int .i64 (bckP (plc xs) n)) ∧ Below w.heap.size w w' := by
  have hl := hr.len_le
  have hsz := hr.size
  have hbd := plc_bd xs
  rw [hsz] at hbd
  refine (callsIn_wide (n := 4)).1 ?_
  refine callsIn_of_wp_marks Try.func13 rfl trivial ?_ rfl
  simp only [Try.ntmps13, List.size_toArray, List.length_cons, List.length_nil, Nat.reduceAdd, Nat.reduceSub, Array.replicate_succ, Array.replicate_zero, List.push_toArray, List.append_toArray, List.nil_append, List.cons_append]
  obtain ⟨b1, b2, hB0⟩ := two_boxes w 3 3 (.int .i64 n) (.int .i64 0)
  have hr0 := hr.below hB0
  have hP := bound_Places _ _ _ _ _ hr0 hN
  clear hr hr0 hwn
  generalize hW0 : (w.alloc (.cells #[.int .i64 n] 3)).alloc (.cells #[.int .i64 0] 3) = W0 at *
  gi_wp2_with (first
    | (refine ⟨trivial, ?_⟩; gi_at_call 8; (with_reducible refine (callsIn_wide.2 hP).mono ?_); rintro e w1 ⟨g, c1, rfl, ho, hb⟩)
    | (refine ⟨trivial, ?_⟩; gi_at_call 27; (with_reducible refine (slices_Backward _ _ _ _ _).mono ?_); rintro e w' ⟨rfl, rfl⟩))
  obtain ⟨W2, hW2, hb2, hB2, d3, hrd, hg1, hg2, hs1, hs2⟩ := loop_world hB0 hb ho
  have d1 := boxed_below b1 hb2
  have d2 := boxed_below b2 hb2
  rw [hW2]
  refine wpIn_rangeFunc_ownG rfl (by omega) (gf := 35) (lb := #[.pointer (some ⟨w1.heap.size, 0, none⟩)]) rfl trivial (enters_of Try.func35 (by kernel_rfl) rfl)
    (backward_stops 3 w1.heap.size w.heap.size (by omega) _ _ _ len _ hbd W2 hrd d3) keepsRow_t (keepsRow_b hB2.size) (Below.refl _ _) (fun _ => rfl)
    (fun pre W => NoneP (fun x => decide (x < n)) (valQ pre) ∧ Boxed W w.heap.size 3 (.int .i64 n) ∧ Boxed W (w.heap.size + 1) 3 (.int .i64 0) ∧ Below w.heap.size w W)
    (fun c pre W => (c = .ret ∧ SomeP (fun x => decide (x < n)) (valQ pre)) ∧ Boxed W (w.heap.size + 1) 3 (.int .i64 (fstP (fun x => decide (x < n)) (valQ pre))) ∧ Below w.heap.size w W)
    (OwnFrom.and (ownFrom_pure _ (fun pre => NoneP (fun x => decide (x < n)) (valQ pre))) (OwnFrom.and (Go.Own.from (boxed_own _ _ (fun _ => .int .i64 n)) _) (own_box (Nat.le_refl _) hB2.size _ _ (fun _ => .int .i64 0))))
    (fun c => OwnFrom.and (ownFrom_pure _ (fun pre => c = .ret ∧ SomeP (fun x => decide (x < n)) (valQ pre))) (own_box (Nat.le_refl _) hB2.size _ _ (fun pre => .int .i64 (fstP (fun x => decide (x < n)) (valQ pre)))))
    ⟨rfl, d1, d2, hB2⟩
    (fun x => { tmps := #[.slice a len cap, .int .i64 n, undef, .pointer (some ⟨w.heap.size, 0, none⟩), .pointer (some ⟨w.heap.size + 1, 0, none⟩), undef, .int .i64 x.2.1, .slice a len cap, .slice (some ⟨g, 0, none⟩) ((segs xs).length + 1) c1, .func (.func 35) #[] #[.pointer (some ⟨w1.heap.size, 0, none⟩)], .int .i64 x.1, .int .i64 x.2.1, undef, undef, undef, undef], defers := [] }) ?assign ?body ?done ?stop
  case assign =>
    intro l x W K hK
    dsimp only [encQ]
    gi_wp2
    exact hK
  case body =>
    rintro l pre x W ⟨hf, hv1, hv2, hB⟩ hlt
    have hc1 := hv1.cell
    have hc2 := hv2.cell
    have hf2 := hv2.frozen
    have hsn := find_snoc x.2.1 hf.out
    by_cases hx : x.2.1 < n
    · have hq : Hid (fstP (fun x => decide (x < n)) (valQ (pre ++ [x])) = x.2.1) := by
        unfold fstP; rw [Hid, valQ_snoc, hsn, if_pos (decide_eq_true hx)]; rfl
      have HN : SomeP (fun x => decide (x < n)) (valQ (pre ++ [x])) := by
        unfold SomeP; rw [valQ_snoc, hsn, if_pos (decide_eq_true hx)]; simp
      clear hsn
      gi_wp2
      exact ⟨(KeepsOthers.setCell _ _ _).from _, ⟨rfl, HN⟩, by rw [hq.out]; exact hv2.set _, hB.setCell (p := ⟨w.heap.size + 1, 0, none⟩) (by simp) _⟩
    · have HN : NoneP (fun x => decide (x < n)) (valQ (pre ++ [x])) := by
        unfold NoneP; rw [valQ_snoc, hsn, if_neg (by simpa using hx)]
      clear hsn
      gi_wp2
      exact ⟨KeepsFrom.refl _ _, KeepsRow.refl _ _ _ _ _ _ _ _, HN, hv1, hv2, hB⟩
  case done =>
    rintro D ys W hD hys ⟨hf, hv1, hv2, hB⟩ hK
    have hc2 := hv2.cell
    have hf2 := hv2.frozen
    rw [hys] at hf
    have hq := hid (bck_all hf)
    clear hf hys
    gi_wp2
    have hw2 := hv2.set (.int .i64 0)
    have hK' := (KeepsOthers.setCell W ⟨w.heap.size + 1, 0, none⟩ (.int .i64 0)).same D _ hK rfl
    refine ⟨by simp, .inl ⟨_, _, rfl, run_takeDeferred hK', ?_⟩⟩
    have hc5 := cell_kept hw2.cell (grownBy_putObj' _ D (.deferred none)) (fun r e => by cases e; exact ⟨_, hK', rfl⟩)
    refine ⟨.int .i64 0, ?_, by rw [hq.out], (hB.setCell (p := ⟨w.heap.size + 1, 0, none⟩) (by simp) _).trans (belowK_b (w := w) (Nat.le_refl _) _ D _ _ (Nat.le_trans hB2.size hD) hK' rfl rfl)⟩
    simp [results, Try.f13, go_sem, hc5]
  case stop =>
    rintro D c pre W hD hpre ⟨⟨rfl, h0⟩, hv2, hB⟩ hK
    have hq : Hid (bckP (plc xs) n = fstP (fun x => decide (x < n)) (valQ pre)) := by
      unfold bckP lastF fstP; rw [Hid, find_pre hpre h0]
    clear h0 hpre
    gi_wp2
    refine ⟨by simp, .inl ⟨_, _, rfl, run_takeDeferred hK, ?_⟩⟩
    have hc5 := cell_kept hv2.cell (grownBy_putObj' _ D (.deferred none)) (fun r e => by cases e; exact ⟨_, hK, rfl⟩)
    refine ⟨.int .i64 (fstP (fun x => decide (x < n)) (valQ pre)), ?_, by rw [hq.out], hB.trans (belowK_b (w := w) (Nat.le_refl _) W D _ _ (Nat.le_trans hB2.size hD) hK rfl rfl)⟩
    simp [results, Try.f13, go_sem, hc5]
theorem keepsOthers_below {W W' : World} (h : Below W.heap.size W W') : KeepsOthers W W' := ⟨h.size, fun k o hk _ => (h.block k (Array.getElem?_eq_some_iff.1 hk).1).trans hk⟩
theorem Own.mono {k : IntKind} {e : TypeId} {base base' : Nat} {w : World} {v : Value} {xs : List Int} (h : Own k e base w v xs) (hb : base' ≤ base) : Own k e base' w v xs := by
  refine ⟨⟨h.1.1, ?_⟩, h.2⟩
  rcases h.1.2 with h' | ⟨g, cap, cur, h1, h2, h3⟩
  · exact .inl h'
  · exact .inr ⟨g, cap, cur, h1, Nat.le_trans hb h2, h3⟩
def cutQ (xs : List Int) (most : Int) (ps : List Int) : List Int := xs.take (fstP (fun x => decide (x ≤ most)) ps).toNat
theorem three_boxes (w : World) (t t2 t3 : TypeId) (v v2 v3 : Value) :
    let w' := ((w.alloc (.cells #[v] t)).alloc (.cells #[v2] t2)).alloc (.cells #[v3] t3)
    Boxed w' w.heap.size t v ∧ Boxed w' (w.heap.size + 1) t2 v2 ∧ Boxed w' (w.heap.size + 1 + 1) t3 v3 ∧ Below w.heap.size w w' := by
  obtain ⟨b1, b2, hB⟩ := two_boxes w t t2 v v2
  refine ⟨b1.alloc _, b2.alloc _, ?_, hB.alloc hB.size _⟩
  have := Boxed.new ((w.alloc (.cells #[v] t)).alloc (.cells #[v2] t2)) t3 v3
  simpa only [World.size_alloc] using this
set_option maxRecDepth 100000 in
set_option maxHeartbeats 4000000 in
theorem bound_Cut (a : Option Addr) (len cap : Nat) (xs : List Int) (n : Int) (w : World) (hr : Reads .u8 w a len cap xs) (hN : len < 100000000) (hwn : (Lit.int .i64 n).wf = true) :
    Calls Try.prog 20 #[.slice a len cap, .int .i64 n] w fun e w' => ∃ a' m c', e = .returned (.slice a' m c') ∧ Reads .u8 w' a' m c' (cutL xs n) ∧ Below w.heap.size w w' := by
  have hl := hr.len_le
  have hsz := hr.size
  have hroom := hr.room
  have hbd := plc_bd xs
  rw [hsz] at hbd
  refine (callsIn_wide (n := 4)).1 ?_
  refine callsIn_of_wp_marks Try.func20 rfl trivial ?_ rfl
  simp only [Try.ntmps20, List.size_toArray, List.length_cons, List.length_nil, Nat.reduceAdd, Nat.reduceSub, Array.replicate_succ, Array.replicate_zero, List.push_toArray, List.append_toArray, List.nil_append, List.cons_append]
  obtain ⟨b1, b2, b3, hB0⟩ := three_boxes w 22 3 22 (.slice a len cap) (.int .i64 n) (.slice none 0 0)
  have hr0 := hr.below hB0
  have hP := bound_Places _ _ _ _ _ hr0 hN
  have HR := hid hr
  clear hr hr0 hwn
  generalize hW0 : ((w.alloc (.cells #[.slice a len cap] 22)).alloc (.cells #[.int .i64 n] 3)).alloc (.cells #[.slice none 0 0] 22) = W0 at *
  have hc1 := b1.cell
  gi_wp2_with (first
    | (refine ⟨trivial, ?_⟩; gi_at_call 8; (with_reducible refine (callsIn_wide.2 hP).mono ?_); rintro e w1 ⟨g, c1, rfl, ho, hb⟩)
    | (refine ⟨trivial, ?_⟩; gi_at_call 27; (with_reducible refine (slices_Backward _ _ _ _ _).mono ?_); rintro e w' ⟨rfl, rfl⟩))
  clear hc1
  obtain ⟨W2, hW2, hb2, hB2, d4, hrd, hg1, hg2, hs1, hs2⟩ := loop_world hB0 hb ho
  have d1 := boxed_below b1 hb2
  have d2 := boxed_below b2 hb2
  have d3 := boxed_below b3 hb2
  rw [hW2]
  refine wpIn_rangeFunc_ownG rfl (by omega) (gf := 35) (lb := #[.pointer (some ⟨w1.heap.size, 0, none⟩)]) rfl trivial (enters_of Try.func35 (by kernel_rfl) rfl)
    (backward_stops 3 w1.heap.size w.heap.size (by omega) _ _ _ len _ hbd W2 hrd d4) keepsRow_t (keepsRow_b hB2.size) (Below.refl _ _) (fun _ => rfl)
    (fun pre W => NoneP (fun x => decide (x ≤ n)) (valQ pre) ∧ Boxed W w.heap.size 22 (.slice a len cap) ∧ Boxed W (w.heap.size + 1) 3 (.int .i64 n) ∧ Boxed W (w.heap.size + 1 + 1) 22 (.slice none 0 0) ∧ Below w.heap.size w W)
    (fun c pre W => (c = .ret ∧ SomeP (fun x => decide (x ≤ n)) (valQ pre)) ∧ (∃ v, Boxed W (w.heap.size + 1 + 1) 22 v ∧ W.ownsRow w.heap.size 5 1 v (cutQ xs n (valQ pre)).length ((cutQ xs n (valQ pre)).map (Value.int .u8)) ∧ True) ∧ Below w.heap.size w W)
    (OwnFrom.and (ownFrom_pure _ (fun pre => NoneP (fun x => decide (x ≤ n)) (valQ pre))) (OwnFrom.and (Go.Own.from (boxed_own _ _ (fun _ => .slice a len cap)) _) (OwnFrom.and (Go.Own.from (boxed_own _ _ (fun _ => .int .i64 n)) _) (own_box (Nat.le_refl _) hB2.size _ _ (fun _ => .slice none 0 0)))))
    (fun c => OwnFrom.and (ownFrom_pure _ (fun pre => c = .ret ∧ SomeP (fun x => decide (x ≤ n)) (valQ pre))) (OwnFrom.and (Go.Own.from (holdsRow_own _ _ _ _ 1 (fun pre => (cutQ xs n (valQ pre)).length) (fun pre => (cutQ xs n (valQ pre)).map (Value.int .u8)) (fun _ _ => True)) _) (ownFrom_below (Nat.le_refl _) hB2.size)))
    ⟨rfl, d1, d2, d3, hB2⟩
    (fun x => { tmps := #[.slice a len cap, .int .i64 n, .pointer (some ⟨w.heap.size, 0, none⟩), .pointer (some ⟨w.heap.size + 1, 0, none⟩), .pointer (some ⟨w.heap.size + 1 + 1, 0, none⟩), undef, .int .i64 x.2.1, .slice a len cap, .slice (some ⟨g, 0, none⟩) ((segs xs).length + 1) c1, .func (.func 35) #[] #[.pointer (some ⟨w1.heap.size, 0, none⟩)], .int .i64 x.1, .int .i64 x.2.1, undef, undef, undef, undef, undef, undef, undef], defers := [] }) ?assign ?body ?done ?stop
  case assign =>
    intro l x W K hK
    dsimp only [encQ]
    gi_wp2
    exact hK
  case body =>
    rintro l pre ⟨i, q, hq0, hq1⟩ W ⟨hf, hv1, hv2, hv3, hB⟩ hlt
    obtain ⟨q, rfl⟩ := Int.eq_ofNat_of_zero_le hq0
    have hc1 := hv1.cell
    have hc2 := hv2.cell
    have hsn := find_snoc (q : Int) hf.out
    by_cases hx : (q : Int) ≤ n
    · have hql : q ≤ len := by omega
      have hqc : q ≤ cap := by omega
      have hq : Hid (cutQ xs n (valQ (pre ++ [(i, ⟨(q : Int), hq0, hq1⟩)])) = xs.take q) := by
        unfold cutQ fstP; rw [Hid, valQ_snoc, hsn, if_pos (decide_eq_true hx)]; rfl
      have HN : SomeP (fun x => decide (x ≤ n)) (valQ (pre ++ [(i, ⟨(q : Int), hq0, hq1⟩)])) := by
        unfold SomeP; rw [valQ_snoc, hsn, if_pos (decide_eq_true hx)]; simp
      have hrw := (HR.out.below hB).pre hql
      have hCl := bytes_Clone _ _ _ _ _ hrw (by omega)
      clear hsn hrw
      gi_wp2_with (refine ⟨trivial, ?_⟩; gi_at_call 28; (with_reducible refine (CallsIn.inRound l (callsIn_wide.2 hCl)).mono ?_); rintro e w3 ⟨a3, c3, rfl, ho3, hb3⟩; have hv3' := boxed_below hv3 hb3; have hc3 := hv3'.cell; have hf3 := hv3'.frozen)
      have hw3 := hv3'.set (.slice a3 q c3)
      have hrow := row_set (u' := .slice a3 q c3) hv3' (by decide) (ho3.mono hB.size).1
      refine ⟨((keepsOthers_below hb3).trans (KeepsOthers.setCell _ _ _)).from _, ⟨rfl, HN⟩, ⟨_, hw3, by rw [hq.out]; exact hrow, trivial⟩, (hB.trans (hb3.mono hB.size)).setCell (p := ⟨w.heap.size + 1 + 1, 0, none⟩) (by simp; omega) _⟩
    · have HN : NoneP (fun x => decide (x ≤ n)) (valQ (pre ++ [(i, ⟨(q : Int), hq0, hq1⟩)])) := by
        unfold NoneP; rw [valQ_snoc, hsn, if_neg (by simpa using hx)]
      clear hsn
      gi_wp2
      exact ⟨KeepsFrom.refl _ _, KeepsRow.refl _ _ _ _ _ _ _ _, HN, hv1, hv2, hv3, hB⟩
  case done =>
    rintro D ys W hD hys ⟨hf, hv1, hv2, hv3, hB⟩ hK
    have hc2 := hv3.cell
    have hf2 := hv3.frozen
    rw [hys] at hf
    have hq : Hid (cutL xs n = []) := by unfold cutL endP lastF; rw [Hid, hf.out]; simp
    clear hf hys
    gi_wp2
    have hw2 := hv3.set (.slice none 0 0)
    have hK' := (KeepsOthers.setCell W ⟨w.heap.size + 1 + 1, 0, none⟩ (.slice none 0 0)).same D _ hK rfl
    refine ⟨by simp, .inl ⟨_, _, rfl, run_takeDeferred hK', ?_⟩⟩
    have hc5 := cell_kept hw2.cell (grownBy_putObj' _ D (.deferred none)) (fun r e => by cases e; exact ⟨_, hK', rfl⟩)
    refine ⟨.slice none 0 0, ?_, none, 0, 0, rfl, by rw [hq.out]; exact Reads.nil _ _ _ _ (Nat.zero_le _), (hB.setCell (p := ⟨w.heap.size + 1 + 1, 0, none⟩) (by simp; omega) _).trans (belowK_b (w := w) (Nat.le_refl _) _ D _ _ (Nat.le_trans hB2.size hD) hK' rfl rfl)⟩
    simp [results, Try.f20, go_sem, hc5]
  case stop =>
    rintro D c pre W hD hpre ⟨⟨rfl, h0⟩, ⟨v, hv3, hrow, _⟩, hB⟩ hK
    have hq : Hid (cutL xs n = cutQ xs n (valQ pre)) := by
      unfold cutL cutQ endP lastF fstP; rw [Hid, find_pre hpre h0]
    clear h0 hpre
    gi_wp2
    refine ⟨by simp, .inl ⟨_, _, rfl, run_takeDeferred hK, ?_⟩⟩
    have hc5 := cell_kept hv3.cell (grownBy_putObj' _ D (.deferred none)) (fun r e => by cases e; exact ⟨_, hK, rfl⟩)
    have hO : Own .u8 5 w.heap.size (W.putObj D (.deferred none)) v (cutQ xs n (valQ pre)) := ⟨ownsRow_putObj hrow (.deferred none) hK rfl, fun x hx => HR.out.wf x (List.mem_of_mem_take hx)⟩
    obtain ⟨a', c', rfl, hrd⟩ := hO.reads
    refine ⟨_, ?_, a', _, c', rfl, by rw [hq.out]; exact hrd, hB.trans (belowK_b (w := w) (Nat.le_refl _) W D _ _ (Nat.le_trans hB2.size hD) hK rfl rfl)⟩
    simp [results, Try.f20, go_sem, hc5]

end Go.Proofs.Ytpdlnbomjknhiaa
