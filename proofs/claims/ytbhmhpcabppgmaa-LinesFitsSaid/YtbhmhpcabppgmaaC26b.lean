/-
  Contracts of package lines' functions over the iterator: the lines; the longest one; whether they are short enough.
-/
import Derived.Test.YtbhmhpcabppgmaaC26a
import Derived.Test.YtbhmhpcabppgmaaCr2
import Derived.Test.YtbhmhpcabppgmaaCln
import Derived.Test.YtbhmhpcabppgmaaRwb
namespace Go.Proofs.Ytbhmhpcabppgmaa
open Go.RowKit Go.Shelf
set_option linter.unusedVariables false
attribute [local go_sem] Oper.semAt_some

set_option maxRecDepth 100000 in
set_option maxHeartbeats 2000000 in
theorem lines_Longest (a : Option Addr) (len cap : Nat) (xs : List Int) (w : World) (hr : Reads .u8 w a len cap xs) (hN : len < 1000000) (hm : Mx w) :
    Calls Try.prog 17 #[.slice a len cap] w fun e w' => e = .returned (.int .i64 (lngF (linL xs))) ∧ Below w.heap.size w w' := by
  have hl := hr.len_le
  have hsz := hr.size
  obtain ⟨b, off, ha⟩ := each_some hr
  have HLL := hid (fun pre : List (LPn len) => lng_bd (m := len) (valN xs pre) (fun x hx => by
    obtain ⟨y, _, rfl⟩ := List.mem_map.1 hx
    have := pcN_len hsz y
    have := y.2.1
    omega))
  refine (callsIn_wide (n := 4)).1 ?_
  refine callsIn_of_wp_marks Try.func17 rfl trivial ?_ rfl
  simp only [Try.ntmps17, List.size_toArray, List.length_cons, List.length_nil, Nat.reduceAdd, Nat.reduceSub, Array.replicate_succ, Array.replicate_zero, List.push_toArray, List.append_toArray, List.nil_append, List.cons_append]
  gi_wp2_with (refine ⟨trivial, ?_⟩; gi_at_call 25; (with_reducible refine (lines_each _ _ _ _ _).mono ?_); rintro e w' ⟨rfl, rfl⟩)
  obtain ⟨b1, b2, hB0⟩ := two_boxes w 3 22 (.int .i64 0) (.slice a len cap)
  refine wpIn_rangeFunc_ownG rfl (by omega) (gf := 36) (lb := #[.pointer (some ⟨w.heap.size + 1, 0, none⟩)]) rfl trivial (enters_of Try.func36 (by kernel_rfl) rfl)
    (each_stops 3 (w.heap.size + 1) w.heap.size (by omega) b off a len cap xs ha w _ hr hN hm (Nat.le_refl _) hB0.size hB0 (by simp) b2) (fun h k => h.trans k) (belowK_b hB0.size) (Below.refl _ _) (fun _ => rfl)
    (fun pre W => Boxed W w.heap.size 3 (.int .i64 (lngF (valN xs pre))) ∧ Below w.heap.size w W)
    (fun _ _ _ => False)
    (own_box (Nat.le_refl _) hB0.size _ _ (fun pre : List (LPn len) => .int .i64 (lngF (valN xs pre)))) (fun _ _ _ _ _ hs _ _ => hs)
    ⟨b1, hB0⟩
    (fun x => { tmps := #[.slice a len cap, undef, .int .i64 0, .pointer (some ⟨w.heap.size, 0, none⟩), .slice (some ⟨b, off + x.1.1, none⟩) x.1.2 (cap - x.1.1), .slice a len cap, .func (.func 36) #[] #[.pointer (some ⟨w.heap.size + 1, 0, none⟩)], .slice (some ⟨b, off + x.1.1, none⟩) x.1.2 (cap - x.1.1), undef, undef, undef, undef, undef], defers := [] }) ?assign ?body ?done ?stop
  case assign =>
    intro l x W K hK
    dsimp only [encN]
    gi_wp2
    exact hK
  case body =>
    rintro l pre x W ⟨hv, hB⟩ hlt
    have hc := hv.cell
    have hf := hv.frozen
    have hlo := HLL.out pre
    have hon := lng_one (valN xs pre) (pcN xs x.1)
    rw [← valN_snoc, pcN_len hsz x] at hon
    obtain ⟨M, hM⟩ : ∃ M, M = lngF (valN xs pre) := ⟨_, rfl⟩
    rw [← hM] at hv hc hlo hon
    have HON := hid hon
    clear hon hM
    gi_wp2
    have hv' := hv.set (.int .i64 (max M (x.1.2 : Int)))
    refine ⟨(KeepsOthers.setCell _ _ _).from _, (Below.refl _ _).setCell (p := ⟨w.heap.size, 0, none⟩) (Nat.le_refl _) _, by rw [HON.out, max_if]; exact hv', hB.setCell (p := ⟨w.heap.size, 0, none⟩) (Nat.le_refl _) _⟩
  case done =>
    rintro D ys W hD hys ⟨hv, hB⟩ hK
    have hc := hv.cell
    rw [hys] at hc
    gi_wp2
    refine ⟨by simp, .inl ⟨_, _, rfl, run_takeDeferred hK, ?_⟩⟩
    exact ⟨_, results_tmp rfl _ _ _, rfl, hB.trans (belowK_b (w := w) (Nat.le_refl _) W D _ _ (by simp at hD; omega) hK rfl rfl)⟩
  case stop =>
    rintro D c pre W _ _ h _
    exact h.elim
set_option maxRecDepth 100000 in
set_option maxHeartbeats 4000000 in
theorem lines_Fits (a : Option Addr) (len cap : Nat) (xs : List Int) (first most : Int) (w : World) (hr : Reads .u8 w a len cap xs) (hN : len < 1000000) (hf : (Lit.int .i64 first).wf = true) (hmo : (Lit.int .i64 most).wf = true) (hm : Mx w) :
    Calls Try.prog 19 #[.slice a len cap, .int .i64 first, .int .i64 most] w fun e w' => e = .returned (.bool (fitB xs first most)) ∧ Below w.heap.size w w' := by
  have hl := hr.len_le
  have hsz := hr.size
  have hfb := wf_i64 hf
  have hmb := wf_i64 hmo
  obtain ⟨b, off, ha⟩ := each_some hr
  refine (callsIn_wide (n := 4)).1 ?_
  refine callsIn_of_wp_marks Try.func19 rfl trivial ?_ rfl
  simp only [Try.ntmps19, List.size_toArray, List.length_cons, List.length_nil, Nat.reduceAdd, Nat.reduceSub, Array.replicate_succ, Array.replicate_zero, List.push_toArray, List.append_toArray, List.nil_append, List.cons_append]
  by_cases h1 : first < 0
  · have hF : fitB xs first most = false := by unfold fitB; rw [if_pos (.inl h1)]
    rw [hF]
    gi_wp2_with fail
    exact ⟨.bool false, by simp [results, Try.f19, go_sem], rfl, ((Below.refl _ _).alloc (Nat.le_refl _) _).alloc (by simp) _⟩
  · by_cases h2 : most < 0
    · have hF : fitB xs first most = false := by unfold fitB; rw [if_pos (.inr h2)]
      rw [hF]
      gi_wp2_with fail
      exact ⟨.bool false, by simp [results, Try.f19, go_sem], rfl, ((Below.refl _ _).alloc (Nat.le_refl _) _).alloc (by simp) _⟩
    · rw [fitB_R (by omega) (by omega)]
      obtain ⟨b1, b2, b3, b4, hB0⟩ := four_boxes w 3 4 3 22 (.int .i64 most) (.bool false) (.int .i64 (most - first)) (.slice a len cap)
      have HNP := hid (fun pre : List (LPn len) => show (valN xs pre).length = pre.length by simp [valN])
      have h1' : ¬ first < 0 := h1
      gi_wp2_with (refine ⟨trivial, ?_⟩; gi_at_call 25; (with_reducible refine (lines_each _ _ _ _ _).mono ?_); rintro e w' ⟨rfl, rfl⟩)
      refine wpIn_rangeFunc_ownG rfl (by omega) (gf := 36) (lb := #[.pointer (some ⟨w.heap.size + 1 + 1 + 1, 0, none⟩)]) rfl trivial (enters_of Try.func36 (by kernel_rfl) rfl)
        (each_stops 3 (w.heap.size + 1 + 1 + 1) w.heap.size (by omega) b off a len cap xs ha w _ hr hN hm (Nat.le_refl _) hB0.size hB0 (by simp) b4) (fun h k => h.trans k) (belowK_b hB0.size) (Below.refl _ _) (fun _ => rfl)
        (fun pre W => (fitR first most (valN xs pre) = true) ∧ (Boxed W w.heap.size 3 (.int .i64 most)) ∧ (Boxed W (w.heap.size + 1) 4 (.bool false)) ∧ (Boxed W (w.heap.size + 1 + 1) 3 (.int .i64 (roomN first most pre.length)) ∧ Below w.heap.size w W))
        (fun c pre W => (c = .ret ∧ fitR first most (valN xs pre) = false) ∧ (Boxed W (w.heap.size + 1) 4 (.bool false) ∧ Below w.heap.size w W))
        (OwnFrom.and (ownFrom_pure _ (fun pre : List (LPn len) => fitR first most (valN xs pre) = true)) (OwnFrom.and (Go.Own.from (boxed_own _ _ (fun _ => .int .i64 most)) _) (OwnFrom.and (Go.Own.from (boxed_own _ _ (fun _ => .bool false)) _) (own_box (Nat.le_refl _) hB0.size _ _ (fun pre : List (LPn len) => .int .i64 (roomN first most pre.length))))))
        (fun c => OwnFrom.and (ownFrom_pure _ (fun pre : List (LPn len) => c = .ret ∧ fitR first most (valN xs pre) = false)) (own_box (Nat.le_refl _) hB0.size _ _ (fun _ : List (LPn len) => .bool false)))
        ⟨rfl, b1, b2, b3, hB0⟩
        (fun x => { tmps := #[.slice a len cap, .int .i64 first, .int .i64 most, undef, undef, .pointer (some ⟨w.heap.size, 0, none⟩), .pointer (some ⟨w.heap.size + 1, 0, none⟩), .pointer (some ⟨w.heap.size + 1 + 1, 0, none⟩), .slice (some ⟨b, off + x.1.1, none⟩) x.1.2 (cap - x.1.1), .int .i64 first, .bool false, .bool false, .int .i64 most, .bool false, .bool false, .int .i64 most, .int .i64 first, .int .i64 (most - first), .slice a len cap, .func (.func 36) #[] #[.pointer (some ⟨w.heap.size + 1 + 1 + 1, 0, none⟩)], .slice (some ⟨b, off + x.1.1, none⟩) x.1.2 (cap - x.1.1), undef, undef, undef, undef, undef], defers := [] }) ?assign ?body ?done ?stop
      case assign =>
        intro l x W K hK
        dsimp only [encN]
        gi_wp2
        exact hK
      case body =>
        rintro l pre x W ⟨h0, hv1, hv2, hv3, hB⟩ hlt
        have hsn := fitR_snoc first most (valN xs pre) (pcN xs x.1)
        rw [← valN_snoc, h0, Bool.true_and, pcN_len hsz x, HNP.out] at hsn
        obtain ⟨R, hR⟩ : ∃ R, R = roomN first most pre.length := ⟨_, rfl⟩
        rw [← hR] at hsn hv3
        have hrn : roomN first most (pre ++ [x]).length = most := by unfold roomN; rw [if_neg (by simp)]
        have hc1 := hv1.cell
        have hc2 := hv2.cell
        have hf2 := hv2.frozen
        have hc3 := hv3.cell
        have hf3 := hv3.frozen
        clear hR h0
        by_cases hg : R < (x.1.2 : Int)
        · rw [decide_eq_false (by omega)] at hsn
          have HS := hid hsn
          clear hsn
          gi_wp2
          have hw2 := hv2.set (.bool false)
          exact ⟨(KeepsOthers.setCell _ _ _).from _, ⟨rfl, HS.out⟩, hw2, hB.setCell (p := ⟨w.heap.size + 1, 0, none⟩) (by simp) _⟩
        · rw [decide_eq_true (by omega)] at hsn
          have HS := hid hsn
          have HRN := hid hrn
          clear hsn hrn
          gi_wp2
          have hw1 := hv1.other (show w.heap.size ≠ w.heap.size + 1 + 1 by omega) (.int .i64 most)
          have hw2 := hv2.other (show w.heap.size + 1 ≠ w.heap.size + 1 + 1 by omega) (.int .i64 most)
          have hw3 := hv3.set (.int .i64 most)
          exact ⟨(KeepsOthers.setCell _ _ _).from _, (Below.refl _ _).setCell (p := ⟨w.heap.size + 1 + 1, 0, none⟩) (by simp; omega) _, HS.out, hw1, hw2, by rw [HRN.out]; exact hw3, hB.setCell (p := ⟨w.heap.size + 1 + 1, 0, none⟩) (by simp; omega) _⟩
      case done =>
        rintro D ys W hD hys ⟨h0, hv1, hv2, hv3, hB⟩ hK
        rw [hys] at h0
        have hc2 := hv2.cell
        have hf2 := hv2.frozen
        have H0 := hid h0
        clear h0 hys
        gi_wp2
        have hw2 := hv2.set (.bool true)
        have hK' := (KeepsOthers.setCell W ⟨w.heap.size + 1, 0, none⟩ (.bool true)).same D _ hK rfl
        refine ⟨by simp, .inl ⟨_, _, rfl, run_takeDeferred hK', ?_⟩⟩
        have hc6 := cell_kept hw2.cell (grownBy_putObj' _ D (.deferred none)) (fun r e => by cases e; exact ⟨_, hK', rfl⟩)
        refine ⟨.bool true, ?_, by rw [H0.out], (hB.setCell (p := ⟨w.heap.size + 1, 0, none⟩) (by simp) _).trans (belowK_b (w := w) (Nat.le_refl _) _ D _ _ (by simp at hD; omega) hK' rfl rfl)⟩
        simp [results, Try.f19, go_sem, hc6]
      case stop =>
        rintro D c pre W hD hpre ⟨⟨rfl, h0⟩, hv2, hB⟩ hK
        have H0 : Hid (fitR first most (linL xs) = false) := fitR_pre hpre h0
        clear h0
        gi_wp2
        refine ⟨by simp, .inl ⟨_, _, rfl, run_takeDeferred hK, ?_⟩⟩
        have hc6 := cell_kept hv2.cell (grownBy_putObj' _ D (.deferred none)) (fun r e => by cases e; exact ⟨_, hK, rfl⟩)
        refine ⟨.bool false, ?_, by rw [H0.out], hB.trans (belowK_b (w := w) (Nat.le_refl _) W D _ _ (by simp at hD; omega) hK rfl rfl)⟩
        simp [results, Try.f19, go_sem, hc6]
theorem infoRow : (Try.prog.info? 22).map (fun i => (i.zero, i.size, i.bytes)) = some (some (.slice none 0 0), 1, 24) := by kernel_rfl
set_option maxRecDepth 100000 in
set_option maxHeartbeats 4000000 in
theorem lines_Split (a : Option Addr) (len cap : Nat) (xs : List Int) (w : World) (hr : Reads .u8 w a len cap xs) (hN : len < 1000000) (hm : Mx w) :
    Calls Try.prog 8 #[.slice a len cap] w fun e w' => ∃ a' n c, e = .returned (.slice a' n c) ∧ Rws w' a' n c (linL xs) ∧ Below w.heap.size w w' := by
  have hl := hr.len_le
  have hsz := hr.size
  obtain ⟨b, off, ha⟩ := each_some hr
  have hC := cntCr a len cap xs w _ rfl hr (by omega) hm
  have hcl := crN_le xs
  have hlc : crN xs + 1 < 100000000000 := by omega
  obtain ⟨M, hM⟩ : ∃ M, M = crN xs := ⟨_, rfl⟩
  rw [← hM] at hC hcl hlc
  clear hM
  obtain ⟨M1, hM1⟩ : ∃ M1, M1 = M + 1 := ⟨_, rfl⟩
  rw [← hM1] at hlc
  have hMi : (M : Int) + 1 = (M1 : Int) := by omega
  clear hM1
  have kc := convB (P := Try.prog) (t := 22) (e := 5) Try.underlying22 Try.underlying5 w w.heap.size rfl
  refine (callsIn_wide (n := 4)).1 ?_
  refine callsIn_of_wp_marks Try.func8 rfl trivial ?_ rfl
  simp only [Try.ntmps8, List.size_toArray, List.length_cons, List.length_nil, Nat.reduceAdd, Nat.reduceSub, Array.replicate_succ, Array.replicate_zero, List.push_toArray, List.append_toArray, List.nil_append, List.cons_append]
  gi_wp2_with (first
    | (refine ⟨trivial, ?_⟩; gi_at_call 24; (with_reducible refine (callsIn_wide.2 hC).mono ?_); rintro e w1 ⟨rfl, hb1⟩)
    | (gi_at_make; refine wpListIn_makeG (shRow .u8) rfl _ _ rfl Try.underlying23 infoRow (by decide) (w0 := w) (m := M1) rfl rfl hb1 hlc ?_; intro g w2 ho2 hb2)
    | (refine ⟨trivial, ?_⟩; gi_at_call 25; (with_reducible refine (lines_each _ _ _ _ _).mono ?_); rintro e w' ⟨rfl, rfl⟩))
  obtain ⟨b1, b2, hB0⟩ := two_boxes w2 23 22 (.slice (some ⟨g, 0, none⟩) 0 M1) (.slice a len cap)
  have hB := below_then hb2 hB0
  have hw2 := hb2.size
  have ho3 := ho2.below hB0
  have hNP : ∀ pre : List (LPn len), (valN xs pre).length = pre.length := fun pre => by simp [valN]
  refine wpIn_rangeFunc_ownG rfl (by omega) (gf := 36) (lb := #[.pointer (some ⟨w2.heap.size + 1, 0, none⟩)]) rfl trivial (enters_of Try.func36 (by kernel_rfl) rfl)
    (each_stops 3 (w2.heap.size + 1) w.heap.size (by omega) b off a len cap xs ha w _ hr hN hm (Nat.le_refl _) hB.size hB (by simp) b2) (fun h k => h.trans k) (belowK_b hB.size) (Below.refl _ _) (fun _ => rfl)
    (fun pre W => (∃ v, Boxed W w2.heap.size 23 v ∧ OwnG (shRow .u8) 22 w.heap.size W v (valN xs pre)) ∧ Below w.heap.size w W)
    (fun _ _ _ => False)
    (OwnFrom.and (own_rowG (shRow .u8) _ _ _ _ _ (fun pre : List (LPn len) => valN xs pre)) (ownFrom_below (Nat.le_refl _) hB.size)) (fun _ _ _ _ _ hs _ _ => hs)
    ⟨⟨_, b1, ho3⟩, hB⟩
    (fun x => { tmps := #[.slice a len cap, undef, .slice none 0 0, .pointer (some ⟨w2.heap.size, 0, none⟩), .slice (some ⟨b, off + x.1.1, none⟩) x.1.2 (cap - x.1.1), .slice a len cap, .slice (some ⟨w.heap.size, 0, none⟩) 2 2, .slice (some ⟨w.heap.size, 0, none⟩) 2 2, .int .i64 M, .int .i64 M1, .slice (some ⟨g, 0, none⟩) 0 M1, .slice a len cap, .func (.func 36) #[] #[.pointer (some ⟨w2.heap.size + 1, 0, none⟩)], .slice (some ⟨b, off + x.1.1, none⟩) x.1.2 (cap - x.1.1), undef, undef, undef, undef, undef, undef], defers := [] }) ?assign ?body ?done ?stop
  case assign =>
    intro l x W K hK
    dsimp only [encN]
    gi_wp2
    exact hK
  case body =>
    rintro l pre x W ⟨⟨v, hv, hown⟩, hBW⟩ hlt
    have hsn := valN_snoc xs pre x
    have hpl : (valN xs pre).length < 100000000000 := by rw [hNP]; omega
    have hxl := pcN_len hsz x
    have hx2 := x.2.1
    have hWs := hBW.size
    have hrd := (lpn_read hr ha x).below (below_drew hBW)
    have HCL := hid (bytes_Clone _ _ _ _ W.drew hrd (by omega))
    have hvlt := hown.lt
    have hvs := hown.shape
    generalize valN xs pre = V at *
    have c0 : W.drew.cell? ⟨w2.heap.size, 0, none⟩ = some v := hv.cell
    have HV : Hid (Boxed W.drew w2.heap.size 23 v) := hv
    have HO : Hid (OwnG (shRow .u8) 22 w.heap.size W.drew v V) := hown.below (below_drew (Below.refl _ _))
    have HLT : Hid (∀ j, v.ownBlock = some j → j < W.drew.heap.size) := fun j hj => (hvlt j hj).2
    have HWS : Hid (w.heap.size ≤ W.drew.heap.size) := hWs
    have HKW : Hid (KeepsOthers W W.drew ∧ Below w.heap.size W W.drew) := ⟨KeepsOthers.drew W, below_drew (Below.refl _ _)⟩
    have HSN := hid hsn
    clear hv hown hrd hvlt hsn hxl
    gi_wp2_with fail
    refine wpIn_region_any (by kernel_rfl) ?_
    change wpAnyIn _ _ _ _ _ _ 6 _ _ (World.drew _)
    repeat' (first
      | exact AllReadyIn.nil
      | with_reducible refine wpAnyIn_ready (rs := [0, 1]) (by decide +kernel) (by simp) ?_
      | with_reducible refine wpAnyIn_ready (rs := [0, 2]) (by decide +kernel) (by simp) ?_
      | with_reducible refine wpAnyIn_ready (rs := [0, 3]) (by decide +kernel) (by simp) ?_
      | with_reducible refine wpAnyIn_ready (rs := [0]) (by decide +kernel) (by simp) ?_
      | with_reducible refine wpAnyIn_ready (rs := [1]) (by decide +kernel) (by simp) ?_
      | with_reducible refine wpAnyIn_ready (rs := [2]) (by decide +kernel) (by simp) ?_
      | with_reducible refine wpAnyIn_ready (rs := [3]) (by decide +kernel) (by simp) ?_
      | with_reducible refine wpAnyIn_ready (rs := [4]) (by decide +kernel) (by simp) ?_
      | with_reducible refine wpAnyIn_ready (rs := [5]) (by decide +kernel) (by simp) ?_
      | ((with_reducible change AllReadyIn _ _ _ _ _ _ _ _ _ _ _); apply ready_cons; exact rfl; intro K hK)
      | (refine opIn_pushG (shRow .u8) (pcN xs x.1) a5 x.1.2 c5 rfl rfl Try.underlying23 infoRow rfl (by decide) (by decide) (W := W5) (v := v) (xs := V) (B := w2.heap.size) (n₀ := w.heap.size) rfl rfl rfl hv5 (by decide) hown5 (Nat.le_trans HWS.out hb5.size) (by omega) hr5 hoff5 (by intro c hc; cases hc with | head => rfl | tail _ h => cases h) hpl ?_; intro g' cap' w9 hp; have hc1 := hp.box.cell; have hf1 := hp.box.frozen; refine hK _ _ ?_; clear hK K)
      | (go_simp; refine ⟨trivial, ?_⟩; (with_reducible refine (CallsIn.inRound l (callsIn_wide.2 HCL.out)).mono ?_); rintro e W5 ⟨a5, c5, rfl, ho5, hb5⟩; have hv5 : Boxed W5 w2.heap.size 23 v := Boxed.below HV.out hb5; have hown5 := HO.out.below hb5; have hoff5 := (New.own ho5).off HLT.out; obtain ⟨a6, c6, hq6, hr6⟩ := ho5.reads; have c5a := hv5.cell; have c5b : (W5.alloc (.cells #[.slice a5 x.1.2 c5] 22)).cell? ⟨w2.heap.size, 0, none⟩ = some v := (hv5.alloc _).cell; have hr5 : Reads .u8 W5 a5 x.1.2 c5 (pcN xs x.1) := (by have := hr6; rw [pcN_len hsz x] at this hq6; cases hq6; exact this); clear hq6 hr6; refine hK _ _ ?_; clear hK K)
      | (go_simp; refine hK _ _ ?_; clear hK K)
      | with_reducible refine wpAnyIn_done (by decide +kernel) ?_ _)
    all_goals
      have hk5 := HKW.out.1.trans (keeps_below hb5)
      have hbb5 := HKW.out.2.trans (hb5.mono HWS.out)
      exact ⟨(hk5.trans hp.keeps).from _, hbb5.trans hp.below, ⟨_, hp.put, by rw [HSN.out]; exact hp.own⟩, hBW.trans (hbb5.trans hp.below)⟩
  case done =>
    rintro D ys W hD hys ⟨⟨v, hv, hown⟩, hBW⟩ hK
    have hc := hv.cell
    rw [hys] at hown
    obtain ⟨av, cv, rfl⟩ := hown.shape
    gi_wp2
    refine ⟨by simp, .inl ⟨_, _, rfl, run_takeDeferred hK, ?_⟩⟩
    obtain ⟨a', c', hvv, hrd⟩ := (hown.putObj (.deferred none) hK rfl).rows
    cases hvv
    exact ⟨_, results_tmp rfl _ _ _, _, _, _, rfl, hrd.rws, hBW.trans (belowK_b (w := w) (Nat.le_refl _) W D _ _ (by simp at hD; omega) hK rfl rfl)⟩
  case stop =>
    rintro D c pre W _ _ h _
    exact h.elim
end Go.Proofs.Ytbhmhpcabppgmaa
