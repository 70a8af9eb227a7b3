/-
  Texts of ours laid together: C31b, Rst.
-/
import Derived.Test.YtdglnpkkfkagaaaGreatZ43

/-! C31b -/
namespace Go.Proofs.YtdglnpkkfkagaaaGreat
open Go.RowKit Go.Shelf
set_option linter.unusedVariables false
attribute [local go_sem] Oper.semAt_some

theorem infR31c : (Tryz.prog.info? 23).map (fun i => (i.zero, i.size, i.bytes)) = some (some (.slice none 0 0), 1, 24) := by kernel_rfl
theorem prefix_nil {l m : List (List Int)} (h : l <+: m) (hn : [] ∈ l) : [] ∈ m := by
  obtain ⟨r, rfl⟩ := h
  exact List.mem_append_left _ hn
set_option maxRecDepth 100000 in
set_option maxHeartbeats 4000000 in
theorem ewcut_Cut (n k : Int) (a : Option Addr) (len cap : Nat) (xs : List Int) (first : Int) (w : World) (hr : Reads .i32 w a len cap xs) (hN : len < 100000) (hn : (Lit.int .i64 n).wf = true) (hk : (Lit.int .i64 k).wf = true) (hf : (Lit.int .i64 first).wf = true) :
    Calls Tryz.prog 7 #[.int .i64 n, .int .i64 k, .slice a len cap, .int .i64 first] w fun e w' => ∃ a' m c', e = .returned (.tuple #[.slice a' m c', .int .i64 (cutE n k xs first)]) ∧ RwsG (shRow .i32) w' a' m c' (ctL n k xs first) ∧ Below w.heap.size w w' := by
  have hl := hr.len_le
  have hsz := hr.size
  obtain ⟨b, off, ha⟩ := reads_some hr
  obtain ⟨b8, b9, hB9⟩ := two_boxes w 25 26 (.slice none 0 0) (.int .i64 0)
  have HL := hid (ewcost_Len n k a len cap xs _ (hr.below hB9) hN hn hk)
  generalize ewcL n k xs = LL at HL
  have hcE : cutE n k xs first = if ewcE n k xs = 0 then (if (cutP n k xs first).isSome = true then 0 else 12) else ewcE n k xs := rfl
  have hcL : ctL n k xs first = if ewcE n k xs = 0 then (cutP n k xs first).getD [] else [] := rfl
  refine (callsIn_wide (n := 4)).1 ?_
  refine callsIn_of_wp_marks Tryz.func7 rfl trivial ?_ rfl
  simp only [Tryz.ntmps7, List.size_toArray, List.length_cons, List.length_nil, Nat.reduceAdd, Nat.reduceSub, Array.replicate_succ, Array.replicate_zero, List.push_toArray, List.append_toArray, List.nil_append, List.cons_append]
  by_cases hE : ewcE n k xs = 0
  · rw [if_pos hE] at hcE hcL
    rw [hE] at HL
    gi_wp2_with (first
      | (refine ⟨trivial, ?_⟩; gi_at_call 21; (with_reducible refine (callsIn_wide.2 HL.out).mono ?_); rintro e w1 ⟨rfl, hb1⟩)
      | (refine ⟨trivial, ?_⟩; gi_at_call 22; (with_reducible refine (ewcut_pieces _ _ _ _ _ _ _ _).mono ?_); rintro e w' ⟨rfl, rfl⟩))
    have hB1 := hB9.trans (hb1.mono (by have := hB9.size; exact this))
    have d8 := Boxed.below b8 hb1
    have d9 := Boxed.below b9 hb1
    obtain ⟨x0, x1, x2, x3, x4, hB5⟩ := five_boxes w1 25 3 3 23 3 (.slice none 0 0) (.int .i64 n) (.int .i64 k) (.slice a len cap) (.int .i64 first)
    have e8 := Boxed.below d8 hB5
    have e9 := Boxed.below d9 hB5
    have hB := below_then hB1 hB5
    have hs1 := hB1.size
    have l9 : w.heap.size + 1 < w1.heap.size := by have := d9.lt; omega
    clear hb1 hB5 b8 b9 d8 d9 hB9
    refine wpIn_rangeFunc_ownG rfl (by omega) (gf := 43) (lb := #[.pointer (some ⟨w1.heap.size + 1 + 1 + 1 + 1, 0, none⟩), .pointer (some ⟨w1.heap.size + 1 + 1 + 1, 0, none⟩), .pointer (some ⟨w1.heap.size + 1, 0, none⟩), .pointer (some ⟨w1.heap.size + 1 + 1, 0, none⟩)]) rfl trivial (enters_of Tryz.func43 (by kernel_rfl) rfl)
      (pieces_stops 3 n k first (w1.heap.size + 1) (w1.heap.size + 1 + 1) (w1.heap.size + 1 + 1 + 1) (w1.heap.size + 1 + 1 + 1 + 1) w.heap.size (by omega) b off a len cap xs ha w _ hr hN hn hk hf (Nat.le_refl _) hB.size hB x1 x2 x3 x4) (fun h k => keeps2_t h k) (keeps2_b hB.size) (Below.refl _ _) (fun _ => rfl)
      (fun pre W => (∀ p ∈ valLn xs pre, p ≠ []) ∧ Boxed W w.heap.size 25 (.slice none 0 0) ∧ Boxed W (w.heap.size + 1) 26 (.int .i64 0) ∧ (∃ v, Boxed W w1.heap.size 25 v ∧ OwnG (shRow .i32) 23 w.heap.size W v (valLn xs pre)) ∧ Below w.heap.size w W)
      (fun c pre W => (c = .ret ∧ [] ∈ valLn xs pre) ∧ Boxed W w.heap.size 25 (.slice none 0 0) ∧ (Boxed W (w.heap.size + 1) 26 (.int .i64 12) ∧ Below w.heap.size w W))
      (OwnFrom.and (ownFrom_pure _ (fun pre : List (LPn len) => ∀ p ∈ valLn xs pre, p ≠ [])) (OwnFrom.and (Go.Own.from (boxed_own _ _ (fun _ => .slice none 0 0)) _) (OwnFrom.and (Go.Own.from (boxed_own _ _ (fun _ => .int .i64 0)) _) (OwnFrom.and (own_rowG (shRow .i32) _ _ _ _ _ (fun pre : List (LPn len) => valLn xs pre)) (ownFrom_below (Nat.le_refl _) hB.size)))))
      (fun c => OwnFrom.and (ownFrom_pure _ (fun pre : List (LPn len) => c = .ret ∧ [] ∈ valLn xs pre)) (OwnFrom.and (Go.Own.from (boxed_own _ _ (fun _ => .slice none 0 0)) _) (own_box (Nat.le_refl _) hB.size _ _ (fun _ : List (LPn len) => .int .i64 12))))
      ⟨fun p hp => (by cases hp), e8, e9, ⟨_, x0, OwnG.nil _ _ _ _⟩, hB⟩
      (fun x => { tmps := #[.int .i64 n, .int .i64 k, .slice a len cap, .int .i64 first, undef, undef, undef, undef, .pointer (some ⟨w.heap.size, 0, none⟩), .pointer (some ⟨w.heap.size + 1, 0, none⟩), .int .i64 LL, .int .i64 0, .pointer (some ⟨w1.heap.size, 0, none⟩), .slice (some ⟨b, off + x.1.1, none⟩) x.1.2 (cap - x.1.1), .tuple #[.int .i64 LL, .int .i64 0], .int .i64 n, .int .i64 k, .slice a len cap, .tuple #[.int .i64 LL, .int .i64 0], .int .i64 LL, .int .i64 0, .int .i64 0, .bool false, undef, .int .i64 n, .int .i64 k, .slice a len cap, .int .i64 first, .func (.func 43) #[] #[.pointer (some ⟨w1.heap.size + 1 + 1 + 1 + 1, 0, none⟩), .pointer (some ⟨w1.heap.size + 1 + 1 + 1, 0, none⟩), .pointer (some ⟨w1.heap.size + 1, 0, none⟩), .pointer (some ⟨w1.heap.size + 1 + 1, 0, none⟩)], .slice (some ⟨b, off + x.1.1, none⟩) x.1.2 (cap - x.1.1), undef, undef, undef, undef, undef, undef, undef, undef, undef], defers := [] }) ?assign ?body ?done ?stop
    case assign =>
      intro l x W K hK
      dsimp only [encN]
      gi_wp2
      exact hK
    case body =>
      rintro l pre x W ⟨h0, hv8, hv9, ⟨v, hv, hown⟩, hBW⟩ hlt
      have hsn := valLn_snoc xs pre x
      have hxl := pcN_len hsz x
      by_cases hx0 : x.1.2 = 0
      · have hE1 : [] ∈ valLn xs (pre ++ [x]) := by
          rw [hsn]
          exact List.mem_append_right _ (List.mem_singleton.2 (List.eq_nil_of_length_eq_zero (by omega)).symm)
        have HE := hid hE1
        have hz : ((x.1.2 : Int) == 0) = true := by simp [hx0]
        have c8 := hv8.cell
        have f8 := hv8.frozen
        have c9 := hv9.cell
        have f9 := hv9.frozen
        clear hE1 hx0 hxl hsn hv hown h0
        gi_wp2
        have hw8 := hv8.set (.slice none 0 0)
        have hw9 := hv9.other (show w.heap.size + 1 ≠ w.heap.size by omega) (.slice none 0 0)
        exact ⟨((KeepsOthers.setCell _ _ _).trans (KeepsOthers.setCell _ _ _)).from _, ⟨rfl, HE.out⟩, hw8.other (by omega) _, hw9.set _, (hBW.setCell (p := ⟨w.heap.size, 0, none⟩) (Nat.le_refl _) _).setCell (p := ⟨w.heap.size + 1, 0, none⟩) (by simp) _⟩
      · have hz : ((x.1.2 : Int) == 0) = false := by simpa using hx0
        have hNx : ∀ p ∈ valLn xs (pre ++ [x]), p ≠ [] := by
          rw [hsn]
          intro p hp
          rcases List.mem_append.1 hp with hp | hp
          · exact h0 p hp
          · rw [List.mem_singleton.1 hp]
            intro he
            rw [he] at hxl
            exact hx0 hxl.symm
        have HNX := hid hNx
        have hpl : (valLn xs pre).length < 100000000000 := by
          have : (valLn xs pre).length = pre.length := by simp [valLn]
          omega
        have hx2 := x.2.1
        have hWs := hBW.size
        have hrd := (lpn_read hr ha x).below (below_drew hBW)
        have HCL := hid (slices_CloneR _ _ _ _ W.drew hrd (by omega))
        have hvlt := hown.lt
        have hvs := hown.shape
        generalize valLn xs pre = V at *
        have c0 : W.drew.cell? ⟨w1.heap.size, 0, none⟩ = some v := hv.cell
        have HV : Hid (Boxed W.drew w1.heap.size 25 v) := hv
        have HV8 : Hid (Boxed W.drew w.heap.size 25 (.slice none 0 0)) := hv8
        have HV9 : Hid (Boxed W.drew (w.heap.size + 1) 26 (.int .i64 0)) := hv9
        have HO : Hid (OwnG (shRow .i32) 23 w.heap.size W.drew v V) := hown.below (below_drew (Below.refl _ _))
        have HLT : Hid (∀ j, v.ownBlock = some j → j < W.drew.heap.size) := fun j hj => (hvlt j hj).2
        have HWS : Hid (w.heap.size ≤ W.drew.heap.size) := hWs
        have HKW : Hid (KeepsOthers W W.drew ∧ Below w.heap.size W W.drew) := ⟨KeepsOthers.drew W, below_drew (Below.refl _ _)⟩
        have HSN := hid hsn
        clear hv hv8 hv9 hown hrd hvlt hsn hxl hx0 hNx h0
        gi_wp2_with fail
        refine wpIn_region_any (by kernel_rfl) ?_
        change wpAnyIn _ _ _ _ _ _ 6 _ _ (World.drew _)
        repeat' (first
          | exact AllReadyIn.nil
          | with_reducible refine wpAnyIn_ready (rs := [0, 1]) (by decide +kernel) (by simp) ?_
          | with_reducible refine wpAnyIn_ready (rs := [0, 2]) (by decide +kernel) (by simp) ?_
          | with_reducible refine wpAnyIn_ready (rs := [0, 3]) (by decide +kernel) (by simp) ?_
          | with_reducible refine wpAnyIn_ready (rs := [0]) (by decide +kernel) (by simp) ?_
          | with_reducible refine wpAnyIn_ready (rs := [1]) (by decide +kernel) (by simp) ?_
          | with_reducible refine wpAnyIn_ready (rs := [2]) (by decide +kernel) (by simp) ?_
          | with_reducible refine wpAnyIn_ready (rs := [3]) (by decide +kernel) (by simp) ?_
          | with_reducible refine wpAnyIn_ready (rs := [4]) (by decide +kernel) (by simp) ?_
          | with_reducible refine wpAnyIn_ready (rs := [5]) (by decide +kernel) (by simp) ?_
          | ((with_reducible change AllReadyIn _ _ _ _ _ _ _ _ _ _ _); apply ready_cons; exact rfl; intro K hK)
          | (refine opIn_pushG (shRow .i32) (pcN xs x.1) a5 x.1.2 c5 rfl rfl Tryz.underlying25 infR31c rfl (by decide) (by decide) (W := W5) (v := v) (xs := V) (B := w1.heap.size) (n₀ := w.heap.size) rfl rfl rfl hv5 (by decide) hown5 (Nat.le_trans HWS.out hb5.size) (by omega) hr5 hoff5 (by intro c hc; cases hc with | head => rfl | tail _ h => cases h) hpl ?_; intro g' cap' w9 hp; have hc1 := hp.box.cell; have hf1 := hp.box.frozen; refine hK _ _ ?_; clear hK K)
          | (go_simp; refine ⟨trivial, ?_⟩; (with_reducible refine (CallsIn.inRound l (callsIn_wide.2 HCL.out)).mono ?_); rintro e W5 ⟨a5, c5, rfl, ho5, hb5⟩; have hv5 : Boxed W5 w1.heap.size 25 v := Boxed.below HV.out hb5; have hown5 := HO.out.below hb5; have hoff5 := (New.own ho5).off HLT.out; obtain ⟨a6, c6, hq6, hr6⟩ := ho5.reads; have c5a := hv5.cell; have c5b : (W5.alloc (.cells #[.slice a5 x.1.2 c5] 23)).cell? ⟨w1.heap.size, 0, none⟩ = some v := (hv5.alloc _).cell; have hr5 : Reads .i32 W5 a5 x.1.2 c5 (pcN xs x.1) := (by have := hr6; rw [pcN_len hsz x] at this hq6; cases hq6; exact this); clear hq6 hr6; refine hK _ _ ?_; clear hK K)
          | (go_simp; refine hK _ _ ?_; clear hK K)
          | with_reducible refine wpAnyIn_done (by decide +kernel) ?_ _)
        all_goals
          have hk5 := HKW.out.1.trans (keeps_below hb5)
          have hbb5 := HKW.out.2.trans (hb5.mono HWS.out)
          exact ⟨(hk5.trans hp.keeps).from _, ⟨⟨hbb5.trans hp.below, fun u hu => hp.other _ _ _ (by omega) (by decide) (Boxed.below (W := W.drew) hu hb5)⟩, ⟨hbb5.trans hp.below, fun u hu => hp.other _ _ _ (by omega) (by decide) (Boxed.below (W := W.drew) hu hb5)⟩⟩, HNX.out, hp.other _ _ _ (by omega) (by decide) (Boxed.below HV8.out hb5), hp.other _ _ _ (by omega) (by decide) (Boxed.below HV9.out hb5), ⟨_, hp.put, by rw [HSN.out]; exact hp.own⟩, hBW.trans (hbb5.trans hp.below)⟩
    case done =>
      rintro D ys W hD hys ⟨h0, hv8, hv9, ⟨v, hv, hown⟩, hBW⟩ hK
      rw [hys] at h0 hown
      have hcp := cuyL_yes h0
      rw [hcp] at hcE hcL
      have HCE : Hid (cutE n k xs first = 0) := hcE
      have HCL : Hid (ctL n k xs first = cuyL n k xs first) := hcL
      clear hcp hcE hcL h0 hys
      obtain ⟨av, cv, rfl⟩ := hown.shape
      have hc := hv.cell
      have c8 := hv8.cell
      have f8 := hv8.frozen
      have c9 := hv9.cell
      have f9 := hv9.frozen
      generalize cuyL n k xs first = L at *
      gi_wp2
      have hw8 := (hv8.set (.slice av L.length cv)).other (show w.heap.size ≠ w.heap.size + 1 by omega) (.int .i64 0)
      have hv92 := hv9.other (show w.heap.size + 1 ≠ w.heap.size by omega) (.slice av L.length cv)
      have hw9 := hv92.set (.int .i64 0)
      have hown2 := (hown.setBox hv8 (by decide) (fun a l c ys h => h.noBox hv8) (.slice av L.length cv)).setBox hv92 (by decide) (fun a l c ys h => h.noBoxI hv92 (by decide)) (.int .i64 0)
      have hK' := (KeepsOthers.setCell (W.setCell ⟨w.heap.size, 0, none⟩ (.slice av L.length cv)) ⟨w.heap.size + 1, 0, none⟩ (.int .i64 0)).same D _ ((KeepsOthers.setCell W ⟨w.heap.size, 0, none⟩ (.slice av L.length cv)).same D _ hK rfl) rfl
      refine ⟨by simp, .inl ⟨_, _, rfl, run_takeDeferred hK', ?_⟩⟩
      have hc5 := cell_kept hw8.cell (grownBy_putObj' _ D (.deferred none)) (fun r e => by cases e; exact ⟨_, hK', rfl⟩)
      have hc6 := cell_kept hw9.cell (grownBy_putObj' _ D (.deferred none)) (fun r e => by cases e; exact ⟨_, hK', rfl⟩)
      obtain ⟨a', c', hvv, hrd⟩ := (hown2.putObj (.deferred none) hK' rfl).rows
      cases hvv
      refine ⟨.tuple #[.slice av L.length cv, .int .i64 0], ?_, av, L.length, cv, by rw [HCE.out], by rw [HCL.out]; exact hrd, ((hBW.setCell (p := ⟨w.heap.size, 0, none⟩) (Nat.le_refl _) _).setCell (p := ⟨w.heap.size + 1, 0, none⟩) (by simp) _).trans (belowK_b (w := w) (Nat.le_refl _) _ D _ _ (by have := hB.size; omega) hK' rfl rfl)⟩
      simp [results, Tryz.f7, go_sem, hc5, hc6]
    case stop =>
      rintro D c pre W hD hpre ⟨⟨rfl, h0⟩, hv8, hv9, hBW⟩ hK
      have hcp := cuyL_none (prefix_nil hpre h0)
      rw [hcp] at hcE hcL
      have HCE : Hid (cutE n k xs first = 12) := hcE
      have HCL : Hid (ctL n k xs first = []) := hcL
      clear hcp hcE hcL h0 hpre
      gi_wp2
      refine ⟨by simp, .inl ⟨_, _, rfl, run_takeDeferred hK, ?_⟩⟩
      have hc5 := cell_kept hv8.cell (grownBy_putObj' _ D (.deferred none)) (fun r e => by cases e; exact ⟨_, hK, rfl⟩)
      have hc6 := cell_kept hv9.cell (grownBy_putObj' _ D (.deferred none)) (fun r e => by cases e; exact ⟨_, hK, rfl⟩)
      refine ⟨.tuple #[.slice none 0 0, .int .i64 12], ?_, none, 0, 0, by rw [HCE.out], by rw [HCL.out]; exact RwsG.nil _ _, hBW.trans (belowK_b (w := w) (Nat.le_refl _) W D _ _ (by have := hB.size; omega) hK rfl rfl)⟩
      simp [results, Tryz.f7, go_sem, hc5, hc6]
  · rw [if_neg hE] at hcE hcL
    rw [hcE, hcL]
    have hE' : (ewcE n k xs != 0) = true := by simpa using hE
    generalize ewcE n k xs = E at *
    gi_wp2_with (refine ⟨trivial, ?_⟩; gi_at_call 21; (with_reducible refine (callsIn_wide.2 HL.out).mono ?_); rintro e w1 ⟨rfl, hb1⟩; have d8 := Boxed.below b8 hb1; have d9 := Boxed.below b9 hb1; have c8 := d8.cell; have f8 := d8.frozen; have c9 := d9.cell; have f9 := d9.frozen)
    have hw8 := (d8.set (.slice none 0 0)).other (show w.heap.size ≠ w.heap.size + 1 by omega) (.int .i64 E)
    have hw9 := (d9.other (show w.heap.size + 1 ≠ w.heap.size by omega) (.slice none 0 0)).set (.int .i64 E)
    have hc5 := hw8.cell
    have hc6 := hw9.cell
    exact ⟨.tuple #[.slice none 0 0, .int .i64 E], by simp [results, Tryz.f7, go_sem, hc5, hc6], none, 0, 0, rfl, RwsG.nil _ _, (((hB9.trans (hb1.mono hB9.size)).setCell (p := ⟨w.heap.size, 0, none⟩) (Nat.le_refl _) _).setCell (p := ⟨w.heap.size + 1, 0, none⟩) (by simp) _)⟩
end Go.Proofs.YtdglnpkkfkagaaaGreat

/-! Rst -/
namespace Go.Proofs.YtdglnpkkfkagaaaGreat
open Go.RowKit
set_option linter.unusedVariables false

theorem OwnG.store1 {k : IntKind} {e : TypeId} {base : Nat} {W : World} {g n c : Nat} {xs : List (List Int)} (h : OwnG (shRow k) e base W (.slice (some ⟨g, 0, none⟩) n c) xs) (j : Nat) (hj : j < n) {ua : Option Addr} {ul uc : Nat} {x : List Int} (hu : Reads k W ua ul uc x) (hoff : Off (some g) ua ul) :
    OwnG (shRow k) e base (W.setCell ⟨g, j, none⟩ (.slice ua ul uc)) (.slice (some ⟨g, 0, none⟩) n c) (xs.set j x) := by
  obtain ⟨a', c', hv⟩ := h.shape
  cases hv
  obtain ⟨vs, h1, h2, h3⟩ := h
  have hT : Turns (fun i => i = g) W (W.setCell ⟨g, j, none⟩ (.slice ua ul uc)) := (Turns.refl _ _).set g j _ rfl
  have h2' : vs.length = xs.length := by rw [h2]; exact Nat.mul_one _
  refine ⟨vs.set j (.slice ua ul uc), by rw [List.length_set]; exact (h1.stored j _).1, by rw [List.length_set, List.length_set, h2], fun i y hi => ?_⟩
  by_cases hij : i = j
  · subst hij
    rw [List.getElem?_set_self hj] at hi
    cases hi
    refine ⟨ua, ul, uc, fun m v hm => ?_, hu.turns hT (fun b off hl ha hb => hoff b off hl ha (by rw [hb])), hoff⟩
    match m, hm with
    | 0, hm =>
      cases hm
      rw [show (shRow k).sz * i + 0 = i by show 1 * i + 0 = i; omega, List.getElem?_set_self (by omega)]
    | m + 1, hm => simp [shRow] at hm
  · rw [List.getElem?_set_ne (Ne.symm hij)] at hi
    obtain ⟨a2, l2, c2, q1, q2, q3⟩ := h3 i y hi
    refine ⟨a2, l2, c2, fun m v hm => ?_, q2.turns hT (fun b off hl ha hb => q3 b off hl ha (by rw [hb]; rfl)), q3⟩
    match m, hm with
    | 0, hm =>
      have := q1 0 v hm
      rw [show (shRow k).sz * i + 0 = i by show 1 * i + 0 = i; omega] at this ⊢
      rw [List.getElem?_set_ne (Ne.symm hij)]
      exact this
    | m + 1, hm => simp [shRow] at hm
theorem OwnG.at1 {k : IntKind} {e : TypeId} {base : Nat} {W : World} {g n c : Nat} {xs : List (List Int)} (h : OwnG (shRow k) e base W (.slice (some ⟨g, 0, none⟩) n c) xs) {j : Nat} (hj : j < n) :
    (∃ a l c', W.cell? ⟨g, j, none⟩ = some (.slice a l c')) ∧ W.frozen? ⟨g, j, none⟩ = false := by
  obtain ⟨a', c', hv⟩ := h.shape
  cases hv
  obtain ⟨vs, h1, h2, h3⟩ := h
  obtain ⟨a2, l2, c2, q1, _, _⟩ := h3 j _ (List.getElem?_eq_getElem hj)
  have q2 := q1 0 _ rfl
  rw [show (shRow k).sz * j + 0 = j by show 1 * j + 0 = j; omega] at q2
  refine ⟨⟨a2, l2, c2, ?_⟩, h1.frozenAt j⟩
  have := h1.cells (g := g) rfl j _ q2
  rwa [Addr.add_lit, Nat.zero_add] at this
/-- Where all of a row's cells are slices, no row of numbers lies. -/
theorem OwnG.full_off {k k' : IntKind} {e : TypeId} {base : Nat} {W : World} {g n : Nat} {xs : List (List Int)} (h : OwnG (shRow k) e base W (.slice (some ⟨g, 0, none⟩) n n) xs) {a : Option Addr} {l c : Nat} {ys : List Int} (hr : Reads k' W a l c ys) : Off (some g) a l := by
  intro b off hl ha hb
  cases hb
  obtain ⟨b', off', ha', _, hcell⟩ := hr.cell hl
  rw [ha] at ha'; cases ha'
  have h0 := hcell 0 hl
  obtain ⟨a', c', hv⟩ := h.shape
  cases hv
  obtain ⟨vs, h1, h2, h3⟩ := h
  have h2' : vs.length = xs.length := by rw [h2]; exact Nat.mul_one _
  rcases h1.2 with ⟨hq, _⟩ | ⟨g', cap', cur, hq, _, hg, _, _, hcs, htk⟩
  · cases hq
  · cases hq
    have hcur : cur.toList = vs := by
      rw [← htk, List.take_of_length_le (by rw [Array.length_toList, hcs]; exact Nat.le_refl _)]
    unfold World.cell? at h0
    rw [hg] at h0
    simp only [Nat.add_zero, Option.isSome_none, Bool.false_eq_true, if_false] at h0
    rw [← Array.getElem?_toList, hcur] at h0
    have hlt := (List.getElem?_eq_some_iff.1 h0).1
    obtain ⟨a2, l2, c2, q1, _, _⟩ := h3 off _ (List.getElem?_eq_getElem (show off < xs.length by omega))
    have q2 := q1 0 _ rfl
    rw [show (shRow k).sz * off + 0 = off by show 1 * off + 0 = off; omega, h0] at q2
    cases q2
section
variable {P : Program} {ops : Array Oper} {rest : List Oper} {o : Oper} {a : Act} {Q : Exit → Act → World → Prop}
/-- 'make([][]T, n)'. -/
theorem wpList_zerosG (k : IntKind) (hgd : o.guard = none) {t e : TypeId} (l c : Operand) (ho : o.op = Op.makeSlice t l c)
    {by_ : Nat} (ht : P.underlying t = some (.slice e)) (hinf : (P.info? e).map (fun i => (i.zero, i.size, i.bytes)) = some (some (.slice none 0 0), 1, by_)) (hby : by_ ≤ 1000)
    {w0 wr : World} {kl kc : IntKind} {n : Nat} (hl : a.eval l = .int kl n) (hc : a.eval c = .int kc n) (hbel : Below w0.heap.size w0 wr) (hlen : n < 100000000000)
    (h : ∀ g w', OwnG (shRow k) e w0.heap.size w' (.slice (some ⟨g, 0, none⟩) n n) (List.replicate n []) → Below w0.heap.size w0 w' → wpList P ops Q rest (a.put o.dst (.slice (some ⟨g, 0, none⟩) n n)) w') :
    wpList P ops Q (o :: rest) a wr := by
  obtain ⟨i0, hi, hz0, hz1, hz2⟩ : ∃ i, P.info? e = some i ∧ i.zero = some (.slice none 0 0) ∧ i.size = 1 ∧ i.bytes = by_ := by
    cases hh : P.info? e with
    | none => rw [hh] at hinf; cases hinf
    | some i =>
      rw [hh] at hinf
      simp only [Option.map_some, Option.some.injEq, Prod.mk.injEq] at hinf
      exact ⟨i, rfl, hinf.1, hinf.2.1, hinf.2.2⟩
  have hmul : i0.bytes * n ≤ 1000 * n := Nat.mul_le_mul_right _ (by omega)
  refine wpList_make_full _ hgd l c t ho w0.heap.size e i0 (.slice none 0 0) 1 ht hi hz0 hz1 kl kc n n n hl hc rfl rfl (by omega) (by unfold maxLen; omega) hbel.size ?_
  intro w' hown hgrow
  refine h _ w' ⟨List.replicate n (.slice none 0 0), ?_, by simp [shRow], fun i x hx => ?_⟩ (hbel.grown hgrow hbel.size (fun j hj => by cases hj))
  · have e1 : (madeCells (Value.slice none 0 0).cells (n * 1)).toList = List.replicate n (.slice none 0 0) := by
      rw [Nat.mul_one]
      exact toList_madeCells_one _ _
    rw [e1] at hown
    simpa [shRow] using hown
  · obtain ⟨hlt, hxe⟩ := List.getElem?_eq_some_iff.1 hx
    rw [List.length_replicate] at hlt
    rw [List.getElem_replicate] at hxe
    subst hxe
    refine ⟨none, 0, 0, fun m v hm => ?_, Reads.nil _ _ _ _ (Nat.zero_le _), fun b off hl => absurd hl (Nat.lt_irrefl _)⟩
    match m, hm with
    | 0, hm =>
      cases hm
      rw [show (shRow k).sz * i + 0 = i by show 1 * i + 0 = i; omega, List.getElem?_replicate, if_pos hlt]
    | m + 1, hm => simp [shRow] at hm
end
/-- A list that is filled from the front. -/
theorem fill_rows (f : List Int → List Int) (L : List (List Int)) {j : Nat} {x : List Int} (hg : L[j]? = some x) (ht : L.take (j + 1) = L.take j ++ [x]) :
    ((L.take j).map f ++ List.replicate (L.length - j) []).set j (f x) = (L.take (j + 1)).map f ++ List.replicate (L.length - (j + 1)) [] := by
  have hj : j < L.length := (List.getElem?_eq_some_iff.1 hg).1
  have h1 : ((L.take j).map f).length = j := by rw [List.length_map, List.length_take]; omega
  rw [List.set_append_right j _ (by omega), h1, Nat.sub_self, ht, List.map_append, List.append_assoc]
  congr 1
  obtain ⟨m, hm⟩ : ∃ m, L.length - j = m + 1 := ⟨L.length - j - 1, by omega⟩
  rw [hm, show L.length - (j + 1) = m by omega, List.replicate_succ]
  rfl
end Go.Proofs.YtdglnpkkfkagaaaGreat
