/-
  Texts of ours laid together: C24.
-/
import Derived.Test.YtfnolkkmldiimaaGreatDoorZ29

/-! C24 -/
namespace Go.Proofs.YtfnolkkmldiimaaGreatDoor
open Go.RowKit Go.Shelf
set_option linter.unusedVariables false
attribute [local go_sem] Oper.semAt_some

set_option maxRecDepth 100000 in
set_option maxHeartbeats 2000000 in
theorem mseven_Runs (a : Option Addr) (len cap : Nat) (xs : List Int) (w : World) (hr : Reads .i32 w a len cap xs) (hN : len < 100000) :
    Calls Tryz.prog 9 #[.slice a len cap] w fun e w' => e = .returned (.int .i64 (mbRuns xs false)) ∧ Below w.heap.size w w' := by
  have hl := hr.len_le
  refine (callsIn_wide (n := 4)).1 ?_
  refine callsIn_of_wp_marks Tryz.func9 rfl trivial ?_ rfl
  simp only [Tryz.ntmps9, List.size_toArray, List.length_cons, List.length_nil, Nat.reduceAdd, Nat.reduceSub, Array.replicate_succ, Array.replicate_zero, List.push_toArray, List.append_toArray, List.nil_append, List.cons_append]
  gi_wp2_with (refine ⟨trivial, ?_⟩; gi_at_call 21; (with_reducible refine (mseven_runs _ _ _ _ _).mono ?_); rintro e w' ⟨rfl, rfl⟩)
  obtain ⟨b1, b2, hB0⟩ := two_boxes w 3 22 (.int .i64 0) (.slice a len cap)
  refine wpIn_rangeFunc_ownG rfl (by omega) (gf := 44) (lb := #[.pointer (some ⟨w.heap.size + 1, 0, none⟩)]) rfl trivial (enters_of Tryz.func44 (by kernel_rfl) rfl)
    (mruns_stops 3 (w.heap.size + 1) w.heap.size (by omega) a len cap xs w _ hr (Nat.le_refl _) hB0.size hB0 (by simp) b2) (fun h k => h.trans k) (belowK_b hB0.size) (Below.refl _ _) (fun _ => rfl)
    (fun pre W => Boxed W w.heap.size 3 (.int .i64 (cntS (pre.map Rn.val))) ∧ Below w.heap.size w W)
    (fun _ _ _ => False)
    (own_box (Nat.le_refl _) hB0.size _ _ (fun pre : List (Rn w len) => .int .i64 (cntS (pre.map Rn.val)))) (fun _ _ _ _ _ hs _ _ => hs)
    ⟨b1, hB0⟩
    (fun x => { tmps := #[.slice a len cap, undef, .int .i64 0, .pointer (some ⟨w.heap.size, 0, none⟩), undef, .slice x.a2 x.j x.c2, .slice a len cap, .func (.func 44) #[] #[.pointer (some ⟨w.heap.size + 1, 0, none⟩)], .slice x.a x.m x.c, .slice x.a2 x.j x.c2, undef, undef, undef, undef, undef, undef], defers := [] }) ?assign ?body ?done ?stop
  case assign =>
    intro l x W K hK
    dsimp only [Rn.enc]
    gi_wp2
    exact hK
  case body =>
    rintro l pre x W ⟨hv, hB⟩ hlt
    have hc := hv.cell
    have hf := hv.frozen
    have hle : cntS (pre.map Rn.val) ≤ pre.length := by
      unfold cntS
      have := List.countP_le_length (p := stR) (l := pre.map Rn.val)
      rwa [List.length_map] at this
    have hsn : Hid (cntS ((pre ++ [x]).map Rn.val) = cntS (pre.map Rn.val) + if 0 < x.j then 1 else 0) := by
      have h := cntS_snoc (pre.map Rn.val) x.val
      have h2 := x.hr.size
      unfold Rn.val at h
      dsimp only at h
      rw [h2] at h
      rw [Hid, List.map_append]
      exact h
    obtain ⟨C, hC⟩ : ∃ C, C = cntS (pre.map Rn.val) := ⟨_, rfl⟩
    rw [← hC] at hv hc hle hsn
    clear hC
    by_cases hj : 0 < x.j
    · rw [if_pos hj] at hsn
      gi_wp2
      have hv' := hv.set (.int .i64 (C + 1))
      exact ⟨(KeepsOthers.setCell _ _ _).from _, (Below.refl _ _).setCell (p := ⟨w.heap.size, 0, none⟩) (Nat.le_refl _) _, by rw [hsn.out]; simpa using hv', hB.setCell (p := ⟨w.heap.size, 0, none⟩) (Nat.le_refl _) _⟩
    · rw [if_neg hj] at hsn
      have hv2 : Boxed W w.heap.size 3 (.int .i64 (cntS ((pre ++ [x]).map Rn.val))) := by rw [hsn.out]; simpa using hv
      gi_wp2
      exact ⟨KeepsFrom.refl _ _, Below.refl _ _, hv2, hB⟩
  case done =>
    rintro D ys W hD hys ⟨hv, hB⟩ hK
    rw [hys.2] at hv
    have hc := hv.cell
    gi_wp2
    refine ⟨by simp, .inl ⟨_, _, rfl, run_takeDeferred hK, ?_⟩⟩
    exact ⟨_, results_tmp rfl _ _ _, rfl, hB.trans (belowK_b (w := w) (Nat.le_refl _) W D _ _ (by simp at hD; omega) hK rfl rfl)⟩
  case stop =>
    rintro D c pre W _ _ h _
    exact h.elim
theorem outS_len {w0 : World} {L : Nat} : ∀ pre : List (Rn w0 L), (outS (pre.map Rn.val)).length ≤ pre.length * (10 * L)
  | [] => by simp [outS]
  | x :: pre => by
    have ih := outS_len pre
    have hx := stL_len x.val
    have h1 : x.val.1.length = x.m := x.hp.size
    have h2 : x.val.2.length = x.j := x.hr.size
    have h3 := x.hl
    have e : outS ((x :: pre).map Rn.val) = stL x.val ++ outS (pre.map Rn.val) := by simp [outS]
    rw [e, List.length_append, List.length_cons, Nat.add_mul]
    omega
theorem outS_wf (P : List (List Int × List Int)) (h : ∀ p ∈ P, ∀ x ∈ p.1, mbPrt x = true) : ∀ y ∈ outS P, (Lit.int .u8 y).wf = true := by
  intro y hy
  obtain ⟨p, hp, hy⟩ := List.mem_flatMap.1 hy
  unfold stL at hy
  rcases List.mem_append.1 hy with hy | hy
  · obtain ⟨c, hc, hy⟩ := List.mem_flatMap.1 hy
    have := (mbPrt_iff c).1 (h p hp c hc)
    split at hy
    · simp at hy
      rcases hy with rfl | rfl <;> decide
    · simp at hy
      subst hy
      exact mk_u8 (by omega) (by omega)
  · exact layM_len8 _ y hy
set_option maxRecDepth 100000 in
set_option maxHeartbeats 4000000 in
theorem mseven_Lay (a : Option Addr) (len cap : Nat) (xs : List Int) (w : World) (hr : Reads .i32 w a len cap xs) (hN : len < 100000) :
    Calls Tryz.prog 6 #[.slice a len cap] w fun e w' => ∃ a' l' c', e = .returned (.tuple #[.slice a' l' c', .int .i64 (mbE xs)]) ∧ Reads .u8 w' a' l' c' (mbL xs) ∧ Below w.heap.size w w' := by
  have hl := hr.len_le
  have hS := scalar_Right a len cap xs w hr
  unfold mbL mbE
  cases hs : xs.all scB
  · rw [if_neg Bool.false_ne_true, if_neg Bool.false_ne_true]
    rw [hs] at hS
    refine (callsIn_wide (n := 4)).1 ?_
    refine callsIn_of_wp_marks Tryz.func6 rfl trivial ?_ rfl
    simp only [Tryz.ntmps6, List.size_toArray, List.length_cons, List.length_nil, Nat.reduceAdd, Nat.reduceSub, Array.replicate_succ, Array.replicate_zero, List.push_toArray, List.append_toArray, List.nil_append, List.cons_append]
    gi_wp2_with (refine ⟨trivial, ?_⟩; gi_at_call 20; (with_reducible refine (callsIn_wide.2 hS).mono ?_); rintro e w' ⟨rfl, rfl⟩)
    exact ⟨_, results_tmp2 rfl _ _ _, none, 0, 0, rfl, Reads.nil _ _ _ _ (Nat.zero_le _), Below.refl _ _⟩
  · rw [if_pos rfl, if_pos rfl]
    rw [hs] at hS
    have HLL := hid (fun pre : List (Rn w len) => outS_len pre)
    refine (callsIn_wide (n := 4)).1 ?_
    refine callsIn_of_wp_marks Tryz.func6 rfl trivial ?_ rfl
    simp only [Tryz.ntmps6, List.size_toArray, List.length_cons, List.length_nil, Nat.reduceAdd, Nat.reduceSub, Array.replicate_succ, Array.replicate_zero, List.push_toArray, List.append_toArray, List.nil_append, List.cons_append]
    gi_wp2_with (first
      | (refine ⟨trivial, ?_⟩; gi_at_call 20; (with_reducible refine (callsIn_wide.2 hS).mono ?_); rintro e w' ⟨rfl, rfl⟩)
      | (gi_at_make; refine wpListIn_make0 CT8 rfl _ _ rfl (w0 := w) rfl rfl (Below.refl _ _) (by omega) ?_; intro g w2 ho2 hb2)
      | (refine ⟨trivial, ?_⟩; gi_at_call 21; (with_reducible refine (mseven_runs _ _ _ _ _).mono ?_); rintro e w' ⟨rfl, rfl⟩))
    obtain ⟨b1, b2, hB0⟩ := two_boxes w2 24 22 (.slice (some ⟨g, 0, none⟩) 0 len) (.slice a len cap)
    have hB := below_then hb2 hB0
    have hw2 := hb2.size
    have ho3 : Own .u8 5 w.heap.size ((w2.alloc (.cells #[.slice (some ⟨g, 0, none⟩) 0 len] 24)).alloc (.cells #[.slice a len cap] 22)) (.slice (some ⟨g, 0, none⟩) 0 len) [] := ho2.below hB0
    refine wpIn_rangeFunc_ownG rfl (by omega) (gf := 44) (lb := #[.pointer (some ⟨w2.heap.size + 1, 0, none⟩)]) rfl trivial (enters_of Tryz.func44 (by kernel_rfl) rfl)
      (mruns_stops 3 (w2.heap.size + 1) w.heap.size (by omega) a len cap xs w _ hr (Nat.le_refl _) hB.size hB (by simp) b2) (fun h k => h.trans k) (belowK_b hB.size) (Below.refl _ _) (fun _ => rfl)
      (fun pre W => (∃ v, Boxed W w2.heap.size 24 v ∧ Row .u8 5 w.heap.size W v (outS (pre.map Rn.val))) ∧ Below w.heap.size w W)
      (fun _ _ _ => False)
      (OwnFrom.and (own_rowO _ _ _ _ _ _ (fun pre : List (Rn w len) => outS (pre.map Rn.val))) (ownFrom_below (Nat.le_refl _) hB.size)) (fun _ _ _ _ _ hs _ _ => hs)
      ⟨⟨_, b1, ho3.1⟩, hB⟩
      (fun x => { tmps := #[.slice a len cap, undef, .slice none 0 0, .int .i64 0, .pointer (some ⟨w2.heap.size, 0, none⟩), .slice x.a x.m x.c, .slice x.a2 x.j x.c2, .slice a len cap, .bool true, .bool false, .slice a len cap, .int .i64 len, .slice (some ⟨g, 0, none⟩) 0 len, .slice a len cap, .func (.func 44) #[] #[.pointer (some ⟨w2.heap.size + 1, 0, none⟩)], .slice x.a x.m x.c, .slice x.a2 x.j x.c2, undef, undef, undef, undef, undef, undef, undef], defers := [] }) ?assign ?body ?done ?stop
    case assign =>
      intro l x W K hK
      dsimp only [Rn.enc]
      gi_wp2
      exact hK
    case body =>
      rintro l pre x W ⟨⟨v, hv, hrow⟩, hB⟩ hlt
      have hlo := HLL.out pre
      have hmul : pre.length * (10 * len) ≤ 99999 * 999990 := Nat.mul_le_mul (by omega) (by omega)
      have hwf := outS_wf (pre.map Rn.val) (fun p hp => by
        obtain ⟨y, _, rfl⟩ := List.mem_map.1 hp
        exact y.ha)
      have hown := hrow.own hwf
      have hl1 := x.hl
      have HP := hid (mseven_putPlain (w0 := w) x.a x.m x.c x.p x.hp hB x.ha v _ hown (by omega) (by omega))
      have hpl := plP_len x.p
      rw [x.hp.size] at hpl
      have HQ := hid (fun W2 v2 (hB2 : Below w.heap.size w W2) (ho2 : Own .u8 5 w.heap.size W2 v2 (outS (pre.map Rn.val) ++ plP x.p)) => mseven_putRun (w0 := w) x.a2 x.j x.c2 x.r x.hr hB2 v2 _ ho2 (by rw [List.length_append]; omega) (by omega))
      have hOs := hid (show outS ((pre ++ [x]).map Rn.val) = outS (pre.map Rn.val) ++ plP x.p ++ mbClose x.r by
        rw [List.map_append, List.map_cons, List.map_nil, outS_snoc, List.append_assoc]; rfl)
      have hc := hv.cell
      clear hlo hmul hpl
      generalize outS (pre.map Rn.val) = O at *
      gi_wp2_with (first
        | (refine ⟨trivial, ?_⟩; gi_at_call 22; (with_reducible refine (CallsIn.inRound l (callsIn_wide.2 HP.out)).mono ?_); rintro e w3 ⟨a3, n3, c3, rfl, ho3, hg3⟩; (have hv3 := hv.kept hg3 (hv.not_row (by decide) hrow)); have f3 := hv3.frozen; have e3 := hv3.cell; have hb3 := hB.grown hg3 hB.size (fun j hj => (hown.1.lt j hj).1); have hv4 := hv3.set (.slice a3 n3 c3); have ho4 : Row .u8 5 w.heap.size (w3.setCell ⟨w2.heap.size, 0, none⟩ (.slice a3 n3 c3)) (.slice a3 n3 c3) (O ++ plP x.p) := (Row.set ho3.1 hv3 (by decide) _); have ho4' := ho4.own ho3.2; have hb4 := hb3.setCell (p := ⟨w2.heap.size, 0, none⟩) hw2 (.slice a3 n3 c3); have f4 := hv4.frozen; have e4 := hv4.cell)
        | (refine ⟨trivial, ?_⟩; gi_at_call 23; (with_reducible refine (CallsIn.inRound l (callsIn_wide.2 (HQ.out _ _ hb4 ho4'))).mono ?_); rintro e w5 ⟨a5, n5, c5, rfl, ho5, hg5⟩; (have hv5 := hv4.kept hg5 (hv4.not_row (by decide) ho4)); have f5 := hv5.frozen; have e5 := hv5.cell))
      have hk3 := KeepsOthers.of_grownBy hg3 (own_cells hown)
      have hk5 := KeepsOthers.of_grownBy hg5 (own_cells ho4')
      have hbW3 : Below w.heap.size W w3 := (Below.refl _ W).grown hg3 hB.size (fun j hj => (hown.1.lt j hj).1)
      have hbW4 := hbW3.setCell (p := ⟨w2.heap.size, 0, none⟩) hw2 (.slice a3 n3 c3)
      have hbW5 := (hbW4.grown hg5 (Nat.le_trans hB.size hbW4.size) (fun j hj => (ho4'.1.lt j hj).1)).setCell (p := ⟨w2.heap.size, 0, none⟩) hw2 (.slice a5 n5 c5)
      refine ⟨(((hk3.trans (KeepsOthers.setCell _ _ _)).trans hk5).trans (KeepsOthers.setCell _ _ _)).from _, hbW5, ⟨_, hv5.set _, ?_⟩, hB.trans hbW5⟩
      rw [hOs.out]
      exact Row.set ho5.1 hv5 (by decide) _
    case done =>
      rintro D ys W hD hys ⟨⟨v, hv, hrow⟩, hB⟩ hK
      rw [hys.1] at hrow
      have hwf : ∀ y ∈ mbLay xs [], (Lit.int .u8 y).wf = true := fun y hy => by
        have := (mbPrt_iff y).1 (List.all_eq_true.1 (mbLay_prt xs []) y hy)
        exact mk_u8 (by omega) (by omega)
      have hc := hv.cell
      gi_wp2
      refine ⟨by simp, .inl ⟨_, _, rfl, run_takeDeferred hK, ?_⟩⟩
      obtain ⟨a', cap', rfl, hrd⟩ := ((hrow.putObj (.deferred none) hK rfl).own hwf).reads
      exact ⟨_, results_tmp2 rfl _ _ _, a', _, cap', rfl, hrd, hB.trans (belowK_b (w := w) (Nat.le_refl _) W D _ _ (by simp at hD; omega) hK rfl rfl)⟩
    case stop =>
      rintro D c pre W _ _ h _
      exact h.elim
theorem outM_len {w0 : World} {L : Nat} : ∀ pre : List (Pm w0 L), (outM pre).length ≤ pre.length * (L + 1)
  | [] => by simp [outM]
  | x :: pre => by
    have ih := outM_len pre
    have hl := x.hl
    have hs := x.hr.size
    have hx : x.val.length ≤ L + 1 := by
      have h := mbA_len x.d
      unfold Pm.val pcm
      split
      · simp
      · omega
    have e : outM (x :: pre) = x.val ++ outM pre := by simp [outM]
    rw [e, List.length_append, List.length_cons, Nat.add_mul]
    omega
section
variable {F : Fence} {n : Nat} {P : Program} {ops : Array Oper} {rest : List Oper} {o : Oper} {a : Act} {K : Act → World → Prop} {Q : Exit → Act → World → Prop} {E : Prop} {t e : TypeId} {k : IntKind} {by_ : Nat}
/-- 'append(v, ys...)' where v lies in a box, as an operation of a region that draws its order. -/
theorem opIn_more1 (ST : SliceT P t e k by_) {s x : Operand} (ho : o.op = .call { callee := .builtin .append, args := #[s, x], argTypes := #[t, t] }) (hgd : o.guard = none)
    {W : World} {v : Value} {xs ys : List Int} {n₀ B : Nat} {ad : Option Addr} {m c : Nat} (hs : a.eval s = v) (hx : a.eval x = .slice ad m c)
    (hv : Boxed W B t v) (hte : t ≠ e) (hown : Row k e n₀ W v xs) (hn₀ : n₀ ≤ W.heap.size) (hB : n₀ ≤ B) (hr : Reads k W ad m c ys) (hlen : xs.length + m < 1000000000000)
    (h : ∀ a' l' c' w1, More1 t e k n₀ B W w1 v (.slice a' l' c') (xs ++ ys) → K (a.put o.dst (.slice a' l' c')) w1) :
    if Region.wanted o (yielded ops a.tmps) = true then Oper.wpIn F n P o a W K Q else E := by
  have hw : Region.wanted o (yielded ops a.tmps) = true := by simp [Region.wanted, hgd]
  rw [if_pos hw]
  obtain ⟨v', w1, hrun, hp⟩ := run_more1 (P := P) ST o.type hv hte hown hn₀ hB hr hlen
  unfold Oper.wpIn
  refine ⟨?_, ?_⟩
  · simp [Oper.about, ho, resolve, Target.leads, Sem.run_pure]
  · rw [Oper.semAt_plain F _ _ (by rw [ho]; intro c hc'; cases hc')]
    simp [execOp, ho, resolve, invoke, builtin, hs, hx, hrun, Result.andThen]
    obtain ⟨a', c', rfl⟩ := hp.own.shape
    exact h _ _ _ _ hp
end
set_option maxRecDepth 100000 in
set_option maxHeartbeats 4000000 in
theorem mseven_Read (a : Option Addr) (len cap : Nat) (xs : List Int) (w : World) (hr : Reads .u8 w a len cap xs) (hN : len < 90000) :
    Calls Tryz.prog 19 #[.slice a len cap] w fun e w' => ∃ a' l' c', e = .returned (.slice a' l' c') ∧ Reads .i32 w' a' l' c' (mbRd xs) ∧ Below w.heap.size w w' := by
  have hl := hr.len_le
  have HLL := hid (fun pre : List (Pm w len) => outM_len pre)
  refine (callsIn_wide (n := 4)).1 ?_
  refine callsIn_of_wp_marks Tryz.func19 rfl trivial ?_ rfl
  simp only [Tryz.ntmps19, List.size_toArray, List.length_cons, List.length_nil, Nat.reduceAdd, Nat.reduceSub, Array.replicate_succ, Array.replicate_zero, List.push_toArray, List.append_toArray, List.nil_append, List.cons_append]
  gi_wp2_with (refine ⟨trivial, ?_⟩; gi_at_call 41; (with_reducible refine (mseven_pieces _ _ _ _ _).mono ?_); rintro e w' ⟨rfl, rfl⟩)
  obtain ⟨b1, b2, hB0⟩ := two_boxes w 22 24 (.slice none 0 0) (.slice a len cap)
  refine wpIn_rangeFunc_ownG rfl (by omega) (gf := 68) (lb := #[.pointer (some ⟨w.heap.size + 1, 0, none⟩)]) rfl trivial (enters_of Tryz.func68 (by kernel_rfl) rfl)
    (mpieces_stops 3 (w.heap.size + 1) w.heap.size (by omega) a len cap xs w _ hr (Nat.le_refl _) hB0.size hB0 (by simp) b2) (fun h k => h.trans k) (belowK_b hB0.size) (Below.refl _ _) (fun _ => rfl)
    (fun pre W => (∃ v, Boxed W w.heap.size 22 v ∧ Row .i32 21 w.heap.size W v (outM pre)) ∧ Below w.heap.size w W)
    (fun _ _ _ => False)
    (OwnFrom.and (own_rowO _ _ _ _ _ _ (fun pre : List (Pm w len) => outM pre)) (ownFrom_below (Nat.le_refl _) hB0.size)) (fun _ _ _ _ _ hs _ _ => hs)
    ⟨⟨_, b1, World.ownsRow_nil _ _ _ _⟩, hB0⟩
    (fun x => { tmps := #[.slice a len cap, undef, .slice none 0 0, .pointer (some ⟨w.heap.size, 0, none⟩), .slice x.a x.m x.c, .int .i32 x.s, .slice a len cap, .func (.func 68) #[] #[.pointer (some ⟨w.heap.size + 1, 0, none⟩)], .slice x.a x.m x.c, .int .i32 x.s, undef, undef, undef, undef, undef, undef, undef, undef, undef, undef, undef, undef], defers := [] }) ?assign ?body ?done ?stop
  case assign =>
    intro l x W K hK
    dsimp only [Pm.enc]
    gi_wp2
    exact hK
  case body =>
    rintro l pre x W ⟨⟨v, hv, hrow⟩, hB⟩ hlt
    have hlo := HLL.out pre
    have hmul : pre.length * (len + 1) ≤ 90000 * 90000 := Nat.mul_le_mul (by omega) (by omega)
    have hc := hv.cell
    have hsx := x.hr.size
    have hOs := hid (show outM (pre ++ [x]) = outM pre ++ x.val from outM_snoc _ _)
    by_cases hm : 0 < x.m
    · have hne : x.d ≠ [] := fun h => by rw [h, List.length_nil] at hsx; omega
      have hval : x.val = mbA x.d := by unfold Pm.val pcm; rw [if_neg hne]
      rw [hval] at hOs
      have hlx := x.hl
      have HS := hid (fun W2 (hb2 : Below w.heap.size w W2) => mseven_signs x.a x.m x.c x.d W2 (x.hr.below hb2) (by omega) x.hd hm)
      have hAl := mbA_len x.d
      rw [hsx] at hAl
      have HAL := hid hAl
      clear hval hAl hne
      gi_wp2_with fail
      refine wpIn_region_any (by kernel_rfl) ?_
      change wpAnyIn _ _ _ _ _ _ 5 _ _ (World.drew _)
      have q1 : W.drew.cell? ⟨w.heap.size, 0, none⟩ = some v := hc
      have hBd := below_drew hB
      repeat' (first
        | exact AllReadyIn.nil
        | with_reducible refine wpAnyIn_ready (rs := [0, 1]) (by decide +kernel) (by simp) ?_
        | with_reducible refine wpAnyIn_ready (rs := [0, 2]) (by decide +kernel) (by simp) ?_
        | with_reducible refine wpAnyIn_ready (rs := [0]) (by decide +kernel) (by simp) ?_
        | with_reducible refine wpAnyIn_ready (rs := [1]) (by decide +kernel) (by simp) ?_
        | with_reducible refine wpAnyIn_ready (rs := [2]) (by decide +kernel) (by simp) ?_
        | with_reducible refine wpAnyIn_ready (rs := [3]) (by decide +kernel) (by simp) ?_
        | with_reducible refine wpAnyIn_ready (rs := [4]) (by decide +kernel) (by simp) ?_
        | ((with_reducible change AllReadyIn _ _ _ _ _ _ _ _ _ _ _); apply ready_cons; exact rfl; intro K hK)
        | (refine opIn_more1 CTR rfl rfl rfl rfl hv3 (by decide) hrow3 hn3 (Nat.le_refl _) r3 (by have := HAL.out; have := r3.size; omega) ?_; intro a4 l4 c4 w4 hp4; have f4 := hp4.box.frozen; have e4 := hp4.box.cell; refine hK _ _ ?_; clear hK K)
        | (go_simp; refine ⟨trivial, ?_⟩; (with_reducible refine (CallsIn.inRound l (callsIn_wide.2 (HS.out _ hBd))).mono ?_); rintro e w3 ⟨a3, l3, c3, rfl, r3, hb3⟩; have hv3 : Boxed w3 w.heap.size 22 v := Boxed.below (W := W.drew) hv hb3; have q3 := hv3.cell; have hrow3 : Row .i32 21 w.heap.size w3 v (outM pre) := Row.below (w := W.drew) hrow hb3; have hb3' := below_then hBd hb3; have hn3 := hb3'.size; refine hK _ _ ?_; clear hK K)
        | (go_simp; refine hK _ _ ?_; clear hK K)
        | with_reducible refine wpAnyIn_done (by decide +kernel) ?_ _)
      all_goals
        have hbd : Below w.heap.size W W.drew := below_drew (Below.refl _ W)
        have hb3w : Below w.heap.size W.drew w3 := hb3.mono hB.size
        have hbW := (hbd.trans hb3w).trans hp4.below
        have hk0 : KeepsOthers W W.drew := keeps_below (below_drew (Below.refl _ W))
        exact ⟨((hk0.trans (keeps_below hb3)).trans hp4.keeps).from _, hbW, ⟨_, hp4.put, by rw [hOs.out]; exact hp4.own⟩, hB.trans hbW⟩
    · have hd : x.d = [] := List.eq_nil_of_length_eq_zero (by omega)
      have hval : x.val = [x.s] := by unfold Pm.val pcm; rw [if_pos hd]
      rw [hval] at hOs
      have h0 := x.h0
      have h1 := x.h1
      clear hval hd hsx
      gi_wp2_with (gi_at_builtin; refine wpListIn_push1 CTR rfl _ _ rfl rfl ⟨_, rfl⟩ hv (by decide) hrow hB.size (Nat.le_refl _) (by omega) ?_; intro g' cap' w3 hp; have hc1 := hp.box.cell; have hf1 := hp.box.frozen)
      exact ⟨hp.keeps.from _, hp.below, ⟨_, hp.put, by rw [hOs.out]; exact hp.own⟩, hB.trans hp.below⟩
  case done =>
    rintro D ys W hD hys ⟨⟨v, hv, hrow⟩, hB⟩ hK
    rw [hys] at hrow
    have hc := hv.cell
    gi_wp2
    refine ⟨by simp, .inl ⟨_, _, rfl, run_takeDeferred hK, ?_⟩⟩
    obtain ⟨a', cap', rfl, hrd⟩ := ((hrow.putObj (.deferred none) hK rfl).own (mbRd_wf xs)).reads
    exact ⟨_, results_tmp rfl _ _ _, a', _, cap', rfl, hrd, hB.trans (belowK_b (w := w) (Nat.le_refl _) W D _ _ (by simp at hD; omega) hK rfl rfl)⟩
  case stop =>
    rintro D c pre W _ _ h _
    exact h.elim
end Go.Proofs.YtfnolkkmldiimaaGreatDoor
