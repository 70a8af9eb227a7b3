/-
  Texts of ours laid together: C23d, C24c.
-/
import Derived.Test.YtiacijodoojgoaaDoorZ23

/-! C23d -/
namespace Go.Proofs.YtiacijodoojgoaaDoor
open Go.RowKit Go.Shelf
set_option linter.unusedVariables false
attribute [local go_sem] Oper.semAt_some

/-- What some pieces are read as; are all right; how many are runs? -/
def outP (P : List (List Int × Bool × Bool)) : List Int := P.flatMap Prod.fst
def okP (P : List (List Int × Bool × Bool)) : Bool := P.all fun p => p.2.1
def rnP (P : List (List Int × Bool × Bool)) : Nat := P.countP fun p => p.2.2
theorem outP_snoc (P : List (List Int × Bool × Bool)) (p : List Int × Bool × Bool) : outP (P ++ [p]) = outP P ++ p.1 := by simp [outP]
theorem okP_snoc (P : List (List Int × Bool × Bool)) (p : List Int × Bool × Bool) : okP (P ++ [p]) = (okP P && p.2.1) := by simp [okP]
theorem rnP_snoc (P : List (List Int × Bool × Bool)) (p : List Int × Bool × Bool) : rnP (P ++ [p]) = rnP P + if p.2.2 = true then 1 else 0 := by
  unfold rnP
  rw [List.countP_append]
  simp [List.countP_cons]
theorem Pc.sgn_len {w0 : World} {L : Nat} (x : Pc w0 L) : x.val.1.length ≤ L + 1 := by
  have h := x.hr.size
  have h2 := x.hl
  unfold Pc.val pcv
  split
  · simp
  · have h3 := runT_len x.d
    have h4 := lftT_len x.d
    simp only [List.length_append]
    omega
theorem outP_len {w0 : World} {L : Nat} : ∀ pre : List (Pc w0 L), (outP (pre.map Pc.val)).length ≤ pre.length * (L + 1)
  | [] => by simp [outP]
  | x :: pre => by
    have ih := outP_len pre
    have hx := x.sgn_len
    have e : outP ((x :: pre).map Pc.val) = x.val.1 ++ outP (pre.map Pc.val) := by simp [outP]
    rw [e, List.length_append, List.length_cons, Nat.add_mul]
    omega
theorem blk_own {β : Type} (D B : Nat) (t : TypeId) (vs : Array Value) : OwnFrom D (fun (_ : β) W => Blk W B t vs) := fun s X Y row hs hg hrow =>
  hs.kept hg (fun e' => by obtain ⟨o, ho, hc⟩ := (hrow B e'.symm).2; rw [show X.heap[B]? = _ from hs] at ho; cases ho; cases hc)

theorem pcv_run (d : List Int) (s : Int) (r : Bool) : (pcv d s r).2.2 = decide (0 < d.length) := by
  unfold pcv
  cases d <;> simp
theorem pcv_wf (d : List Int) (s : Int) (r : Bool) (h0 : 0 ≤ s) (h1 : s ≤ 65533) : ∀ y ∈ (pcv d s r).1, (Lit.int .i32 y).wf = true := by
  unfold pcv
  split
  · intro y hy
    simp only [List.mem_singleton] at hy
    subst hy
    exact mk_r (by omega) (by omega)
  · intro y hy
    rcases List.mem_append.1 hy with h | h
    · exact runT_wf d y h
    · unfold lftT at h
      split at h
      · simp only [List.mem_singleton] at h
        subst h
        decide
      · cases h
theorem outP_wf {w0 : World} {L : Nat} (pre : List (Pc w0 L)) : ∀ y ∈ outP (pre.map Pc.val), (Lit.int .i32 y).wf = true := by
  intro y hy
  obtain ⟨p, hp, hy⟩ := List.mem_flatMap.1 hy
  obtain ⟨x, _, rfl⟩ := List.mem_map.1 hp
  exact pcv_wf _ _ _ x.h0 x.h1 y hy
theorem own_cells {k : IntKind} {e : TypeId} {base : Nat} {w : World} {v : Value} {xs : List Int} (h : Own k e base w v xs) : ∀ (j : Nat) (o : Obj), v.ownBlock = some j → w.heap[j]? = some o → o.isCells = true := by
  intro j o hj ho
  rcases h.1.2 with ⟨rfl, _⟩ | ⟨g, cap, cur, rfl, _, hgb, _⟩
  · cases hj
  · obtain rfl : g = j := by simpa [Value.ownBlock] using hj
    rw [hgb] at ho
    cases ho
    rfl
set_option maxRecDepth 100000 in
set_option maxHeartbeats 4000000 in
theorem sread_text (a : Option Addr) (len cap : Nat) (xs : List Int) (w : World) (hr : Reads .u8 w a len cap xs) (hN : len < 100000) :
    Calls Tryd.prog 60 #[.func (.func 61) #[.slice a len cap] #[]] w fun e w' => ∃ v, e = .returned (.tuple #[v, .bool (ok7 xs)]) ∧ Own .i32 21 w.heap.size w' v (rd7 xs) ∧ Below w.heap.size w w' := by
  have hl := hr.len_le
  have hsz := hr.size
  have HLL := hid (fun pre : List (Pc w len) => outP_len pre)
  refine (callsIn_wide (n := 4)).1 ?_
  refine callsIn_of_wp_marks Tryd.func60 rfl trivial ?_ rfl
  simp only [Tryd.ntmps60, List.size_toArray, List.length_cons, List.length_nil, Nat.reduceAdd, Nat.reduceSub, Array.replicate_succ, Array.replicate_zero, List.push_toArray, List.append_toArray, List.nil_append, List.cons_append]
  gi_wp2_with fail
  obtain ⟨b1, b2, hB0⟩ := two_boxes w 30 4 (.slice none 0 0) (.bool true)
  refine wpIn_rangeRecv (α := Pc w len) rfl (by omega) (gf := 61) (rv := #[.slice a len cap]) rfl trivial (enters_of Tryd.func61 (by kernel_rfl) rfl)
    (pieces_gives 3 w.heap.size (by omega) a len cap xs w _ hr (by omega) (Nat.le_refl _) hB0.size hB0) hB0.size (Below.refl _ _) (fun _ => rfl)
    (fun pre W => (∃ v, Boxed W w.heap.size 30 v ∧ Row .i32 21 w.heap.size W v (outP (pre.map Pc.val))) ∧ Boxed W (w.heap.size + 1) 4 (.bool (okP (pre.map Pc.val))) ∧ Below w.heap.size w W)
    (OwnFrom.and (own_rowO _ _ _ _ _ _ (fun pre : List (Pc w len) => outP (pre.map Pc.val))) (OwnFrom.and (Go.Own.from (boxed_own _ _ (fun pre : List (Pc w len) => .bool (okP (pre.map Pc.val)))) _) (ownFrom_below (Nat.le_refl _) hB0.size)))
    ⟨⟨_, b1, World.ownsRow_nil _ _ _ _⟩, b2, hB0⟩
    (fun x a' W => ∃ Bx, w.heap.size + 2 ≤ Bx ∧ Blk W Bx 94 #[.slice x.a x.m x.c, .int .i32 x.s, .bool x.r] ∧ a' = { tmps := #[.func (.func 61) #[.slice a len cap] #[], undef, .slice none 0 0, .bool false, .pointer (some ⟨w.heap.size, 0, none⟩), .pointer (some ⟨w.heap.size + 1, 0, none⟩), .pointer (some ⟨Bx, 0, none⟩), undef, .func (.func 61) #[.slice a len cap] #[], .agg #[.slice x.a x.m x.c, .int .i32 x.s, .bool x.r], undef, undef, undef, undef, undef, undef, undef, undef, undef, undef, undef, undef], defers := [] })
    (fun x a' s A B row h hg hrow => by
      obtain ⟨Bx, h1, h2, h3⟩ := h
      exact ⟨Bx, h1, blk_own _ _ _ _ s A B row h2 hg hrow, h3⟩)
    ?assign ?body ?done
  case assign =>
    rintro l pre x W K ⟨⟨v, hv, hrow⟩, hok, hB⟩ hlen hK
    simp only [Pc.enc]
    have hlt := hok.lt
    gi_wp2
    exact hK _ _ ((KeepsOthers.alloc _ _).from _) ((Below.refl _ W).alloc hB.size _) ⟨⟨v, hv.alloc _, World.ownsRow.alloc hrow _⟩, hok.alloc _, hB.alloc hB.size _⟩ ⟨W.heap.size, by omega, Blk.new W _ _, rfl⟩
  case body =>
    rintro l pre x a' W ⟨⟨v, hv, hrow⟩, hok, hB⟩ ⟨Bx, hBx, hbx, rfl⟩ hlt
    have hlo := HLL.out pre
    have hmul : pre.length * (len + 1) + (len + 1) ≤ len * (len + 1) := by
      have h := Nat.mul_le_mul_right (len + 1) (show pre.length + 1 ≤ len by omega)
      rw [Nat.add_mul] at h
      omega
    have hsq : len * (len + 1) ≤ 99999 * 100000 := Nat.mul_le_mul (by omega) (by omega)
    have hown := hrow.own (outP_wf pre)
    have HP := hid (piece_put (B0 := w.heap.size) hB.size x.a x.m x.c x.d x.s x.r v _ x.h0 x.h1 x.hd (x.hr.below hB) hown (by omega) (by have := x.hl; omega))
    have hOs := hid (show outP (pre.map Pc.val ++ [x.val]) = outP (pre.map Pc.val) ++ (pcv x.d x.s x.r).1 from outP_snoc _ _)
    have hKs := hid (show okP (pre.map Pc.val ++ [x.val]) = (okP (pre.map Pc.val) && (pcv x.d x.s x.r).2.1) from okP_snoc _ _)
    generalize (pcv x.d x.s x.r).2.1 = R at *
    generalize (pcv x.d x.s x.r).1 = T at *
    have d0 := hbx.cell (i := 0) rfl
    have d1 := hbx.cell (i := 1) rfl
    have d2 := hbx.cell (i := 2) rfl
    have hc := hv.cell
    clear hlo hmul hsq
    gi_wp2_with (refine ⟨trivial, ?_⟩; gi_at_call 75; (with_reducible refine (CallsIn.inRound l (callsIn_wide.2 HP.out)).mono ?_); rintro e w3 ⟨a3, n3, c3, rfl, ho3, hg3⟩; (have hv3 := hv.kept hg3 (hv.not_row (by decide) hrow)); (have hk3 := hok.kept hg3 (hok.not_row (by decide) hrow)); have f3 := hv3.frozen; have e3 := hv3.cell; have g3 := hk3.frozen; have h3 := hk3.cell)
    all_goals
      have hk := KeepsOthers.of_grownBy hg3 (own_cells hown)
      have hb3 : Below w.heap.size W w3 := (Below.refl _ W).grown hg3 hB.size (fun j hj => (hown.1.lt j hj).1)
      have hk4 := hk3.other (show w.heap.size + 1 ≠ w.heap.size by omega) (.slice a3 n3 c3)
      have ho4 : Row .i32 21 w.heap.size (w3.setCell ⟨w.heap.size, 0, none⟩ (.slice a3 n3 c3)) (.slice a3 n3 c3) (outP (pre.map Pc.val) ++ T) := Row.set ho3.1 hv3 (by decide) _
      refine ⟨((hk.trans (KeepsOthers.setCell _ _ _)).trans (KeepsOthers.setCell _ _ _)).from _, (hb3.setCell (p := ⟨w.heap.size, 0, none⟩) (Nat.le_refl _) _).setCell (p := ⟨w.heap.size + 1, 0, none⟩) (Nat.le_succ _) _, ⟨_, (hv3.set _).other (show w.heap.size ≠ w.heap.size + 1 by omega) _, ?_⟩, ?_, hB.trans ((hb3.setCell (p := ⟨w.heap.size, 0, none⟩) (Nat.le_refl _) _).setCell (p := ⟨w.heap.size + 1, 0, none⟩) (Nat.le_succ _) _)⟩
      · rw [hOs.out]
        exact ho4.set hk4 (by decide) _
      · rw [hKs.out]
        simp_all only [Bool.true_and, Bool.false_and, Bool.not_eq_true]
        exact hk4.set _
  case done =>
    rintro D ys W hD hys ⟨⟨v, hv, hrow⟩, hok, hB⟩ hK
    rw [hys] at hrow hok
    have hwf := outP_wf ys
    rw [hys] at hwf
    have hO := hid ((Row.putObj hrow (.deferred none) hK rfl).own hwf)
    have hc := hv.cell
    have hc2 := hok.cell
    clear hwf
    have q1 : W.drew.cell? ⟨w.heap.size, 0, none⟩ = some v := hc
    have q2 : W.drew.cell? ⟨w.heap.size + 1, 0, none⟩ = some (.bool (okP (seg7 xs))) := hc2
    gi_wp2_with fail
    refine wpIn_mono (Q := fun e a' w' => e = .normal ∧ a' = { tmps := #[.func (.func 61) #[.slice a len cap] #[], undef, v, .bool (okP (seg7 xs)), .pointer (some ⟨w.heap.size, 0, none⟩), .pointer (some ⟨w.heap.size + 1, 0, none⟩), undef, undef, .func (.func 61) #[.slice a len cap] #[], undef, undef, undef, undef, undef, undef, undef, undef, undef, undef, undef, v, .bool (okP (seg7 xs))], defers := [{ target := .collected D, args := #[] }] } ∧ w' = W.drew) ?_ ?_
    · refine wpIn_region_any (by kernel_rfl) ?_
      change wpAnyIn _ _ _ _ _ _ 4 _ _ (World.drew _)
      repeat' (first
        | exact AllReadyIn.nil
        | with_reducible refine wpAnyIn_ready (rs := [0, 1]) (by decide +kernel) (by simp) ?_
        | with_reducible refine wpAnyIn_ready (rs := [1, 2]) (by decide +kernel) (by simp) ?_
        | with_reducible refine wpAnyIn_ready (rs := [0, 2]) (by decide +kernel) (by simp) ?_
        | with_reducible refine wpAnyIn_ready (rs := [0]) (by decide +kernel) (by simp) ?_
        | with_reducible refine wpAnyIn_ready (rs := [1]) (by decide +kernel) (by simp) ?_
        | with_reducible refine wpAnyIn_ready (rs := [2]) (by decide +kernel) (by simp) ?_
        | with_reducible refine wpAnyIn_ready (rs := [3]) (by decide +kernel) (by simp) ?_
        | ((with_reducible change AllReadyIn _ _ _ _ _ _ _ _ _ _ _); apply ready_cons; exact rfl; intro K hK)
        | (go_simp; refine hK _ _ ?_; clear hK K)
        | with_reducible refine wpAnyIn_done (by decide +kernel) ?_ _)
      all_goals exact ⟨rfl, rfl, rfl⟩
    · rename_i K1 hK1
      rintro e a1 w1 ⟨rfl, rfl, rfl⟩
      refine hK1 _ _ ?_
      gi_wp2_with fail
      refine ⟨by simp, .inl ⟨_, _, rfl, run_takeDeferred (show W.drew.heap[D]? = _ from hK), ?_⟩⟩
      refine ⟨.tuple #[v, .bool (okP (seg7 xs))], by simp [results, Tryd.f60, go_sem], v, rfl, hO.out.below (below_drew (Below.refl _ _)), (below_drew hB).trans (belowK_b (w := w) (Nat.le_refl _) W.drew D _ _ (by simp at hD; omega) (show W.drew.heap[D]? = _ from hK) rfl rfl)⟩
set_option maxHeartbeats 1000000 in
theorem sread_Read (a : Option Addr) (len cap : Nat) (xs : List Int) (w : World) (hr : Reads .u8 w a len cap xs) (hN : len < 100000) :
    Calls Tryd.prog 43 #[.slice a len cap] w fun e w' => ∃ a' c', e = .returned (.slice a' (rd7 xs).length c') ∧ Reads .i32 w' a' (rd7 xs).length c' (rd7 xs) ∧ Below w.heap.size w w' := by
  have HT := hid (sread_text a len cap xs w hr hN)
  generalize ok7 xs = K at *
  clear hr
  go_enter Tryd.func43, Tryd.ntmps43
  go_wp2_with (go_at_call 60; (with_reducible refine HT.out.mono ?_); rintro e w1 ⟨v1, rfl, ho1, hb1⟩; (obtain ⟨a1, c1, rfl, hr1⟩ := ho1.reads))
  go_ret
  exact ⟨_, _, rfl, hr1, hb1⟩
/-- What is read strictly. -/
def rd7S (xs : List Int) : List Int := if ok7 xs = true then rd7 xs else []
end Go.Proofs.YtiacijodoojgoaaDoor

/-! C24c -/
namespace Go.Proofs.YtiacijodoojgoaaDoor
open Go.RowKit Go.Shelf
set_option linter.unusedVariables false
attribute [local go_sem] Oper.semAt_some

theorem own_litM (k : IntKind) (e : TypeId) (w : World) (xs : List Int) (hm : xs.length ≤ maxLen) (hwf : ∀ x ∈ xs, (Lit.int k x).wf = true) :
    Own k e w.heap.size (w.alloc (.cells (xs.map (Value.int k)).toArray e)) (.slice (some ⟨w.heap.size, 0, none⟩) xs.length xs.length) xs := by
  refine ⟨⟨by simp, .inr ⟨w.heap.size, xs.length, (xs.map (Value.int k)).toArray, rfl, Nat.le_refl _, heap_alloc_new w _, Nat.le_refl _, hm, by simp, ?_⟩⟩, hwf⟩
  rw [List.toList_toArray, Nat.mul_one]
  exact List.take_of_length_le (by simp)
theorem ocU_len2 : ∀ u : List Int, (ocU u).length = 2 * u.length := by
  intro u
  induction u with
  | nil => rfl
  | cons x u ih => simp [ocU] at *; omega
theorem own_readsE {k : IntKind} {e : TypeId} {base : Nat} {w : World} {v : Value} {xs : List Int} (h : Own k e base w v xs) : ∃ a n c, v = .slice a n c ∧ Reads k w a n c xs := by
  obtain ⟨a, c, rfl, r⟩ := h.reads
  exact ⟨_, _, _, rfl, r⟩
theorem row_next {r r' row : Option Nat} {n m : Nat} (h : r' = r ∨ r' = some m) (hr : r = row ∨ ∃ j, r = some j ∧ n ≤ j) (hm : n ≤ m) : r' = row ∨ ∃ j, r' = some j ∧ n ≤ j := by
  rcases h with rfl | h
  · exact hr
  · exact .inr ⟨m, h, hm⟩
set_option maxHeartbeats 1000000 in
theorem mseven_Run (a : Option Addr) (len cap : Nat) (xs : List Int) (w : World) (hr : Reads .u8 w a len cap xs) (hN : len < 100000) :
    Calls Tryd.prog 69 #[.slice a len cap] w fun e w' => ∃ a' l' c', e = .returned (.tuple #[.slice a' l' c', .bool (mbK xs)]) ∧ Reads .i32 w' a' l' c' (mbT xs) ∧ Below w.heap.size w w' := by
  have HC := hid (has_notM a len cap xs w hr)
  have hall : xs.any notM = !xs.all isM := by
    have e : notM = fun x => !isM x := rfl
    rw [e]
    simp [List.all_eq_not_any_not]
  unfold mbK mbT
  cases hs : xs.all isM
  · rw [hall, hs] at HC
    rw [if_neg Bool.false_ne_true]
    clear hr hall hs
    go_enter Tryd.func69, Tryd.ntmps69
    go_wp2_with (go_at_call 79; (with_reducible refine HC.out.mono ?_); rintro e w' ⟨rfl, rfl⟩)
    go_ret2
    exact ⟨none, 0, 0, rfl, Reads.nil _ _ _ _ (Nat.zero_le _), Below.refl _ _⟩
  · rw [hall, hs] at HC
    rw [if_pos rfl, Bool.true_and]
    have HU := hid (bmod_Usual a len cap xs w hr (by omega))
    have hsz := hr.size
    have hxl := mbX_len xs
    unfold mbX at hxl ⊢
    have HR := hid (fun a2 l2 c2 W (h : Reads .u8 W a2 l2 c2 (turnL 44 47 xs)) => sread_Run a2 l2 c2 (turnL 44 47 xs) W h (by have := h.size; omega))
    clear hr hall hs
    generalize runOk (turnL 44 47 xs) = K at *
    go_enter Tryd.func69, Tryd.ntmps69
    go_wp2_with (first
      | (go_at_call 79; (with_reducible refine HC.out.mono ?_); rintro e w' ⟨rfl, rfl⟩)
      | (go_at_call 44; (with_reducible refine HU.out.mono ?_); rintro e w1 ⟨a1, l1, c1, rfl, r1, hb1⟩)
      | (go_at_call 80; (with_reducible refine (HR.out _ _ _ _ r1).mono ?_); rintro e w2 ⟨v2, rfl, ho2, hb2⟩; (obtain ⟨a2, c2, rfl, r2⟩ := ho2.reads)))
    go_ret2
    exact ⟨_, _, _, rfl, r2, below_then hb1 hb2⟩
set_option maxHeartbeats 1000000 in
theorem mseven_signs (a : Option Addr) (len cap : Nat) (d : List Int) (w : World) (hr : Reads .u8 w a len cap d) (hN : len < 90000) (hd : d.all isM = true) (hp : 0 < len) :
    Calls Tryd.prog 30 #[.slice a len cap] w fun e w' => ∃ a' l' c', e = .returned (.slice a' l' c') ∧ Reads .i32 w' a' l' c' (mbA d) ∧ Below w.heap.size w w' := by
  have hsz := hr.size
  have hne : d ≠ [] := fun h => by rw [h, List.length_nil] at hsz; omega
  have hA := mbA_rd7 hd hne
  rw [hA]
  have hal := (Below.refl w.heap.size w).alloc (Nat.le_refl _) (.cells #[.int .u8 43] 5)
  have hO0 : Hid (Own .u8 5 w.heap.size (w.alloc (.cells #[.int .u8 43] 5)) (.slice (some ⟨w.heap.size, 0, none⟩) 1 1) [43]) := own_litM .u8 5 w [43] (by decide) (by decide)
  have HU := hid (bmod_Usual a len cap d (w.alloc (.cells #[.int .u8 43] 5)) (hr.below hal) (by omega))
  have hxl := hid (show (turnL 44 47 d).length < 90000 by have := mbX_len d; unfold mbX at this; omega)
  have HAL := hid hal
  unfold mbX
  have HR := hid (fun a2 l2 c2 W (h : Reads .u8 W a2 l2 c2 ([43] ++ turnL 44 47 d)) => sread_Read a2 l2 c2 (43 :: turnL 44 47 d) W h (by have := h.size; have := hxl.out; simp only [List.length_append, List.length_cons, List.length_nil] at *; omega))
  generalize rd7 (43 :: turnL 44 47 d) = T at *
  clear hr hne hA hd hal hsz
  go_enter Tryd.func30, Tryd.ntmps30
  go_wp2_with (first
    | (go_at_call 44; (with_reducible refine HU.out.mono ?_); rintro e w1 ⟨a1, l1, c1, rfl, r1, hb1⟩; have hO1 := hO0.out.below hb1; have hb01 := below_then HAL.out hb1; have hl1 : l1 ≤ 90000 := (by have := r1.size; have := hxl.out; omega))
    | (at_builtin; go_must (refine wpList_more (v := .slice (some ⟨w.heap.size, 0, none⟩) 1 1) (xs := [43]) (ao := a1) (m := l1) (c := c1) CT8 rfl _ _ rfl (w0 := w) rfl rfl hO1 hb01 r1 (by simp; omega) ?_); intro v3 w3 ho3 hb3; (obtain ⟨a3, n3, c3, rfl, r3⟩ := own_readsE ho3))
    | (go_at_call 43; (with_reducible refine (HR.out _ _ _ _ r3).mono ?_); rintro e w4 ⟨a4, c4, rfl, r4, hb4⟩))
  go_ret
  exact ⟨_, _, _, rfl, r4, below_then hb3 hb4⟩
end Go.Proofs.YtiacijodoojgoaaDoor
