/-
  Texts of ours laid together: C23d, R03, Alive23, C01k, StrB, Suf, C14b, C14c, C14d, C22a, C22, C23e.
-/
import Derived.Test.YtobjdamlmaaidaaDoorRows
import Derived.Deep.CutBlock
import Derived.Lib.Bytealg
import Derived.Test.YtobjdamlmaaidaaDoorZ4

/-! C23d -/
namespace Go.Proofs.YtobjdamlmaaidaaDoor
open Go.RowKit Go.Shelf
set_option linter.unusedVariables false
attribute [local go_sem] Oper.semAt_some

/-- What some pieces are read as; are all right; how many are runs? -/
def outP (P : List (List Int × Bool × Bool)) : List Int := P.flatMap Prod.fst
def okP (P : List (List Int × Bool × Bool)) : Bool := P.all fun p => p.2.1
def rnP (P : List (List Int × Bool × Bool)) : Nat := P.countP fun p => p.2.2
theorem outP_snoc (P : List (List Int × Bool × Bool)) (p : List Int × Bool × Bool) : outP (P ++ [p]) = outP P ++ p.1 := by simp [outP]
theorem okP_snoc (P : List (List Int × Bool × Bool)) (p : List Int × Bool × Bool) : okP (P ++ [p]) = (okP P && p.2.1) := by simp [okP]
theorem rnP_snoc (P : List (List Int × Bool × Bool)) (p : List Int × Bool × Bool) : rnP (P ++ [p]) = rnP P + if p.2.2 = true then 1 else 0 := by
  unfold rnP
  rw [List.countP_append]
  simp [List.countP_cons]
theorem Pc.sgn_len {w0 : World} {L : Nat} (x : Pc w0 L) : x.val.1.length ≤ L + 1 := by
  have h := x.hr.size
  have h2 := x.hl
  unfold Pc.val pcv
  split
  · simp
  · have h3 := runT_len x.d
    have h4 := lftT_len x.d
    simp only [List.length_append]
    omega
theorem outP_len {w0 : World} {L : Nat} : ∀ pre : List (Pc w0 L), (outP (pre.map Pc.val)).length ≤ pre.length * (L + 1)
  | [] => by simp [outP]
  | x :: pre => by
    have ih := outP_len pre
    have hx := x.sgn_len
    have e : outP ((x :: pre).map Pc.val) = x.val.1 ++ outP (pre.map Pc.val) := by simp [outP]
    rw [e, List.length_append, List.length_cons, Nat.add_mul]
    omega
theorem blk_own {β : Type} (D B : Nat) (t : TypeId) (vs : Array Value) : OwnFrom D (fun (_ : β) W => Blk W B t vs) := fun s X Y row hs hg hrow =>
  hs.kept hg (fun e' => by obtain ⟨o, ho, hc⟩ := (hrow B e'.symm).2; rw [show X.heap[B]? = _ from hs] at ho; cases ho; cases hc)

theorem pcv_run (d : List Int) (s : Int) (r : Bool) : (pcv d s r).2.2 = decide (0 < d.length) := by
  unfold pcv
  cases d <;> simp
theorem pcv_wf (d : List Int) (s : Int) (r : Bool) (h0 : 0 ≤ s) (h1 : s ≤ 65533) : ∀ y ∈ (pcv d s r).1, (Lit.int .i32 y).wf = true := by
  unfold pcv
  split
  · intro y hy
    simp only [List.mem_singleton] at hy
    subst hy
    exact mk_r (by omega) (by omega)
  · intro y hy
    rcases List.mem_append.1 hy with h | h
    · exact runT_wf d y h
    · unfold lftT at h
      split at h
      · simp only [List.mem_singleton] at h
        subst h
        decide
      · cases h
theorem outP_wf {w0 : World} {L : Nat} (pre : List (Pc w0 L)) : ∀ y ∈ outP (pre.map Pc.val), (Lit.int .i32 y).wf = true := by
  intro y hy
  obtain ⟨p, hp, hy⟩ := List.mem_flatMap.1 hy
  obtain ⟨x, _, rfl⟩ := List.mem_map.1 hp
  exact pcv_wf _ _ _ x.h0 x.h1 y hy
theorem own_cells {k : IntKind} {e : TypeId} {base : Nat} {w : World} {v : Value} {xs : List Int} (h : Own k e base w v xs) : ∀ (j : Nat) (o : Obj), v.ownBlock = some j → w.heap[j]? = some o → o.isCells = true := by
  intro j o hj ho
  rcases h.1.2 with ⟨rfl, _⟩ | ⟨g, cap, cur, rfl, _, hgb, _⟩
  · cases hj
  · obtain rfl : g = j := by simpa [Value.ownBlock] using hj
    rw [hgb] at ho
    cases ho
    rfl
set_option maxRecDepth 100000 in
set_option maxHeartbeats 4000000 in
theorem sread_text (a : Option Addr) (len cap : Nat) (xs : List Int) (w : World) (hr : Reads .u8 w a len cap xs) (hN : len < 100000) :
    Calls Tryd.prog 18 #[.func (.func 19) #[.slice a len cap] #[]] w fun e w' => ∃ v, e = .returned (.tuple #[v, .bool (ok7 xs)]) ∧ Own .i32 21 w.heap.size w' v (rd7 xs) ∧ Below w.heap.size w w' := by
  have hl := hr.len_le
  have hsz := hr.size
  have HLL := hid (fun pre : List (Pc w len) => outP_len pre)
  refine (callsIn_wide (n := 4)).1 ?_
  refine callsIn_of_wp_marks Tryd.func18 rfl trivial ?_ rfl
  simp only [Tryd.ntmps18, List.size_toArray, List.length_cons, List.length_nil, Nat.reduceAdd, Nat.reduceSub, Array.replicate_succ, Array.replicate_zero, List.push_toArray, List.append_toArray, List.nil_append, List.cons_append]
  gi_wp2_with fail
  obtain ⟨b1, b2, hB0⟩ := two_boxes w 22 4 (.slice none 0 0) (.bool true)
  refine wpIn_rangeRecv (α := Pc w len) rfl (by omega) (gf := 19) (rv := #[.slice a len cap]) rfl trivial (enters_of Tryd.func19 (by kernel_rfl) rfl)
    (pieces_gives 3 w.heap.size (by omega) a len cap xs w _ hr (by omega) (Nat.le_refl _) hB0.size hB0) hB0.size (Below.refl _ _) (fun _ => rfl)
    (fun pre W => (∃ v, Boxed W w.heap.size 22 v ∧ Row .i32 21 w.heap.size W v (outP (pre.map Pc.val))) ∧ Boxed W (w.heap.size + 1) 4 (.bool (okP (pre.map Pc.val))) ∧ Below w.heap.size w W)
    (OwnFrom.and (own_rowO _ _ _ _ _ _ (fun pre : List (Pc w len) => outP (pre.map Pc.val))) (OwnFrom.and (Go.Own.from (boxed_own _ _ (fun pre : List (Pc w len) => .bool (okP (pre.map Pc.val)))) _) (ownFrom_below (Nat.le_refl _) hB0.size)))
    ⟨⟨_, b1, World.ownsRow_nil _ _ _ _⟩, b2, hB0⟩
    (fun x a' W => ∃ Bx, w.heap.size + 2 ≤ Bx ∧ Blk W Bx 47 #[.slice x.a x.m x.c, .int .i32 x.s, .bool x.r] ∧ a' = { tmps := #[.func (.func 19) #[.slice a len cap] #[], undef, .slice none 0 0, .bool false, .pointer (some ⟨w.heap.size, 0, none⟩), .pointer (some ⟨w.heap.size + 1, 0, none⟩), .pointer (some ⟨Bx, 0, none⟩), undef, .func (.func 19) #[.slice a len cap] #[], .agg #[.slice x.a x.m x.c, .int .i32 x.s, .bool x.r], undef, undef, undef, undef, undef, undef, undef, undef, undef, undef, undef, undef], defers := [] })
    (fun x a' s A B row h hg hrow => by
      obtain ⟨Bx, h1, h2, h3⟩ := h
      exact ⟨Bx, h1, blk_own _ _ _ _ s A B row h2 hg hrow, h3⟩)
    ?assign ?body ?done
  case assign =>
    rintro l pre x W K ⟨⟨v, hv, hrow⟩, hok, hB⟩ hlen hK
    simp only [Pc.enc]
    have hlt := hok.lt
    gi_wp2
    exact hK _ _ ((KeepsOthers.alloc _ _).from _) ((Below.refl _ W).alloc hB.size _) ⟨⟨v, hv.alloc _, World.ownsRow.alloc hrow _⟩, hok.alloc _, hB.alloc hB.size _⟩ ⟨W.heap.size, by omega, Blk.new W _ _, rfl⟩
  case body =>
    rintro l pre x a' W ⟨⟨v, hv, hrow⟩, hok, hB⟩ ⟨Bx, hBx, hbx, rfl⟩ hlt
    have hlo := HLL.out pre
    have hmul : pre.length * (len + 1) + (len + 1) ≤ len * (len + 1) := by
      have h := Nat.mul_le_mul_right (len + 1) (show pre.length + 1 ≤ len by omega)
      rw [Nat.add_mul] at h
      omega
    have hsq : len * (len + 1) ≤ 99999 * 100000 := Nat.mul_le_mul (by omega) (by omega)
    have hown := hrow.own (outP_wf pre)
    have HP := hid (piece_put (B0 := w.heap.size) hB.size x.a x.m x.c x.d x.s x.r v _ x.h0 x.h1 x.hd (x.hr.below hB) hown (by omega) (by have := x.hl; omega))
    have hOs := hid (show outP (pre.map Pc.val ++ [x.val]) = outP (pre.map Pc.val) ++ (pcv x.d x.s x.r).1 from outP_snoc _ _)
    have hKs := hid (show okP (pre.map Pc.val ++ [x.val]) = (okP (pre.map Pc.val) && (pcv x.d x.s x.r).2.1) from okP_snoc _ _)
    generalize (pcv x.d x.s x.r).2.1 = R at *
    generalize (pcv x.d x.s x.r).1 = T at *
    have d0 := hbx.cell (i := 0) rfl
    have d1 := hbx.cell (i := 1) rfl
    have d2 := hbx.cell (i := 2) rfl
    have hc := hv.cell
    clear hlo hmul hsq
    gi_wp2_with (refine ⟨trivial, ?_⟩; gi_at_call 26; (with_reducible refine (CallsIn.inRound l (callsIn_wide.2 HP.out)).mono ?_); rintro e w3 ⟨a3, n3, c3, rfl, ho3, hg3⟩; (have hv3 := hv.kept hg3 (hv.not_row (by decide) hrow)); (have hk3 := hok.kept hg3 (hok.not_row (by decide) hrow)); have f3 := hv3.frozen; have e3 := hv3.cell; have g3 := hk3.frozen; have h3 := hk3.cell)
    all_goals
      have hk := KeepsOthers.of_grownBy hg3 (own_cells hown)
      have hb3 : Below w.heap.size W w3 := (Below.refl _ W).grown hg3 hB.size (fun j hj => (hown.1.lt j hj).1)
      have hk4 := hk3.other (show w.heap.size + 1 ≠ w.heap.size by omega) (.slice a3 n3 c3)
      have ho4 : Row .i32 21 w.heap.size (w3.setCell ⟨w.heap.size, 0, none⟩ (.slice a3 n3 c3)) (.slice a3 n3 c3) (outP (pre.map Pc.val) ++ T) := Row.set ho3.1 hv3 (by decide) _
      refine ⟨((hk.trans (KeepsOthers.setCell _ _ _)).trans (KeepsOthers.setCell _ _ _)).from _, (hb3.setCell (p := ⟨w.heap.size, 0, none⟩) (Nat.le_refl _) _).setCell (p := ⟨w.heap.size + 1, 0, none⟩) (Nat.le_succ _) _, ⟨_, (hv3.set _).other (show w.heap.size ≠ w.heap.size + 1 by omega) _, ?_⟩, ?_, hB.trans ((hb3.setCell (p := ⟨w.heap.size, 0, none⟩) (Nat.le_refl _) _).setCell (p := ⟨w.heap.size + 1, 0, none⟩) (Nat.le_succ _) _)⟩
      · rw [hOs.out]
        exact ho4.set hk4 (by decide) _
      · rw [hKs.out]
        simp_all only [Bool.true_and, Bool.false_and, Bool.not_eq_true]
        exact hk4.set _
  case done =>
    rintro D ys W hD hys ⟨⟨v, hv, hrow⟩, hok, hB⟩ hK
    rw [hys] at hrow hok
    have hwf := outP_wf ys
    rw [hys] at hwf
    have hO := hid ((Row.putObj hrow (.deferred none) hK rfl).own hwf)
    have hc := hv.cell
    have hc2 := hok.cell
    clear hwf
    have q1 : W.drew.cell? ⟨w.heap.size, 0, none⟩ = some v := hc
    have q2 : W.drew.cell? ⟨w.heap.size + 1, 0, none⟩ = some (.bool (okP (seg7 xs))) := hc2
    gi_wp2_with fail
    refine wpIn_mono (Q := fun e a' w' => e = .normal ∧ a' = { tmps := #[.func (.func 19) #[.slice a len cap] #[], undef, v, .bool (okP (seg7 xs)), .pointer (some ⟨w.heap.size, 0, none⟩), .pointer (some ⟨w.heap.size + 1, 0, none⟩), undef, undef, .func (.func 19) #[.slice a len cap] #[], undef, undef, undef, undef, undef, undef, undef, undef, undef, undef, undef, v, .bool (okP (seg7 xs))], defers := [{ target := .collected D, args := #[] }] } ∧ w' = W.drew) ?_ ?_
    · refine wpIn_region_any (by kernel_rfl) ?_
      change wpAnyIn _ _ _ _ _ _ 4 _ _ (World.drew _)
      repeat' (first
        | exact AllReadyIn.nil
        | with_reducible refine wpAnyIn_ready (rs := [0, 1]) (by decide +kernel) (by simp) ?_
        | with_reducible refine wpAnyIn_ready (rs := [1, 2]) (by decide +kernel) (by simp) ?_
        | with_reducible refine wpAnyIn_ready (rs := [0, 2]) (by decide +kernel) (by simp) ?_
        | with_reducible refine wpAnyIn_ready (rs := [0]) (by decide +kernel) (by simp) ?_
        | with_reducible refine wpAnyIn_ready (rs := [1]) (by decide +kernel) (by simp) ?_
        | with_reducible refine wpAnyIn_ready (rs := [2]) (by decide +kernel) (by simp) ?_
        | with_reducible refine wpAnyIn_ready (rs := [3]) (by decide +kernel) (by simp) ?_
        | ((with_reducible change AllReadyIn _ _ _ _ _ _ _ _ _ _ _); apply ready_cons; exact rfl; intro K hK)
        | (go_simp; refine hK _ _ ?_; clear hK K)
        | with_reducible refine wpAnyIn_done (by decide +kernel) ?_ _)
      all_goals exact ⟨rfl, rfl, rfl⟩
    · rename_i K1 hK1
      rintro e a1 w1 ⟨rfl, rfl, rfl⟩
      refine hK1 _ _ ?_
      gi_wp2_with fail
      refine ⟨by simp, .inl ⟨_, _, rfl, run_takeDeferred (show W.drew.heap[D]? = _ from hK), ?_⟩⟩
      refine ⟨.tuple #[v, .bool (okP (seg7 xs))], by simp [results, Tryd.f18, go_sem], v, rfl, hO.out.below (below_drew (Below.refl _ _)), (below_drew hB).trans (belowK_b (w := w) (Nat.le_refl _) W.drew D _ _ (by simp at hD; omega) (show W.drew.heap[D]? = _ from hK) rfl rfl)⟩
set_option maxHeartbeats 1000000 in
theorem sread_Read (a : Option Addr) (len cap : Nat) (xs : List Int) (w : World) (hr : Reads .u8 w a len cap xs) (hN : len < 100000) :
    Calls Tryd.prog 11 #[.slice a len cap] w fun e w' => ∃ a' c', e = .returned (.slice a' (rd7 xs).length c') ∧ Reads .i32 w' a' (rd7 xs).length c' (rd7 xs) ∧ Below w.heap.size w w' := by
  have HT := hid (sread_text a len cap xs w hr hN)
  generalize ok7 xs = K at *
  clear hr
  go_enter Tryd.func11, Tryd.ntmps11
  go_wp2_with (go_at_call 18; (with_reducible refine HT.out.mono ?_); rintro e w1 ⟨v1, rfl, ho1, hb1⟩; (obtain ⟨a1, c1, rfl, hr1⟩ := ho1.reads))
  go_ret
  exact ⟨_, _, rfl, hr1, hb1⟩
/-- What is read strictly. -/
def rd7S (xs : List Int) : List Int := if ok7 xs = true then rd7 xs else []
set_option maxHeartbeats 1000000 in
theorem sread_Strict (a : Option Addr) (len cap : Nat) (xs : List Int) (w : World) (hr : Reads .u8 w a len cap xs) (hN : len < 100000) :
    Calls Tryd.prog 8 #[.slice a len cap] w fun e w' => ∃ a' l' c', e = .returned (.tuple #[.slice a' l' c', .int .i64 (rd7E xs)]) ∧ Reads .i32 w' a' l' c' (rd7S xs) ∧ Below w.heap.size w w' := by
  have HT := hid (sread_text a len cap xs w hr hN)
  unfold rd7S rd7E
  cases hk : ok7 xs
  all_goals
    rw [hk] at HT
    clear hr hk
    go_enter Tryd.func8, Tryd.ntmps8
    go_wp2_with (go_at_call 18; (with_reducible refine HT.out.mono ?_); rintro e w1 ⟨v1, rfl, ho1, hb1⟩; (obtain ⟨a1, c1, rfl, hr1⟩ := ho1.reads))
    go_ret2
    first
    | exact ⟨_, _, _, rfl, Reads.nil _ _ _ _ (Nat.zero_le _), hb1⟩
    | exact ⟨_, _, _, rfl, by simpa using hr1, hb1⟩
set_option maxRecDepth 100000 in
set_option maxHeartbeats 4000000 in
theorem sread_Shifts (a : Option Addr) (len cap : Nat) (xs : List Int) (w : World) (hr : Reads .u8 w a len cap xs) (hN : len < 100000) :
    Calls Tryd.prog 14 #[.slice a len cap] w fun e w' => e = .returned (.int .i64 (rd7N xs)) ∧ Below w.heap.size w w' := by
  have hl := hr.len_le
  refine (callsIn_wide (n := 4)).1 ?_
  refine callsIn_of_wp_marks Tryd.func14 rfl trivial ?_ rfl
  simp only [Tryd.ntmps14, List.size_toArray, List.length_cons, List.length_nil, Nat.reduceAdd, Nat.reduceSub, Array.replicate_succ, Array.replicate_zero, List.push_toArray, List.append_toArray, List.nil_append, List.cons_append]
  gi_wp2_with fail
  have b1 := Boxed.new w 3 (.int .i64 0)
  have hB0 : Below w.heap.size w (w.alloc (.cells #[.int .i64 0] 3)) := (Below.refl _ w).alloc (Nat.le_refl _) _
  refine wpIn_rangeRecv (α := Pc w len) rfl (by omega) (gf := 19) (rv := #[.slice a len cap]) rfl trivial (enters_of Tryd.func19 (by kernel_rfl) rfl)
    (pieces_gives 3 w.heap.size (by omega) a len cap xs w _ hr (by omega) (Nat.le_refl _) hB0.size hB0) hB0.size (Below.refl _ _) (fun _ => rfl)
    (fun pre W => Boxed W w.heap.size 3 (.int .i64 (rnP (pre.map Pc.val))) ∧ Below w.heap.size w W)
    (own_box (Nat.le_refl _) hB0.size _ _ (fun pre : List (Pc w len) => .int .i64 (rnP (pre.map Pc.val))))
    ⟨b1, hB0⟩
    (fun x a' W => ∃ Bx, w.heap.size + 1 ≤ Bx ∧ Blk W Bx 47 #[.slice x.a x.m x.c, .int .i32 x.s, .bool x.r] ∧ a' = { tmps := #[.slice a len cap, undef, .int .i64 0, .pointer (some ⟨w.heap.size, 0, none⟩), .pointer (some ⟨Bx, 0, none⟩), .slice a len cap, .func (.func 19) #[.slice a len cap] #[], .agg #[.slice x.a x.m x.c, .int .i32 x.s, .bool x.r], undef, undef, undef, undef, undef], defers := [] })
    (fun x a' s A B row h hg hrow => by
      obtain ⟨Bx, h1, h2, h3⟩ := h
      exact ⟨Bx, h1, blk_own _ _ _ _ s A B row h2 hg hrow, h3⟩)
    ?assign ?body ?done
  case assign =>
    rintro l pre x W K ⟨hv, hB⟩ hlen hK
    simp only [Pc.enc]
    have hlt := hv.lt
    gi_wp2
    exact hK _ _ ((KeepsOthers.alloc _ _).from _) ((Below.refl _ W).alloc hB.size _) ⟨hv.alloc _, hB.alloc hB.size _⟩ ⟨W.heap.size, by omega, Blk.new W _ _, rfl⟩
  case body =>
    rintro l pre x a' W ⟨hv, hB⟩ ⟨Bx, hBx, hbx, rfl⟩ hlt
    have hsn := hid (show rnP (pre.map Pc.val ++ [x.val]) = rnP (pre.map Pc.val) + (if 0 < x.m then 1 else 0) by
      rw [rnP_snoc, show x.val.2.2 = decide (0 < x.m) by rw [← x.hr.size]; exact pcv_run _ _ _]
      simp only [decide_eq_true_eq])
    have hrl : rnP (pre.map Pc.val) ≤ pre.length := by
      have := List.countP_le_length (p := fun p : List Int × Bool × Bool => p.2.2) (l := pre.map Pc.val)
      rwa [List.length_map] at this
    have HI := hid (piece_isRun x.a x.m x.c x.s x.r W)
    have d0 := hbx.cell (i := 0) rfl
    have d1 := hbx.cell (i := 1) rfl
    have d2 := hbx.cell (i := 2) rfl
    generalize rnP (pre.map Pc.val) = M at *
    by_cases hm : 0 < x.m
    · rw [decide_eq_true hm] at HI
      rw [if_pos hm] at hsn
      clear hm
      gi_wp2_with (refine ⟨trivial, ?_⟩; gi_at_call 22; (with_reducible refine (CallsIn.inRound l (callsIn_wide.2 HI.out)).mono ?_); rintro e w3 ⟨rfl, hb3⟩; (have hv3 := Boxed.below hv hb3); have f3 := hv3.frozen; have e3 := hv3.cell)
      refine ⟨((keeps_below hb3).trans (KeepsOthers.setCell _ _ _)).from _, (hb3.mono hB.size).setCell (p := ⟨w.heap.size, 0, none⟩) (Nat.le_refl _) _, ?_, hB.trans ((hb3.mono hB.size).setCell (p := ⟨w.heap.size, 0, none⟩) (Nat.le_refl _) _)⟩
      rw [hsn.out]
      exact hv3.set _
    · rw [decide_eq_false hm] at HI
      rw [if_neg hm] at hsn
      clear hm
      gi_wp2_with (refine ⟨trivial, ?_⟩; gi_at_call 22; (with_reducible refine (CallsIn.inRound l (callsIn_wide.2 HI.out)).mono ?_); rintro e w3 ⟨rfl, hb3⟩; (have hv3 := Boxed.below hv hb3); have f3 := hv3.frozen; have e3 := hv3.cell)
      refine ⟨(keeps_below hb3).from _, hb3.mono hB.size, ?_, hB.trans (hb3.mono hB.size)⟩
      rw [hsn.out]
      exact hv3
  case done =>
    rintro D ys W hD hys ⟨hv, hB⟩ hK
    rw [hys] at hv
    have hc := hv.cell
    gi_wp2
    refine ⟨by simp, .inl ⟨_, _, rfl, run_takeDeferred hK, ?_⟩⟩
    exact ⟨_, results_tmp rfl _ _ _, rfl, hB.trans (belowK_b (w := w) (Nat.le_refl _) W D _ _ (by simp at hD; omega) hK rfl rfl)⟩
end Go.Proofs.YtobjdamlmaaidaaDoor

/-! R03 -/
namespace Go.Proofs.YtobjdamlmaaidaaDoor
open Go.RowKit
set_option linter.unusedVariables false

theorem STR : SliceT Tryd.prog 22 21 .i32 4 := ⟨Tryd.underlying22, by kernel_rfl, by decide⟩

theorem ref03_Surrogate (c : Int) (w : World) :
    Calls Tryd.prog 21 #[.int .i32 c] w fun e w' => e = .returned (.bool (surB c)) ∧ w = w' := by
  go_enter Tryd.func21, Tryd.ntmps21
  go_wp2
  all_goals (go_ret; exact ⟨ret_bool (by unfold surB; simp; omega), rfl⟩)
theorem ref03_Is (c : Int) (w : World) :
    Calls Tryd.prog 13 #[.int .i32 c] w fun e w' => e = .returned (.bool (scB c)) ∧ w = w' := by
  go_enter Tryd.func13, Tryd.ntmps13
  go_wp2_with (go_at_call 21; (with_reducible refine (ref03_Surrogate _ _).mono ?_); rintro e w' ⟨rfl, rfl⟩)
  all_goals (go_ret; exact ⟨ret_bool (by first | exact sc_of ‹_› ‹_› | (unfold scB; simp; omega)), rfl⟩)
set_option maxHeartbeats 1000000 in
theorem ref03_First (a : Option Addr) (len cap : Nat) (xs : List Int) (w : World) (hr : Reads .i32 w a len cap xs) :
    Calls Tryd.prog 5 #[.slice a len cap] w fun e w' => e = .returned (.int .i64 (idxI (fun c => !scB c) xs)) ∧ w = w' := by
  have hl := hr.len_le
  have HR := hid hr
  clear hr
  go_enter Tryd.func5, Tryd.ntmps5
  go_wp2
  go_loop [3] (fun i => ∃ k : Nat, k ≤ len ∧ i = .int .i64 k ∧ Hid ((xs.take k).any (fun c => !scB c) = false)) (fun i => len - (intOf i).toNat)
  case atStart => exact ⟨0, Nat.zero_le _, rfl, rfl⟩
  case round =>
    obtain ⟨k, hk, rfl, hn⟩ := hrel
    by_cases hlt : k < len
    · obtain ⟨b, off, x, rfl, _, hc, h0, h1, hx⟩ := HR.out.getR hlt
      cases hs : scB x
      · have H := hid hs
        go_wp2_with (go_at_call 13; (with_reducible refine (ref03_Is _ _).mono ?_); rintro e w' ⟨rfl, rfl⟩)
        go_ret
        exact ⟨ret_int (idx_hit hx.out.1 hn.out (by simp [H.out])).symm, rfl⟩
      · have H := hid hs
        go_wp2_with (go_at_call 13; (with_reducible refine (ref03_Is _ _).mono ?_); rintro e w' ⟨rfl, rfl⟩)
        go_round
        case rel => exact ⟨k + 1, by omega, by go_num, none_yes hx.out.2 hn.out (by simp [H.out])⟩
        case measure => simp [intOf]; omega
    · go_wp2
      go_ret
      exact ⟨ret_int (by rw [← HR.out.all (show len ≤ k by omega)]; exact (idx_none hn.out).symm), rfl⟩
set_option maxHeartbeats 1000000 in
theorem ref03_Like (a : Option Addr) (len cap : Nat) (xs : List Int) (a2 : Option Addr) (len2 cap2 : Nat) (ys : List Int) (w : World) (hr : Reads .i32 w a len cap xs) (hr2 : Reads .i32 w a2 len2 cap2 ys) :
    Calls Tryd.prog 10 #[.slice a len cap, .slice a2 len2 cap2] w fun e w' => e = .returned (.bool (decide (xs = ys))) ∧ ∃ n, w' = w.drewN n := by
  have hl := hr.len_le
  have hl2 := hr2.len_le
  have HR := hid hr
  have HR2 := hid hr2
  clear hr hr2
  by_cases he : len = len2
  · subst he
    go_enter Tryd.func10, Tryd.ntmps10
    go_wp2
    go_loopw [5] (fun i wr => ∃ k : Nat, k ≤ len ∧ i = .int .i64 k ∧ Hid (xs.take k = ys.take k) ∧ ∃ n, wr = w.drewN n) (fun i _ => len - (intOf i).toNat)
    case atStart => exact ⟨0, Nat.zero_le _, rfl, rfl, 0, rfl⟩
    case round =>
      obtain ⟨k, hk, rfl, hn, n, rfl⟩ := hrel
      by_cases hlt : k < len
      · obtain ⟨b, off, x, rfl, _, hc, h0, h1, hx⟩ := HR.out.getR hlt
        obtain ⟨b2, off2, y, rfl, _, hc2, h02, h12, hy⟩ := HR2.out.getR hlt
        go_wp2
        go_quiet (fail)
        go_wp2
        · go_ret
          exact ⟨ret_bool (eq_no hx.out.1 hy.out.1 ‹_›).symm, by simp only [World.drewN_drewN]; exact ⟨_, rfl⟩⟩
        · go_roundw
          case rel => exact ⟨k + 1, by omega, by go_num, eq_yes hx.out.2 hy.out.2 hn.out ‹_›, _, rfl⟩
          case measure => simp [intOf]; omega
      · go_wp2
        go_ret
        exact ⟨ret_bool (by rw [← HR.out.all (show len ≤ k by omega), ← HR2.out.all (show len ≤ k by omega)]; exact (decide_eq_true hn.out).symm), _, rfl⟩
  · have hne : ((len : Int) != len2) = true := by simp; omega
    go_enter Tryd.func10, Tryd.ntmps10
    go_wp2
    go_ret
    exact ⟨ret_bool (eq_len (by rw [HR.out.size, HR2.out.size]; exact he)).symm, 0, rfl⟩

end Go.Proofs.YtobjdamlmaaidaaDoor

/-! Alive23 -/
namespace Go.Proofs.YtobjdamlmaaidaaDoor
open Go.RowKit
set_option linter.unusedVariables false

theorem v23_a : rd7 [65, 43, 73, 109, 73, 68, 107, 81, 46, 43, 45] = [65, 8802, 913, 46, 43] := by decide +kernel
theorem v23_b : rd7E [43] = 3 := by decide +kernel
theorem v23_c : rd7N [43, 65, 65, 65, 45] = 1 := by decide +kernel
theorem al23_r (w : World) (B : Nat) (hB : w.heap.size = B) : Calls Tryd.prog 11 #[.slice (some ⟨B, 0, none⟩) 11 11] (w.alloc (.cells #[.int .u8 65, .int .u8 43, .int .u8 73, .int .u8 109, .int .u8 73, .int .u8 68, .int .u8 107, .int .u8 81, .int .u8 46, .int .u8 43, .int .u8 45] 5 (11, 12))) fun e w' => ∃ a c, e = .returned (.slice a 5 c) ∧ Reads .i32 w' a 5 c [65, 8802, 913, 46, 43] ∧ Below w.heap.size w w' := by
  have h2 := sread_Read _ 11 11 [65, 43, 73, 109, 73, 68, 107, 81, 46, 43, 45] _ (Reads_litB .u8 5 (11, 12) w B hB [65, 43, 73, 109, 73, 68, 107, 81, 46, 43, 45] (by decide) (by decide)) (by decide)
  rw [v23_a] at h2
  refine h2.mono ?_
  rintro e w' ⟨a, c, rfl, hr, hb⟩
  exact ⟨a, c, rfl, hr, ((Below.refl _ _).alloc (Nat.le_refl _) _).trans (hb.mono (by simp))⟩
theorem al23_s (w : World) (B : Nat) (hB : w.heap.size = B) : Calls Tryd.prog 8 #[.slice (some ⟨B, 0, none⟩) 1 1] (w.alloc (.cells #[.int .u8 43] 5 (1, 2))) fun e w' => ∃ a l c, e = .returned (.tuple #[.slice a l c, .int .i64 3]) ∧ Below w.heap.size w w' := by
  have h2 := sread_Strict _ 1 1 [43] _ (Reads_litB .u8 5 (1, 2) w B hB [43] (by decide) (by decide)) (by decide)
  rw [v23_b] at h2
  refine h2.mono ?_
  rintro e w' ⟨a, l, c, rfl, hr, hb⟩
  exact ⟨a, l, c, rfl, ((Below.refl _ _).alloc (Nat.le_refl _) _).trans (hb.mono (by simp))⟩
theorem al23_n (w : World) (B : Nat) (hB : w.heap.size = B) : Calls Tryd.prog 14 #[.slice (some ⟨B, 0, none⟩) 5 5] (w.alloc (.cells #[.int .u8 43, .int .u8 65, .int .u8 65, .int .u8 65, .int .u8 45] 5 (5, 6))) fun e w' => e = .returned (.int .i64 1) ∧ Below w.heap.size w w' := by
  have h2 := sread_Shifts _ 5 5 [43, 65, 65, 65, 45] _ (Reads_litB .u8 5 (5, 6) w B hB [43, 65, 65, 65, 45] (by decide) (by decide)) (by decide)
  rw [v23_c] at h2
  refine h2.mono ?_
  rintro e w' ⟨rfl, hb⟩
  exact ⟨rfl, ((Below.refl _ _).alloc (Nat.le_refl _) _).trans (hb.mono (by simp))⟩
theorem al23_l {a : Option Addr} {c : Nat} {w : World} (hr : Reads .i32 w a 5 c [65, 8802, 913, 46, 43]) : Calls Tryd.prog 10 #[.slice a 5 c, .slice (some ⟨w.heap.size, 0, none⟩) 5 5] (w.alloc (.cells #[.int .i32 65, .int .i32 8802, .int .i32 913, .int .i32 46, .int .i32 43] 21)) fun e w' => e = .returned (.bool true) ∧ Below w.heap.size w w' := by
  have hb : Below w.heap.size w (w.alloc (.cells #[.int .i32 65, .int .i32 8802, .int .i32 913, .int .i32 46, .int .i32 43] 21)) := (Below.refl _ _).alloc (Nat.le_refl _) _
  have h2 := ref03_Like _ _ _ _ _ _ _ _ _ (hr.below hb) (Reads.lit .i32 21 w [65, 8802, 913, 46, 43] (by decide) (by decide))
  rw [decide_eq_true rfl] at h2
  refine h2.mono ?_
  rintro e w' ⟨rfl, n, rfl⟩
  exact ⟨rfl, Below.drewN hb n⟩
set_option maxHeartbeats 1000000 in
theorem alive23_any (w : World) : Calls Tryd.prog 6 #[] w fun e w' => e = .returned (.bool true) ∧ Below w.heap.size w w' := by
  have kc := convB (P := Tryd.prog) (t := 25) (e := 5) Tryd.underlying25 Tryd.underlying5 w w.heap.size rfl
  go_enter Tryd.func6, Tryd.ntmps6
  go_wp2_with (first
    | (go_at_call 11; (with_reducible refine (al23_r w _ rfl).mono ?_); rintro e w1 ⟨a1, c1, rfl, r1, h1⟩; have kc1 := convB (P := Tryd.prog) (t := 25) (e := 5) Tryd.underlying25 Tryd.underlying5 w1 w1.heap.size rfl)
    | (go_at_call 8; (with_reducible refine (al23_s w1 _ rfl).mono ?_); rintro e w2 ⟨a2, l2, c2, rfl, h2⟩; have t2 := below_then h1 h2; have r2 := r1.below h2)
    | (go_at_call 10; (with_reducible refine (al23_l r2).mono ?_); rintro e w3 ⟨rfl, h3⟩; have t3 := below_then t2 h3; have kc3 := convB (P := Tryd.prog) (t := 25) (e := 5) Tryd.underlying25 Tryd.underlying5 w3 w3.heap.size rfl)
    | (go_at_call 14; (with_reducible refine (al23_n w3 _ rfl).mono ?_); rintro e w4 ⟨rfl, h4⟩; have t4 := below_then t3 h4))
  go_ret
  exact ⟨rfl, t4⟩
end Go.Proofs.YtobjdamlmaaidaaDoor

/-! C01k -/
namespace Go.Proofs.YtobjdamlmaaidaaDoor
open Go.RowKit
set_option linter.unusedVariables false

theorem alnum_c (c : Int) (w : World) (h0 : 0 ≤ c) (h1 : c ≤ 255) :
    Calls Tryd.prog 72 #[.int .u8 c] w fun e w' => e = .returned (.int .i64 (alnumI c)) ∧ w = w' := by
  have hb := low_bd c h0 h1
  go_enter Tryd.func72, Tryd.ntmps72
  go_wp2_with (go_at_call 86; refine (lower_c _ _ h0 h1).mono ?_; rintro e w' ⟨rfl, rfl⟩)
  all_goals (go_ret; exact ⟨ret_int (by unfold alnumI; (repeat' split) <;> first | rfl | omega), rfl⟩)
theorem ibs (s : ByteArray) (c : Int) (w : World) : (callFunc 85 #[.string s, .int .u8 c]).run Tryd.prog w = .ok (.value (.int .i64 (firstIdx s c.toNat.toUInt8))) w := by
  rw [run_callFunc_extern (fn := Tryd.f85) (e := Extern.BytealgIndexByte.indexByte) (by kernel_rfl) (by kernel_rfl) (by kernel_rfl) (by kernel_rfl) (by kernel_rfl), run_indexByte_string]
  rfl
theorem among_c (s : ByteArray) (c : Int) (w : World) :
    Calls Tryd.prog 87 #[.string s, .int .u8 c] w fun e w' => e = .returned (.bool (hasB s c)) ∧ w = w' := by
  have hx := ibs s c w
  go_enter Tryd.func87, Tryd.ntmps87
  go_wp2
  go_ret
  exact ⟨ret_bool (firstIdx_nonneg _ _), rfl⟩
theorem syn_c (c : Int) (w : World) :
    Calls Tryd.prog 73 #[.int .u8 c] w fun e w' => e = .returned (.int .i64 (synI c)) ∧ w = w' := by
  go_enter Tryd.func73, Tryd.ntmps73
  go_wp2_with (go_at_call 87; refine (among_c _ _ _).mono ?_; rintro e w' ⟨rfl, rfl⟩)
  all_goals (go_ret; exact ⟨ret_int (by unfold synI; simp [*]), rfl⟩)
theorem cod_c (c : Int) (w : World) (h0 : 0 ≤ c) (h1 : c ≤ 255) :
    Calls Tryd.prog 74 #[.int .u8 c] w fun e w' => e = .returned (.int .i64 (codI c)) ∧ w = w' := by
  go_enter Tryd.func74, Tryd.ntmps74
  go_wp2_with (first | (go_at_call 87; refine (among_c _ _ _).mono ?_; rintro e w' ⟨rfl, rfl⟩) | (go_at_call 72; refine (alnum_c _ _ h0 h1).mono ?_; rintro e w' ⟨rfl, rfl⟩))
  all_goals (go_ret; exact ⟨ret_int (by unfold codI; simp only [*, if_true, if_false, Bool.false_eq_true]; try rfl), rfl⟩)
theorem kinds_c (c : Int) (w : World) (h0 : 0 ≤ c) (h1 : c ≤ 255) :
    Calls Tryd.prog 63 #[.int .u8 c] w fun e w' => e = .returned (.int .i64 (kindI c)) ∧ w = w' := by
  go_enter Tryd.func63, Tryd.ntmps63
  go_wp2_with (first | (go_at_call 72; refine (alnum_c _ _ h0 h1).mono ?_; rintro e w' ⟨rfl, rfl⟩) | (go_at_call 73; refine (syn_c _ _).mono ?_; rintro e w' ⟨rfl, rfl⟩) | (go_at_call 74; refine (cod_c _ _ h0 h1).mono ?_; rintro e w' ⟨rfl, rfl⟩))
  all_goals (go_ret; exact ⟨ret_int (by simp only [beq_iff_eq, beq_eq_false_iff_ne] at *; unfold kindI; (repeat' split) <;> first | rfl | omega), rfl⟩)
theorem is_c (c kinds : Int) (w : World) (h0 : 0 ≤ c) (h1 : c ≤ 255) :
    Calls Tryd.prog 52 #[.int .u8 c, .int .i64 kinds] w fun e w' => e = .returned (.bool (isB kinds c)) ∧ w = w' := by
  go_enter Tryd.func52, Tryd.ntmps52
  go_wp2_with (go_at_call 63; refine (kinds_c _ _ h0 h1).mono ?_; rintro e w' ⟨rfl, rfl⟩)
  go_ret
  exact ⟨rfl, rfl⟩
end Go.Proofs.YtobjdamlmaaidaaDoor

/-! StrB -/
namespace Go.Proofs.YtobjdamlmaaidaaDoor
open Go.RowKit
set_option linter.unusedVariables false

/-- Texts of octets are the same just if the octets are. -/
theorem strB_inj {xs ys : List Int} (hx : ∀ x ∈ xs, 0 ≤ x ∧ x ≤ 255) (hy : ∀ y ∈ ys, 0 ≤ y ∧ y ≤ 255) (h : strB xs = strB ys) : xs = ys := by
  have e : (xs.map fun x => UInt8.ofNat x.toNat) = ys.map fun x => UInt8.ofNat x.toNat := by
    have h' : (xs.map fun x => UInt8.ofNat x.toNat).toArray = (ys.map fun x => UInt8.ofNat x.toNat).toArray := congrArg ByteArray.data h
    simpa using h'
  clear h
  induction xs generalizing ys with
  | nil => cases ys with
    | nil => rfl
    | cons y ys => simp at e
  | cons x xs ih => cases ys with
    | nil => simp at e
    | cons y ys =>
      simp only [List.map_cons, List.cons.injEq] at e
      have hx1 := hx x (by simp)
      have hy1 := hy y (by simp)
      have e1 : x = y := by
        have := congrArg UInt8.toNat e.1
        simp at this
        omega
      rw [e1, ih (fun z hz => hx z (by simp [hz])) (fun z hz => hy z (by simp [hz])) e.2]
theorem strB_eq {xs ys : List Int} (hx : ∀ x ∈ xs, 0 ≤ x ∧ x ≤ 255) (hy : ∀ y ∈ ys, 0 ≤ y ∧ y ≤ 255) : ((strB xs).toList == (strB ys).toList) = decide (xs = ys) := by
  by_cases h : xs = ys
  · rw [h]; simp
  · rw [decide_eq_false h, beq_eq_false_iff_ne]
    intro he
    rw [Go.ByteArray.toList_eq, Go.ByteArray.toList_eq] at he
    exact h (strB_inj hx hy (ByteArray.ext (Array.toList_inj.1 he)))

end Go.Proofs.YtobjdamlmaaidaaDoor

/-! Suf -/
namespace Go.Proofs.YtobjdamlmaaidaaDoor
open Go.RowKit
set_option linter.unusedVariables false

end Go.Proofs.YtobjdamlmaaidaaDoor

/-! C14b -/
namespace Go.Proofs.YtobjdamlmaaidaaDoor
open Go.RowKit
set_option linter.unusedVariables false

theorem u8_wf {x : Int} (h : (Lit.int .u8 x).wf = true) : O8 x := ⟨(wf_u8 h).1, (wf_u8 h).2⟩
theorem lay_group (ys : List Int) : layB ys = layB (ys.take 3) ++ layB (ys.drop 3) := by
  match ys with
  | [] => rfl
  | [a] => simp [layB, fill4, bareB, v64]
  | [a, b] => simp [layB, fill4, bareB, v64]
  | a :: b :: c :: r =>
    simp only [List.take_succ_cons, List.take_zero, List.drop_succ_cons, List.drop_zero]
    unfold layB fill4 bareB
    simp only [v64, List.map_cons, List.length_cons, List.map_nil, List.length_nil]
    rw [show (4 - ((v64 r).map dg64).length.succ.succ.succ.succ % 4) % 4 = (4 - ((v64 r).map dg64).length % 4) % 4 by omega]
    simp
theorem lay_part {ys : List Int} {n : Nat} (h : n = 3 ∨ (ys.length ≤ n ∧ n ≤ 3)) : layB ys = layB (ys.take n) ++ layB (ys.drop n) := by
  rcases h with rfl | ⟨h, _⟩
  · exact lay_group ys
  · rw [List.take_of_length_le h, List.drop_of_length_le h]
    show layB ys = layB ys ++ []
    rw [List.append_nil]
theorem layB_wf {xs : List Int} (h : ∀ x ∈ xs, O8 x) : ∀ z ∈ layB xs, (Lit.int .u8 z).wf = true := by
  intro z hz
  unfold layB fill4 bareB at hz
  rcases List.mem_append.1 hz with hz | hz
  · obtain ⟨v, hv, rfl⟩ := List.mem_map.1 hz
    exact dg_wf (v64_bd xs h v hv)
  · rw [List.eq_of_mem_replicate hz]; decide
theorem lay_le (xs : List Int) : (layB xs).length ≤ 2 * xs.length + 8 := by
  unfold layB fill4 bareB
  rw [List.length_append, List.length_replicate, List.length_map, v64_len]
  omega

theorem bcode_laid (a : Option Addr) (len cap : Nat) (xs : List Int) (w : World) (hr : Reads .u8 w a len cap xs) (h1 : 1 ≤ len) (h3 : len ≤ 3) :
    Calls Tryd.prog 84 #[.slice a len cap] w fun e w' => ∃ d0 d1 d2 d3, e = .returned (.agg #[.int .u8 d0, .int .u8 d1, .int .u8 d2, .int .u8 d3]) ∧ Hid (layB xs = [d0, d1, d2, d3]) ∧ Below w.heap.size w w' := by
  obtain ⟨b, off, rfl, hb, hc⟩ := hr.cell (by omega)
  have hsz := hr.size
  have hwf := hr.wf
  have hsrc : ∀ j v, (xs.map (Value.int .u8))[j]? = some v → w.cell? ⟨b, off + j, none⟩ = some v := by
    intro j v hv
    have hjl : j < xs.length := by
      have := (List.getElem?_eq_some_iff.1 hv).1
      simpa using this
    rw [hc j (by omega)]
    simp only [List.getElem?_map, List.getElem?_eq_getElem hjl, Option.map_some, Option.some.injEq] at hv
    subst hv
    simp [hjl]
  have h0 : O8 0 := ⟨by omega, by omega⟩
  match xs, hsz with
  | [x], hsz =>
    obtain rfl : len = 1 := by simpa using hsz.symm
    refine (bcode_laidM b off 1 cap x 0 0 [.int .u8 x] w (by simp) rfl (ints_oneCell .u8 [x]) hb hsrc rfl (u8_wf (hwf x (by simp))) h0 h0).mono ?_
    rintro e w' ⟨rfl, hbel⟩
    exact ⟨_, _, _, _, rfl, by simp [Hid, layB, fill4, bareB, v64], hbel⟩
  | [x, y], hsz =>
    obtain rfl : len = 2 := by simpa using hsz.symm
    refine (bcode_laidM b off 2 cap x y 0 [.int .u8 x, .int .u8 y] w (by simp) rfl (ints_oneCell .u8 [x, y]) hb hsrc rfl (u8_wf (hwf x (by simp))) (u8_wf (hwf y (by simp))) h0).mono ?_
    rintro e w' ⟨rfl, hbel⟩
    exact ⟨_, _, _, _, rfl, by simp [Hid, layB, fill4, bareB, v64], hbel⟩
  | [x, y, z], hsz =>
    obtain rfl : len = 3 := by simpa using hsz.symm
    refine (bcode_laidM b off 3 cap x y z [.int .u8 x, .int .u8 y, .int .u8 z] w (by simp) rfl (ints_oneCell .u8 [x, y, z]) hb hsrc rfl (u8_wf (hwf x (by simp))) (u8_wf (hwf y (by simp))) (u8_wf (hwf z (by simp)))).mono ?_
    rintro e w' ⟨rfl, hbel⟩
    exact ⟨_, _, _, _, rfl, by simp [Hid, layB, fill4, bareB, v64], hbel⟩
  | [], hsz => simp at hsz; omega
  | _ :: _ :: _ :: _ :: _, hsz => simp at hsz; omega
set_option maxHeartbeats 2000000 in
theorem bcode_Lay (a : Option Addr) (len cap : Nat) (xs : List Int) (w : World) (hr : Reads .u8 w a len cap xs) (hN : len < 100000000) :
    Calls Tryd.prog 67 #[.slice a len cap] w fun e w' => ∃ v, e = .returned v ∧ Own .u8 5 w.heap.size w' v (layB xs) ∧ Below w.heap.size w w' := by
  have HR := hid hr
  have hsz := hr.size
  clear hr
  have hll := lay_le xs
  rw [hsz] at hll
  obtain ⟨L, hL⟩ : ∃ L, L = (layB xs).length := ⟨_, rfl⟩
  rw [← hL] at hll
  obtain ⟨M, hM⟩ : ∃ M : Nat, lenB (len : Int) = M ∧ M ≤ 2 * len + 8 := ⟨(lenB (len : Int)).toNat, by unfold lenB; split <;> omega, by unfold lenB; split <;> omega⟩
  obtain ⟨hM, hM1⟩ := hM
  go_enter Tryd.func67, Tryd.ntmps67
  go_wp2_with (first
    | (go_at_call 83; (with_reducible refine (bcode_Len _ _ (by omega)).mono ?_); rintro e w' ⟨rfl, rfl⟩; rw [hM])
    | (at_make; go_must (refine wpList_make0 (n := M) CT8 rfl _ _ rfl rfl rfl (Below.refl _ _) (by omega) ?_); intro v1 w1 ho1 hb1))
  have HL := hid hL
  clear hL hM
  go_loopw [0, 3] (fun s v wr => ∃ a' m c' ys O, s = .slice a' m c' ∧ m ≤ len ∧ Reads .u8 w a' m c' ys ∧ Own .u8 5 w.heap.size wr v O ∧ Below w.heap.size w wr ∧ Hid (O ++ layB ys = layB xs)) (fun s _ _ => lenV s)
  case atStart => exact ⟨a, len, cap, xs, [], rfl, Nat.le_refl _, HR.out, ho1, hb1, rfl⟩
  case round =>
    obtain ⟨a', m, c', ys, O, rfl, hml, hry, hown, hbel, hE⟩ := hrel
    have hys := hry.size
    have hrm := hry.room
    have hOl := congrArg List.length hE.out
    rw [List.length_append, ← HL.out] at hOl
    have hO : O.length ≤ 2 * len + 8 := by omega
    clear hOl
    by_cases h0 : 0 < m
    · by_cases h3 : m < 3
      · have hp := hry.pre (n := m) (by omega)
        have HP := hid (hp.below hbel)
        have hq := hry.piece (l := m) (r := m) (by omega) (by omega)
        rw [List.take_of_length_le (by omega)] at hq
        have HQ := hid hq
        have HG := hid (lay_part (ys := ys) (n := m) (Or.inr ⟨by omega, by omega⟩))
        have HWF := hid (layB_wf (xs := ys.take m) (fun x hx => u8_wf (hp.wf x hx)))
        clear hp hq hry
        go_wp2_with (first
          | (go_at_call 84; (with_reducible refine (bcode_laid _ _ _ _ _ HP.out (by omega) (by omega)).mono ?_); rintro e w4 ⟨d0, d1, d2, d3, rfl, hD, hb4⟩; have ho4 := hown.below hb4; have hbl4 := below_then hbel hb4; have hwf4 := HWF.out; rw [hD.out] at hwf4; have HW4 := hid hwf4; clear hwf4)
          | (refine wpList_storeNew (w0 := w4) .u8 [d0, d1, d2, d3] _ _ _ rfl rfl _ rfl rfl rfl (by kernel_rfl) rfl ?_)
          | (at_builtin; go_must (refine wpList_more CT8 rfl _ _ rfl rfl rfl (ho4.below ((Below.refl _ _).alloc (Nat.le_refl _) _)) (hbl4.alloc (hbl4.size) _) (Reads.lit .u8 114 w4 [d0, d1, d2, d3] (by simp [maxLen]) HW4.out) (by show O.length + 4 < 1000000000000; omega) ?_); intro v5 w5 ho5 hb5))
        have hE' : Hid ((O ++ [d0, d1, d2, d3]) ++ layB (ys.drop m) = layB xs) := by
          unfold Hid
          rw [← hE.out, HG.out, hD.out, List.append_assoc]
        clear hE HG hD HW4 HWF ho4 hbl4 hown hbel hb4
        all_goals
          go_roundw
          case rel => exact ⟨_, _, _, _, _, rfl, by omega, (by have h := HQ.out; first | exact h | (rw [Nat.sub_self] at h; exact h)), ho5, hb5, hE'⟩
          case measure => simp [lenV]; omega
      · have hp := hry.pre (n := 3) (by omega)
        have HP := hid (hp.below hbel)
        have hq := hry.piece (l := 3) (r := m) (by omega) (by omega)
        rw [List.take_of_length_le (by omega)] at hq
        have HQ := hid hq
        have HG := hid (lay_part (ys := ys) (n := 3) (Or.inl rfl))
        have HWF := hid (layB_wf (xs := ys.take 3) (fun x hx => u8_wf (hp.wf x hx)))
        clear hp hq hry
        go_wp2_with (first
          | (go_at_call 84; (with_reducible refine (bcode_laid _ _ _ _ _ HP.out (by omega) (by omega)).mono ?_); rintro e w4 ⟨d0, d1, d2, d3, rfl, hD, hb4⟩; have ho4 := hown.below hb4; have hbl4 := below_then hbel hb4; have hwf4 := HWF.out; rw [hD.out] at hwf4; have HW4 := hid hwf4; clear hwf4)
          | (refine wpList_storeNew (w0 := w4) .u8 [d0, d1, d2, d3] _ _ _ rfl rfl _ rfl rfl rfl (by kernel_rfl) rfl ?_)
          | (at_builtin; go_must (refine wpList_more CT8 rfl _ _ rfl rfl rfl (ho4.below ((Below.refl _ _).alloc (Nat.le_refl _) _)) (hbl4.alloc (hbl4.size) _) (Reads.lit .u8 114 w4 [d0, d1, d2, d3] (by simp [maxLen]) HW4.out) (by show O.length + 4 < 1000000000000; omega) ?_); intro v5 w5 ho5 hb5))
        have hE' : Hid ((O ++ [d0, d1, d2, d3]) ++ layB (ys.drop 3) = layB xs) := by
          unfold Hid
          rw [← hE.out, HG.out, hD.out, List.append_assoc]
        clear hE HG hD HW4 HWF ho4 hbl4 hown hbel hb4
        all_goals
          go_roundw
          case rel => exact ⟨_, _, _, _, _, rfl, by omega, (by have h := HQ.out; first | exact h | (rw [Nat.sub_self] at h; exact h)), ho5, hb5, hE'⟩
          case measure => simp [lenV]; omega
    · obtain rfl : m = 0 := by omega
      obtain rfl : ys = [] := List.eq_nil_of_length_eq_zero hys
      have hE' := hE.out
      rw [show layB [] = [] from rfl, List.append_nil] at hE'
      rw [hE'] at hown
      clear hE hE' hry
      go_wp2_with fail
      go_ret
      exact ⟨_, rfl, hown, hbel⟩
end Go.Proofs.YtobjdamlmaaidaaDoor

/-! C14c -/
namespace Go.Proofs.YtobjdamlmaaidaaDoor
open Go.RowKit
set_option linter.unusedVariables false

/-- Numbers of digits together, the first k of them; what is missing is 0. -/
def dat (xs : List Int) (k : Nat) : Int := valI (xs.getD k 61)
def acc6 (xs : List Int) : Nat → Int
  | 0 => 0
  | k + 1 => acc6 xs k * 64 + dat xs k
theorem dat_bd (xs : List Int) (k : Nat) : 0 ≤ dat xs k ∧ dat xs k ≤ 63 := val_bd _
theorem acc_bd (xs : List Int) (k : Nat) (h : k ≤ 3) : 0 ≤ acc6 xs k ∧ acc6 xs k ≤ 262143 := by
  have h0 := dat_bd xs 0
  have h1 := dat_bd xs 1
  have h2 := dat_bd xs 2
  have hk : k = 0 ∨ k = 1 ∨ k = 2 ∨ k = 3 := by omega
  rcases hk with rfl | rfl | rfl | rfl <;> simp only [acc6] <;> omega
theorem val_61 : valI 61 = 0 := by decide +kernel
theorem dat_at {xs : List Int} {k : Nat} {x : Int} (h : xs[k]? = some x) : dat xs k = valI x := by unfold dat; simp [List.getD, h]
theorem dat_out {xs : List Int} {k : Nat} (h : xs.length ≤ k) : dat xs k = 0 := by unfold dat; rw [List.getD_eq_getElem?_getD, List.getElem?_eq_none h]; exact val_61
/-- Three octets of what four digits make; and as many of them as are whole. -/
theorem rd_group {xs : List Int} (h1 : 1 ≤ xs.length) (h4 : xs.length ≤ 4) : rd64 (xs.map valI) = [acc6 xs 4 / 65536 % 256, acc6 xs 4 / 256 % 256, acc6 xs 4 % 256].take (xs.length * 6 / 8) := by
  match xs with
  | [a] => simp [rd64]
  | [a, b] =>
    have ha := val_bd a
    have hb := val_bd b
    have h2 := dat_out (xs := [a, b]) (k := 2) (by simp)
    have h3 := dat_out (xs := [a, b]) (k := 3) (by simp)
    unfold V6 at ha hb
    have e : acc6 [a, b] 4 = (valI a * 64 + valI b) * 4096 := by simp only [acc6, h2, h3]; rw [dat_at (x := a) rfl, dat_at (x := b) rfl]; omega
    rw [e]
    simp only [List.map_cons, List.map_nil, rd64, List.length_cons, List.length_nil, List.take_succ_cons, List.take_zero]
    exact cons2 (by omega) rfl
  | [a, b, c] =>
    have ha := val_bd a
    have hb := val_bd b
    have hc := val_bd c
    have h3 := dat_out (xs := [a, b, c]) (k := 3) (by simp)
    unfold V6 at ha hb hc
    have e : acc6 [a, b, c] 4 = ((valI a * 64 + valI b) * 64 + valI c) * 64 := by simp only [acc6, h3]; rw [dat_at (x := a) rfl, dat_at (x := b) rfl, dat_at (x := c) rfl]; omega
    rw [e]
    simp only [List.map_cons, List.map_nil, rd64, List.length_cons, List.length_nil, List.take_succ_cons, List.take_zero]
    exact cons2 (by omega) (cons2 (by omega) rfl)
  | [a, b, c, d] =>
    have ha := val_bd a
    have hb := val_bd b
    have hc := val_bd c
    have hd := val_bd d
    unfold V6 at ha hb hc hd
    have e : acc6 [a, b, c, d] 4 = ((valI a * 64 + valI b) * 64 + valI c) * 64 + valI d := by simp only [acc6]; rw [dat_at (x := a) rfl, dat_at (x := b) rfl, dat_at (x := c) rfl, dat_at (x := d) rfl]; omega
    rw [e]
    simp only [List.map_cons, List.map_nil, rd64, List.length_cons, List.length_nil, List.take_succ_cons, List.take_zero]
    exact cons2 (by omega) (cons2 (by omega) (cons2 (by omega) rfl))
  | [] => simp at h1
  | _ :: _ :: _ :: _ :: _ :: _ => simp at h4

theorem rd_four (ys : List Int) : rd64 ys = rd64 (ys.take 4) ++ rd64 (ys.drop 4) := by
  match ys with
  | [] => rfl
  | [a] => rfl
  | [a, b] => rfl
  | [a, b, c] => rfl
  | a :: b :: c :: d :: r => rfl
theorem rd_part {ys : List Int} {n : Nat} (h : n = 4 ∨ (ys.length ≤ n ∧ n ≤ 4)) : rd64 (ys.map valI) = rd64 ((ys.take n).map valI) ++ rd64 ((ys.drop n).map valI) := by
  rcases h with rfl | ⟨h, _⟩
  · rw [List.map_take, List.map_drop]; exact rd_four _
  · rw [List.take_of_length_le h, List.drop_of_length_le h]
    show _ = _ ++ []
    rw [List.append_nil]
end Go.Proofs.YtobjdamlmaaidaaDoor

/-! C14d -/
namespace Go.Proofs.YtobjdamlmaaidaaDoor
open Go.RowKit
set_option linter.unusedVariables false

/-- The first part of a row of the call's own is one. -/
theorem Own.pre {k : IntKind} {e : TypeId} {base : Nat} {w : World} {a : Option Addr} {n cap : Nat} {xs : List Int} (h : Own k e base w (.slice a n cap) xs) {m : Nat} (hm : m ≤ n) : Own k e base w (.slice a m cap) (xs.take m) := by
  obtain ⟨⟨hl, h1⟩, h2⟩ := h
  have hwf : ∀ x ∈ xs.take m, (Lit.int k x).wf = true := fun x hx => h2 x (List.mem_of_mem_take hx)
  rcases h1 with ⟨h', hn⟩ | ⟨g, c, cur, hv, hb, hg, hnc, hcm, hcs, htk⟩
  · simp only [Value.slice.injEq] at h'
    obtain ⟨rfl, rfl, rfl⟩ := h'
    obtain rfl : m = 0 := by omega
    exact Own.nil _ _ _ _
  · simp only [Value.slice.injEq] at hv
    obtain ⟨rfl, hnx, rfl⟩ := hv
    have hlx : xs.length = n := hnx.symm
    refine ⟨⟨by simp, .inr ⟨g, cap, cur, by rw [List.length_take, hlx, Nat.min_eq_left hm], hb, hg, by rw [List.length_take]; omega, hcm, hcs, ?_⟩⟩, hwf⟩
    rw [List.length_take, hlx, Nat.min_eq_left hm, Nat.mul_one, List.map_take, ← htk, List.take_take, hlx, Nat.mul_one, Nat.min_eq_left hm]
set_option maxHeartbeats 1000000 in
/-- bytes.trimRightByte: what fills up goes, as far as there is some. -/
theorem trimRightByte_c (a : Option Addr) (len cap : Nat) (xs : List Int) (n : Nat) (w : World) (hr : Reads .u8 w a len cap xs) (hn : n ≤ len) (hlast : 0 < n → xs.getD (n - 1) 0 ≠ 61) (hall : ∀ j, n ≤ j → j < len → xs.getD j 0 = 61) :
    Calls Tryd.prog 79 #[.slice a len cap, .int .u8 61] w fun e w' => e = .returned (.slice a n cap) ∧ w = w' := by
  have HR := hid hr
  have hl := hr.len_le
  have hrm := hr.room
  have HL := hid hlast
  have HA := hid hall
  clear hr hlast hall
  go_enter Tryd.func79, Tryd.ntmps79
  go_wp2_with fail
  go_loop [0] (fun s => ∃ k : Nat, n ≤ k ∧ k ≤ len ∧ s = .slice a k cap) (fun s => lenV s)
  case atStart => exact ⟨len, hn, Nat.le_refl _, rfl⟩
  case round =>
    obtain ⟨k, hk0, hk1, rfl⟩ := hrel
    by_cases h0 : 0 < k
    · obtain ⟨b, off, x, rfl, _, hc, h0x, h1x, hx⟩ := HR.out.get8 (i := k - 1) (by omega)
      have hg : xs.getD (k - 1) 0 = x := by simp [List.getD, hx.out.1]
      have hix : ((k : Int) - 1) = ((k - 1 : Nat) : Int) := by omega
      have hkp : k - 1 ≤ cap := by omega
      by_cases he : n < k
      · obtain rfl : x = 61 := by rw [← hg]; exact HA.out (k - 1) (by omega) (by omega)
        clear hg
        go_wp2_with fail
        go_round
        case rel => exact ⟨k - 1, by omega, by omega, rfl⟩
        case measure => simp [lenV]; omega
      · obtain rfl : k = n := by omega
        have hne : (x == 61) = false := by
          have := HL.out h0
          rw [hg] at this
          simpa using this
        clear hg
        go_wp2_with fail
        go_ret
        exact ⟨rfl, rfl⟩
    · obtain rfl : k = 0 := by omega
      obtain rfl : n = 0 := by omega
      go_wp2_with fail
      go_ret
      exact ⟨rfl, rfl⟩
theorem trimRightByte_t (a : Option Addr) (len cap : Nat) (xs : List Int) (n : Nat) (w : World) (hr : Reads .u8 w a len cap xs) (hn : n ≤ len) (hlast : 0 < n → xs.getD (n - 1) 0 ≠ 61) (hall : ∀ j, n ≤ j → j < len → xs.getD j 0 = 61) (h : 0 < ({ data := #[61] } : ByteArray).size) :
    Calls Tryd.prog 79 #[.slice a len cap, .int .u8 ((({ data := #[61] } : ByteArray)[0]'h).toNat : Int)] w fun e w' => e = .returned (.slice a n cap) ∧ w = w' :=
  trimRightByte_c a len cap xs n w hr hn hlast hall
set_option maxHeartbeats 1000000 in
set_option maxRecDepth 100000 in
theorem bytes_TrimRight61 (a : Option Addr) (len cap : Nat) (xs : List Int) (n : Nat) (w : World) (hr : Reads .u8 w a len cap xs) (hn : n ≤ len) (hlast : 0 < n → xs.getD (n - 1) 0 ≠ 61) (hall : ∀ j, n ≤ j → j < len → xs.getD j 0 = 61) :
    Calls Tryd.prog 66 #[.slice a len cap, .string { data := #[61] }] w fun e w' => (∃ m, e = .returned (.slice a m cap) ∧ m = n) ∧ w = w' := by
  have HT := hid (trimRightByte_t a len cap xs n w hr hn hlast hall)
  have hl := hr.len_le
  clear hr hlast hall
  by_cases h0 : len = 0
  · subst h0
    obtain rfl : n = 0 := by omega
    go_enter Tryd.func66, Tryd.ntmps66
    go_wp2_with (go_at_call 79; (with_reducible refine (HT.out _).mono ?_); rintro e w' ⟨rfl, rfl⟩)
    go_ret
    exact ⟨⟨0, rfl, rfl⟩, rfl⟩
  · have hpos : ¬ ((len : Int) = 0) := by omega
    go_enter Tryd.func66, Tryd.ntmps66
    go_wp2_with (go_at_call 79; (with_reducible refine (HT.out _).mono ?_); rintro e w' ⟨rfl, rfl⟩)
    go_ret
    exact ⟨⟨n, rfl, rfl⟩, rfl⟩
set_option maxHeartbeats 1000000 in
theorem bcode_Bare (a : Option Addr) (len cap : Nat) (xs : List Int) (w : World) (hr : Reads .u8 w a len cap xs) (hN : len < 100000000) :
    Calls Tryd.prog 55 #[.slice a len cap] w fun e w' => ∃ v, e = .returned v ∧ Own .u8 5 w.heap.size w' v (bareB xs) ∧ Below w.heap.size w w' := by
  have HR := hid hr
  have ho := fun x hx => u8_wf (hr.wf x hx)
  obtain ⟨n, hn⟩ : ∃ n, n = (bareB xs).length := ⟨_, rfl⟩
  obtain ⟨L, hL⟩ : ∃ L, L = (layB xs).length := ⟨_, rfl⟩
  have hnL : n ≤ L := by rw [hn, hL]; unfold layB fill4; rw [List.length_append]; omega
  have htk : Hid ((layB xs).take n = bareB xs) := by unfold Hid layB fill4; rw [hn, List.take_left]
  have hlast : Hid (0 < n → (layB xs).getD (n - 1) 0 ≠ 61) := by
    intro h0
    have hlt : n - 1 < (bareB xs).length := by omega
    unfold layB fill4
    rw [List.getD_eq_getElem?_getD, List.getElem?_append_left hlt, List.getElem?_eq_getElem hlt]
    rw [Option.getD_some]
    obtain ⟨v, hv, he⟩ := List.mem_map.1 (List.getElem_mem hlt)
    rw [← he]
    exact (dig_bd (v64_bd xs ho v hv)).2.2
  have hall : Hid (∀ j, n ≤ j → j < L → (layB xs).getD j 0 = 61) := by
    intro j h1 h2
    rw [hL] at h2
    unfold layB fill4 at h2 ⊢
    rw [List.getD_eq_getElem?_getD, List.getElem?_append_right (by omega)]
    rw [List.length_append, List.length_replicate] at h2
    rw [List.getElem?_replicate, if_pos (by omega)]; rfl
  have HLL := hid hL
  clear hr ho hn hL
  go_enter Tryd.func55, Tryd.ntmps55
  go_wp2_with (first
    | (go_at_call 67; (with_reducible refine (bcode_Lay _ _ _ _ _ HR.out hN).mono ?_); rintro e w1 ⟨v1, rfl, ho1, hb1⟩; obtain ⟨a1, c1, rfl, hr1⟩ := ho1.reads; rw [← HLL.out] at hr1; rw [← HLL.out])
    | (go_at_call 66; (with_reducible refine (bytes_TrimRight61 _ _ _ _ n _ hr1 hnL hlast.out hall.out).mono ?_); rintro e w2 ⟨⟨m, rfl, rfl⟩, rfl⟩))
  go_ret
  exact ⟨_, rfl, by have := ho1.pre (m := m) (by rw [← HLL.out]; exact hnL); rwa [htk.out] at this, hb1⟩
end Go.Proofs.YtobjdamlmaaidaaDoor

/-! C22a -/
namespace Go.Proofs.YtobjdamlmaaidaaDoor
open Go.RowKit
set_option linter.unusedVariables false

abbrev othS : ByteArray := { data := #[39, 40, 41, 44, 45, 46, 47, 58, 63, 32, 9, 13, 10] }
theorem oth_fin : ∀ c : Fin 128, decide (0 ≤ Lib.indexByte othS.data.toList (c.val.toUInt8)) = dirT.any (fun x => decide (x = (c.val : Int))) := by decide +kernel
theorem alnum_fin : ∀ c : Fin 128, (isB 24 (c.val : Int) || dirT.any (fun x => decide (x = (c.val : Int)))) = dirB (c.val : Int) := by decide +kernel
theorem oth_c (c : Int) (h0 : 0 ≤ c) (h1 : c ≤ 127) : decide (0 ≤ Lib.indexByte othS.data.toList c.toNat.toUInt8) = dirT.any (fun x => decide (x = c)) := by
  have := oth_fin ⟨c.toNat, by omega⟩
  simp only at this
  rwa [show ((c.toNat : Nat) : Int) = c by omega] at this
theorem alnum_dir (c : Int) (h0 : 0 ≤ c) (h1 : c ≤ 127) : (isB 24 c || dirT.any (fun x => decide (x = c))) = dirB c := by
  have := alnum_fin ⟨c.toNat, by omega⟩
  simp only at this
  rwa [show ((c.toNat : Nat) : Int) = c by omega] at this
theorem slite_oth (c : Int) (w : World) :
    Calls Tryd.prog 68 #[.string othS, .int .u8 c] w fun e w' => e = .returned (.int .i64 (Lib.indexByte othS.data.toList c.toNat.toUInt8)) ∧ w = w' := by
  have hx := ibS othS c w
  generalize Lib.indexByte othS.data.toList c.toNat.toUInt8 = I at *
  go_enter Tryd.func68, Tryd.ntmps68
  go_wp2
  go_ret
  exact ⟨rfl, rfl⟩
theorem strings_oth (c : Int) (w : World) :
    Calls Tryd.prog 57 #[.string othS, .int .u8 c] w fun e w' => e = .returned (.int .i64 (Lib.indexByte othS.data.toList c.toNat.toUInt8)) ∧ w = w' := by
  have hx := slite_oth c w
  generalize Lib.indexByte othS.data.toList c.toNat.toUInt8 = I at *
  have HX := hid hx
  clear hx
  go_enter Tryd.func57, Tryd.ntmps57
  go_wp2_with (go_at_call 68; (with_reducible refine HX.out.mono ?_); rintro e w' ⟨rfl, rfl⟩)
  go_ret
  exact ⟨rfl, rfl⟩
set_option maxRecDepth 100000 in
theorem rune_oth (c : Int) (w : World) (h0 : 0 ≤ c) (h1 : c ≤ 127) :
    Calls Tryd.prog 64 #[.string othS, .int .i32 c] w fun e w' => e = .returned (.int .i64 (Lib.indexByte othS.data.toList c.toNat.toUInt8)) ∧ w = w' := by
  have hx := strings_oth c w
  generalize Lib.indexByte othS.data.toList c.toNat.toUInt8 = I at *
  have HX := hid hx
  have hc : c < 128 := by omega
  clear hx
  go_enter Tryd.func64, Tryd.ntmps64
  go_wp2_with (go_at_call 57; (with_reducible refine HX.out.mono ?_); rintro e w' ⟨rfl, rfl⟩)
  go_ret
  exact ⟨rfl, rfl⟩
theorem has_oth (c : Int) (w : World) (h0 : 0 ≤ c) (h1 : c ≤ 127) :
    Calls Tryd.prog 53 #[.string othS, .int .i32 c] w fun e w' => e = .returned (.bool (dirT.any (fun x => decide (x = c)))) ∧ w = w' := by
  have hx := rune_oth c w h0 h1
  have hd := hid (oth_c c h0 h1)
  generalize Lib.indexByte othS.data.toList c.toNat.toUInt8 = I at *
  have HX := hid hx
  clear hx
  go_enter Tryd.func53, Tryd.ntmps53
  go_wp2_with (go_at_call 64; (with_reducible refine HX.out.mono ?_); rintro e w' ⟨rfl, rfl⟩)
  go_ret
  exact ⟨ret_bool hd.out, rfl⟩
theorem useven_Direct (c : Int) (w : World) :
    Calls Tryd.prog 44 #[.int .i32 c] w fun e w' => e = .returned (.bool (dirB c)) ∧ w = w' := by
  by_cases hb : 0 ≤ c ∧ c ≤ 127
  · obtain ⟨h0, h1⟩ := hb
    have hd := hid (alnum_dir c h0 h1)
    have hH := hid (has_oth c w h0 h1)
    have n0 : ¬ c < 0 := by omega
    have n1 : ¬ c > 127 := by omega
    generalize dirT.any (fun x => decide (x = c)) = D at *
    cases hi : isB 24 c
    all_goals
      have hd' := hd.out
      rw [hi] at hd'
      have HD := hid hd'
      clear hd hd'
      go_enter Tryd.func44, Tryd.ntmps44
      go_wp2_with (first
        | (go_at_call 52; (with_reducible refine (is_c _ _ _ h0 (by omega)).mono ?_); rintro e w' ⟨rfl, rfl⟩; rw [hi])
        | (go_at_call 53; (with_reducible refine hH.out.mono ?_); rintro e w' ⟨rfl, rfl⟩))
      go_ret
      exact ⟨ret_bool (by rw [← HD.out]; rfl), rfl⟩
  · have hd : dirB c = false := by
      cases h : dirB c
      · rfl
      · have := dir_bd h; omega
    rw [hd]
    have hK : c < 0 ∨ (¬ c < 0 ∧ 127 < c) := by omega
    clear hb hd
    rcases hK with h | ⟨h, h2⟩
    all_goals
      go_enter Tryd.func44, Tryd.ntmps44
      go_wp2_with fail
      go_ret
      exact ⟨rfl, rfl⟩
theorem useven_begins (c : Int) (w : World) :
    Calls Tryd.prog 43 #[.int .i32 c] w fun e w' => e = .returned (.bool (begB c)) ∧ w = w' := by
  cases hd : dirB c
  · have hb : begB c = (c != 43) := by unfold begB; rw [hd, Bool.eq_iff_iff]; simp
    rw [hb]
    go_enter Tryd.func43, Tryd.ntmps43
    go_wp2_with (go_at_call 44; (with_reducible refine (useven_Direct _ _).mono ?_); rintro e w' ⟨rfl, rfl⟩; rw [hd])
    go_ret
    exact ⟨rfl, rfl⟩
  · have hb : begB c = false := by unfold begB; rw [hd]; rfl
    rw [hb]
    go_enter Tryd.func43, Tryd.ntmps43
    go_wp2_with (go_at_call 44; (with_reducible refine (useven_Direct _ _).mono ?_); rintro e w' ⟨rfl, rfl⟩; rw [hd])
    go_ret
    exact ⟨rfl, rfl⟩
set_option maxHeartbeats 1000000 in
theorem idx_dirB (a : Option Addr) (len cap : Nat) (xs : List Int) (w : World) (hr : Reads .i32 w a len cap xs) :
    Calls Tryd.prog 49 #[.slice a len cap, .func (.func 44) #[] #[]] w fun e w' => e = .returned (.int .i64 (idxI dirB xs)) ∧ w = w' := by
  have hl := hr.len_le
  have HR := hid hr
  clear hr
  go_enter Tryd.func49, Tryd.ntmps49
  go_wp2
  go_loop [8] (fun i => ∃ k : Nat, k ≤ len ∧ i = .int .i64 k ∧ Hid ((xs.take k).any dirB = false)) (fun i => len - (intOf i).toNat)
  case atStart => exact ⟨0, Nat.zero_le _, rfl, rfl⟩
  case round =>
    obtain ⟨k, hk, rfl, hn⟩ := hrel
    by_cases hlt : k < len
    · obtain ⟨b, off, x, rfl, _, hc, h0, h1, hx⟩ := HR.out.getR hlt
      cases hs : dirB x
      · have H := hid hs
        go_wp2_with (go_at_call 44; (with_reducible refine (useven_Direct _ _).mono ?_); rintro e w' ⟨rfl, rfl⟩; rw [hs])
        go_round
        case rel => exact ⟨k + 1, by omega, by go_num, none_yes hx.out.2 hn.out H.out⟩
        case measure => simp [intOf]; omega
      · have H := hid hs
        go_wp2_with (go_at_call 44; (with_reducible refine (useven_Direct _ _).mono ?_); rintro e w' ⟨rfl, rfl⟩; rw [hs])
        go_ret
        exact ⟨ret_int (idx_hit hx.out.1 hn.out H.out).symm, rfl⟩
    · go_wp2
      go_ret
      exact ⟨ret_int (by rw [← HR.out.all (show len ≤ k by omega)]; exact (idx_none hn.out).symm), rfl⟩
set_option maxHeartbeats 1000000 in
theorem idx_begB (a : Option Addr) (len cap : Nat) (xs : List Int) (w : World) (hr : Reads .i32 w a len cap xs) :
    Calls Tryd.prog 49 #[.slice a len cap, .func (.func 43) #[] #[]] w fun e w' => e = .returned (.int .i64 (idxI begB xs)) ∧ w = w' := by
  have hl := hr.len_le
  have HR := hid hr
  clear hr
  go_enter Tryd.func49, Tryd.ntmps49
  go_wp2
  go_loop [8] (fun i => ∃ k : Nat, k ≤ len ∧ i = .int .i64 k ∧ Hid ((xs.take k).any begB = false)) (fun i => len - (intOf i).toNat)
  case atStart => exact ⟨0, Nat.zero_le _, rfl, rfl⟩
  case round =>
    obtain ⟨k, hk, rfl, hn⟩ := hrel
    by_cases hlt : k < len
    · obtain ⟨b, off, x, rfl, _, hc, h0, h1, hx⟩ := HR.out.getR hlt
      cases hs : begB x
      · have H := hid hs
        go_wp2_with (go_at_call 43; (with_reducible refine (useven_begins _ _).mono ?_); rintro e w' ⟨rfl, rfl⟩; rw [hs])
        go_round
        case rel => exact ⟨k + 1, by omega, by go_num, none_yes hx.out.2 hn.out H.out⟩
        case measure => simp [intOf]; omega
      · have H := hid hs
        go_wp2_with (go_at_call 43; (with_reducible refine (useven_begins _ _).mono ?_); rintro e w' ⟨rfl, rfl⟩; rw [hs])
        go_ret
        exact ⟨ret_int (idx_hit hx.out.1 hn.out H.out).symm, rfl⟩
    · go_wp2
      go_ret
      exact ⟨ret_int (by rw [← HR.out.all (show len ≤ k by omega)]; exact (idx_none hn.out).symm), rfl⟩
theorem runs_more (B : Nat) (T : TypeId) (g : Value → Array Value) (hg0 : ∀ v, (g v)[0]? = some v) (len cap : Nat) (a : Option Addr) (w : World) (hB : Blk w B T (g (.slice a len cap))) :
    Calls Tryd.prog 29 #[.pointer (some ⟨B, 0, none⟩)] w fun e w' => e = .returned (.bool (decide (0 < len))) ∧ w = w' := by
  have c0 := hB.cell (hg0 (.slice a len cap))
  clear hB hg0
  go_enter Tryd.func29, Tryd.ntmps29
  go_wp2_with fail
  go_ret
  exact ⟨ret_bool (by simp), rfl⟩
theorem Blk.put {W : World} {B : Nat} {T : TypeId} {g : Value → Array Value} {u : Value} (h : Blk W B T (g u)) (hgs : ∀ u v, (g u).setIfInBounds 0 v = g v) (v : Value) : Blk (W.setCell ⟨B, 0, none⟩ v) B T (g v) := by
  have := h.set 0 v
  rwa [hgs] at this
set_option maxHeartbeats 1000000 in
theorem runs_until (fv : Value) (f : Int → Bool) (hI : ∀ a len cap xs w, Reads .i32 w a len cap xs → Calls Tryd.prog 49 #[.slice a len cap, fv] w fun e w' => e = .returned (.int .i64 (idxI f xs)) ∧ w = w')
    (B : Nat) (T : TypeId) (g : Value → Array Value) (hg0 : ∀ v, (g v)[0]? = some v) (hgs : ∀ u v, (g u).setIfInBounds 0 v = g v) (a : Option Addr) (len cap : Nat) (xs : List Int) (w0 w : World) (hr : Reads .i32 w0 a len cap xs) (hb : Below w0.heap.size w0 w)
    (hB : Blk w B T (g (.slice a len cap))) (hN : len < 10000000000) :
    Calls Tryd.prog 42 #[.pointer (some ⟨B, 0, none⟩), fv] w fun e w' => ∃ m c1 a2 c2, m = cntF f xs ∧ e = .returned (.slice a m c1) ∧ Reads .i32 w0 a m c1 (xs.take m) ∧ Reads .i32 w0 a2 (len - m) c2 (xs.drop m) ∧ w.grownBy w' (some B) ∧ Blk w' B T (g (.slice a2 (len - m) c2)) := by
  have hlt := hB.lt
  have f0 := hB.frozen 0
  have c0 := hB.cell (hg0 (.slice a len cap))
  have hx := idx_cntF f xs
  have HI := hid (hI a len cap xs w (hr.below hb))
  have hrm := hr.room
  have htp := hr.len_le
  have hsz := hr.size
  obtain ⟨m, hm⟩ : ∃ m, m = cntF f xs := ⟨_, rfl⟩
  have hml : m ≤ len := by rw [hm, ← hsz]; exact cntF_le f xs
  have hp1 := hid (hr.pre hml)
  have hp2 := hr.piece (l := m) (r := len) hml (Nat.le_refl _)
  rw [List.take_of_length_le (by omega)] at hp2
  have HM := hid hm
  have HB := hid hB
  have HGS := hid hgs
  have q0 : (0 : Int) ≤ (m : Int) := by omega
  have q1 : (m : Int) ≤ (len : Int) := by omega
  have q2 : (m : Int) ≤ (cap : Int) := by omega
  have q3 : (len : Int) ≤ (cap : Int) := by omega
  by_cases ha : xs.any f = true
  · rw [if_pos ha, ← hm] at hx
    rw [hx] at HI
    have n0 : ¬ (m : Int) < 0 := by omega
    clear hx ha hm hI hg0 hgs hr hB hsz
    by_cases hc : cap = m
    all_goals
      first | (rw [if_pos hc] at hp2; have r3 : (cap = m) = True := eq_true hc; clear hc) | (rw [if_neg hc] at hp2; have r3 : (cap = m) = False := eq_false hc; clear hc)
      have HP2 := hid hp2
      clear hp2
      go_enter Tryd.func42, Tryd.ntmps42
      go_wp2_with (go_at_call 49; (with_reducible refine HI.out.mono ?_); rintro e w' ⟨rfl, rfl⟩)
      go_ret
      exact ⟨m, _, _, _, HM.out, rfl, hp1.out, HP2.out, grownBy_set _ _ _ _, HB.out.put HGS.out _⟩
  · rw [if_neg ha] at hx
    have ha' : xs.any f = false := by simpa using ha
    obtain rfl : m = len := by rw [hm, cntF_all ha', hsz]
    rw [hx] at HI
    clear hx ha ha' hm hI hg0 hgs hr hB hsz
    by_cases hc : cap = m
    all_goals
      first | (rw [if_pos hc] at hp2; have r3 : (cap = m) = True := eq_true hc; clear hc) | (rw [if_neg hc] at hp2; have r3 : (cap = m) = False := eq_false hc; clear hc)
      have HP2 := hid hp2
      clear hp2
      go_enter Tryd.func42, Tryd.ntmps42
      go_wp2_with (go_at_call 49; (with_reducible refine HI.out.mono ?_); rintro e w' ⟨rfl, rfl⟩)
      go_ret
      exact ⟨m, _, _, _, HM.out, rfl, hp1.out, HP2.out, grownBy_set _ _ _ _, by rw [Nat.sub_self]; exact HB.out.put HGS.out _⟩
set_option maxHeartbeats 1000000 in
theorem runs_next (B : Nat) (T : TypeId) (g : Value → Array Value) (hg0 : ∀ v, (g v)[0]? = some v) (hgs : ∀ u v, (g u).setIfInBounds 0 v = g v) (a : Option Addr) (len cap : Nat) (xs : List Int) (w0 w : World) (hr : Reads .i32 w0 a len cap xs) (hb : Below w0.heap.size w0 w)
    (hB : Blk w B T (g (.slice a len cap))) (hDB : w0.heap.size ≤ B) (hN : len < 10000000000) :
    Calls Tryd.prog 30 #[.pointer (some ⟨B, 0, none⟩)] w fun e w' => ∃ m j c1 a2 c2 a3 c3, m = cntF begB xs ∧ j = cntF dirB (xs.drop m) ∧ e = .returned (.tuple #[.slice a m c1, .slice a2 j c2]) ∧ Reads .i32 w0 a m c1 (xs.take m) ∧ Reads .i32 w0 a2 j c2 ((xs.drop m).take j) ∧ Reads .i32 w0 a3 (len - m - j) c3 ((xs.drop m).drop j) ∧ w.grownBy w' (some B) ∧ Blk w' B T (g (.slice a3 (len - m - j) c3)) := by
  have H1 := hid (runs_until _ begB idx_begB B T g hg0 hgs a len cap xs w0 w hr hb hB hN)
  have H2 := hid (fun a' len' cap' xs' w' hr' hb' hB' hN' => runs_until _ dirB idx_dirB B T g hg0 hgs a' len' cap' xs' w0 w' hr' hb' hB' hN')
  have hsz := hb.size
  have HB := hid hb
  clear hg0 hgs hr hb hB
  go_enter Tryd.func30, Tryd.ntmps30
  go_wp2_with (first
    | (go_at_call 42; (with_reducible refine H1.out.mono ?_); rintro e w1 ⟨m, c1, a2, c2, hm, rfl, r1, r2, g1, B1⟩; have HM := hid hm; clear hm; have b1 := below_beside HB.out g1 hsz hDB)
    | (go_at_call 42; (with_reducible refine (H2.out _ _ _ _ _ r2 b1 B1 (by omega)).mono ?_); rintro e w2 ⟨j, c3, a3, c4, hj, rfl, r3, r4, g2, B2⟩; have HJ := hid hj; clear hj))
  go_ret2
  exact ⟨m, j, _, _, _, _, _, HM.out, HJ.out, rfl, r1, r3, r4, grownBy_t g1 g2, B2⟩
end Go.Proofs.YtobjdamlmaaidaaDoor

/-! C22 -/
namespace Go.Proofs.YtobjdamlmaaidaaDoor
open Go.RowKit
set_option linter.unusedVariables false

set_option maxHeartbeats 2000000 in
theorem useven_Code (a : Option Addr) (len cap : Nat) (xs : List Int) (w : World) (hr : Reads .i32 w a len cap xs) (hN : len < 1000000) :
    Calls Tryd.prog 45 #[.slice a len cap] w fun e w' => ∃ v, e = .returned v ∧ Own .u8 5 w.heap.size w' v (codU xs) ∧ Below w.heap.size w w' := by
  unfold codU
  by_cases hs : xs.all scB = true
  · rw [if_pos hs]
    have hu : (unL xs).length ≤ 2 * len := by have := unL_len xs; have := hr.size; omega
    have ho : (ocU (unL xs)).length ≤ 4 * len := by have := ocU_len (unL xs); omega
    have HL := hid (units_Lay a len cap xs w hr (by omega) hs)
    generalize unL xs = U at hu ho HL ⊢
    clear hs hr
    go_enter Tryd.func45, Tryd.ntmps45
    go_wp2_with (first
      | (go_at_call 54; (with_reducible refine HL.out.mono ?_); rintro e w1 ⟨a1, c1, rfl, r1, b1⟩)
      | (go_at_call 56; (with_reducible refine (units_Octets _ _ _ _ _ r1 (by omega)).mono ?_); rintro e w2 ⟨a2, c2, rfl, r2, b2⟩)
      | (go_at_call 55; (with_reducible refine (bcode_Bare _ _ _ _ _ r2 (by omega)).mono ?_); rintro e w3 ⟨v3, rfl, o3, b3⟩))
    go_ret
    exact ⟨_, rfl, own_mono o3 (Nat.le_trans b1.size b2.size), below_then (below_then b1 b2) b3⟩
  · rw [if_neg hs]
    have HL := hid (units_LayNo a len cap xs w hr (by simpa using hs))
    have e0 : Hid (bareB (ocU []) = []) := rfl
    clear hs hr
    go_enter Tryd.func45, Tryd.ntmps45
    go_wp2_with (first
      | (go_at_call 54; (with_reducible refine HL.out.mono ?_); rintro e w1 ⟨rfl, rfl⟩)
      | (go_at_call 56; (with_reducible refine (units_Octets _ _ _ _ _ (Reads.nil .u16 _ none 0 (Nat.zero_le _)) (by omega)).mono ?_); rintro e w2 ⟨a2, c2, rfl, r2, b2⟩)
      | (go_at_call 55; (with_reducible refine (bcode_Bare _ _ _ _ _ r2 (by decide)).mono ?_); rintro e w3 ⟨v3, rfl, o3, b3⟩))
    go_ret
    rw [e0.out] at o3
    exact ⟨_, rfl, own_mono o3 b2.size, below_then b2 b3⟩
set_option maxRecDepth 100000 in
set_option maxHeartbeats 2000000 in
theorem layer_alone (B : Nat) (rv v : Value) (a : Option Addr) (len cap : Nat) (xs O : List Int) (w0 w : World) (hr : Reads .i32 w0 a len cap xs) (hb : Below w0.heap.size w0 w) (hB : Blk w B 61 #[rv, v]) (hDB : w0.heap.size ≤ B)
    (ho : Own .u8 5 w0.heap.size w v O) (hx : ∀ c ∈ xs, begB c = false) (hN : len < 1000000) (hO : O.length < 100000000) :
    Calls Tryd.prog 31 #[.pointer (some ⟨B, 0, none⟩), .slice a len cap] w fun e w' => (∃ r, e = .returned r) ∧ ∃ v', Blk w' B 61 #[rv, v'] ∧ Own .u8 5 w0.heap.size w' v' (O ++ aloneU xs) ∧ Below w0.heap.size w0 w' := by
  have HR := hid hr
  have HX := hid hx
  have hl := hr.len_le
  have hT : (61 : Nat) ≠ 5 := by decide
  clear hr hx
  go_enter Tryd.func31, Tryd.ntmps31
  go_wp2_with fail
  go_loopw [8] (fun i wr => ∃ (k : Nat) (u : Value), k ≤ len ∧ i = .int .i64 k ∧ Blk wr B 61 #[rv, u] ∧ Own .u8 5 w0.heap.size wr u (O ++ aloneU (xs.take k)) ∧ Below w0.heap.size w0 wr) (fun i _ => len - (intOf i).toNat)
  case atStart => exact ⟨0, v, Nat.zero_le _, rfl, hB, by simpa [aloneU] using ho, hb⟩
  case round =>
    obtain ⟨k, u, hk, rfl, hBk, hown, hbel⟩ := hrel
    have hll := aloneU_len (xs.take k)
    rw [List.length_take] at hll
    by_cases hlt : k < len
    · obtain ⟨b, off, x, rfl, _, hcx, h0, h1, hxx⟩ := (HR.out.below hbel).getR hlt
      have e1 := hid (show aloneU (xs.take (k + 1)) = aloneU (xs.take k) ++ aloneU [x] by rw [hxx.out.2]; unfold aloneU; rw [List.flatMap_append])
      have hno := beg_no (HX.out x (List.mem_of_getElem? hxx.out.1))
      have c1 := hBk.cell (i := 1) (v := u) rfl
      have hBd : 9 ≤ x ∧ x ≤ 122 := by
        rcases hno with h | ⟨_, rfl⟩
        · exact dir_bd h
        · decide
      obtain ⟨x9, x122⟩ := hBd
      have hwx : ∀ y ∈ [x], (Lit.int .u8 y).wf = true := by intro y hy; simp at hy; subst hy; exact mk_u8 (by omega) (by omega)
      have HWX := hid hwx
      clear hno hwx h0 h1
      by_cases h43 : x = 43
      · subst h43
        have e2 : Hid (aloneU [43] = [43, 45]) := rfl
        have hw45 : Hid (∀ y ∈ [(45 : Int)], (Lit.int .u8 y).wf = true) := by intro y hy; simp at hy; subst hy; rfl
        go_wp2_with (first
          | (at_builtin; have hX := ho4; clear hX; go_must (refine wpList_pushsB CT8 [45] rfl _ _ rfl rfl ⟨1, by rw [size_set]; rfl⟩ ho4 hb4 hB4 hT (by simp only [List.length_append, List.length_cons, List.length_nil]; omega) hw45.out ?_); intro v5 w5 ho5 hb5 hB5; obtain ⟨a5, n5, k5, rfl⟩ := ho5.shape; have l5 := hB5.lt; have f5 := hB5.frozen 1; have c5 := hB5.cell (i := 1) (v := .slice a3 n3 k3) rfl; have hB6 : Blk (w5.setCell ⟨B, 1, none⟩ (.slice a5 n5 k5)) B 61 #[rv, .slice a5 n5 k5] := hB5.set 1 _; have ho6 := ho5.beside hB5 hT (grownBy_set w5 B 1 (.slice a5 n5 k5)); have hb6 := below_beside hb5 (grownBy_set w5 B 1 (.slice a5 n5 k5)) hb5.size hDB)
          | (at_builtin; go_must (refine wpList_pushsB CT8 [43] rfl _ _ rfl rfl ⟨_, rfl⟩ hown hbel hBk hT (by simp only [List.length_append, List.length_cons, List.length_nil]; omega) HWX.out ?_); intro v3 w3 ho3 hb3 hB3; obtain ⟨a3, n3, k3, rfl⟩ := ho3.shape; have l3 := hB3.lt; have f3 := hB3.frozen 1; have c3 := hB3.cell (i := 1) (v := u) rfl; have hB4 : Blk (w3.setCell ⟨B, 1, none⟩ (.slice a3 n3 k3)) B 61 #[rv, .slice a3 n3 k3] := hB3.set 1 _; have ho4 := ho3.beside hB3 hT (grownBy_set w3 B 1 (.slice a3 n3 k3)); have hb4 := below_beside hb3 (grownBy_set w3 B 1 (.slice a3 n3 k3)) hb3.size hDB; have c4 := hB4.cell (i := 1) (v := .slice a3 n3 k3) rfl))
        go_roundw
        case rel => exact ⟨k + 1, _, by omega, by go_num, hB6, (by have e := e1.out; rw [e2.out] at e; rw [e]; simpa using ho6), hb6⟩
        case measure => simp [intOf]; omega
      · have e2 : Hid (aloneU [x] = [x]) := by unfold Hid aloneU; simp [h43]
        have b43 : (x == 43) = false := by simpa using h43
        clear h43
        go_wp2_with (first
          | (at_builtin; go_must (refine wpList_pushsB CT8 [x] rfl _ _ rfl rfl ⟨_, rfl⟩ hown hbel hBk hT (by simp only [List.length_append, List.length_cons, List.length_nil]; omega) HWX.out ?_); intro v3 w3 ho3 hb3 hB3; obtain ⟨a3, n3, k3, rfl⟩ := ho3.shape; have l3 := hB3.lt; have f3 := hB3.frozen 1; have c3 := hB3.cell (i := 1) (v := u) rfl; have hB4 : Blk (w3.setCell ⟨B, 1, none⟩ (.slice a3 n3 k3)) B 61 #[rv, .slice a3 n3 k3] := hB3.set 1 _; have ho4 := ho3.beside hB3 hT (grownBy_set w3 B 1 (.slice a3 n3 k3)); have hb4 := below_beside hb3 (grownBy_set w3 B 1 (.slice a3 n3 k3)) hb3.size hDB))
        go_roundw
        case rel => exact ⟨k + 1, _, by omega, by go_num, hB4, (by have e := e1.out; rw [e2.out] at e; rw [e, ← List.append_assoc]; exact ho4), hb4⟩
        case measure => simp [intOf]; omega
    · have hA := hown
      rw [HR.out.all (by omega)] at hA
      have HA := hid hA
      clear hA hown
      go_wp2_with fail
      go_end0
      exact ⟨⟨_, rfl⟩, u, hBk, HA.out, hbel⟩
set_option maxRecDepth 100000 in
set_option maxHeartbeats 2000000 in
theorem layer_coded (B : Nat) (rv v : Value) (a : Option Addr) (len cap : Nat) (xs O : List Int) (w0 w : World) (hr : Reads .i32 w0 a len cap xs) (hb : Below w0.heap.size w0 w) (hB : Blk w B 61 #[rv, v]) (hDB : w0.heap.size ≤ B)
    (ho : Own .u8 5 w0.heap.size w v O) (hN : len < 1000000) (hO : O.length < 100000000) :
    Calls Tryd.prog 32 #[.pointer (some ⟨B, 0, none⟩), .slice a len cap] w fun e w' => (∃ r, e = .returned r) ∧ ∃ v', Blk w' B 61 #[rv, v'] ∧ Own .u8 5 w0.heap.size w' v' (O ++ closeU xs) ∧ Below w0.heap.size w0 w' := by
  have HR := hid hr
  have hl := hr.len_le
  have hsz := hr.size
  have hT : (61 : Nat) ≠ 5 := by decide
  have hcl := codU_le xs
  rw [hsz] at hcl
  by_cases h0 : len = 0
  · subst h0
    obtain rfl : xs = [] := List.eq_nil_of_length_eq_zero hsz
    have e0 : Hid (O ++ closeU [] = O) := by unfold Hid closeU; simp
    clear hr hcl
    go_enter Tryd.func32, Tryd.ntmps32
    go_wp2_with fail
    go_end0
    exact ⟨⟨_, rfl⟩, v, hB, by rw [e0.out]; exact ho, hb⟩
  · have hpos : 0 < len := by omega
    have e0 : Hid (O ++ closeU xs = O ++ [43] ++ codU xs ++ [45]) := by
      unfold Hid closeU
      rw [if_neg (by intro h; rw [h] at hsz; simp at hsz; omega)]
      simp
    have HC := hid (fun W (hbW : Below w0.heap.size w0 W) => useven_Code a len cap xs W (hr.below hbW) hN)
    generalize codU xs = CU at hcl e0 HC
    have c1 := hB.cell (i := 1) (v := v) rfl
    have hw43 : Hid (∀ y ∈ [(43 : Int)], (Lit.int .u8 y).wf = true) := by intro y hy; simp at hy; subst hy; rfl
    have hw45 : Hid (∀ y ∈ [(45 : Int)], (Lit.int .u8 y).wf = true) := by intro y hy; simp at hy; subst hy; rfl
    clear hr h0 hsz
    go_enter Tryd.func32, Tryd.ntmps32
    go_wp2_with (first
      | (at_builtin; go_must (refine wpList_pushsB CT8 [43] rfl _ _ rfl rfl ⟨_, rfl⟩ ho hb hB hT (by simp only [List.length_cons, List.length_nil]; omega) hw43.out ?_); intro v3 w3 ho3 hb3 hB3; obtain ⟨a3, n3, k3, rfl⟩ := ho3.shape; have l3 := hB3.lt; have f3 := hB3.frozen 1; have c3 := hB3.cell (i := 1) (v := v) rfl; have hB4 : Blk (w3.setCell ⟨B, 1, none⟩ (.slice a3 n3 k3)) B 61 #[rv, .slice a3 n3 k3] := hB3.set 1 _; have ho4 := ho3.beside hB3 hT (grownBy_set w3 B 1 (.slice a3 n3 k3)); have hb4 := below_beside hb3 (grownBy_set w3 B 1 (.slice a3 n3 k3)) hb3.size hDB))
    generalize w3.setCell ⟨B, 1, none⟩ (.slice a3 n3 k3) = W at hB4 ho4 hb4 ⊢
    have c4 := hB4.cell (i := 1) (v := .slice a3 n3 k3) rfl
    have c4d : W.drew.cell? ⟨B, 1, none⟩ = some (.slice a3 n3 k3) := c4
    have hBd : Blk W.drew B 61 #[rv, .slice a3 n3 k3] := hB4
    have HX := hid (And.intro hBd (And.intro ho4.drew' (below_drew hb4)))
    clear hB3 ho3 hb3 l3 f3 c3 hB4 ho4 hb4 hB ho hb c1 hBd
    go_region_law (first
      | (refine step_moreB (w0 := w0) CT8 rfl (.tmp 20) (.tmp 22) rfl rfl rfl ho6 hb6 hB6 hT hr6 (by simp only [List.length_append, List.length_cons, List.length_nil]; omega) ?_; intro a7 n7 k7 w7 ho7 hb7 hB7; have l7 := hB7.lt; have f7 := hB7.frozen 1; have c7 := hB7.cell (i := 1) (v := .slice a3 n3 k3) rfl)
      | (go_simp; go_at_call 45; (with_reducible refine (HC.out _ HX.out.2.2).mono ?_); rintro e w5 ⟨v5, rfl, ho5, hb5⟩; obtain ⟨a5, k5, rfl, hr6⟩ := ho5.reads; have hB6 : Blk w5 B 61 #[rv, .slice a3 n3 k3] := HX.out.1.below hb5 HX.out.1.lt; have ho6 := HX.out.2.1.below hb5; have hb6 := below_then' HX.out.2.2 hb5 (Nat.le_refl _); have c6 := hB6.cell (i := 1) (v := .slice a3 n3 k3) rfl))
    all_goals
      have hB8 : Blk (w7.setCell ⟨B, 1, none⟩ (.slice a7 n7 k7)) B 61 #[rv, .slice a7 n7 k7] := hB7.set 1 _
      have ho8 := ho7.beside hB7 hT (grownBy_set w7 B 1 (.slice a7 n7 k7))
      have hb8 := below_beside hb7 (grownBy_set w7 B 1 (.slice a7 n7 k7)) hb7.size hDB
      have c8 := hB8.cell (i := 1) (v := .slice a7 n7 k7) rfl
      go_wp2_with (at_builtin; go_must (refine wpList_pushsB CT8 [45] rfl _ _ rfl rfl ⟨1, by rw [size_set]; rfl⟩ ho8 hb8 hB8 hT (by simp only [List.length_append, List.length_cons, List.length_nil]; omega) hw45.out ?_); intro v9 w9 ho9 hb9 hB9; obtain ⟨a9, n9, k9, rfl⟩ := ho9.shape; have l9 := hB9.lt; have f9 := hB9.frozen 1; have c9 := hB9.cell (i := 1) (v := .slice a7 n7 k7) rfl; have hB10 : Blk (w9.setCell ⟨B, 1, none⟩ (.slice a9 n9 k9)) B 61 #[rv, .slice a9 n9 k9] := hB9.set 1 _; have ho10 := ho9.beside hB9 hT (grownBy_set w9 B 1 (.slice a9 n9 k9)); have hb10 := below_beside hb9 (grownBy_set w9 B 1 (.slice a9 n9 k9)) hb9.size hDB)
      go_end0
      exact ⟨⟨_, rfl⟩, _, hB10, by rw [e0.out]; exact ho10, hb10⟩
theorem closeU_len (t : List Int) : (closeU t).length ≤ 10 * t.length := by
  have := codU_le t
  unfold closeU
  split
  · simp
  · have : 0 < t.length := by rw [List.length_pos_iff]; assumption
    simp only [List.length_cons, List.length_append, List.length_nil]
    omega
set_option maxRecDepth 100000 in
set_option maxHeartbeats 2000000 in
theorem useven_Lay (a : Option Addr) (len cap : Nat) (xs : List Int) (w : World) (hr : Reads .i32 w a len cap xs) (hN : len < 1000000) :
    Calls Tryd.prog 20 #[.slice a len cap] w fun e w' => ∃ v, e = .returned (.tuple #[v, .int .i64 (lay7E xs)]) ∧ Own .u8 5 w.heap.size w' v (lay7 xs) ∧ Below w.heap.size w w' := by
  have HR := hid hr
  have hl := hr.len_le
  have hT : (61 : Nat) ≠ 5 := by decide
  have hR := hid (scalar_Right a len cap xs w hr)
  unfold lay7 lay7E
  clear hr
  cases hs : xs.all scB
  · rw [hs] at hR
    simp only [Bool.false_eq_true, if_false]
    go_enter Tryd.func20, Tryd.ntmps20
    go_wp2_with (go_at_call 28; (with_reducible refine hR.out.mono ?_); rintro e w' ⟨rfl, rfl⟩)
    go_ret2
    exact ⟨_, rfl, Own.nil _ _ _ _, Below.refl _ _⟩
  · rw [hs] at hR
    simp only [if_true]
    go_enter Tryd.func20, Tryd.ntmps20
    go_wp2_with (first
      | (go_at_call 28; (with_reducible refine hR.out.mono ?_); rintro e w' ⟨rfl, rfl⟩)
      | (at_make; (refine wpList_make0 (n := len) CT8 rfl _ _ rfl rfl rfl (Below.refl _ _) (by omega) ?_); intro v1 w1 ho1 hb1; obtain ⟨a1, n1, c1, rfl⟩ := ho1.shape))
    have hB1 : Blk (w1.alloc (.cells #[.slice a len cap, .slice a1 n1 c1] 61)) w1.heap.size 61 #[.slice a len cap, .slice a1 n1 c1] := Blk.new _ _ _
    have hb2 := hb1.alloc hb1.size (.cells #[.slice a len cap, .slice a1 n1 c1] 61)
    have ho2 : Own .u8 5 w.heap.size (w1.alloc (.cells #[.slice a len cap, .slice a1 n1 c1] 61)) (.slice a1 n1 c1) [] := ho1.below ((Below.refl _ _).alloc (Nat.le_refl _) _)
    have hDB := hb1.size
    generalize w1.alloc (.cells #[.slice a len cap, .slice a1 n1 c1] 61) = W at hB1 hb2 ho2 ⊢
    generalize w1.heap.size = B at hB1 hDB ⊢
    clear ho1 hb1 hR hs
    go_loopw [] (fun wr => ∃ (a' : Option Addr) (m c' : Nat) (ys O : List Int) (v : Value), m ≤ len ∧ O.length + 10 * m ≤ 10 * len ∧ Reads .i32 w a' m c' ys ∧ Blk wr B 61 #[.slice a' m c', v] ∧ Own .u8 5 w.heap.size wr v O ∧ Below w.heap.size w wr ∧ Hid (O ++ layU ys [] = layU xs [])) (fun wr => lenV ((wr.cell? ⟨B, 0, none⟩).getD undef))
    case atStart => exact ⟨a, len, cap, xs, [], _, Nat.le_refl _, by simp, HR.out, hB1, ho2, hb2, rfl⟩
    case round =>
      obtain ⟨a', m, c', ys, O, v, hm, hO, hry, hB, hown, hbel, hE⟩ := hrel
      have c0 := hB.cell (i := 0) (v := .slice a' m c') rfl
      have HM := hid (runs_more B 61 (fun x => #[x, v]) (fun _ => rfl) m c' a' wr hB)
      obtain ⟨M, J, hM, hJ, hM1, hJ1, hp, hall, _, hlay, _⟩ := layU_next ys
      have hys := hry.size
      have hOl := hO
      by_cases h0 : 0 < m
      · rw [decide_eq_true h0] at HM
        have hMJ : 0 < M + J := hp (by intro h; rw [h] at hys; simp at hys; omega)
        have HN := hid (runs_next B 61 (fun x => #[x, v]) (fun _ => rfl) (fun _ _ => rfl) a' m c' ys w wr hry hbel hB hDB (by omega))
        have HA := hid (fun (A : Option Addr) (C : Nat) (w2 : World) (R : Value) (r1 : Reads .i32 w A M C (ys.take M)) (hb : Below w.heap.size w w2) (hBB : Blk w2 B 61 #[R, v]) (ho : Own .u8 5 w.heap.size w2 v O) => layer_alone B R v A M C (ys.take M) O w w2 r1 hb hBB hDB ho hall (by omega) (by omega))
        have hal := aloneU_len (ys.take M)
        have hcl := closeU_len ((ys.drop M).take J)
        rw [List.length_take] at hal hcl
        rw [List.length_drop] at hcl
        have hol : (O ++ aloneU (ys.take M)).length < 100000000 := by rw [List.length_append]; omega
        have hO2 : (O ++ aloneU (ys.take M) ++ closeU ((ys.drop M).take J)).length + 10 * (m - M - J) ≤ 10 * len := by rw [List.length_append, List.length_append]; omega
        have HE : Hid (O ++ aloneU (ys.take M) ++ closeU ((ys.drop M).take J) ++ layU ((ys.drop M).drop J) [] = layU xs []) := by
          have e := hE.out
          rw [hlay] at e
          unfold Hid
          rw [← e]
          simp only [List.append_assoc]
        have HMM := hid hM
        have HJJ := hid hJ
        have HL := hid hol
        clear hM hJ hp hall hlay hE hal hcl hol
        go_wp2_with (first
          | (go_at_call 29; (with_reducible refine HM.out.mono ?_); rintro e w' ⟨rfl, rfl⟩)
          | (go_at_call 30; (with_reducible refine HN.out.mono ?_); rintro e w2 ⟨M', J', k1, a2, k2, a3, k3, hM', hJ', rfl, r1, r2, r3, g1, B1⟩; obtain rfl : M' = M := hM'.trans HMM.out.symm; obtain rfl : J' = J := hJ'.trans HJJ.out.symm; clear hM' hJ'; have o1 := hown.beside hB hT g1; have b1 := below_beside hbel g1 hbel.size hDB)
          | (go_at_call 31; (with_reducible refine (HA.out _ _ _ _ r1 b1 B1 o1).mono ?_); rintro e w4 ⟨⟨_, rfl⟩, v4, B4, o4, b4⟩)
          | (go_at_call 32; (with_reducible refine (layer_coded B _ v4 _ _ _ _ _ w w4 r2 b4 B4 hDB o4 (by omega) HL.out).mono ?_); rintro e w6 ⟨⟨_, rfl⟩, v6, B6, o6, b6⟩))
        have c6 := B6.cell (i := 0) rfl
        go_roundw
        case rel => exact ⟨a3, _, k3, _, _, v6, by omega, hO2, r3, B6, o6, b6, HE⟩
        case measure => rw [c0, c6]; simp [lenV]; omega
      · rw [decide_eq_false h0] at HM
        obtain rfl : ys = [] := List.eq_nil_of_length_eq_zero (by omega)
        have HE : Hid (O = layU xs []) := by
          have e := hE.out
          unfold Hid
          rw [← e]; simp [layU, closeU]
        have c1 := hB.cell (i := 1) (v := v) rfl
        clear hM hJ hp hall hlay hE
        go_wp2_with (go_at_call 29; (with_reducible refine HM.out.mono ?_); rintro e w' ⟨rfl, rfl⟩)
        go_ret2
        exact ⟨v, rfl, by rw [← HE.out]; exact hown, hbel⟩
end Go.Proofs.YtobjdamlmaaidaaDoor

/-! C23e -/
namespace Go.Proofs.YtobjdamlmaaidaaDoor
open Go.RowKit
set_option linter.unusedVariables false

theorem layU_le : ∀ (n : Nat) (xs : List Int), xs.length ≤ n → (layU xs []).length ≤ 10 * xs.length
  | 0, xs, h => by
    obtain rfl : xs = [] := List.eq_nil_of_length_eq_zero (by omega)
    simp [layU, closeU]
  | n + 1, xs, h => by
    obtain ⟨m, j, _, _, hm, hj, hp, _, _, hlay, _⟩ := layU_next xs
    by_cases h0 : xs = []
    · subst h0; simp [layU, closeU]
    · have := hp h0
      have h1 := aloneU_len (xs.take m)
      have h2 := closeU_len ((xs.drop m).take j)
      have h3 := layU_le n ((xs.drop m).drop j) (by rw [List.length_drop, List.length_drop]; omega)
      rw [hlay, List.length_append, List.length_append]
      simp only [List.length_take, List.length_drop] at h1 h2 h3
      omega
theorem lay7_le (t : List Int) : (lay7 t).length ≤ 10 * t.length := by
  unfold lay7
  split
  · exact layU_le _ t (Nat.le_refl _)
  · simp
theorem lay7_ok {t : List Int} (h : t.all scB = true) : lay7E t = 0 := by unfold lay7E; rw [if_pos h]
theorem rd7S_laid {t : List Int} (h : t.all scB = true) : rd7 (lay7 t) = t ∧ rd7E (lay7 t) = 0 ∧ rd7S (lay7 t) = t := by
  obtain ⟨h1, h2⟩ := read_lay7 h
  refine ⟨h1, h2, ?_⟩
  unfold rd7S
  unfold rd7E at h2
  split
  · exact h1
  · rename_i hn
    rw [if_neg hn] at h2
    cases h2
set_option maxHeartbeats 1000000 in
theorem sread_Again (a : Option Addr) (len cap : Nat) (xs : List Int) (w : World) (hr : Reads .u8 w a len cap xs) (hN : len < 100000) :
    Calls Tryd.prog 9 #[.slice a len cap] w fun e w' => ∃ a' l' c', e = .returned (.tuple #[.slice a' l' c', .int .i64 0]) ∧ Reads .u8 w' a' l' c' (lay7 (rd7 xs)) ∧ Below w.heap.size w w' := by
  have HR := hid (sread_Read a len cap xs w hr hN)
  have hle := rd7_len xs
  have hE := lay7_ok (rd7_sc xs (fun x hx => (wf_u8 (hr.wf x hx)).1))
  have hsz := hr.size
  have HL := hid (fun W a1 l1 c1 (h : Reads .i32 W a1 l1 c1 (rd7 xs)) (hl : l1 < 1000000) => by
    have := useven_Lay a1 l1 c1 (rd7 xs) W h hl
    rw [hE] at this
    exact this)
  obtain ⟨n, hn⟩ : ∃ n, n = (rd7 xs).length := ⟨_, rfl⟩
  rw [← hn] at HR hle
  clear hr hE hn
  go_enter Tryd.func9, Tryd.ntmps9
  go_wp2_with (first
    | (go_at_call 11; (with_reducible refine HR.out.mono ?_); rintro e w1 ⟨a1, c1, rfl, r1, h1⟩)
    | (go_at_call 20; (with_reducible refine (HL.out _ _ _ _ r1 (by omega)).mono ?_); rintro e w2 ⟨v2, rfl, o2, h2⟩; obtain ⟨a2, c2, rfl, r2⟩ := o2.reads; have t2 := below_then h1 h2))
  go_ret2
  exact ⟨_, _, _, rfl, r2, t2⟩
end Go.Proofs.YtobjdamlmaaidaaDoor
