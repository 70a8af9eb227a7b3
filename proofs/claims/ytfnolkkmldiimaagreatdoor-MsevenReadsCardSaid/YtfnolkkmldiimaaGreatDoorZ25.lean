/-
  Texts of ours laid together: C06e, D23b, Stm, StmB.
-/
import Derived.Test.YtfnolkkmldiimaaGreatDoorZ24

/-! C06e -/
namespace Go.Proofs.YtfnolkkmldiimaaGreatDoor
open Go.RowKit Go.Shelf
set_option linter.unusedVariables false
attribute [local go_sem] Oper.semAt_some

set_option maxRecDepth 100000 in
set_option maxHeartbeats 2000000 in
theorem units_Right (a : Option Addr) (len cap : Nat) (xs : List Int) (w : World) (hr : Reads .u16 w a len cap xs) :
    Calls Tryz.prog 59 #[.slice a len cap] w fun e w' => e = .returned (.bool (decide (errP (usigs xs) = 0))) ∧ Below w.heap.size w w' := by
  have hl := hr.len_le
  refine (callsIn_wide (n := 4)).1 ?_
  refine callsIn_of_wp_marks Tryz.func59 rfl trivial ?_ rfl
  simp only [Tryz.ntmps59, List.size_toArray, List.length_cons, List.length_nil, Nat.reduceAdd, Nat.reduceSub, Array.replicate_succ, Array.replicate_zero, List.push_toArray, List.append_toArray, List.nil_append, List.cons_append]
  gi_wp2_with (refine ⟨trivial, ?_⟩; gi_at_call 83; (with_reducible refine (units_signs _ _ _ _ _).mono ?_); rintro e w' ⟨rfl, rfl⟩)
  obtain ⟨b1, b2, hB0⟩ := two_boxes w 4 46 (.bool false) (.slice a len cap)
  refine wpIn_rangeFunc_ownG rfl (by omega) (gf := 98) (lb := #[.pointer (some ⟨w.heap.size + 1, 0, none⟩)]) rfl trivial (enters_of Tryz.func98 (by kernel_rfl) rfl)
    (usigns_stops 3 (w.heap.size + 1) w.heap.size (by omega) a len cap xs w _ hr (Nat.le_refl _) hB0.size hB0 (by simp) b2) keepsBox_t (keepsBox_b hB0.size) (Below.refl _ _) (fun _ => rfl)
    (fun pre W => errP pre = 0 ∧ Boxed W w.heap.size 4 (.bool false) ∧ Below w.heap.size w W)
    (fun c pre W => (c = .ret ∧ errP pre ≠ 0) ∧ Boxed W w.heap.size 4 (.bool false) ∧ Below w.heap.size w W)
    (OwnFrom.and (ownFrom_pure _ (fun pre => errP pre = 0)) (own_box (Nat.le_refl _) hB0.size _ _ (fun _ => .bool false)))
    (fun c => OwnFrom.and (ownFrom_pure _ (fun pre => c = .ret ∧ errP pre ≠ 0)) (own_box (Nat.le_refl _) hB0.size _ _ (fun _ => .bool false)))
    ⟨rfl, b1, hB0⟩
    (fun x => { tmps := #[.slice a len cap, undef, .pointer (some ⟨w.heap.size, 0, none⟩), undef, .int .i64 x.2, .slice a len cap, .func (.func 98) #[] #[.pointer (some ⟨w.heap.size + 1, 0, none⟩)], .int .i32 x.1, .int .i64 x.2, undef, undef], defers := [] }) ?assign ?body ?done ?stop
  case assign =>
    intro l x W K hK
    dsimp only [encS]
    gi_wp2
    exact hK
  case body =>
    rintro l pre x W ⟨h0, hv, hB⟩ hlt
    have hc := hv.cell
    have hf := hv.frozen
    have hsn := errP_snoc pre x
    rw [if_pos h0] at hsn
    have H0 := hid h0
    clear h0
    cases he : x.2 == 0
    · have he' : x.2 ≠ 0 := by simpa using he
      rw [← hsn] at he'
      have HE := hid he'
      clear he'
      gi_wp2
      have hv' := hv.set (.bool false)
      exact ⟨(KeepsOthers.setCell _ _ _).from _, ⟨rfl, HE.out⟩, hv', hB.setCell (p := ⟨w.heap.size, 0, none⟩) (Nat.le_refl _) _⟩
    · have he' : x.2 = 0 := by simpa using he
      rw [← hsn] at he'
      have HE := hid he'
      clear he'
      gi_wp2
      exact ⟨KeepsFrom.refl _ _, KeepsBox.refl _ _ _ _, HE.out, hv, hB⟩
  case done =>
    rintro D ys W hD rfl ⟨h0, hv, hB⟩ hK
    have hc := hv.cell
    have hf := hv.frozen
    have H0 := hid h0
    clear h0
    gi_wp2
    have hK' := (KeepsOthers.setCell W ⟨w.heap.size, 0, none⟩ (.bool true)).same D _ hK rfl
    refine ⟨by simp, .inl ⟨_, _, rfl, run_takeDeferred hK', ?_⟩⟩
    have hc5 := cell_kept (hv.set (.bool true)).cell (grownBy_putObj' _ D (.deferred none)) (fun r e => by cases e; exact ⟨_, hK', rfl⟩)
    refine ⟨.bool true, ?_, by rw [H0.out]; rfl, (hB.setCell (p := ⟨w.heap.size, 0, none⟩) (Nat.le_refl _) _).trans (belowK_b (w := w) (Nat.le_refl _) _ D _ _ (by simp at hD; omega) hK' rfl rfl)⟩
    simp [results, Tryz.f59, go_sem, hc5]
  case stop =>
    rintro D c pre W hD hpre ⟨⟨rfl, h0⟩, hv, hB⟩ hK
    have H0 : Hid (errP (usigs xs) ≠ 0) := by rw [Hid, errP_pre hpre h0]; exact h0
    clear h0
    gi_wp2
    refine ⟨by simp, .inl ⟨_, _, rfl, run_takeDeferred hK, ?_⟩⟩
    have hc5 := cell_kept hv.cell (grownBy_putObj' _ D (.deferred none)) (fun r e => by cases e; exact ⟨_, hK, rfl⟩)
    refine ⟨.bool false, ?_, by rw [decide_eq_false H0.out], hB.trans (belowK_b (w := w) (Nat.le_refl _) W D _ _ (by simp at hD; omega) hK rfl rfl)⟩
    simp [results, Tryz.f59, go_sem, hc5]
theorem encR_utxt (xs : List Int) : encR (usigs xs) = (utxt xs).map (Value.int .i32) := by simp [encR, utxt, Function.comp_def]
theorem reads_urow {e : TypeId} {base : Nat} {w : World} {v : Value} {xs : List Int} (h : w.ownsRow base e 1 v (usigs xs).length (encR (usigs xs))) (hwf : ∀ x ∈ utxt xs, (Lit.int .i32 x).wf = true) :
    ∃ a cap, v = .slice a (usigs xs).length cap ∧ Reads .i32 w a (usigs xs).length cap (utxt xs) := by
  have hO : Own .i32 e base w v (utxt xs) := ⟨by rw [utxt_len, ← encR_utxt]; exact h, hwf⟩
  obtain ⟨a, cap, hv, hr⟩ := hO.reads
  rw [utxt_len] at hv hr
  exact ⟨a, cap, hv, hr⟩
set_option maxRecDepth 100000 in
set_option maxHeartbeats 4000000 in
theorem units_ReadO (a : Option Addr) (len cap : Nat) (xs : List Int) (w : World) (hr : Reads .u16 w a len cap xs) (hN : len < 1000000000000) :
    Calls Tryz.prog 58 #[.slice a len cap] w fun e w' => ∃ v, e = .returned v ∧ Own .i32 21 w.heap.size w' v (utxt xs) ∧ Below w.heap.size w w' := by
  have hl := hr.len_le
  have hbd : ∀ x ∈ xs, 0 ≤ x ∧ x ≤ 65535 := fun x hx => wf_u16 (hr.wf x hx)
  have hwf := hid (utxt_wf hbd)
  clear hbd
  obtain ⟨i0, hi, hz0, hz1, hz2⟩ := info_parts CTR.info
  refine (callsIn_wide (n := 4)).1 ?_
  refine callsIn_of_wp_marks Tryz.func58 rfl trivial ?_ rfl
  simp only [Tryz.ntmps58, List.size_toArray, List.length_cons, List.length_nil, Nat.reduceAdd, Nat.reduceSub, Array.replicate_succ, Array.replicate_zero, List.push_toArray, List.append_toArray, List.nil_append, List.cons_append]
  gi_wp2_with (refine ⟨trivial, ?_⟩; gi_at_call 83; (with_reducible refine (units_signs _ _ _ _ _).mono ?_); rintro e w' ⟨rfl, rfl⟩)
  obtain ⟨b1, b2, hB0⟩ := two_boxes w 22 46 (.slice none 0 0) (.slice a len cap)
  refine wpIn_rangeFunc_ownG rfl (by omega) (gf := 98) (lb := #[.pointer (some ⟨w.heap.size + 1, 0, none⟩)]) rfl trivial (enters_of Tryz.func98 (by kernel_rfl) rfl)
    (usigns_stops 3 (w.heap.size + 1) w.heap.size (by omega) a len cap xs w _ hr (Nat.le_refl _) hB0.size hB0 (by simp) b2) keepsBox_t (keepsBox_b hB0.size) (Below.refl _ _) (fun _ => rfl)
    (fun pre W => (∃ v, Boxed W w.heap.size 22 v ∧ W.ownsRow w.heap.size 21 1 v pre.length (encR pre) ∧ True) ∧ Below w.heap.size w W)
    (fun _ _ _ => False)
    (own_row (Nat.le_refl _) hB0.size _ _ _) (fun _ _ _ _ _ hs _ _ => hs)
    ⟨⟨_, b1, World.ownsRow_nil _ _ _ _, trivial⟩, hB0⟩
    (fun x => { tmps := #[.slice a len cap, undef, .slice none 0 0, .pointer (some ⟨w.heap.size, 0, none⟩), .int .i32 x.1, .slice a len cap, .func (.func 98) #[] #[.pointer (some ⟨w.heap.size + 1, 0, none⟩)], .int .i32 x.1, .int .i64 x.2, undef, undef, undef, undef, undef], defers := [] }) ?assign ?body ?done ?stop
  case assign =>
    intro l x W K hK
    dsimp only [encS]
    gi_wp2
    exact hK
  case body =>
    rintro l pre x W ⟨⟨v, hv, hrow, _⟩, hB⟩ hlt
    have hc := hv.cell
    gi_wp2_with (gi_at_builtin; refine wpListIn_append_own _ rfl _ _ 22 rfl w.heap.size 21 i0 (.int .i32 0) 1 4 Tryz.underlying22 hi hz0 hz1 hz2 rfl (by decide) _ _ _ rfl (hrow.alloc _) ⟨W.heap.size, 0, none⟩ 1 1 [.int .i32 x.1] rfl rfl (cell_one_new _ _ _) (by simp [Value.oneCell']) (by unfold maxLen; omega) (by omega) (by have := hB.size; simp; omega) ?_; intro v' w1 hown' hgrow _; obtain ⟨g', cap', rfl⟩ := ownsRow_succ hown'; obtain ⟨hv1, hv2, hr2, hk2, hb2⟩ := hv.appended (by decide) hrow hB.size (Nat.le_refl _) hown' hgrow; have hc1 := hv1.cell; have hf1 := hv1.frozen)
    exact ⟨hk2.from _, ⟨hb2, fun u hu => box_appended hu (by decide) (by omega) hrow hgrow⟩, ⟨_, hv2, by rw [encR_snoc]; simpa using hr2, trivial⟩, hB.trans hb2⟩
  case done =>
    rintro D ys W hD rfl ⟨⟨v, hv, hrow, _⟩, hB⟩ hK
    have hc := hv.cell
    gi_wp2
    refine ⟨by simp, .inl ⟨_, _, rfl, run_takeDeferred hK, ?_⟩⟩
    have hO : Own .i32 21 w.heap.size (W.putObj D (.deferred none)) v (utxt xs) := ⟨by rw [utxt_len, ← encR_utxt]; exact ownsRow_putObj hrow (.deferred none) hK rfl, hwf.out⟩
    exact ⟨_, results_tmp rfl _ _ _, v, rfl, hO, hB.trans (belowK_b (w := w) (Nat.le_refl _) W D _ _ (by simp at hD; omega) hK rfl rfl)⟩
  case stop =>
    rintro D c pre W _ _ h _
    exact h.elim
theorem units_Read (a : Option Addr) (len cap : Nat) (xs : List Int) (w : World) (hr : Reads .u16 w a len cap xs) (hN : len < 1000000000000) :
    Calls Tryz.prog 58 #[.slice a len cap] w fun e w' => ∃ a' cap', e = .returned (.slice a' (usigs xs).length cap') ∧ Reads .i32 w' a' (usigs xs).length cap' (utxt xs) ∧ Below w.heap.size w w' := by
  refine (units_ReadO a len cap xs w hr hN).mono ?_
  rintro e w' ⟨v, rfl, ho, hb⟩
  obtain ⟨a', cap', rfl, hrd⟩ := ho.reads
  rw [utxt_len] at hrd
  rw [utxt_len]
  exact ⟨a', cap', rfl, hrd, hb⟩

end Go.Proofs.YtfnolkkmldiimaaGreatDoor

/-! D23b -/
namespace Go.Proofs.YtfnolkkmldiimaaGreatDoor
open Go.RowKit
set_option linter.unusedVariables false

theorem pow2_le {m n : Nat} (h : m ≤ n) : (2 : Int) ^ m ≤ 2 ^ n := by
  have := Nat.pow_le_pow_right (n := 2) (by omega) h
  exact_mod_cast this
theorem parts_mul {n : Nat} (hn : 0 < n) (f : List Int → Int) : ∀ (q : Nat) (x y : List Int), x.length = n * q → parts n f (x ++ y) = parts n f x ++ parts n f y
  | 0, x, y, h => by
    obtain rfl : x = [] := List.eq_nil_of_length_eq_zero (by omega)
    rw [parts_short f (l := []) (by simpa using hn)]; rfl
  | q + 1, x, y, h => by
    have h1 : n * (q + 1) = n * q + n := Nat.mul_succ n q
    have hl : (x.take n).length = n := by rw [List.length_take]; omega
    have e := List.take_append_drop n x
    rw [← e, List.append_assoc, parts_app hn f hl, parts_app hn f hl, parts_mul hn f q (x.drop n) y (by rw [List.length_drop]; omega)]
    rfl
theorem rest_len (l : List Int) : (restD l).length = l.length % 16 := by unfold restD; rw [List.length_drop]; omega
theorem rest_all (l : List Int) : ∃ x, x.length = 16 * (l.length / 16) ∧ l = x ++ restD l :=
  ⟨l.take (16 * (l.length / 16)), by rw [List.length_take]; omega, (List.take_append_drop _ _).symm⟩
theorem bit6_01 (v : Int) : ∀ b ∈ bit6 v, b = 0 ∨ b = 1 := by
  intro b hb
  unfold bit6 at hb
  simp only [List.mem_cons, List.not_mem_nil, or_false] at hb
  omega
theorem num_bit6 {v : Int} (h : V6 v) : numL (bit6 v) = v := by
  unfold V6 at h
  simp only [numL, bit6, List.foldl_cons, List.foldl_nil]
  omega
theorem num_lt2 {l : List Int} (h : ∀ b ∈ l, b = 0 ∨ b = 1) : 0 ≤ numL l ∧ numL l < 2 ^ l.length := by
  have := num_lt7 l 0 h (Int.le_refl _)
  unfold numL
  simpa using this
/-- Six bits more, that make no unit yet. -/
theorem step_less {l : List Int} (v : Int) (hv : V6 v) (hm : l.length % 16 < 10) :
    parts 16 numL (l ++ bit6 v) = parts 16 numL l ∧ numL (restD (l ++ bit6 v)) = numL (restD l) * 64 + v := by
  obtain ⟨x, hx, hl⟩ := rest_all l
  have hr := rest_len l
  have h6 : (bit6 v).length = 6 := rfl
  constructor
  · conv => lhs; rw [hl]
    conv => rhs; rw [hl]
    rw [List.append_assoc, parts_mul (by decide) numL _ x _ hx, parts_mul (by decide) numL _ x _ hx, parts_short numL (l := restD l ++ bit6 v) (by rw [List.length_append]; omega), parts_short numL (l := restD l) (by omega)]
  · have e : restD (l ++ bit6 v) = restD l ++ bit6 v := by
      unfold restD
      rw [List.length_append, h6, show 16 * ((l.length + 6) / 16) = 16 * (l.length / 16) by omega, List.drop_append_of_le_length (by omega)]
    rw [e, num_app, num_bit6 hv, h6]
    rfl
/-- .. that make a unit, and leave j bits over. -/
theorem step_unit {l : List Int} (v : Int) (hv : V6 v) (j : Nat) (hj : l.length % 16 = j + 10) :
    parts 16 numL (l ++ bit6 v) = parts 16 numL l ++ [(numL (restD l) * 64 + v) / 2 ^ j] ∧ numL (restD (l ++ bit6 v)) = (numL (restD l) * 64 + v) % 2 ^ j := by
  obtain ⟨x, hx, hl⟩ := rest_all l
  have hr := rest_len l
  have h6 : (bit6 v).length = 6 := rfl
  obtain ⟨y, hy⟩ : ∃ y, y = restD l ++ bit6 v := ⟨_, rfl⟩
  have hyl : y.length = 16 + j := by rw [hy, List.length_append]; omega
  have hyn : numL y = numL (restD l) * 64 + v := by rw [hy, num_app, num_bit6 hv, h6]; rfl
  have hs : y = y.take 16 ++ y.drop 16 := (List.take_append_drop 16 y).symm
  have h16 : (y.take 16).length = 16 := by rw [List.length_take]; omega
  have hdl : (y.drop 16).length = j := by rw [List.length_drop]; omega
  have hd01 : ∀ b ∈ y.drop 16, b = 0 ∨ b = 1 := by
    intro b hb
    have h := List.mem_of_mem_drop hb
    -- j bits of the last six
    have : y.drop 16 = (bit6 v).drop (6 - j) := by
      rw [hy, List.drop_append, List.drop_of_length_le (by omega), List.nil_append]
      congr 1
      omega
    rw [this] at hb
    exact bit6_01 v b (List.mem_of_mem_drop hb)
  have hlt := num_lt2 hd01
  rw [hdl] at hlt
  have hnum : numL y = numL (y.take 16) * 2 ^ j + numL (y.drop 16) := by
    conv => lhs; rw [hs]
    rw [num_app, hdl]
  have hp : (0 : Int) < 2 ^ j := Int.pow_pos (by decide)
  rw [← hyn, hnum]
  constructor
  · rw [Int.add_comm, Int.add_mul_ediv_right _ _ (by omega), Int.ediv_eq_zero_of_lt hlt.1 hlt.2, Int.zero_add]
    conv => lhs; rw [hl]
    conv => rhs; rw [hl]
    rw [List.append_assoc, ← hy, parts_mul (by decide) numL _ x _ hx, parts_mul (by decide) numL _ x _ hx, parts_short numL (l := restD l) (by omega), List.append_nil]
    conv => lhs; rw [hs]
    rw [parts_app (by decide) numL h16, parts_short numL (l := y.drop 16) (by omega)]
  · rw [Int.add_comm, Int.add_mul_emod_self_right, Int.emod_eq_of_lt hlt.1 hlt.2]
    have e : restD (l ++ bit6 v) = y.drop 16 := by
      unfold restD
      rw [List.length_append, h6, show 16 * ((l.length + 6) / 16) = 16 * (l.length / 16) + 16 by omega, hy]
      conv => lhs; rw [hl]
      rw [List.append_assoc, ← List.drop_drop, show 16 * ((x ++ restD l).length / 16) = x.length by rw [← hl, hx], List.drop_left]
    rw [e]
/-- The bits of some digits of all. -/
theorem vlD_snoc {d : List Int} (h : d.all isDig = true) {k : Nat} {x : Int} (hx : d.take (k + 1) = d.take k ++ [x]) : vlD (d.take (k + 1)) = vlD (d.take k) ++ bit6 (valI x) := by
  have h1 : (d.take (k + 1)).all isDig = true := List.all_eq_true.2 fun y hy => List.all_eq_true.1 h y (List.mem_of_mem_take hy)
  have h2 : (d.take k).all isDig = true := List.all_eq_true.2 fun y hy => List.all_eq_true.1 h y (List.mem_of_mem_take hy)
  unfold vlD
  rw [if_pos h1, if_pos h2, hx, List.map_append]
  unfold bits6
  rw [List.flatMap_append]
  simp
theorem vlD_take {d : List Int} (h : d.all isDig = true) {k : Nat} (hk : k ≤ d.length) : (vlD (d.take k)).length = 6 * k := by
  have h2 : (d.take k).all isDig = true := List.all_eq_true.2 fun y hy => List.all_eq_true.1 h y (List.mem_of_mem_take hy)
  unfold vlD
  rw [if_pos h2, bits6_len, List.length_map, List.length_take]
  omega
end Go.Proofs.YtfnolkkmldiimaaGreatDoor

/-! Stm -/
namespace Go.Proofs.YtfnolkkmldiimaaGreatDoor
open Go.RowKit

section
variable {P : Program} {ops : Array Oper} {o : Oper} {a : Act} {K : Act → World → Prop} {Q : Exit → Act → World → Prop} {E : Prop} {t e : TypeId} {k : IntKind} {by_ : Nat}

theorem step_more (ST : SliceT P t e k by_) (hgd : o.guard = none) (s x : Operand) (ho : o.op = .call { callee := .builtin .append, args := #[s, x], argTypes := #[t, t] })
    {w0 wr : World} {v : Value} {xs ys : List Int} {ao : Option Addr} {m c : Nat} (hs : a.eval s = v) (hx : a.eval x = .slice ao m c)
    (hown : Own k e w0.heap.size wr v xs) (hbel : Below w0.heap.size w0 wr) (hr : Reads k wr ao m c ys) (hlen : xs.length + m < 1000000000000)
    (h : ∀ v' w', Own k e w0.heap.size w' v' (xs ++ ys) → Below w0.heap.size w0 w' → K (a.put o.dst v') w') :
    if Region.wanted o (yielded ops a.tmps) = true then Oper.wp P o a wr K Q else E := by
  obtain ⟨i, hi, hz0, hz1, hz2⟩ := info_parts ST.info
  have hsm := ST.small
  have hsz := hr.size
  have hw : Region.wanted o (yielded ops a.tmps) = true := by simp [Region.wanted, hgd]
  rw [if_pos hw]
  by_cases hm : m = 0
  · subst hm
    obtain rfl : ys = [] := List.eq_nil_of_length_eq_zero hsz
    have hrun : (Builtin.append_ #[t, t] o.type #[v, .slice ao 0 c]).run P wr = .ok v wr := by
      rcases hown.1.2 with ⟨rfl, _⟩ | ⟨g, cap, cur, rfl, _, _, hnc, _⟩
      · cases ao <;> simp [Builtin.append_, run_underlying ST.under, sizeOf, typeInfo, hi, Builtin.lenOf, Builtin.firstCells, loadCells, loadCellsFrom]
      · cases ao <;> simp [Builtin.append_, run_underlying ST.under, sizeOf, typeInfo, hi, Builtin.lenOf, Builtin.firstCells, hnc, storeCells, loadCells, loadCellsFrom]
    unfold Oper.wp
    simp [execOp, ho, resolve, invoke, builtin, hs, hx, hrun, Result.andThen]
    exact h v wr (by simpa using hown) hbel
  · obtain ⟨b, off, rfl, hb, hc⟩ := hr.cell (by omega)
    have hmul : (xs.length + m) * by_ ≤ (xs.length + m) * 8 := Nat.mul_le_mul_left _ hsm
    refine wp_append_lies _ s x t ho w0.heap.size e i (.int k 0) 1 by_ ST.under hi hz0 hz1 hz2 rfl (by decide) v xs.length (xs.map (Value.int k)) hs hown.1 ⟨b, off, none⟩ m c (ys.map (Value.int k)) hx (by simp [hsz]) ?_ (ints_oneCell _ _) (by omega) (by unfold maxLen; omega) (by omega)
      hbel.size _ rfl ?_
    · intro j u hj
      have hjl : j < ys.length := by
        have := (List.getElem?_eq_some_iff.1 hj).1
        simpa using this
      rw [Addr.add_lit, hc j (by omega)]
      simp only [List.getElem?_map, List.getElem?_eq_getElem hjl, Option.map_some, Option.some.injEq] at hj
      subst hj
      simp [hjl]
    · intro g cap w' hown' hgrow _ _
      refine h _ w' ⟨by simpa [hsz] using hown', ?_⟩ (hbel.grown hgrow hbel.size (fun j hj => (hown.1.lt j hj).1))
      intro z hz
      rcases List.mem_append.1 hz with hz | hz
      · exact hown.2 z hz
      · exact hr.wf z hz
end
end Go.Proofs.YtfnolkkmldiimaaGreatDoor

/-! StmB -/
namespace Go.Proofs.YtfnolkkmldiimaaGreatDoor
open Go.RowKit

theorem size_set (w : World) (B i : Nat) (v : Value) : (w.setCell ⟨B, i, none⟩ v).heap.size = w.heap.size := by simp [World.setCell]
theorem Own.shape {k : IntKind} {e : TypeId} {base : Nat} {w : World} {v : Value} {xs : List Int} (h : Own k e base w v xs) : ∃ a n cap, v = .slice a n cap := by
  obtain ⟨a, cap, rfl, _⟩ := h.reads
  exact ⟨_, _, _, rfl⟩
section
variable {P : Program} {ops : Array Oper} {o : Oper} {a : Act} {K : Act → World → Prop} {Q : Exit → Act → World → Prop} {E : Prop} {t e : TypeId} {k : IntKind} {by_ : Nat}

theorem step_moreB (ST : SliceT P t e k by_) (hgd : o.guard = none) (s x : Operand) (ho : o.op = .call { callee := .builtin .append, args := #[s, x], argTypes := #[t, t] })
    {w0 wr : World} {v : Value} {xs ys : List Int} {ao : Option Addr} {m c : Nat} (hs : a.eval s = v) (hx : a.eval x = .slice ao m c)
    {B : Nat} {T : TypeId} {vs : Array Value}
    (hown : Own k e w0.heap.size wr v xs) (hbel : Below w0.heap.size w0 wr) (hB : Blk wr B T vs) (hte : T ≠ e) (hr : Reads k wr ao m c ys) (hlen : xs.length + m < 1000000000000)
    (h : ∀ a' n' c' w', Own k e w0.heap.size w' (.slice a' n' c') (xs ++ ys) → Below w0.heap.size w0 w' → Blk w' B T vs → K (a.put o.dst (.slice a' n' c')) w') :
    if Region.wanted o (yielded ops a.tmps) = true then Oper.wp P o a wr K Q else E := by
  obtain ⟨i, hi, hz0, hz1, hz2⟩ := info_parts ST.info
  have hsm := ST.small
  have hsz := hr.size
  have hw : Region.wanted o (yielded ops a.tmps) = true := by simp [Region.wanted, hgd]
  rw [if_pos hw]
  by_cases hm : m = 0
  · subst hm
    obtain rfl : ys = [] := List.eq_nil_of_length_eq_zero hsz
    have hrun : (Builtin.append_ #[t, t] o.type #[v, .slice ao 0 c]).run P wr = .ok v wr := by
      rcases hown.1.2 with ⟨rfl, _⟩ | ⟨g, cap, cur, rfl, _, _, hnc, _⟩
      · cases ao <;> simp [Builtin.append_, run_underlying ST.under, sizeOf, typeInfo, hi, Builtin.lenOf, Builtin.firstCells, loadCells, loadCellsFrom]
      · cases ao <;> simp [Builtin.append_, run_underlying ST.under, sizeOf, typeInfo, hi, Builtin.lenOf, Builtin.firstCells, hnc, storeCells, loadCells, loadCellsFrom]
    obtain ⟨a', n', c', rfl⟩ := hown.shape
    unfold Oper.wp
    simp [execOp, ho, resolve, invoke, builtin, hs, hx, hrun, Result.andThen]
    exact h _ _ _ wr (by simpa using hown) hbel hB
  · obtain ⟨b, off, rfl, hb, hc⟩ := hr.cell (by omega)
    have hmul : (xs.length + m) * by_ ≤ (xs.length + m) * 8 := Nat.mul_le_mul_left _ hsm
    refine wp_append_lies _ s x t ho w0.heap.size e i (.int k 0) 1 by_ ST.under hi hz0 hz1 hz2 rfl (by decide) v xs.length (xs.map (Value.int k)) hs hown.1 ⟨b, off, none⟩ m c (ys.map (Value.int k)) hx (by simp [hsz]) ?_ (ints_oneCell _ _) (by omega) (by unfold maxLen; omega) (by omega)
      hbel.size _ rfl ?_
    · intro j u hj
      have hjl : j < ys.length := by
        have := (List.getElem?_eq_some_iff.1 hj).1
        simpa using this
      rw [Addr.add_lit, hc j (by omega)]
      simp only [List.getElem?_map, List.getElem?_eq_getElem hjl, Option.map_some, Option.some.injEq] at hj
      subst hj
      simp [hjl]
    · intro g cap w' hown' hgrow _ _
      refine h _ _ _ w' ⟨by simpa [hsz] using hown', ?_⟩ (hbel.grown hgrow hbel.size (fun j hj => (hown.1.lt j hj).1)) (hB.kept hgrow (hB.not_row hte hown.1))
      intro z hz
      rcases List.mem_append.1 hz with hz | hz
      · exact hown.2 z hz
      · exact hr.wf z hz
end
end Go.Proofs.YtfnolkkmldiimaaGreatDoor
