/-
  Texts of ours laid together: Itr.
-/
import Derived.RangeFuncNested
import Derived.RangeFuncBox
import Derived.RangeFuncCalls
import Derived.RangeFuncLeaves
import Derived.Shelf.Abstract
import Derived.Shelf.RegionOpen
import Derived.OwnWalkIn
import Derived.TacticsInMore
import Derived.LoopNIn
import Derived.LoopIn
import Derived.Maps.AppendAt
import Derived.Test.YtefhddbbiheadaaGreatZ27

/-! Itr -/
namespace Go.Proofs.YtefhddbbiheadaaGreat
open Go.RowKit Go.Shelf
set_option linter.unusedVariables false
attribute [local go_sem] Oper.semAt_some

/-- What a round keeps: what lay below n₀; the box Bs. -/
def KeepsBox (n₀ Bs : Nat) (t : TypeId) (W W' : World) : Prop := Below n₀ W W' ∧ ∀ v, Boxed W Bs t v → Boxed W' Bs t v
theorem KeepsBox.refl (n₀ Bs : Nat) (t : TypeId) (W : World) : KeepsBox n₀ Bs t W W := ⟨Below.refl _ _, fun _ h => h⟩
theorem keepsBox_t {n₀ Bs : Nat} {t : TypeId} {A B C : World} (h : KeepsBox n₀ Bs t A B) (k : KeepsBox n₀ Bs t B C) : KeepsBox n₀ Bs t A C := ⟨h.1.trans k.1, fun v hv => k.2 v (h.2 v hv)⟩
theorem keepsBox_b {n₀ Bs : Nat} {t : TypeId} {w : World} (hn : n₀ ≤ w.heap.size) (W : World) (l : Nat) (o o' : Obj) (hl : w.heap.size ≤ l) (h : W.heap[l]? = some o) (hc : o.isCells = false) (hw : o.isWalk = false) : KeepsBox n₀ Bs t W (W.putObj l o') :=
  ⟨belowK_b hn W l o o' hl h hc hw, fun v hv => hv.kept (grownBy_putObj' W l o') (by
    intro e
    cases e
    rw [show W.heap[Bs]? = _ from hv] at h
    cases h
    cases hc)⟩
theorem grownBy_drewN (W : World) (n : Nat) : W.grownBy (W.drewN n) none := ⟨rfl, rfl, rfl, Nat.le_refl _, fun _ _ _ => rfl⟩
theorem abides_drewN {β : Type} {B : Nat} {J : β → World → Prop} (h : AbidesFrom B J) {s : β} {W : World} (hs : J s W) (n : Nat) : J s (W.drewN n) := h s W _ none hs (grownBy_drewN W n) (fun r e => by cases e)
theorem grownBy_below {W W' : World} (h : Below W.heap.size W W') : W.grownBy W' none := ⟨h.os, h.tape, h.output, h.size, fun k hk _ => h.block k hk⟩
theorem abides_below {β : Type} {B : Nat} {J : β → World → Prop} (h : AbidesFrom B J) {s : β} {W W' : World} (hs : J s W) (hb : Below W.heap.size W W') : J s W' := h s W _ none hs (grownBy_below hb) (fun r e => by cases e)
/-- A store into the caller's own box. -/
theorem keepsBox_set {n₀ B Bs : Nat} {t : TypeId} {W : World} (hB : n₀ ≤ B) (hne : Bs ≠ B) (u : Value) : KeepsBox n₀ Bs t W (W.setCell ⟨B, 0, none⟩ u) :=
  ⟨(Below.refl n₀ W).setCell (p := ⟨B, 0, none⟩) hB _, fun v hv => hv.other hne u⟩
/-- The world where the loop begins: the caller's box, then the iterator's. -/
theorem two_boxes (w : World) (t t2 : TypeId) (v v2 : Value) :
    Boxed ((w.alloc (.cells #[v] t)).alloc (.cells #[v2] t2)) w.heap.size t v ∧ Boxed ((w.alloc (.cells #[v] t)).alloc (.cells #[v2] t2)) (w.heap.size + 1) t2 v2 ∧ Below w.heap.size w ((w.alloc (.cells #[v] t)).alloc (.cells #[v2] t2)) := by
  refine ⟨(Boxed.new w t v).alloc _, ?_, ((Below.refl _ w).alloc (Nat.le_refl _) _).alloc (by simp) _⟩
  have := Boxed.new (w.alloc (.cells #[v] t)) t2 v2
  rwa [World.size_alloc] at this
theorem own_box {β : Type} {n₀ D : Nat} {w : World} (hn : n₀ ≤ w.heap.size) (hD : n₀ ≤ D) (B : Nat) (t : TypeId) (f : β → Value) : OwnFrom D (fun (s : β) W => Boxed W B t (f s) ∧ Below n₀ w W) :=
  OwnFrom.and (Go.Own.from (boxed_own B t f) _) (ownFrom_below hn hD)
/-- 'out = append(out, ..)' leaves another box as it lay. -/
theorem box_appended {W w1 : World} {n₀ B B' : Nat} {t e : TypeId} {size k : Nat} {v v' u : Value} {xs : List Value} {tmp : Obj}
    (h : Boxed W B' t u) (hte : t ≠ e) (hne : B' ≠ B) (hrow : W.ownsRow n₀ e size v k xs) (hgrow : (W.alloc tmp).grownBy w1 v.ownBlock) : Boxed (w1.setCell ⟨B, 0, none⟩ v') B' t u :=
  ((h.alloc tmp).kept hgrow (h.not_row hte hrow)).other hne v'
/-- The world where Strict's loop begins. -/
theorem four_boxes (w : World) (t1 t2 t3 t4 : TypeId) (v1 v2 v3 v4 : Value) :
    let w' := (((w.alloc (.cells #[v1] t1)).alloc (.cells #[v2] t2)).alloc (.cells #[v3] t3)).alloc (.cells #[v4] t4)
    Boxed w' w.heap.size t1 v1 ∧ Boxed w' (w.heap.size + 1) t2 v2 ∧ Boxed w' (w.heap.size + 1 + 1) t3 v3 ∧ Boxed w' (w.heap.size + 1 + 1 + 1) t4 v4 ∧ Below w.heap.size w w' := by
  obtain ⟨b1, b2, hB⟩ := two_boxes w t1 t2 v1 v2
  obtain ⟨b3, b4, hB2⟩ := two_boxes ((w.alloc (.cells #[v1] t1)).alloc (.cells #[v2] t2)) t3 t4 v3 v4
  simp only [World.size_alloc] at b3 b4
  exact ⟨(b1.alloc _).alloc _, (b2.alloc _).alloc _, b3, b4, hB.trans (hB2.mono hB.size)⟩
theorem row_set {W : World} {B : Nat} {t e : TypeId} {u u' : Value} (h : Boxed W B t u) (hte : t ≠ e) {base size k : Nat} {v : Value} {xs : List Value} (hr : W.ownsRow base e size v k xs) : (W.setCell ⟨B, 0, none⟩ u').ownsRow base e size v k xs :=
  hr.kept (grownBy_setCell' W B u') (.inr (h.not_row hte hr).symm)
theorem three_boxes (w : World) (t t2 t3 : TypeId) (v v2 v3 : Value) :
    let w' := ((w.alloc (.cells #[v] t)).alloc (.cells #[v2] t2)).alloc (.cells #[v3] t3)
    Boxed w' w.heap.size t v ∧ Boxed w' (w.heap.size + 1) t2 v2 ∧ Boxed w' (w.heap.size + 1 + 1) t3 v3 ∧ Below w.heap.size w w' := by
  obtain ⟨b1, b2, hB⟩ := two_boxes w t t2 v v2
  refine ⟨b1.alloc _, b2.alloc _, ?_, hB.alloc hB.size _⟩
  have := Boxed.new ((w.alloc (.cells #[v] t)).alloc (.cells #[v2] t2)) t3 v3
  simpa only [World.size_alloc] using this
theorem five_boxes (w : World) (t t2 t3 t4 t5 : TypeId) (v v2 v3 v4 v5 : Value) :
    let w' := ((((w.alloc (.cells #[v] t)).alloc (.cells #[v2] t2)).alloc (.cells #[v3] t3)).alloc (.cells #[v4] t4)).alloc (.cells #[v5] t5)
    Boxed w' w.heap.size t v ∧ Boxed w' (w.heap.size + 1) t2 v2 ∧ Boxed w' (w.heap.size + 1 + 1) t3 v3 ∧ Boxed w' (w.heap.size + 1 + 1 + 1) t4 v4 ∧ Boxed w' (w.heap.size + 1 + 1 + 1 + 1) t5 v5 ∧ Below w.heap.size w w' := by
  obtain ⟨b1, b2, b3, hB⟩ := three_boxes w t t2 t3 v v2 v3
  obtain ⟨b4, b5, hB2⟩ := two_boxes (((w.alloc (.cells #[v] t)).alloc (.cells #[v2] t2)).alloc (.cells #[v3] t3)) t4 t5 v4 v5
  simp only [World.size_alloc] at b4 b5
  exact ⟨(b1.alloc _).alloc _, (b2.alloc _).alloc _, (b3.alloc _).alloc _, b4, b5, hB.trans (hB2.mono hB.size)⟩

/-- Nothing that is told of W has turned in W' but the box B, which holds u. -/
theorem keeps_below_trans {n₀ : Nat} {A B C : World} (h : KeepsOthers A B ∧ Below n₀ A B) (k : KeepsOthers B C ∧ Below n₀ B C) : KeepsOthers A C ∧ Below n₀ A C := ⟨h.1.trans k.1, h.2.trans k.2⟩
theorem keeps_set {n₀ B : Nat} (W : World) (hB : n₀ ≤ B) (u : Value) : KeepsOthers W (W.setCell ⟨B, 0, none⟩ u) ∧ Below n₀ W (W.setCell ⟨B, 0, none⟩ u) := ⟨KeepsOthers.setCell _ _ _, (Below.refl n₀ W).setCell (p := ⟨B, 0, none⟩) hB _⟩

/-! ### rows of the call's own, in a box, within a fence -/
/-- A row of the call's own, of numbers that need not be well formed ('Own' says that they are). -/
def Row (k : IntKind) (e : TypeId) (base : Nat) (w : World) (v : Value) (xs : List Int) : Prop := w.ownsRow base e 1 v xs.length (xs.map (Value.int k))
theorem Row.own {k : IntKind} {e : TypeId} {base : Nat} {w : World} {v : Value} {xs : List Int} (h : Row k e base w v xs) (hwf : ∀ x ∈ xs, (Lit.int k x).wf = true) : Own k e base w v xs := ⟨h, hwf⟩
theorem Row.putObj {k : IntKind} {e : TypeId} {base : Nat} {w : World} {v : Value} {xs : List Int} (h : Row k e base w v xs) {l : Nat} {o : Obj} (o' : Obj) (hl : w.heap[l]? = some o) (ho : o.isCells = false) : Row k e base (w.putObj l o') v xs := ownsRow_putObj h o' hl ho
theorem Row.set {k : IntKind} {e t : TypeId} {base : Nat} {w : World} {v : Value} {xs : List Int} (h : Row k e base w v xs) {B : Nat} {u : Value} (hb : Boxed w B t u) (hte : t ≠ e) (u' : Value) : Row k e base (w.setCell ⟨B, 0, none⟩ u') v xs := row_set hb hte h
theorem Row.drew {k : IntKind} {e : TypeId} {base : Nat} {w : World} {v : Value} {xs : List Int} (h : Row k e base w v xs) : Row k e base w.drew v xs := h
theorem own_rowO {β : Type} (D n₀ B : Nat) (t e : TypeId) (k : IntKind) (f : β → List Int) : OwnFrom D (fun (s : β) W => ∃ v, Boxed W B t v ∧ Row k e n₀ W v (f s)) := by
  rintro s W W' row ⟨v, h1, h2⟩ hg hr
  obtain ⟨v', h1', h2', rfl⟩ := holdsRow_own n₀ B t e 1 (fun _ : Unit => (f s).length) (fun _ => (f s).map (Value.int k)) (fun _ u => u = v) () W W' row ⟨v, h1, h2, rfl⟩ hg (fun r e => (hr r e).2)
  exact ⟨_, h1', h2'⟩
section
variable {F : Fence} {n : Nat} {P : Program} {ops : Array Oper} {rest : List Oper} {o : Oper} {a : Act} {K : Act → World → Prop} {Q : Exit → Act → World → Prop} {E : Prop} {t e : TypeId} {k : IntKind} {by_ : Nat}
/-- 'make([]T, 0, n)'. -/
theorem wpListIn_make0 (ST : SliceT P t e k by_) (hgd : o.guard = none) (l c : Operand) (ho : o.op = Op.makeSlice t l c)
    {w0 wr : World} {kl kc : IntKind} {m : Nat} (hl : a.eval l = .int kl 0) (hc : a.eval c = .int kc m) (hbel : Below w0.heap.size w0 wr) (hlen : m < 1000000000000)
    (h : ∀ g w', Own k e w0.heap.size w' (.slice (some ⟨g, 0, none⟩) 0 m) [] → Below w0.heap.size w0 w' → wpListIn F n P ops Q rest (a.put o.dst (.slice (some ⟨g, 0, none⟩) 0 m)) w') :
    wpListIn F n P ops Q (o :: rest) a wr := by
  obtain ⟨i, hi, hz0, hz1, hz2⟩ := info_parts ST.info
  have hsm := ST.small
  have hmul : i.bytes * m ≤ 8 * m := Nat.mul_le_mul_right _ (by omega)
  refine wpListIn_make_own _ hgd l c t ho w0.heap.size e i (.int k 0) 1 ST.under hi hz0 hz1 kl kc m m hl hc rfl (by omega) (by unfold maxLen; omega) hbel.size ?_
  intro w' hown hgrow
  exact h _ w' ⟨by simpa using hown, fun x hx => by cases hx⟩ (hbel.grown hgrow hbel.size (fun j hj => by cases hj))
/-- What 'append(out, y)' has left (w1), and what its store into out's box will leave. -/
structure Pushed1 (t e : TypeId) (k : IntKind) (n₀ B : Nat) (W w1 : World) (v v' : Value) (xs : List Int) (y : Int) : Prop where
  box : Boxed w1 B t v
  put : Boxed (w1.setCell ⟨B, 0, none⟩ v') B t v'
  own : Row k e n₀ (w1.setCell ⟨B, 0, none⟩ v') v' (xs ++ [y])
  keeps : KeepsOthers W (w1.setCell ⟨B, 0, none⟩ v')
  below : Below n₀ W (w1.setCell ⟨B, 0, none⟩ v')
  other : ∀ B' t' u, B' ≠ B → t' ≠ e → Boxed W B' t' u → Boxed (w1.setCell ⟨B, 0, none⟩ v') B' t' u
theorem run_push1 (ST : SliceT P t e k by_) (ty : TypeId) {W : World} {e' : TypeId} {y : Int} {v : Value} {xs : List Int} {n₀ B c : Nat} (hv : Boxed W B t v) (hte : t ≠ e) (hown : Row k e n₀ W v xs) (hn₀ : n₀ ≤ W.heap.size) (hB : n₀ ≤ B) (hlen : xs.length < 1000000000000) :
    ∃ g cap w1, (Builtin.append_ #[t, t] ty #[v, .slice (some ⟨W.heap.size, 0, none⟩) 1 c]).run P (W.alloc (.cells #[.int k y] e')) = .ok (.slice (some ⟨g, 0, none⟩) (xs.length + 1) cap) w1 ∧ Pushed1 t e k n₀ B W w1 v (.slice (some ⟨g, 0, none⟩) (xs.length + 1) cap) xs y := by
  obtain ⟨i, hi, hz0, hz1, hz2⟩ := info_parts ST.info
  have hsm := ST.small
  have hmul : (xs.length + 1) * by_ ≤ (xs.length + 1) * 8 := Nat.mul_le_mul_left _ hsm
  obtain ⟨v', w1, hrun, r1, r2, r3⟩ := run_append_own (P := P) (W.alloc (.cells #[.int k y] e')) n₀ t ty e i (.int k 0) 1 by_ ST.under hi hz0 hz1 hz2 rfl (by decide) v xs.length (xs.map (Value.int k)) (World.ownsRow.alloc hown _) ⟨W.heap.size, 0, none⟩ 1 c [.int k y] rfl
    (cell_one_new _ _ _) (by intro u hu; simp at hu; subst hu; rfl) (by unfold maxLen; omega) (by omega) (by simp; omega)
  obtain ⟨g, cap, rfl⟩ := ownsRow_succ r1
  obtain ⟨h1, h2, h3, h4, h5⟩ := hv.appended hte hown hn₀ hB r1 r2
  refine ⟨g, cap, w1, hrun, h1, h2, by unfold Row; simpa using h3, h4, h5, fun B' t' u hne hte' hu => box_appended hu hte' hne hown r2⟩
/-- 'append(out, y)', the next of a list of operations. -/
theorem wpListIn_push1 (ST : SliceT P t e k by_) (hgd : o.guard = none) (s x : Operand) (ho : o.op = .call { callee := .builtin .append, args := #[s, x], argTypes := #[t, t] })
    {W : World} {e' : TypeId} {y : Int} {v : Value} {xs : List Int} {n₀ B : Nat} (hs : a.eval s = v) (hx : ∃ c, a.eval x = .slice (some ⟨W.heap.size, 0, none⟩) 1 c)
    (hv : Boxed W B t v) (hte : t ≠ e) (hown : Row k e n₀ W v xs) (hn₀ : n₀ ≤ W.heap.size) (hB : n₀ ≤ B) (hlen : xs.length < 1000000000000)
    (h : ∀ g cap w1, Pushed1 t e k n₀ B W w1 v (.slice (some ⟨g, 0, none⟩) (xs.length + 1) cap) xs y → wpListIn F n P ops Q rest (a.put o.dst (.slice (some ⟨g, 0, none⟩) (xs.length + 1) cap)) w1) :
    wpListIn F n P ops Q (o :: rest) a (W.alloc (.cells #[.int k y] e')) := by
  obtain ⟨c, hx⟩ := hx
  refine wpListIn_plain hgd fun K hK' => ?_
  obtain ⟨g, cap, w1, hrun, hp⟩ := run_push1 (P := P) ST o.type (e' := e') (y := y) (c := c) hv hte hown hn₀ hB hlen
  unfold Oper.wpIn
  refine ⟨?_, ?_⟩
  · simp [Oper.about, ho, resolve, Target.leads, Sem.run_pure]
  · rw [Oper.semAt_plain F _ _ (by rw [ho]; intro c hc'; cases hc')]
    simp [execOp, ho, resolve, invoke, builtin, hs, hx, hrun, Result.andThen]
    exact hK' _ _ (h _ _ _ hp)
/-- .. an operation of a region that draws its order. -/
theorem opIn_push1 (ST : SliceT P t e k by_) {s x : Operand} (ho : o.op = .call { callee := .builtin .append, args := #[s, x], argTypes := #[t, t] }) (hgd : o.guard = none)
    {W W1 : World} {e' : TypeId} {y : Int} {v : Value} {xs : List Int} {n₀ B : Nat} (hW : W1 = W.alloc (.cells #[.int k y] e')) (hs : a.eval s = v) (hx : ∃ c, a.eval x = .slice (some ⟨W.heap.size, 0, none⟩) 1 c)
    (hv : Boxed W B t v) (hte : t ≠ e) (hown : Row k e n₀ W v xs) (hn₀ : n₀ ≤ W.heap.size) (hB : n₀ ≤ B) (hlen : xs.length < 1000000000000)
    (h : ∀ g cap w1, Pushed1 t e k n₀ B W w1 v (.slice (some ⟨g, 0, none⟩) (xs.length + 1) cap) xs y → K (a.put o.dst (.slice (some ⟨g, 0, none⟩) (xs.length + 1) cap)) w1) :
    if Region.wanted o (yielded ops a.tmps) = true then Oper.wpIn F n P o a W1 K Q else E := by
  subst hW
  obtain ⟨c, hx⟩ := hx
  have hw : Region.wanted o (yielded ops a.tmps) = true := by simp [Region.wanted, hgd]
  rw [if_pos hw]
  obtain ⟨g, cap, w1, hrun, hp⟩ := run_push1 (P := P) ST o.type (e' := e') (y := y) (c := c) hv hte hown hn₀ hB hlen
  unfold Oper.wpIn
  refine ⟨?_, ?_⟩
  · simp [Oper.about, ho, resolve, Target.leads, Sem.run_pure]
  · rw [Oper.semAt_plain F _ _ (by rw [ho]; intro c hc'; cases hc')]
    simp [execOp, ho, resolve, invoke, builtin, hs, hx, hrun, Result.andThen]
    exact h _ _ _ hp
theorem ready_cons {md : Region.Mode} {fuel i : Nat} {listed : Array Bool} {W : World} {rs : List Nat} {tl : List Oper} (ho : ops.toList.drop i = o :: tl)
    (h : ∀ K' : Act → World → Prop, (∀ a w, wpAnyIn F n P md ops Q fuel (listed.setIfInBounds i true) a w → K' a w) → if Region.wanted o (yielded ops a.tmps) = true then Oper.wpIn F n P o a W K' Q else (∀ f, o.about P W a.eval = some f → F.fn f) ∧ K' (a.put o.dst undef) W)
    (hs : AllReadyIn F n P md ops Q fuel listed a W rs) : AllReadyIn F n P md ops Q fuel listed a W (i :: rs) := by
  refine AllReadyIn.cons ?_ h hs
  have h0 : (ops.toList.drop i)[0]? = some o := by rw [ho]; rfl
  rw [List.getElem?_drop, Nat.add_zero] at h0
  simpa using h0
/-! shifts by a count that is no numeral, as operations of a region that draws its order -/
theorem opIn_value (hgd : o.guard = none) (hd : ∀ c, o.op ≠ .defer c) (hc : ∀ c, o.op ≠ .call c) {W W' : World} {v : Value} (hrun : (execOp a.eval o).run P W = .ok (.value v) W') (hK : K (a.put o.dst v) W') :
    if Region.wanted o (yielded ops a.tmps) = true then Oper.wpIn F n P o a W K Q else E := by
  have hw : Region.wanted o (yielded ops a.tmps) = true := by simp [Region.wanted, hgd]
  rw [if_pos hw]
  unfold Oper.wpIn
  refine ⟨?_, ?_⟩
  · intro f hf
    unfold Oper.about at hf
    cases ho : o.op <;> rw [ho] at hf <;> first | cases hf | exact absurd ho (hc _)
  · rw [Oper.semAt_plain F _ _ hd, hrun]
    exact hK
theorem opIn_shr {t1 t2 : TypeId} {x y : Operand} (ho : o.op = .binOp .shr t1 x y t2) (hgd : o.guard = none) {X Y : Int} {m : Nat} {ky : IntKind} (hx : a.eval x = .int .i64 X) (hy : a.eval y = .int ky m) (hm : m ≤ 63) (hY : X / 2 ^ m = Y) {W : World} (hK : K (a.put o.dst (.int .i64 Y)) W) :
    if Region.wanted o (yielded ops a.tmps) = true then Oper.wpIn F n P o a W K Q else E := by
  refine opIn_value hgd (by rw [ho]; intro c h; cases h) (by rw [ho]; intro c h; cases h) (v := .int .i64 Y) ?_ hK
  have h0 : ¬ ((m : Int) < 0) := by omega
  have h1 : min m IntKind.i64.bits = m := Nat.min_eq_left (by show m ≤ 64; omega)
  have h2 : X.fdiv (2 ^ m) = Y := by rw [← hY]; exact Int.fdiv_eq_ediv_of_nonneg _ (by exact Int.pow_nonneg (by decide))
  simp only [execOp, ho, hx, hy, eqGuard, binOp, Op.shift, if_neg h0, Int.toNat_natCast, h1, h2]
  simp [Sem.run_pure]
theorem opIn_shl {t1 t2 : TypeId} {x y : Operand} (ho : o.op = .binOp .shl t1 x y t2) (hgd : o.guard = none) {X Y : Int} {m : Nat} {ky : IntKind} (hx : a.eval x = .int .i64 X) (hy : a.eval y = .int ky m) (hm : m ≤ 63) (hY : IntKind.i64.wrap (X * 2 ^ m) = Y) {W : World} (hK : K (a.put o.dst (.int .i64 Y)) W) :
    if Region.wanted o (yielded ops a.tmps) = true then Oper.wpIn F n P o a W K Q else E := by
  refine opIn_value hgd (by rw [ho]; intro c h; cases h) (by rw [ho]; intro c h; cases h) (v := .int .i64 Y) ?_ hK
  have h0 : ¬ ((m : Int) < 0) := by omega
  have h1 : min m IntKind.i64.bits = m := Nat.min_eq_left (by show m ≤ 64; omega)
  simp only [execOp, ho, hx, hy, eqGuard, binOp, Op.shift, if_neg h0, Int.toNat_natCast, h1, hY]
  simp [Sem.run_pure]
end

/-! ### append(v, ys...) where v lies in a box -/
theorem keeps_below {W W' : World} (h : Below W.heap.size W W') : KeepsOthers W W' := KeepsOthers.of_grownBy (grownBy_below h) (fun j o e => by cases e)
theorem Row.below {k : IntKind} {e : TypeId} {base : Nat} {w w' : World} {v : Value} {xs : List Int} (h : Row k e base w v xs) (hb : Below w.heap.size w w') : Row k e base w' v xs := World.ownsRow.kept h (grownBy_below hb) (by
  cases hv : v.ownBlock with
  | none => exact .inl rfl
  | some j => exact .inr (fun e => by cases e))
theorem Boxed.below {W W' : World} {B : Nat} {t : TypeId} {v : Value} (h : Boxed W B t v) (hb : Below W.heap.size W W') : Boxed W' B t v := h.kept (grownBy_below hb) (by simp)
/-- What 'append(v, ys...)' has left (w1), and what its store into v's box will leave. -/
structure More1 (t e : TypeId) (k : IntKind) (n₀ B : Nat) (W w1 : World) (v v' : Value) (zs : List Int) : Prop where
  box : Boxed w1 B t v
  put : Boxed (w1.setCell ⟨B, 0, none⟩ v') B t v'
  own : Row k e n₀ (w1.setCell ⟨B, 0, none⟩ v') v' zs
  keeps : KeepsOthers W (w1.setCell ⟨B, 0, none⟩ v')
  below : Below n₀ W (w1.setCell ⟨B, 0, none⟩ v')
section
variable {F : Fence} {n : Nat} {P : Program} {ops : Array Oper} {rest : List Oper} {o : Oper} {a : Act} {Q : Exit → Act → World → Prop} {t e : TypeId} {k : IntKind} {by_ : Nat}
theorem run_more1 (ST : SliceT P t e k by_) (ty : TypeId) {W : World} {v : Value} {xs ys : List Int} {n₀ B : Nat} {ad : Option Addr} {m c : Nat} (hv : Boxed W B t v) (hte : t ≠ e) (hown : Row k e n₀ W v xs) (hn₀ : n₀ ≤ W.heap.size) (hB : n₀ ≤ B) (hr : Reads k W ad m c ys) (hlen : xs.length + m < 1000000000000) :
    ∃ v' w1, (Builtin.append_ #[t, t] ty #[v, .slice ad m c]).run P W = .ok v' w1 ∧ More1 t e k n₀ B W w1 v v' (xs ++ ys) := by
  obtain ⟨i, hi, hz0, hz1, hz2⟩ := info_parts ST.info
  have hsm := ST.small
  have hsz := hr.size
  by_cases hm : m = 0
  · subst hm
    obtain rfl : ys = [] := List.eq_nil_of_length_eq_zero hsz
    refine ⟨v, W, ?_, hv, hv.set v, by rw [List.append_nil]; exact hown.set hv hte v, KeepsOthers.setCell _ _ _, (Below.refl n₀ W).setCell (p := ⟨B, 0, none⟩) hB v⟩
    rcases hown.2 with ⟨rfl, _⟩ | ⟨g, cap, cur, rfl, _, _, hnc, _⟩
    · cases ad <;> simp [Builtin.append_, run_underlying ST.under, sizeOf, typeInfo, hi, Builtin.lenOf, Builtin.firstCells, loadCells, loadCellsFrom]
    · cases ad <;> simp [Builtin.append_, run_underlying ST.under, sizeOf, typeInfo, hi, Builtin.lenOf, Builtin.firstCells, hnc, storeCells, loadCells, loadCellsFrom]
  · obtain ⟨b, off, rfl, hb, hc⟩ := hr.cell (by omega)
    have hmul : (xs.length + m) * by_ ≤ (xs.length + m) * 8 := Nat.mul_le_mul_left _ hsm
    obtain ⟨v', w1, hrun, r1, r2, r3⟩ := run_append_own (P := P) W n₀ t ty e i (.int k 0) 1 by_ ST.under hi hz0 hz1 hz2 rfl (by decide) v xs.length (xs.map (Value.int k)) hown ⟨b, off, none⟩ m c (ys.map (Value.int k)) (by simp [hsz])
      (by
        intro j u hj
        have hjl : j < ys.length := by
          have := (List.getElem?_eq_some_iff.1 hj).1
          simpa using this
        rw [Addr.add_lit, hc j (by omega)]
        simp only [List.getElem?_map, List.getElem?_eq_getElem hjl, Option.map_some, Option.some.injEq] at hj
        subst hj
        simp [hjl]) (ints_oneCell _ _) (by unfold maxLen; omega) (by omega) hn₀
    have hv1 : Boxed w1 B t v := hv.kept r2 (hv.not_row hte hown)
    have hlt : ∀ j, v.ownBlock = some j → n₀ ≤ j := fun j ej => (World.ownsRow.lt hown j ej).1
    refine ⟨v', w1, hrun, hv1, hv1.set v', ?_, ?_, ?_⟩
    · unfold Row
      rw [List.length_append, hsz, List.map_append]
      exact r1.kept (grownBy_setCell' w1 B v') (.inr (hv1.not_row hte r1).symm)
    · refine (KeepsOthers.of_grownBy r2 fun j o ej hj => ?_).trans (KeepsOthers.setCell _ _ _)
      rcases hown.2 with ⟨rfl, _⟩ | ⟨g, cap, cur, rfl, _, hgb, _⟩
      · simp [Value.ownBlock] at ej
      · obtain rfl : g = j := by simpa [Value.ownBlock] using ej
        rw [hgb] at hj; cases hj; rfl
    · exact ((Below.refl n₀ W).grown r2 hn₀ hlt).setCell (p := ⟨B, 0, none⟩) hB v'
theorem Row.shape {k : IntKind} {e : TypeId} {base : Nat} {w : World} {v : Value} {xs : List Int} (h : Row k e base w v xs) : ∃ a' c', v = .slice a' xs.length c' := by
  rcases h.2 with ⟨rfl, hn⟩ | ⟨g, cap, cur, rfl, _⟩
  · exact ⟨none, 0, by rw [hn]⟩
  · exact ⟨_, _, rfl⟩
theorem wpListIn_more1 (ST : SliceT P t e k by_) (hgd : o.guard = none) (s x : Operand) (ho : o.op = .call { callee := .builtin .append, args := #[s, x], argTypes := #[t, t] })
    {W : World} {v : Value} {xs ys : List Int} {n₀ B : Nat} {ad : Option Addr} {m c : Nat} (hs : a.eval s = v) (hx : a.eval x = .slice ad m c)
    (hv : Boxed W B t v) (hte : t ≠ e) (hown : Row k e n₀ W v xs) (hn₀ : n₀ ≤ W.heap.size) (hB : n₀ ≤ B) (hr : Reads k W ad m c ys) (hlen : xs.length + m < 1000000000000)
    (h : ∀ a' l' c' w1, More1 t e k n₀ B W w1 v (.slice a' l' c') (xs ++ ys) → wpListIn F n P ops Q rest (a.put o.dst (.slice a' l' c')) w1) :
    wpListIn F n P ops Q (o :: rest) a W := by
  refine wpListIn_plain hgd fun K hK' => ?_
  obtain ⟨v', w1, hrun, hp⟩ := run_more1 (P := P) ST o.type hv hte hown hn₀ hB hr hlen
  unfold Oper.wpIn
  refine ⟨?_, ?_⟩
  · simp [Oper.about, ho, resolve, Target.leads, Sem.run_pure]
  · rw [Oper.semAt_plain F _ _ (by rw [ho]; intro c hc'; cases hc')]
    simp [execOp, ho, resolve, invoke, builtin, hs, hx, hrun, Result.andThen]
    obtain ⟨a', c', rfl⟩ := hp.own.shape
    exact hK' _ _ (h _ _ _ _ hp)
end
end Go.Proofs.YtefhddbbiheadaaGreat
