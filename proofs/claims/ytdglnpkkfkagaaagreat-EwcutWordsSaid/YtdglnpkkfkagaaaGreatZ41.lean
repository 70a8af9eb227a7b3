/-
  Texts of ours laid together: Rwb, Rwc, Lpn.
-/
import Derived.Test.YtdglnpkkfkagaaaGreatZ40

/-! Rwb -/
namespace Go.Proofs.YtdglnpkkfkagaaaGreat
open Go.RowKit Go.Shelf
set_option linter.unusedVariables false

theorem Reads.noCells {k : IntKind} {W : World} {a : Option Addr} {l c : Nat} {ys : List Int} (h : Reads k W a l c ys) {r : Nat} {o : Obj} (ho : W.heap[r]? = some o) (hc : o.isCells = false) : Off (some r) a l := by
  intro b off hl ha hb
  cases hb
  obtain ⟨b', off', ha', _, hcell⟩ := h.cell hl
  rw [ha] at ha'; cases ha'
  obtain ⟨o', ho', hc'⟩ := cells_of_cell (hcell 0 hl)
  rw [ho] at ho'; cases ho'
  rw [hc] at hc'; cases hc'
theorem Reads.noBox {k : IntKind} {W : World} {a : Option Addr} {l c : Nat} {ys : List Int} (h : Reads k W a l c ys) {B : Nat} {t : TypeId} {a2 : Option Addr} {l2 c2 : Nat} (hb : Boxed W B t (.slice a2 l2 c2)) : Off (some B) a l := by
  intro b off hl ha he
  cases he
  obtain ⟨b', off', ha', _, hcell⟩ := h.cell hl
  rw [ha] at ha'; cases ha'
  have h0 := hcell 0 hl
  unfold World.cell? at h0
  rw [show W.heap[B]? = _ from hb] at h0
  simp only [Nat.add_zero, Option.isSome_none, Bool.false_eq_true, if_false] at h0
  cases off with
  | zero => simp at h0
  | succ n => simp at h0
theorem OwnG.stay {α : Type} {S : Sh α} {e : TypeId} {base : Nat} {W W' : World} {v : Value} {xs : List α} {row : Option Nat} (h : OwnG S e base W v xs) (hg : W.grownBy W' row) (hne : v.ownBlock = none ∨ v.ownBlock ≠ row)
    (hoff : ∀ (a : Option Addr) (l c : Nat) (ys : List Int), Reads S.k W a l c ys → Off row a l) : OwnG S e base W' v xs := by
  obtain ⟨vs, h1, h2⟩ := h
  refine ⟨vs, h1.kept hg hne, h2.1, fun i x hi => ?_⟩
  obtain ⟨a, l, c, q1, q2, q3⟩ := h2.2 i x hi
  exact ⟨a, l, c, q1, q2.turns (bs := fun k => row = some k) ⟨hg.size, fun k hk hb => hg.block k hk (fun e => hb e.symm)⟩ (fun b off hl ha hb => hoff a l c _ q2 b off hl ha hb.symm), q3⟩
theorem own_rowG {α β : Type} (S : Sh α) (D n₀ B : Nat) (t e : TypeId) (f : β → List α) : OwnFrom D (fun (s : β) W => ∃ v, Boxed W B t v ∧ OwnG S e n₀ W v (f s)) := by
  rintro s W W' row ⟨v, h1, h2⟩ hg hr
  have hne : v.ownBlock = none ∨ v.ownBlock ≠ row := by
    cases hv : v.ownBlock with
    | none => exact .inl rfl
    | some j =>
      refine .inr fun ej => ?_
      obtain ⟨vs, q1, _⟩ := h2
      obtain ⟨cur, hcur⟩ := row_cells q1 hv
      obtain ⟨_, o, ho, hc⟩ := hr j ej.symm
      rw [hcur] at ho; cases ho; cases hc
  refine ⟨v, h1.kept hg (fun ej => ?_), h2.stay hg hne (fun a l c ys hrd => ?_)⟩
  · obtain ⟨_, o, ho, hc⟩ := hr B ej.symm
    rw [show W.heap[B]? = _ from h1] at ho; cases ho; cases hc
  · cases row with
    | none => exact fun b off _ _ hb => by cases hb
    | some r =>
      obtain ⟨_, o, ho, hc⟩ := hr r rfl
      exact hrd.noCells ho hc
theorem OwnG.putObj {α : Type} {S : Sh α} {e : TypeId} {base : Nat} {W : World} {v : Value} {xs : List α} (h : OwnG S e base W v xs) {l : Nat} {o : Obj} (o' : Obj) (hl : W.heap[l]? = some o) (ho : o.isCells = false) : OwnG S e base (W.putObj l o') v xs := by
  refine h.stay (grownBy_putObj' W l o') ?_ (fun a m c ys hrd => hrd.noCells hl ho)
  cases hv : v.ownBlock with
  | none => exact .inl rfl
  | some j =>
    refine .inr fun ej => ?_
    obtain ⟨vs, q1, _⟩ := h
    obtain ⟨cur, hcur⟩ := row_cells q1 hv
    cases ej
    rw [hcur] at hl; cases hl; cases ho
section
variable {F : Fence} {n : Nat} {P : Program} {α : Type} {ops : Array Oper} {rest : List Oper} {o : Oper} {a : Act} {K : Act → World → Prop} {Q : Exit → Act → World → Prop} {E : Prop} {t e : TypeId} {z : Value} {by_ : Nat}
/-- 'make([]T, 0, n)'. -/
theorem wpListIn_makeG (S : Sh α) (hgd : o.guard = none) (l c : Operand) (ho : o.op = Op.makeSlice t l c)
    (ht : P.underlying t = some (.slice e)) (hinf : (P.info? e).map (fun i => (i.zero, i.size, i.bytes)) = some (some z, S.sz, by_)) (hby : by_ ≤ 1000)
    {w0 wr : World} {kl kc : IntKind} {m : Nat} (hl : a.eval l = .int kl 0) (hc : a.eval c = .int kc m) (hbel : Below w0.heap.size w0 wr) (hlen : m < 100000000000)
    (h : ∀ g w', OwnG S e w0.heap.size w' (.slice (some ⟨g, 0, none⟩) 0 m) [] → Below w0.heap.size w0 w' → wpListIn F n P ops Q rest (a.put o.dst (.slice (some ⟨g, 0, none⟩) 0 m)) w') :
    wpListIn F n P ops Q (o :: rest) a wr := by
  obtain ⟨i0, hi, hz0, hz1, hz2⟩ : ∃ i, P.info? e = some i ∧ i.zero = some z ∧ i.size = S.sz ∧ i.bytes = by_ := by
    cases hh : P.info? e with
    | none => rw [hh] at hinf; cases hinf
    | some i =>
      rw [hh] at hinf
      simp only [Option.map_some, Option.some.injEq, Prod.mk.injEq] at hinf
      exact ⟨i, rfl, hinf.1, hinf.2.1, hinf.2.2⟩
  have hmul : i0.bytes * m ≤ 1000 * m := Nat.mul_le_mul_right _ (by omega)
  refine wpListIn_make_own _ hgd l c t ho w0.heap.size e i0 z S.sz ht hi hz0 hz1 kl kc m m hl hc rfl (by omega) (by unfold maxLen; omega) hbel.size ?_
  intro w' hown hgrow
  exact h _ w' ⟨[], by simpa using hown, PcsG.nil _ _ _⟩ (hbel.grown hgrow hbel.size (fun j hj => by cases hj))
/-- What 'append(out, element)' has left (w1), and what its store into out's box will leave. -/
structure PushedG (S : Sh α) (t e : TypeId) (n₀ B : Nat) (W w1 : World) (v v' : Value) (xs : List α) (x : α) : Prop where
  box : Boxed w1 B t v
  put : Boxed (w1.setCell ⟨B, 0, none⟩ v') B t v'
  own : OwnG S e n₀ (w1.setCell ⟨B, 0, none⟩ v') v' (xs ++ [x])
  keeps : KeepsOthers W (w1.setCell ⟨B, 0, none⟩ v')
  below : Below n₀ W (w1.setCell ⟨B, 0, none⟩ v')
  other : ∀ B' t' u, B' ≠ B → t' ≠ e → Boxed W B' t' u → Boxed (w1.setCell ⟨B, 0, none⟩ v') B' t' u
theorem run_pushGb (S : Sh α) (x : α) (ua : Option Addr) (ul uc : Nat) (ty : TypeId)
    (ht : P.underlying t = some (.slice e)) (hinf : (P.info? e).map (fun i => (i.zero, i.size, i.bytes)) = some (some z, S.sz, by_)) (hzs : z.cells.size = S.sz) (hsz : 0 < S.sz) (hby : by_ ≤ 1000)
    {W : World} {v : Value} {xs : List α} {n₀ B : Nat} (hv : Boxed W B t v) (hte : t ≠ e) (hown : OwnG S e n₀ W v xs) (hn₀ : n₀ ≤ W.heap.size) (hB : n₀ ≤ B)
    (hu : Reads S.k W ua ul uc (S.txt x)) (hoff : Off v.ownBlock ua ul) (h1 : ∀ c ∈ S.cells x (.slice ua ul uc), c.oneCell' = true) (hN : xs.length < 100000000000) :
    ∃ g cap w1, (Builtin.append_ #[t, t] ty #[v, .slice (some ⟨W.heap.size, 0, none⟩) 1 1]).run P (W.alloc (.cells (S.cells x (.slice ua ul uc)).toArray e)) = .ok (.slice (some ⟨g, 0, none⟩) (xs.length + 1) cap) w1 ∧ PushedG S t e n₀ B W w1 v (.slice (some ⟨g, 0, none⟩) (xs.length + 1) cap) xs x := by
  obtain ⟨av, cv, rfl⟩ := hown.shape
  obtain ⟨vs, hrow, hpc⟩ := hown
  obtain ⟨i0, hi, hz0, hz1, hz2⟩ : ∃ i, P.info? e = some i ∧ i.zero = some z ∧ i.size = S.sz ∧ i.bytes = by_ := by
    cases hh : P.info? e with
    | none => rw [hh] at hinf; cases hinf
    | some i =>
      rw [hh] at hinf
      simp only [Option.map_some, Option.some.injEq, Prod.mk.injEq] at hinf
      exact ⟨i, rfl, hinf.1, hinf.2.1, hinf.2.2⟩
  obtain ⟨v', w', hrun, hown', hgrow, _, hat⟩ := run_append_own_at (P := P) (w := W.alloc (.cells (S.cells x (.slice ua ul uc)).toArray e)) n₀ t ty e i0 z S.sz by_ ht hi hz0 hz1 hz2 hzs hsz (.slice av xs.length cv) xs.length vs (hrow.alloc _) ⟨W.heap.size, 0, none⟩ 1 1 (S.cells x (.slice ua ul uc)) (by rw [S.len, Nat.one_mul]) (fun j c hj => by
    rw [Addr.add_lit, World.cell?, heap_alloc_new]
    simpa using hj) h1 (by unfold maxLen; omega) (by
    have : (xs.length + 1) * by_ ≤ (xs.length + 1) * 1000 := Nat.mul_le_mul_left _ hby
    omega) (by simp; omega)
  obtain ⟨g, cap, rfl⟩ := ownsRow_succ hown'
  obtain ⟨b1, b2, b3, b4, b5⟩ := hv.appended hte hrow hn₀ hB hown' hgrow
  refine ⟨g, cap, w', hrun, b1, b2, ⟨vs ++ S.cells x (.slice ua ul uc), by rw [List.length_append, List.length_singleton]; exact b3, ?_⟩, b4, b5, fun B' t' u hne hte' hu' => box_appended hu' hte' hne hrow hgrow⟩
  have hT : Turns (fun k => (Value.slice av xs.length cv).ownBlock = some k) W w' := ((Turns.refl _ _).below ((Below.refl W.heap.size W).alloc (Nat.le_refl _) _)).grown hgrow (fun j hj _ => hj)
  have hg : (Value.slice (some ⟨g, 0, none⟩) (xs.length + 1) cap).ownBlock = (Value.slice av xs.length cv).ownBlock ∨ ∃ j, (Value.slice (some ⟨g, 0, none⟩) (xs.length + 1) cap).ownBlock = some j ∧ W.heap.size ≤ j := by
    rcases hat with h | h
    · exact .inl h
    · exact .inr ⟨_, h, by rw [World.size_alloc]; omega⟩
  have hp : PcsG S (Value.slice (some ⟨g, 0, none⟩) (xs.length + 1) cap).ownBlock w' (vs ++ S.cells x (.slice ua ul uc)) (xs ++ [x]) := by
    refine (hpc.turns hT hg).snoc (hu.turns hT (fun b off hl ha hb => hoff b off hl ha hb.symm)) ?_
    rcases hg with h | ⟨j, h, hj⟩
    · rw [h]; exact hoff
    · rw [h]; exact hu.off (fun k hk => by cases hk; exact hj)
  have hG := grownBy_setCell' w' B (.slice (some ⟨g, 0, none⟩) (xs.length + 1) cap)
  refine ⟨hp.1, fun i y hi => ?_⟩
  obtain ⟨a', l', c', q1, q2, q3⟩ := hp.2 i y hi
  exact ⟨a', l', c', q1, q2.turns (bs := fun k => k = B) ⟨hG.size, fun k hk hb => hG.block k hk (fun e => hb (Option.some.inj e))⟩ (fun b off hl ha hb => q2.noBox b1 b off hl ha (by rw [hb])), q3⟩
/-- .. an operation of a region that draws its order. -/
theorem opIn_pushG (S : Sh α) (x : α) (ua : Option Addr) (ul uc : Nat) {s y : Operand} (ho : o.op = .call { callee := .builtin .append, args := #[s, y], argTypes := #[t, t] }) (hgd : o.guard = none)
    (ht : P.underlying t = some (.slice e)) (hinf : (P.info? e).map (fun i => (i.zero, i.size, i.bytes)) = some (some z, S.sz, by_)) (hzs : z.cells.size = S.sz) (hsz : 0 < S.sz) (hby : by_ ≤ 1000)
    {W W1 : World} (hW : W1 = W.alloc (.cells (S.cells x (.slice ua ul uc)).toArray e)) {v : Value} {xs : List α} {n₀ B : Nat} (hs : a.eval s = v) (hx : a.eval y = .slice (some ⟨W.heap.size, 0, none⟩) 1 1)
    (hv : Boxed W B t v) (hte : t ≠ e) (hown : OwnG S e n₀ W v xs) (hn₀ : n₀ ≤ W.heap.size) (hB : n₀ ≤ B)
    (hu : Reads S.k W ua ul uc (S.txt x)) (hoff : Off v.ownBlock ua ul) (h1 : ∀ c ∈ S.cells x (.slice ua ul uc), c.oneCell' = true) (hN : xs.length < 100000000000)
    (h : ∀ g cap w1, PushedG S t e n₀ B W w1 v (.slice (some ⟨g, 0, none⟩) (xs.length + 1) cap) xs x → K (a.put o.dst (.slice (some ⟨g, 0, none⟩) (xs.length + 1) cap)) w1) :
    if Region.wanted o (yielded ops a.tmps) = true then Oper.wpIn F n P o a W1 K Q else E := by
  subst hW
  have hw : Region.wanted o (yielded ops a.tmps) = true := by simp [Region.wanted, hgd]
  rw [if_pos hw]
  obtain ⟨g, cap, w1, hrun, hp⟩ := run_pushGb (P := P) S x ua ul uc o.type ht hinf hzs hsz hby hv hte hown hn₀ hB hu hoff h1 hN
  unfold Oper.wpIn
  refine ⟨?_, ?_⟩
  · simp [Oper.about, ho, resolve, Target.leads, Sem.run_pure]
  · rw [Oper.semAt_plain F _ _ (by rw [ho]; intro c hc'; cases hc')]
    simp [execOp, ho, resolve, invoke, builtin, hs, hx, hrun, Result.andThen]
    exact h _ _ _ hp
end
end Go.Proofs.YtdglnpkkfkagaaaGreat

/-! Rwc -/
namespace Go.Proofs.YtdglnpkkfkagaaaGreat
open Go.RowKit Go.Shelf
set_option linter.unusedVariables false

/-- A number of another kind lies in the box. -/
theorem Reads.noBoxI {k k' : IntKind} {W : World} {a : Option Addr} {l c : Nat} {ys : List Int} (h : Reads k W a l c ys) {B : Nat} {t : TypeId} {z : Int} (hb : Boxed W B t (.int k' z)) (hk : k' ≠ k) : Off (some B) a l := by
  intro b off hl ha he
  cases he
  obtain ⟨b', off', ha', _, hcell⟩ := h.cell hl
  rw [ha] at ha'; cases ha'
  have h0 := hcell 0 hl
  unfold World.cell? at h0
  rw [show W.heap[B]? = _ from hb] at h0
  simp only [Nat.add_zero, Option.isSome_none, Bool.false_eq_true, if_false] at h0
  cases off with
  | zero =>
    simp at h0
    exact hk h0.1
  | succ n => simp at h0
theorem OwnG.setBox {α : Type} {S : Sh α} {e t : TypeId} {base B : Nat} {W : World} {v u : Value} {xs : List α} (h : OwnG S e base W v xs) (hb : Boxed W B t u) (hte : t ≠ e)
    (hoff : ∀ (a : Option Addr) (l c : Nat) (ys : List Int), Reads S.k W a l c ys → Off (some B) a l) (u' : Value) : OwnG S e base (W.setCell ⟨B, 0, none⟩ u') v xs := by
  obtain ⟨vs, h1, h2⟩ := h
  exact OwnG.stay ⟨vs, h1, h2⟩ (grownBy_setCell' W B u') (.inr (hb.not_row hte h1).symm) hoff
/-- What a round keeps: what lay below n₀; two boxes. -/
def Keeps2 (n₀ B0 B1 : Nat) (t : TypeId) (W W' : World) : Prop := KeepsBox n₀ B0 t W W' ∧ KeepsBox n₀ B1 t W W'
theorem Keeps2.refl (n₀ B0 B1 : Nat) (t : TypeId) (W : World) : Keeps2 n₀ B0 B1 t W W := ⟨KeepsBox.refl _ _ _ _, KeepsBox.refl _ _ _ _⟩
theorem keeps2_t {n₀ B0 B1 : Nat} {t : TypeId} {A B C : World} (h : Keeps2 n₀ B0 B1 t A B) (k : Keeps2 n₀ B0 B1 t B C) : Keeps2 n₀ B0 B1 t A C := ⟨keepsBox_t h.1 k.1, keepsBox_t h.2 k.2⟩
theorem keeps2_b {n₀ B0 B1 : Nat} {t : TypeId} {w : World} (hn : n₀ ≤ w.heap.size) (W : World) (l : Nat) (o o' : Obj) (hl : w.heap.size ≤ l) (h : W.heap[l]? = some o) (hc : o.isCells = false) (hw : o.isWalk = false) : Keeps2 n₀ B0 B1 t W (W.putObj l o') :=
  ⟨keepsBox_b hn W l o o' hl h hc hw, keepsBox_b hn W l o o' hl h hc hw⟩
theorem keeps2_below {n₀ B0 B1 : Nat} {t : TypeId} {W W' : World} (hb : Below W.heap.size W W') (hn : n₀ ≤ W.heap.size) : Keeps2 n₀ B0 B1 t W W' :=
  ⟨⟨hb.mono hn, fun v hv => Boxed.below hv hb⟩, ⟨hb.mono hn, fun v hv => Boxed.below hv hb⟩⟩
end Go.Proofs.YtdglnpkkfkagaaaGreat

/-! Lpn -/
namespace Go.Proofs.YtdglnpkkfkagaaaGreat
open Go.RowKit
set_option linter.unusedVariables false

/-- The pieces' places in a row: where they begin, how long they are. -/
abbrev LPn (L : Nat) := { x : Nat × Nat // x.1 + x.2 ≤ L ∧ x.1 < L }
def encN {L : Nat} (b off cap : Nat) (x : LPn L) : Array Value := #[.slice (some ⟨b, off + x.1.1, none⟩) x.1.2 (cap - x.1.1)]
def pcN (xs : List Int) (x : Nat × Nat) : List Int := (xs.drop x.1).take x.2
def valLn {L : Nat} (xs : List Int) (pre : List (LPn L)) : List (List Int) := pre.map fun x => pcN xs x.1
theorem valLn_snoc {L : Nat} (xs : List Int) (pre : List (LPn L)) (x : LPn L) : valLn xs (pre ++ [x]) = valLn xs pre ++ [pcN xs x.1] := by simp [valLn]
theorem pcN_len {L : Nat} {xs : List Int} (hsz : xs.length = L) (x : LPn L) : (pcN xs x.1).length = x.1.2 := by
  obtain ⟨⟨p, f⟩, h1, h2⟩ := x
  unfold pcN
  dsimp only at *
  rw [List.length_take, List.length_drop]
  omega
theorem lpn_read {k : IntKind} {L b off cap : Nat} {a : Option Addr} {xs : List Int} {w : World} (hr : Reads k w a L cap xs) (ha : 0 < L → a = some ⟨b, off, none⟩) (x : LPn L) :
    Reads k w (some ⟨b, off + x.1.1, none⟩) x.1.2 (cap - x.1.1) (pcN xs x.1) := by
  obtain ⟨⟨p, f⟩, h1, h2⟩ := x
  dsimp only at h1 h2 ⊢
  have hrm := hr.room
  have hp := hr.piece (l := p) (r := L) (by omega) (Nat.le_refl _)
  rw [ha (by omega), List.take_of_length_le (by rw [hr.size]; exact Nat.le_refl _), if_neg (by omega), Option.map_some, Addr.add_lit] at hp
  exact hp.pre (by omega)
end Go.Proofs.YtdglnpkkfkagaaaGreat
