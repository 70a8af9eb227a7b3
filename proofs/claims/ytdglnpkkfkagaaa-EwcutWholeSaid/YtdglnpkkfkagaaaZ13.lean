/-
  Texts of ours laid together: Grw, R29, Rdr, R29b.
-/
import Derived.Maps.AppendAt
import Derived.Test.YtdglnpkkfkagaaaRows
import Derived.BigQuiet
import Derived.StillTailTactics
import Derived.Deep.RegionHeld3
import Derived.Test.YtdglnpkkfkagaaaZ12

/-! Grw -/
namespace Go.Proofs.Ytdglnpkkfkagaaa
open Go.RowKit
set_option linter.unusedVariables false

/-- A finished row: a slice of the octets xs, below q, in a block of octets. -/
def FinP (q : Nat) (e8 : TypeId) (W : World) (u : Value) (xs : List Int) : Prop :=
  ∃ a l c, u = .slice a l c ∧ Reads .u8 W a l c xs ∧ ∀ b off, 0 < l → a = some ⟨b, off, none⟩ → b < q ∧ ∃ C fz, W.heap[b]? = some (.cells C e8 fz)
theorem FinP.same {q q' : Nat} {e8 : TypeId} {W W' : World} {u : Value} {xs : List Int} (h : FinP q e8 W u xs) (hs : W.heap.size ≤ W'.heap.size) (hq : q ≤ q') (hb : ∀ b, b < q → b < W.heap.size → (∃ C fz, W.heap[b]? = some (.cells C e8 fz)) → W'.heap[b]? = W.heap[b]?) : FinP q' e8 W' u xs := by
  obtain ⟨a, l, c, rfl, hr, hp⟩ := h
  have key : ∀ b off, 0 < l → a = some ⟨b, off, none⟩ → b < W.heap.size ∧ W'.heap[b]? = W.heap[b]? := by
    intro b off hl ha
    obtain ⟨b', off', ha', hlt, _⟩ := hr.cell hl
    rw [ha] at ha'; cases ha'
    exact ⟨hlt, hb b (hp b off hl ha).1 hlt (hp b off hl ha).2⟩
  refine ⟨a, l, c, rfl, ⟨hr.size, hr.room, hr.top, hr.wf, fun hl => ?_⟩, fun b off hl ha => ⟨Nat.lt_of_lt_of_le (hp b off hl ha).1 hq, ?_⟩⟩
  · obtain ⟨b, off, ha, hlt, hc⟩ := hr.cell hl
    exact ⟨b, off, ha, Nat.lt_of_lt_of_le hlt hs, fun i hi => (World.cell?_of_block (key b off hl ha).2).trans (hc i hi)⟩
  · obtain ⟨C, fz, h⟩ := (hp b off hl ha).2
    exact ⟨C, fz, by rw [(key b off hl ha).2]; exact h⟩
/-- v holds the rows O and, last, u, which holds L; rows, v's own row and what else was there lie below q, u's row above it. -/
structure Grow (e e8 : TypeId) (B q : Nat) (W : World) (v u : Value) (O : List (List Int)) (L : List Int) : Prop where
  row : ∃ vs, vs.length = O.length ∧ W.ownsRow B e 1 v (O.length + 1) (vs ++ [u]) ∧ ∀ (i : Nat) (u' : Value) (xs : List Int), vs[i]? = some u' → O[i]? = some xs → FinP q e8 W u' xs
  below : ∀ j, v.ownBlock = some j → j < q
  last : Own .u8 e8 q W u L
  lo : B ≤ q
  hi : q ≤ W.heap.size

theorem Grow.shape {e e8 : TypeId} {B q : Nat} {W : World} {v u : Value} {O : List (List Int)} {L : List Int} (h : Grow e e8 B q W v u O L) :
    ∃ g c, v = .slice (some ⟨g, 0, none⟩) (O.length + 1) c ∧ B ≤ g ∧ g < q ∧ W.cell? ⟨g, O.length, none⟩ = some u ∧ W.frozen? ⟨g, O.length, none⟩ = false ∧ ∃ a l, u = .slice a L.length l := by
  obtain ⟨vs, hvs, hrow, hfin⟩ := h.row
  rcases hrow.2 with ⟨_, h0⟩ | ⟨g, cap, cur, rfl, hg, h1, h2, h3, h4⟩
  · omega
  · refine ⟨g, cap, rfl, hg, h.below g rfl, ?_, hrow.frozenAt _, ?_⟩
    · rw [hrow.cellAt _ (by omega), ← hvs]
      simp
    · obtain ⟨a, c, hu, _⟩ := h.last.reads
      exact ⟨a, c, hu⟩
/-- The literal of one empty row. -/
theorem Grow.start (e e8 : TypeId) (w : World) : Grow e e8 w.heap.size (w.heap.size + 1) (w.alloc (.cells #[.slice none 0 0] e)) (.slice (some ⟨w.heap.size, 0, none⟩) 1 1) (.slice none 0 0) [] [] := by
  refine ⟨⟨[], rfl, ⟨rfl, .inr ⟨w.heap.size, 1, #[.slice none 0 0], rfl, Nat.le_refl _, ?_, Nat.le_refl _, by decide, rfl, rfl⟩⟩, fun i u' xs h _ => by simp at h⟩, fun j hj => ?_, Own.nil _ _ _ _, by omega, by simp⟩
  · exact heap_alloc_new w _
  · simp [Value.ownBlock] at hj
    omega
/-- One more octet on the last row: its new value, in its cell. -/
theorem Grow.put {e e8 : TypeId} {B q g c : Nat} {W W' : World} {u u' : Value} {O : List (List Int)} {L L' : List Int} (h : Grow e e8 B q W (.slice (some ⟨g, 0, none⟩) (O.length + 1) c) u O L) (hne : e ≠ e8)
    (ho : Own .u8 e8 q W' u' L') (hb : Below q W W') : Grow e e8 B q (W'.setCell ⟨g, O.length, none⟩ u') (.slice (some ⟨g, 0, none⟩) (O.length + 1) c) u' O L' := by
  obtain ⟨vs, hvs, hrow, hfin⟩ := h.row
  have hgq : g < q := h.below g rfl
  have hrow' : W'.ownsRow B e 1 (.slice (some ⟨g, 0, none⟩) (O.length + 1) c) (O.length + 1) (vs ++ [u]) := by
    refine ⟨hrow.1, ?_⟩
    rcases hrow.2 with h' | ⟨g', cap, cur, h1, h2, h3, h4⟩
    · exact .inl h'
    · cases h1
      exact .inr ⟨_, _, cur, rfl, h2, by rw [hb.block g hgq]; exact h3, h4⟩
  have hset : (vs ++ [u]).set O.length u' = vs ++ [u'] := by rw [← hvs, List.set_append_right _ _ (Nat.le_refl _), Nat.sub_self]; rfl
  have hst := (hrow'.stored O.length u').1
  rw [hset] at hst
  obtain ⟨cur, hcur⟩ := row_cells hrow' (j := g) rfl
  refine ⟨⟨vs, hvs, hst, fun i u1 xs h1 h2 => (hfin i u1 xs h1 h2).same (Nat.le_trans hb.size (by simp [World.setCell])) (Nat.le_refl _) fun b hbq hbs hC => ?_⟩, h.below, ?_, h.lo, Nat.le_trans h.hi (Nat.le_trans hb.size (by simp [World.setCell]))⟩
  · have hbg : b ≠ g := by
      rintro rfl
      obtain ⟨C, fz, hC⟩ := hC
      rw [← hb.block b hbq, hcur] at hC
      injection hC with hC; injection hC with _ he; exact hne he
    exact (Below.heap_setCell _ _ _ _ hbg).trans (hb.block b hbq)
  · refine ⟨Turns.row ((Turns.refl (fun k => k = g) W').set g O.length u' rfl) ho.1 fun j hj => ?_, ho.2⟩
    have := (ho.1.lt j hj).1
    omega
theorem Grow.putBelow {B q g j : Nat} {w W W' : World} (hb0 : Below B w W) (hb : Below q W W') (hlo : B ≤ q) (hg : B ≤ g) (u' : Value) : Below B w (W'.setCell ⟨g, j, none⟩ u') :=
  (hb0.trans (hb.mono hlo)).setCell hg _
/-- All rows, read. -/
theorem Grow.rows {e e8 : TypeId} {B q : Nat} {W : World} {v u : Value} {O : List (List Int)} {L : List Int} (h : Grow e e8 B q W v u O L) :
    ∃ a c, v = .slice a (O.length + 1) c ∧ Rws W a (O.length + 1) c (O ++ [L]) ∧ Rws W a O.length c O := by
  obtain ⟨vs, hvs, hrow, hfin⟩ := h.row
  rcases hrow.2 with ⟨_, h0⟩ | ⟨g, cap, cur, rfl, hg, h1, h2, h3, h4⟩
  · omega
  · have hlt : g < W.heap.size := (hrow.lt g rfl).2
    have cellat : ∀ (i : Nat) (xs : List Int), O[i]? = some xs → ∃ ai li ci, W.cell? ⟨g, i, none⟩ = some (.slice ai li ci) ∧ Reads .u8 W ai li ci xs := by
      intro i xs hi
      have hil : i < O.length := (List.getElem?_eq_some_iff.1 hi).1
      have hiv : i < vs.length := by omega
      obtain ⟨a, l, c, e1, hr, _⟩ := hfin i _ xs (List.getElem?_eq_getElem hiv) hi
      refine ⟨a, l, c, ?_, hr⟩
      rw [hrow.cellAt i (by omega), List.getElem?_append_left hiv, List.getElem?_eq_getElem hiv, e1]
    refine ⟨_, _, rfl, ⟨by simp, h2, h3, fun _ => ⟨g, 0, rfl, hlt, fun i xs hi => ?_⟩⟩, ⟨rfl, by omega, h3, fun _ => ⟨g, 0, rfl, hlt, fun i xs hi => by rw [Nat.zero_add]; exact cellat i xs hi⟩⟩⟩
    rw [Nat.zero_add]
    by_cases hil : i < O.length
    · rw [List.getElem?_append_left hil] at hi
      exact cellat i xs hi
    · have hie : i = O.length := by
        have := (List.getElem?_eq_some_iff.1 hi).1
        simp at this
        omega
      subst hie
      simp at hi
      subst hi
      obtain ⟨a, c, hu, hr⟩ := h.last.reads
      refine ⟨a, _, c, ?_, hr⟩
      rw [hrow.cellAt _ (by omega), ← hvs]
      simp [hu]

section
variable {P : Program} {ops : Array Oper} {rest : List Oper} {o : Oper} {a : Act} {K : Act → World → Prop} {Q : Exit → Act → World → Prop} {E : Prop} {t e : TypeId} {k : IntKind} {by_ : Nat}
/-- 'append(row, y)' at a base of one's own, as a step of a region that draws its order. -/
theorem step_pushQ (ST : SliceT P t e k by_) (hgd : o.guard = none) (s x : Operand) (ho : o.op = .call { callee := .builtin .append, args := #[s, x], argTypes := #[t, t] })
    {q : Nat} {wr : World} {e' : TypeId} {y : Int} {v : Value} {xs : List Int} (hs : a.eval s = v) (hx : ∃ c, a.eval x = .slice (some ⟨wr.heap.size, 0, none⟩) 1 c)
    (hown : Own k e q wr v xs) (hq : q ≤ wr.heap.size) (hlen : xs.length < 1000000000000) (hwf : (Lit.int k y).wf = true)
    (h : ∀ v' w', Own k e q w' v' (xs ++ [y]) → Below q wr w' → K (a.put o.dst v') w') :
    if Region.wanted o (yielded ops a.tmps) = true then Oper.wp P o a (wr.alloc (.cells #[.int k y] e')) K Q else E := by
  obtain ⟨i, hi, hz0, hz1, hz2⟩ := info_parts ST.info
  obtain ⟨c, hx⟩ := hx
  have hsm := ST.small
  have hmul : (xs.length + 1) * by_ ≤ (xs.length + 1) * 8 := Nat.mul_le_mul_left _ hsm
  have hw : Region.wanted o (yielded ops a.tmps) = true := by simp [Region.wanted, hgd]
  rw [if_pos hw]
  refine wp_append_lies _ s x t ho q e i (.int k 0) 1 by_ ST.under hi hz0 hz1 hz2 rfl (by decide) v xs.length (xs.map (Value.int k)) hs (hown.1.alloc _) ⟨wr.heap.size, 0, none⟩ 1 c [.int k y] hx rfl ?_ (by intro u hu; simp at hu; subst hu; rfl) (by omega) (by unfold maxLen; omega) (by omega)
    (Nat.le_trans hq (by simp)) _ rfl ?_
  · intro j u hj
    match j, hj with
    | 0, hj => simp at hj; subst hj; simp [Addr.add]
  · intro g cap w' hown' hgrow _ _
    refine h _ w' ⟨by simpa using hown', ?_⟩ (((Below.refl q wr).alloc hq _).grown hgrow (Nat.le_trans hq (by simp)) (fun j hj => (hown.1.lt j hj).1))
    intro z hz
    rcases List.mem_append.1 hz with hz | hz
    · exact hown.2 z hz
    · simp at hz; subst hz; exact hwf
/-- 'append(rows, nil)': a new row begins. -/
theorem wpList_line {e8 : TypeId} (hu : P.underlying t = some (.slice e)) (hinf : (P.info? e).map (fun i => (i.zero, i.size, i.bytes)) = some (some (.slice none 0 0), 1, 24)) (hne : e ≠ e8)
    (hgd : o.guard = none) (s x : Operand) (ho : o.op = .call { callee := .builtin .append, args := #[s, x], argTypes := #[t, t] })
    {B q : Nat} {wr : World} {v u : Value} {O : List (List Int)} {L : List Int} (hs : a.eval s = v) (hx : ∃ c, a.eval x = .slice (some ⟨wr.heap.size, 0, none⟩) 1 c)
    (h : Grow e e8 B q wr v u O L) (hlen : O.length < 1000000000)
    (hK : ∀ v' w', Grow e e8 B w'.heap.size w' v' (.slice none 0 0) (O ++ [L]) [] → Below B wr w' → wpList P ops Q rest (a.put o.dst v') w') :
    wpList P ops Q (o :: rest) a (wr.alloc (.cells #[.slice none 0 0] e)) := by
  obtain ⟨i, hi, hz0, hz1, hz2⟩ := info_parts hinf
  obtain ⟨c, hx⟩ := hx
  obtain ⟨vs, hvs, hrow, hfin⟩ := h.row
  have hB : B ≤ wr.heap.size := Nat.le_trans h.lo h.hi
  refine wpList_append_own _ hgd s x t ho B e i (.slice none 0 0) 1 24 hu hi hz0 hz1 hz2 rfl (by decide) v (O.length + 1) (vs ++ [u]) hs (hrow.alloc _) ⟨wr.heap.size, 0, none⟩ 1 c [.slice none 0 0] hx rfl (cell_one_new _ _ _) (by intro w hw; simp at hw; subst hw; rfl) (by unfold maxLen; omega) (by omega)
    (Nat.le_trans hB (by simp)) ?_
  intro v' w' hown' hgrow _
  have hT : Turns (fun k => v.ownBlock = some k) wr w' := ((Turns.refl _ _).below ((Below.refl wr.heap.size wr).alloc (Nat.le_refl _) _)).grown hgrow (fun j hj _ => hj)
  have hnot : ∀ b, (∃ C fz, wr.heap[b]? = some (.cells C e8 fz)) → ¬ v.ownBlock = some b := by
    intro b hC hv
    obtain ⟨C, fz, hC⟩ := hC
    obtain ⟨cur, hcur⟩ := row_cells hrow hv
    rw [hC] at hcur
    injection hcur with hcur; injection hcur with _ he; exact hne he.symm
  refine hK v' w' ⟨⟨vs ++ [u], by simp [hvs], by simpa using hown', fun j u1 xs h1 h2 => ?_⟩, fun j hj => (hown'.lt j hj).2, Own.nil _ _ _ _, Nat.le_trans hB hT.size, Nat.le_refl _⟩
    (((Below.refl B wr).alloc hB _).grown hgrow (Nat.le_trans hB (by simp)) (fun j hj => (hrow.lt j hj).1))
  have same : ∀ {u xs}, FinP wr.heap.size e8 wr u xs → FinP w'.heap.size e8 w' u xs := fun hf => hf.same hT.size hT.size fun b _ hb hC => hT.block b hb (hnot b hC)
  rcases Nat.lt_trichotomy j vs.length with hj | hj | hj
  · rw [List.getElem?_append_left hj] at h1
    rw [List.getElem?_append_left (by rw [← hvs]; exact hj)] at h2
    exact same ((hfin j u1 xs h1 h2).same (Nat.le_refl _) h.hi (fun _ _ _ _ => rfl))
  · subst hj
    rw [List.getElem?_append_right (Nat.le_refl _)] at h1
    rw [List.getElem?_append_right (by rw [hvs]; exact Nat.le_refl _), hvs] at h2
    simp at h1 h2
    subst h1 h2
    obtain ⟨a1, c1, hu1, hr1⟩ := h.last.reads
    refine same ⟨a1, _, c1, hu1, hr1, fun b off hl ha => ?_⟩
    rcases h.last.1.2 with ⟨h1', h2'⟩ | ⟨g, cap, cur, h1', _, hg, _⟩
    · omega
    · rw [hu1, ha] at h1'
      cases h1'
      exact ⟨(h.last.1.lt b (by rw [hu1, ha]; rfl)).2, cur, _, hg⟩
  · rw [List.getElem?_eq_none (by simp; omega)] at h1
    cases h1
end
end Go.Proofs.Ytdglnpkkfkagaaa

/-! R29 -/
namespace Go.Proofs.Ytdglnpkkfkagaaa
open Go.RowKit
set_option linter.unusedVariables false

theorem drop_one29 {xs : List Int} {k : Nat} {x : Int} (h : xs[k]? = some x) : xs.drop k = x :: xs.drop (k + 1) := by
  have hk : k < xs.length := (List.getElem?_eq_some_iff.1 h).1
  rw [List.drop_eq_getElem_cons hk, (List.getElem?_eq_some_iff.1 h).2]
end Go.Proofs.Ytdglnpkkfkagaaa

/-! Rdr -/
namespace Go.Proofs.Ytdglnpkkfkagaaa
open Go.RowKit
set_option linter.unusedVariables false

/-- Block B holds the cells vs of type t. -/
def Blk (W : World) (B : Nat) (t : TypeId) (vs : Array Value) : Prop := W.heap[B]? = some (.cells vs t (0, 0))
theorem Blk.lt {W : World} {B : Nat} {t : TypeId} {vs : Array Value} (h : Blk W B t vs) : B < W.heap.size := (Array.getElem?_eq_some_iff.1 h).1
theorem Blk.cell {W : World} {B : Nat} {t : TypeId} {vs : Array Value} (h : Blk W B t vs) {i : Nat} {v : Value} (hi : vs[i]? = some v) : W.cell? ⟨B, i, none⟩ = some v := by rw [cell_of_row _ _ _ _ _ _ h]; exact hi
theorem Blk.frozen {W : World} {B : Nat} {t : TypeId} {vs : Array Value} (h : Blk W B t vs) (i : Nat) : W.frozen? ⟨B, i, none⟩ = false := by simp [World.frozen?, show W.heap[B]? = _ from h]
theorem Blk.new (W : World) (t : TypeId) (vs : Array Value) : Blk (W.alloc (.cells vs t)) W.heap.size t vs := heap_alloc_new W _
theorem Blk.kept {W W' : World} {row : Option Nat} {B : Nat} {t : TypeId} {vs : Array Value} (h : Blk W B t vs) (hg : W.grownBy W' row) (hne : some B ≠ row) : Blk W' B t vs := (hg.block B h.lt hne).trans h
theorem Blk.below {W W' : World} {B D : Nat} {t : TypeId} {vs : Array Value} (h : Blk W B t vs) (hb : Below D W W') (hlt : B < D) : Blk W' B t vs := (hb.block B hlt).trans h
theorem Blk.drewN {W : World} {B : Nat} {t : TypeId} {vs : Array Value} (h : Blk W B t vs) (n : Nat) : Blk (W.drewN n) B t vs := h
theorem Blk.set {W : World} {B : Nat} {t : TypeId} {vs : Array Value} (h : Blk W B t vs) (i : Nat) (u : Value) : Blk (W.setCell ⟨B, i, none⟩ u) B t (vs.setIfInBounds i u) := by
  obtain ⟨hlt, hk⟩ := Array.getElem?_eq_some_iff.1 h
  show (W.heap.modify B _)[B]? = _
  rw [Array.getElem?_eq_getElem (by rw [Array.size_modify]; exact hlt), Array.getElem_modify_self, hk]
  rfl
theorem grownBy_set (W : World) (b i : Nat) (v : Value) : W.grownBy (W.setCell ⟨b, i, none⟩ v) (some b) :=
  ⟨rfl, rfl, rfl, by simp [World.setCell], fun k _ hk => Below.heap_setCell _ _ _ k (fun e => hk (by rw [e]))⟩
theorem grownBy_t {a b c : World} {row : Option Nat} (h : a.grownBy b row) (k : b.grownBy c row) : a.grownBy c row :=
  ⟨k.os.trans h.os, k.tape.trans h.tape, k.output.trans h.output, Nat.le_trans h.size k.size, fun i hi hn => (k.block i (Nat.lt_of_lt_of_le hi h.size) hn).trans (h.block i hi hn)⟩
theorem grownBy_draws (W : World) (n : Nat) (row : Option Nat) : W.grownBy (W.drewN n) row := ⟨rfl, rfl, rfl, Nat.le_refl _, fun _ _ _ => rfl⟩
theorem Blk.not_row {W : World} {B : Nat} {t e : TypeId} {vs : Array Value} (h : Blk W B t vs) (hte : t ≠ e) {base size k : Nat} {v : Value} {xs : List Value} (hr : W.ownsRow base e size v k xs) : some B ≠ v.ownBlock := by
  rcases hr.2 with ⟨rfl, _⟩ | ⟨g, cap, cur, rfl, _, hgb, _⟩
  · simp [Value.ownBlock]
  · intro e'
    obtain rfl : B = g := by simpa [Value.ownBlock] using e'
    have := (show W.heap[B]? = _ from h).symm.trans hgb
    simp at this
    exact hte this.2
/-- A row of the call's own is not the struct's block: it stays when that is written. -/
theorem Own.beside {k : IntKind} {e t : TypeId} {base B : Nat} {W W' : World} {v : Value} {xs : List Int} {vs : Array Value} (h : Own k e base W v xs) (hB : Blk W B t vs) (hte : t ≠ e) (hg : W.grownBy W' (some B)) : Own k e base W' v xs :=
  ⟨h.1.kept hg (.inr fun e' => hB.not_row hte h.1 e'.symm), h.2⟩
/-- The struct's block is from B on: what is below stays. -/
theorem below_beside {a w w' : World} {B D : Nat} (h : Below D a w) (hg : w.grownBy w' (some B)) (hD : D ≤ w.heap.size) (hB : D ≤ B) : Below D a w' := h.grown hg hD (fun k hk => by cases hk; exact hB)

section
variable {P : Program} {ops : Array Oper} {rest : List Oper} {o : Oper} {a : Act} {Q : Exit → Act → World → Prop} {t e : TypeId} {k : IntKind} {by_ : Nat}
/-- 'append(s, y1, y2, ..)' beside a struct's block. -/
theorem wpList_pushsB (ST : SliceT P t e k by_) (ys : List Int) (hgd : o.guard = none) (s x : Operand) (ho : o.op = .call { callee := .builtin .append, args := #[s, x], argTypes := #[t, t] })
    {w0 wr : World} {e' T : TypeId} {v : Value} {xs : List Int} {B : Nat} {vs : Array Value} (hs : a.eval s = v) (hx : ∃ c, a.eval x = .slice (some ⟨wr.heap.size, 0, none⟩) ys.length c)
    (hown : Own k e w0.heap.size wr v xs) (hbel : Below w0.heap.size w0 wr) (hB : Blk wr B T vs) (hte : T ≠ e) (hlen : xs.length + ys.length < 1000000000000) (hwf : ∀ y ∈ ys, (Lit.int k y).wf = true)
    (h : ∀ v' w', Own k e w0.heap.size w' v' (xs ++ ys) → Below w0.heap.size w0 w' → Blk w' B T vs → wpList P ops Q rest (a.put o.dst v') w') :
    wpList P ops Q (o :: rest) a (wr.alloc (.cells (ys.map (Value.int k)).toArray e')) := by
  obtain ⟨i, hi, hz0, hz1, hz2⟩ := info_parts ST.info
  obtain ⟨c, hx⟩ := hx
  have hsm := ST.small
  have hmul : (xs.length + ys.length) * by_ ≤ (xs.length + ys.length) * 8 := Nat.mul_le_mul_left _ hsm
  have hB1 : Blk (wr.alloc (.cells (ys.map (Value.int k)).toArray e')) B T vs := hB.kept (World.grownBy_alloc _ _ none) (by simp)
  refine wpList_append_own _ hgd s x t ho w0.heap.size e i (.int k 0) 1 by_ ST.under hi hz0 hz1 hz2 rfl (by decide) v xs.length (xs.map (Value.int k)) hs (hown.1.alloc _) ⟨wr.heap.size, 0, none⟩ ys.length c (ys.map (Value.int k)) hx (by simp) ?_ (ints_oneCell _ _) (by unfold maxLen; omega) (by omega)
    (Nat.le_trans hbel.size (by simp)) ?_
  · intro j u hj
    rw [Addr.add_lit, World.cell?_alloc_at _ _ _ _ rfl]
    simpa using hj
  · intro v' w' hown' hgrow _
    refine h v' w' ⟨by simpa using hown', ?_⟩ ((hbel.alloc hbel.size _).grown hgrow (Nat.le_trans hbel.size (by simp)) (fun j hj => (hown.1.lt j hj).1)) (hB1.kept hgrow (hB1.not_row hte (hown.1.alloc _)))
    intro z hz
    rcases List.mem_append.1 hz with hz | hz
    · exact hown.2 z hz
    · exact hwf z hz
end
end Go.Proofs.Ytdglnpkkfkagaaa

/-! R29b -/
namespace Go.Proofs.Ytdglnpkkfkagaaa
open Go.RowKit
set_option linter.unusedVariables false

theorem rws5 {W : World} {a : Option Addr} {n c : Nat} {p0 p1 p2 p3 p4 : List Int} (h : Rws W a n c [p0, p1, p2, p3, p4]) :
    n = 5 ∧ ∃ b off, a = some ⟨b, off, none⟩ ∧ b < W.heap.size ∧ (∃ a0 l0 c0, W.cell? ⟨b, off, none⟩ = some (.slice a0 l0 c0) ∧ Reads .u8 W a0 l0 c0 p0) ∧ (∃ a0 l0 c0, W.cell? ⟨b, off + 1, none⟩ = some (.slice a0 l0 c0) ∧ Reads .u8 W a0 l0 c0 p1) ∧
      (∃ a0 l0 c0, W.cell? ⟨b, off + 2, none⟩ = some (.slice a0 l0 c0) ∧ Reads .u8 W a0 l0 c0 p2) ∧ (∃ a0 l0 c0, W.cell? ⟨b, off + 3, none⟩ = some (.slice a0 l0 c0) ∧ Reads .u8 W a0 l0 c0 p3) ∧ (∃ a0 l0 c0, W.cell? ⟨b, off + 4, none⟩ = some (.slice a0 l0 c0) ∧ Reads .u8 W a0 l0 c0 p4) := by
  have hn := h.size
  simp only [List.length_cons, List.length_nil] at hn
  obtain ⟨b, off, ha, hlt, hc⟩ := h.cell (by omega)
  exact ⟨by omega, b, off, ha, hlt, hc 0 p0 rfl, hc 1 p1 rfl, hc 2 p2 rfl, hc 3 p3 rfl, hc 4 p4 rfl⟩
theorem five_parts {L : List (List Int)} (h : L.length = 5) : ∃ p0 p1 p2 p3 p4, L = [p0, p1, p2, p3, p4] := by
  match L, h with
  | [p0, p1, p2, p3, p4], _ => exact ⟨p0, p1, p2, p3, p4, rfl⟩
theorem ew_no3 {xs : List Int} (h : ewForm (cutA xs) = false) : ewE xs = 3 ∧ ewN xs = [] ∧ ewK xs = 0 ∧ ewT xs = [] := by
  have hE : ewE xs = 3 := by unfold ewE; rw [h]; rfl
  exact ⟨hE, ewE_no (by rw [hE]; decide)⟩
theorem ew_no12 {xs : List Int} (h : ewForm (cutA xs) = true) (hl : 75 < xs.length) : ewE xs = 12 ∧ ewN xs = [] ∧ ewK xs = 0 ∧ ewT xs = [] := by
  have hE : ewE xs = 12 := by unfold ewE; rw [if_pos h, if_pos hl]
  exact ⟨hE, ewE_no (by rw [hE]; decide)⟩
theorem ew_yes {xs p1 p3 : List Int} {c : Int} (h : ewForm (cutA xs) = true) (hl : ¬ 75 < xs.length) (hc : cutA xs = [[61], p1, [c], p3, [61]]) : ewE xs = 0 ∧ ewN xs = p1 ∧ ewK xs = ewCd c ∧ ewT xs = p3 := by
  have hE : ewE xs = 0 := by unfold ewE; rw [if_pos h, if_neg hl]
  unfold ewN ewK ewT
  rw [if_pos hE, if_pos hE, if_pos hE, hc]
  exact ⟨hE, rfl, rfl, rfl⟩
theorem form_len {L : List (List Int)} (h : L.length ≠ 5) : ewForm L = false := by
  unfold ewForm
  split
  · exact absurd rfl h
  · rfl
theorem cntI_all {f : Int → Bool} {xs : List Int} : cntI f xs = xs.length ↔ xs.all f = true := by
  unfold cntI
  rw [List.all_eq_true]
  constructor
  · intro h x hx
    have h' : (xs.filter f).length = xs.length := by omega
    exact List.length_filter_eq_length_iff.1 h' x hx
  · intro h
    have : (xs.filter f).length = xs.length := List.length_filter_eq_length_iff.2 h
    omega
theorem strB61 : (strB [61]).toList = [61] := by rw [Go.ByteArray.toList_eq]; rfl
theorem size_setB (w : World) (B i : Nat) (v : Value) : (w.setCell ⟨B, i, none⟩ v).heap.size = w.heap.size := by simp [World.setCell]
/-- Octets stay when a cell of a block is written that holds none. -/
theorem Reads.beside {W : World} {a : Option Addr} {l c : Nat} {xs : List Int} (h : Reads .u8 W a l c xs) {B : Nat} {T : TypeId} {vs : Array Value} (hB : Blk W B T vs) (hv : ∀ (j : Nat) (x : Int), vs[j]? ≠ some (.int .u8 x)) {i : Nat} {u : Value} : Reads .u8 (W.setCell ⟨B, i, none⟩ u) a l c xs := by
  refine ⟨h.size, h.room, h.top, h.wf, fun hl => ?_⟩
  obtain ⟨b, off, ha, hlt, hc⟩ := h.cell hl
  have hne : b ≠ B := by
    rintro rfl
    have h0 := hc 0 hl
    rw [cell_of_row _ _ _ _ _ _ hB] at h0
    exact hv _ _ h0
  exact ⟨b, off, ha, by rw [size_setB]; exact hlt, fun j hj => (World.cell?_of_block (Below.heap_setCell _ _ _ _ hne)).trans (hc j hj)⟩
theorem wd_no {a0 a1 : Option Addr} {l0 c0 l1 c1 : Nat} {n : Int} : ∀ (j : Nat) (x : Int), (#[.slice a0 l0 c0, .int .i64 n, .slice a1 l1 c1] : Array Value)[j]? ≠ some (.int .u8 x) := by
  intro j x h
  match j, h with
  | 0, h => simp at h
  | 1, h => simp at h
  | 2, h => simp at h
  | j + 3, h => simp at h
end Go.Proofs.Ytdglnpkkfkagaaa
