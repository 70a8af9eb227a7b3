/-
  Texts of ours laid together: Rwg.
-/
import Derived.Maps.AppendAt
import Derived.Test.YtefhddbbiheadaaGreatZ13

/-! Rwg -/
namespace Go.Proofs.YtefhddbbiheadaaGreat
open Go.RowKit
set_option linter.unusedVariables false

/-- How an element lies: its cells, of which one is a slice of integers. -/
structure Sh (α : Type) where
  k : IntKind
  sz : Nat
  txt : α → List Int
  cells : α → Value → List Value
  len : ∀ x u, (cells x u).length = sz
/-- Slices of integers. -/
def shRow (k : IntKind) : Sh (List Int) := ⟨k, 1, fun x => x, fun _ u => [u], fun _ _ => rfl⟩
/-- A number, and octets. -/
def shPc : Sh (Int × List Int) := ⟨.u8, 2, fun x => x.2, fun x u => [.int .i64 x.1, u], fun _ _ => rfl⟩

/-! ### read -/
structure RwsG {α : Type} (S : Sh α) (W : World) (a : Option Addr) (n c : Nat) (xs : List α) : Prop where
  size : xs.length = n
  room : n ≤ c
  top : c ≤ maxLen
  cell : 0 < n → ∃ b off, a = some ⟨b, off, none⟩ ∧ b < W.heap.size ∧ ∀ (i : Nat) (x : α), xs[i]? = some x → ∃ ai li ci, (∀ (j : Nat) (v : Value), (S.cells x (.slice ai li ci))[j]? = some v → W.cell? ⟨b, off + (S.sz * i + j), none⟩ = some v) ∧ Reads S.k W ai li ci (S.txt x)
theorem RwsG.below {α : Type} {S : Sh α} {W W' : World} {a : Option Addr} {n c : Nat} {xs : List α} (h : RwsG S W a n c xs) (hb : Below W.heap.size W W') : RwsG S W' a n c xs :=
  ⟨h.size, h.room, h.top, fun hl => by
    obtain ⟨b, off, ha, hlt, hc⟩ := h.cell hl
    refine ⟨b, off, ha, Nat.lt_of_lt_of_le hlt hb.size, fun i x hi => ?_⟩
    obtain ⟨ai, li, ci, h1, h2⟩ := hc i x hi
    exact ⟨ai, li, ci, fun j v hv => (hb.cell (p := ⟨b, off + (S.sz * i + j), none⟩) hlt).trans (h1 j v hv), h2.below hb⟩⟩
theorem RwsG.get {α : Type} {S : Sh α} {W : World} {a : Option Addr} {n c : Nat} {xs : List α} (h : RwsG S W a n c xs) {i : Nat} (hi : i < n) :
    ∃ b off x ai li ci, a = some ⟨b, off, none⟩ ∧ b < W.heap.size ∧ (∀ (j : Nat) (v : Value), (S.cells x (.slice ai li ci))[j]? = some v → W.cell? ⟨b, off + (S.sz * i + j), none⟩ = some v) ∧ Reads S.k W ai li ci (S.txt x) ∧ xs[i]? = some x ∧ xs.take (i + 1) = xs.take i ++ [x] := by
  have hx : i < xs.length := by rw [h.size]; exact hi
  obtain ⟨b, off, ha, hlt, hc⟩ := h.cell (by omega)
  obtain ⟨ai, li, ci, h1, h2⟩ := hc i _ (List.getElem?_eq_getElem hx)
  exact ⟨b, off, _, ai, li, ci, ha, hlt, h1, h2, List.getElem?_eq_getElem hx, by rw [List.take_succ_eq_append_getElem hx]⟩
theorem RwsG.nil {α : Type} (S : Sh α) (W : World) : RwsG S W none 0 0 [] := ⟨rfl, Nat.le_refl _, Nat.zero_le _, fun h => absurd h (Nat.lt_irrefl _)⟩
/-- Those of one cell: the cell. -/
theorem RwsG.get1 {k : IntKind} {W : World} {a : Option Addr} {n c : Nat} {xs : List (List Int)} (h : RwsG (shRow k) W a n c xs) {i : Nat} (hi : i < n) :
    ∃ b off x ai li ci, a = some ⟨b, off, none⟩ ∧ b < W.heap.size ∧ W.cell? ⟨b, off + i, none⟩ = some (.slice ai li ci) ∧ Reads k W ai li ci x ∧ xs[i]? = some x ∧ xs.take (i + 1) = xs.take i ++ [x] := by
  obtain ⟨b, off, x, ai, li, ci, h1, h2, h3, h4, h5, h6⟩ := h.get hi
  refine ⟨b, off, x, ai, li, ci, h1, h2, ?_, h4, h5, h6⟩
  have := h3 0 _ rfl
  rwa [show off + ((shRow k).sz * i + 0) = off + i by show off + (1 * i + 0) = off + i; omega] at this
/-- A number and octets: both cells. -/
theorem RwsG.get2 {W : World} {a : Option Addr} {n c : Nat} {xs : List (Int × List Int)} (h : RwsG shPc W a n c xs) {i : Nat} (hi : i < n) :
    ∃ b off k x ai li ci, a = some ⟨b, off, none⟩ ∧ b < W.heap.size ∧ W.cell? ⟨b, off + i * 2, none⟩ = some (.int .i64 k) ∧ W.cell? ⟨b, off + i * 2 + 1, none⟩ = some (.slice ai li ci) ∧ Reads .u8 W ai li ci x ∧ xs[i]? = some (k, x) ∧ xs.take (i + 1) = xs.take i ++ [(k, x)] := by
  obtain ⟨b, off, x, ai, li, ci, h1, h2, h3, h4, h5, h6⟩ := h.get hi
  refine ⟨b, off, x.1, x.2, ai, li, ci, h1, h2, ?_, ?_, h4, h5, h6⟩
  · have := h3 0 _ rfl
    rwa [show off + (shPc.sz * i + 0) = off + i * 2 by show off + (2 * i + 0) = off + i * 2; omega] at this
  · have := h3 1 _ rfl
    rwa [show off + (shPc.sz * i + 1) = off + i * 2 + 1 by show off + (2 * i + 1) = off + i * 2 + 1; omega] at this
/-- Octets: as Rws has it. -/
theorem RwsG.rws {W : World} {a : Option Addr} {n c : Nat} {xs : List (List Int)} (h : RwsG (shRow .u8) W a n c xs) : Rws W a n c xs :=
  ⟨h.size, h.room, h.top, fun hl => by
    obtain ⟨b, off, ha, hlt, hc⟩ := h.cell hl
    refine ⟨b, off, ha, hlt, fun i x hi => ?_⟩
    obtain ⟨ai, li, ci, h1, h2⟩ := hc i x hi
    have := h1 0 _ rfl
    rw [show off + ((shRow .u8).sz * i + 0) = off + i by show off + (1 * i + 0) = off + i; omega] at this
    exact ⟨ai, li, ci, this, h2⟩⟩

/-- A row of yes and no, read. -/
structure RdB (W : World) (a : Option Addr) (n c : Nat) (bs : List Bool) : Prop where
  size : bs.length = n
  room : n ≤ c
  top : c ≤ maxLen
  cell : 0 < n → ∃ b off, a = some ⟨b, off, none⟩ ∧ b < W.heap.size ∧ ∀ i, i < n → W.cell? ⟨b, off + i, none⟩ = some (.bool (bs.getD i false))
theorem RdB.below {W W' : World} {a : Option Addr} {n c : Nat} {bs : List Bool} (h : RdB W a n c bs) (hb : Below W.heap.size W W') : RdB W' a n c bs :=
  ⟨h.size, h.room, h.top, fun hl => by
    obtain ⟨b, off, ha, hlt, hc⟩ := h.cell hl
    exact ⟨b, off, ha, Nat.lt_of_lt_of_le hlt hb.size, fun i hi => (hb.cell (p := ⟨b, off + i, none⟩) hlt).trans (hc i hi)⟩⟩

/-! ### made -/
/-- A slice's block is not this one; it is a new one. -/
def Off (g : Option Nat) (a : Option Addr) (l : Nat) : Prop := ∀ b off, 0 < l → a = some ⟨b, off, none⟩ → some b ≠ g
def New (n : Nat) (a : Option Addr) (l : Nat) : Prop := ∀ b off, 0 < l → a = some ⟨b, off, none⟩ → n ≤ b
theorem New.off {n : Nat} {g : Option Nat} {a : Option Addr} {l : Nat} (h : New n a l) (hg : ∀ j, g = some j → j < n) : Off g a l := fun b off hl ha hb => by
  have h1 := h b off hl ha
  have h2 := hg b hb.symm
  omega
theorem New.mono {n m : Nat} {a : Option Addr} {l : Nat} (h : New n a l) (hm : m ≤ n) : New m a l := fun b off hl ha => Nat.le_trans hm (h b off hl ha)
theorem New.own {k : IntKind} {e : TypeId} {base : Nat} {w : World} {a : Option Addr} {l c : Nat} {xs : List Int} (h : Own k e base w (.slice a l c) xs) : New base a l := by
  intro b off hl ha
  subst ha
  exact (h.1.lt b rfl).1
theorem Reads.lies {k : IntKind} {w : World} {a : Option Addr} {l c : Nat} {xs : List Int} (h : Reads k w a l c xs) {b off : Nat} (hl : 0 < l) (ha : a = some ⟨b, off, none⟩) : b < w.heap.size := by
  obtain ⟨b', off', ha', hlt, _⟩ := h.cell hl
  rw [ha] at ha'; cases ha'
  exact hlt
theorem Reads.off {k : IntKind} {w : World} {a : Option Addr} {l c : Nat} {xs : List Int} (h : Reads k w a l c xs) {g : Option Nat} (hg : ∀ j, g = some j → w.heap.size ≤ j) : Off g a l := fun b off hl ha hb => by
  have h1 := h.lies hl ha
  have h2 := hg b hb.symm
  omega
theorem Reads.turns {k : IntKind} {bs : Nat → Prop} {W W' : World} {a : Option Addr} {l c : Nat} {xs : List Int} (h : Reads k W a l c xs) (ht : Turns bs W W') (hb : ∀ b off, 0 < l → a = some ⟨b, off, none⟩ → ¬ bs b) : Reads k W' a l c xs := by
  refine ⟨h.size, h.room, h.top, h.wf, fun hl => ?_⟩
  obtain ⟨b, off, ha, hlt, hc⟩ := h.cell hl
  exact ⟨b, off, ha, Nat.lt_of_lt_of_le hlt ht.size, fun i hi => (World.cell?_of_block (ht.block b hlt (hb b off hl ha))).trans (hc i hi)⟩
/-- Elements side by side; no slice of theirs lies in the block g. -/
def PcsG {α : Type} (S : Sh α) (g : Option Nat) (W : World) (vs : List Value) (xs : List α) : Prop :=
  vs.length = xs.length * S.sz ∧ ∀ (i : Nat) (x : α), xs[i]? = some x → ∃ a l c, (∀ (j : Nat) (v : Value), (S.cells x (.slice a l c))[j]? = some v → vs[S.sz * i + j]? = some v) ∧ Reads S.k W a l c (S.txt x) ∧ Off g a l
theorem PcsG.nil {α : Type} (S : Sh α) (g : Option Nat) (W : World) : PcsG S g W [] [] := ⟨by simp, fun i x h => by simp at h⟩
theorem PcsG.turns {α : Type} {S : Sh α} {g g' : Option Nat} {W W' : World} {vs : List Value} {xs : List α} (h : PcsG S g W vs xs) (ht : Turns (fun k => g = some k) W W') (hg : g' = g ∨ ∃ j, g' = some j ∧ W.heap.size ≤ j) : PcsG S g' W' vs xs := ⟨h.1, fun i x hi => by
  obtain ⟨a, l, c, h1, h2, h3⟩ := h.2 i x hi
  refine ⟨a, l, c, h1, h2.turns ht (fun b off hl ha hb => h3 b off hl ha hb.symm), ?_⟩
  rcases hg with rfl | ⟨j, rfl, hj⟩
  · exact h3
  · exact h2.off (fun k hk => by cases hk; exact hj)⟩
theorem PcsG.snoc {α : Type} {S : Sh α} {g : Option Nat} {W : World} {vs : List Value} {xs : List α} {a : Option Addr} {l c : Nat} {x : α} (h : PcsG S g W vs xs) (hu : Reads S.k W a l c (S.txt x)) (ho : Off g a l) : PcsG S g W (vs ++ S.cells x (.slice a l c)) (xs ++ [x]) := by
  refine ⟨by rw [List.length_append, List.length_append, h.1, S.len, List.length_singleton, Nat.add_mul, Nat.one_mul], fun i y hi => ?_⟩
  rcases Nat.lt_trichotomy i xs.length with hl | hl | hl
  · rw [List.getElem?_append_left hl] at hi
    obtain ⟨a', l', c', h1, h2, h3⟩ := h.2 i y hi
    refine ⟨a', l', c', fun j v hv => ?_, h2, h3⟩
    have := h1 j v hv
    have hlt := (List.getElem?_eq_some_iff.1 this).1
    rw [List.getElem?_append_left hlt]
    exact this
  · subst hl
    rw [List.getElem?_append_right (Nat.le_refl _), Nat.sub_self] at hi
    simp at hi
    subst hi
    refine ⟨a, l, c, fun j v hv => ?_, hu, ho⟩
    rw [List.getElem?_append_right (by rw [h.1, Nat.mul_comm]; omega), h.1, Nat.mul_comm, Nat.add_sub_cancel_left]
    exact hv
  · rw [List.getElem?_eq_none (by simp; omega)] at hi
    cases hi
theorem rowG_type {A : World} {base size k : Nat} {e : TypeId} {u : Value} {xs : List Value} (hr : A.ownsRow base e size u k xs) : ∀ j C t fz, u.ownBlock = some j → A.heap[j]? = some (.cells C t fz) → t = e := by
  intro j C t fz hj hc
  obtain ⟨cur, hcur⟩ := row_cells hr hj
  rw [hc] at hcur
  injection hcur with hcur
  injection hcur
/-- A row of the call's own whose elements are such. -/
def OwnG {α : Type} (S : Sh α) (e : TypeId) (base : Nat) (W : World) (v : Value) (xs : List α) : Prop :=
  ∃ vs, W.ownsRow base e S.sz v xs.length vs ∧ PcsG S v.ownBlock W vs xs
theorem OwnG.nil {α : Type} (S : Sh α) (e : TypeId) (base : Nat) (W : World) : OwnG S e base W (.slice none 0 0) [] := ⟨[], World.ownsRow_nil _ _ _ _, PcsG.nil _ _ _⟩
theorem OwnG.shape {α : Type} {S : Sh α} {e : TypeId} {base : Nat} {W : World} {v : Value} {xs : List α} (h : OwnG S e base W v xs) : ∃ a c, v = .slice a xs.length c := by
  obtain ⟨vs, h1, _⟩ := h
  exact row_shape h1
theorem OwnG.lt {α : Type} {S : Sh α} {e : TypeId} {base : Nat} {W : World} {v : Value} {xs : List α} (h : OwnG S e base W v xs) : ∀ j, v.ownBlock = some j → base ≤ j ∧ j < W.heap.size := by
  obtain ⟨vs, h1, _⟩ := h
  exact fun j hj => h1.lt j hj
theorem OwnG.mono {α : Type} {S : Sh α} {e : TypeId} {n m : Nat} {W : World} {v : Value} {xs : List α} (h : OwnG S e n W v xs) (hm : m ≤ n) : OwnG S e m W v xs := by
  obtain ⟨vs, o1, o2⟩ := h
  refine ⟨vs, ⟨o1.1, ?_⟩, o2⟩
  rcases o1.2 with h | ⟨g, cp, cur, e1, e2, e3⟩
  · exact .inl h
  · exact .inr ⟨g, cp, cur, e1, Nat.le_trans hm e2, e3⟩
/-- .. in a later world. -/
theorem OwnG.below {α : Type} {S : Sh α} {e : TypeId} {base : Nat} {W W' : World} {v : Value} {xs : List α} (h : OwnG S e base W v xs) (hb : Below W.heap.size W W') : OwnG S e base W' v xs := by
  obtain ⟨vs, h1, h2⟩ := h
  have hT : Turns (fun _ => False) W W' := (Turns.refl _ _).below hb
  exact ⟨vs, hT.row h1 (fun _ _ h => h), h2.turns ⟨hT.size, fun k hk _ => hT.block k hk (fun h => h)⟩ (.inl rfl)⟩
theorem OwnG.rows {α : Type} {S : Sh α} {e : TypeId} {base : Nat} {W : World} {v : Value} {xs : List α} (h : OwnG S e base W v xs) : ∃ a c, v = .slice a xs.length c ∧ RwsG S W a xs.length c xs := by
  obtain ⟨vs, h1, h2⟩ := h
  have hr := h1
  rcases h1.2 with ⟨rfl, hn⟩ | ⟨g, cap, cur, rfl, hg, hb, hnc, hcm, hcs, htk⟩
  · refine ⟨none, 0, by rw [hn], rfl, by omega, Nat.zero_le _, fun hl => by omega⟩
  · refine ⟨_, _, rfl, rfl, hnc, hcm, fun hl => ⟨g, 0, rfl, (hr.lt g rfl).2, fun i x hi => ?_⟩⟩
    obtain ⟨a, l, c, q1, q3, _⟩ := h2.2 i x hi
    refine ⟨a, l, c, fun j v hv => ?_, q3⟩
    have := hr.cells (g := g) rfl _ v (q1 j v hv)
    rwa [Addr.add_lit] at this
section
variable {P : Program} {α : Type} {ops : Array Oper} {rest : List Oper} {o : Oper} {a : Act} {K : Act → World → Prop} {Q : Exit → Act → World → Prop} {E : Prop}
theorem run_pushG (S : Sh α) (x : α) (ua : Option Addr) (ul uc : Nat) (ty : TypeId) {t e : TypeId}
    {z : Value} {by_ : Nat} (ht : P.underlying t = some (.slice e)) (hinf : (P.info? e).map (fun i => (i.zero, i.size, i.bytes)) = some (some z, S.sz, by_)) (hzs : z.cells.size = S.sz) (hsz : 0 < S.sz) (hby : by_ ≤ 1000)
    {w0 W : World} {v : Value} {xs : List α} (hown : OwnG S e w0.heap.size W v xs) (hb : Below w0.heap.size w0 W)
    (hu : Reads S.k W ua ul uc (S.txt x)) (hoff : Off v.ownBlock ua ul) (h1 : ∀ c ∈ S.cells x (.slice ua ul uc), c.oneCell' = true) (hN : xs.length < 100000000000) :
    ∃ v' w', (Builtin.append_ #[t, t] ty #[v, .slice (some ⟨W.heap.size, 0, none⟩) 1 1]).run P (W.alloc (.cells (S.cells x (.slice ua ul uc)).toArray e)) = .ok v' w' ∧ OwnG S e w0.heap.size w' v' (xs ++ [x]) ∧ Below w0.heap.size w0 w' := by
  obtain ⟨vs, hrow, hpc⟩ := hown
  obtain ⟨i0, hi, hz0, hz1, hz2⟩ : ∃ i, P.info? e = some i ∧ i.zero = some z ∧ i.size = S.sz ∧ i.bytes = by_ := by
    cases hh : P.info? e with
    | none => rw [hh] at hinf; cases hinf
    | some i =>
      rw [hh] at hinf
      simp only [Option.map_some, Option.some.injEq, Prod.mk.injEq] at hinf
      exact ⟨i, rfl, hinf.1, hinf.2.1, hinf.2.2⟩
  have hbs := hb.size
  obtain ⟨v', w', hrun, hown', hgrow, _, hat⟩ := run_append_own_at (P := P) (w := W.alloc (.cells (S.cells x (.slice ua ul uc)).toArray e)) w0.heap.size t ty e i0 z S.sz by_ ht hi hz0 hz1 hz2 hzs hsz v xs.length vs (hrow.alloc _) ⟨W.heap.size, 0, none⟩ 1 1 (S.cells x (.slice ua ul uc)) (by rw [S.len, Nat.one_mul]) (fun j c hj => by
    rw [Addr.add_lit, World.cell?, heap_alloc_new]
    simpa using hj) h1 (by unfold maxLen; omega) (by
    have : (xs.length + 1) * by_ ≤ (xs.length + 1) * 1000 := Nat.mul_le_mul_left _ hby
    omega) (by simp; omega)
  refine ⟨v', w', hrun, ⟨_, by rw [List.length_append, List.length_singleton]; exact hown', ?_⟩, (hb.alloc hbs _).grown hgrow (by rw [World.size_alloc]; omega) (fun j hj => (hrow.lt j hj).1)⟩
  have hT : Turns (fun k => v.ownBlock = some k) W w' := ((Turns.refl _ _).below ((Below.refl W.heap.size W).alloc (Nat.le_refl _) _)).grown hgrow (fun j hj _ => hj)
  have hg : v'.ownBlock = v.ownBlock ∨ ∃ j, v'.ownBlock = some j ∧ W.heap.size ≤ j := by
    rcases hat with h | h
    · exact .inl h
    · exact .inr ⟨_, h, by rw [World.size_alloc]; omega⟩
  refine (hpc.turns hT hg).snoc (hu.turns hT (fun b off hl ha hb => hoff b off hl ha hb.symm)) ?_
  rcases hg with h | ⟨j, h, hj⟩
  · rw [h]; exact hoff
  · rw [h]; exact hu.off (fun k hk => by cases hk; exact hj)
/-- 'append(v, element)': the element's literal in the newest block. -/
theorem wpList_pushG (S : Sh α) (x : α) (ua : Option Addr) (ul uc : Nat) (hgd : o.guard = none) (s y : Operand) {t e : TypeId} (ho : o.op = .call { callee := .builtin .append, args := #[s, y], argTypes := #[t, t] })
    {z : Value} {by_ : Nat} (ht : P.underlying t = some (.slice e)) (hinf : (P.info? e).map (fun i => (i.zero, i.size, i.bytes)) = some (some z, S.sz, by_)) (hzs : z.cells.size = S.sz) (hsz : 0 < S.sz) (hby : by_ ≤ 1000)
    {w0 W : World} {v : Value} {xs : List α} (hs : a.eval s = v) (hown : OwnG S e w0.heap.size W v xs) (hb : Below w0.heap.size w0 W)
    (hx : a.eval y = .slice (some ⟨W.heap.size, 0, none⟩) 1 1) (hu : Reads S.k W ua ul uc (S.txt x)) (hoff : Off v.ownBlock ua ul) (h1 : ∀ c ∈ S.cells x (.slice ua ul uc), c.oneCell' = true) (hN : xs.length < 100000000000)
    (h : ∀ v' w', OwnG S e w0.heap.size w' v' (xs ++ [x]) → Below w0.heap.size w0 w' → wpList P ops Q rest (a.put o.dst v') w') : wpList P ops Q (o :: rest) a (W.alloc (.cells (S.cells x (.slice ua ul uc)).toArray e)) := by
  obtain ⟨v', w', hrun, h2, h3⟩ := run_pushG (P := P) S x ua ul uc o.type ht hinf hzs hsz hby hown hb hu hoff h1 hN
  refine wpList_plain hgd fun K hK => ?_
  unfold Oper.wp
  simp [execOp, ho, resolve, invoke, builtin, hs, hx, hrun, Result.andThen]
  exact hK _ _ (h _ _ h2 h3)
/-- .. as a step of a drawn region (the new value is written out: it goes into a store). -/
theorem step_pushG (S : Sh α) (x : α) (ua : Option Addr) (ul uc : Nat) (hgd : o.guard = none) (s y : Operand) {t e : TypeId} (ho : o.op = .call { callee := .builtin .append, args := #[s, y], argTypes := #[t, t] })
    {z : Value} {by_ : Nat} (ht : P.underlying t = some (.slice e)) (hinf : (P.info? e).map (fun i => (i.zero, i.size, i.bytes)) = some (some z, S.sz, by_)) (hzs : z.cells.size = S.sz) (hsz : 0 < S.sz) (hby : by_ ≤ 1000)
    {w0 W : World} {v : Value} {xs : List α} (hs : a.eval s = v) (hown : OwnG S e w0.heap.size W v xs) (hb : Below w0.heap.size w0 W)
    (hx : a.eval y = .slice (some ⟨W.heap.size, 0, none⟩) 1 1) (hu : Reads S.k W ua ul uc (S.txt x)) (hoff : Off v.ownBlock ua ul) (h1 : ∀ c ∈ S.cells x (.slice ua ul uc), c.oneCell' = true) (hN : xs.length < 100000000000)
    (h : ∀ a' n' c' w', OwnG S e w0.heap.size w' (.slice a' n' c') (xs ++ [x]) → Below w0.heap.size w0 w' → K (a.put o.dst (.slice a' n' c')) w') : if Region.wanted o (yielded ops a.tmps) = true then Oper.wp P o a (W.alloc (.cells (S.cells x (.slice ua ul uc)).toArray e)) K Q else E := by
  obtain ⟨v', w', hrun, h2, h3⟩ := run_pushG (P := P) S x ua ul uc o.type ht hinf hzs hsz hby hown hb hu hoff h1 hN
  obtain ⟨a', c', rfl⟩ := h2.shape
  have hln : (xs ++ [x]).length = xs.length + 1 := by simp
  rw [hln] at h2 hrun
  clear hln
  have hw : Region.wanted o (yielded ops a.tmps) = true := by simp [Region.wanted, hgd]
  rw [if_pos hw]
  unfold Oper.wp
  simp [execOp, ho, resolve, invoke, builtin, hs, hx, hrun, Result.andThen]
  exact h _ _ _ _ h2 h3
/-- A row of the call's own whose slices all lie in old memory. -/
def OwnO (S : Sh α) (e : TypeId) (w0 W : World) (v : Value) (xs : List α) : Prop :=
  ∃ vs, W.ownsRow w0.heap.size e S.sz v xs.length vs ∧ vs.length = xs.length * S.sz ∧ ∀ (i : Nat) (x : α), xs[i]? = some x → ∃ a l c, (∀ (j : Nat) (u : Value), (S.cells x (.slice a l c))[j]? = some u → vs[S.sz * i + j]? = some u) ∧ Reads S.k w0 a l c (S.txt x)
theorem OwnO.nil (S : Sh α) (e : TypeId) (w0 W : World) : OwnO S e w0 W (.slice none 0 0) [] := ⟨[], World.ownsRow_nil _ _ _ _, by simp, fun i x h => by simp at h⟩
theorem OwnO.lt {S : Sh α} {e : TypeId} {w0 W : World} {v : Value} {xs : List α} (h : OwnO S e w0 W v xs) : ∀ j, v.ownBlock = some j → w0.heap.size ≤ j ∧ j < W.heap.size := by
  obtain ⟨vs, h1, _⟩ := h
  exact fun j hj => h1.lt j hj
theorem OwnO.ownG {S : Sh α} {e : TypeId} {w0 W : World} {v : Value} {xs : List α} (h : OwnO S e w0 W v xs) (hb : Below w0.heap.size w0 W) : OwnG S e w0.heap.size W v xs := by
  have hl := h.lt
  obtain ⟨vs, h1, h2, h3⟩ := h
  refine ⟨vs, h1, h2, fun i x hi => ?_⟩
  obtain ⟨a, l, c, q1, q2⟩ := h3 i x hi
  exact ⟨a, l, c, q1, q2.below hb, q2.off (fun j hj => (hl j hj).1)⟩
theorem OwnO.shape {S : Sh α} {e : TypeId} {w0 W : World} {v : Value} {xs : List α} (h : OwnO S e w0 W v xs) : ∃ a c, v = .slice a xs.length c := by
  obtain ⟨vs, h1, _⟩ := h
  exact row_shape h1
theorem OwnO.kept {S : Sh α} {e : TypeId} {w0 W W' : World} {v : Value} {xs : List α} {row : Option Nat} (h : OwnO S e w0 W v xs) (hg : W.grownBy W' row) (hne : v.ownBlock = none ∨ v.ownBlock ≠ row) : OwnO S e w0 W' v xs := by
  obtain ⟨vs, h1, h2⟩ := h
  exact ⟨vs, h1.kept hg hne, h2⟩
/-- Two rows of different types are not one. -/
theorem rows_apart {A : World} {B B' size size' k k' : Nat} {e e' : TypeId} {u v : Value} {xs ys : List Value} (h : A.ownsRow B e size u k xs) (h' : A.ownsRow B' e' size' v k' ys) (hne : e ≠ e') : u.ownBlock = none ∨ u.ownBlock ≠ v.ownBlock := by
  cases hu : u.ownBlock with
  | none => exact .inl rfl
  | some j =>
    refine .inr fun hv => ?_
    obtain ⟨c1, h1⟩ := row_cells h hu
    obtain ⟨c2, h2⟩ := row_cells h' hv.symm
    rw [h1] at h2
    injection h2 with h2
    injection h2 with _ h2
    exact hne h2
theorem OwnO.apart {S : Sh α} {e e8 : TypeId} {w0 W : World} {u v : Value} {xs : List α} {k : IntKind} {B : Nat} {ys : List Int} (h : OwnO S e w0 W u xs) (h' : Own k e8 B W v ys) (hne : e ≠ e8) : (u.ownBlock = none ∨ u.ownBlock ≠ v.ownBlock) ∧ (v.ownBlock = none ∨ v.ownBlock ≠ u.ownBlock) := by
  obtain ⟨vs, h1, _⟩ := h
  exact ⟨rows_apart h1 h'.1 hne, rows_apart h'.1 h1 (Ne.symm hne)⟩
theorem Own.keptBy {k : IntKind} {e : TypeId} {D : Nat} {W W' : World} {row : Option Nat} {v : Value} {xs : List Int} (h : Own k e D W v xs) (hg : W.grownBy W' row) (hne : v.ownBlock = none ∨ v.ownBlock ≠ row) : Own k e D W' v xs := ⟨h.1.kept hg hne, h.2⟩
theorem wpList_pushOld (S : Sh α) (x : α) (ua : Option Addr) (ul uc : Nat) (hgd : o.guard = none) (s y : Operand) {t e : TypeId} (ho : o.op = .call { callee := .builtin .append, args := #[s, y], argTypes := #[t, t] })
    {z : Value} {by_ : Nat} (ht : P.underlying t = some (.slice e)) (hinf : (P.info? e).map (fun i => (i.zero, i.size, i.bytes)) = some (some z, S.sz, by_)) (hzs : z.cells.size = S.sz) (hsz : 0 < S.sz) (hby : by_ ≤ 1000)
    {w0 W : World} {v : Value} {xs : List α} (hs : a.eval s = v) (hown : OwnO S e w0 W v xs) (hb : Below w0.heap.size w0 W)
    (hx : a.eval y = .slice (some ⟨W.heap.size, 0, none⟩) 1 1) (hu : Reads S.k w0 ua ul uc (S.txt x)) (h1 : ∀ c ∈ S.cells x (.slice ua ul uc), c.oneCell' = true) (hN : xs.length < 100000000000)
    (h : ∀ a' n' c' w', OwnO S e w0 w' (.slice a' n' c') (xs ++ [x]) → Below w0.heap.size w0 w' → (W.alloc (.cells (S.cells x (.slice ua ul uc)).toArray e)).grownBy w' v.ownBlock → wpList P ops Q rest (a.put o.dst (.slice a' n' c')) w') : wpList P ops Q (o :: rest) a (W.alloc (.cells (S.cells x (.slice ua ul uc)).toArray e)) := by
  obtain ⟨vs, hrow, hvl, hpc⟩ := hown
  obtain ⟨i0, hi, hz0, hz1, hz2⟩ : ∃ i, P.info? e = some i ∧ i.zero = some z ∧ i.size = S.sz ∧ i.bytes = by_ := by
    cases hh : P.info? e with
    | none => rw [hh] at hinf; cases hinf
    | some i =>
      rw [hh] at hinf
      simp only [Option.map_some, Option.some.injEq, Prod.mk.injEq] at hinf
      exact ⟨i, rfl, hinf.1, hinf.2.1, hinf.2.2⟩
  have hbs := hb.size
  refine wpList_append_own_at _ hgd s y t ho w0.heap.size e i0 z S.sz by_ ht hi hz0 hz1 hz2 hzs hsz v xs.length vs hs (hrow.alloc _) ⟨W.heap.size, 0, none⟩ 1 1 (S.cells x (.slice ua ul uc)) hx (by rw [S.len, Nat.one_mul]) (fun j c hj => ?_) h1 (by unfold maxLen; omega) ?_ (by simp; omega) (fun v' w' hown' hgrow _ _ => ?_)
  · rw [Addr.add_lit, World.cell?, heap_alloc_new]
    simpa using hj
  · have : (xs.length + 1) * by_ ≤ (xs.length + 1) * 1000 := Nat.mul_le_mul_left _ hby
    omega
  · obtain ⟨a', c', rfl⟩ := row_shape hown'
    refine h a' _ c' w' ⟨vs ++ S.cells x (.slice ua ul uc), by rw [List.length_append, List.length_singleton]; exact hown', by rw [List.length_append, List.length_append, hvl, S.len, List.length_singleton, Nat.add_mul, Nat.one_mul], fun i y hi => ?_⟩ ((hb.alloc hbs _).grown hgrow (by rw [World.size_alloc]; omega) (fun j hj => (hrow.lt j hj).1)) hgrow
    rcases Nat.lt_trichotomy i xs.length with hl | hl | hl
    · rw [List.getElem?_append_left hl] at hi
      obtain ⟨a1, l1, c1, q1, q2⟩ := hpc i y hi
      refine ⟨a1, l1, c1, fun j u hj => ?_, q2⟩
      have := q1 j u hj
      have hlt := (List.getElem?_eq_some_iff.1 this).1
      rw [List.getElem?_append_left hlt]
      exact this
    · subst hl
      rw [List.getElem?_append_right (Nat.le_refl _), Nat.sub_self] at hi
      simp at hi
      subst hi
      refine ⟨ua, ul, uc, fun j u hj => ?_, hu⟩
      rw [List.getElem?_append_right (by rw [hvl, Nat.mul_comm]; omega), hvl, Nat.mul_comm, Nat.add_sub_cancel_left]
      exact hj
    · rw [List.getElem?_eq_none (by simp; omega)] at hi
      cases hi
/-- A slice lies in a block of this type. -/
def Typed (t : TypeId) (W : World) (a : Option Addr) (l : Nat) : Prop := ∀ b off, 0 < l → a = some ⟨b, off, none⟩ → ∃ C fz, W.heap[b]? = some (.cells C t fz)
theorem Typed.own {k : IntKind} {e : TypeId} {base : Nat} {w : World} {a : Option Addr} {l c : Nat} {xs : List Int} (h : Own k e base w (.slice a l c) xs) : Typed e w a l := by
  intro b off hl ha
  subst ha
  obtain ⟨cur, hc⟩ := row_cells h.1 (j := b) rfl
  exact ⟨cur, _, hc⟩
/-- A row of the call's own whose slices all lie in blocks of the type t. -/
def OwnT (S : Sh α) (e t : TypeId) (base : Nat) (W : World) (v : Value) (xs : List α) : Prop :=
  ∃ vs, W.ownsRow base e S.sz v xs.length vs ∧ vs.length = xs.length * S.sz ∧ ∀ (i : Nat) (x : α), xs[i]? = some x → ∃ a l c, (∀ (j : Nat) (u : Value), (S.cells x (.slice a l c))[j]? = some u → vs[S.sz * i + j]? = some u) ∧ Reads S.k W a l c (S.txt x) ∧ Typed t W a l
theorem OwnT.nil (S : Sh α) (e t : TypeId) (base : Nat) (W : World) : OwnT S e t base W (.slice none 0 0) [] := ⟨[], World.ownsRow_nil _ _ _ _, by simp, fun i x h => by simp at h⟩
theorem OwnT.lt {S : Sh α} {e t : TypeId} {base : Nat} {W : World} {v : Value} {xs : List α} (h : OwnT S e t base W v xs) : ∀ j, v.ownBlock = some j → base ≤ j ∧ j < W.heap.size := by
  obtain ⟨vs, h1, _⟩ := h
  exact fun j hj => h1.lt j hj
theorem OwnT.shape {S : Sh α} {e t : TypeId} {base : Nat} {W : World} {v : Value} {xs : List α} (h : OwnT S e t base W v xs) : ∃ a c, v = .slice a xs.length c := by
  obtain ⟨vs, h1, _⟩ := h
  exact row_shape h1
/-- It stays where a block of another type turns. -/
theorem OwnT.kept {S : Sh α} {e t : TypeId} {base : Nat} {W W' : World} {v : Value} {xs : List α} {row : Option Nat} (h : OwnT S e t base W v xs) (hg : W.grownBy W' row) (hne : v.ownBlock = none ∨ v.ownBlock ≠ row) (hty : ∀ j C fz, row = some j → W.heap[j]? ≠ some (.cells C t fz)) : OwnT S e t base W' v xs := by
  obtain ⟨vs, h1, h2, h3⟩ := h
  refine ⟨vs, h1.kept hg hne, h2, fun i x hi => ?_⟩
  obtain ⟨a, l, c, q1, q2, q3⟩ := h3 i x hi
  have key : ∀ b off, 0 < l → a = some ⟨b, off, none⟩ → W'.heap[b]? = W.heap[b]? := fun b off hl ha => by
    obtain ⟨C, fz, hC⟩ := q3 b off hl ha
    exact hg.block b (q2.lies hl ha) (fun he => hty b C fz he.symm hC)
  refine ⟨a, l, c, q1, ⟨q2.size, q2.room, q2.top, q2.wf, fun hl => ?_⟩, fun b off hl ha => ?_⟩
  · obtain ⟨b, off, ha, hlt, hc⟩ := q2.cell hl
    exact ⟨b, off, ha, Nat.lt_of_lt_of_le hlt hg.size, fun i hi => (World.cell?_of_block (key b off hl ha)).trans (hc i hi)⟩
  · obtain ⟨C, fz, hC⟩ := q3 b off hl ha
    exact ⟨C, fz, by rw [key b off hl ha]; exact hC⟩
theorem OwnT.below {S : Sh α} {e t : TypeId} {base : Nat} {W W' : World} {v : Value} {xs : List α} (h : OwnT S e t base W v xs) (hb : Below W.heap.size W W') : OwnT S e t base W' v xs := by
  obtain ⟨vs, h1, h2, h3⟩ := h
  have hT : Turns (fun _ => False) W W' := (Turns.refl _ _).below hb
  refine ⟨vs, hT.row h1 (fun _ _ h => h), h2, fun i x hi => ?_⟩
  obtain ⟨a, l, c, q1, q2, q3⟩ := h3 i x hi
  refine ⟨a, l, c, q1, q2.below hb, fun b off hl ha => ?_⟩
  obtain ⟨C, fz, hC⟩ := q3 b off hl ha
  exact ⟨C, fz, by rw [hb.block b (q2.lies hl ha)]; exact hC⟩
theorem OwnT.mono {S : Sh α} {e t : TypeId} {n m : Nat} {W : World} {v : Value} {xs : List α} (h : OwnT S e t n W v xs) (hm : m ≤ n) : OwnT S e t m W v xs := by
  obtain ⟨vs, o1, o2⟩ := h
  refine ⟨vs, ⟨o1.1, ?_⟩, o2⟩
  rcases o1.2 with h | ⟨g, cp, cur, e1, e2, e3⟩
  · exact .inl h
  · exact .inr ⟨g, cp, cur, e1, Nat.le_trans hm e2, e3⟩
theorem OwnT.ownG {S : Sh α} {e t : TypeId} {base : Nat} {W : World} {v : Value} {xs : List α} (h : OwnT S e t base W v xs) (hne : e ≠ t) : OwnG S e base W v xs := by
  obtain ⟨vs, h1, h2, h3⟩ := h
  refine ⟨vs, h1, h2, fun i x hi => ?_⟩
  obtain ⟨a, l, c, q1, q2, q3⟩ := h3 i x hi
  refine ⟨a, l, c, q1, q2, fun b off hl ha hb => ?_⟩
  obtain ⟨C, fz, hC⟩ := q3 b off hl ha
  exact hne (rowG_type h1 b C t fz hb.symm hC).symm
theorem OwnT.apart {S : Sh α} {e t e8 : TypeId} {base : Nat} {W : World} {u v : Value} {xs : List α} {k : IntKind} {B : Nat} {ys : List Int} (h : OwnT S e t base W u xs) (h' : Own k e8 B W v ys) (hne : e ≠ e8) : (u.ownBlock = none ∨ u.ownBlock ≠ v.ownBlock) ∧ (v.ownBlock = none ∨ v.ownBlock ≠ u.ownBlock) := by
  obtain ⟨vs, h1, _⟩ := h
  exact ⟨rows_apart h1 h'.1 hne, rows_apart h'.1 h1 (Ne.symm hne)⟩
theorem wpList_pushT (S : Sh α) (x : α) (ua : Option Addr) (ul uc : Nat) (hgd : o.guard = none) (s y : Operand) {t e eP : TypeId} (ho : o.op = .call { callee := .builtin .append, args := #[s, y], argTypes := #[t, t] })
    {z : Value} {by_ : Nat} (ht : P.underlying t = some (.slice e)) (hinf : (P.info? e).map (fun i => (i.zero, i.size, i.bytes)) = some (some z, S.sz, by_)) (hzs : z.cells.size = S.sz) (hsz : 0 < S.sz) (hby : by_ ≤ 1000) (hne : e ≠ eP)
    {B : Nat} {W : World} {v : Value} {xs : List α} (hs : a.eval s = v) (hown : OwnT S e eP B W v xs) (hB : B ≤ W.heap.size)
    (hx : a.eval y = .slice (some ⟨W.heap.size, 0, none⟩) 1 1) (hu : Reads S.k W ua ul uc (S.txt x)) (htu : Typed eP W ua ul) (h1 : ∀ c ∈ S.cells x (.slice ua ul uc), c.oneCell' = true) (hN : xs.length < 100000000000)
    (h : ∀ a' n' c' w', OwnT S e eP B w' (.slice a' n' c') (xs ++ [x]) → (W.alloc (.cells (S.cells x (.slice ua ul uc)).toArray e)).grownBy w' v.ownBlock → wpList P ops Q rest (a.put o.dst (.slice a' n' c')) w') : wpList P ops Q (o :: rest) a (W.alloc (.cells (S.cells x (.slice ua ul uc)).toArray e)) := by
  have hal : Below W.heap.size W (W.alloc (.cells (S.cells x (.slice ua ul uc)).toArray e)) := (Below.refl _ _).alloc (Nat.le_refl _) _
  have hown1 := hown.below hal
  obtain ⟨vs, hrow, hvl, hpc⟩ := hown
  obtain ⟨i0, hi, hz0, hz1, hz2⟩ : ∃ i, P.info? e = some i ∧ i.zero = some z ∧ i.size = S.sz ∧ i.bytes = by_ := by
    cases hh : P.info? e with
    | none => rw [hh] at hinf; cases hinf
    | some i =>
      rw [hh] at hinf
      simp only [Option.map_some, Option.some.injEq, Prod.mk.injEq] at hinf
      exact ⟨i, rfl, hinf.1, hinf.2.1, hinf.2.2⟩
  refine wpList_append_own_at _ hgd s y t ho B e i0 z S.sz by_ ht hi hz0 hz1 hz2 hzs hsz v xs.length vs hs (hrow.alloc _) ⟨W.heap.size, 0, none⟩ 1 1 (S.cells x (.slice ua ul uc)) hx (by rw [S.len, Nat.one_mul]) (fun j c hj => ?_) h1 (by unfold maxLen; omega) ?_ (by simp; omega) (fun v' w' hown' hgrow _ _ => ?_)
  · rw [Addr.add_lit, World.cell?, heap_alloc_new]
    simpa using hj
  · have : (xs.length + 1) * by_ ≤ (xs.length + 1) * 1000 := Nat.mul_le_mul_left _ hby
    omega
  · obtain ⟨a', c', rfl⟩ := row_shape hown'
    have key : ∀ (a1 : Option Addr) (l1 c1 : Nat) (ys : List Int), Reads S.k W a1 l1 c1 ys → Typed eP W a1 l1 → Reads S.k w' a1 l1 c1 ys ∧ Typed eP w' a1 l1 := by
      intro a1 l1 c1 ys q2 q3
      have hblk : ∀ b off, 0 < l1 → a1 = some ⟨b, off, none⟩ → w'.heap[b]? = W.heap[b]? := fun b off hl ha => by
        have hlt := q2.lies hl ha
        obtain ⟨C, fz, hC⟩ := q3 b off hl ha
        refine (hgrow.block b (Nat.lt_of_lt_of_le hlt hal.size) (fun he => ?_)).trans (hal.block b hlt)
        exact hne (rowG_type hrow b C eP fz he.symm hC).symm
      refine ⟨⟨q2.size, q2.room, q2.top, q2.wf, fun hl => ?_⟩, fun b off hl ha => ?_⟩
      · obtain ⟨b, off, ha, hlt, hc⟩ := q2.cell hl
        exact ⟨b, off, ha, Nat.lt_of_lt_of_le hlt (Nat.le_trans hal.size hgrow.size), fun i hi => (World.cell?_of_block (hblk b off hl ha)).trans (hc i hi)⟩
      · obtain ⟨C, fz, hC⟩ := q3 b off hl ha
        exact ⟨C, fz, by rw [hblk b off hl ha]; exact hC⟩
    refine h a' _ c' w' ⟨vs ++ S.cells x (.slice ua ul uc), by rw [List.length_append, List.length_singleton]; exact hown', by rw [List.length_append, List.length_append, hvl, S.len, List.length_singleton, Nat.add_mul, Nat.one_mul], fun i y hi => ?_⟩ hgrow
    rcases Nat.lt_trichotomy i xs.length with hl | hl | hl
    · rw [List.getElem?_append_left hl] at hi
      obtain ⟨a1, l1, c1, q1, q2, q3⟩ := hpc i y hi
      obtain ⟨k1, k2⟩ := key a1 l1 c1 _ q2 q3
      refine ⟨a1, l1, c1, fun j u hj => ?_, k1, k2⟩
      have := q1 j u hj
      have hlt := (List.getElem?_eq_some_iff.1 this).1
      rw [List.getElem?_append_left hlt]
      exact this
    · subst hl
      rw [List.getElem?_append_right (Nat.le_refl _), Nat.sub_self] at hi
      simp at hi
      subst hi
      obtain ⟨k1, k2⟩ := key ua ul uc _ hu htu
      refine ⟨ua, ul, uc, fun j u hj => ?_, k1, k2⟩
      rw [List.getElem?_append_right (by rw [hvl, Nat.mul_comm]; omega), hvl, Nat.mul_comm, Nat.add_sub_cancel_left]
      exact hj
    · rw [List.getElem?_eq_none (by simp; omega)] at hi
      cases hi
end
end Go.Proofs.YtefhddbbiheadaaGreat
